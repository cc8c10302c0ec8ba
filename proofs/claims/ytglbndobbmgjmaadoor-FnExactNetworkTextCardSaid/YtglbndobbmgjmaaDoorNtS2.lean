/- NetworkText: the model's. -/
import Derived.Test.YtglbndobbmgjmaaDoorNtM
import Derived.Test.YtglbndobbmgjmaaDoorTtS
import Derived.Test.YtglbndobbmgjmaaDoorCts
import Derived.Test.YtglbndobbmgjmaaDoorCode
import Derived.Deep.RegionWith
import Derived.Deep.RegionLaw
namespace Go.Proofs.YtglbndobbmgjmaaDoor
open Go.RowKit
set_option linter.unusedVariables false

theorem strN_zero (p : Int) (xss : List (List Int)) : strZ [48 + p] ++ (⟨#[58]⟩ : ByteArray) = strZ (ntxt p xss 0) := by
  have : (⟨#[58]⟩ : ByteArray) = strZ [58] := rfl
  rw [this, strZ_append]; rfl
/-- the four cells of each contact -/
theorem fourAt {w : World} {a : Option Addr} {ca : Nat} {xss : List (List Int)} (ha : xss = [] ∨ ∃ b off, a = some ⟨b, off, none⟩ ∧ ∀ i, i < xss.length → ∃ u, w.cell? ⟨b, off + i, none⟩ = some u ∧ Reads w u (xss.getD i []))
    (h4 : ∀ i, i < xss.length → (xss.getD i []).length = 4) : ∀ i, i < xss.length → ∃ b off cb co cc, a = some ⟨b, off, none⟩ ∧ w.cell? ⟨b, off + i, none⟩ = some (.slice (some ⟨cb, co, none⟩) 4 cc) ∧ ∀ j, j < 4 → w.cell? ⟨cb, co + j, none⟩ = some (.int .i64 ((xss.getD i []).getD j 0)) := fun i hi => by
  rcases ha with rfl | ⟨b, off, rfl, ha⟩
  · simp at hi
  · obtain ⟨u, hu, hr⟩ := ha i hi
    obtain ⟨cb, co, cc, rfl, h⟩ := hr.four (h4 i hi)
    exact ⟨b, off, cb, co, cc, rfl, hu, h⟩

theorem allCell {w : World} {a : Addr} {x : Value} (h : w.cell? a = some x) : ∀ o, (w.alloc o).cell? a = some x := fun o => by
  have hlt : a.block < w.heap.size := by
    rcases Nat.lt_or_ge a.block w.heap.size with h' | h'
    · exact h'
    · unfold World.cell? at h; rw [Array.getElem?_eq_none h'] at h; cases h
  exact (Below.cell (B := w.heap.size) ((Below.refl _ _).alloc (Nat.le_refl _) o) hlt).trans h
theorem cell8 (y : World) (x : Value) (t : TypeId) : (y.alloc (.cells #[x] t)).cell? ⟨y.heap.size, 0, none⟩ = some x := by
  rw [World.cell?_alloc_at _ _ _ _ rfl]; rfl
theorem cell8d (y : World) (x : Value) (t : TypeId) : ((y.alloc (.cells #[x] t)).drew).cell? ⟨y.heap.size, 0, none⟩ = some x := cell8 y x t
theorem cellD {w : World} {a : Addr} {v : Value} (h : w.cell? a = some v) : w.drew.cell? a = some v := h
theorem C2d {w : World} {b : Nat} {x y : Value} (h : C2 w b x y) : C2 w.drew b x y := h
theorem text_at (c : Int) (h0 : 0 ≤ c) (h1 : c < 256) (w : World) (g : Nat) (h : w.cell? ⟨g, 0, none⟩ = some (.int .u8 c)) :
    (convert 36 9 (.slice (some ⟨g, 0, none⟩) 1 1)).run Tryd.prog w = .ok (.string (strZ [c])) w := by
  have := run_convert_bytes_back (P := Tryd.prog) w 36 9 5 ⟨g, 0, none⟩ 1 [u8 c] Tryd.underlying36 Tryd.underlying5 Tryd.underlying9 (fun j hj => by
    have : j = 0 := by simpa using hj
    subst this
    rw [Addr.add_lit, h]
    simp [u8_nat h0 h1])
  exact this
/-- one contact more, sign by sign -/
theorem stepStr (p : Int) (xss : List (List Int)) (k : Nat) : ∃ S0 S1 S2 S3 : ByteArray, strZ (ntxt p xss k ++ commaZ k) = S0 ∧ S0 ++ strZ [48 + (xss.getD k []).getD 0 0] = S1 ∧ S1 ++ strZ [48 + (xss.getD k []).getD 1 0] = S2 ∧ S2 ++ strZ [(if (xss.getD k []).getD 3 0 = 1 then 65 else 97) + (xss.getD k []).getD 2 0] = S3 ∧ S3 = strZ (ntxt p xss (k + 1)) ∧
    S0.size ≤ 3 + 4 * k ∧ S1.size ≤ 4 + 4 * k ∧ S2.size ≤ 5 + 4 * k := by
  have h1 := ntxt_len p xss k
  have h2 := commaZ_len k
  refine ⟨_, _, _, _, rfl, rfl, rfl, rfl, ?_, ?_, ?_, ?_⟩
  · rw [strZ_append, strZ_append, strZ_append, ntxt_succ]
    simp [ctxt]
  · rw [strZ_size, List.length_append]; omega
  · rw [strZ_append, strZ_size, List.length_append, List.length_append, List.length_singleton]; omega
  · rw [strZ_append, strZ_append, strZ_size, List.length_append, List.length_append, List.length_append, List.length_singleton, List.length_singleton]; omega
theorem comma_yes (l : List Int) {k : Nat} (h : 0 < k) : strZ l ++ (⟨#[44]⟩ : ByteArray) = strZ (l ++ commaZ k) := by
  have e : (⟨#[44]⟩ : ByteArray) = strZ [44] := rfl
  have e2 : commaZ k = [44] := by unfold commaZ; rw [if_neg (by omega)]
  rw [e, strZ_append, e2]

set_option maxRecDepth 100000 in
set_option maxHeartbeats 4000000 in
theorem l02Text_any (p : Int) (v : Value) (xss : List (List Int)) (w : World) (ha : Reads2 w v xss) (hN : Net p xss) :
    Calls Tryd.prog 11 #[.agg #[.int .i64 p, v]] w fun e w' => e = .returned (.string (strZ (ntxt p xss xss.length))) ∧ Below w.heap.size w w' := by
  obtain ⟨a, ca, rfl, hm, ha'⟩ := ha
  have Ha := Lib.hid (fourAt (ca := ca) ha' (net_con hN).2.1)
  have HK := Lib.hid (fun i hi => net_at hN (i := i) hi)
  have p0 := hN.1
  have p1 := hN.2.1
  have hn12 : xss.length ≤ 12 := hN.2.2.1
  have HZ := strN_zero p xss
  have hs0 : (strZ [48 + p]).size = 1 := rfl
  have HC := Lib.hid (fun n w => l01Dec_any n w)
  have k0 := C2.here w (.int .i64 p) (.slice a xss.length ca) 28
  clear ha' hN
  generalize hnn : xss.length = n at *
  clear hnn
  go_enter Tryd.func11, Tryd.ntmps11
  go_wp2_with (go_at_call 21; (with_reducible refine (HC.out _ _ (by omega) (by omega)).mono ?_); rintro e w1 ⟨rfl, hb⟩; have hL := chain (B := w.heap.size) (a := w) (by go_grown) (Nat.le_refl _) hb; replace k0 := keepAt hb k0; clear hb)
  go_loopw [4, 3] (fun c s3 wr => ∃ k : Nat, k ≤ n ∧ c = .int .i64 (k : Int) ∧ s3 = .string (strZ (ntxt p xss k)) ∧ Below w.heap.size w wr ∧ C2 wr w.heap.size (.int .i64 p) (.slice a n ca))
    (fun c _ _ => n - (intOf c).toNat)
  case atStart => exact ⟨0, Nat.zero_le _, rfl, rfl, hL, k0⟩
  case round =>
    clear k0 hL HZ hs0
    obtain ⟨k, hk, rfl, rfl, hL, k0⟩ := hrel
    by_cases hlt : k < n
    · obtain ⟨b, off, cb, co, cc, rfl, hu, hcs⟩ := Ha.out k hlt
      have hca := cell_later hL hu
      have H0 := Lib.hid (hcs 0 (by omega))
      have H1 := Lib.hid (hcs 1 (by omega))
      have c0 := cell_later hL (hcs 0 (by omega))
      have c1 := cell_later hL (hcs 1 (by omega))
      have c2 := cell_later hL (hcs 2 (by omega))
      have c3 := cell_later hL (hcs 3 (by omega))
      simp only [Nat.add_zero] at c0 H0
      obtain ⟨⟨a0, a1⟩, ⟨b0, b1⟩, ⟨l0, l1⟩, ⟨d0, d1⟩⟩ := HK.out k hlt
      obtain ⟨S0, S1, S2, S3, e0, e1, e2, e3, e4, z0, z1, z2⟩ := stepStr p xss k
      have hlen := ntxt_len p xss k
      have hzT : (strZ (ntxt p xss k)).size ≤ 2 + 4 * k := by rw [strZ_size]; omega
      have hi1 : (k : Int) < (n : Int) := by omega
      have hi0 : (0 : Int) ≤ (k : Int) := by omega
      have HCM := Lib.hid (fun h => comma_yes (ntxt p xss k) (k := k) h)
      have HC0 := Lib.hid (show k = 0 → ntxt p xss k ++ commaZ k = ntxt p xss k from fun h => by subst h; simp [commaZ])
      have E4 := Lib.hid e4
      clear hcs hu e4 hlen
      generalize (xss.getD k []).getD 0 0 = x0 at *
      generalize (xss.getD k []).getD 1 0 = x1 at *
      generalize (xss.getD k []).getD 2 0 = x2 at *
      generalize (xss.getD k []).getD 3 0 = x3 at *
      have y0 : (strZ [48 + x0]).size = 1 := rfl
      have y1 : (strZ [48 + x1]).size = 1 := rfl
      have w0 : IntKind.u8.wrap (97 + x2) = 97 + x2 := IntWalk.u8_in _ (by omega)
      have w1 : IntKind.u8.wrap (65 + x2) = 65 + x2 := IntWalk.u8_in _ (by omega)
      have HD0 := Lib.hid (fun w => l01Dec_any x0 w a0 (by omega))
      have HD1 := Lib.hid (fun w => l01Dec_any x1 w b0 (by omega))
      by_cases hk0 : k = 0
      · have hT := HC0.out hk0
        rw [hT] at e0
        rw [e0] at hzT
        subst hk0
        rw [e0]
        simp only [Nat.add_zero] at hca
        clear HCM HC0 HK Ha HC hT e0
        by_cases hd : x3 = 1
        · skip
          rw [if_pos hd] at e3
          have y2 : (strZ [65 + x2]).size = 1 := rfl
          subst hd
          have HTg := text_at (65 + x2) (by omega) (by omega)
          have hcA : ¬ 9223372036854775807 < S0.size + 1 := by omega
          have hcB : ¬ 9223372036854775807 < S1.size + 1 := by omega
          have hcC : ¬ 9223372036854775807 < S2.size + 1 := by omega
          have HLx := Lib.hid hL
          have K0x := Lib.hid k0
          go_wp2_with fail
          have c0a := allCell c0 (.cells #[.int .u8 (65 + x2)] 5)
          have c1a := allCell c1 (.cells #[.int .u8 (65 + x2)] 5)
          have cga := cell8 wr (.int .u8 (65 + x2)) 5
          go_region_law ((go_simp; go_at_call 21; (first | (with_reducible refine (HD0.out _).mono ?_) | (with_reducible refine (HD1.out _).mono ?_)); rintro e wq ⟨rfl, hb⟩; have hLq := chain (B := w.heap.size) (a := w) (by first | exact hLq | exact hLq.drew | exact hLq.alloc hLq.size _ | exact (hLq.alloc hLq.size _).drew | exact hLq.drew.alloc hLq.size _ | exact hL | exact hL.drew | exact hL.alloc hL.size _ | exact (hL.alloc hL.size _).drew | exact hL.drew.alloc hL.size _) (Nat.le_refl _) hb; have k0q := keepAt hb (show C2 _ w.heap.size (.int .i64 p) (.slice (some ⟨b, off, none⟩) n ca) from by (repeat' (first | (with_reducible assumption) | (with_reducible refine C2d ?_) | (with_reducible refine C2.alloc ?_ _)))); have c0 := cell_later hLq H0.out; have c1 := cell_later hLq H1.out; have c0a := allCell c0 (.cells #[.int .u8 (65 + x2)] 5); have c1a := allCell c1 (.cells #[.int .u8 (65 + x2)] 5); have cga := cell8 wq (.int .u8 (65 + x2)) 5; (first | have hcg := cell_later hb (cell8d _ _ _) | have hcg := cell_later hb (cell8 _ _ _) | have hcg := cell_later hb hcg | have hcg := cell_later hb (cellD hcg) | skip); clear hb))
          all_goals (go_wp2_with fail)
          all_goals exact ⟨⟨1, by omega, rfl, by rw [E4.out], by first | exact hLq | exact hLq.alloc hLq.size _, by first | exact k0q | exact k0q.alloc _⟩, by first | (simp [intOf]; omega) | simp [intOf]⟩
        · skip
          rw [if_neg hd] at e3
          have y2 : (strZ [97 + x2]).size = 1 := rfl
          have hx0 : x3 = 0 := by omega
          subst hx0
          clear hd
          have HTg := text_at (97 + x2) (by omega) (by omega)
          have hcA : ¬ 9223372036854775807 < S0.size + 1 := by omega
          have hcB : ¬ 9223372036854775807 < S1.size + 1 := by omega
          have hcC : ¬ 9223372036854775807 < S2.size + 1 := by omega
          have HLx := Lib.hid hL
          have K0x := Lib.hid k0
          go_wp2_with fail
          have c0a := allCell c0 (.cells #[.int .u8 (97 + x2)] 5)
          have c1a := allCell c1 (.cells #[.int .u8 (97 + x2)] 5)
          have cga := cell8 wr (.int .u8 (97 + x2)) 5
          go_region_law ((go_simp; go_at_call 21; (first | (with_reducible refine (HD0.out _).mono ?_) | (with_reducible refine (HD1.out _).mono ?_)); rintro e wq ⟨rfl, hb⟩; have hLq := chain (B := w.heap.size) (a := w) (by first | exact hLq | exact hLq.drew | exact hLq.alloc hLq.size _ | exact (hLq.alloc hLq.size _).drew | exact hLq.drew.alloc hLq.size _ | exact hL | exact hL.drew | exact hL.alloc hL.size _ | exact (hL.alloc hL.size _).drew | exact hL.drew.alloc hL.size _) (Nat.le_refl _) hb; have k0q := keepAt hb (show C2 _ w.heap.size (.int .i64 p) (.slice (some ⟨b, off, none⟩) n ca) from by (repeat' (first | (with_reducible assumption) | (with_reducible refine C2d ?_) | (with_reducible refine C2.alloc ?_ _)))); have c0 := cell_later hLq H0.out; have c1 := cell_later hLq H1.out; have c0a := allCell c0 (.cells #[.int .u8 (97 + x2)] 5); have c1a := allCell c1 (.cells #[.int .u8 (97 + x2)] 5); have cga := cell8 wq (.int .u8 (97 + x2)) 5; (first | have hcg := cell_later hb (cell8d _ _ _) | have hcg := cell_later hb (cell8 _ _ _) | have hcg := cell_later hb hcg | have hcg := cell_later hb (cellD hcg) | skip); clear hb))
          all_goals (go_wp2_with fail)
          all_goals exact ⟨⟨1, by omega, rfl, by rw [E4.out], by first | exact hLq | exact hLq.alloc hLq.size _, by first | exact k0q | exact k0q.alloc _⟩, by first | (simp [intOf]; omega) | simp [intOf]⟩
      · have hT := HCM.out (by omega)
        rw [e0] at hT
        have hgt : (0 : Int) < (k : Int) := by omega
        have hcT : ¬ 9223372036854775807 < (strZ (ntxt p xss k)).size + 1 := by omega
        clear HCM HC0 HK Ha HC e0
        by_cases hd : x3 = 1
        · skip
          rw [if_pos hd] at e3
          have y2 : (strZ [65 + x2]).size = 1 := rfl
          subst hd
          have HTg := text_at (65 + x2) (by omega) (by omega)
          have hcA : ¬ 9223372036854775807 < S0.size + 1 := by omega
          have hcB : ¬ 9223372036854775807 < S1.size + 1 := by omega
          have hcC : ¬ 9223372036854775807 < S2.size + 1 := by omega
          have HLx := Lib.hid hL
          have K0x := Lib.hid k0
          go_wp2_with fail
          have c0a := allCell c0 (.cells #[.int .u8 (65 + x2)] 5)
          have c1a := allCell c1 (.cells #[.int .u8 (65 + x2)] 5)
          have cga := cell8 wr (.int .u8 (65 + x2)) 5
          go_region_law ((go_simp; go_at_call 21; (first | (with_reducible refine (HD0.out _).mono ?_) | (with_reducible refine (HD1.out _).mono ?_)); rintro e wq ⟨rfl, hb⟩; have hLq := chain (B := w.heap.size) (a := w) (by first | exact hLq | exact hLq.drew | exact hLq.alloc hLq.size _ | exact (hLq.alloc hLq.size _).drew | exact hLq.drew.alloc hLq.size _ | exact hL | exact hL.drew | exact hL.alloc hL.size _ | exact (hL.alloc hL.size _).drew | exact hL.drew.alloc hL.size _) (Nat.le_refl _) hb; have k0q := keepAt hb (show C2 _ w.heap.size (.int .i64 p) (.slice (some ⟨b, off, none⟩) n ca) from by (repeat' (first | (with_reducible assumption) | (with_reducible refine C2d ?_) | (with_reducible refine C2.alloc ?_ _)))); have c0 := cell_later hLq H0.out; have c1 := cell_later hLq H1.out; have c0a := allCell c0 (.cells #[.int .u8 (65 + x2)] 5); have c1a := allCell c1 (.cells #[.int .u8 (65 + x2)] 5); have cga := cell8 wq (.int .u8 (65 + x2)) 5; (first | have hcg := cell_later hb (cell8d _ _ _) | have hcg := cell_later hb (cell8 _ _ _) | have hcg := cell_later hb hcg | have hcg := cell_later hb (cellD hcg) | skip); clear hb))
          all_goals (go_wp2_with fail)
          all_goals exact ⟨⟨k + 1, by omega, by go_num, by rw [E4.out], by first | exact hLq | exact hLq.alloc hLq.size _, by first | exact k0q | exact k0q.alloc _⟩, by first | (simp [intOf]; omega) | simp [intOf]⟩
        · skip
          rw [if_neg hd] at e3
          have y2 : (strZ [97 + x2]).size = 1 := rfl
          have hx0 : x3 = 0 := by omega
          subst hx0
          clear hd
          have HTg := text_at (97 + x2) (by omega) (by omega)
          have hcA : ¬ 9223372036854775807 < S0.size + 1 := by omega
          have hcB : ¬ 9223372036854775807 < S1.size + 1 := by omega
          have hcC : ¬ 9223372036854775807 < S2.size + 1 := by omega
          have HLx := Lib.hid hL
          have K0x := Lib.hid k0
          go_wp2_with fail
          have c0a := allCell c0 (.cells #[.int .u8 (97 + x2)] 5)
          have c1a := allCell c1 (.cells #[.int .u8 (97 + x2)] 5)
          have cga := cell8 wr (.int .u8 (97 + x2)) 5
          go_region_law ((go_simp; go_at_call 21; (first | (with_reducible refine (HD0.out _).mono ?_) | (with_reducible refine (HD1.out _).mono ?_)); rintro e wq ⟨rfl, hb⟩; have hLq := chain (B := w.heap.size) (a := w) (by first | exact hLq | exact hLq.drew | exact hLq.alloc hLq.size _ | exact (hLq.alloc hLq.size _).drew | exact hLq.drew.alloc hLq.size _ | exact hL | exact hL.drew | exact hL.alloc hL.size _ | exact (hL.alloc hL.size _).drew | exact hL.drew.alloc hL.size _) (Nat.le_refl _) hb; have k0q := keepAt hb (show C2 _ w.heap.size (.int .i64 p) (.slice (some ⟨b, off, none⟩) n ca) from by (repeat' (first | (with_reducible assumption) | (with_reducible refine C2d ?_) | (with_reducible refine C2.alloc ?_ _)))); have c0 := cell_later hLq H0.out; have c1 := cell_later hLq H1.out; have c0a := allCell c0 (.cells #[.int .u8 (97 + x2)] 5); have c1a := allCell c1 (.cells #[.int .u8 (97 + x2)] 5); have cga := cell8 wq (.int .u8 (97 + x2)) 5; (first | have hcg := cell_later hb (cell8d _ _ _) | have hcg := cell_later hb (cell8 _ _ _) | have hcg := cell_later hb hcg | have hcg := cell_later hb (cellD hcg) | skip); clear hb))
          all_goals (go_wp2_with fail)
          all_goals exact ⟨⟨k + 1, by omega, by go_num, by rw [E4.out], by first | exact hLq | exact hLq.alloc hLq.size _, by first | exact k0q | exact k0q.alloc _⟩, by first | (simp [intOf]; omega) | simp [intOf]⟩
    · have e : k = n := by omega
      subst e
      have hkn : ¬ (k : Int) < (k : Int) := by omega
      go_wp2_with fail
      go_ret
      exact ⟨rfl, hL⟩

end Go.Proofs.YtglbndobbmgjmaaDoor
