/- NetworkText: the program's. -/
import Derived.Test.YtglbndobbmgjmaaDoorNtM
import Derived.Test.YtglbndobbmgjmaaDoorTtP
import Derived.Test.YtglbndobbmgjmaaDoorNetB
import Derived.Test.YtglbndobbmgjmaaDoorCts
import Derived.Deep.RegionWith
import Derived.Deep.RegionLaw
import Derived.Deep.AppendLies
namespace Go.Proofs.YtglbndobbmgjmaaDoor
open Go.RowKit
set_option linter.unusedVariables false

theorem OwnsU.three {w : World} {base : Nat} {v : Value} {l : List Int} {a b c : Int} (h : w.ownsRow base 5 1 v (l.length + 3) (l.map (Value.int .u8) ++ [.int .u8 a, .int .u8 b, .int .u8 c])) : OwnsU w base v (l ++ [a, b, c]) := by
  unfold OwnsU
  rw [List.length_append, List.map_append]
  exact h
/-- the contacts as arrays, in a block that the row is not in -/
def CtA (w : World) (u : Value) (ua : Option Addr) (n : Nat) (xss : List (List Int)) : Prop :=
  ∀ i, i < n → ∃ b, ua = some ⟨b, 0, none⟩ ∧ some b ≠ u.ownBlock ∧ b < w.heap.size ∧ ∀ j, j < 4 → w.cell? ⟨b, i * 4 + j, none⟩ = some (.int .i64 ((xss.getD i []).getD j 0))
theorem CtA.later {w w' : World} {u : Value} {ua : Option Addr} {n : Nat} {xss : List (List Int)} (h : CtA w u ua n xss) (hb : Below w.heap.size w w') : CtA w' u ua n xss := fun i hi => by
  obtain ⟨b, e, hne, hlt, hc⟩ := h i hi
  exact ⟨b, e, hne, Nat.lt_of_lt_of_le hlt hb.size, fun j hj => cell_later hb (hc j hj)⟩
theorem CtA.grown {w w' : World} {u u' : Value} {ua : Option Addr} {n g : Nat} {xss : List (List Int)} (h : CtA w u ua n xss) (hg : w.grownBy w' u.ownBlock) (hs : w.heap.size ≤ w'.heap.size) (hu : u'.ownBlock = some g) (hat : u.ownBlock = some g ∨ g = w.heap.size) : CtA w' u' ua n xss := fun i hi => by
  obtain ⟨b, e, hne, hlt, hc⟩ := h i hi
  refine ⟨b, e, ?_, Nat.lt_of_lt_of_le hlt hs, fun j hj => World.grownBy.cell hg (hc j hj) hne⟩
  rw [hu]
  intro hbg
  cases hbg
  rcases hat with hat | hat
  · exact hne hat.symm
  · omega
theorem CtA.of {w : World} {base g cap l uc : Nat} {ua : Option Addr} {xss : List (List Int)} (hlo : ∀ k, (Value.slice ua l uc).ownBlock = some k → base ≤ k ∧ k < w.heap.size)
    (hce : xss = [] ∨ ∃ b, ua = some ⟨b, 0, none⟩ ∧ ∀ i, i < xss.length → ∀ j, j < 4 → w.cell? ⟨b, i * 4 + j, none⟩ = some (.int .i64 ((xss.getD i []).getD j 0))) (hg : g < base) : CtA w (.slice (some ⟨g, 0, none⟩) 2 cap) ua xss.length xss := fun i hi => by
  rcases hce with hce | ⟨b, hub, ha⟩
  · rw [hce] at hi; simp at hi
  · subst hub
    have h2 := hlo b rfl
    refine ⟨b, rfl, ?_, h2.2, ha i hi⟩
    intro e
    have e2 : b = g := Option.some.inj e
    omega
theorem below_alloc (w : World) (o : Obj) : Below w.heap.size w (w.alloc o) := (Below.refl _ _).alloc (Nat.le_refl _) o

set_option maxRecDepth 100000 in
set_option maxHeartbeats 1000000 in
theorem letterOf_any (i k : Int) (w : World) (h0 : 0 ≤ i) (h5 : i < 5) (k0 : 0 ≤ k) (k2 : k < 2) :
    Calls Tryd.prog 16 #[.int .i64 i, .int .i64 k] w fun e w' => e = .returned (.int .u8 ((if k = 1 then 65 else 97) + i)) ∧ Below w.heap.size w w' := by
  have hk : k = 0 ∨ k = 1 := by omega
  have w0 : IntKind.u8.wrap i = i := IntWalk.u8_in _ (by omega)
  have w1 : IntKind.u8.wrap (97 + i) = 97 + i := IntWalk.u8_in _ (by omega)
  have w2 : IntKind.u8.wrap (65 + i) = 65 + i := IntWalk.u8_in _ (by omega)
  rcases hk with rfl | rfl
  · go_enter Tryd.func16, Tryd.ntmps16
    go_wp2_with fail
    go_ret
    exact ⟨by simp; show ((97 : Int) + i) % 256 = 97 + i; omega, by go_grown⟩
  · go_enter Tryd.func16, Tryd.ntmps16
    go_wp2_with fail
    go_ret
    exact ⟨by simp; show ((65 : Int) + i) % 256 = 65 + i; omega, by go_grown⟩

theorem ntStep (p : Int) (xss : List (List Int)) (k : Nat) : ntxt p xss (k + 1) = (ntxt p xss k ++ commaZ k) ++ [48 + (xss.getD k []).getD 0 0, 48 + (xss.getD k []).getD 1 0, (if (xss.getD k []).getD 3 0 = 1 then 65 else 97) + (xss.getD k []).getD 2 0] := rfl

set_option maxRecDepth 100000 in
set_option maxHeartbeats 4000000 in
theorem iNetworkText_any (p : Int) (v : Value) (xss : List (List Int)) (w : World) (ha : Reads2 w v xss) :
    Calls Tryd.prog 7 #[.agg #[.int .i64 p, v]] w fun e w' => e = .returned (.tuple #[.string (resNetworkText_0 p xss), .int .i64 (resNetworkText_1 p xss)]) ∧ Below w.heap.size w w' := by
  have HR := Lib.hid (ha.keep ((Below.refl _ _).alloc (Nat.le_refl _) (.cells #[.int .i64 p, v] 28)))
  have HA0 := Lib.hid ha
  obtain ⟨a, ca, rfl, hm, _⟩ := ha
  have k0 := C2.here w (.int .i64 p) (.slice a xss.length ca) 28
  by_cases hN : Net p xss
  · have HN : Hid (decide (Net p xss) = true) := decide_eq_true hN
    have hr := Lib.hid (resNT_yes hN)
    have HC := Lib.hid (net_con hN)
    have HB := Lib.hid (ntxt_bd hN)
    have HK := Lib.hid (fun i hi => net_at hN (i := i) hi)
    have p1 := hN.1
    have p8 := hN.2.1
    have hn12 : xss.length ≤ 12 := hN.2.2.1
    clear hN
    obtain ⟨i0, hi, hz0, hz1, hz2⟩ := info_parts infoU8
    have HA := Lib.hid (fun w => strAppendInt_any p w (by omega) (by omega))
    go_enter Tryd.func7, Tryd.ntmps7
    go_wp2_with (first | (go_at_call 13; (with_reducible refine (isNetwork_b _ _ xss _ HR.out HN.out).mono ?_); rintro e wn ⟨rfl, hb⟩; have hL := chain (B := w.heap.size) (a := w) (by go_grown) (Nat.le_refl _) hb; replace k0 := keepAt hb k0; have hkz := k0.2.2.2.2; clear hb) | (go_at_call 14; (with_reducible refine (HA.out _).mono ?_); rintro e w1 ⟨u, rfl, hown, hb⟩; have oo : OwnsU w1 (w.heap.size + 1) u [48 + p] := hown.base (by omega); have hL := chain (B := w.heap.size) (a := w) hL (Nat.le_refl _) hb; replace k0 := keepAt hb k0; have hkz := k0.2.2.2.2; clear hb hown) | (at_builtin; refine wpList_append_lies _ rfl _ _ 36 rfl (w.heap.size + 1) 5 i0 (.int .u8 0) 1 1 Tryd.underlying36 hi hz0 hz1 hz2 rfl (by decide) _ _ _ rfl (World.ownsRow.alloc oo _) ⟨w1.heap.size, 0, none⟩ 1 1 [.int .u8 58] rfl rfl (cell_one_new _ _ _) (by simp [Value.oneCell']) (by decide) (by show 1 + 1 ≤ maxLen; decide) (by show (1 + 1) * 1 ≤ 140737488355328; decide) (by simp; omega) (w1.heap.size + 1) (by simp) ?_; intro g2 cap2 w2 hown' hgrow hat hlt2; have hfrom := oo.rowsFrom; have hgr : Below w.heap.size w w2 := (hL.alloc (by omega) _).grown hgrow (by simp; omega) (fun k e => by have := hfrom k e; omega); have k2 := (k0.alloc (.cells #[.int .u8 58] 5)).grown hgrow (fun e => by have := hfrom _ e; omega); have oo2 : OwnsU w2 (w.heap.size + 1) (.slice (some ⟨g2, 0, none⟩) 2 cap2) (ntxt p xss 0) := OwnsU.snoc hown'; clear k0 oo hown' hgrow hat hfrom hL hkz) | (go_at_call 15; (with_reducible refine (contactsOf_any p _ xss _ (HA0.out.keep hgr) HC.out.1 HC.out.2.1).mono ?_); rintro e w3 ⟨u3, rfl, oc, hb⟩; have hL := chain (B := w.heap.size) (a := w) hgr (Nat.le_refl _) hb; have oo3 := oo2.keep hb; have hlo := World.ownsRow.lt oc; obtain ⟨ua, uc, rfl, _, hce⟩ := oc.reads; have HCN := Lib.hid (CtA.of (g := g2) (cap := cap2) hlo hce hlt2); clear hb oc hlo hce oo2 hgr k2))
    go_wp2_with fail
    have hL0 := Lib.hid (show Below w.heap.size w w3 from hL)
    have O0 := Lib.hid (show OwnsU w3 (w.heap.size + 1) (.slice (some ⟨g2, 0, none⟩) 2 cap2) (ntxt p xss 0) from oo3)
    clear hL oo3
    have Hn := Lib.hid hn12
    generalize hnn : xss.length = n at *
    go_loopw [18, 4] (fun c u wr => ∃ k : Nat, k ≤ n ∧ c = .int .i64 (k : Int) ∧ OwnsU wr (w.heap.size + 1) u (ntxt p xss k) ∧ Below w.heap.size w wr ∧ CtA wr u ua n xss)
      (fun c _ _ => n - (intOf c).toNat)
    case atStart => exact ⟨0, Nat.zero_le _, rfl, O0.out, hL0.out, HCN.out⟩
    case round =>
      clear hnn HA HR
      obtain ⟨k, hk, rfl, oo, hL, hcn⟩ := hrel
      have hLl : (ntxt p xss k ++ commaZ k).length ≤ 3 + 4 * k := by have := ntxt_len p xss k; have := commaZ_len k; rw [List.length_append]; omega
      have hl2 := ntxt_len p xss k
      obtain ⟨gu, cu, rfl⟩ := oo.form (by omega)
      by_cases hlt : k < n
      · have HCN2 := Lib.hid hcn
        obtain ⟨b, rfl, hne, hblt, hcs⟩ := hcn k hlt
        have c0 := hcs 0 (by omega)
        have c1 := hcs 1 (by omega)
        have c2 := hcs 2 (by omega)
        have c3 := hcs 3 (by omega)
        simp only [Nat.add_zero] at c0
        obtain ⟨⟨a0, a1⟩, ⟨b0, b1⟩, ⟨l0, l1⟩, ⟨d0, d1⟩⟩ := HK.out k hlt
        have hi1 : (k : Int) < (n : Int) := by omega
        have hi0 : (0 : Int) ≤ (k : Int) := by omega
        have HS := Lib.hid (ntStep p xss k)
        have HT := Lib.hid (fun w => letterOf_any ((xss.getD k []).getD 2 0) ((xss.getD k []).getD 3 0) w l0 l1 d0 d1)
        have hy : 0 ≤ (if (xss.getD k []).getD 3 0 = 1 then 65 else 97) + (xss.getD k []).getD 2 0 ∧ (if (xss.getD k []).getD 3 0 = 1 then 65 else 97) + (xss.getD k []).getD 2 0 < 256 := by split <;> omega
        have oo1 := oo
        have hzw := hL.size
        have hgu := (World.ownsRow.lt oo gu rfl).2
        have hfr0 := OwnsU.rowsFrom oo
        generalize (if (xss.getD k []).getD 3 0 = 1 then (65 : Int) else 97) + (xss.getD k []).getD 2 0 = y at *
        generalize (xss.getD k []).getD 0 0 = x0 at *
        generalize (xss.getD k []).getD 1 0 = x1 at *
        generalize (xss.getD k []).getD 2 0 = x2 at *
        generalize (xss.getD k []).getD 3 0 = x3 at *
        have W0 : IntKind.u8.wrap x0 = x0 := IntWalk.u8_in _ (by omega)
        have W1 : IntKind.u8.wrap x1 = x1 := IntWalk.u8_in _ (by omega)
        have W2 : IntKind.u8.wrap (48 + x0) = 48 + x0 := IntWalk.u8_in _ (by omega)
        have W3 : IntKind.u8.wrap (48 + x1) = 48 + x1 := IntWalk.u8_in _ (by omega)
        have z0 : (wr.alloc (.cells #[.int .i64 x0, .int .i64 x1, .int .i64 x2, .int .i64 x3] 41)).cell? ⟨wr.heap.size, 0, none⟩ = some (.int .i64 x0) := by rw [World.cell?_alloc_at _ _ _ _ rfl]; rfl
        have z1 : (wr.alloc (.cells #[.int .i64 x0, .int .i64 x1, .int .i64 x2, .int .i64 x3] 41)).cell? ⟨wr.heap.size, 1, none⟩ = some (.int .i64 x1) := by rw [World.cell?_alloc_at _ _ _ _ rfl]; rfl
        have z2 : (wr.alloc (.cells #[.int .i64 x0, .int .i64 x1, .int .i64 x2, .int .i64 x3] 41)).cell? ⟨wr.heap.size, 2, none⟩ = some (.int .i64 x2) := by rw [World.cell?_alloc_at _ _ _ _ rfl]; rfl
        have z3 : (wr.alloc (.cells #[.int .i64 x0, .int .i64 x1, .int .i64 x2, .int .i64 x3] 41)).cell? ⟨wr.heap.size, 3, none⟩ = some (.int .i64 x3) := by rw [World.cell?_alloc_at _ _ _ _ rfl]; rfl
        have hLz := hL.alloc hL.size (.cells #[.int .i64 x0, .int .i64 x1, .int .i64 x2, .int .i64 x3] 41)
        have oz := ownsUKeepAt (below_alloc wr (.cells #[.int .i64 x0, .int .i64 x1, .int .i64 x2, .int .i64 x3] 41)) (Nat.le_refl _) oo
        have HCZ := Lib.hid (CtA.later HCN2.out (below_alloc wr (.cells #[.int .i64 x0, .int .i64 x1, .int .i64 x2, .int .i64 x3] 41)))
        by_cases hk0 : k = 0
        · have hng : ¬ (0 : Int) < (k : Int) := by omega
          have hT : ntxt p xss k ++ commaZ k = ntxt p xss k := by subst hk0; simp [commaZ]
          rw [hT] at HS hLl
          clear hT oo oo1 hcs hne hk0
          go_wp2_with fail
          have HZS : Hid (w.heap.size + 1 ≤ (wr.alloc (.cells #[.int .i64 x0, .int .i64 x1, .int .i64 x2, .int .i64 x3] 41)).heap.size) := by unfold Hid; simp; omega
          have Z := Lib.hid (⟨z0, z1, z2, z3⟩ : _ ∧ _ ∧ _ ∧ _)
          have LZ := Lib.hid hLz
          have CZ := HCZ
          generalize ntxt p xss k = LX at *
          have OZ := Lib.hid oz
          clear hLz oz HCZ HCN2 hL
          generalize hwz : wr.alloc (.cells #[.int .i64 x0, .int .i64 x1, .int .i64 x2, .int .i64 x3] 41) = wz at *
          clear hwz
          generalize wr.heap.size = gb at *
          have hgz : gu = gu := rfl
          generalize hgg : gu = gz at *
          generalize hcc : cu = cz at *
          go_region_law (first | (refine step_append_lies _ (by rfl) _ _ 36 (by rfl) (w.heap.size + 1) 5 i0 (.int .u8 0) 1 1 Tryd.underlying36 hi hz0 hz1 hz2 (by rfl) (by decide) (.slice (some ⟨gz, 0, none⟩) LX.length cz) LX.length (LX.map (Value.int .u8)) (by rfl) (by first | exact World.ownsRow.alloc O5.out _ | exact World.ownsRow.drew (World.ownsRow.alloc O5.out _)) ⟨w5.heap.size, 0, none⟩ 3 3 [.int .u8 (48 + x0), .int .u8 (48 + x1), .int .u8 y] (by rfl) (by rfl) (World.news_of_block (cs := #[.int .u8 (48 + x0), .int .u8 (48 + x1), .int .u8 y]) (t := 5) (fr := (0, 0)) (heap_alloc_new w5 _)) (by simp [Value.oneCell']) (by decide) (by unfold maxLen; omega) (by omega) (by have := H5S.out; simp; omega) (w5.heap.size + 1) (by simp) ?_; intro g9 cap9 w9 hown hgrow hat hlt9; have HOWN := Lib.hid hown; have HGR := Lib.hid hgrow; have HAT := Lib.hid hat; clear hown hgrow hat) | (go_simp; go_at_call 16; (with_reducible refine (HT.out _).mono ?_); rintro e w5 ⟨rfl, hb5⟩; have hx5 := chain (B := wz.heap.size) (a := wz) (by go_grown) (Nat.le_refl _) hb5; have z0 := cell_later hx5 Z.out.1; have z1 := cell_later hx5 Z.out.2.1; have z2 := cell_later hx5 Z.out.2.2.1; have z3 := cell_later hx5 Z.out.2.2.2; have HX5 := Lib.hid hx5; have O5 := Lib.hid (OZ.out.keep hx5); have H5S := Lib.hid (Nat.le_trans HZS.out hx5.size); clear hb5 hx5))
          all_goals (go_wp2_with fail)
          all_goals (have HL5 := chain (B := w.heap.size) (a := w) LZ.out (Nat.le_refl _) HX5.out; have hfrom := OwnsU.rowsFrom O5.out; exact ⟨⟨k + 1, by omega, by go_num, by rw [HS.out]; exact OwnsU.three HOWN.out, (HL5.alloc HL5.size _).grown HGR.out (by have := HL5.size; simp; omega) (fun q e => by have := hfrom q e; omega), CtA.grown (CtA.later (CtA.later CZ.out HX5.out) (below_alloc _ _)) HGR.out HGR.out.size rfl (by simpa using HAT.out)⟩, by simp [intOf]; omega⟩)
        · have hgt : (0 : Int) < (k : Int) := by omega
          have hT : commaZ k = [44] := by unfold commaZ; rw [if_neg hk0]
          rw [hT] at HS hLl
          clear hT oo oo1 hcs hne
          go_wp2_with (at_builtin; refine wpList_append_lies _ rfl _ _ 36 rfl (w.heap.size + 1) 5 i0 (.int .u8 0) 1 1 Tryd.underlying36 hi hz0 hz1 hz2 rfl (by decide) (.slice (some ⟨gu, 0, none⟩) (ntxt p xss k).length cu) (ntxt p xss k).length ((ntxt p xss k).map (Value.int .u8)) (by rfl) (World.ownsRow.alloc oz _) ⟨wr.heap.size + 1, 0, none⟩ 1 1 [.int .u8 44] rfl rfl (by have := cell_one_new (wr.alloc (.cells #[.int .i64 x0, .int .i64 x1, .int .i64 x2, .int .i64 x3] 41)) (.int .u8 44) 5; simpa using this) (by simp [Value.oneCell']) (by decide) (by unfold maxLen; omega) (by omega) (by simp; omega) (wr.heap.size + 1 + 1) (by simp) ?_; intro gz cz wz hown hgrow hat hltz)
          have hng : some wr.heap.size ≠ some gu := by intro e; have := Option.some.inj e; omega
          have Z0 := World.grownBy.cell hgrow (cell_later (below_alloc _ _) z0) hng
          have Z1 := World.grownBy.cell hgrow (cell_later (below_alloc _ _) z1) hng
          have Z2 := World.grownBy.cell hgrow (cell_later (below_alloc _ _) z2) hng
          have Z3 := World.grownBy.cell hgrow (cell_later (below_alloc _ _) z3) hng
          have hLw : Below w.heap.size w wz := (hLz.alloc hLz.size _).grown hgrow (by simp; omega) (fun q e => by have := hfr0 q e; omega)
          have CZ := Lib.hid (CtA.grown (u' := .slice (some ⟨gz, 0, none⟩) ((ntxt p xss k).length + 1) cz) (CtA.later HCZ.out (below_alloc _ _)) hgrow hgrow.size rfl (by simpa using hat))
          have OZ := Lib.hid (OwnsU.snoc hown)
          have Z := Lib.hid (⟨Z0, Z1, Z2, Z3⟩ : _ ∧ _ ∧ _ ∧ _)
          have HZS : Hid (w.heap.size + 1 ≤ wz.heap.size) := by unfold Hid; have := hgrow.size; simp at this; omega
          have LZ := Lib.hid hLw
          clear z0 z1 z2 z3
          have z0 := Z0
          have z1 := Z1
          have z2 := Z2
          have z3 := Z3
          clear Z0 Z1 Z2 Z3 hLw hLz oz HCZ HCN2 hgrow hat hown hL
          have hsl : (ntxt p xss k).length + 1 = (ntxt p xss k ++ [44]).length := by simp
          rw [hsl] at CZ OZ ⊢
          clear hsl
          generalize ntxt p xss k ++ [44] = LX at *
          generalize wr.heap.size = gb at *
          go_region_law (first | (refine step_append_lies _ (by rfl) _ _ 36 (by rfl) (w.heap.size + 1) 5 i0 (.int .u8 0) 1 1 Tryd.underlying36 hi hz0 hz1 hz2 (by rfl) (by decide) (.slice (some ⟨gz, 0, none⟩) LX.length cz) LX.length (LX.map (Value.int .u8)) (by rfl) (by first | exact World.ownsRow.alloc O5.out _ | exact World.ownsRow.drew (World.ownsRow.alloc O5.out _)) ⟨w5.heap.size, 0, none⟩ 3 3 [.int .u8 (48 + x0), .int .u8 (48 + x1), .int .u8 y] (by rfl) (by rfl) (World.news_of_block (cs := #[.int .u8 (48 + x0), .int .u8 (48 + x1), .int .u8 y]) (t := 5) (fr := (0, 0)) (heap_alloc_new w5 _)) (by simp [Value.oneCell']) (by decide) (by unfold maxLen; omega) (by omega) (by have := H5S.out; simp; omega) (w5.heap.size + 1) (by simp) ?_; intro g9 cap9 w9 hown hgrow hat hlt9; have HOWN := Lib.hid hown; have HGR := Lib.hid hgrow; have HAT := Lib.hid hat; clear hown hgrow hat) | (go_simp; go_at_call 16; (with_reducible refine (HT.out _).mono ?_); rintro e w5 ⟨rfl, hb5⟩; have hx5 := chain (B := wz.heap.size) (a := wz) (by go_grown) (Nat.le_refl _) hb5; have z0 := cell_later hx5 Z.out.1; have z1 := cell_later hx5 Z.out.2.1; have z2 := cell_later hx5 Z.out.2.2.1; have z3 := cell_later hx5 Z.out.2.2.2; have HX5 := Lib.hid hx5; have O5 := Lib.hid (OZ.out.keep hx5); have H5S := Lib.hid (Nat.le_trans HZS.out hx5.size); clear hb5 hx5))
          all_goals (go_wp2_with fail)
          all_goals (have HL5 := chain (B := w.heap.size) (a := w) LZ.out (Nat.le_refl _) HX5.out; have hfrom := OwnsU.rowsFrom O5.out; exact ⟨⟨k + 1, by omega, by go_num, by rw [HS.out]; exact OwnsU.three HOWN.out, (HL5.alloc HL5.size _).grown HGR.out (by have := HL5.size; simp; omega) (fun q e => by have := hfrom q e; omega), CtA.grown (CtA.later (CtA.later CZ.out HX5.out) (below_alloc _ _)) HGR.out HGR.out.size rfl (by simpa using HAT.out)⟩, by simp [intOf]; omega⟩)
      · have e : k = n := by omega
        subst e
        have hkn : ¬ (k : Int) < (k : Int) := by omega
        have hT := OwnsU.text (P := Tryd.prog) oo (fun x hx => HB.out k hk x hx) 36 9 5 Tryd.underlying36 Tryd.underlying5 Tryd.underlying9
        clear oo
        go_wp2_with fail
        refine bodyPost_ret (v := .tuple #[.string (strZ (ntxt p xss k)), .int .i64 0]) (by simp [results, Tryd.results7, go_sem, *]) rfl ?_
        exact ⟨by rw [hr.out.1, hr.out.2], by go_grown⟩
  · have hr := Lib.hid (resNT_no hN)
    have HN : Hid (decide (Net p xss) = false) := decide_eq_false hN
    clear hN
    go_enter Tryd.func7, Tryd.ntmps7
    go_wp2_with (go_at_call 13; (with_reducible refine (isNetwork_b _ _ xss _ HR.out HN.out).mono ?_); rintro e w' ⟨rfl, hb⟩; have hL := chain (B := w.heap.size) (a := w) (by go_grown) (Nat.le_refl _) hb; clear hb)
    refine bodyPost_ret (v := .tuple #[.string ⟨#[]⟩, .int .i64 1]) (by simp [results, Tryd.results7, go_sem, *]) rfl ?_
    exact ⟨by rw [hr.out.1, hr.out.2], by go_grown⟩

end Go.Proofs.YtglbndobbmgjmaaDoor
