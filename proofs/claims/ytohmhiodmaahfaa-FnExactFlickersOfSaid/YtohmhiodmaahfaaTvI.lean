/- TableOfFormula: the program's. -/
import Derived.Test.YtohmhiodmaahfaaTvM
import Derived.Test.YtohmhiodmaahfaaLtr
import Derived.Test.YtohmhiodmaahfaaFv
import Derived.Deep.RegionWith
namespace Go.Proofs.Ytohmhiodmaahfaa
open Go.RowKit
set_option linter.unusedVariables false

theorem farIn_any (n x : Int) (bi : Nat) (w : World) (h0 : 0 ≤ x) (h1 : x < 256) (hc : w.cell? ⟨bi, 0, none⟩ = some (.int .i64 n)) :
    Calls Try.prog 55 #[.int .u8 x, .pointer (some ⟨bi, 0, none⟩)] w fun e w' => e = .returned (.bool (farIn n x)) ∧ Below w.heap.size w w' := by
  obtain ⟨i, hi⟩ : ∃ i, inpC x = i := ⟨_, rfl⟩
  obtain ⟨k, hk⟩ : ∃ k, kndC x = k := ⟨_, rfl⟩
  have HI := Lib.hid (fun w => inputAndKind_any x w h0 h1 hi hk)
  have HF : Hid (farIn n x = decide (n ≤ i)) := by unfold Hid farIn; rw [hi]
  clear hi hk
  by_cases h : n ≤ i
  · have hd : decide (n ≤ i) = true := decide_eq_true h
    have HF2 : Hid (farIn n x = true) := HF.out.trans hd
    go_enter Try.func55, Try.ntmps55
    go_wp2_with (go_at_call 56; (with_reducible refine (HI.out _).mono ?_); rintro e w' ⟨rfl, rfl⟩)
    go_ret
    exact ⟨by rw [HF2.out]; rfl, Below.refl _ _⟩
  · have hd : decide (n ≤ i) = false := decide_eq_false h
    have HF2 : Hid (farIn n x = false) := HF.out.trans hd
    go_enter Try.func55, Try.ntmps55
    go_wp2_with (go_at_call 56; (with_reducible refine (HI.out _).mono ?_); rintro e w' ⟨rfl, rfl⟩)
    go_ret
    exact ⟨by rw [HF2.out]; rfl, Below.refl _ _⟩

set_option maxRecDepth 100000 in
set_option maxHeartbeats 1000000 in
theorem hasInputsBelow_any (s : ByteArray) (n : Int) (w : World) (hs : s.size ≤ 1048576) {b : Bool} (hb : decide (∃ i, i < (lets s s.size).length ∧ farIn n ((lets s s.size).getD i 0) = true) = b) :
    Calls Try.prog 35 #[.string s, .int .i64 n] w fun e w' => e = .returned (.bool (!b)) ∧ Below w.heap.size w w' := by
  have HW := Lib.hid (fun w => lettersOf_any s w hs)
  have HB := Lib.hid hb
  have hln : (lets s s.size).length ≤ 1048576 := by have := keptTo_len noLet (byteAt s) s.size; unfold lets; omega
  have HBD : Hid (∀ i, 0 ≤ (lets s s.size).getD i 0 ∧ (lets s s.size).getD i 0 < 256) := fun i => by
    rw [List.getD_eq_getElem?_getD]
    by_cases h : i < (lets s s.size).length
    · rw [List.getElem?_eq_getElem h]
      have := letC_bd (lets_byte s s.size _ (List.getElem_mem h))
      simp only [Option.getD_some]; omega
    · rw [List.getElem?_eq_none (by omega)]; simp
  have hc0 : (w.alloc (.cells #[.int .i64 n] 2)).cell? ⟨w.heap.size, 0, none⟩ = some (.int .i64 n) := by rw [World.cell?_alloc_at _ _ _ _ rfl]; rfl
  clear hb
  generalize lets s s.size = L at *
  go_enter Try.func35, Try.ntmps35
  go_wp2_with fail
  refine (HW.out _).mono ?_
  rintro e w1 ⟨cap, rfl, hB1, hL1⟩
  have hz := hL1.size
  rw [World.size_alloc] at hz hB1
  have hc1 := cell_later hL1 hc0
  have hP : PredB 55 #[.pointer (some ⟨w.heap.size, 0, none⟩)] (farIn n) w1.heap.size w1 := ⟨fun x wx h0 h1 hbl _ => farIn_any n x w.heap.size wx h0 h1 (cell_later hbl hc1), enters_of Try.func55 (by kernel_rfl) rfl⟩
  have HC := Lib.hid (containsFuncB_any (w.heap.size + 1) L.length cap (fun j => L.getD j 0) 55 _ (farIn n) w1.heap.size w1 hln hB1 HBD.out (Nat.le_refl _) hP HB.out)
  have hL : Below w.heap.size w w1 := ((Below.refl w.heap.size w).alloc (Nat.le_refl _) (.cells #[.int .i64 n] 2)).trans (hL1.mono (by simp))
  clear hP hB1 hc1 hc0 hL1 HW HBD
  simp only [World.size_alloc]
  go_wp2_with (go_at_call 53; (with_reducible refine HC.out.mono ?_); rintro e w2 ⟨rfl, hb⟩; have hL := chain hL (by omega) hb)
  go_ret
  exact ⟨rfl, hL⟩

theorem inputs_cases (s : ByteArray) (n : Int) : (inTo s s.size ≤ n ∧ n ≤ 5 ∧ 1 ≤ n ∧ decide (∃ i, i < (lets s s.size).length ∧ farIn n ((lets s s.size).getD i 0) = true) = false) ∨
    (¬ (inTo s s.size ≤ n ∧ n ≤ 5) ∧ (n < 1 ∨ 5 < n)) ∨ (¬ (inTo s s.size ≤ n ∧ n ≤ 5) ∧ 1 ≤ n ∧ n ≤ 5 ∧ decide (∃ i, i < (lets s s.size).length ∧ farIn n ((lets s s.size).getD i 0) = true) = true) := by
  have h := inputs_ok s n
  by_cases h1 : 1 ≤ n ∧ n ≤ 5
  · by_cases h2 : ∃ i, i < (lets s s.size).length ∧ farIn n ((lets s s.size).getD i 0) = true
    · exact .inr (.inr ⟨fun hh => (h.1 hh.1).2 h2, h1.1, h1.2, decide_eq_true h2⟩)
    · exact .inl ⟨h.2 ⟨h1.1, h2⟩, h1.2, h1.1, decide_eq_false h2⟩
  · refine .inr (.inl ⟨fun hh => h1 ⟨(h.1 hh.1).1, hh.2⟩, by omega⟩)

set_option maxRecDepth 100000 in
set_option maxHeartbeats 4000000 in
theorem iTableOfFormula_any (s : ByteArray) (hs : s.size ≤ 1048576) (n : Int) (w : World) :
    Calls Try.prog 23 #[.string s, .int .i64 n] w fun e w' => e = .returned (.tuple #[.agg #[.int .i64 (resTableOfFormula_0n s n), .int .i64 (resTableOfFormula_0m s n)], .int .i64 (resTableOfFormula_1 s n)]) ∧ Below w.heap.size w w' := by
  have k0 : C2 (w.alloc (.cells #[.int .i64 0, .int .i64 0] 36)) (w.heap.size) (.int .i64 0) (.int .i64 0) := by simpa using C2.here w (.int .i64 0) (.int .i64 0) 36
  unfold resTableOfFormula_0n resTableOfFormula_0m resTableOfFormula_1
  cases hR : fmOf s with
  | none =>
    rw [tof_none hR]
    have HC := Lib.hid (fun w => readFormula_any s w hR)
    clear hR
    go_enter Try.func23, Try.ntmps23
    go_wp2_with (go_at_call 33; (with_reducible refine (HC.out _).mono ?_); rintro e w1 ⟨c, a0, n0, cap0, b, rfl, rfl, hh, hb⟩; clear hh; have hL := chain (B := w.heap.size) (a := w) (by go_grown) (Nat.le_refl _) hb; have hz := hb.size; (repeat (first | rw [World.size_alloc] at hz)); replace k0 := keepAt hb k0; clear hb)
    refine bodyPost_ret (v := .tuple #[.agg #[.int .i64 0, .int .i64 0], .int .i64 6]) (by simp [results, Try.results23, go_sem, *]) rfl ?_
    exact ⟨rfl, by go_grown⟩
  | some t =>
    obtain ⟨hw, hst, h80⟩ := fm_some hR
    have HC := Lib.hid (fun w => readFormula_any s w hR)
    rcases inputs_cases s n with ⟨hm, hn5, hn1, hb⟩ | ⟨hm, hn⟩ | ⟨hm, hn1, hn5, hb⟩
    · rw [tof_in hR ⟨hm, hn5⟩]
      have HI := Lib.hid (fun w => hasInputsBelow_any s n w hs hb)
      have HF := Lib.hid (fun (k : Nat) (w : World) (B : Nat) (v : Value) (bs : List Nat) (hk : k < 32) (hh : Hold w B v t.members bs) => formulaValue_one (k : Int) (by omega) (by omega) (txtF t).length t w B v bs hw (Nat.le_refl _) (by omega) hh)
      have Hr : Hid (rcZ n = ((2 ^ n.toNat : Nat) : Int)) := rfl
      have hr5 := rcZ_bd hn1 hn5
      clear hR hb hm hw hst h80
      go_enter Try.func23, Try.ntmps23
      go_wp2_with fail
      refine (HC.out _).mono ?_
      rintro e w1 ⟨c, a0, n0, cap0, b, rfl, rfl, hh, hb⟩
      obtain ⟨rfl, rfl, bt, hh⟩ := hh t rfl
      have HH := Lib.hid (hh.keep ((Below.refl _ _).alloc (Nat.le_refl _) (.cells #[.int .u8 t.sign, .slice a0 t.members.length cap0] 46)))
      have hL := chain (B := w.heap.size) (a := w) (by go_grown) (Nat.le_refl _) hb
      have hz := hb.size
      rw [World.size_alloc] at hz
      replace k0 := keepAt hb k0
      have kf := C2.here w1 (.int .u8 t.sign) (.slice a0 t.members.length cap0) 46
      replace k0 := k0.alloc (.cells #[.int .u8 t.sign, .slice a0 t.members.length cap0] 46)
      have hLf : Below (w1.heap.size + 1) (w1.alloc (.cells #[.int .u8 t.sign, .slice a0 t.members.length cap0] 46)) (w1.alloc (.cells #[.int .u8 t.sign, .slice a0 t.members.length cap0] 46)) := Below.refl _ _
      clear hh hb
      go_wp2_with (first | (go_at_call 34; (with_reducible refine (isInputCount_yes _ _ hn1 hn5).mono ?_); rintro e w' ⟨rfl, rfl⟩) | (go_at_call 42; (with_reducible refine (rowCount_any _ _ hn1 hn5).mono ?_); rintro e w' ⟨rfl, rfl⟩) | (go_at_call 35; (with_reducible refine (HI.out _).mono ?_); rintro e w2 ⟨rfl, hb⟩; replace hL := chain (B := w.heap.size) (a := w) (hL.alloc (by omega) _) (Nat.le_refl _) hb; have hz2 := hb.size; rw [World.size_alloc] at hz2; replace k0 := keepAt hb k0; replace kf := keepAt hb kf; replace hLf := chain (B := w1.heap.size + 1) hLf (by simp) hb; clear hb))
      have kt := C2.here w2 (.int .i64 n) (.int .i64 0) 36
      replace k0 := k0.alloc (.cells #[.int .i64 n, .int .i64 0] 36)
      replace kf := kf.alloc (.cells #[.int .i64 n, .int .i64 0] 36)
      replace hL := hL.alloc (by omega) (.cells #[.int .i64 n, .int .i64 0] 36)
      replace hLf := hLf.alloc (by omega) (.cells #[.int .i64 n, .int .i64 0] 36)
      generalize hwt : (w1.alloc (.cells #[.int .u8 t.sign, .slice a0 t.members.length cap0] 46)) = wf at *
      have hwf : wf.heap.size = w1.heap.size + 1 := by rw [← hwt, World.size_alloc]
      clear hwt
      generalize hgt : w2.heap.size = gt at *
      clear HC HI
      have hgf : w1.heap.size ≠ gt := by omega
      have hg0 : w.heap.size ≠ gt := by omega
      have hgw : w.heap.size ≤ gt := by omega
      have hgw1 : w1.heap.size + 1 ≤ gt := by omega
      go_loopw [32] (fun c wr => ∃ k : Nat, (k : Int) ≤ rcZ n ∧ c = .int .i64 (k : Int) ∧ Below w.heap.size w wr ∧ C2 wr w.heap.size (.int .i64 0) (.int .i64 0) ∧ C2 wr w1.heap.size (.int .u8 t.sign) (.slice a0 t.members.length cap0) ∧ C2 wr gt (.int .i64 n) (.int .i64 (tabTo t k)) ∧ Below (w1.heap.size + 1) wf wr)
        (fun c _ => (rcZ n - intOf c).toNat)
      case atStart => exact ⟨0, by omega, rfl, hL, k0, kf, kt, hLf⟩
      case round =>
        clear k0 kf kt hL hLf
        obtain ⟨k, hk, rfl, hL, k0, kf, kt, hLf⟩ := hrel
        by_cases hlt : (k : Int) < rcZ n
        · have Hs := Lib.hid (tabTo_step t k (by omega))
          have HC := Lib.hid (fun w B v bs hh => HF.out k w B v bs (by omega) hh)
          have HHk : Hid (∀ wx, Below (w1.heap.size + 1) wf wx → Hold wx ((w.alloc (.cells #[.int .i64 0, .int .i64 0] 36)).heap.size + 2) (.slice a0 t.members.length cap0) t.members bt) := fun wx hb => HH.out.keep (by rw [hwf]; exact hb)
          have hzr := hL.size
          have hzf := hLf.size
          have hwl : w1.heap.size + 1 ≤ wf.heap.size := by omega
          clear HF HH hwf
          generalize b2i (valF (leafV (digZ (k : Int))) t) = Y at *
          go_wp2_with fail
          go_region_with ((go_at_call 43; (with_reducible refine (HC.out _ _ _ bt (HHk.out _ (by first | exact hLf | exact Bdrew hLf 1 | go_grown))).mono ?_); rintro e w3 ⟨rfl, hb⟩; have hL := chain (B := w.heap.size) (a := w) (by first | exact hL | exact Bdrew hL 1 | go_grown) (Nat.le_refl _) hb; have hLf := chain (B := w1.heap.size + 1) (a := wf) (by first | exact hLf | exact Bdrew hLf 1 | go_grown) hwl hb; replace k0 := keepAt hb k0; replace kf := keepAt hb kf; replace kt := keepAt hb kt; clear hb))
          all_goals (go_wp2_with fail)
          all_goals (rw [Hs.out]; exact ⟨⟨k + 1, by omega, by go_num, hL.setCell (p := ⟨gt, 1, none⟩) hgw _, k0.set _ _ _ hg0, kf.set _ _ _ hgf, kt.put1 _, hLf.setCell (p := ⟨gt, 1, none⟩) hgw1 _⟩, by simp [intOf]; omega⟩)
        · have Hk : Hid ((k : Nat) = 2 ^ n.toNat) := by have := Hr.out; unfold Hid; omega
          rw [Hk.out] at kt
          go_wp2_with fail
          refine bodyPost_ret (v := .tuple #[.agg #[.int .i64 n, .int .i64 (tabTo t (2 ^ n.toNat))], .int .i64 0]) (by simp [results, Try.results23, go_sem, *]) rfl ?_
          exact ⟨rfl, by go_grown⟩
    · rw [tof_out hR hm]
      clear hR hm hw hst h80
      go_enter Try.func23, Try.ntmps23
      go_wp2_with (first | (go_at_call 33; (with_reducible refine (HC.out _).mono ?_); rintro e w1 ⟨c, a0, n0, cap0, b, rfl, rfl, hh, hb⟩; clear hh; have hL := chain (B := w.heap.size) (a := w) (by go_grown) (Nat.le_refl _) hb; have hz := hb.size; (repeat (first | rw [World.size_alloc] at hz)); replace k0 := keepAt hb k0; clear hb) | (go_at_call 34; (with_reducible refine (isInputCount_no _ _ hn).mono ?_); rintro e w' ⟨rfl, rfl⟩))
      refine bodyPost_ret (v := .tuple #[.agg #[.int .i64 0, .int .i64 0], .int .i64 2]) (by simp [results, Try.results23, go_sem, *]) rfl ?_
      exact ⟨rfl, by go_grown⟩
    · rw [tof_out hR hm]
      have HI := Lib.hid (fun w => hasInputsBelow_any s n w hs hb)
      clear hR hm hw hst h80 hb
      go_enter Try.func23, Try.ntmps23
      go_wp2_with (first | (go_at_call 33; (with_reducible refine (HC.out _).mono ?_); rintro e w1 ⟨c, a0, n0, cap0, b, rfl, rfl, hh, hb⟩; clear hh; have hL := chain (B := w.heap.size) (a := w) (by go_grown) (Nat.le_refl _) hb; have hz := hb.size; (repeat (first | rw [World.size_alloc] at hz)); replace k0 := keepAt hb k0; clear hb) | (go_at_call 34; (with_reducible refine (isInputCount_yes _ _ hn1 hn5).mono ?_); rintro e w' ⟨rfl, rfl⟩) | (go_at_call 35; (with_reducible refine (HI.out _).mono ?_); rintro e w2 ⟨rfl, hb⟩; replace hL := chain (B := w.heap.size) (a := w) (hL.alloc (by omega) _) (Nat.le_refl _) hb; have hz2 := hb.size; rw [World.size_alloc] at hz2; replace k0 := keepAt hb (k0.alloc _); clear hb))
      refine bodyPost_ret (v := .tuple #[.agg #[.int .i64 0, .int .i64 0], .int .i64 2]) (by simp [results, Try.results23, go_sem, *]) rfl ?_
      exact ⟨rfl, by go_grown⟩

end Go.Proofs.Ytohmhiodmaahfaa
