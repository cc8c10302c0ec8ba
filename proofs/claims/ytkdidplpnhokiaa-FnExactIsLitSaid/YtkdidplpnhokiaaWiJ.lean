/- IsWiring: the program's. -/
import Derived.Test.YtkdidplpnhokiaaWiI
import Derived.Test.YtkdidplpnhokiaaRwf
namespace Go.Proofs.Ytkdidplpnhokiaa
open Go.RowKit
set_option linter.unusedVariables false

/-- are rows in order -/
def sortedB (yss : List (List Int)) : Bool := decide (∀ i, i < yss.length → 0 < i → 0 ≤ cmpL (yss.getD i []) (yss.getD (i - 1) []))
theorem sorted_no {yss : List (List Int)} {i : Nat} (hi : i < yss.length) (h0 : 0 < i) (h : cmpL (yss.getD i []) (yss.getD (i - 1) []) < 0) : sortedB yss = false :=
  decide_eq_false fun hh => by have := hh i hi h0; omega
theorem compare2 (va vb : Value) (xs ys : List Int) (w : World) (ha : Reads w va xs) (hb : Reads w vb ys) (lx : xs.length = 2) (ly : ys.length = 2) {z : Int} (hz : cmpL xs ys = z) :
    Calls Try.prog 64 #[va, vb] w fun e w' => e = .returned (.int .i64 z) ∧ w = w' := by
  obtain ⟨a, ca, rfl, _, ha⟩ := ha
  obtain ⟨b, cb, rfl, _, hb⟩ := hb
  rcases ha with rfl | ⟨b, off, rfl, ha⟩
  · cases lx
  · rcases hb with rfl | ⟨b', off', rfl, hb⟩
    · cases ly
    · subst hz
      exact compare_mem b off ca b' off' cb xs.length ys.length xs ys w rfl rfl (by omega) (by omega) ha hb

set_option maxRecDepth 100000 in
set_option maxHeartbeats 1000000 in
theorem isSorted_any (v : Value) (yss : List (List Int)) (w : World) (ha : Reads2 w v yss) (h2 : ∀ i, i < yss.length → (yss.getD i []).length = 2) {b : Bool} (hb : sortedB yss = b) :
    Calls Try.prog 63 #[v, .func (.func 64) #[] #[]] w fun e w' => e = .returned (.bool b) ∧ Below w.heap.size w w' := by
  have HA := Lib.hid ha
  obtain ⟨a, ca, rfl, hm, _⟩ := ha
  unfold maxLen at hm
  have Ha : Hid (∀ k, k < yss.length → ∃ b off u, a = some ⟨b, off, none⟩ ∧ w.cell? ⟨b, off + k, none⟩ = some u ∧ Reads w u (yss.getD k [])) := fun k hk => HA.out.cellW hk
  have H2 := Lib.hid h2
  have HNO : Hid (∀ i, i < yss.length → 0 < i → cmpL (yss.getD i []) (yss.getD (i - 1) []) < 0 → b = false) := fun i hi h0 h => hb ▸ sorted_no hi h0 h
  have HYES : Hid ((∀ i, i < yss.length → 0 < i → 0 ≤ cmpL (yss.getD i []) (yss.getD (i - 1) [])) → b = true) := fun h => hb ▸ decide_eq_true h
  clear HA h2 hb
  generalize hnn : yss.length = n at *
  clear hnn
  go_enter Try.func63, Try.ntmps63
  go_wp2_with fail
  go_loopw [5] (fun c wr => ∃ k : Int, -1 ≤ k ∧ k < (n : Int) ∧ c = .int .i64 k ∧ Below w.heap.size w wr ∧ Hid (∀ i : Nat, k < (i : Int) → i < n → 0 < i → 0 ≤ cmpL (yss.getD i []) (yss.getD (i - 1) []))) (fun c _ => (intOf c).toNat)
  case atStart => exact ⟨(n : Int) - 1, by omega, by omega, by go_num, Below.refl _ _, fun i h1 h2 => by omega⟩
  case round =>
    obtain ⟨k, hk0, hk1, rfl, hL, HR⟩ := hrel
    by_cases hlt : 0 < k
    · obtain ⟨K, rfl⟩ : ∃ K : Nat, k = (K : Int) + 1 := ⟨(k - 1).toNat, by omega⟩
      obtain ⟨ab, off, u, rfl, hca0, hru⟩ := Ha.out (K + 1) (by omega)
      obtain ⟨ab', off', u', e', hcb0, hru'⟩ := Ha.out K (by omega)
      obtain ⟨rfl, rfl⟩ : ab = ab' ∧ off = off' := by simpa using e'
      have hca := cell_later hL hca0
      have hcb := cell_later hL hcb0
      have R1 := Lib.hid (hru.keep hL)
      have R2 := Lib.hid (hru'.keep hL)
      have L1 := Lib.hid (H2.out (K + 1) (by omega))
      have L2 := Lib.hid (H2.out K (by omega))
      have hi1 : (K : Int) + 1 < (n : Int) := by omega
      have hi0 : (0 : Int) ≤ (K : Int) + 1 := by omega
      have hj1 : (K : Int) < (n : Int) := by omega
      have hj0 : (0 : Int) ≤ (K : Int) := by omega
      have ht : ((K : Int) + 1).toNat = K + 1 := by omega
      have hs : (K : Int) + 1 - 1 = (K : Int) := by omega
      have HB := HNO.out (K + 1) (by omega) (by omega)
      have HG : Hid (0 ≤ cmpL (yss.getD (K + 1) []) (yss.getD K []) → ∀ i : Nat, (K : Int) < (i : Int) → i < n → 0 < i → 0 ≤ cmpL (yss.getD i []) (yss.getD (i - 1) [])) := fun hh i h1 h2 h3 => by
        by_cases e : i = K + 1
        · subst e; simpa using hh
        · exact HR.out i (by omega) h2 h3
      simp only [Nat.add_sub_cancel] at HB
      have HB' := Lib.hid HB
      clear hca0 hcb0 hru hru' HB e' HR
      obtain ⟨z, hz⟩ : ∃ z, cmpL (yss.getD (K + 1) []) (yss.getD K []) = z := ⟨_, rfl⟩
      have HZ := Lib.hid hz
      rw [hz] at HB' HG
      clear hz
      by_cases hneg : z < 0
      · have HBF := Lib.hid (HB'.out hneg)
        go_wp2_with fail
        go_quiet ((go_at_call 64; exact quiet1 (compare2 _ _ _ _ _ (R1.out.keep (Bdrew (Below.refl _ _) _)) (R2.out.keep (Bdrew (Below.refl _ _) _)) L1.out L2.out HZ.out)))
        go_wp2_with fail
        go_ret
        exact ⟨by rw [HBF.out]; rfl, Bdrew hL _⟩
      · have HGT := Lib.hid (HG.out (by omega))
        go_wp2_with fail
        go_quiet ((go_at_call 64; exact quiet1 (compare2 _ _ _ _ _ (R1.out.keep (Bdrew (Below.refl _ _) _)) (R2.out.keep (Bdrew (Below.refl _ _) _)) L1.out L2.out HZ.out)))
        go_wp2_with fail
        go_roundw
        case rel => exact ⟨(K : Int), by omega, by omega, by go_num, Bdrew hL _, HGT⟩
        case measure => first | (simp [intOf]; done) | (simp [intOf]; omega)
    · have HBT : Hid (b = true) := HYES.out fun i hi h0 => HR.out i (by omega) hi h0
      have hge : ¬ 0 < k := hlt
      go_wp2_with fail
      go_ret
      exact ⟨by rw [HBT.out]; rfl, hL⟩

theorem wire_contains (p : Int) (yss : List (List Int)) : decide (∃ i, i < yss.length ∧ (!(decide (WOk p (yss.getD i [])))) = true) = !(decide (∀ i, i < yss.length → WOk p (yss.getD i []))) := by
  by_cases h : ∀ i, i < yss.length → WOk p (yss.getD i [])
  · rw [decide_eq_true h]
    refine decide_eq_false fun ⟨i, hi, hx⟩ => ?_
    rw [decide_eq_true (h i hi)] at hx; cases hx
  · rw [decide_eq_false h]
    refine decide_eq_true (Classical.byContradiction fun hno => h fun i hi => Classical.byContradiction fun hx => hno ⟨i, hi, ?_⟩)
    rw [decide_eq_false hx]; rfl
theorem wir_split {p : Int} {xs : List Int} {yss : List (List Int)} (h1 : SwOk xs) (h2 : p = termZ xs xs.length) (h3 : yss.length ≤ 16) :
    wirB p xs yss = ((decide (∀ i, i < yss.length → WOk p (yss.getD i []))) && sortedB yss) := by
  unfold wirB sortedB
  by_cases h4 : ∀ i, i < yss.length → WOk p (yss.getD i [])
  · rw [decide_eq_true h4, Bool.true_and]
    by_cases h5 : ∀ i, i < yss.length → 0 < i → 0 ≤ cmpL (yss.getD i []) (yss.getD (i - 1) [])
    · rw [decide_eq_true h5]
      exact decide_eq_true ⟨h1, h2, h3, fun i hi => ⟨h4 i hi, h5 i hi⟩⟩
    · rw [decide_eq_false h5]
      exact decide_eq_false fun h => h5 fun i hi => (h.2.2.2 i hi).2
  · rw [decide_eq_false h4, Bool.false_and]
    exact decide_eq_false fun h => h4 fun i hi => (h.2.2.2 i hi).1

set_option maxRecDepth 100000 in
set_option maxHeartbeats 1000000 in
theorem isWiring_any (v : Value) (p : Int) (xs : List Int) (yss : List (List Int)) (w : World) (ha : ReadsW w v p xs yss) {b : Bool} (hb : wirB p xs yss = b) :
    Calls Try.prog 18 #[v] w fun e w' => e = .returned (.bool b) ∧ Below w.heap.size w w' := by
  obtain ⟨a, ca, b', cb, rfl, h1, h2⟩ := ha
  obtain ⟨d, hd⟩ : ∃ d, decide (SwOk xs) = d := ⟨_, rfl⟩
  have HAS : Hid (∀ w', Below w.heap.size w w' → Calls Try.prog 58 #[.slice a xs.length ca] w' fun e w'' => e = .returned (.bool d) ∧ w' = w'') := fun w' h => areSwitches_any _ xs w' (h1.keep h) hd
  have h0 := C3.here w (.int .i64 p) (.slice a xs.length ca) (.slice b' yss.length cb) 28
  have hm2 : yss.length ≤ 2 ^ 63 - 1 := by obtain ⟨_, _, _, hm, _⟩ := h2; exact hm
  cases d
  · have HB : Hid (b = false) := by rw [Hid, ← hb]; exact decide_eq_false fun h => (of_decide_eq_false hd) h.1
    clear hb hd h1 h2
    generalize xs.length = n at *
    generalize yss.length = m at *
    go_enter Try.func18, Try.ntmps18
    go_wp2_with fail
    go_quiet ((go_at_call 58; exact quiet1 (HAS.out _ (Bdrew (by go_grown) _))))
    go_wp2_with fail
    go_ret
    exact ⟨by rw [HB.out]; rfl, by first | (with_reducible exact hL) | (with_reducible refine Bdrew ?_ _; go_grown; done) | go_grown⟩
  · have hs : SwOk xs := of_decide_eq_true hd
    obtain ⟨z, hz⟩ : ∃ z, termZ xs xs.length = z := ⟨_, rfl⟩
    have HTC : Hid (∀ w', Below w.heap.size w w' → Calls Try.prog 59 #[.slice a xs.length ca] w' fun e w'' => e = .returned (.int .i64 z) ∧ w' = w'') := fun w' h => terminalCount_any _ xs w' (h1.keep h) hs hz
    by_cases hp : p = z
    · by_cases h16 : yss.length ≤ 16
      · have hsp := wir_split (p := p) (yss := yss) hs (by rw [hz]; exact hp) h16
        obtain ⟨c, hc⟩ : ∃ c, decide (∀ i, i < yss.length → WOk p (yss.getD i [])) = c := ⟨_, rfl⟩
        have hpp : (p != z) = false := by simp [hp]
        have hbig : ¬ (16 : Int) < (yss.length : Int) := by omega
        have HCF := Lib.hid (fun w' bn (hk : Below w.heap.size w w') (h : C3 w' bn (.int .i64 p) (.slice a xs.length ca) (.slice b' yss.length cb)) => containsFuncRW_any (.slice b' yss.length cb) yss 60 #[.pointer (some ⟨bn, 0, none⟩)] (fun r => !(decide (WOk p r))) w' (h2.keep hk) (fun u x wx hx hu => noWire_any u x p _ _ bn wx hu (h.keep hx)) (enters_of Try.func60 (by kernel_rfl) rfl) (wire_contains p yss))
        rw [hc] at hsp HCF
        cases c
        · have HB : Hid (b = false) := by rw [Hid, ← hb, hsp]; rfl
          clear hb hd h1 hz hp h2 hs hsp hc
          generalize xs.length = n at *
          generalize yss.length = m at *
          go_enter Try.func18, Try.ntmps18
          go_wp2_with fail
          go_quiet ((first | (go_at_call 58; exact quiet1 (HAS.out _ (Bdrew (by go_grown) _))) | (go_at_call 59; exact quiet1 (HTC.out _ (Bdrew (by go_grown) _)))))
          go_wp2_with ((go_at_call 62; (with_reducible refine (HCF.out _ _ (Bdrew (by go_grown) _) (h0.drewUN _)).mono ?_); rintro e w1 ⟨rfl, hb⟩; have hL := chain (B := w.heap.size) (a := w) (Bdrew (by go_grown) _) (Nat.le_refl _) hb; replace h0 := keepAt3 hb (h0.drewUN _); clear hb))
          go_ret
          exact ⟨by rw [HB.out]; rfl, by first | (with_reducible exact hL) | (with_reducible refine Bdrew ?_ _; go_grown; done) | go_grown⟩
        · have HB : Hid (sortedB yss = b) := by rw [Hid, ← hb, hsp]; rfl
          have hall : ∀ i, i < yss.length → WOk p (yss.getD i []) := of_decide_eq_true hc
          have HSO : Hid (∀ w', Below w.heap.size w w' → Calls Try.prog 63 #[.slice b' yss.length cb, .func (.func 64) #[] #[]] w' fun e w'' => e = .returned (.bool b) ∧ Below w'.heap.size w' w'') := fun w' h => isSorted_any _ yss w' (h2.keep h) (fun i hi => (hall i hi).1) HB.out
          clear hb hd h1 hz hp h2 hs hsp hc hall HB
          generalize xs.length = n at *
          generalize yss.length = m at *
          go_enter Try.func18, Try.ntmps18
          go_wp2_with fail
          go_quiet ((first | (go_at_call 58; exact quiet1 (HAS.out _ (Bdrew (by go_grown) _))) | (go_at_call 59; exact quiet1 (HTC.out _ (Bdrew (by go_grown) _)))))
          go_wp2_with (first | (go_at_call 62; (with_reducible refine (HCF.out _ _ (Bdrew (by go_grown) _) (h0.drewUN _)).mono ?_); rintro e w1 ⟨rfl, hb⟩; have hL := chain (B := w.heap.size) (a := w) (Bdrew (by go_grown) _) (Nat.le_refl _) hb; replace h0 := keepAt3 hb (h0.drewUN _); clear hb) | (go_at_call 63; (with_reducible refine (HSO.out _ hL).mono ?_); rintro e w2 ⟨rfl, hb⟩; replace hL := chain (B := w.heap.size) (a := w) hL (Nat.le_refl _) hb; clear hb))
          go_ret
          exact ⟨rfl, by first | (with_reducible exact hL) | (with_reducible refine Bdrew ?_ _; go_grown; done) | go_grown⟩
      · have HB : Hid (b = false) := by rw [Hid, ← hb]; exact decide_eq_false fun h => h16 h.2.2.1
        have hpp : (p != z) = false := by simp [hp]
        have hbig : (16 : Int) < (yss.length : Int) := by omega
        clear hb hd h1 h2 hz hp hs h16
        generalize xs.length = n at *
        generalize yss.length = m at *
        go_enter Try.func18, Try.ntmps18
        go_wp2_with fail
        go_quiet ((first | (go_at_call 58; exact quiet1 (HAS.out _ (Bdrew (by go_grown) _))) | (go_at_call 59; exact quiet1 (HTC.out _ (Bdrew (by go_grown) _)))))
        go_wp2_with fail
        go_ret
        exact ⟨by rw [HB.out]; rfl, by first | (with_reducible exact hL) | (with_reducible refine Bdrew ?_ _; go_grown; done) | go_grown⟩
    · have HB : Hid (b = false) := by rw [Hid, ← hb]; exact decide_eq_false fun h => hp (by rw [h.2.1, hz])
      have hpp : (p != z) = true := by simp [hp]
      clear hb hd h1 h2 hz hp hs
      generalize xs.length = n at *
      generalize yss.length = m at *
      go_enter Try.func18, Try.ntmps18
      go_wp2_with fail
      go_quiet ((first | (go_at_call 58; exact quiet1 (HAS.out _ (Bdrew (by go_grown) _))) | (go_at_call 59; exact quiet1 (HTC.out _ (Bdrew (by go_grown) _)))))
      go_wp2_with fail
      go_ret
      exact ⟨by rw [HB.out]; rfl, by first | (with_reducible exact hL) | (with_reducible refine Bdrew ?_ _; go_grown; done) | go_grown⟩

end Go.Proofs.Ytkdidplpnhokiaa
