/- Chains: the program's and the model's. -/
import Derived.Test.YtnlcnbkookmfaaaChnM
import Derived.Test.YtnlcnbkookmfaaaCtn
import Derived.Test.YtnlcnbkookmfaaaStay
namespace Go.Proofs.Ytnlcnbkookmfaaa
open Go.RowKit
set_option linter.unusedVariables false

def lenV : Value → Nat
  | .slice _ n _ => n
  | _ => 0
/-- what follows in a column -/
def fcol (xss : List (List Int)) (c : Nat) : Nat → Int := fun r => plZ xss r c
theorem fol_col {p : Int} {xss yss : List (List Int)} (h : chaB p xss yss = true) {c : Nat} (hc : (c : Int) < p) : Fol (fcol xss c) xss.length := fun r hr => nx_bd h hr hc
theorem ownsNone (w : World) (B : Nat) : Owns w B (.slice none 0 0) [] := World.ownsRow_nil _ _ _ _

set_option maxRecDepth 100000 in
set_option maxHeartbeats 4000000 in
theorem chainFrom_any (v : Value) (p : Int) (xss yss : List (List Int)) (r c : Nat) (w : World) (ha : ReadsH w v p xss yss) (hb : chaB p xss yss = true) (hr : r < xss.length) (hc : (c : Int) < p) :
    Calls Try.prog 61 #[v, .int .i64 (r : Int), .int .i64 (c : Int)] w fun e w' => ∃ u, e = .returned (.tuple #[u, .bool (chB (fcol xss c) r xss.length)]) ∧ Owns w' w.heap.size u (chR (fcol xss c) r xss.length) ∧ Below w.heap.size w w' := by
  obtain ⟨j0, hj0_, jz0, jz1, jz2⟩ := info_parts info64
  have hf := fol_col hb hc
  have HLN := Lib.hid (fun r (hr : r < xss.length) => (row_len hb hr).1)
  obtain ⟨a, ca, b', cb, rfl, h1, _⟩ := ha
  have hn8 := (chaB_out hb).1.2
  have HP : Hid (∀ k : Nat, k < xss.length → ∃ b off ub uo ul uc, a = some ⟨b, off, none⟩ ∧ w.cell? ⟨b, off + k, none⟩ = some (.slice (some ⟨ub, uo, none⟩) ul uc) ∧ (c : Int) < (ul : Int) ∧ w.cell? ⟨ub, uo + c, none⟩ = some (.int .i64 (fcol xss c k))) := fun r hr => by
    have e := HLN.out r hr
    obtain ⟨b, off, ub, uo, uc, h1', h2', h3'⟩ := h1.place hr (c := c) (by omega)
    exact ⟨b, off, ub, uo, _, uc, h1', h2', by omega, h3'⟩
  have h0 := C3.here w (.int .i64 p) (.slice a xss.length ca) (.slice b' yss.length cb) 27
  have hk0 := h0.lt
  have hc0 : (0 : Int) ≤ (c : Int) := by omega
  clear hb h1 HLN hc
  generalize hn : xss.length = n at *
  generalize yss.length = m at *
  clear hn
  generalize fcol xss c = f at *
  obtain ⟨s1, s2, s3⟩ := jend_spec f r n
  have HIN := Lib.hid (wk_in hf hr)
  have HGO := Lib.hid (fun i (h : i < jend f r n) => wk_go h)
  have HST := Lib.hid (fun i (h : 0 ≤ wk f r i) => wk_step h)
  have HNI := Lib.hid (fun k (hj : jend f r n < n) (hk : k ≤ jend f r n) => chL_notin (f := f) (r := r) hj hk)
  have HSH := Lib.hid (fun k (hk : k ≤ jend f r n + 1) (h : (chL f r k).Nodup) => chL_short hf hr hk h)
  have HSN := Lib.hid (fun k => chL_succ f r k)
  have HLE := Lib.hid (fun k => chL_len f r k)
  have HND := Lib.hid (fun k (h : (chL f r k).Nodup) (h2 : wk f r k ∉ chL f r k) => chL_nodup_step h h2)
  have HT : Hid (jend f r n < n → wk f r (jend f r n + 1) = wk f r (jend f r n) → chB f r n = true ∧ chR f r n = chL f r (jend f r n + 1)) := fun h1 h2 => by
    have e : chB f r n = true := decide_eq_true ⟨h1, h2⟩
    exact ⟨e, by unfold chR; rw [if_pos e]⟩
  have HF : Hid (¬ (jend f r n < n ∧ wk f r (jend f r n + 1) = wk f r (jend f r n)) → chB f r n = false ∧ chR f r n = []) := fun h => by
    have e : chB f r n = false := decide_eq_false h
    exact ⟨e, by unfold chR; rw [e]; rfl⟩
  have HS3 : Hid (jend f r n < n → wk f r (jend f r n + 1) = wk f r (jend f r n) ∨ wk f r (jend f r n + 1) < 0) := fun h => of_decide_eq_true (s3 h)
  have HS4 : Hid (∀ k, k ≤ jend f r n → -1 ≤ wk f r (k + 1)) := fun k hk => by
    have h5 := HIN.out k hk
    rw [HST.out k h5.1]
    exact (hf _ (by omega)).1
  clear s2 s3 hf
  generalize hJ : jend f r n = J at *
  generalize chB f r n = bR at *
  generalize chR f r n = lR at *
  clear hJ hr
  have HW0 : Hid ((r : Int) = wk f r 0) := rfl
  go_enter Try.func61, Try.ntmps61
  go_wp2_with fail
  go_loopw [1, 8] (fun rw_ u wr => ∃ k : Nat, k ≤ J + 1 ∧ rw_ = .int .i64 (wk f r k) ∧ lenV u = k ∧ Below w.heap.size w wr ∧ C3 wr w.heap.size (.int .i64 p) (.slice a n ca) (.slice b' m cb) ∧ Owns wr (w.heap.size + 1) u (chL f r k) ∧ Hid ((chL f r k).Nodup ∧ (k = J + 1 → ¬ (J < n ∧ wk f r (J + 1) = wk f r J)))) (fun _ u _ => n + 2 - lenV u)
  case atStart => exact ⟨0, Nat.zero_le _, by rw [← HW0.out], rfl, by go_grown, h0, ownsNone _ _, by unfold Hid; exact ⟨by rw [chL_zero]; exact List.nodup_nil, fun h => by omega⟩⟩
  case round =>
    clear h0 HW0
    obtain ⟨k, hk, rfl, hlk, hL, h0, oo, hN⟩ := hrel
    have hkn := HSH.out k hk hN.out.1
    have hLl := HLE.out k
    have HSNk := Lib.hid (HSN.out k)
    have HNDk := Lib.hid (HND.out k)
    have HNIk := Lib.hid (fun h => HNI.out k h)
    have HN1 := hN.out.1
    have HN2 := Lib.hid hN.out.2
    clear hN
    obtain ⟨L, hLe⟩ : ∃ L, chL f r k = L := ⟨_, rfl⟩
    rw [hLe] at hLl oo HN1 HSNk HNDk HNIk
    clear hLe
    subst hLl
    have hL8 : L.length ≤ 8 := by omega
    have OO := Lib.hid oo
    obtain ⟨ua, uc, rfl, hum, _⟩ := oo.reads
    have hrd := Lib.hid OO.out.reads
    have hsz := h0.lt
    clear oo
    by_cases hkJ : L.length ≤ J
    · obtain ⟨w0, w1⟩ := HIN.out L.length hkJ
      have hd1 : (wk f r L.length != -1) = true := by simp; omega
      cases hin : decide (wk f r L.length ∈ L)
      · have hnin := of_decide_eq_false hin
        have HD := HNDk.out HN1 hnin
        have hk1n := HSH.out (L.length + 1) (by omega) HD
        have HC := Lib.hid (fun wx (h : Below wr.heap.size wr wx) => contains_any _ _ (wk f r L.length) wx (hrd.out.keep h) hin)
        obtain ⟨X, hX⟩ : ∃ X : Nat, wk f r L.length = (X : Int) := ⟨(wk f r L.length).toNat, by omega⟩
        obtain ⟨ab, ao, ub, uo, ul, uc', rfl, hx, hul, hy⟩ := HP.out X (by omega)
        have hca := cell_later hL hx
        have hcb := cell_later hL hy
        have hX0 : (0 : Int) ≤ (X : Int) := by omega
        have hX1 : (X : Int) < (n : Int) := by omega
        have HXX : Hid (wk f r (L.length + 1) = f X) := by rw [Hid, HST.out L.length w0, hX, Int.toNat_natCast]
        have hfrom := Lib.hid (OO.out.rowsFrom (B := w.heap.size + 1) (Nat.le_refl _))
        rw [hX] at HSNk HC hd1 w0 w1
        have HXc := Lib.hid hx
        have HYc := Lib.hid hy
        clear hx hy hin hnin HN1 hca hcb
        by_cases hJk : L.length = J ∧ wk f r (L.length + 1) = wk f r L.length
        · -- the chain ends here
          obtain ⟨HBB, HRR⟩ := HT.out (by omega) (by rw [← hJk.1]; exact hJk.2)
          have hd2 : (f X == (X : Int)) = true := by rw [← HXX.out, hJk.2, hX]; simp
          have HB := Lib.hid HBB
          have HR : Hid (lR = L ++ [(X : Int)]) := by rw [Hid, HRR, ← hJk.1]; exact HSNk.out
          clear hJk HBB HRR
          rw [hX]
          clear hX
          generalize f X = y at *
          go_wp2_with (first | (go_at_call 98; (with_reducible refine (HC.out _ (by go_grown)).mono ?_); rintro e w' ⟨rfl, rfl⟩) | (at_builtin; refine wpList_append_own _ rfl _ _ 36 rfl (w.heap.size + 1) 2 j0 (.int .i64 0) 1 8 Try.underlying36 hj0_ jz0 jz1 jz2 rfl (by decide) (.slice ua L.length uc) L.length (L.map (Value.int .i64)) rfl (World.ownsRow.alloc OO.out _) ⟨wr.heap.size, 0, none⟩ 1 1 [.int .i64 (X : Int)] rfl rfl (cell_one_new _ _ _) (by simp [Value.oneCell']) (by unfold maxLen; omega) (by omega) (by simp; omega) ?_; intro v' w5 hown' hgrow hnil; have h0' := (h0.alloc _).grown hgrow (fun e => absurd (hfrom.out _ e) (by omega)); have hL' := (hL.alloc (by omega) _).grown hgrow (by simp; omega) (fun q e => Nat.le_of_succ_le (hfrom.out q e)); have hca' := cell_later hL' HXc.out; have hcb' := cell_later hL' HYc.out))
          go_ret2
          exact ⟨_, by rw [HB.out]; rfl, by rw [HR.out]; exact (Owns.snoc hown').mono (Nat.le_succ _), hL'⟩
        · have hd2 : (f X == (X : Int)) = false := by
            rw [← HXX.out]
            have : wk f r (L.length + 1) ≠ (X : Int) := by
              rw [← hX]
              intro e
              rcases Nat.lt_or_ge L.length J with h | h
              · exact (HGO.out L.length h).2 e
              · exact hJk ⟨by omega, e⟩
            simp [this]
          have HNN : Hid ((chL f r (L.length + 1)).Nodup ∧ (L.length + 1 = J + 1 → ¬ (J < n ∧ wk f r (J + 1) = wk f r J))) := ⟨HD, fun e h => hJk ⟨by omega, by rw [show L.length = J by omega]; exact h.2⟩⟩
          have HYY : Hid (f X = wk f r (L.length + 1)) := HXX.out.symm
          clear hJk HD
          rw [hX]
          clear hX
          generalize f X = y at *
          go_wp2_with (first | (go_at_call 98; (with_reducible refine (HC.out _ (by go_grown)).mono ?_); rintro e w' ⟨rfl, rfl⟩) | (at_builtin; refine wpList_append_own _ rfl _ _ 36 rfl (w.heap.size + 1) 2 j0 (.int .i64 0) 1 8 Try.underlying36 hj0_ jz0 jz1 jz2 rfl (by decide) (.slice ua L.length uc) L.length (L.map (Value.int .i64)) rfl (World.ownsRow.alloc OO.out _) ⟨wr.heap.size, 0, none⟩ 1 1 [.int .i64 (X : Int)] rfl rfl (cell_one_new _ _ _) (by simp [Value.oneCell']) (by unfold maxLen; omega) (by omega) (by simp; omega) ?_; intro v' w5 hown' hgrow hnil; have h0' := (h0.alloc _).grown hgrow (fun e => absurd (hfrom.out _ e) (by omega)); have hL' := (hL.alloc (by omega) _).grown hgrow (by simp; omega) (fun q e => Nat.le_of_succ_le (hfrom.out q e)); have hca' := cell_later hL' HXc.out; have hcb' := cell_later hL' HYc.out))
          have ho := Owns.snoc hown'
          rw [← HSNk.out] at ho
          obtain ⟨va, vc, rfl, _, _⟩ := ho.reads
          exact ⟨⟨L.length + 1, by omega, by rw [HYY.out], by simp only [lenV]; exact HLE.out _, hL', h0', ho, HNN⟩, by simp only [lenV]; rw [HLE.out]; omega⟩
      · have HC := Lib.hid (fun wx (h : Below wr.heap.size wr wx) => contains_any _ _ (wk f r L.length) wx (hrd.out.keep h) hin)
        obtain ⟨hB, hR⟩ := HF.out (fun h => by have := HNIk.out h.1 hkJ; rw [hin] at this; cases this)
        have HB := Lib.hid hB
        have HR := Lib.hid hR
        clear hin hB hR
        generalize wk f r L.length = X at *
        go_wp2_with (first | (go_at_call 98; (with_reducible refine (HC.out _ (by go_grown)).mono ?_); rintro e w' ⟨rfl, rfl⟩))
        go_ret2
        exact ⟨_, by rw [HB.out]; rfl, by rw [HR.out]; exact ownsNone _ _, hL⟩
    · have hkJ1 : L.length = J + 1 := by omega
      have hJn : J < n := by omega
      have h1 : wk f r L.length = -1 := by
        have h2 := HN2.out hkJ1
        have h3 := HS3.out hJn
        have h4 := HS4.out J (Nat.le_refl _)
        rw [hkJ1]
        rcases h3 with h3 | h3
        · exact absurd ⟨hJn, h3⟩ h2
        · omega
      obtain ⟨hB, hR⟩ := HF.out (HN2.out hkJ1)
      have HB := Lib.hid hB
      have HR := Lib.hid hR
      rw [h1]
      clear h1 hB hR hkJ1
      go_wp2_with fail
      go_ret2
      exact ⟨_, by rw [HB.out]; rfl, by rw [HR.out]; exact ownsNone _ _, hL⟩

set_option maxRecDepth 100000 in
set_option maxHeartbeats 4000000 in
theorem l07Chain_any (v : Value) (p : Int) (xss yss : List (List Int)) (r c : Nat) (w : World) (ha : ReadsH w v p xss yss) (hb : chaB p xss yss = true) (hr : r < xss.length) (hc : (c : Int) < p) :
    Calls Try.prog 59 #[v, .int .i64 (r : Int), .int .i64 (c : Int)] w fun e w' => ∃ u, e = .returned (.tuple #[u, .bool (chB (fcol xss c) r xss.length)]) ∧ Owns w' w.heap.size u (chR (fcol xss c) r xss.length) ∧ Below w.heap.size w w' := by
  obtain ⟨j0, hj0_, jz0, jz1, jz2⟩ := info_parts info64
  have hf := fol_col hb hc
  have HRI := Lib.hid (fun w' (h : Below w.heap.size w w') => l07N_any v p xss yss w' (ha.keep h))
  have HLN := Lib.hid (fun r (hr : r < xss.length) => (row_len hb hr).1)
  obtain ⟨a, ca, b', cb, rfl, h1, _⟩ := ha
  have hn8 := (chaB_out hb).1.2
  have HP : Hid (∀ k : Nat, k < xss.length → ∃ b off ub uo ul uc, a = some ⟨b, off, none⟩ ∧ w.cell? ⟨b, off + k, none⟩ = some (.slice (some ⟨ub, uo, none⟩) ul uc) ∧ (c : Int) < (ul : Int) ∧ w.cell? ⟨ub, uo + c, none⟩ = some (.int .i64 (fcol xss c k))) := fun r hr => by
    have e := HLN.out r hr
    obtain ⟨b, off, ub, uo, uc, h1', h2', h3'⟩ := h1.place hr (c := c) (by omega)
    exact ⟨b, off, ub, uo, _, uc, h1', h2', by omega, h3'⟩
  have h0 := C3.here w (.int .i64 p) (.slice a xss.length ca) (.slice b' yss.length cb) 27
  have hk0 := h0.lt
  have hc0 : (0 : Int) ≤ (c : Int) := by omega
  clear hb h1 HLN hc
  generalize hn : xss.length = n at *
  generalize yss.length = m at *
  clear hn
  generalize fcol xss c = f at *
  obtain ⟨s1, s2, s3⟩ := jend_spec f r n
  have HIN := Lib.hid (wk_in hf hr)
  have HGO := Lib.hid (fun i (h : i < jend f r n) => wk_go h)
  have HST := Lib.hid (fun i (h : 0 ≤ wk f r i) => wk_step h)
  have HNI := Lib.hid (fun k (hj : jend f r n < n) (hk : k ≤ jend f r n) => chL_notin (f := f) (r := r) hj hk)
  have HSH := Lib.hid (fun k (hk : k ≤ jend f r n + 1) (h : (chL f r k).Nodup) => chL_short hf hr hk h)
  have HSN := Lib.hid (fun k => chL_succ f r k)
  have HLE := Lib.hid (fun k => chL_len f r k)
  have HND := Lib.hid (fun k (h : (chL f r k).Nodup) (h2 : wk f r k ∉ chL f r k) => chL_nodup_step h h2)
  have HT : Hid (jend f r n < n → wk f r (jend f r n + 1) = wk f r (jend f r n) → chB f r n = true ∧ chR f r n = chL f r (jend f r n + 1)) := fun h1 h2 => by
    have e : chB f r n = true := decide_eq_true ⟨h1, h2⟩
    exact ⟨e, by unfold chR; rw [if_pos e]⟩
  have HF : Hid (¬ (jend f r n < n ∧ wk f r (jend f r n + 1) = wk f r (jend f r n)) → chB f r n = false ∧ chR f r n = []) := fun h => by
    have e : chB f r n = false := decide_eq_false h
    exact ⟨e, by unfold chR; rw [e]; rfl⟩
  have HS3 : Hid (jend f r n < n → wk f r (jend f r n + 1) = wk f r (jend f r n) ∨ wk f r (jend f r n + 1) < 0) := fun h => of_decide_eq_true (s3 h)
  have HS4 : Hid (∀ k, k ≤ jend f r n → -1 ≤ wk f r (k + 1)) := fun k hk => by
    have h5 := HIN.out k hk
    rw [HST.out k h5.1]
    exact (hf _ (by omega)).1
  clear s2 s3 hf
  generalize hJ : jend f r n = J at *
  generalize chB f r n = bR at *
  generalize chR f r n = lR at *
  clear hJ hr
  have HW0 : Hid ((r : Int) = wk f r 0) := rfl
  go_enter Try.func59, Try.ntmps59
  go_wp2_with fail
  have hO1 : Hid (Owns ((w.alloc (.cells #[.int .i64 p, .slice a n ca, .slice b' m cb] 27)).alloc (.cells #[.int .i64 (r : Int)] 2)) (w.heap.size + 1) (.slice (some ⟨w.heap.size + 1, 0, none⟩) 1 1) (chL f r 1)) := by
    have h := ownsOne (w.alloc (.cells #[.int .i64 p, .slice a n ca, .slice b' m cb] 27)) (r : Int) (w.heap.size + 1) (by simp)
    rw [World.size_alloc] at h
    exact h
  go_loopw [1, 8] (fun rw_ u wr => ∃ k : Nat, k ≤ J ∧ rw_ = .int .i64 (wk f r k) ∧ lenV u = k + 1 ∧ Below w.heap.size w wr ∧ C3 wr w.heap.size (.int .i64 p) (.slice a n ca) (.slice b' m cb) ∧ Owns wr (w.heap.size + 1) u (chL f r (k + 1))) (fun _ u _ => n + 2 - lenV u)
  case atStart => exact ⟨0, Nat.zero_le _, by rw [← HW0.out], rfl, by go_grown, h0.alloc _, hO1.out⟩
  case round =>
    clear h0 HW0 hO1
    obtain ⟨k, hk, rfl, hlk, hL, h0, oo⟩ := hrel
    have hLl := HLE.out (k + 1)
    have HSNk := Lib.hid (HSN.out (k + 1))
    have HCk : Hid (chL f r (k + 1) = chL f r (k + 1)) := rfl
    have HR1 : Hid (k = J → k < n → wk f r (k + 1) = wk f r k → bR = true ∧ lR = chL f r (k + 1)) := fun e h1 h2 => by subst e; exact HT.out h1 h2
    obtain ⟨L, hLe⟩ : ∃ L, chL f r (k + 1) = L := ⟨_, rfl⟩
    rw [hLe] at hLl oo HSNk HR1
    clear hLe HCk
    have OO := Lib.hid oo
    obtain ⟨ua, uc, rfl, hum, _⟩ := oo.reads
    simp only [lenV] at hlk
    have hsz := h0.lt
    clear oo
    obtain ⟨w0, w1⟩ := HIN.out k hk
    have hstep := HST.out k w0
    obtain ⟨X, hX⟩ : ∃ X : Nat, wk f r k = (X : Int) := ⟨(wk f r k).toNat, by omega⟩
    rw [hX, Int.toNat_natCast] at hstep
    rw [hX] at w0 w1
    obtain ⟨ab, ao, ub, uo, ul, uc', rfl, hx, hul, hy⟩ := HP.out X (by omega)
    have HXc := Lib.hid hx
    have HYc := Lib.hid hy
    have hfrom := Lib.hid (OO.out.rowsFrom (B := w.heap.size + 1) (Nat.le_refl _))
    have hL8 : L.length ≤ 9 := by omega
    obtain ⟨LL, hLL⟩ : ∃ LL, L.length = LL := ⟨_, rfl⟩
    by_cases hkn : k < n
    · have hc1 : ((L.length : Nat) : Int) ≤ (n : Int) := by omega
      have hrest : Hid (∀ wx, Below wr.heap.size wr wx → Below w.heap.size w wx ∧ C3 wx w.heap.size (.int .i64 p) (.slice (some ⟨ab, ao, none⟩) n ca) (.slice b' m cb) ∧ Owns wx (w.heap.size + 1) (.slice ua L.length uc) L) := fun wx h => ⟨chain (B := w.heap.size) (a := w) hL (Nat.le_refl _) h, h0.keep h, OO.out.keep h⟩
      by_cases he : f X = (X : Int)
      · -- the chain ends here
        have hkJ : k = J := by
          rcases Nat.lt_or_ge k J with h | h
          · exact absurd (by rw [hstep, hX]; exact he) (HGO.out k h).2
          · omega
        obtain ⟨hB, hR⟩ := HR1.out hkJ hkn (by rw [hstep, hX]; exact he)
        have HB := Lib.hid hB
        have HR := Lib.hid hR
        have hd2 : (f X == (X : Int)) = true := by simp [he]
        rw [hX]
        clear hX hB hR hLL hkJ hlk hLl hstep he HR1
        generalize f X = y at *
        go_wp2_with fail
        refine (HRI.out _ hL).mono ?_
        rintro e w2 ⟨rfl, hb⟩
        obtain ⟨hL', h0', oo⟩ := hrest.out _ hb
        have hca' := cell_later hL' HXc.out
        have hcb' := cell_later hL' HYc.out
        clear hb
        go_wp2_with fail
        go_ret2
        exact ⟨_, by rw [HB.out]; rfl, by rw [HR.out]; exact oo.mono (Nat.le_succ _), hL'⟩
      · have hd2 : (f X == (X : Int)) = false := by simp [he]
        by_cases hneg : f X < 0
        · have hkJ : k = J := by
            rcases Nat.lt_or_ge k J with h | h
            · have h1 := (HGO.out k h).1
              rw [hstep] at h1; omega
            · omega
          obtain ⟨hB, hR⟩ := HF.out (fun h => he (by rw [← hkJ, hstep, hX] at h; exact h.2))
          have HB := Lib.hid hB
          have HR := Lib.hid hR
          rw [hX]
          clear hX hB hR hLL hkJ hlk hLl hstep he HR1
          generalize f X = y at *
          go_wp2_with fail
          refine (HRI.out _ hL).mono ?_
          rintro e w2 ⟨rfl, hb⟩
          obtain ⟨hL', h0', oo⟩ := hrest.out _ hb
          have hca' := cell_later hL' HXc.out
          have hcb' := cell_later hL' HYc.out
          clear hb
          go_wp2_with fail
          go_ret2
          exact ⟨_, by rw [HB.out]; rfl, by rw [HR.out]; exact ownsNone _ _, hL'⟩
        · have hkJ : k < J := by
            rcases Nat.lt_or_ge k J with h | h
            · exact h
            · have e : k = J := by omega
              rcases HS3.out (by omega) with h3 | h3
              · rw [← e, hstep, hX] at h3; exact absurd h3 he
              · rw [← e, hstep] at h3; exact absurd h3 hneg
          have HYY : Hid (f X = wk f r (k + 1)) := hstep.symm
          have HSX : Hid (chL f r (k + 1 + 1) = L ++ [f X]) := by rw [Hid, HSNk.out, hstep]
          have hkl := Lib.hid hLl
          rw [hX]
          clear hX hLL hlk hLl hstep he HR1 HSNk
          generalize f X = y at *
          go_wp2_with fail
          refine (HRI.out _ hL).mono ?_
          rintro e w2 ⟨rfl, hb⟩
          obtain ⟨hL', h0', oo⟩ := hrest.out _ hb
          have OO' := Lib.hid oo
          have hca' := cell_later hL' HXc.out
          have hcb' := cell_later hL' HYc.out
          have hsz' := h0'.lt
          clear hb oo
          go_wp2_with (at_builtin; refine wpList_append_own _ rfl _ _ 36 rfl (w.heap.size + 1) 2 j0 (.int .i64 0) 1 8 Try.underlying36 hj0_ jz0 jz1 jz2 rfl (by decide) (.slice ua L.length uc) L.length (L.map (Value.int .i64)) rfl (World.ownsRow.alloc OO'.out _) ⟨w2.heap.size, 0, none⟩ 1 1 [.int .i64 y] rfl rfl (cell_one_new _ _ _) (by simp [Value.oneCell']) (by unfold maxLen; omega) (by omega) (by simp; omega) ?_; intro v' w5 hown' hgrow hnil; have h0'' := (h0'.alloc _).grown hgrow (fun e => absurd (hfrom.out _ e) (by omega)); have hL'' := (hL'.alloc (by omega) _).grown hgrow (by simp; omega) (fun q e => Nat.le_of_succ_le (hfrom.out q e)))
          have ho := Owns.snoc hown'
          rw [← HSX.out] at ho
          obtain ⟨va, vc, rfl, _, _⟩ := ho.reads
          exact ⟨⟨k + 1, by omega, by rw [HYY.out], by simp only [lenV]; exact HLE.out _, hL'', h0'', ho⟩, by simp only [lenV]; rw [HLE.out]; have := hkl.out; omega⟩
    · have hc1 : ¬ ((L.length : Nat) : Int) ≤ (n : Int) := by omega
      obtain ⟨hB, hR⟩ := HF.out (fun h => by omega)
      have HB := Lib.hid hB
      have HR := Lib.hid hR
      rw [hX]
      clear hX hB hR hLL hlk hLl hstep HR1
      go_wp2_with fail
      refine (HRI.out _ hL).mono ?_
      rintro e w2 ⟨rfl, hb⟩
      have hL' := chain (B := w.heap.size) (a := w) hL (Nat.le_refl _) hb
      clear hb
      go_wp2_with fail
      go_ret2
      exact ⟨_, by rw [HB.out]; rfl, by rw [HR.out]; exact ownsNone _ _, hL'⟩

end Go.Proofs.Ytnlcnbkookmfaaa
