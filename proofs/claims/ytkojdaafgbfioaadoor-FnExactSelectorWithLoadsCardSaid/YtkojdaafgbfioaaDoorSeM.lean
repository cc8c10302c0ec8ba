/- Selectors: texts of trees, plain mathematics. -/
import Derived.Test.YtkojdaafgbfioaaDoorSwM
namespace Go.Proofs.YtkojdaafgbfioaaDoor
open Go.RowKit
set_option linter.unusedVariables false

/-- how many inputs are left in a set -/
def pcN (L : Nat) : Nat := dig L 0 + dig L 1 + dig L 2 + dig L 3 + dig L 4
theorem pc_fin : ∀ L : Fin 32, (L.val = 0 ↔ pcN L.val = 0) ∧ ∀ d : Fin 5, dig L.val d.val = 1 → pcN L.val = pcN (L.val - 2 ^ d.val) + 1 ∧ 2 ^ d.val ≤ L.val ∧ dig (L.val - 2 ^ d.val) d.val = 0 := by decide +kernel
theorem pc_zero {L : Nat} (hL : L < 32) : L = 0 ↔ pcN L = 0 := (pc_fin ⟨L, hL⟩).1
theorem pc_less {L d : Nat} (hL : L < 32) (hd : d < 5) (h : dig L d = 1) : pcN L = pcN (L - 2 ^ d) + 1 ∧ 2 ^ d ≤ L := 
  have := (pc_fin ⟨L, hL⟩).2 ⟨d, hd⟩ h
  ⟨this.1, this.2.1⟩
theorem pc_fin5 {L : Nat} (hL : L < 32) : pcN L ≤ 5 := by
  have key : ∀ L : Fin 32, pcN L.val ≤ 5 := by decide +kernel
  exact key ⟨L, hL⟩
theorem pc_full : ∀ n : Fin 6, pcN (2 ^ n.val - 1) = n.val := by decide +kernel

/-- the length of a selector for so many inputs -/
def lenT (m : Nat) : Nat := 2 ^ (m + 1) - 1
theorem lenT_zero : lenT 0 = 1 := rfl
theorem lenT_succ (m : Nat) : lenT (m + 1) = 2 * lenT m + 1 := by
  unfold lenT
  have : 2 ^ (m + 1 + 1) = 2 * 2 ^ (m + 1) := by rw [Nat.pow_succ]; omega
  have h := Nat.two_pow_pos (m + 1)
  omega
theorem lenT_pos (m : Nat) : 1 ≤ lenT m := by
  cases m with
  | zero => exact Nat.le_refl _
  | succ m => rw [lenT_succ]; omega
theorem lenT_le {m : Nat} (h : m ≤ 5) : lenT m ≤ 63 := by
  have : 2 ^ (m + 1) ≤ 2 ^ 6 := Nat.pow_le_pow_right (by decide) (by omega)
  unfold lenT; omega

/-- the digit at a place of a text -/
def dgt (s : ByteArray) (a : Nat) : Nat := (byteAt s a - 48).toNat
/-- is there a selector for the inputs of a set at a place of a text -/
def selAt (s : ByteArray) : Nat → Nat → Nat → Bool
  | 0, _, a => byteAt s a == 46
  | m + 1, L, a => decide ((0 ≤ byteAt s a - 48 ∧ byteAt s a - 48 < 5) ∧ dig L (dgt s a) = 1) && (selAt s m (L - 2 ^ dgt s a) (a + 1) && selAt s m (L - 2 ^ dgt s a) (a + 1 + lenT m))
theorem selAt_zero (s : ByteArray) (L a : Nat) : selAt s 0 L a = (byteAt s a == 46) := rfl
theorem selAt_succ (s : ByteArray) (m L a : Nat) : selAt s (m + 1) L a = (decide ((0 ≤ byteAt s a - 48 ∧ byteAt s a - 48 < 5) ∧ dig L (dgt s a) = 1) && (selAt s m (L - 2 ^ dgt s a) (a + 1) && selAt s m (L - 2 ^ dgt s a) (a + 1 + lenT m))) := rfl
theorem byteAt_out {s : ByteArray} {a : Nat} (h : s.size ≤ a) : byteAt s a = 0 := by unfold byteAt; rw [dif_neg (by omega)]
theorem selAt_in {s : ByteArray} : ∀ {m L a : Nat}, selAt s m L a = true → a + lenT m ≤ s.size := by
  intro m
  induction m with
  | zero =>
    intro L a h
    rw [selAt_zero] at h
    rw [lenT_zero]
    rcases Nat.lt_or_ge a s.size with hl | hl
    · omega
    · rw [byteAt_out hl] at h; exact absurd h (by decide)
  | succ m ih =>
    intro L a h
    rw [selAt_succ, Bool.and_eq_true, Bool.and_eq_true] at h
    have := ih h.2.2
    rw [lenT_succ]; omega
theorem selAt_extract {s : ByteArray} {b e : Nat} (he : e ≤ s.size) : ∀ {m L a : Nat}, b + a + lenT m ≤ e → selAt (s.extract b e) m L a = selAt s m L (b + a) := by
  intro m
  induction m with
  | zero =>
    intro L a h
    rw [lenT_zero] at h
    rw [selAt_zero, selAt_zero, byteAt_extract _ _ _ _ he (by omega)]
  | succ m ih =>
    intro L a h
    rw [lenT_succ] at h
    have hp := lenT_pos m
    have hb := byteAt_extract s b e a he (by omega)
    rw [selAt_succ, selAt_succ, ih (by omega), ih (by omega)]
    unfold dgt
    rw [hb, show b + (a + 1) = b + a + 1 by omega, show b + (a + 1 + lenT m) = b + a + 1 + lenT m by omega]

/-- a whole text is a selector for the inputs of a set, m of them -/
def SelU (m L : Nat) (u : ByteArray) : Prop := u.size = lenT m ∧ selAt u m L 0 = true
def loU (m : Nat) (u : ByteArray) : ByteArray := u.extract 1 (1 + lenT m)
def hiU (m : Nat) (u : ByteArray) : ByteArray := u.extract (1 + lenT m) u.size
theorem lo_size {m : Nat} {u : ByteArray} (h : u.size = lenT (m + 1)) : (loU m u).size = lenT m := by
  rw [lenT_succ] at h
  unfold loU; rw [extract_size _ _ _ (by omega)]; omega
theorem hi_size {m : Nat} {u : ByteArray} (h : u.size = lenT (m + 1)) : (hiU m u).size = lenT m := by
  rw [lenT_succ] at h
  unfold hiU; rw [extract_size _ _ _ (by omega)]; omega
theorem sel_split {m L : Nat} {u : ByteArray} (h : u.size = lenT (m + 1)) : selAt u (m + 1) L 0 = (decide ((0 ≤ byteAt u 0 - 48 ∧ byteAt u 0 - 48 < 5) ∧ dig L (dgt u 0) = 1) && (selAt (loU m u) m (L - 2 ^ dgt u 0) 0 && selAt (hiU m u) m (L - 2 ^ dgt u 0) 0)) := by
  rw [lenT_succ] at h
  unfold loU hiU
  rw [selAt_succ, selAt_extract (by omega) (by omega), selAt_extract (Nat.le_refl _) (by omega)]
  simp only [Nat.add_zero, Nat.zero_add]
theorem SelU.fork {m L : Nat} {u : ByteArray} (h : SelU (m + 1) L u) : (48 ≤ byteAt u 0 ∧ byteAt u 0 < 53 ∧ dgt u 0 < 5 ∧ (dgt u 0 : Int) = byteAt u 0 - 48) ∧ dig L (dgt u 0) = 1 ∧ SelU m (L - 2 ^ dgt u 0) (loU m u) ∧ SelU m (L - 2 ^ dgt u 0) (hiU m u) := by
  have h2 := h.2
  rw [sel_split h.1, Bool.and_eq_true, Bool.and_eq_true, decide_eq_true_eq] at h2
  obtain ⟨⟨⟨h3, h4⟩, h5⟩, h6, h7⟩ := h2
  have e : (dgt u 0 : Int) = byteAt u 0 - 48 := by unfold dgt; omega
  exact ⟨⟨by omega, by omega, by omega, e⟩, h5, ⟨lo_size h.1, h6⟩, ⟨hi_size h.1, h7⟩⟩
theorem SelU.leaf {L : Nat} {u : ByteArray} (h : SelU 0 L u) : u = ⟨#[46]⟩ := by
  have h2 := h.2
  rw [selAt_zero] at h2
  have h3 : byteAt u 0 = 46 := by simpa using h2
  have h1 : u.size = 1 := h.1
  refine bytes_ext (by rw [h1]; rfl) fun k hk => ?_
  have : k = 0 := by omega
  subst this
  rw [h3]; rfl
/-- is a text a selector for n inputs -/
def isSel (n : Int) (s : ByteArray) : Bool := decide (1 ≤ n ∧ n ≤ 5) && (decide (s.size = lenT n.toNat) && selAt s n.toNat (2 ^ n.toNat - 1) 0)
theorem isSel_out {n : Int} {s : ByteArray} (h : isSel n s = true) : (1 ≤ n ∧ n ≤ 5) ∧ SelU n.toNat (2 ^ n.toNat - 1) s := by
  unfold isSel at h
  rw [Bool.and_eq_true, Bool.and_eq_true, decide_eq_true_eq, decide_eq_true_eq] at h
  exact ⟨h.1, h.2.1, h.2.2⟩
theorem isSel_no {n : Int} {s : ByteArray} (h : ¬ (1 ≤ n ∧ n ≤ 5)) : isSel n s = false := by
  unfold isSel; rw [decide_eq_false h]; rfl
theorem isSel_len {n : Int} {s : ByteArray} (h : s.size ≠ lenT n.toNat) : isSel n s = false := by
  unfold isSel; rw [decide_eq_false h]; simp
theorem isSel_at {n : Int} {s : ByteArray} (h : 1 ≤ n ∧ n ≤ 5) (hs : s.size = lenT n.toNat) : isSel n s = selAt s n.toNat (2 ^ n.toNat - 1) 0 := by
  unfold isSel; rw [decide_eq_true h, decide_eq_true hs]; simp

def resIsSelector_0 (n : Int) (s : ByteArray) : Bool := isSel n s
/-- the end of the selector that the model's machine finds -/
def endT (s : ByteArray) (m L a : Nat) : Int := if selAt s m L a = true then ((a + lenT m : Nat) : Int) else -1
theorem endT_yes {s : ByteArray} {m L a : Nat} (h : selAt s m L a = true) : endT s m L a = ((a + lenT m : Nat) : Int) := if_pos h
theorem endT_no {s : ByteArray} {m L a : Nat} (h : selAt s m L a = false) : endT s m L a = -1 := if_neg (by rw [h]; decide)

/-- a digit taken out of a set, in the walk's words -/
theorem out_walk {L d : Nat} (hL : L < 32) (hd : d < 5) (h : dig L d = 1) : bits .andNot .i64 (L : Int) (wrap64 (2 ^ d)) = ((L - 2 ^ d : Nat) : Int) := by
  have key : ∀ L : Fin 32, ∀ d : Fin 5, dig L.val d.val = 1 → bits .andNot .i64 (L.val : Int) (wrap64 (2 ^ d.val)) = ((L.val - 2 ^ d.val : Nat) : Int) := by decide +kernel
  exact key ⟨L, hL⟩ ⟨d, hd⟩ h

/-- the rows of the ends -/
def rowsU : Nat → ByteArray → Nat → List Int
  | 0, _, row => [(row : Int)]
  | m + 1, u, row => rowsU m (loU m u) row ++ rowsU m (hiU m u) (row ||| 2 ^ dgt u 0)
theorem rowsU_len (m : Nat) : ∀ (u : ByteArray) (row : Nat), (rowsU m u row).length = 2 ^ m := by
  induction m with
  | zero => intro u row; rfl
  | succ m ih =>
    intro u row
    rw [rowsU, List.length_append, ih, ih, Nat.pow_succ]; omega

end Go.Proofs.YtkojdaafgbfioaaDoor
