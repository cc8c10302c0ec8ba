/- Contacts of a selector for rows: plain mathematics. -/
import Derived.Test.YtbliibcfnfgdmaaBrM
namespace Go.Proofs.Ytbliibcfnfgdmaa
open Go.RowKit
set_option linter.unusedVariables false

/-- does one of some rows agree with what is told of inputs -/
def needsB (xs : List Int) (I O : Nat) : Bool := xs.any fun x => x.toNat &&& I == O
/-- the number of contacts for rows, as the model counts them -/
def cntU : Nat → ByteArray → List Int → Nat → Nat → Nat
  | 0, _, _, _, _ => 0
  | m + 1, u, xs, I, O => if needsB xs I O = true then
      cntU m (loU m u) xs (I ||| 2 ^ dgt u 0) O + cntU m (hiU m u) xs (I ||| 2 ^ dgt u 0) (O ||| 2 ^ dgt u 0) + (if needsB xs (I ||| 2 ^ dgt u 0) O = true then 1 else 0) + (if needsB xs (I ||| 2 ^ dgt u 0) (O ||| 2 ^ dgt u 0) = true then 1 else 0)
    else 0
theorem cntU_succ (m : Nat) (u : ByteArray) (xs : List Int) (I O : Nat) : cntU (m + 1) u xs I O = if needsB xs I O = true then
      cntU m (loU m u) xs (I ||| 2 ^ dgt u 0) O + cntU m (hiU m u) xs (I ||| 2 ^ dgt u 0) (O ||| 2 ^ dgt u 0) + (if needsB xs (I ||| 2 ^ dgt u 0) O = true then 1 else 0) + (if needsB xs (I ||| 2 ^ dgt u 0) (O ||| 2 ^ dgt u 0) = true then 1 else 0)
    else 0 := rfl
theorem cntU_le (m : Nat) : ∀ (u : ByteArray) (xs : List Int) (I O : Nat), cntU m u xs I O + 1 ≤ lenT m := by
  induction m with
  | zero => intro u xs I O; exact Nat.le_refl _
  | succ m ih =>
    intro u xs I O
    rw [cntU_succ, lenT_succ]
    have a := ih (loU m u) xs (I ||| 2 ^ dgt u 0) O
    have b := ih (hiU m u) xs (I ||| 2 ^ dgt u 0) (O ||| 2 ^ dgt u 0)
    split
    · split <;> split <;> omega
    · omega
/-- a set has just the rows of a list that agree with what is told -/
def SetAt (S : Nat) (xs : List Int) (I O : Nat) : Prop := ∀ k, S.testBit k = decide ((∃ x ∈ xs, x.toNat = k) ∧ k &&& I = O)
theorem SetAt.needs {S : Nat} {xs : List Int} {I O : Nat} (h : SetAt S xs I O) : S ≠ 0 ↔ needsB xs I O = true := by
  rw [ne_zero_iff]
  unfold needsB
  rw [List.any_eq_true]
  constructor
  · rintro ⟨k, hk⟩
    rw [h k, decide_eq_true_eq] at hk
    obtain ⟨⟨x, hx, rfl⟩, hO⟩ := hk
    exact ⟨x, hx, by simpa using hO⟩
  · rintro ⟨x, hx, hO⟩
    exact ⟨x.toNat, by rw [h]; exact decide_eq_true ⟨⟨x, hx, rfl⟩, by simpa using hO⟩⟩
theorem and_lo {k I O d : Nat} (hI : I.testBit d = false) (hO : O.testBit d = false) : (k &&& (I ||| 2 ^ d) = O) ↔ (k &&& I = O ∧ k.testBit d = false) := by
  have key : ∀ j, (2 ^ d).testBit j = decide (d = j) := fun j => Nat.testBit_two_pow
  constructor
  · intro h
    have hb : ∀ j, (k.testBit j && (I.testBit j || decide (d = j))) = O.testBit j := fun j => by rw [← h, Nat.testBit_and, Nat.testBit_or, key]
    have hd : k.testBit d = false := by
      have := hb d
      rw [hO, decide_eq_true rfl] at this
      simpa using this
    refine ⟨Nat.eq_of_testBit_eq fun j => ?_, hd⟩
    rw [Nat.testBit_and, ← hb j]
    by_cases e : d = j
    · subst e; rw [hd]; simp
    · rw [decide_eq_false e]; simp
  · rintro ⟨h, hd⟩
    refine Nat.eq_of_testBit_eq fun j => ?_
    rw [← h, Nat.testBit_and, Nat.testBit_and, Nat.testBit_or, key]
    by_cases e : d = j
    · subst e; rw [hd]; simp
    · rw [decide_eq_false e]; simp
theorem and_hi {k I O d : Nat} (hI : I.testBit d = false) (hO : O.testBit d = false) : (k &&& (I ||| 2 ^ d) = O ||| 2 ^ d) ↔ (k &&& I = O ∧ k.testBit d = true) := by
  have key : ∀ j, (2 ^ d).testBit j = decide (d = j) := fun j => Nat.testBit_two_pow
  constructor
  · intro h
    have hb : ∀ j, (k.testBit j && (I.testBit j || decide (d = j))) = (O.testBit j || decide (d = j)) := fun j => by
      have := congrArg (fun z => Nat.testBit z j) h
      simpa only [Nat.testBit_and, Nat.testBit_or, key] using this
    have hd : k.testBit d = true := by
      have := hb d
      rw [decide_eq_true rfl] at this
      simpa using this
    refine ⟨Nat.eq_of_testBit_eq fun j => ?_, hd⟩
    rw [Nat.testBit_and]
    have := hb j
    by_cases e : d = j
    · subst e; rw [hI, hO]; simp
    · rw [decide_eq_false e] at this; simpa using this
  · rintro ⟨h, hd⟩
    refine Nat.eq_of_testBit_eq fun j => ?_
    rw [← h, Nat.testBit_or, Nat.testBit_and, Nat.testBit_and, Nat.testBit_or, key]
    by_cases e : d = j
    · subst e; rw [hd]; simp
    · rw [decide_eq_false e]; simp
theorem SetAt.lo {S d : Nat} {xs : List Int} {I O : Nat} (h : SetAt S xs I O) (hS : S < 4294967296) (hI : I.testBit d = false) (hO : O.testBit d = false) : SetAt (loS S d) xs (I ||| 2 ^ d) O := by
  intro k
  rw [loS_bit hS, h k, Bool.eq_iff_iff]
  simp only [Bool.and_eq_true, Bool.not_eq_true', decide_eq_true_eq, and_lo hI hO]
  constructor
  · rintro ⟨⟨a, b⟩, c⟩; exact ⟨a, b, c⟩
  · rintro ⟨a, b, c⟩; exact ⟨⟨a, b⟩, c⟩
theorem SetAt.hi {S d : Nat} {xs : List Int} {I O : Nat} (h : SetAt S xs I O) (hS : S < 4294967296) (hI : I.testBit d = false) (hO : O.testBit d = false) : SetAt (hiS S d) xs (I ||| 2 ^ d) (O ||| 2 ^ d) := by
  intro k
  rw [hiS_bit hS, h k, Bool.eq_iff_iff]
  simp only [Bool.and_eq_true, decide_eq_true_eq, and_hi hI hO]
  constructor
  · rintro ⟨⟨a, b⟩, c⟩; exact ⟨a, b, c⟩
  · rintro ⟨a, b, c⟩; exact ⟨⟨a, b⟩, c⟩
theorem brU_empty (m : Nat) (u : ByteArray) (p : Nat) : brU m u p 0 = [] := by
  cases m with
  | zero => rfl
  | succ m =>
    rw [brU_succ, sideU_none (by unfold loS; simp), sideU_none (by unfold hiS; simp)]; rfl
theorem brU_count (m : Nat) : ∀ {L : Nat} {u : ByteArray} {p S : Nat} {xs : List Int} {I O : Nat}, SelU m L u → L < 32 → S < 4294967296 → (∀ i, i < 5 → dig L i = 1 → I.testBit i = false ∧ O.testBit i = false) → SetAt S xs I O → (brU m u p S).length = cntU m u xs I O := by
  induction m with
  | zero => intro L u p S xs I O _ _ _ _ _; rfl
  | succ m ih =>
    intro L u p S xs I O hu hL hS hz h
    obtain ⟨⟨_, _, hd, _⟩, hbit, hlo, hhi⟩ := hu.fork
    obtain ⟨h3, h4, h5⟩ := sub_dig hL hd hbit
    obtain ⟨hI, hO⟩ := hz _ hd hbit
    rw [cntU_succ]
    by_cases hn : needsB xs I O = true
    · rw [if_pos hn, brU_succ, List.length_append]
      have key : ∀ i, (2 ^ dgt u 0).testBit i = decide (dgt u 0 = i) := fun i => Nat.testBit_two_pow
      have hz0 : ∀ i, i < 5 → dig (L - 2 ^ dgt u 0) i = 1 → (I ||| 2 ^ dgt u 0).testBit i = false ∧ O.testBit i = false ∧ (O ||| 2 ^ dgt u 0).testBit i = false := fun i hi h1 => by
        have hne : i ≠ dgt u 0 := fun e => by rw [e, h4] at h1; omega
        have := hz i hi (by rw [← h5 i hi hne]; exact h1)
        rw [Nat.testBit_or, Nat.testBit_or, key, decide_eq_false (fun e => hne e.symm), this.1, this.2]; simp
      have a := ih (p := p + 1) hlo h3 (loS_lt hS _) (fun i hi h1 => ⟨(hz0 i hi h1).1, (hz0 i hi h1).2.1⟩) (h.lo hS hI hO)
      have b := ih (p := p + 1 + lenT m) hhi h3 (hiS_lt hS _) (fun i hi h1 => ⟨(hz0 i hi h1).1, (hz0 i hi h1).2.2⟩) (h.hi hS hI hO)
      have side : ∀ (f : Nat → List Br) (p q d kd T : Nat) (X Y : Nat), SetAt T xs X Y → (f T).length = (f T).length → (sideU f p q d kd T).length = (f T).length + (if needsB xs X Y = true then 1 else 0) ∨ (T = 0 ∧ needsB xs X Y = false) := fun f p q d kd T X Y hT _ => by
        by_cases h0 : T = 0
        · right
          refine ⟨h0, ?_⟩
          cases hb : needsB xs X Y
          · rfl
          · exact absurd h0 (hT.needs.2 hb)
        · left
          rw [sideU_some h0, List.length_cons, if_pos (hT.needs.1 h0)]
      have ea : (sideU (brU m (loU m u) (p + 1)) p (p + 1) (dgt u 0) 1 (loS S (dgt u 0))).length = cntU m (loU m u) xs (I ||| 2 ^ dgt u 0) O + (if needsB xs (I ||| 2 ^ dgt u 0) O = true then 1 else 0) := by
        rcases side (brU m (loU m u) (p + 1)) p (p + 1) (dgt u 0) 1 _ _ _ (h.lo hS hI hO) rfl with e | ⟨e1, e2⟩
        · rw [e, a]
        · rw [sideU_none e1, e2, ← a, e1, brU_empty]; rfl
      have eb : (sideU (brU m (hiU m u) (p + 1 + lenT m)) p (p + 1 + lenT m) (dgt u 0) 0 (hiS S (dgt u 0))).length = cntU m (hiU m u) xs (I ||| 2 ^ dgt u 0) (O ||| 2 ^ dgt u 0) + (if needsB xs (I ||| 2 ^ dgt u 0) (O ||| 2 ^ dgt u 0) = true then 1 else 0) := by
        rcases side (brU m (hiU m u) (p + 1 + lenT m)) p (p + 1 + lenT m) (dgt u 0) 0 _ _ _ (h.hi hS hI hO) rfl with e | ⟨e1, e2⟩
        · rw [e, b]
        · rw [sideU_none e1, e2, ← b, e1, brU_empty]; rfl
      rw [ea, eb]; omega
    · rw [if_neg hn]
      have : S = 0 := Nat.eq_zero_of_not_pos fun hp => hn (h.needs.1 (by omega))
      rw [this, brU_empty]; rfl

/-- the set of the numbers of a list -/
def orN (xs : List Int) : Nat → Nat
  | 0 => 0
  | k + 1 => orN xs k ||| 2 ^ (xs.getD k 0).toNat
theorem orN_lt {xs : List Int} (h : ∀ i, i < xs.length → 0 ≤ xs.getD i 0 ∧ xs.getD i 0 < 32) : ∀ k, k ≤ xs.length → orN xs k < 4294967296 := by
  intro k
  induction k with
  | zero => intro _; exact (by decide : (0 : Nat) < 4294967296)
  | succ k ih =>
    intro hk
    have := h k (by omega)
    exact Nat.or_lt_two_pow (n := 32) (ih (by omega)) (Nat.pow_lt_pow_right (by decide) (by omega))
theorem orN_bit (xs : List Int) (j : Nat) : ∀ k, (orN xs k).testBit j = decide (∃ i, i < k ∧ (xs.getD i 0).toNat = j) := by
  intro k
  induction k with
  | zero =>
    have h0 : (orN xs 0).testBit j = false := Nat.zero_testBit j
    rw [h0]; symm; apply decide_eq_false; rintro ⟨i, hi, _⟩; omega
  | succ k ih =>
    show (orN xs k ||| 2 ^ (xs.getD k 0).toNat).testBit j = _
    have key : (2 ^ (xs.getD k 0).toNat).testBit j = decide ((xs.getD k 0).toNat = j) := Nat.testBit_two_pow
    rw [Nat.testBit_or, ih, key, ← Bool.decide_or]
    apply decide_eq_decide.2
    constructor
    · rintro (⟨i, hi, e⟩ | e)
      · exact ⟨i, by omega, e⟩
      · exact ⟨k, by omega, e⟩
    · rintro ⟨i, hi, e⟩
      rcases Nat.lt_or_ge i k with h | h
      · exact .inl ⟨i, h, e⟩
      · have : i = k := by omega
        subst this; exact .inr e
theorem orN_set (xs : List Int) : SetAt (orN xs xs.length) xs 0 0 := by
  intro k
  rw [orN_bit]
  apply decide_eq_decide.2
  constructor
  · rintro ⟨i, hi, e⟩
    refine ⟨⟨xs.getD i 0, ?_, e⟩, by simp⟩
    rw [List.getD_eq_getElem?_getD, List.getElem?_eq_getElem hi]; exact List.getElem_mem hi
  · rintro ⟨⟨x, hx, e⟩, _⟩
    obtain ⟨i, hi, rfl⟩ := List.getElem_of_mem hx
    exact ⟨i, hi, by rw [List.getD_eq_getElem?_getD, List.getElem?_eq_getElem hi]; exact e⟩

end Go.Proofs.Ytbliibcfnfgdmaa
