/- Formulas: how a text is read (plain mathematics). -/
import Derived.Test.YtohmhiodmaahfaaDoorMath
namespace Go.Proofs.YtohmhiodmaahfaaDoor
set_option linter.unusedVariables false

/-- a formula that has been read: its first sign, and its members if that is a bracket -/
inductive Fm where
  | mk (sign : Int) (members : List Fm) : Fm
def Fm.sign : Fm → Int | .mk c _ => c
def Fm.members : Fm → List Fm | .mk _ ms => ms

/-- a make or break contact, or 0 or 1 -/
def leafC (c : Int) : Bool := decide ((97 ≤ c ∧ c ≤ 101) ∨ (65 ≤ c ∧ c ≤ 69) ∨ c = 48 ∨ c = 49)
def openC (c : Int) : Bool := decide (c = 40 ∨ c = 91)
def closeC (c : Int) : Int := if c = 91 then 93 else 41
theorem leaf_open {c : Int} (h : leafC c = true) : openC c = false := by
  simp [leafC, openC] at *
  omega
theorem close_leaf (c : Int) : leafC (closeC c) = false := by unfold closeC; split <;> rfl
theorem close_open (c : Int) : openC (closeC c) = false := by unfold closeC; split <;> rfl

/-- the formula that begins at a place (mode none), or the rest of the members of the bracket c behind those of acc (mode (c, acc)), and the place behind -/
def rdF (f : Nat → Int) (n : Nat) (m : Option (Int × List Fm)) (at_ : Nat) : Option (Fm × Nat) :=
  if h : at_ < n then
    match m with
    | none =>
      if leafC (f at_) then some (.mk (f at_) [], at_ + 1)
      else if openC (f at_) then rdF f n (some (f at_, [])) (at_ + 1)
      else none
    | some (c, acc) =>
      if f at_ = closeC c then (if 2 ≤ acc.length then some (.mk c acc, at_ + 1) else none)
      else match rdF f n none at_ with
        | none => none
        | some (t, e) => if at_ < e then rdF f n (some (c, acc ++ [t])) e else none
  else none
termination_by 2 * (n - at_) + (if m.isSome then 1 else 0)
decreasing_by all_goals (simp; try omega)

theorem rdF_end {f : Nat → Int} {n : Nat} {m : Option (Int × List Fm)} {a : Nat} (h : n ≤ a) : rdF f n m a = none := by
  rw [rdF.eq_def, dif_neg (by omega)]
theorem rdF_leaf {f : Nat → Int} {n a : Nat} (h : a < n) (hl : leafC (f a) = true) : rdF f n none a = some (.mk (f a) [], a + 1) := by
  rw [rdF.eq_def, dif_pos h]; simp [hl]
theorem rdF_open {f : Nat → Int} {n a : Nat} (h : a < n) (ho : openC (f a) = true) : rdF f n none a = rdF f n (some (f a, [])) (a + 1) := by
  have hl : leafC (f a) = false := by
    cases e : leafC (f a) with
    | false => rfl
    | true => rw [leaf_open e] at ho; cases ho
  rw [rdF.eq_def, dif_pos h]
  simp [hl, ho]
theorem rdF_none {f : Nat → Int} {n a : Nat} (hl : leafC (f a) = false) (ho : openC (f a) = false) : rdF f n none a = none := by
  rw [rdF]
  split
  · simp only [hl, ho]; simp
  · rfl
theorem rdF_close {f : Nat → Int} {n a : Nat} {c : Int} {acc : List Fm} (h : a < n) (hc : f a = closeC c) (h2 : 2 ≤ acc.length) : rdF f n (some (c, acc)) a = some (.mk c acc, a + 1) := by
  rw [rdF, dif_pos h]; simp only [hc, if_true, if_pos h2]
theorem rdF_few {f : Nat → Int} {n a : Nat} {c : Int} {acc : List Fm} (hc : f a = closeC c) (h2 : ¬ 2 ≤ acc.length) : rdF f n (some (c, acc)) a = none := by
  rw [rdF.eq_def]
  by_cases ha : a < n
  · rw [dif_pos ha]; simp [hc, h2]
  · rw [dif_neg ha]
theorem rdF_adv : ∀ (f : Nat → Int) (n : Nat) (m : Option (Int × List Fm)) (a : Nat) (t : Fm) (e : Nat), rdF f n m a = some (t, e) → a < e ∧ e ≤ n := by
  intro f n m a
  induction m, a using rdF.induct f n with
  | case1 a h hl =>
    intro t e he
    rw [rdF_leaf h hl] at he
    simp only [Option.some.injEq, Prod.mk.injEq] at he
    omega
  | case2 a h hl ho ih =>
    intro t e he
    rw [rdF_open h ho] at he
    have := ih t e he
    omega
  | case3 a h hl ho =>
    intro t e he
    rw [rdF_none (by simpa using hl) (by simpa using ho)] at he
    cases he
  | case4 a h c acc hc h2 =>
    intro t e he
    rw [rdF_close h hc h2] at he
    simp only [Option.some.injEq, Prod.mk.injEq] at he
    omega
  | case5 a h c acc hc h2 =>
    intro t e he
    rw [rdF_few hc h2] at he
    cases he
  | case6 a h c acc hc hn ih =>
    intro t e he
    rw [rdF, dif_pos h] at he
    simp only [if_neg hc, hn] at he
    cases he
  | case7 a h c acc hc t1 e1 hn hlt ih1 ih2 =>
    intro t e he
    rw [rdF, dif_pos h] at he
    simp only [if_neg hc, hn, if_pos hlt] at he
    have := ih2 t e he
    omega
  | case8 a h c acc hc t1 e1 hn hlt ih1 =>
    intro t e he
    rw [rdF, dif_pos h] at he
    simp only [if_neg hc, hn, if_neg hlt] at he
    cases he
  | case9 m a h =>
    intro t e he
    rw [rdF_end (by omega)] at he
    cases he
theorem rdF_fail {f : Nat → Int} {n a : Nat} {c : Int} {acc : List Fm} (hn : rdF f n none a = none) (h : f a ≠ closeC c) : rdF f n (some (c, acc)) a = none := by
  rw [rdF.eq_def]
  by_cases ha : a < n
  · rw [dif_pos ha]; simp [h, hn]
  · rw [dif_neg ha]
theorem rdF_more {f : Nat → Int} {n a e : Nat} {c : Int} {acc : List Fm} {t : Fm} (ha : a < n) (hn : rdF f n none a = some (t, e)) : rdF f n (some (c, acc)) a = rdF f n (some (c, acc ++ [t])) e := by
  have h : f a ≠ closeC c := by
    intro h
    rw [rdF_none (by rw [h]; exact close_leaf c) (by rw [h]; exact close_open c)] at hn
    cases hn
  rw [rdF.eq_def, dif_pos ha]
  simp only [if_neg h, hn, if_pos (rdF_adv _ _ _ _ _ _ hn).1]

/-- what the machine ends with, when the formula t has been read up to the place e, within the brackets of st (the inmost first) -/
def finF (f : Nat → Int) (n : Nat) : List (Int × List Fm) → Fm → Nat → Option Fm
  | [], t, e => if e = n then some t else none
  | (c, acc) :: st, t, e => match rdF f n (some (c, acc ++ [t])) e with
    | none => none
    | some (t2, e2) => finF f n st t2 e2
/-- what it ends with when a formula is to begin -/
def begF (f : Nat → Int) (n : Nat) (st : List (Int × List Fm)) (a : Nat) : Option Fm :=
  match rdF f n none a with
  | none => none
  | some (t, e) => finF f n st t e
/-- the formula that the whole text is -/
def wholeF (f : Nat → Int) (n : Nat) : Option Fm := begF f n [] 0
theorem rdF_step {f : Nat → Int} {n a : Nat} {c : Int} {acc : List Fm} (h : ¬ (a < n ∧ f a = closeC c ∧ 2 ≤ acc.length)) :
    rdF f n (some (c, acc)) a = match rdF f n none a with | none => none | some (t, e) => rdF f n (some (c, acc ++ [t])) e := by
  by_cases ha : a < n
  · by_cases hc : f a = closeC c
    · have h2 : ¬ 2 ≤ acc.length := fun h2 => h ⟨ha, hc, h2⟩
      rw [rdF_few hc h2, rdF_none (by rw [hc]; exact close_leaf c) (by rw [hc]; exact close_open c)]
    · cases hn : rdF f n none a with
      | none => exact rdF_fail hn hc
      | some r => obtain ⟨t, e⟩ := r; exact rdF_more ha hn
  · rw [rdF_end (by omega), rdF_end (by omega)]
theorem begF_end {f : Nat → Int} {n : Nat} {st : List (Int × List Fm)} {a : Nat} (h : n ≤ a) : begF f n st a = none := by
  unfold begF; rw [rdF_end h]
theorem begF_leaf {f : Nat → Int} {n a : Nat} {st : List (Int × List Fm)} (h : a < n) (hl : leafC (f a) = true) : begF f n st a = finF f n st (.mk (f a) []) (a + 1) := by
  unfold begF; rw [rdF_leaf h hl]
theorem begF_none {f : Nat → Int} {n a : Nat} {st : List (Int × List Fm)} (hl : leafC (f a) = false) (ho : openC (f a) = false) : begF f n st a = none := by
  unfold begF; rw [rdF_none hl ho]
theorem begF_open {f : Nat → Int} {n a : Nat} {st : List (Int × List Fm)} (h : a < n) (ho : openC (f a) = true) : begF f n st a = begF f n ((f a, []) :: st) (a + 1) := by
  unfold begF
  rw [rdF_open h ho, rdF_step (by simp)]
  cases hn : rdF f n none (a + 1) with
  | none => rfl
  | some r => rfl
theorem finF_begin {f : Nat → Int} {n a : Nat} {c : Int} {acc : List Fm} {st : List (Int × List Fm)} {t : Fm} (h : ¬ (a < n ∧ f a = closeC c ∧ 2 ≤ (acc ++ [t]).length)) :
    finF f n ((c, acc) :: st) t a = begF f n ((c, acc ++ [t]) :: st) a := by
  unfold begF
  rw [finF, rdF_step h]
  cases hn : rdF f n none a with
  | none => rfl
  | some r => rfl
theorem finF_close {f : Nat → Int} {n a : Nat} {c : Int} {acc : List Fm} {st : List (Int × List Fm)} {t : Fm} (h : a < n) (hc : f a = closeC c) (h2 : 2 ≤ (acc ++ [t]).length) :
    finF f n ((c, acc) :: st) t a = finF f n st (.mk c (acc ++ [t])) (a + 1) := by
  rw [finF, rdF_close h hc h2]
theorem wholeF_eq (f : Nat → Int) (n : Nat) : wholeF f n = match rdF f n none 0 with | none => none | some (t, e) => if e = n then some t else none := by
  unfold wholeF begF
  cases hn : rdF f n none 0 with
  | none => rfl
  | some r => rfl

end Go.Proofs.YtohmhiodmaahfaaDoor
