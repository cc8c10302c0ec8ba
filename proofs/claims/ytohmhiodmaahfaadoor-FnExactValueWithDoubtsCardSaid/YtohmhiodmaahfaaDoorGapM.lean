/- Moments between two rows: values of formulas there (plain mathematics). -/
import Derived.Test.YtohmhiodmaahfaaDoorFvL
namespace Go.Proofs.YtohmhiodmaahfaaDoor
open Go.RowKit
set_option linter.unusedVariables false

mutual
theorem valF_congr {g h : Int → Bool} (e : ∀ c, leafC c = true → g c = h c) : ∀ t, wfF t → valF g t = valF h t
  | .mk c ms, hw => by
    simp only [wfF] at hw
    rcases hw with ⟨hl, rfl⟩ | ⟨ho, _, hm⟩
    · have h2 := of_decide_eq_false (show decide (c = 40 ∨ c = 91) = false from leaf_open hl)
      unfold valF
      rw [if_neg (by omega), if_neg (by omega), if_neg (by omega), if_neg (by omega)]
      exact e c hl
    · have h2 := of_decide_eq_true (show decide (c = 40 ∨ c = 91) = true from ho)
      rcases h2 with rfl | rfl
      · rw [valF_and, valF_and]; exact andF_congr e ms hm
      · rw [valF_or, valF_or]; exact orF_congr e ms hm
theorem andF_congr {g h : Int → Bool} (e : ∀ c, leafC c = true → g c = h c) : ∀ ts, wfL ts → andF g ts = andF h ts
  | [], _ => rfl
  | t :: ts, hw => by
    simp only [wfL] at hw
    simp only [andF]
    rw [valF_congr e t hw.1, andF_congr e ts hw.2]
theorem orF_congr {g h : Int → Bool} (e : ∀ c, leafC c = true → g c = h c) : ∀ ts, wfL ts → orF g ts = orF h ts
  | [], _ => rfl
  | t :: ts, hw => by
    simp only [wfL] at hw
    simp only [orF]
    rw [valF_congr e t hw.1, orF_congr e ts hw.2]
end

/-- the value of a sign in a moment of an input in a row: its contacts are all closed, or open -/
def momV (row input : Int) (cl : Bool) (c : Int) : Bool := if c = 48 then false else if c = 49 then true else if inpC c = input then cl else (digZ row (inpC c) != kndC c)
/-- the row with the digit of the input 0, and that with the digit 1 -/
def lowN (r i : Nat) : Nat := r - dig r i * 2 ^ i
def highN (r i : Nat) : Nat := lowN r i + 2 ^ i
def lowR (r i : Int) : Int := ((lowN r.toNat i.toNat : Nat) : Int)
def highR (r i : Int) : Int := ((highN r.toNat i.toNat : Nat) : Int)
theorem low_facts : ∀ (r : Fin 32) (i k : Fin 5), lowN r i ≤ 31 ∧ highN r i ≤ 31 ∧ dig (lowN r i) k = (if k = i then 0 else dig r k) ∧ dig (highN r i) k = (if k = i then 1 else dig r k) := by decide +kernel
theorem low_bits : ∀ (r : Fin 32) (i : Fin 5), bits .andNot .i64 (r.val : Int) ((2 ^ i.val : Nat) : Int) = ((lowN r i : Nat) : Int) ∧ bits .or .i64 (r.val : Int) ((2 ^ i.val : Nat) : Int) = ((highN r i : Nat) : Int) := by decide +kernel
theorem lowR_bd {r i : Int} (h0 : 0 ≤ r) (h1 : r ≤ 31) (i0 : 0 ≤ i) (i1 : i < 5) : 0 ≤ lowR r i ∧ lowR r i ≤ 31 ∧ 0 ≤ highR r i ∧ highR r i ≤ 31 := by
  have := low_facts ⟨r.toNat, by omega⟩ ⟨i.toNat, by omega⟩ 0
  simp only at this
  unfold lowR highR
  omega
theorem lowR_dig {r i k : Int} (h0 : 0 ≤ r) (h1 : r ≤ 31) (i0 : 0 ≤ i) (i1 : i < 5) (k0 : 0 ≤ k) (k1 : k < 5) : digZ (lowR r i) k = (if k = i then 0 else digZ r k) ∧ digZ (highR r i) k = (if k = i then 1 else digZ r k) := by
  have := low_facts ⟨r.toNat, by omega⟩ ⟨i.toNat, by omega⟩ ⟨k.toNat, by omega⟩
  have e : ((⟨k.toNat, by omega⟩ : Fin 5) = ⟨i.toNat, by omega⟩) ↔ k = i := by rw [Fin.mk.injEq]; omega
  simp only [e] at this
  unfold lowR highR digZ
  rw [Int.toNat_natCast, Int.toNat_natCast, this.2.2.1, this.2.2.2]
  constructor <;> split <;> rfl
theorem lowR_bits {r i : Int} (h0 : 0 ≤ r) (h1 : r ≤ 31) (i0 : 0 ≤ i) (i1 : i < 5) : bits .andNot .i64 r (2 ^ i.toNat) = lowR r i ∧ bits .or .i64 r (2 ^ i.toNat) = highR r i := by
  have := low_bits ⟨r.toNat, by omega⟩ ⟨i.toNat, by omega⟩
  simp only [Int.natCast_pow] at this
  rw [show ((r.toNat : Nat) : Int) = r by omega] at this
  exact this
/-- the program's rows for the gap and the bridge give the values of the moment -/
theorem gap_leaf {r i : Int} (h0 : 0 ≤ r) (h1 : r ≤ 31) (i0 : 0 ≤ i) (i1 : i < 5) (c : Int) (hl : leafC c = true) :
    leafW (digZ (lowR r i)) (digZ (highR r i)) c = momV r i false c ∧ leafW (digZ (highR r i)) (digZ (lowR r i)) c = momV r i true c := by
  rw [leafC_eq] at hl
  cases hlt : letC c
  · rw [hlt] at hl
    simp at hl
    rcases hl with rfl | rfl <;> exact ⟨rfl, rfl⟩
  · have h2 := of_decide_eq_true (show decide ((97 ≤ c ∧ c ≤ 101) ∨ (65 ≤ c ∧ c ≤ 69)) = true from hlt)
    have hib := (letC_iff (c := c) (by omega)).1 hlt
    have hd := lowR_dig h0 h1 i0 i1 hib.1 hib.2
    rw [leafW_dig hlt rfl rfl, leafW_dig hlt rfl rfl]
    unfold momV
    have h48 : ¬ c = 48 := by omega
    have h49 : ¬ c = 49 := by omega
    rw [if_neg h48, if_neg h48, if_neg h49, if_neg h49]
    have hk : kndC c = 0 ∨ kndC c = 1 := by unfold kndC; split <;> omega
    generalize inpC c = j at *
    rcases hk with hk | hk <;> rw [hk]
    · rw [if_pos rfl, if_pos rfl, hd.1, hd.2]
      by_cases e : j = i
      · simp [e]
      · simp [e]
    · rw [if_neg (show ¬ (1 : Int) = 0 by decide), if_neg (show ¬ (1 : Int) = 0 by decide), hd.1, hd.2]
      by_cases e : j = i
      · simp [e]
      · simp [e]
theorem gap_val {r i : Int} (h0 : 0 ≤ r) (h1 : r ≤ 31) (i0 : 0 ≤ i) (i1 : i < 5) {t : Fm} (hw : wfF t) :
    valF (leafW (digZ (lowR r i)) (digZ (highR r i))) t = valF (momV r i false) t ∧ valF (leafW (digZ (highR r i)) (digZ (lowR r i))) t = valF (momV r i true) t :=
  ⟨valF_congr (fun c hl => (gap_leaf h0 h1 i0 i1 c hl).1) t hw, valF_congr (fun c hl => (gap_leaf h0 h1 i0 i1 c hl).2) t hw⟩

end Go.Proofs.YtohmhiodmaahfaaDoor
