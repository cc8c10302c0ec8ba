/- Values with doubts (plain mathematics). -/
import Derived.Test.YtohmhiodmaahfaaDoorGapI
import Derived.Test.YtohmhiodmaahfaaDoorFmS
import Derived.Test.YtohmhiodmaahfaaDoorSetsM
import Derived.Test.YtohmhiodmaahfaaDoorTrm
namespace Go.Proofs.YtohmhiodmaahfaaDoor
open Go.RowKit
set_option linter.unusedVariables false

mutual
theorem valF_mono {g h : Int → Bool} (e : ∀ c, leafC c = true → g c = true → h c = true) : ∀ t, wfF t → valF g t = true → valF h t = true
  | .mk c ms, hw, hv => by
    simp only [wfF] at hw
    rcases hw with ⟨hl, rfl⟩ | ⟨ho, _, hm⟩
    · have h2 := of_decide_eq_false (show decide (c = 40 ∨ c = 91) = false from leaf_open hl)
      unfold valF at hv ⊢
      rw [if_neg (by omega), if_neg (by omega)] at hv ⊢
      exact e c hl hv
    · have h2 := of_decide_eq_true (show decide (c = 40 ∨ c = 91) = true from ho)
      rcases h2 with rfl | rfl
      · rw [valF_and] at hv ⊢; exact andF_mono e ms hm hv
      · rw [valF_or] at hv ⊢; exact orF_mono e ms hm hv
theorem andF_mono {g h : Int → Bool} (e : ∀ c, leafC c = true → g c = true → h c = true) : ∀ ts, wfL ts → andF g ts = true → andF h ts = true
  | [], _, _ => rfl
  | t :: ts, hw, hv => by
    simp only [wfL] at hw
    simp only [andF, Bool.and_eq_true] at hv ⊢
    exact ⟨valF_mono e t hw.1 hv.1, andF_mono e ts hw.2 hv.2⟩
theorem orF_mono {g h : Int → Bool} (e : ∀ c, leafC c = true → g c = true → h c = true) : ∀ ts, wfL ts → orF g ts = true → orF h ts = true
  | [], _, hv => by cases hv
  | t :: ts, hw, hv => by
    simp only [wfL] at hw
    simp only [orF, Bool.or_eq_true] at hv ⊢
    rcases hv with hv | hv
    · exact .inl (valF_mono e t hw.1 hv)
    · exact .inr (orF_mono e ts hw.2 hv)
end

/-- the value of a sign where the contacts of the inputs told by ? are as b says -/
def leafD (s : ByteArray) (b : Bool) (c : Int) : Bool := if c = 48 then false else if c = 49 then true else if byteAt s (inpC c).toNat = 63 then b else (byteAt s (inpC c).toNat - 48 != kndC c)
theorem leafD_at {s : ByteArray} {b : Bool} {c : Int} (h : letC c = true) {i k : Int} (hi : inpC c = i) (hk : kndC c = k) : leafD s b c = if byteAt s i.toNat = 63 then b else (byteAt s i.toNat - 48 != k) := by
  have h2 := of_decide_eq_true (show decide ((97 ≤ c ∧ c ≤ 101) ∨ (65 ≤ c ∧ c ≤ 69)) = true from h)
  have h48 : ¬ c = 48 := by omega
  have h49 : ¬ c = 49 := by omega
  unfold leafD
  rw [if_neg h48, if_neg h49, hi, hk]
def isOne (x : Int) : Bool := decide (x = 49)
def isOneQ (x : Int) : Bool := decide (x = 49 ∨ x = 63)
/-- the row with 1 where the text has one of some signs -/
def plc (g : Int → Bool) (s : ByteArray) : Int := ((setOf (fun i => g (byteAt s i)) 5 : Nat) : Int)
theorem plc_bd (g : Int → Bool) (s : ByteArray) : 0 ≤ plc g s ∧ plc g s ≤ 31 := by
  have := setOf_lt (fun i => g (byteAt s i)) 5
  unfold plc; omega
theorem plc_dig (g : Int → Bool) (s : ByteArray) {i : Int} (h0 : 0 ≤ i) (h1 : i < 5) : digZ (plc g s) i = ((g (byteAt s i.toNat)).toNat : Int) := by
  unfold plc digZ
  rw [Int.toNat_natCast, setOf_dig _ (by omega)]
theorem vd_leaf {s : ByteArray} (hs : ∀ i, i < 5 → byteAt s i = 48 ∨ byteAt s i = 49 ∨ byteAt s i = 63) (c : Int) (hl : leafC c = true) :
    leafW (digZ (plc isOne s)) (digZ (plc isOneQ s)) c = leafD s false c ∧ leafW (digZ (plc isOneQ s)) (digZ (plc isOne s)) c = leafD s true c := by
  rw [leafC_eq] at hl
  cases hlt : letC c
  · rw [hlt] at hl
    simp at hl
    rcases hl with rfl | rfl <;> exact ⟨rfl, rfl⟩
  · have h2 := of_decide_eq_true (show decide ((97 ≤ c ∧ c ≤ 101) ∨ (65 ≤ c ∧ c ≤ 69)) = true from hlt)
    have hib := (letC_iff (c := c) (by omega)).1 hlt
    have hk : kndC c = 0 ∨ kndC c = 1 := by unfold kndC; split <;> omega
    rw [leafW_dig hlt rfl rfl, leafW_dig hlt rfl rfl, leafD_at hlt rfl rfl, leafD_at hlt rfl rfl]
    have hb := hs (inpC c).toNat (by omega)
    have d1 := plc_dig isOne s hib.1 hib.2
    have d2 := plc_dig isOneQ s hib.1 hib.2
    generalize inpC c = j at *
    generalize byteAt s j.toNat = x at *
    rcases hk with hk | hk <;> rw [hk]
    · rw [if_pos rfl, if_pos rfl, d1, d2]
      rcases hb with rfl | rfl | rfl <;> decide
    · rw [if_neg (show ¬ (1 : Int) = 0 by decide), if_neg (show ¬ (1 : Int) = 0 by decide), d1, d2]
      rcases hb with rfl | rfl | rfl <;> decide
theorem vd_val {s : ByteArray} (hs : ∀ i, i < 5 → byteAt s i = 48 ∨ byteAt s i = 49 ∨ byteAt s i = 63) {t : Fm} (hw : wfF t) :
    valF (leafW (digZ (plc isOne s)) (digZ (plc isOneQ s))) t = valF (leafD s false) t ∧ valF (leafW (digZ (plc isOneQ s)) (digZ (plc isOne s))) t = valF (leafD s true) t :=
  ⟨valF_congr (fun c hl => (vd_leaf hs c hl).1) t hw, valF_congr (fun c hl => (vd_leaf hs c hl).2) t hw⟩
theorem vd_le (s : ByteArray) {t : Fm} (hw : wfF t) (h : valF (leafD s false) t = true) : valF (leafD s true) t = true := by
  refine valF_mono (fun c hl hc => ?_) t hw h
  unfold leafD at hc ⊢
  split
  · rename_i h1; rw [if_pos h1] at hc; exact hc
  · rename_i h1
    rw [if_neg h1] at hc
    split
    · rfl
    · rename_i h2
      rw [if_neg h2] at hc
      split
      · rfl
      · rename_i h3; rw [if_neg h3] at hc; exact hc
/-- a text of five signs 0, 1, ? -/
def isDbt (s : ByteArray) : Bool := decide (s.size = 5) && allIn s [48, 49, 63]
theorem dbt_iff {s : ByteArray} : allIn s [48, 49, 63] = true ↔ ∀ i, i < s.size → byteAt s i = 48 ∨ byteAt s i = 49 ∨ byteAt s i = 63 := by
  rw [allIn_iff]
  constructor
  · intro h i hi
    obtain ⟨c, hc, e⟩ := h i hi
    rw [e]
    simp only [List.mem_cons, List.not_mem_nil, or_false] at hc
    rcases hc with rfl | rfl | rfl <;> decide
  · intro h i hi
    rcases h i hi with e | e | e <;> rw [e]
    · exact ⟨48, by simp, rfl⟩
    · exact ⟨49, by simp, rfl⟩
    · exact ⟨63, by simp, rfl⟩
/-- what ValueWithDoubts gives -/
def vdo (w s : ByteArray) : Int × Int := match fmOf w with
  | none => (0, 6)
  | some t => if isDbt s = true then (if valF (leafD s false) t = valF (leafD s true) t then b2i (valF (leafD s false) t) else 2, 0) else (0, 2)
theorem vdo_none {w s : ByteArray} (h : fmOf w = none) : vdo w s = (0, 6) := by unfold vdo; rw [h]
theorem vdo_out {w s : ByteArray} {t : Fm} (h : fmOf w = some t) (hs : isDbt s = false) : vdo w s = (0, 2) := by unfold vdo; rw [h]; exact if_neg (by rw [hs]; decide)
theorem vdo_in {w s : ByteArray} {t : Fm} (h : fmOf w = some t) (hs : isDbt s = true) : vdo w s = (if valF (leafD s false) t = valF (leafD s true) t then b2i (valF (leafD s false) t) else 2, 0) := by unfold vdo; rw [h]; exact if_pos hs
def resValueWithDoubts_0 (w s : ByteArray) : Int := (vdo w s).1
def resValueWithDoubts_1 (w s : ByteArray) : Int := (vdo w s).2

end Go.Proofs.YtohmhiodmaahfaaDoor
