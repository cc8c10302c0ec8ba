/- The value of a formula in a row, and the texts of formulas (plain mathematics). -/
import Derived.Test.YtohmhiodmaahfaaDoorFmT
import Derived.Test.YtohmhiodmaahfaaDoorSwM
namespace Go.Proofs.YtohmhiodmaahfaaDoor
open Go.RowKit
set_option linter.unusedVariables false

/-- the value of a sign that is no bracket -/
def leafV (d : Int → Int) (c : Int) : Bool := if c = 48 then false else if c = 49 then true else if c < 97 then decide (d (c - 65) = 0) else decide (d (c - 97) ≠ 0)
/-- the value of a sign that is no bracket: make contacts as in one row, break contacts as in another -/
def leafW (m b : Int → Int) (c : Int) : Bool := if c = 48 then false else if c = 49 then true else if c < 97 then decide (b (c - 65) = 0) else decide (m (c - 97) ≠ 0)
theorem leafW_same (d : Int → Int) : leafW d d = leafV d := rfl
mutual
/-- the value of a formula; d: the values of its signs -/
def valF (d : Int → Bool) : Fm → Bool
  | .mk c ms => if c = 40 then andF d ms else if c = 91 then orF d ms else d c
def andF (d : Int → Bool) : List Fm → Bool
  | [] => true
  | t :: ts => valF d t && andF d ts
def orF (d : Int → Bool) : List Fm → Bool
  | [] => false
  | t :: ts => valF d t || orF d ts
end
theorem valF_and (d : Int → Bool) (ms : List Fm) : valF d (.mk 40 ms) = andF d ms := by simp [valF]
theorem valF_or (d : Int → Bool) (ms : List Fm) : valF d (.mk 91 ms) = orF d ms := by simp [valF]
theorem andF_snoc (d : Int → Bool) (ts : List Fm) (t : Fm) : andF d (ts ++ [t]) = (andF d ts && valF d t) := by
  induction ts with
  | nil => simp [andF]
  | cons a ts ih => simp [andF, ih, Bool.and_assoc]
theorem orF_snoc (d : Int → Bool) (ts : List Fm) (t : Fm) : orF d (ts ++ [t]) = (orF d ts || valF d t) := by
  induction ts with
  | nil => simp [orF]
  | cons a ts ih => simp [orF, ih, Bool.or_assoc]
theorem take_snoc {ts : List Fm} {k : Nat} (h : k < ts.length) (x : Fm) : ts.take (k + 1) = ts.take k ++ [ts.getD k x] := by
  rw [List.take_add_one, List.getD_eq_getElem?_getD, List.getElem?_eq_getElem h]; rfl
theorem andF_take {d : Int → Bool} {ts : List Fm} {k : Nat} (h : k < ts.length) (x : Fm) : andF d (ts.take (k + 1)) = (andF d (ts.take k) && valF d (ts.getD k x)) := by
  rw [take_snoc h x, andF_snoc]
theorem orF_take {d : Int → Bool} {ts : List Fm} {k : Nat} (h : k < ts.length) (x : Fm) : orF d (ts.take (k + 1)) = (orF d (ts.take k) || valF d (ts.getD k x)) := by
  rw [take_snoc h x, orF_snoc]
theorem andF_cut {d : Int → Bool} {ts : List Fm} {k : Nat} (h : k < ts.length) (x : Fm) (hv : valF d (ts.getD k x) = false) : andF d ts = false := by
  have e : ts = ts.take (k + 1) ++ ts.drop (k + 1) := (List.take_append_drop _ _).symm
  have key : ∀ (a b : List Fm), andF d (a ++ b) = (andF d a && andF d b) := by
    intro a b
    induction a with
    | nil => simp [andF]
    | cons t ts ih => simp [andF, ih, Bool.and_assoc]
  rw [e, key, andF_take h x, hv]; simp
theorem orF_cut {d : Int → Bool} {ts : List Fm} {k : Nat} (h : k < ts.length) (x : Fm) (hv : valF d (ts.getD k x) = true) : orF d ts = true := by
  have e : ts = ts.take (k + 1) ++ ts.drop (k + 1) := (List.take_append_drop _ _).symm
  have key : ∀ (a b : List Fm), orF d (a ++ b) = (orF d a || orF d b) := by
    intro a b
    induction a with
    | nil => simp [orF]
    | cons t ts ih => simp [orF, ih, Bool.or_assoc]
  rw [e, key, orF_take h x, hv]; simp

/-! ### texts -/
mutual
theorem txtF_byte : ∀ (t : Fm), wfF t → ∀ c ∈ txtF t, 0 ≤ c ∧ c < 256
  | .mk c ms, h => by
    intro x hx
    simp only [wfF] at h
    rcases h with ⟨hl, rfl⟩ | ⟨ho, h2, hw⟩
    · rw [txtF_leaf (leaf_open hl)] at hx
      have e : x = c := by simpa using hx
      subst e
      have := of_decide_eq_true (show decide _ = true from hl)
      omega
    · rw [txtF_open ho] at hx
      have hc := of_decide_eq_true (show decide (c = 40 ∨ c = 91) = true from ho)
      simp only [List.mem_cons, List.mem_append, List.not_mem_nil, or_false] at hx
      rcases hx with rfl | hx | rfl
      · omega
      · exact txtL_byte ms hw x hx
      · unfold closeC; split <;> omega
theorem txtL_byte : ∀ (ts : List Fm), wfL ts → ∀ c ∈ txtL ts, 0 ≤ c ∧ c < 256
  | [], _ => by intro x hx; simp [txtL] at hx
  | t :: ts, h => by
    intro x hx
    simp only [wfL] at h
    simp only [txtL, List.mem_append] at hx
    rcases hx with hx | hx
    · exact txtF_byte t h.1 x hx
    · exact txtL_byte ts h.2 x hx
end
/-- the text of a formula -/
def txtS (t : Fm) : ByteArray := ⟨((txtF t).map u8).toArray⟩
theorem txtS_size (t : Fm) : (txtS t).size = (txtF t).length := by
  show ((txtF t).map u8).toArray.size = _
  simp
theorem txtS_byte {t : Fm} (hw : wfF t) (k : Nat) (h : k < (txtF t).length) : byteAt (txtS t) k = (txtF t).getD k 0 := by
  unfold txtS
  rw [byteAt_mk _ _ (by simpa using h)]
  have hm : (txtF t)[k] ∈ txtF t := List.getElem_mem h
  have := txtF_byte t hw _ hm
  rw [List.getElem_map, u8_nat this.1 this.2, List.getD_eq_getElem?_getD, List.getElem?_eq_getElem h]; rfl
theorem txtS_agr {t : Fm} (hw : wfF t) : Agr (byteAt (txtS t)) (txtF t) 0 := by
  intro k hk
  rw [Nat.zero_add]; exact txtS_byte hw k hk
theorem txtS_eq {s : ByteArray} {t : Fm} (hw : wfF t) (hs : s.size = (txtF t).length) (ha : Agr (byteAt s) (txtF t) 0) : s = txtS t := by
  apply bytes_ext
  · rw [txtS_size, hs]
  · intro k hk
    have := ha k (by omega)
    rw [Nat.zero_add] at this
    rw [this, txtS_byte hw k (by omega)]
theorem txtS_part {s : ByteArray} {t : Fm} {a : Nat} (hw : wfF t) (hs : a + (txtF t).length ≤ s.size) (ha : Agr (byteAt s) (txtF t) a) : s.extract a (a + (txtF t).length) = txtS t := by
  refine txtS_eq hw (by rw [extract_size _ _ _ hs]; omega) fun k hk => ?_
  rw [Nat.zero_add, byteAt_extract _ _ _ _ hs (by omega)]
  exact ha k hk
theorem txtL_take (ts : List Fm) (k : Nat) (h : k < ts.length) : (txtL (ts.take k)).length + (txtF (ts.getD k (.mk 0 []))).length ≤ (txtL ts).length := by
  have e : ts = ts.take (k + 1) ++ ts.drop (k + 1) := (List.take_append_drop _ _).symm
  have e2 : (txtL ts).length = (txtL (ts.take (k + 1))).length + (txtL (ts.drop (k + 1))).length := by
    rw [← List.length_append, ← txtL_append, List.take_append_drop]
  rw [e2, take_snoc h (.mk 0 []), txtL_append, List.length_append]
  simp [txtL]
theorem txtL_at {f : Nat → Int} {ts : List Fm} {a : Nat} (h : Agr f (txtL ts) a) {k : Nat} (hk : k < ts.length) : Agr f (txtF (ts.getD k (.mk 0 []))) (a + (txtL (ts.take k)).length) := by
  have e2 : txtL ts = txtL (ts.take k) ++ (txtF (ts.getD k (.mk 0 [])) ++ txtL (ts.drop (k + 1))) := by
    conv => lhs; rw [← List.take_append_drop (k + 1) ts, txtL_append, take_snoc hk (.mk 0 []), txtL_append]
    simp [txtL, List.append_assoc]
  rw [e2, Agr.append, Agr.append] at h
  exact h.2.1
theorem wfL_at {ts : List Fm} (h : wfL ts) {k : Nat} (hk : k < ts.length) : wfF (ts.getD k (.mk 0 [])) := by
  apply wfL_mem h
  rw [List.getD_eq_getElem?_getD, List.getElem?_eq_getElem hk]
  exact List.getElem_mem hk
/-- the text of a formula in brackets has its members from the place 1 on -/
theorem txtS_open {c : Int} {ms : List Fm} (hw : wfF (.mk c ms)) (ho : openC c = true) : 2 ≤ ms.length ∧ wfL ms ∧ Agr (byteAt (txtS (.mk c ms))) (txtL ms) 1 ∧ (txtS (.mk c ms)).size = (txtL ms).length + 2 ∧ byteAt (txtS (.mk c ms)) 0 = c := by
  have ha := txtS_agr hw
  have hz := txtS_size (.mk c ms)
  simp only [wfF] at hw
  rcases hw with ⟨hl, rfl⟩ | ⟨_, h2, hw⟩
  · rw [leaf_open hl] at ho; cases ho
  · rw [txtF_open ho] at ha hz
    rw [Agr.cons, Agr.append, Nat.zero_add] at ha
    refine ⟨h2, hw, ha.2.1, ?_, ha.1⟩
    rw [hz]; simp
theorem txtS_leaf {c : Int} {ms : List Fm} (hw : wfF (.mk c ms)) (ho : openC c = false) : leafC c = true ∧ ms = [] ∧ (txtS (.mk c ms)).size = 1 ∧ byteAt (txtS (.mk c ms)) 0 = c := by
  have ha := txtS_agr hw
  have hz := txtS_size (.mk c ms)
  simp only [wfF] at hw
  rcases hw with ⟨hl, rfl⟩ | ⟨h, _⟩
  · rw [txtF_leaf ho] at ha hz
    rw [Agr.one] at ha
    exact ⟨hl, rfl, hz, ha⟩
  · rw [h] at ho; cases ho

end Go.Proofs.YtohmhiodmaahfaaDoor
