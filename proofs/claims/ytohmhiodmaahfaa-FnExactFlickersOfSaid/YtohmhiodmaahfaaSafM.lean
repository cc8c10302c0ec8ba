/- A formula is safe for all inputs if it is for its own (plain mathematics). -/
import Derived.Test.YtohmhiodmaahfaaFlsM
import Derived.Test.YtohmhiodmaahfaaLtM
namespace Go.Proofs.Ytohmhiodmaahfaa
open Go.RowKit
set_option linter.unusedVariables false

mutual
/-- the value hangs on the signs of the text alone -/
theorem valF_on {g h : Int → Bool} : ∀ t, wfF t → (∀ c ∈ txtF t, leafC c = true → g c = h c) → valF g t = valF h t
  | .mk c ms, hw, e => by
    simp only [wfF] at hw
    rcases hw with ⟨hl, rfl⟩ | ⟨ho, _, hm⟩
    · have h2 := of_decide_eq_false (show decide (c = 40 ∨ c = 91) = false from leaf_open hl)
      unfold valF
      rw [if_neg (by omega), if_neg (by omega), if_neg (by omega), if_neg (by omega)]
      exact e c (by rw [txtF_leaf (leaf_open hl)]; exact List.mem_singleton.2 rfl) hl
    · have h2 := of_decide_eq_true (show decide (c = 40 ∨ c = 91) = true from ho)
      have e2 : ∀ x ∈ txtL ms, leafC x = true → g x = h x := fun x hx hl => e x (by rw [txtF_open ho]; exact List.mem_cons_of_mem _ (List.mem_append_left _ hx)) hl
      rcases h2 with rfl | rfl
      · rw [valF_and, valF_and]; exact andF_on ms hm e2
      · rw [valF_or, valF_or]; exact orF_on ms hm e2
theorem andF_on {g h : Int → Bool} : ∀ ts, wfL ts → (∀ c ∈ txtL ts, leafC c = true → g c = h c) → andF g ts = andF h ts
  | [], _, _ => rfl
  | t :: ts, hw, e => by
    simp only [wfL] at hw
    simp only [andF]
    rw [valF_on t hw.1 (fun c hc => e c (List.mem_append_left _ hc)), andF_on ts hw.2 (fun c hc => e c (List.mem_append_right _ hc))]
theorem orF_on {g h : Int → Bool} : ∀ ts, wfL ts → (∀ c ∈ txtL ts, leafC c = true → g c = h c) → orF g ts = orF h ts
  | [], _, _ => rfl
  | t :: ts, hw, e => by
    simp only [wfL] at hw
    simp only [orF]
    rw [valF_on t hw.1 (fun c hc => e c (List.mem_append_left _ hc)), orF_on ts hw.2 (fun c hc => e c (List.mem_append_right _ hc))]
end

theorem lets_has {s : ByteArray} {k j : Nat} (hj : j < k) (h : letC (byteAt s j) = true) : byteAt s j ∈ lets s k := by
  induction k with
  | zero => omega
  | succ k ih =>
    by_cases e : j = k
    · subst e; rw [lets_yes h]; simp
    · have := ih (by omega)
      cases h2 : letC (byteAt s k)
      · rw [lets_no h2]; exact this
      · rw [lets_yes h2]; exact List.mem_append_left _ this
/-- the inputs of the contacts of a formula are below the number that is told -/
theorem inputs_below {t : Fm} (hw : wfF t) {c : Int} (hc : c ∈ txtF t) (hl : letC c = true) : 0 ≤ inpC c ∧ inpC c < inTo (txtS t) (txtS t).size := by
  obtain ⟨j, hj, e⟩ := List.getElem_of_mem hc
  have hb := txtS_byte hw j hj
  rw [List.getD_eq_getElem?_getD, List.getElem?_eq_getElem hj, e] at hb
  have hb' : byteAt (txtS t) j = c := hb
  have hm := lets_has (s := txtS t) (k := (txtS t).size) (j := j) (by rw [txtS_size]; exact hj) (by rw [hb']; exact hl)
  rw [hb'] at hm
  have := ((inTo_le (txtS t) (inTo (txtS t) (txtS t).size) (txtS t).size).1 (Int.le_refl _)).2 c hm
  exact ⟨(letC_bd hl).2.2.1, by omega⟩
theorem leaf_cases {c : Int} (h : leafC c = true) : letC c = true ∨ c = 48 ∨ c = 49 := by
  rw [leafC_eq] at h
  simpa [or_assoc] using h
/-- rows with the same digits below give the same values -/
theorem leafV_on {t : Fm} (hw : wfF t) {x y : Int} (h : ∀ i, 0 ≤ i → i < inTo (txtS t) (txtS t).size → digZ x i = digZ y i) : valF (leafV (digZ x)) t = valF (leafV (digZ y)) t := by
  refine valF_on t hw fun c hc hl => ?_
  rcases leaf_cases hl with hlt | rfl | rfl
  · have hb := inputs_below hw hc hlt
    rw [leafV_dig (row := x) hlt rfl rfl, leafV_dig (row := y) hlt rfl rfl, h _ hb.1 hb.2]
  · rfl
  · rfl
theorem momV_at {c row input : Int} {cl : Bool} (h : letC c = true) : momV row input cl c = if inpC c = input then cl else (digZ row (inpC c) != kndC c) := by
  have h2 := of_decide_eq_true (show decide ((97 ≤ c ∧ c ≤ 101) ∨ (65 ≤ c ∧ c ≤ 69)) = true from h)
  have h48 : ¬ c = 48 := by omega
  have h49 : ¬ c = 49 := by omega
  unfold momV
  rw [if_neg h48, if_neg h49]
theorem momV_on {t : Fm} (hw : wfF t) {x y j : Int} {cl : Bool} (h : ∀ i, 0 ≤ i → i < inTo (txtS t) (txtS t).size → digZ x i = digZ y i) : valF (momV x j cl) t = valF (momV y j cl) t := by
  refine valF_on t hw fun c hc hl => ?_
  rcases leaf_cases hl with hlt | rfl | rfl
  · have hb := inputs_below hw hc hlt
    rw [momV_at hlt, momV_at hlt, h _ hb.1 hb.2]
  · rfl
  · rfl
theorem momV_far {t : Fm} (hw : wfF t) {x j : Int} {cl : Bool} (h : inTo (txtS t) (txtS t).size ≤ j) : valF (momV x j cl) t = valF (leafV (digZ x)) t := by
  refine valF_on t hw fun c hc hl => ?_
  rcases leaf_cases hl with hlt | rfl | rfl
  · have hb := inputs_below hw hc hlt
    rw [momV_at hlt, if_neg (by omega), leafV_dig hlt rfl rfl]
  · rfl
  · rfl
theorem flk_far (a b : Bool) : (flk (b2i a) (b2i b) (b2i a) (b2i a)).2 = false := by cases a <;> cases b <;> decide
theorem dig_cut : ∀ (r : Fin 32) (m : Fin 6) (i : Fin 5), i.val < m.val → dig (r.val % 2 ^ m.val) i = dig r i := by decide +kernel
theorem high_cut : ∀ (r : Fin 32) (m : Fin 6) (i k : Fin 5), i.val < m.val → k.val < m.val → dig (highN (r.val % 2 ^ m.val) i) k = dig (highN r i) k ∧ dig (lowN (r.val % 2 ^ m.val) i) k = dig (lowN r i) k := by decide +kernel
theorem digZ_nat (a b : Nat) : digZ (a : Int) (b : Int) = ((dig a b : Nat) : Int) := by unfold digZ; rw [Int.toNat_natCast, Int.toNat_natCast]
/-- no flicker for an input that no contact has -/
theorem flv_far {t : Fm} (hw : wfF t) {row i : Nat} (hr : row < 32) (hi : i < 5) (h : inTo (txtS t) (txtS t).size ≤ i) : (flv t row i).2 = false := by
  rcases (low_same ⟨row, hr⟩ ⟨i, hi⟩).1 with e | e
  · rcases (show digZ (row : Int) (i : Int) = 1 ∨ digZ (row : Int) (i : Int) = 0 by have := digZ_bd (row : Int) (i : Int); omega) with hd | hd
    · rw [flv_one hd]
    · rw [digZ_nat] at hd; simp only at e; omega
  · have hl := ((low_same ⟨row, hr⟩ ⟨i, hi⟩).2.2 e).1
    rcases (show digZ (row : Int) (i : Int) = 1 ∨ digZ (row : Int) (i : Int) = 0 by have := digZ_bd (row : Int) (i : Int); omega) with hd | hd
    · rw [flv_one hd]
    · have e1 : lowR (row : Int) (i : Int) = row := by unfold lowR; rw [Int.toNat_natCast, Int.toNat_natCast, hl]
      rw [flv_zero hd, e1, momV_far hw h, momV_far hw h]
      exact flk_far _ _
/-- the flicker in a row is that in the row of the inputs that there are -/
theorem flv_cut {t : Fm} (hw : wfF t) {m row i : Nat} (hm : inTo (txtS t) (txtS t).size = (m : Int)) (hr : row < 32) (hi : i < m) : (flv t (row % 2 ^ m) i).2 = (flv t row i).2 := by
  have hm5 : m ≤ 5 := by have := (inTo_bd (txtS t) (txtS t).size).2; omega
  have hd : digZ ((row % 2 ^ m : Nat) : Int) (i : Int) = digZ (row : Int) (i : Int) := by
    rw [digZ_nat, digZ_nat, dig_cut ⟨row, hr⟩ ⟨m, by omega⟩ ⟨i, by omega⟩ hi]
  have hds : ∀ k : Int, 0 ≤ k → k < inTo (txtS t) (txtS t).size → digZ ((row % 2 ^ m : Nat) : Int) k = digZ (row : Int) k := fun k h0 h1 => by
    obtain ⟨q, rfl⟩ : ∃ q : Nat, k = (q : Int) := ⟨k.toNat, by omega⟩
    rw [digZ_nat, digZ_nat, dig_cut ⟨row, hr⟩ ⟨m, by omega⟩ ⟨q, by omega⟩ (by show q < m; omega)]
  have hhl : ∀ k : Int, 0 ≤ k → k < inTo (txtS t) (txtS t).size → digZ (highR ((row % 2 ^ m : Nat) : Int) i) k = digZ (highR (row : Int) i) k ∧ digZ (lowR ((row % 2 ^ m : Nat) : Int) i) k = digZ (lowR (row : Int) i) k := fun k h0 h1 => by
    obtain ⟨q, rfl⟩ : ∃ q : Nat, k = (q : Int) := ⟨k.toNat, by omega⟩
    have := high_cut ⟨row, hr⟩ ⟨m, by omega⟩ ⟨i, by omega⟩ ⟨q, by omega⟩ hi (by show q < m; omega)
    simp only at this
    unfold highR lowR
    rw [Int.toNat_natCast, Int.toNat_natCast, Int.toNat_natCast, digZ_nat, digZ_nat, digZ_nat, digZ_nat, this.1, this.2]
    exact ⟨rfl, rfl⟩
  rcases (show digZ (row : Int) (i : Int) = 1 ∨ digZ (row : Int) (i : Int) = 0 by have := digZ_bd (row : Int) (i : Int); omega) with h | h
  · rw [flv_one h, flv_one (by rw [hd]; exact h)]
  · rw [flv_zero h, flv_zero (show digZ ((row % 2 ^ m : Nat) : Int) (i : Int) = 0 by rw [hd]; exact h), leafV_on hw (fun k a b => (hhl k a b).1), leafV_on hw (fun k a b => (hhl k a b).2), momV_on hw hds, momV_on hw hds]
theorem flTo_nil {t : Fm} {n k : Nat} : (flTo t n k).length = 0 ↔ ∀ row, row < k → ∀ i, i < n → (flv t row i).2 = false := by
  rw [List.length_eq_zero_iff]
  unfold flTo flRow
  rw [List.flatMap_eq_nil_iff]
  constructor
  · intro h row hr i hi
    have := h row (List.mem_range.2 hr)
    rw [List.map_eq_nil_iff, List.filter_eq_nil_iff] at this
    have := this i (List.mem_range.2 hi)
    simpa using this
  · intro h row hr
    rw [List.map_eq_nil_iff, List.filter_eq_nil_iff]
    intro i hi
    rw [h row (List.mem_range.1 hr) i (List.mem_range.1 hi)]
    decide
/-- the formula has no flicker for all inputs just if it has none for its own -/
theorem safe_same {t : Fm} (hw : wfF t) {m : Nat} (hm : inTo (txtS t) (txtS t).size = (m : Int)) : decide ((flTo t 5 32).length = 0) = decide ((flTo t m (2 ^ m)).length = 0) := by
  have hm5 : m ≤ 5 := by have := (inTo_bd (txtS t) (txtS t).size).2; omega
  have hp : 0 < 2 ^ m := Nat.pow_pos (by decide)
  have h32 : 2 ^ m ≤ 32 := Nat.pow_le_pow_right (n := 2) (by decide) hm5
  apply decide_eq_decide.2
  rw [flTo_nil, flTo_nil]
  constructor
  · intro h row hr i hi; exact h row (by omega) i (by omega)
  · intro h row hr i hi
    by_cases e : i < m
    · rw [← flv_cut hw hm hr e]
      exact h _ (Nat.mod_lt _ hp) i e
    · exact flv_far hw hr hi (by omega)

end Go.Proofs.Ytohmhiodmaahfaa
