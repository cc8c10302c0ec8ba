/- Orders are lists that are ascending when sorted (plain mathematics). -/
import Derived.Test.YthomnhbkmopjnaaOrq
import Derived.Test.YthomnhbkmopjnaaAsc
import Derived.Test.YthomnhbkmopjnaaSrq
namespace Go.Proofs.Ythomnhbkmopjnaa
open Go.RowKit
set_option linter.unusedVariables false

theorem getD_mem {ps : List Int} {i : Nat} (h : i < ps.length) : ps.getD i 0 ∈ ps := by
  rw [List.getD_eq_getElem?_getD, List.getElem?_eq_getElem h]; exact List.getElem_mem h
theorem getD_get {ps : List Int} {i : Nat} (h : i < ps.length) : ps.getD i 0 = ps[i] := by
  rw [List.getD_eq_getElem?_getD, List.getElem?_eq_getElem h]; rfl
/-- all in 0 to n - 1, none twice -/
def ordP (ps : List Int) (n : Nat) : Prop := (∀ x ∈ ps, 0 ≤ x ∧ x < (n : Int)) ∧ ps.Nodup
theorem ascB_iff (ps : List Int) (n : Nat) : ascB (n : Int) (ascL ps) ↔ ordP ps n := by
  have hp : (ascL ps).Perm ps := List.mergeSort_perm _ _
  have hs : List.Pairwise (fun a b : Int => decide (a ≤ b) = true) (ascL ps) := List.pairwise_mergeSort (fun a b c h1 h2 => by simp at *; omega) (fun a b => by simp; omega) _
  have hs2 : ∀ i j (hi : i < (ascL ps).length) (hj : j < (ascL ps).length), i < j → (ascL ps)[i] ≤ (ascL ps)[j] := fun i j hi hj h => by
    have := List.pairwise_iff_getElem.1 hs i j hi hj h; simpa using this
  generalize ascL ps = s at *
  unfold ordP
  rw [← hp.nodup_iff]
  constructor
  · intro h
    have hlt : ∀ i j (hi : i < s.length) (hj : j < s.length), i < j → s[i] < s[j] := fun i j hi hj hij => by
      have h1 := hs2 i (j - 1) hi (by omega)
      have h2 := (h j hj).2 (by omega)
      rw [getD_get hj, getD_get (show j - 1 < s.length by omega)] at h2
      rcases Nat.lt_or_ge i (j - 1) with h3 | h3
      · have := h1 h3; omega
      · have e : i = j - 1 := by omega
        subst e; exact h2
    refine ⟨fun x hx => ?_, ?_⟩
    · obtain ⟨i, hi, rfl⟩ := List.getElem_of_mem (hp.mem_iff.2 hx)
      have := (h i hi).1
      rw [getD_get hi] at this
      exact this
    · rw [List.nodup_iff_pairwise_ne, List.pairwise_iff_getElem]
      intro i j hi hj hij e
      have := hlt i j hi hj hij
      omega
  · rintro ⟨h1, h2⟩ i hi
    have hm := h1 _ (hp.mem_iff.1 (List.getElem_mem hi))
    refine ⟨by rw [getD_get hi]; exact hm, fun h0 => ?_⟩
    rw [getD_get hi, getD_get (show i - 1 < s.length by omega)]
    have h3 := hs2 (i - 1) i (by omega) hi (by omega)
    rw [List.nodup_iff_pairwise_ne, List.pairwise_iff_getElem] at h2
    have h4 := h2 (i - 1) i (by omega) hi (by omega)
    omega
theorem ordB_iff (ps : List Int) (n : Nat) : ordB ps n = true ↔ ps.length = n ∧ ordP ps n := by
  have hA : ∀ i, ordAt ps n i = true ↔ (0 ≤ ps.getD i 0 ∧ ps.getD i 0 ≤ (n : Int) - 1) ∧ ¬ (ps.getD i 0).toNat ∈ (ps.take i).map Int.toNat := fun i => by
    unfold ordAt
    rw [Bool.and_eq_true, decide_eq_true_eq, Bool.not_eq_true', decide_eq_false_iff_not]
  unfold ordB
  rw [Bool.and_eq_true, List.all_eq_true, decide_eq_true_eq]
  constructor
  · rintro ⟨h, hl⟩
    have h' : ∀ i, i < ps.length → (0 ≤ ps.getD i 0 ∧ ps.getD i 0 ≤ (n : Int) - 1) ∧ ¬ (ps.getD i 0).toNat ∈ (ps.take i).map Int.toNat := fun i hi => (hA i).1 (h i (List.mem_range.2 hi))
    refine ⟨hl, fun x hx => ?_, ?_⟩
    · obtain ⟨i, hi, rfl⟩ := List.getElem_of_mem hx
      have := (h' i hi).1
      rw [getD_get hi] at this
      omega
    · rw [List.nodup_iff_pairwise_ne, List.pairwise_iff_getElem]
      intro i j hi hj hij e
      refine (h' j hj).2 (List.mem_map.2 ⟨ps[i], ?_, by rw [getD_get hj, e]⟩)
      rw [List.mem_iff_getElem]
      exact ⟨i, by rw [List.length_take]; omega, by rw [List.getElem_take]⟩
  · rintro ⟨hl, h1, h2⟩
    refine ⟨fun i hi => (hA i).2 ?_, hl⟩
    have hi' := List.mem_range.1 hi
    have hm := h1 _ (getD_mem hi')
    refine ⟨by omega, fun hmem => ?_⟩
    obtain ⟨x, hx, e⟩ := List.mem_map.1 hmem
    obtain ⟨j, hj, rfl⟩ := List.getElem_of_mem hx
    rw [List.length_take] at hj
    rw [List.getElem_take, getD_get hi'] at e
    have hj' : j < ps.length := by omega
    have hmj := h1 _ (List.getElem_mem hj')
    rw [getD_get hi'] at hm
    rw [List.nodup_iff_pairwise_ne, List.pairwise_iff_getElem] at h2
    exact h2 j i hj' hi' (by omega) (by omega)
theorem ord_asc {ps : List Int} {n : Nat} (hl : ps.length = n) : decide (ascB (n : Int) (ascL ps)) = ordB ps n := by
  rw [Bool.eq_iff_iff, decide_eq_true_eq, ordB_iff, ascB_iff]
  exact ⟨fun h => ⟨hl, h⟩, fun h => h.2⟩
theorem ord_no {ps : List Int} {n : Nat} (hl : ps.length ≠ n) : ordB ps n = false := by
  cases h : ordB ps n
  · rfl
  · exact absurd ((ordB_iff ps n).1 h).1 hl

set_option maxRecDepth 100000 in
set_option maxHeartbeats 4000000 in
theorem isOrder_any (v : Value) (ps : List Int) (n : Nat) (w : World) (ha : Reads w v ps) (n5 : n ≤ 5) :
    Calls Try.prog 14 #[v, .int .i64 (n : Int)] w fun e w' => e = .returned (.bool (ordB ps n)) ∧ Below w.heap.size w w' := by
  by_cases hl : ps.length = n
  · have HB := Lib.hid (ord_asc hl)
    have HRB := Lib.hid ha.below
    have HV := Lib.hid (fun a len cap w => values_calls a len cap w)
    have HS := Lib.hid (fun Bv sv w => sorted_calls Bv sv ps w (by omega))
    have HA := Lib.hid (fun u w' (h : Reads w' u (ascL ps)) => asc_any u (n : Int) (ascL ps) w' h)
    obtain ⟨a, cap, rfl, hm, _⟩ := ha
    have hq : ((ps.length : Int) == (n : Int)) = true := by rw [hl]; simp
    unfold maxLen at hm
    clear hl
    go_enter Try.func14, Try.ntmps14
    go_wp2_with (first | (go_at_call 24; refine (HV.out _ _ _ _).mono ?_; rintro e w1 ⟨rfl, rfl⟩) | (go_at_call 23; refine (HS.out _ _ _ (by simp) (by rw [World.cell?_alloc_at _ _ _ _ rfl]; rfl) ((HRB.out.keep ((Below.refl _ _).alloc (Nat.le_refl _) _)).mono (by simp))).mono ?_; rintro e w2 ⟨u, rfl, ho, hb⟩; have hR := Lib.hid ho.reads; have hL : Below w.heap.size w w2 := ((Below.refl _ _).alloc (Nat.le_refl _) _).trans (hb.mono (by simp))) | (go_at_call 22; refine (HA.out _ _ hR.out).mono ?_; rintro e w3 ⟨rfl, rfl⟩))
    go_ret
    exact ⟨by rw [← HB.out]; rfl, hL⟩
  · have HX := Lib.hid (ord_no hl)
    have hq : ((ps.length : Int) == (n : Int)) = false := by rw [beq_eq_false_iff_ne]; omega
    obtain ⟨a, cap, rfl, hm, _⟩ := ha
    unfold maxLen at hm
    go_enter Try.func14, Try.ntmps14
    go_wp2_with fail
    go_ret
    exact ⟨by rw [HX.out]; rfl, Below.refl _ _⟩

end Go.Proofs.Ythomnhbkmopjnaa
