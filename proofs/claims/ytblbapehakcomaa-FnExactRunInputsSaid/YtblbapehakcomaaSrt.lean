/- slices.Sort at []int64; the states of situations, ascending: the program's. -/
import Derived.Test.YtblbapehakcomaaSrtL
import Derived.Test.YtblbapehakcomaaSRch
import Derived.Sort.OwnSortedInts
namespace Go.Proofs.Ytblbapehakcomaa
open Go.RowKit Go.Sort
set_option linter.unusedVariables false

def ascL (xs : List Int) : List Int := xs.mergeSort fun x y => decide (x ≤ y)
theorem ascL_len (xs : List Int) : (ascL xs).length = xs.length := List.length_mergeSort _
set_option maxRecDepth 100000 in
theorem sort_own (v : Value) (xs : List Int) (base : Nat) (w : World) (h : Owns w base v xs) (hl : xs.length ≤ 1000000) :
    Calls Try.prog 96 #[v] w fun e w' => e = .returned (.tuple #[]) ∧ Owns w' base v (ascL xs) ∧ w.grownBy w' v.ownBlock := by
  rcases h.2 with ⟨rfl, hn⟩ | ⟨g, cap, cur, rfl, hb, hg, hc, hm, hs, ht⟩
  · have e : xs = [] := List.length_eq_zero_iff.1 hn
    subst e
    refine Calls.mono (AnyM.slices_Sort_int_none sortA none 0 w) ?_
    rintro e w' ⟨rfl, rfl⟩
    exact ⟨rfl, by rw [show ascL [] = [] by simp [ascL]]; exact h, World.grownBy.refl _ _⟩
  · have hlt : g < w.heap.size := (Array.getElem?_eq_some_iff.1 hg).1
    refine Calls.mono (AnyM.slices_Sort_int sortA g 0 cap xs w (holds_of_blockI hg (by simpa using ht)) hlt (by omega)) ?_
    rintro e w' ⟨rfl, n, os, rfl⟩
    refine ⟨rfl, ?_, grownBy_sortedI _⟩
    have := ownsRow_sortedI (n := n) (os := os) (ss := xs) (ts := ascL xs) (ascL_len xs) hb hg hc hm (by omega)
    unfold Owns
    rw [ascL_len]
    exact this

set_option maxRecDepth 100000 in
set_option maxHeartbeats 2000000 in
theorem statesOf_any (v : Value) (i : Int) (ss : List Nat) (w : World) (ha : ReadsQ w v i ss) (hl : ss.length ≤ 1000) :
    Calls Try.prog 68 #[v] w fun e w' => ∃ u, e = .returned u ∧ Owns w' w.heap.size u (ascL (intsN ss)) ∧ Below w.heap.size w w' := by
  obtain ⟨j0, hj0_, jz0, jz1, jz2⟩ := info_parts info64
  have HA := Lib.hid ha
  have HS := Lib.hid (fun (u : Value) (w' : World) (h : Owns w' w.heap.size u (intsN ss)) => sort_own u (intsN ss) w.heap.size w' h (by rw [intsN_len]; omega))
  obtain ⟨a, ca, rfl, hm, _⟩ := ha
  have HT : Hid (∀ k, k < ss.length → intsN (ss.take (k + 1)) = intsN (ss.take k) ++ [((ss.getD k 0 : Nat) : Int)]) := fun k hk => by
    rw [List.take_succ_eq_append_getElem hk, intsN_snoc]
    simp [List.getD_eq_getElem?_getD, hk]
  have HTL : Hid (∀ k, (intsN (ss.take k)).length ≤ 1000) := fun k => by rw [intsN_len, List.length_take]; omega
  have HT0 : Hid (intsN (ss.take 0) = []) := by unfold Hid; simp [intsN]
  have HTN : Hid (intsN (ss.take ss.length) = intsN ss) := by unfold Hid; rw [List.take_length]
  unfold maxLen at hm
  generalize hnn : ss.length = n at *
  have HN := Lib.hid hnn
  clear hnn
  go_enter Try.func68, Try.ntmps68
  go_wp2_with fail
  go_loopw [3, 8] (fun u c wr => ∃ k : Nat, k ≤ n ∧ c = .int .i64 (k : Int) ∧ Below w.heap.size w wr ∧ Owns wr w.heap.size u (intsN (ss.take k))) (fun _ c _ => n - (intOf c).toNat)
  case atStart => exact ⟨0, Nat.zero_le _, rfl, Below.refl _ _, by rw [HT0.out]; exact World.ownsRow_nil _ _ _ _⟩
  case round =>
    obtain ⟨k, hk, rfl, hL, oo⟩ := hrel
    by_cases hlt : k < n
    · obtain ⟨a', ca', ev, _, hcv⟩ := HA.out
      rw [HN.out] at ev
      cases ev
      rcases hcv with h0 | ⟨g, rfl, hcv⟩
      · have := HN.out; rw [h0] at this; simp at this; omega
      obtain ⟨hc0_, hc1_⟩ := hcv k (by rw [HN.out]; exact hlt)
      have hc0 := cell_later hL hc0_
      have hc1 := cell_later hL hc1_
      have hT := Lib.hid (HT.out k hlt)
      have hTL := HTL.out k
      have hi0 : (0 : Int) ≤ (k : Int) := by omega
      have hi1 : (k : Int) < (n : Int) := by omega
      have hzz := hL.size
      have hfrom := oo.rowsFrom (B := w.heap.size) (Nat.le_refl _)
      clear hcv hc0_ hc1_
      generalize ss.getD k 0 = x at *
      generalize intsN (ss.take k) = ts at *
      obtain ⟨ua, uc, rfl, _, _⟩ := oo.reads
      go_wp2_with (at_builtin; refine wpList_append_own _ rfl _ _ 22 rfl w.heap.size 2 j0 (.int .i64 0) 1 8 Try.underlying22 hj0_ jz0 jz1 jz2 rfl (by decide) (.slice ua ts.length uc) ts.length (ts.map (Value.int .i64)) rfl (World.ownsRow.alloc (World.ownsRow.alloc oo (.cells #[.int .i64 i, .int .i64 (x : Int)] 68)) _) ⟨wr.heap.size + 1, 0, none⟩ 1 1 [.int .i64 (x : Int)] rfl rfl (by have h := cell_one_new (wr.alloc (.cells #[.int .i64 i, .int .i64 (x : Int)] 68)) (Value.int .i64 (x : Int)) 2; rw [World.size_alloc] at h; exact h) (by simp [Value.oneCell']) (by unfold maxLen; omega) (by omega) (by simp; omega) ?_; intro v' w3 hown' hgrow hnil)
      exact ⟨⟨k + 1, by omega, by go_num, ((hL.alloc hzz _).alloc (by simp; omega) _).grown hgrow (by simp; omega) hfrom, by rw [hT.out]; exact Owns.snoc hown'⟩, by simp [intOf]; omega⟩
    · have e : k = n := by omega
      rw [e, HTN.out] at oo
      clear e
      have hkn : ¬ (k : Int) < (n : Int) := by omega
      go_wp2_with fail
      refine (HS.out _ _ oo).mono ?_
      rintro e w2 ⟨rfl, oS, hgS⟩
      have hL2 := hL.grown hgS hL.size (fun q e => (World.ownsRow.lt oo q e).1)
      obtain ⟨ua, uc, rfl, _, _⟩ := oS.reads
      clear hgS
      go_wp2_with fail
      go_ret
      exact ⟨_, rfl, oS, hL2⟩

end Go.Proofs.Ytblbapehakcomaa
