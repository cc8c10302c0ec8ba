/- slices.Sort and slices.Sorted at int64. -/
import Derived.Test.YthomnhbkmopjnaaSrtL
import Derived.Test.YthomnhbkmopjnaaIta
import Derived.Sort.OwnSortedInts
namespace Go.Proofs.Ythomnhbkmopjnaa
open Go.RowKit Go.Sort
set_option linter.unusedVariables false

def ascL (xs : List Int) : List Int := xs.mergeSort fun x y => decide (x ≤ y)
theorem ascL_len (xs : List Int) : (ascL xs).length = xs.length := List.length_mergeSort _
set_option maxRecDepth 100000 in
theorem sort_own (v : Value) (xs : List Int) (base : Nat) (w : World) (h : Owns w base v xs) (hl : xs.length ≤ 1000000) :
    Calls Try.prog 31 #[v] w fun e w' => e = .returned (.tuple #[]) ∧ Owns w' base v (ascL xs) ∧ w.grownBy w' v.ownBlock := by
  rcases h.2 with ⟨rfl, hn⟩ | ⟨g, cap, cur, rfl, hb, hg, hc, hm, hs, ht⟩
  · have e : xs = [] := List.length_eq_zero_iff.1 hn
    subst e
    refine Calls.mono (AnyM.slices_Sort_int_none sortA none 0 w) ?_
    rintro e w' ⟨rfl, rfl⟩
    exact ⟨rfl, by rw [show ascL [] = [] by simp [ascL]]; exact h, World.grownBy.refl _ _⟩
  · have hlt : g < w.heap.size := (Array.getElem?_eq_some_iff.1 hg).1
    refine Calls.mono (AnyM.slices_Sort_int sortA g 0 cap xs w (holds_of_blockI hg (by simpa using ht)) hlt (by omega)) ?_
    rintro e w' ⟨rfl, n, os, rfl⟩
    refine ⟨rfl, ?_, grownBy_sortedI _⟩
    have := ownsRow_sortedI (n := n) (os := os) (ss := xs) (ts := ascL xs) (ascL_len xs) hb hg hc hm (by omega)
    unfold Owns
    rw [ascL_len]
    exact this

set_option maxRecDepth 100000 in
set_option maxHeartbeats 2000000 in
theorem sorted_calls (Bv : Nat) (sv : Value) (zs : List Int) (w : World) (hl : zs.length ≤ 1000) (hBv : Bv < w.heap.size) (hcv : w.cell? ⟨Bv, 0, none⟩ = some sv) (hI : ReadsB w.heap.size w sv zs) :
    Calls Try.prog 23 #[.func (.func 32) #[] #[.pointer (some ⟨Bv, 0, none⟩)]] w fun e W' => ∃ v, e = .returned v ∧ Owns W' w.heap.size v (ascL zs) ∧ Below w.heap.size w W' := by
  have HA := Lib.hid (collect_calls Bv sv zs w hl hBv hcv hI)
  have HS := Lib.hid (fun v w1 (h : Owns w1 w.heap.size v zs) => sort_own v zs w.heap.size w1 h (by omega))
  clear hcv hI
  go_enter Try.func23, Try.ntmps23
  go_wp2_with (go_at_call 30; refine HA.out.mono ?_; rintro e w' ⟨v, rfl, ho, hb⟩)
  have hz := hb.size
  have hfrom := ho.rowsFrom (B := w.heap.size) (Nat.le_refl _)
  have hR := ho.reads
  obtain ⟨va, vc, rfl, _, _⟩ := hR
  go_wp2_with (go_at_call 31; refine (HS.out _ _ ho).mono ?_; rintro e w2 ⟨rfl, ho2, hg⟩)
  go_ret
  exact ⟨_, rfl, ho2, hb.grown hg hz hfrom⟩

end Go.Proofs.Ythomnhbkmopjnaa
