/- A slice of int64 copied into a slice of the call's own. -/
import Derived.Test.YtkdidplpnhokiaaOwn
import Derived.Test.YtkdidplpnhokiaaFrame
namespace Go.Proofs.Ytkdidplpnhokiaa
open Go.RowKit
set_option linter.unusedVariables false

/-- xs so far, zeros behind -/
def copyTo (xs : List Int) (k : Nat) : List Int := xs.take k ++ List.replicate (xs.length - k) 0
theorem copyTo_len (xs : List Int) (k : Nat) (h : k ≤ xs.length) : (copyTo xs k).length = xs.length := by simp [copyTo]; omega
theorem copyTo_set (xs : List Int) (k : Nat) (h : k < xs.length) : (copyTo xs (k + 1)).map (Value.int .i64) = ((copyTo xs k).map (Value.int .i64)).set k (.int .i64 (xs.getD k 0)) := by
  unfold copyTo
  have e : xs.length - k = (xs.length - (k + 1)) + 1 := by omega
  have l : (xs.take k).length = k := by simp; omega
  rw [e, List.replicate_succ, ← List.map_set, List.set_append_right _ _ (by omega), l, Nat.sub_self, List.take_succ_eq_append_getElem h, List.append_assoc]
  simp [List.getD_eq_getElem?_getD, h]
theorem copyTo_all (xs : List Int) : copyTo xs xs.length = xs := by simp [copyTo]
theorem made_zero (m : Nat) : (madeCells (Value.int .i64 0).cells (m * 1)).toList = (List.replicate m (0 : Int)).map (Value.int .i64) := by
  simp only [madeCells, Value.cells, Nat.mul_one]
  apply List.ext_getElem
  · simp
  · intro i h1 h2
    simp [Nat.mod_one]

set_option maxRecDepth 100000 in
set_option maxHeartbeats 1000000 in
theorem toInt64S_any (va : Value) (xs : List Int) (w : World) (ha : Reads w va xs) (hn : xs.length ≤ 1048576) :
    Calls Try.prog 57 #[va] w fun e w' => ∃ u, e = .returned u ∧ Owns w' w.heap.size u xs ∧ Below w.heap.size w w' := by
  obtain ⟨i0, hi, hz0, hz1, hz2⟩ := info_parts info64
  obtain ⟨a, ca, rfl, hm, ha⟩ := ha
  rcases ha with rfl | ⟨b, off, rfl, ha⟩
  · go_enter Try.func57, Try.ntmps57
    go_wp2_with (at_make; refine wpList_make_full _ rfl _ _ 22 rfl w.heap.size 2 i0 (.int .i64 0) 1 Try.underlying22 hi hz0 hz1 .i64 .i64 ((([] : List Int).length : Nat) : Int) ((([] : List Int).length : Nat) : Int) ([] : List Int).length rfl rfl rfl rfl (by rw [hz2]; omega) hm (Nat.le_refl _) ?_; intro w1 oo hg; have hL : Below w.heap.size w w1 := Below.grown (Below.refl _ w) hg (Nat.le_refl _) (by simp))
    refine wp_loop_rounds 1 ?_
    rw [rounds_succ]
    go_wp2
    go_ret
    refine ⟨_, rfl, ?_, hL⟩
    have h := oo
    rw [made_zero] at h
    exact h
  · generalize hx : xs.length = n at *
    have Hx := Lib.hid hx
    have Ha := Lib.hid ha
    clear hx ha
    go_enter Try.func57, Try.ntmps57
    go_wp2_with (at_make; refine wpList_make_full _ rfl _ _ 22 rfl w.heap.size 2 i0 (.int .i64 0) 1 Try.underlying22 hi hz0 hz1 .i64 .i64 (n : Int) (n : Int) n rfl rfl rfl rfl (by rw [hz2]; omega) hm (Nat.le_refl _) ?_; intro w1 oo hg; have hL : Below w.heap.size w w1 := Below.grown (Below.refl _ w) hg (Nat.le_refl _) (by simp))
    have oo' : w1.ownsRow w.heap.size 2 1 (.slice (some ⟨w.heap.size, 0, none⟩) n n) n ((copyTo xs 0).map (Value.int .i64)) := by
      have h := oo
      rw [made_zero] at h
      simpa [copyTo, Hx.out] using h
    clear oo hg hi hz0 hz1 hz2
    go_loopw [4] (fun c wr => ∃ k : Nat, k ≤ n ∧ c = .int .i64 (k : Int) ∧ Below w.heap.size w wr ∧ wr.ownsRow w.heap.size 2 1 (.slice (some ⟨w.heap.size, 0, none⟩) n n) n ((copyTo xs k).map (Value.int .i64)))
      (fun c _ => n - (intOf c).toNat)
    case atStart => exact ⟨0, Nat.zero_le _, rfl, hL, oo'⟩
    case round =>
      clear hL oo'
      obtain ⟨k, hk, rfl, hL, hO⟩ := hrel
      by_cases hlt : k < n
      · have hca := cell_later hL (Ha.out k hlt)
        have hcell : ∃ u, wr.cell? ⟨w.heap.size, k, none⟩ = some u := by
          rw [hO.cellAt k (by omega)]
          have hlen := hO.1
          exact ⟨_, List.getElem?_eq_getElem (by omega)⟩
        obtain ⟨u, hcell⟩ := hcell
        have hfr := hO.frozenAt k
        have hi1 : (k : Int) < (n : Int) := by omega
        have hi0 : (0 : Int) ≤ (k : Int) := by omega
        have HS := Lib.hid (hO.stored k (.int .i64 (xs.getD k 0)))
        have HC := Lib.hid (copyTo_set xs k (by have := Hx.out; omega))
        generalize xs.getD k 0 = x at hca HS HC
        clear hO
        go_wp2
        go_roundw
        case rel => exact ⟨k + 1, by omega, by go_num, hL.setCell (Nat.le_refl _) _, by rw [HC.out]; exact HS.out.1⟩
        case measure => simp [intOf]; omega
      · have e : k = n := by omega
        subst e
        go_wp2
        go_ret
        refine ⟨_, rfl, ?_, hL⟩
        show World.ownsRow _ _ _ _ _ _ _
        have h := hO
        rw [← Hx.out, copyTo_all] at h
        rw [← Hx.out]; exact h

end Go.Proofs.Ytkdidplpnhokiaa
