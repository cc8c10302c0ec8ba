/- l02Numbers, l02Both: the model's networks put together. -/
import Derived.Test.YtnmjdphibphpnaaPut
import Derived.Test.YtnmjdphibphpnaaRen
import Derived.Deep.RegionHeld3
namespace Go.Proofs.Ytnmjdphibphpnaa
open Go.RowKit
set_option linter.unusedVariables false

/-- the new numbers of the points below k -/
def numL (zero one next : Int) (k : Nat) : List Int := (List.range k).map fun (q : Nat) => numZ zero one next (q : Int)
theorem numL_succ (zero one next : Int) (k : Nat) : numL zero one next (k + 1) = numL zero one next k ++ [numZ zero one next (k : Int)] := by simp [numL, List.range_succ]
theorem numL_two (zero one next : Int) : numL zero one next 2 = [zero, one] := rfl
theorem numL_len (zero one next : Int) (k : Nat) : (numL zero one next k).length = k := by simp [numL]
theorem numL_at {zero one next : Int} {k q : Nat} (h : q < k) : (numL zero one next k).getD q 0 = numZ zero one next (q : Int) := by
  simp [numL, List.getD_eq_getElem?_getD, h]
theorem owns_lit2 (w : World) (x y : Int) : Owns (w.alloc (.cells #[.int .i64 x, .int .i64 y] 2)) w.heap.size (.slice (some ⟨w.heap.size, 0, none⟩) 2 2) [x, y] :=
  ⟨by simp, .inr ⟨w.heap.size, 2, #[.int .i64 x, .int .i64 y], rfl, Nat.le_refl _, heap_alloc_new w _, Nat.le_refl _, by decide, by simp, by simp⟩⟩

set_option maxRecDepth 100000 in
set_option maxHeartbeats 2000000 in
theorem l02Numbers_any (p : Int) (a : Option Addr) (n ca : Nat) (zero one next : Int) (w : World) (p2 : 2 ≤ p) (p8 : p ≤ 8) (hx : 0 ≤ next ∧ next ≤ 100) :
    Calls Try.prog 47 #[.agg #[.int .i64 p, .slice a n ca], .int .i64 zero, .int .i64 one, .int .i64 next] w fun e w' => ∃ u, e = .returned u ∧ Owns w' w.heap.size u (numL zero one next p.toNat) ∧ Below w.heap.size w w' := by
  obtain ⟨i0, hi, hz0, hz1, hz2⟩ := info_parts info64
  have kx := C2.here w (.int .i64 p) (.slice a n ca) 26
  replace kx := kx.alloc (.cells #[.int .i64 zero, .int .i64 one] 2)
  have O0 : Hid (Owns ((w.alloc (.cells #[.int .i64 p, .slice a n ca] 26)).alloc (.cells #[.int .i64 zero, .int .i64 one] 2)) (w.heap.size + 1) (.slice (some ⟨w.heap.size + 1, 0, none⟩) 2 2) (numL zero one next 2)) := by
    have := owns_lit2 (w.alloc (.cells #[.int .i64 p, .slice a n ca] 26)) zero one
    rw [World.size_alloc] at this
    exact this
  have hL0 : Below w.heap.size w ((w.alloc (.cells #[.int .i64 p, .slice a n ca] 26)).alloc (.cells #[.int .i64 zero, .int .i64 one] 2)) := ((Below.refl _ _).alloc (Nat.le_refl _) _).alloc (by simp) _
  go_enter Try.func47, Try.ntmps47
  go_wp2_with fail
  go_loopw [3, 9, 10] (fun nx u c wr => ∃ k : Nat, 2 ≤ k ∧ (k : Int) ≤ p ∧ c = .int .i64 (k : Int) ∧ nx = .int .i64 (next + (k : Int) - 2) ∧ Below w.heap.size w wr ∧ C2 wr w.heap.size (.int .i64 p) (.slice a n ca) ∧ Hid (Owns wr (w.heap.size + 1) u (numL zero one next k)))
    (fun _ _ c _ => p.toNat - (intOf c).toNat)
  case atStart => exact ⟨2, Nat.le_refl _, p2, rfl, by congr 1; omega, hL0, kx, O0⟩
  case round =>
    clear hL0 kx O0
    obtain ⟨k, hk2, hkp, rfl, rfl, hL, kx, HO⟩ := hrel
    by_cases hlt : (k : Int) < p
    · have HN : Hid (numL zero one next (k + 1) = numL zero one next k ++ [next + (k : Int) - 2]) := by
        unfold Hid; rw [numL_succ]; unfold numZ; rw [if_neg (by omega), if_neg (by omega)]
      have HLn : Hid ((numL zero one next k).length = k) := numL_len _ _ _ _
      have HK : Hid (2 ≤ k + 1 ∧ ((k + 1 : Nat) : Int) ≤ p) := by unfold Hid; omega
      have HK8 : Hid (k ≤ 8) := by unfold Hid; omega
      have HM : Hid (p.toNat - ((k : Int) + 1).toNat < p.toNat - ((k : Int)).toNat) := by unfold Hid; omega
      have HX : Hid (next + (k : Int) - 2 + 1 = next + ((k + 1 : Nat) : Int) - 2) := by unfold Hid; omega
      have HW : wrap64 (next + (k : Int) - 2 + 1) = next + (k : Int) - 2 + 1 := IntWalk.wrap64_in _ (by omega)
      have hSep : Hid (Value.ownBlock u9 ≠ some w.heap.size) := fun e => by
        have := (World.ownsRow.lt HO.out _ e).1
        omega
      have hFrom : Hid (∀ q, Value.ownBlock u9 = some q → w.heap.size ≤ q) := fun q e => by
        have := (World.ownsRow.lt HO.out q e).1
        omega
      have hsz : Hid (w.heap.size + 1 ≤ wr.heap.size) := kx.2.2.2.2
      go_wp2_with (at_builtin; refine wpList_append_own_at _ rfl _ _ 35 rfl (w.heap.size + 1) 2 i0 (.int .i64 0) 1 8 Try.underlying35 hi hz0 hz1 hz2 rfl (by decide) u9 _ _ rfl (World.ownsRow.alloc HO.out _) ⟨_, 0, none⟩ 1 1 [.int .i64 (next + (k : Int) - 2)] rfl rfl (cell_one_new _ _ _) (by simp [Value.oneCell']) (by have := HLn.out; have := HK8.out; unfold maxLen; omega) (by have := HLn.out; have := HK8.out; omega) (by have := hsz.out; simp; omega) ?_; intro v1 w2 hown1 hgrow1 hnil1 hat1; have HO2 := Lib.hid (Owns.snoc hown1); have kx2 := C2.grown (kx.alloc _) hgrow1 hSep.out; have hL2 := (hL.alloc (by have := hsz.out; omega) _).grown hgrow1 (by have := hsz.out; simp; omega) hFrom.out; clear hown1 hgrow1 hnil1 hat1)
      rw [HX.out]
      exact ⟨⟨k + 1, HK.out.1, HK.out.2, by go_num, rfl, hL2, kx2, by rw [HN.out]; exact HO2⟩, HM.out⟩
    · have e : k = p.toNat := by omega
      rw [e] at HO
      have hi1 : ¬ (k : Int) < p := hlt
      clear e
      go_wp2_with fail
      go_ret
      exact ⟨_, rfl, HO.out.mono (by omega), hL⟩

end Go.Proofs.Ytnmjdphibphpnaa
