/- The walk of FnExactSlopesOf. -/
import Derived.Test.YtgcdpbikeimelabSlopesOf
namespace Go.Proofs.Ytgcdpbikeimelab
open Go.RowKit
set_option linter.unusedVariables false

set_option maxHeartbeats 2000000 in
theorem walkFnExactSlopesOf (n0 v0 : Int) (wa0 : (Lit.int .i64 n0).wf = true) (wb0 : (Lit.int .i64 v0).wf = true) (w : World) :
    Calls Try.prog 4 #[.agg #[.int .i64 n0, .int .i64 v0]] w fun e w' => e = .returned (.bool true) ∧ Below w.heap.size w w' := by
  have D1 := Lib.hid (fun w => iSlopesOf_any n0 v0 w)
  have D2 := Lib.hid (fun w => sSlopesOf_any n0 v0 w)
  have hlen := sloOf_len n0 v0
  generalize sloOf n0 v0 = xs at *
  generalize tabCodeS n0 v0 = c at *
  have k0 : C2 (w.alloc (.cells #[.int .i64 n0, .int .i64 v0] 23)) (w.heap.size) (.int .i64 n0) (.int .i64 v0) := by simpa using C2.here w (.int .i64 n0) (.int .i64 v0) 23
  go_enter Try.func4, Try.ntmps4
  go_wp2_with ((go_at_call 14; (with_reducible refine (toTable_any _ _ _).mono ?_); rintro e w' ⟨rfl, hb⟩; have hL := chain (B := w.heap.size) (a := w) (by go_grown) (Nat.le_refl _) hb; (first | replace k0 := keepAt hb k0 | replace k0 := keepAt hb (C2.alloc k0 _)); clear hb))
  refine (D2.out _).mono ?_
  rintro e wa ⟨uW, rfl, oW, hb⟩
  have hL := chain (B := w.heap.size) (a := w) (by go_grown) (Nat.le_refl _) hb
  replace k0 := keepAt hb k0
  clear hb
  have ltW := World.ownsRow.lt oW
  go_wp2_with ((go_at_call 14; (with_reducible refine (toTable_any _ _ _).mono ?_); rintro e w' ⟨rfl, hb⟩; have hL := chain (B := w.heap.size) (a := w) (by go_grown) (Nat.le_refl _) hb; (first | replace k0 := keepAt hb k0 | replace k0 := keepAt hb (C2.alloc k0 _)); replace oW := ownsKeepAt hb oW; clear hb))
  have hLw := hL.size
  refine (D1.out _).mono ?_
  rintro e wc ⟨uG, rfl, oG, hb⟩
  have hzb := hb.size
  have hL := chain (B := w.heap.size) (a := w) (by go_grown) (Nat.le_refl _) hb
  have sepW : ∀ b, uW.ownBlock = some b → b < wc.heap.size := fun b e => (World.ownsRow.lt (Owns.keep oW hb) b e).2
  have sep : uW.ownBlock = none ∨ uW.ownBlock ≠ uG.ownBlock := by
    rcases hu : uW.ownBlock with _ | b
    · exact .inl rfl
    · right; intro e
      have h1 := (World.ownsRow.lt oG b e.symm).1
      have h2 := (World.ownsRow.lt oW b hu).2
      omega
  have sepK : uG.ownBlock ≠ some w.heap.size := fun e => by
    have h1 := (World.ownsRow.lt oG _ e).1
    have h2 := k0.2.2.2.2
    omega
  have fromG : ∀ b, uG.ownBlock = some b → w.heap.size ≤ b := fun b e => by
    have h1 := (World.ownsRow.lt oG b e).1
    have h2 := hLw
    omega
  replace oW := Owns.keep oW hb
  replace k0 := keepAt hb k0
  clear hb ltW sepW hzb hLw
  have HF := Lib.hid fromG
  have HS := Lib.hid sep
  have HK := Lib.hid sepK
  clear sepK
  clear fromG sep
  go_wp2_with fail
  refine (eqInt64S_same _ _ xs _ oG.reads oW.reads).mono ?_
  rintro e wd ⟨rfl, hb⟩
  have hL := chain (B := w.heap.size) (a := w) (by go_grown) (Nat.le_refl _) hb
  replace oW := Owns.keep oW hb
  replace oG := Owns.keep oG hb
  replace k0 := keepAt hb k0
  clear hb
  go_wp2_with fail
  refine (markInt64S_any _ _ xs 1 _ oG (by omega) (by omega) (by omega)).mono ?_
  rintro e we ⟨rfl, oM, hg⟩
  have hL := Below.grown hL hg (by have := hL.size; omega) HF.out
  replace oW : Owns we _ uW xs := World.ownsRow.kept oW hg HS.out
  replace k0 := C2.grown k0 hg HK.out
  clear hg oG
  go_wp2_with fail
  refine (heldInt64S_any _ xs.length 1 _ oM.reads (by omega) (by omega) (by omega)).mono ?_
  rintro e wf ⟨rfl, hb⟩
  have hL := chain (B := w.heap.size) (a := w) (by go_grown) (Nat.le_refl _) hb
  replace oW := Owns.keep oW hb
  replace oM := Owns.keep oM hb
  replace k0 := keepAt hb k0
  clear hb
  go_wp2_with ((go_at_call 14; (with_reducible refine (toTable_any _ _ _).mono ?_); rintro e w' ⟨rfl, hb⟩; have hL := chain (B := w.heap.size) (a := w) (by go_grown) (Nat.le_refl _) hb; (first | replace k0 := keepAt hb k0 | replace k0 := keepAt hb (C2.alloc k0 _)); replace oW := ownsKeepAt hb oW; replace oM := ownsKeepAt hb oM; clear hb))
  refine (D1.out _).mono ?_
  rintro e wh ⟨uH, rfl, oH, hb⟩
  have hL := chain (B := w.heap.size) (a := w) (by go_grown) (Nat.le_refl _) hb
  replace oW := Owns.keep oW hb
  replace oM := Owns.keep oM hb
  replace k0 := keepAt hb k0
  clear hb
  go_wp2_with fail
  refine (eqInt64S_same _ _ xs _ oH.reads oW.reads).mono ?_
  rintro e wi ⟨rfl, hb⟩
  have hL := chain (B := w.heap.size) (a := w) (by go_grown) (Nat.le_refl _) hb
  replace oM := Owns.keep oM hb
  replace k0 := keepAt hb k0
  clear hb
  go_wp2_with fail
  refine (heldInt64S_any _ xs.length 1 _ oM.reads (by omega) (by omega) (by omega)).mono ?_
  rintro e wj ⟨rfl, hb⟩
  have hL := chain (B := w.heap.size) (a := w) (by go_grown) (Nat.le_refl _) hb
  replace k0 := keepAt hb k0
  clear hb
  go_wp2_with fail
  go_ret
  exact ⟨rfl, by first | assumption | go_grown⟩

end Go.Proofs.Ytgcdpbikeimelab
