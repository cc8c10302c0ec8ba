/- The walk of FnExactLoadsOf. -/
import Derived.Test.YtlihnknlpbokiabLoads
import Derived.Test.YtlihnknlpbokiabNetX
namespace Go.Proofs.Ytlihnknlpbokiab
open Go.RowKit
set_option linter.unusedVariables false

set_option maxRecDepth 100000 in
set_option maxHeartbeats 4000000 in
theorem walkFnExactLoadsOf (p : Int) (va : Value) (xss : List (List Int)) (w : World) (ha : Reads2 w va xss) :
    Calls Try.prog 8 #[.agg #[.int .i64 p, va]] w fun e w' => e = .returned (.bool true) ∧ Below w.heap.size w w' := by
  obtain ⟨cd, hcd⟩ : ∃ cd, ldCode p xss = cd := ⟨_, rfl⟩
  obtain ⟨xs, hxs⟩ : ∃ xs, ldList p xss = xs := ⟨_, rfl⟩
  have hlen : xs.length ≤ 1000 := by rw [← hxs]; exact ldList_len p xss
  have D1 : Hid (∀ (u : Value) (w : World), Reads2 w u xss → Calls Try.prog 35 #[.agg #[.int .i64 p, u]] w fun e w' => ∃ r, e = .returned (.tuple #[r, .int .i64 cd]) ∧ Owns w' w.heap.size r xs ∧ Below w.heap.size w w') := fun u w h => by subst hcd hxs; exact iLoadsOf_any p u xss w h
  have D2 : Hid (∀ (u : Value) (w : World), Reads2 w u xss → Calls Try.prog 34 #[.agg #[.int .i64 p, u]] w fun e w' => ∃ r, e = .returned (.tuple #[r, .int .i64 cd]) ∧ Owns w' w.heap.size r xs ∧ Below w.heap.size w w') := fun u w h => by subst hcd hxs; exact sLoadsOf_any p u xss w h
  clear hcd hxs
  have HR := Lib.hid ha
  obtain ⟨z, hz⟩ : ∃ z, szZ2 1048576 xss = z := ⟨_, rfl⟩
  have HZ := Lib.hid hz
  obtain ⟨a, ca, rfl, _, _⟩ := ha
  have k0 := C2.here w (.int .i64 p) (.slice a xss.length ca) 24
  have HR0 := Lib.hid (HR.out.keep ((Below.refl _ _).alloc (Nat.le_refl _) (.cells #[.int .i64 p, .slice a xss.length ca] 24)))
  have HQ : Hid ((0 : Int) ≤ 1048576 ∧ (1048576 : Int) ≤ 1048576) := by unfold Hid; omega
  by_cases hz1 : z = -1
  · subst hz1
    clear hz
    go_enter Try.func8, Try.ntmps8
    go_wp2_with (go_at_call 12; (with_reducible refine (szNetwork_any _ _ xss _ _ HR0.out HQ.out.1 HQ.out.2 HZ.out).mono ?_); rintro e w' ⟨rfl, hb⟩; have hL := chain (B := w.heap.size) (a := w) (by go_grown) (Nat.le_refl _) hb; clear hb)
    go_ret
    exact ⟨rfl, hL⟩
  · obtain ⟨hn, hl, hsum, z0⟩ := purse hz hz1
    have HN := Lib.hid hn
    have HL := Lib.hid hl
    have HSUM := Lib.hid hsum
    have hz2 : ¬ z < 0 := by omega
    clear hz hl hn hz1 hsum
    go_enter Try.func8, Try.ntmps8
    go_wp2_with fail
    refine (szNetwork_any _ _ xss _ _ HR0.out HQ.out.1 HQ.out.2 HZ.out).mono ?_
    rintro e w1 ⟨rfl, hb⟩
    have hs := hb.size
    (repeat (first | rw [World.size_alloc] at hs | rw [World.size_drew] at hs))
    have hL := chain (B := w.heap.size) (a := w) (by go_grown) (Nat.le_refl _) hb
    have hzL := hL.size
    replace k0 := keepAt hb k0
    clear hb hs
    go_wp2_with fail
    refine (toNetwork_x _ _ xss _ (HR.out.keep (by go_grown)) HN.out HL.out).mono ?_
    rintro e w2 ⟨na, nc, B_, C_, rfl, on, hB, hC, hb⟩
    clear hB hC
    have hs := hb.size
    (repeat (first | rw [World.size_alloc] at hs | rw [World.size_drew] at hs))
    have hL := chain (B := w.heap.size) (a := w) (by go_grown) (Nat.le_refl _) hb
    have hzL := hL.size
    replace k0 := keepAt hb k0
    clear hb hs
    have RN := Lib.hid on.reads
    clear on
    go_wp2_with fail
    refine (D2.out _ _ RN.out).mono ?_
    rintro e w3 ⟨uW, rfl, oW, hb⟩
    clear RN
    have hs := hb.size
    (repeat (first | rw [World.size_alloc] at hs | rw [World.size_drew] at hs))
    have hL := chain (B := w.heap.size) (a := w) (by go_grown) (Nat.le_refl _) hb
    have hzL := hL.size
    replace k0 := keepAt hb k0
    clear hb hs
    replace oW := oW.mono (base' := w.heap.size) (by omega)
    obtain ⟨BW, hBW⟩ : ∃ B, B = w3.heap.size := ⟨_, rfl⟩
    have LW : Hid (∀ b, uW.ownBlock = some b → b < BW) := fun b e => by rw [hBW]; exact (World.ownsRow.lt oW b e).2
    have hBW2 : BW ≤ w3.heap.size := by omega
    have hBW3 : w.heap.size < BW := by have := k0.2.2.2.2; omega
    clear hBW
    go_wp2_with fail
    refine (toNetwork_x _ _ xss _ (HR.out.keep (by go_grown)) HN.out HL.out).mono ?_
    rintro e w4 ⟨xa, xc, B, C, rfl, ox, hB, ⟨hBC, hC⟩, hb⟩
    have hs := hb.size
    (repeat (first | rw [World.size_alloc] at hs | rw [World.size_drew] at hs))
    have hL := chain (B := w.heap.size) (a := w) (by go_grown) (Nat.le_refl _) hb
    have hzL := hL.size
    replace k0 := keepAt hb k0
    replace oW := Owns.keep oW hb
    have hB2 : BW ≤ B := by omega
    clear hB hBW2
    clear hb hs
    have oX := Lib.hid (Own2.keep ox ((Below.refl _ _).alloc (Nat.le_refl _) (.cells #[.int .i64 p, .slice xa xss.length xc] 30)))
    have RX := Lib.hid oX.out.reads
    clear ox
    have kx := C2.here w4 (.int .i64 p) (.slice xa xss.length xc) 30
    replace k0 := k0.alloc (.cells #[.int .i64 p, .slice xa xss.length xc] 30)
    have oW4 : Owns (w4.alloc (.cells #[.int .i64 p, .slice xa xss.length xc] 30)) w.heap.size uW xs := World.ownsRow.alloc oW _
    clear oW
    have oW := oW4
    clear oW4
    go_wp2_with fail
    refine (D1.out _ _ RX.out).mono ?_
    rintro e w5 ⟨uG, rfl, oG, hb⟩
    have hs := hb.size
    (repeat (first | rw [World.size_alloc] at hs | rw [World.size_drew] at hs))
    have hL := chain (B := w.heap.size) (a := w) (by go_grown) (Nat.le_refl _) hb
    have hzL := hL.size
    replace k0 := keepAt hb k0
    replace kx := keepAt hb kx
    replace oW := Owns.keep oW hb
    replace oX := Lib.hid (Own2.keep oX.out hb)
    replace RX := Lib.hid (reads2At hb RX.out)
    replace oG := oG.mono (base' := C) (by rw [World.size_alloc]; omega)
    have hC5 : C ≤ w5.heap.size := by omega
    clear hb hs
    go_wp2_with fail
    refine (eqInt64S_same _ _ xs _ oG.reads oW.reads).mono ?_
    rintro e w6 ⟨rfl, hb⟩
    have hs := hb.size
    (repeat (first | rw [World.size_alloc] at hs | rw [World.size_drew] at hs))
    have hL := chain (B := w.heap.size) (a := w) (by go_grown) (Nat.le_refl _) hb
    have hzL := hL.size
    replace k0 := keepAt hb k0
    replace kx := keepAt hb kx
    replace oW := Owns.keep oW hb
    replace oX := Lib.hid (Own2.keep oX.out hb)
    replace oG := Owns.keep oG hb
    replace RX := Lib.hid (reads2At hb RX.out)
    have hC6 : C ≤ w6.heap.size := by omega
    clear hb hs
    go_wp2_with fail
    go_upto_region 10 with fail
    go_region_with (first | (go_at_call 14; (with_reducible refine (toNetwork_any _ _ xss _ (HR.out.keep (by go_grown)) HN.out HL.out).mono ?_); rintro e w7 ⟨ya, yc, rfl, oy, hb⟩; have hs := hb.size; (repeat (first | rw [World.size_alloc] at hs | rw [World.size_drew] at hs)); have hL := chain (B := w.heap.size) (a := w) (by go_grown) (Nat.le_refl _) hb; replace k0 := keepAt hb (show C2 _ _ _ _ from k0); replace kx := keepAt hb (show C2 _ _ _ _ from kx); replace oX := Lib.hid (own2At hb oX.out); replace oG := ownsKeepAt hb (show Owns _ _ _ _ from oG); replace oW := ownsKeepAt hb (show Owns _ _ _ _ from oW); have RY := Lib.hid oy.reads; replace RX := Lib.hid (reads2At hb RX.out); clear hb oy) | (go_at_call 17; (with_reducible refine (eqNetwork_same _ _ _ xss _ RX.out RY.out).mono ?_); rintro e w8 ⟨rfl, hb⟩; have hs2 := hb.size; (repeat (first | rw [World.size_alloc] at hs2 | rw [World.size_drew] at hs2)); have hL := chain (B := w.heap.size) (a := w) (by go_grown) (Nat.le_refl _) hb; replace k0 := keepAt hb (show C2 _ _ _ _ from k0); replace kx := keepAt hb (show C2 _ _ _ _ from kx); replace oX := Lib.hid (own2At hb oX.out); replace oG := ownsKeepAt hb (show Owns _ _ _ _ from oG); replace oW := ownsKeepAt hb (show Owns _ _ _ _ from oW); clear hb RX RY))
    all_goals (go_wp2_with fail)
    all_goals (refine (markNetwork_any p _ B C xss 1 _ oX.out (by omega) HL.out (by omega) (by have := HSUM.out; omega)).mono ?_)
    all_goals (rintro e w9 ⟨rfl, om, oo⟩)
    all_goals (clear om)
    all_goals (have hs9 := oo.size)
    all_goals (have hL9 : Below w.heap.size w w9 := hL.trans ((oo.below (by omega)).mono (by omega)))
    all_goals (have k9 := oo.c2 k0 (.inl (by omega)))
    all_goals (have oG9 := oo.owns oG (Nat.le_refl _))
    all_goals (have oW9 : Owns w9 w.heap.size uW xs := rowSame oW fun k _ e => oo.block k (World.ownsRow.lt oW k e).2 (.inl (by have := LW.out k e; omega)))
    all_goals (have hneg9 : ¬ (1 + ((sumLen xss xss.length : Nat) : Int)) < 0 := by omega)
    all_goals (clear oo kx k0 oG oW oX)
    all_goals (have hC9 : C ≤ w9.heap.size := by omega)
    all_goals (clear hL)
    all_goals (go_wp2_with fail)
    all_goals (refine (eqInt64S_same _ _ xs _ oG9.reads oW9.reads).mono ?_)
    all_goals (rintro e w10 ⟨rfl, hb⟩)
    all_goals (have hs := hb.size)
    all_goals ((repeat (first | rw [World.size_alloc] at hs | rw [World.size_drew] at hs)))
    all_goals (have hL := chain (B := w.heap.size) (a := w) (by go_grown) (Nat.le_refl _) hb)
    all_goals (replace k9 := keepAt hb k9)
    all_goals (replace oG9 := Owns.keep oG9 hb)
    all_goals (replace oW9 := Owns.keep oW9 hb)
    all_goals (clear hL9)
    all_goals (clear hb hs)
    all_goals (go_wp2_with fail)
    all_goals (have HF : Hid (∀ b, uG.ownBlock = some b → w.heap.size < b ∧ BW ≤ b) := fun b e => by have := (World.ownsRow.lt oG9 b e).1; exact ⟨by omega, by omega⟩)
    all_goals (refine (markInt64S_any _ _ xs 1 _ oG9 (by omega) (by omega) (by omega)).mono ?_)
    all_goals (rintro e w11 ⟨rfl, oM, hg⟩)
    all_goals (have hL := Below.grown hL hg (by have := hL.size; omega) (fun b e => by have := (HF.out b e).1; omega))
    all_goals (have oW11 : Owns w11 w.heap.size uW xs := rowSame oW9 fun k _ e => hg.block k (World.ownsRow.lt oW9 k e).2 (fun e2 => by have := LW.out k e; have := (HF.out k e2.symm).2; omega))
    all_goals (have k11 := C2.grown k9 hg (fun e => by have := (HF.out _ e).1; omega))
    all_goals (clear hg oG9 oW9 k9)
    all_goals (go_wp2_with fail)
    all_goals (refine (heldInt64S_any _ xs.length 1 _ oM.reads (by omega) (by omega) (by omega)).mono ?_)
    all_goals (rintro e w12 ⟨rfl, hb⟩)
    all_goals (have hs := hb.size)
    all_goals ((repeat (first | rw [World.size_alloc] at hs | rw [World.size_drew] at hs)))
    all_goals (have hL := chain (B := w.heap.size) (a := w) (by go_grown) (Nat.le_refl _) hb)
    all_goals (replace k11 := keepAt hb k11)
    all_goals (replace oW11 := Owns.keep oW11 hb)
    all_goals (replace oM := Owns.keep oM hb)
    all_goals (clear hb hs)
    all_goals (go_wp2_with fail)
    all_goals (refine (toNetwork_x _ _ xss _ (HR.out.keep (by go_grown)) HN.out HL.out).mono ?_)
    all_goals (rintro e w13 ⟨ha', hc', B_, C_, rfl, oh, hB_, hC_, hb⟩)
    all_goals (have hs := hb.size)
    all_goals ((repeat (first | rw [World.size_alloc] at hs | rw [World.size_drew] at hs)))
    all_goals (have hL := chain (B := w.heap.size) (a := w) (by go_grown) (Nat.le_refl _) hb)
    all_goals (replace k11 := keepAt hb k11)
    all_goals (replace oW11 := Owns.keep oW11 hb)
    all_goals (replace oM := Owns.keep oM hb)
    all_goals (clear hB_ hC_)
    all_goals (have RH := Lib.hid oh.reads)
    all_goals (clear oh)
    all_goals (clear hb hs)
    all_goals (go_wp2_with fail)
    all_goals (refine (D1.out _ _ RH.out).mono ?_)
    all_goals (rintro e w14 ⟨uH, rfl, oH, hb⟩)
    all_goals (have hs := hb.size)
    all_goals ((repeat (first | rw [World.size_alloc] at hs | rw [World.size_drew] at hs)))
    all_goals (have hL := chain (B := w.heap.size) (a := w) (by go_grown) (Nat.le_refl _) hb)
    all_goals (replace k11 := keepAt hb k11)
    all_goals (replace oW11 := Owns.keep oW11 hb)
    all_goals (replace oM := Owns.keep oM hb)
    all_goals (clear RH)
    all_goals (clear hb hs)
    all_goals (go_wp2_with fail)
    all_goals (refine (eqInt64S_same _ _ xs _ oH.reads oW11.reads).mono ?_)
    all_goals (rintro e w15 ⟨rfl, hb⟩)
    all_goals (have hs := hb.size)
    all_goals ((repeat (first | rw [World.size_alloc] at hs | rw [World.size_drew] at hs)))
    all_goals (have hL := chain (B := w.heap.size) (a := w) (by go_grown) (Nat.le_refl _) hb)
    all_goals (replace oM := Owns.keep oM hb)
    all_goals (clear oH oW11 k11)
    all_goals (clear hb hs)
    all_goals (go_wp2_with fail)
    all_goals (refine (heldInt64S_any _ xs.length 1 _ oM.reads (by omega) (by omega) (by omega)).mono ?_)
    all_goals (rintro e w16 ⟨rfl, hb⟩)
    all_goals (have hs := hb.size)
    all_goals ((repeat (first | rw [World.size_alloc] at hs | rw [World.size_drew] at hs)))
    all_goals (have hL := chain (B := w.heap.size) (a := w) (by go_grown) (Nat.le_refl _) hb)
    all_goals (clear oM)
    all_goals (clear hb hs)
    all_goals (go_wp2_with fail)
    all_goals go_ret
    all_goals exact ⟨rfl, by first | assumption | go_grown⟩

end Go.Proofs.Ytlihnknlpbokiab
