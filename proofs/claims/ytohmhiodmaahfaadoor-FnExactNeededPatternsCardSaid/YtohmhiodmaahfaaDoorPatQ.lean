/- Patterns: the program's signsOf, isPattern. -/
import Derived.Test.YtohmhiodmaahfaaDoorPatP
import Derived.Test.YtohmhiodmaahfaaDoorByt
namespace Go.Proofs.YtohmhiodmaahfaaDoor
open Go.RowKit Go.Shelf
set_option linter.unusedVariables false

theorem repX : Builder.Extra Tryd.prog repA_ren where
  sizeBuilder := by kernel_rfl
  liesBuilder := by kernel_rfl
  t5 := by kernel_rfl
  a5 := fun _ => by kernel_rfl
  z5 := fun _ => by kernel_rfl
  v5 := fun _ => by kernel_rfl
  infoByte := by kernel_rfl
  cellsByte := by kernel_rfl
  sizeByte := by kernel_rfl
  neB5 := by decide

def dash5 : ByteArray := ⟨#[45, 45, 45, 45, 45]⟩
theorem repeat5 (w : World) : Calls Tryd.prog 71 #[.string ⟨#[45]⟩, .int .i64 5] w fun e w' => e = .returned (.string dash5) ∧ Below w.heap.size w w' := by
  have h := Any.strings_Repeat repA repX ⟨#[45]⟩ 5 w (by decide) (by decide)
  exact h
theorem sgn_append (s : ByteArray) (hs : s.size ≤ 5) (i : Nat) (hi : i < 5) : byteAt (s ++ dash5) i = sgn s i := by
  have hz : (s ++ dash5).size = s.size + 5 := ByteArray.size_append
  rw [byteAt_eq _ _ (by omega)]
  unfold sgn
  split
  · rename_i h
    rw [byteAt_eq _ _ h, ByteArray.getElem_append_left h]
  · rename_i h
    rw [ByteArray.getElem_append_right (by omega)]
    have : ∀ j : Fin 5, ((dash5[j.val]'j.isLt).toNat : Int) = 45 := by decide
    exact this ⟨i - s.size, by omega⟩

set_option maxRecDepth 100000 in
set_option maxHeartbeats 4000000 in
theorem signsOf_any (s : ByteArray) (hs : s.size ≤ 5) (w : World) :
    Calls Tryd.prog 41 #[.string s] w fun e w' => e = .returned (patA (sgn s)) ∧ Below w.heap.size w w' := by
  have HA := Lib.hid (sgn_append s hs)
  have hz : (s ++ dash5).size = s.size + 5 := ByteArray.size_append
  obtain ⟨S, hS⟩ : ∃ S, s ++ dash5 = S := ⟨_, rfl⟩
  have HR := Lib.hid (fun w => repeat5 w)
  have HSS := Lib.hid hS
  rw [hS] at hz HA
  obtain ⟨n, hn⟩ : ∃ n, S.size = n := ⟨_, rfl⟩
  rw [hn] at hz
  have hn5 : 5 ≤ n := by omega
  have hn10 : n ≤ 10 := by omega
  clear hz
  have hcv : ∀ w : World, (convert 9 92 (.string (s ++ dash5))).run Tryd.prog w = .ok (.slice (some ⟨w.heap.size, 0, none⟩) n (grownCap w n 0 5)) (w.drew.alloc (.cells (bytesRow S (grownCap w n 0 5)) 5 ((bytesRow S (grownCap w n 0 5)).size, (bytesRow S (grownCap w n 0 5)).size + 1))) := fun w => by
    rw [hS, ← hn]; exact run_bytes_of_string (P := Tryd.prog) w 9 92 5 S Tryd.underlying9 Tryd.underlying92 Tryd.underlying5
  have HB : Hid (∀ (w : World) (cap : Nat), Byt (w.alloc (.cells (bytesRow S cap) 5 ((bytesRow S cap).size, (bytesRow S cap).size + 1))) w.heap.size n (byteAt S)) := fun w cap => by rw [← hn]; exact Byt.new w S cap 5
  have HArr : Hid (∀ (w : World) (a : Option Addr) (cc : Nat), (Instr.arrayAt 62 (.slice a n cc)).run Tryd.prog w = .ok (.pointer a) w) := fun w a cc => run_arrayAt w _ _ 5 a n cc Tryd.underlying62 (by omega)
  have HC5 := Lib.hid (C5.here w (.int .u8 0) (.int .u8 0) (.int .u8 0) (.int .u8 0) (.int .u8 0) 62)
  have HF5 : Hid (∀ i, (w.alloc (.cells #[.int .u8 0, .int .u8 0, .int .u8 0, .int .u8 0, .int .u8 0] 62)).frozen? ⟨w.heap.size, i, none⟩ = false) := fun i => World.frozen?_alloc_at _ _ _ _ rfl
  have hds : dash5.size = 5 := rfl
  clear hS hn
  unfold patA
  rw [← HA.out 0 (by omega), ← HA.out 1 (by omega), ← HA.out 2 (by omega), ← HA.out 3 (by omega), ← HA.out 4 (by omega)]
  clear HA
  go_enter Tryd.func41, Tryd.ntmps41
  go_wp2_with (go_at_call 71; (with_reducible refine (HR.out _).mono ?_); rintro e w2 ⟨rfl, hb⟩)
  have hz2 := hb.size
  rw [World.size_alloc] at hz2
  have hL2 : Below w.heap.size w w2 := ((Below.refl _ _).alloc (Nat.le_refl _) _).trans (hb.mono (by simp))
  have hbw : w.heap.size < (w.alloc (.cells #[.int .u8 0, .int .u8 0, .int .u8 0, .int .u8 0, .int .u8 0] 62)).heap.size := by simp
  have k5 := HC5.out.keep hb
  have hf0 := (hb.frozen (p := ⟨w.heap.size, 0, none⟩) hbw).trans (HF5.out 0)
  have hf1 := (hb.frozen (p := ⟨w.heap.size, 1, none⟩) hbw).trans (HF5.out 1)
  have hf2 := (hb.frozen (p := ⟨w.heap.size, 2, none⟩) hbw).trans (HF5.out 2)
  have hf3 := (hb.frozen (p := ⟨w.heap.size, 3, none⟩) hbw).trans (HF5.out 3)
  have hf4 := (hb.frozen (p := ⟨w.heap.size, 4, none⟩) hbw).trans (HF5.out 4)
  generalize grownCap w2 n 0 5 = cap at *
  have hB : Byt (w2.alloc (.cells (bytesRow S cap) 5 ((bytesRow S cap).size, (bytesRow S cap).size + 1))).drew w2.heap.size n (byteAt S) := HB.out w2 cap
  clear hb HB HC5 HF5 hcv HR HSS hbw
  generalize hw3 : (w2.alloc (.cells (bytesRow S cap) 5 ((bytesRow S cap).size, (bytesRow S cap).size + 1))).drew = w3 at *
  have hL23 : Below w2.heap.size w2 w3 := by rw [← hw3]; exact ((Below.refl _ _).alloc (Nat.le_refl _) _).drew
  replace k5 := k5.keep hL23
  have hlt : w.heap.size < w2.heap.size := by omega
  have hg0 := (hL23.frozen (p := ⟨w.heap.size, 0, none⟩) hlt).trans hf0
  have hg1 := (hL23.frozen (p := ⟨w.heap.size, 1, none⟩) hlt).trans hf1
  have hg2 := (hL23.frozen (p := ⟨w.heap.size, 2, none⟩) hlt).trans hf2
  have hg3 := (hL23.frozen (p := ⟨w.heap.size, 3, none⟩) hlt).trans hf3
  have hg4 := (hL23.frozen (p := ⟨w.heap.size, 4, none⟩) hlt).trans hf4
  have hc0 := (hB.2 0 (by omega)).1
  have hc1 := (hB.2 1 (by omega)).1
  have hc2 := (hB.2 2 (by omega)).1
  have hc3 := (hB.2 3 (by omega)).1
  have hc4 := (hB.2 4 (by omega)).1
  have hL3 : Below w.heap.size w w3 := hL2.trans (hL23.mono (by omega))
  have hz3 := hL23.size
  have hArr := HArr.out
  clear hf0 hf1 hf2 hf3 hf4 hB hw3 hL23 hL2 HArr
  obtain ⟨x0, hx0⟩ : ∃ x, byteAt S 0 = x := ⟨_, rfl⟩
  rw [hx0] at hc0
  have HX0 := Lib.hid hx0
  clear hx0
  obtain ⟨x1, hx1⟩ : ∃ x, byteAt S 1 = x := ⟨_, rfl⟩
  rw [hx1] at hc1
  have HX1 := Lib.hid hx1
  clear hx1
  obtain ⟨x2, hx2⟩ : ∃ x, byteAt S 2 = x := ⟨_, rfl⟩
  rw [hx2] at hc2
  have HX2 := Lib.hid hx2
  clear hx2
  obtain ⟨x3, hx3⟩ : ∃ x, byteAt S 3 = x := ⟨_, rfl⟩
  rw [hx3] at hc3
  have HX3 := Lib.hid hx3
  clear hx3
  obtain ⟨x4, hx4⟩ : ∃ x, byteAt S 4 = x := ⟨_, rfl⟩
  rw [hx4] at hc4
  have HX4 := Lib.hid hx4
  clear hx4
  rw [hArr]
  go_wp2
  refine bodyPost_ret (v := .agg #[.int .u8 x0, .int .u8 x1, .int .u8 x2, .int .u8 x3, .int .u8 x4]) (by simp [results, Tryd.results41, go_sem, *]) rfl ?_
  exact ⟨by rw [HX0.out, HX1.out, HX2.out, HX3.out, HX4.out], by go_grown⟩

theorem sgn_byte (s : ByteArray) : ByteF (sgn s) := fun i => by
  unfold sgn
  split
  · exact byteAt_bd s i
  · omega

set_option maxRecDepth 100000 in
set_option maxHeartbeats 1000000 in
theorem isPattern_any (s : ByteArray) (hs : s.size ≤ 1048576) (n : Int) (w : World) :
    Calls Tryd.prog 39 #[.string s, .int .i64 n] w fun e w' => e = .returned (.bool (isPat s n)) ∧ Below w.heap.size w w' := by
  have HH := Lib.hid (fun w => hasSignsOf_any s ⟨#[45, 48, 49]⟩ w hs (by decide) (by decide))
  have hs63 : s.size ≤ 9223372036854775807 := by omega
  by_cases h : (s.size : Int) = n
  · have HR : Hid (isPat s n = allIn s [45, 48, 49]) := by unfold Hid isPat; rw [decide_eq_true h]; rfl
    have hq : ((s.size : Int) == n) = true := by simpa using h
    clear h
    go_enter Tryd.func39, Tryd.ntmps39
    go_wp2_with (go_at_call 31; (with_reducible refine (HH.out _).mono ?_); rintro e w2 ⟨rfl, hL⟩)
    go_ret
    exact ⟨by rw [HR.out]; rfl, hL⟩
  · have HR : Hid (isPat s n = false) := by unfold Hid isPat; rw [decide_eq_false h]; rfl
    have hq : ((s.size : Int) == n) = false := by simpa using h
    clear h
    go_enter Tryd.func39, Tryd.ntmps39
    go_wp2_with fail
    go_ret
    exact ⟨by rw [HR.out]; rfl, Below.refl _ _⟩
theorem isPattern_b (s : ByteArray) (hs : s.size ≤ 1048576) (n : Int) (w : World) {b : Bool} (h : isPat s n = b) :
    Calls Tryd.prog 39 #[.string s, .int .i64 n] w fun e w' => e = .returned (.bool b) ∧ Below w.heap.size w w' := by
  have := isPattern_any s hs n w
  rwa [h] at this

end Go.Proofs.YtohmhiodmaahfaaDoor
