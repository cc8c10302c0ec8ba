/- The door of chapter 3: what is no table is a panic that a deferred function recovers. -/
import Derived.Test.YtapcblibokkhcaaDoorVal
import Derived.Test.YtapcblibokkhcaaDoorTf
import Derived.Defers
import Derived.Recover
import Derived.Shelf.Abstract
namespace Go.Proofs.YtapcblibokkhcaaDoor
open Go.RowKit
set_option linter.unusedVariables false

/-- what the program panics with, at what is no table -/
abbrev errV (a : Addr) : Value := .iface 87 (.pointer (some a))

set_option maxHeartbeats 1000000 in
theorem tableOrPanic_yes (n v : Int) (w : World) (ht : isTab n v = true) :
    Calls Tryd.prog 54 #[.agg #[.int .i64 n, .int .i64 v]] w fun e w' => e = .returned (.agg #[.int .i64 n, .int .i64 v]) ∧ Below w.heap.size w w' := by
  have HT := Lib.hid ht
  clear ht
  have k0 : C2 ((w.alloc (.cells #[.int .i64 n, .int .i64 v] 26)).alloc (.cells #[.int .i64 0, .int .i64 0] 26)) (w.heap.size) (.int .i64 n) (.int .i64 v) := by simpa using (C2.here w (.int .i64 n) (.int .i64 v) 26).alloc (.cells #[.int .i64 0, .int .i64 0] 26)
  have k1 : C2 ((w.alloc (.cells #[.int .i64 n, .int .i64 v] 26)).alloc (.cells #[.int .i64 0, .int .i64 0] 26)) (w.heap.size + 1) (.int .i64 0) (.int .i64 0) := by simpa using C2.here (w.alloc (.cells #[.int .i64 n, .int .i64 v] 26)) (.int .i64 0) (.int .i64 0) 26
  go_enter Tryd.func54, Tryd.ntmps54
  go_wp2_with ((go_at_call 27; (with_reducible refine (isTable_b _ _ _ HT.out).mono ?_); rintro e w' ⟨rfl, hb⟩; have hL := chain (B := w.heap.size) (a := w) (by go_grown) (Nat.le_refl _) hb; (first | replace k0 := keepAt hb k0 | replace k0 := keepAt hb (C2.alloc k0 _)); (first | replace k1 := keepAt hb k1 | replace k1 := keepAt hb (C2.alloc k1 _)); clear hb))
  refine bodyPost_ret (v := .agg #[.int .i64 n, .int .i64 v]) (by simp [results, Tryd.results54, go_sem, *]) rfl ?_
  exact ⟨rfl, by go_grown⟩

set_option maxHeartbeats 1000000 in
theorem tableOrPanic_no (n v : Int) (a : Addr) (w : World) (ht : isTab n v = false) (hg : w.cell? ⟨0, 0, none⟩ = some (errV a)) :
    Calls Tryd.prog 54 #[.agg #[.int .i64 n, .int .i64 v]] w fun e w' => e = .panicked [{ v := errV a, recovered := false }] ∧ Below w.heap.size w w' := by
  have HT := Lib.hid ht
  clear ht
  have k0 : C2 ((w.alloc (.cells #[.int .i64 n, .int .i64 v] 26)).alloc (.cells #[.int .i64 0, .int .i64 0] 26)) (w.heap.size) (.int .i64 n) (.int .i64 v) := by simpa using (C2.here w (.int .i64 n) (.int .i64 v) 26).alloc (.cells #[.int .i64 0, .int .i64 0] 26)
  have k1 : C2 ((w.alloc (.cells #[.int .i64 n, .int .i64 v] 26)).alloc (.cells #[.int .i64 0, .int .i64 0] 26)) (w.heap.size + 1) (.int .i64 0) (.int .i64 0) := by simpa using C2.here (w.alloc (.cells #[.int .i64 n, .int .i64 v] 26)) (.int .i64 0) (.int .i64 0) 26
  have cg : ((w.alloc (.cells #[.int .i64 n, .int .i64 v] 26)).alloc (.cells #[.int .i64 0, .int .i64 0] 26)).cell? ⟨0, 0, none⟩ = some (errV a) := cell_later (by go_grown) hg
  go_enter Tryd.func54, Tryd.ntmps54
  go_wp2_with ((go_at_call 27; (with_reducible refine (isTable_b _ _ _ HT.out).mono ?_); rintro e w' ⟨rfl, hb⟩; have hL := chain (B := w.heap.size) (a := w) (by go_grown) (Nat.le_refl _) hb; (first | replace k0 := keepAt hb k0 | replace k0 := keepAt hb (C2.alloc k0 _)); (first | replace k1 := keepAt hb k1 | replace k1 := keepAt hb (C2.alloc k1 _)); replace cg := cell_later hb cg; clear hb))
  exact ⟨rfl, rfl, by go_grown⟩

theorem assertNil : ∀ w : World, (Instr.typeAssert Value.nilIface 20 60 true).run Tryd.prog w = .ok (.tuple #[.nilIface, .bool false]) w := fun w => by kernel_rfl
theorem assertErr : ∀ (a : Addr) (w : World), (Instr.typeAssert (errV a) 20 60 true).run Tryd.prog w = .ok (.tuple #[errV a, .bool true]) w := fun a w => by kernel_rfl

theorem doorBoolIdle (p : Addr) (w : World) :
    CallsD Tryd.prog 53 #[.pointer (some p)] .returning w fun e u' w' => e = .returned (.tuple #[]) ∧ u' = .returning ∧ w' = w := by
  refine callsD_of_wpS Tryd.func53 rfl fun c₀ cs hu => ?_
  apply wpS_seq
  apply wpS_region
  simp [wpOpsS, go_sem, recoverD, hu, assertNil, Tryd.ntmps53, Exit.thenS]
  apply wpS_seq
  apply wpS_region
  simp [wpOpsS, go_sem, Exit.thenS]
  refine wpS_cond (t := false) (by simp [Act.eval, Array.replicate]) ?_
  simp only [Bool.false_eq_true, if_false]
  refine wpS_of_wp (wp_skip ?_)
  cases c₀
  simp_all [bodyPostS, results, Tryd.results53]

theorem doorBoolPanic (p a : Addr) (older : List PanicEntry) (w : World) (hc : w.cell? p = some (.int .i64 0)) (hz : w.frozen? p = false) :
    CallsD Tryd.prog 53 #[.pointer (some p)] (.panicking ({ v := errV a, recovered := false } :: older)) w fun e u' w' => e = .returned (.tuple #[]) ∧ u' = .panicking ({ v := errV a, recovered := true } :: older) ∧ w' = w.setCell p (.int .i64 1) := by
  refine callsD_of_wpS Tryd.func53 rfl fun c₀ cs hu => ?_
  apply wpS_seq
  apply wpS_region
  simp [wpOpsS, go_sem, recoverD, hu, assertErr, Tryd.ntmps53, Exit.thenS]
  apply wpS_seq
  apply wpS_region
  simp [wpOpsS, go_sem, Exit.thenS]
  refine wpS_cond (t := true) (by simp [Act.eval, Array.replicate]) ?_
  simp only [if_true]
  apply wpS_region
  simp [wpOpsS, go_sem, hc, hz, bodyPostS, results, Tryd.results53]

/-- a box of one cell -/
abbrev C1 (w : World) (b : Nat) (x : Value) : Prop := w.cell? ⟨b, 0, none⟩ = some x ∧ w.frozen? ⟨b, 0, none⟩ = false ∧ b < w.heap.size
theorem C1.here (w : World) (x : Value) (t : TypeId) : C1 (w.alloc (.cells #[x] t)) w.heap.size x :=
  ⟨by rw [World.cell?_alloc_at _ _ _ _ rfl]; rfl, World.frozen?_alloc_at _ _ _ _ rfl, by simp⟩
theorem C1.keep {w w' : World} {b : Nat} {x : Value} (h : C1 w b x) (hb : Below w.heap.size w w') : C1 w' b x := by
  obtain ⟨h0, f0, hz⟩ := h
  have := hb.size
  exact ⟨(hb.cell (p := ⟨b, 0, none⟩) hz).trans h0, (hb.frozen (p := ⟨b, 0, none⟩) hz).trans f0, by omega⟩

set_option maxHeartbeats 1000000 in
theorem doorBool_no (n v : Int) (a : Addr) (F : Nat) (caps : Array Value) (w : World) (ht : isTab n v = false) (hg : w.cell? ⟨0, 0, none⟩ = some (errV a)) :
    Calls Tryd.prog 32 #[.agg #[.int .i64 n, .int .i64 v], .func (.func F) #[] caps] w fun e w' => e = .returned (.tuple #[.bool false, .int .i64 1]) ∧ Below w.heap.size w w' := by
  have HT := Lib.hid ht
  clear ht
  have hmf : ∀ (fn : Fn) (first cap : Array Value) (w : World), (Instr.makeFunc fn first cap).run Tryd.prog w = .ok (.func fn first cap) w := fun _ _ _ _ => rfl
  have cg : ((w.alloc (.cells #[.int .i64 n, .int .i64 v] 26)).alloc (.cells #[.int .i64 0] 2)).cell? ⟨0, 0, none⟩ = some (errV a) := cell_later (by go_grown) hg
  go_enter_defers Tryd.func32, Tryd.ntmps32
  have c1 : C1 ((w.alloc (.cells #[.int .i64 n, .int .i64 v] 26)).alloc (.cells #[.int .i64 0] 2)) (w.heap.size + 1) (.int .i64 0) := by simpa using C1.here (w.alloc (.cells #[.int .i64 n, .int .i64 v] 26)) (.int .i64 0) 2
  go_wp2_with fail
  refine (tableOrPanic_no n v a _ HT.out cg).mono ?_
  rintro e w1 ⟨rfl, hb⟩
  have hL := chain (B := w.heap.size) (a := w) (by go_grown) (Nat.le_refl _) hb
  obtain ⟨h1, f1, z1⟩ := c1.keep hb
  clear hb c1 cg
  show bodyPostD _ _ _ _ _ _
  refine leaves_cons (f := 53) (args := #[.pointer (some ⟨w.heap.size + 1, 0, none⟩)]) (by simp) (by simp [go_sem]) ?_
  refine (doorBoolPanic ⟨w.heap.size + 1, 0, none⟩ a [] _ h1 f1).mono ?_
  rintro e u' w2 ⟨rfl, rfl, rfl⟩
  have hc2 : (w1.setCell ⟨w.heap.size + 1, 0, none⟩ (.int .i64 1)).cell? ⟨w.heap.size + 1, 0, none⟩ = some (.int .i64 1) := World.cell?_setCell_same _ _ _ h1
  have hL2 : Below w.heap.size w (w1.setCell ⟨w.heap.size + 1, 0, none⟩ (.int .i64 1)) := hL.setCell (p := ⟨w.heap.size + 1, 0, none⟩) (by simp) _
  generalize w1.setCell ⟨w.heap.size + 1, 0, none⟩ (.int .i64 1) = w2 at *
  simp [Leaves, settle, results, Tryd.results32, go_sem, hc2, hL2]

set_option maxHeartbeats 1000000 in
theorem doorBool_yes (n v : Int) (F : Nat) (caps : Array Value) (r : Bool) (c : Int) (w : World) (ht : isTab n v = true)
    (hf : ∀ wx : World, Below w.heap.size w wx → Calls Tryd.prog F (#[.agg #[.int .i64 n, .int .i64 v]] ++ caps) wx fun e w' => e = .returned (.tuple #[.bool r, .int .i64 c]) ∧ Below wx.heap.size wx w')
    (hE : ∀ (args : Array Value) (w : World), (callFunc F args).run Tryd.prog w = .ok (.enter F args) w) :
    Calls Tryd.prog 32 #[.agg #[.int .i64 n, .int .i64 v], .func (.func F) #[] caps] w fun e w' => e = .returned (.tuple #[.bool r, .int .i64 c]) ∧ Below w.heap.size w w' := by
  have HT := Lib.hid ht
  clear ht
  have HF := Lib.hid hf
  clear hf
  have hmf : ∀ (fn : Fn) (first cap : Array Value) (w : World), (Instr.makeFunc fn first cap).run Tryd.prog w = .ok (.func fn first cap) w := fun _ _ _ _ => rfl
  go_enter_defers Tryd.func32, Tryd.ntmps32
  have c1 : C1 ((w.alloc (.cells #[.int .i64 n, .int .i64 v] 26)).alloc (.cells #[.int .i64 0] 2)) (w.heap.size + 1) (.int .i64 0) := by simpa using C1.here (w.alloc (.cells #[.int .i64 n, .int .i64 v] 26)) (.int .i64 0) 2
  go_wp2_with fail
  refine (tableOrPanic_yes n v _ HT.out).mono ?_
  rintro e w1 ⟨rfl, hb⟩
  have hL := chain (B := w.heap.size) (a := w) (by go_grown) (Nat.le_refl _) hb
  replace c1 := c1.keep hb
  clear hb
  go_wp2_with fail
  refine (HF.out _ hL).mono ?_
  rintro e w2 ⟨rfl, hb⟩
  have hL2 := chain (B := w.heap.size) (a := w) hL (Nat.le_refl _) hb
  obtain ⟨h1, f1, z1⟩ := c1.keep hb
  clear hb c1 hL
  go_wp2_with fail
  show bodyPostD _ _ _ _ _ _
  refine leaves_cons (f := 53) (args := #[.pointer (some ⟨w.heap.size + 1, 0, none⟩)]) (by simp) (by simp [go_sem]) ?_
  refine (doorBoolIdle ⟨w.heap.size + 1, 0, none⟩ _).mono ?_
  rintro e u' w3 ⟨rfl, rfl, rfl⟩
  have hc2 : (w2.setCell ⟨w.heap.size + 1, 0, none⟩ (.int .i64 c)).cell? ⟨w.heap.size + 1, 0, none⟩ = some (.int .i64 c) := World.cell?_setCell_same _ _ _ h1
  have hL3 : Below w.heap.size w (w2.setCell ⟨w.heap.size + 1, 0, none⟩ (.int .i64 c)) := hL2.setCell (p := ⟨w.heap.size + 1, 0, none⟩) (by simp) _
  generalize w2.setCell ⟨w.heap.size + 1, 0, none⟩ (.int .i64 c) = w3 at *
  simp [Leaves, settle, results, Tryd.results32, go_sem, hc2, hL3]

end Go.Proofs.YtapcblibokkhcaaDoor
