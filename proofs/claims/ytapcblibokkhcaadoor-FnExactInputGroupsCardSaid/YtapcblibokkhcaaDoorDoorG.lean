/- The door of chapter 3, for lists of lists. -/
import Derived.Test.YtapcblibokkhcaaDoorDoor
import Derived.Test.YtapcblibokkhcaaDoorOwn2
namespace Go.Proofs.YtapcblibokkhcaaDoor
open Go.RowKit
set_option linter.unusedVariables false

theorem Own2.setLow {w : World} {B B' b : Nat} {u : Value} {l : List (List Int)} (h : Own2 w B w.heap.size u l) (hb : b < B) (hB : B' ≤ B) (i : Nat) (x : Value) : Own2 (w.setCell ⟨b, i, none⟩ x) B' (w.setCell ⟨b, i, none⟩ x).heap.size u l := by
  rw [World.size_setCell]
  exact (h.same fun k hk _ _ => Below.heap_setCell _ _ _ _ (show k ≠ b by omega)).mono hB (Nat.le_refl _)

theorem doorRowsIdle (p : Addr) (w : World) :
    CallsD Tryd.prog 58 #[.pointer (some p)] .returning w fun e u' w' => e = .returned (.tuple #[]) ∧ u' = .returning ∧ w' = w := by
  refine callsD_of_wpS Tryd.func58 rfl fun c₀ cs hu => ?_
  apply wpS_seq
  apply wpS_region
  simp [wpOpsS, go_sem, recoverD, hu, assertNil, Tryd.ntmps58, Exit.thenS]
  apply wpS_seq
  apply wpS_region
  simp [wpOpsS, go_sem, Exit.thenS]
  refine wpS_cond (t := false) (by simp [Act.eval, Array.replicate]) ?_
  simp only [Bool.false_eq_true, if_false]
  refine wpS_of_wp (wp_skip ?_)
  cases c₀
  simp_all [bodyPostS, results, Tryd.results58]

theorem doorRowsPanic (p a : Addr) (older : List PanicEntry) (w : World) (hc : w.cell? p = some (.int .i64 0)) (hz : w.frozen? p = false) :
    CallsD Tryd.prog 58 #[.pointer (some p)] (.panicking ({ v := errV a, recovered := false } :: older)) w fun e u' w' => e = .returned (.tuple #[]) ∧ u' = .panicking ({ v := errV a, recovered := true } :: older) ∧ w' = w.setCell p (.int .i64 1) := by
  refine callsD_of_wpS Tryd.func58 rfl fun c₀ cs hu => ?_
  apply wpS_seq
  apply wpS_region
  simp [wpOpsS, go_sem, recoverD, hu, assertErr, Tryd.ntmps58, Exit.thenS]
  apply wpS_seq
  apply wpS_region
  simp [wpOpsS, go_sem, Exit.thenS]
  refine wpS_cond (t := true) (by simp [Act.eval, Array.replicate]) ?_
  simp only [if_true]
  apply wpS_region
  simp [wpOpsS, go_sem, hc, hz, bodyPostS, results, Tryd.results58]

set_option maxHeartbeats 1000000 in
theorem doorRows_no (n v : Int) (a : Addr) (F : Nat) (caps : Array Value) (w : World) (ht : isTab n v = false) (hg : w.cell? ⟨0, 0, none⟩ = some (errV a)) :
    Calls Tryd.prog 39 #[.agg #[.int .i64 n, .int .i64 v], .func (.func F) #[] caps] w fun e w' => e = .returned (.tuple #[.slice none 0 0, .int .i64 1]) ∧ Below w.heap.size w w' := by
  have HT := Lib.hid ht
  clear ht
  have hmf : ∀ (fn : Fn) (first cap : Array Value) (w : World), (Instr.makeFunc fn first cap).run Tryd.prog w = .ok (.func fn first cap) w := fun _ _ _ _ => rfl
  have cg : ((w.alloc (.cells #[.int .i64 n, .int .i64 v] 26)).alloc (.cells #[.int .i64 0] 2)).cell? ⟨0, 0, none⟩ = some (errV a) := cell_later (by go_grown) hg
  go_enter_defers Tryd.func39, Tryd.ntmps39
  have c1 : C1 ((w.alloc (.cells #[.int .i64 n, .int .i64 v] 26)).alloc (.cells #[.int .i64 0] 2)) (w.heap.size + 1) (.int .i64 0) := by simpa using C1.here (w.alloc (.cells #[.int .i64 n, .int .i64 v] 26)) (.int .i64 0) 2
  go_wp2_with fail
  refine (tableOrPanic_no n v a _ HT.out cg).mono ?_
  rintro e w1 ⟨rfl, hb⟩
  have hL := chain (B := w.heap.size) (a := w) (by go_grown) (Nat.le_refl _) hb
  obtain ⟨h1, f1, z1⟩ := c1.keep hb
  clear hb c1 cg
  show bodyPostD _ _ _ _ _ _
  refine leaves_cons (f := 58) (args := #[.pointer (some ⟨w.heap.size + 1, 0, none⟩)]) (by simp) (by simp [go_sem]) ?_
  refine (doorRowsPanic ⟨w.heap.size + 1, 0, none⟩ a [] _ h1 f1).mono ?_
  rintro e u' w2 ⟨rfl, rfl, rfl⟩
  have hc2 : (w1.setCell ⟨w.heap.size + 1, 0, none⟩ (.int .i64 1)).cell? ⟨w.heap.size + 1, 0, none⟩ = some (.int .i64 1) := World.cell?_setCell_same _ _ _ h1
  have hL2 : Below w.heap.size w (w1.setCell ⟨w.heap.size + 1, 0, none⟩ (.int .i64 1)) := hL.setCell (p := ⟨w.heap.size + 1, 0, none⟩) (by simp) _
  generalize w1.setCell ⟨w.heap.size + 1, 0, none⟩ (.int .i64 1) = w2 at *
  simp [Leaves, settle, results, Tryd.results39, go_sem, hc2, hL2]

set_option maxHeartbeats 1000000 in
theorem doorRows_yes (n v : Int) (F : Nat) (caps : Array Value) (l : List (List Int)) (c : Int) (w : World) (ht : isTab n v = true)
    (hf : ∀ wx : World, Below w.heap.size w wx → Calls Tryd.prog F (#[.agg #[.int .i64 n, .int .i64 v]] ++ caps) wx fun e w' => ∃ u, e = .returned (.tuple #[u, .int .i64 c]) ∧ Own2 w' wx.heap.size w'.heap.size u l ∧ Below wx.heap.size wx w')
    (hE : ∀ (args : Array Value) (w : World), (callFunc F args).run Tryd.prog w = .ok (.enter F args) w) :
    Calls Tryd.prog 39 #[.agg #[.int .i64 n, .int .i64 v], .func (.func F) #[] caps] w fun e w' => ∃ u, e = .returned (.tuple #[u, .int .i64 c]) ∧ Own2 w' w.heap.size w'.heap.size u l ∧ Below w.heap.size w w' := by
  have HT := Lib.hid ht
  clear ht
  have HF := Lib.hid hf
  clear hf
  have hmf : ∀ (fn : Fn) (first cap : Array Value) (w : World), (Instr.makeFunc fn first cap).run Tryd.prog w = .ok (.func fn first cap) w := fun _ _ _ _ => rfl
  go_enter_defers Tryd.func39, Tryd.ntmps39
  have c1 : C1 ((w.alloc (.cells #[.int .i64 n, .int .i64 v] 26)).alloc (.cells #[.int .i64 0] 2)) (w.heap.size + 1) (.int .i64 0) := by simpa using C1.here (w.alloc (.cells #[.int .i64 n, .int .i64 v] 26)) (.int .i64 0) 2
  go_wp2_with fail
  refine (tableOrPanic_yes n v _ HT.out).mono ?_
  rintro e w1 ⟨rfl, hb⟩
  have hL := chain (B := w.heap.size) (a := w) (by go_grown) (Nat.le_refl _) hb
  replace c1 := c1.keep hb
  clear hb
  go_wp2_with fail
  refine (HF.out _ hL).mono ?_
  rintro e w2 ⟨u, rfl, hou, hb⟩
  have hz1 := hL.size
  have hzc := c1.2.2
  have hL2 := chain (B := w.heap.size) (a := w) hL (Nat.le_refl _) hb
  obtain ⟨h1, f1, z1⟩ := c1.keep hb
  clear hb c1 hL
  go_wp2_with fail
  show bodyPostD _ _ _ _ _ _
  refine leaves_cons (f := 58) (args := #[.pointer (some ⟨w.heap.size + 1, 0, none⟩)]) (by simp) (by simp [go_sem]) ?_
  refine (doorRowsIdle ⟨w.heap.size + 1, 0, none⟩ _).mono ?_
  rintro e u' w3 ⟨rfl, rfl, rfl⟩
  have hc2 : (w2.setCell ⟨w.heap.size + 1, 0, none⟩ (.int .i64 c)).cell? ⟨w.heap.size + 1, 0, none⟩ = some (.int .i64 c) := World.cell?_setCell_same _ _ _ h1
  have hou3 : Own2 (w2.setCell ⟨w.heap.size + 1, 0, none⟩ (.int .i64 c)) w.heap.size (w2.setCell ⟨w.heap.size + 1, 0, none⟩ (.int .i64 c)).heap.size u l := Own2.setLow hou (by omega) (by omega) _ _
  have hL3 : Below w.heap.size w (w2.setCell ⟨w.heap.size + 1, 0, none⟩ (.int .i64 c)) := hL2.setCell (p := ⟨w.heap.size + 1, 0, none⟩) (by simp) _
  generalize w2.setCell ⟨w.heap.size + 1, 0, none⟩ (.int .i64 c) = w3 at *
  simp [Leaves, settle, results, Tryd.results39, go_sem, hc2, hL3, hou3]

end Go.Proofs.YtapcblibokkhcaaDoor
