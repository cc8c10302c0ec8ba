/- Contracts of the functions of chapter 1 that only compute with numbers, and small tools. -/
import Derived.Test.YtkdidplpnhokiaaRows
import Derived.Test.YtkdidplpnhokiaaMath
import Derived.WalkKit
import Derived.ProofKit
import Derived.Handy
import Derived.WalkSpells
import Derived.Lib.Hide
import Derived.Outline
import Derived.Deep.QuietTactic
import Derived.BigQuiet
namespace Go.Proofs.Ytkdidplpnhokiaa
open Go.RowKit
set_option linter.unusedVariables false

theorem bcell {W w1 : World} (hb : Below W.heap.size W w1) : (∀ b o, b < W.heap.size → w1.cell? ⟨b, o, none⟩ = W.cell? ⟨b, o, none⟩) ∧ (∀ b o, b < W.heap.size → w1.frozen? ⟨b, o, none⟩ = W.frozen? ⟨b, o, none⟩) :=
  ⟨fun b o h => hb.cell (p := ⟨b, o, none⟩) h, fun b o h => hb.frozen (p := ⟨b, o, none⟩) h⟩

theorem Bdrew {B : Nat} {a w : World} (h : Below B a w) (n : Nat) : Below B a (w.drewN n) := ⟨h.os, h.tape, h.output, h.size, h.block⟩
theorem box_drew (w : World) (o : Obj) (n : Nat) : Below w.heap.size w ((w.alloc o).drewN n) := Bdrew ((Below.refl _ _).alloc (Nat.le_refl _) o) n

theorem chain {B : Nat} {a b c : World} (h : Below B a b) (hB : B ≤ a.heap.size) (k : Below b.heap.size b c) : Below B a c := h.trans (k.mono (Nat.le_trans hB h.size))
theorem World.size_drewN' (w : World) (n : Nat) : (w.drewN n).heap.size = w.heap.size := rfl

/-- a box of two cells: what it holds, and that it may be written -/
abbrev C2 (w : World) (b : Nat) (x y : Value) : Prop := w.cell? ⟨b, 0, none⟩ = some x ∧ w.cell? ⟨b, 1, none⟩ = some y ∧ w.frozen? ⟨b, 0, none⟩ = false ∧ w.frozen? ⟨b, 1, none⟩ = false ∧ b < w.heap.size
theorem C2.here (w : World) (x y : Value) (t : TypeId) : C2 (w.alloc (.cells #[x, y] t)) w.heap.size x y :=
  ⟨by rw [World.cell?_alloc_at _ _ _ _ rfl]; rfl, by rw [World.cell?_alloc_at _ _ _ _ rfl]; rfl, World.frozen?_alloc_at _ _ _ _ rfl, World.frozen?_alloc_at _ _ _ _ rfl, by simp⟩
theorem C2.hereD (w : World) (x y : Value) (t : TypeId) : C2 (w.alloc (.cells #[x, y] t)).drew w.heap.size x y := C2.here w x y t
theorem C2.keep {w w' : World} {b : Nat} {x y : Value} (h : C2 w b x y) (hb : Below w.heap.size w w') : C2 w' b x y := by
  obtain ⟨h0, h1, f0, f1, hz⟩ := h
  have := hb.size
  exact ⟨(hb.cell (p := ⟨b, 0, none⟩) hz).trans h0, (hb.cell (p := ⟨b, 1, none⟩) hz).trans h1, (hb.frozen (p := ⟨b, 0, none⟩) hz).trans f0, (hb.frozen (p := ⟨b, 1, none⟩) hz).trans f1, by omega⟩
theorem C2.set {w : World} {b : Nat} {x y : Value} (h : C2 w b x y) (g i : Nat) (v : Value) (hg : b ≠ g) : C2 (w.setCell ⟨g, i, none⟩ v) b x y := by
  obtain ⟨h0, h1, f0, f1, hz⟩ := h
  have e := Below.heap_setCell w ⟨g, i, none⟩ v b hg
  exact ⟨(World.cell?_of_block (w := w) e).trans h0, (World.cell?_of_block (w := w) e).trans h1, (World.frozen?_of_block (w := w) e).trans f0, (World.frozen?_of_block (w := w) e).trans f1, by rw [World.size_setCell]; exact hz⟩
theorem C2.fill {w : World} {b : Nat} {x y : Value} (h : C2 w b x y) (x' y' : Value) : C2 ((w.setCell ⟨b, 0, none⟩ x').setCell ⟨b, 1, none⟩ y') b x' y' := by
  obtain ⟨h0, h1, f0, f1, hz⟩ := h
  have e1 := World.cell?_setCell_same w ⟨b, 0, none⟩ x' h0
  have e2 : (w.setCell ⟨b, 0, none⟩ x').cell? ⟨b, 1, none⟩ = some y := (World.cell?_setCell_other w ⟨b, 0, none⟩ ⟨b, 1, none⟩ x' (by simp)).trans h1
  refine ⟨(World.cell?_setCell_other _ ⟨b, 1, none⟩ ⟨b, 0, none⟩ y' (by simp)).trans e1, World.cell?_setCell_same _ ⟨b, 1, none⟩ y' e2, ?_, ?_, ?_⟩
  · rw [World.frozen?_setCell, World.frozen?_setCell]; exact f0
  · rw [World.frozen?_setCell, World.frozen?_setCell]; exact f1
  · rw [World.size_setCell, World.size_setCell]; exact hz
theorem C2.put0 {w : World} {b : Nat} {x y : Value} (h : C2 w b x y) (x' : Value) : C2 (w.setCell ⟨b, 0, none⟩ x') b x' y := by
  obtain ⟨h0, h1, f0, f1, hz⟩ := h
  refine ⟨World.cell?_setCell_same w ⟨b, 0, none⟩ x' h0, (World.cell?_setCell_other w ⟨b, 0, none⟩ ⟨b, 1, none⟩ x' (by simp)).trans h1, ?_, ?_, ?_⟩
  · rw [World.frozen?_setCell]; exact f0
  · rw [World.frozen?_setCell]; exact f1
  · rw [World.size_setCell]; exact hz
theorem C2.put1 {w : World} {b : Nat} {x y : Value} (h : C2 w b x y) (y' : Value) : C2 (w.setCell ⟨b, 1, none⟩ y') b x y' := by
  obtain ⟨h0, h1, f0, f1, hz⟩ := h
  refine ⟨(World.cell?_setCell_other w ⟨b, 1, none⟩ ⟨b, 0, none⟩ y' (by simp)).trans h0, World.cell?_setCell_same w ⟨b, 1, none⟩ y' h1, ?_, ?_, ?_⟩
  · rw [World.frozen?_setCell]; exact f0
  · rw [World.frozen?_setCell]; exact f1
  · rw [World.size_setCell]; exact hz
theorem C2.ne {w : World} {b g : Nat} {x y : Value} (h : C2 w b x y) (hg : w.heap.size ≤ g) : b ≠ g := by
  obtain ⟨_, _, _, _, hz⟩ := h
  omega
theorem keepAt {w w' : World} {b : Nat} {x y : Value} (hb : Below w.heap.size w w') (h : C2 w b x y) : C2 w' b x y := h.keep hb
theorem C2.alloc {w : World} {b : Nat} {x y : Value} (h : C2 w b x y) (o : Obj) : C2 (w.alloc o) b x y := h.keep ((Below.refl _ _).alloc (Nat.le_refl _) o)

/-- w' comes behind w with one new block o, whatever else was made -/
def Bx (w : World) (o : Obj) (w' : World) : Prop := Below (w.heap.size + 1) (w.alloc o) w'
theorem Bx.of {w : World} {o : Obj} {w1 : World} (h : Below (w.alloc o).heap.size (w.alloc o) w1) : Bx w o w1 := by
  have e : (w.alloc o).heap.size = w.heap.size + 1 := by simp
  rw [e] at h; exact h
theorem Bx.here (w : World) (o : Obj) : Bx w o (w.alloc o) := Below.refl _ _
theorem Bx.size {w : World} {o : Obj} {w1 : World} (h : Bx w o w1) : w.heap.size < w1.heap.size := by
  have e : (w.alloc o).heap.size = w.heap.size + 1 := by simp
  have := Below.size h; omega
theorem Bx.next {w : World} {o : Obj} {w1 w2 : World} (h : Bx w o w1) (k : Below w1.heap.size w1 w2) : Bx w o w2 :=
  Below.trans h (k.mono h.size)
theorem Bx.drewN {w : World} {o : Obj} {w1 : World} (h : Bx w o w1) (n : Nat) : Bx w o (w1.drewN n) := Bdrew h n
theorem Bx.below {w : World} {o : Obj} {w1 : World} (h : Bx w o w1) : Below w.heap.size w w1 :=
  ((Below.refl _ _).alloc (Nat.le_refl _) _).trans (Below.mono h (by omega))
theorem Bx.cell {w : World} {o : Obj} {w1 : World} (h : Bx w o w1) (i : Nat) : w1.cell? ⟨w.heap.size, i, none⟩ = (w.alloc o).cell? ⟨w.heap.size, i, none⟩ := Below.cell h (p := ⟨w.heap.size, i, none⟩) (by simp)
theorem Bx.tab {w w1 : World} {x y : Value} {t : TypeId} (h : Bx w (.cells #[x, y] t) w1) :
    w1.cell? ⟨w.heap.size, 0, none⟩ = some x ∧ w1.cell? ⟨w.heap.size, 1, none⟩ = some y := by
  rw [h.cell 0, h.cell 1]; exact ⟨by rw [World.cell?_alloc_at _ _ _ _ rfl]; rfl, by rw [World.cell?_alloc_at _ _ _ _ rfl]; rfl⟩

/-- .. with two new blocks -/
def Bx2 (w : World) (o o' : Obj) (w' : World) : Prop := Bx (w.alloc o) o' w'
theorem Bx2.here (w : World) (o o' : Obj) : Bx2 w o o' ((w.alloc o).alloc o') := Below.refl _ _
theorem Bx2.size {w : World} {o o' : Obj} {w1 : World} (h : Bx2 w o o' w1) : w.heap.size + 1 < w1.heap.size := by
  have := Bx.size h; simpa using this
theorem Bx2.next {w : World} {o o' : Obj} {w1 w2 : World} (h : Bx2 w o o' w1) (k : Below w1.heap.size w1 w2) : Bx2 w o o' w2 := Bx.next h k
theorem Bx2.below {w : World} {o o' : Obj} {w1 : World} (h : Bx2 w o o' w1) : Below w.heap.size w w1 :=
  ((Below.refl _ _).alloc (Nat.le_refl _) o).trans ((Bx.below h).mono (by simp))
theorem Bx2.drewN {w : World} {o o' : Obj} {w1 : World} (h : Bx2 w o o' w1) (n : Nat) : Bx2 w o o' (w1.drewN n) := Bdrew h n
theorem Bx2.tab {w w1 : World} {x y x' y' : Value} {t t' : TypeId} (h : Bx2 w (.cells #[x, y] t) (.cells #[x', y'] t') w1) :
    w1.cell? ⟨w.heap.size, 0, none⟩ = some x ∧ w1.cell? ⟨w.heap.size, 1, none⟩ = some y ∧ w1.cell? ⟨w.heap.size + 1, 0, none⟩ = some x' ∧ w1.cell? ⟨w.heap.size + 1, 1, none⟩ = some y' := by
  have e : (w.alloc (.cells #[x, y] t)).heap.size = w.heap.size + 1 := by simp
  have h1 := Bx.tab h
  rw [e] at h1
  have h2 := (Bx.here w (.cells #[x, y] t)).tab
  have k : ∀ i, w1.cell? ⟨w.heap.size, i, none⟩ = (w.alloc (.cells #[x, y] t)).cell? ⟨w.heap.size, i, none⟩ := fun i => by
    have hb := Bx.below h
    exact hb.cell (p := ⟨w.heap.size, i, none⟩) (by simp)
  exact ⟨(k 0).trans h2.1, (k 1).trans h2.2, h1.1, h1.2⟩

/-- 2 to the power of n, as a number of Go -/
def rcZ (n : Int) : Int := ((2 ^ n.toNat : Nat) : Int)
/-- the greatest Values of a table of n inputs -/
def fullZ (n : Int) : Int := ((2 ^ (2 ^ n.toNat) - 1 : Nat) : Int)
theorem cases5 {n : Int} (h1 : 1 ≤ n) (h5 : n ≤ 5) : n = 1 ∨ n = 2 ∨ n = 3 ∨ n = 4 ∨ n = 5 := by omega
theorem rcZ_bd {n : Int} (h1 : 1 ≤ n) (h5 : n ≤ 5) : 2 ≤ rcZ n ∧ rcZ n ≤ 32 := by
  rcases cases5 h1 h5 with rfl | rfl | rfl | rfl | rfl <;> decide
theorem fullZ_bd {n : Int} (h1 : 1 ≤ n) (h5 : n ≤ 5) : 3 ≤ fullZ n ∧ fullZ n ≤ 4294967295 := by
  rcases cases5 h1 h5 with rfl | rfl | rfl | rfl | rfl <;> decide

/-- is it a table -/
def isTab (n v : Int) : Bool := decide (1 ≤ n ∧ n ≤ 5 ∧ 0 ≤ v ∧ v ≤ fullZ n)
theorem isTab_true {n v : Int} (h1 : 1 ≤ n) (h5 : n ≤ 5) (h0 : 0 ≤ v) (hv : v ≤ fullZ n) : isTab n v = true := decide_eq_true ⟨h1, h5, h0, hv⟩
theorem isTab_false {n v : Int} (h : ¬ (1 ≤ n ∧ n ≤ 5 ∧ 0 ≤ v ∧ v ≤ fullZ n)) : isTab n v = false := decide_eq_false h
theorem isTab_out {n v : Int} (h : isTab n v = true) : 1 ≤ n ∧ n ≤ 5 ∧ 0 ≤ v ∧ v ≤ fullZ n := of_decide_eq_true h

/-- a contract that leaves the world as it is, inside a region that draws its order -/
theorem quietL {P : Program} {f : FuncId} {args : Array Value} {w : World} {a n : Nat} {v : Value}
    (h : Calls P f args (w.drewN (a + n)) fun e w' => e = .returned v ∧ w.drewN (a + n) = w') : Calls P f args (w.drewN (a + n)) fun e w'' => e = .returned v ∧ ∃ m, w'' = w.drewN (a + m) :=
  h.mono fun _ _ ⟨he, hm⟩ => ⟨he, n, hm.symm⟩
theorem quiet1 {P : Program} {f : FuncId} {args : Array Value} {w : World} {n : Nat} {v : Value}
    (h : Calls P f args (w.drewN n) fun e w' => e = .returned v ∧ w.drewN n = w') : Calls P f args (w.drewN n) fun e w'' => e = .returned v ∧ ∃ m, w'' = w.drewN m :=
  h.mono fun _ _ ⟨he, hm⟩ => ⟨he, n, hm.symm⟩

/-! ### the program's -/
theorem isInputCount_yes (n : Int) (w : World) (h1 : 1 ≤ n) (h5 : n ≤ 5) :
    Calls Try.prog 113 #[.int .i64 n] w fun e w' => e = .returned (.bool true) ∧ w = w' := by
  go_enter Try.func113, Try.ntmps113
  go_wp2
  go_ret
  exact ⟨rfl, rfl⟩
theorem isInputCount_no (n : Int) (w : World) (h : n < 1 ∨ 5 < n) :
    Calls Try.prog 113 #[.int .i64 n] w fun e w' => e = .returned (.bool false) ∧ w = w' := by
  rcases h with h | h <;>
  · go_enter Try.func113, Try.ntmps113
    go_wp2
    go_ret
    exact ⟨by simp; try omega, rfl⟩

theorem rowCount_any (n : Int) (w : World) (h1 : 1 ≤ n) (h5 : n ≤ 5) :
    Calls Try.prog 131 #[.int .i64 n] w fun e w' => e = .returned (.int .i64 (rcZ n)) ∧ w = w' := by
  rcases cases5 h1 h5 with rfl | rfl | rfl | rfl | rfl <;>
  · go_enter Try.func131, Try.ntmps131
    go_wp2
    go_ret
    exact ⟨rfl, rfl⟩

theorem allRows_any (n : Int) (w : World) (h1 : 1 ≤ n) (h5 : n ≤ 5) :
    Calls Try.prog 124 #[.int .i64 n] w fun e w' => e = .returned (.int .i64 (fullZ n)) ∧ w = w' := by
  rcases cases5 h1 h5 with rfl | rfl | rfl | rfl | rfl <;>
  · go_enter Try.func124, Try.ntmps124
    go_wp2
    go_ret
    exact ⟨rfl, rfl⟩

/-- the digit of x at the place k, as a number of Go -/
def digZ (x k : Int) : Int := ((dig x.toNat k.toNat : Nat) : Int)
theorem digZ_bd (x k : Int) : 0 ≤ digZ x k ∧ digZ x k ≤ 1 := by
  have := dig_lt x.toNat k.toNat
  unfold digZ; omega

theorem digit_walk (x k : Int) (h0 : 0 ≤ x) (hx : x < 9223372036854775808) (k0 : 0 ≤ k) : bits .and .i64 (x / 2 ^ k.toNat) 1 = digZ x k := by
  obtain ⟨X, rfl⟩ := Int.eq_ofNat_of_zero_le h0
  obtain ⟨K, rfl⟩ := Int.eq_ofNat_of_zero_le k0
  unfold digZ
  rw [Int.toNat_natCast, Int.toNat_natCast, ← i64_bit X K (by omega)]
  simp

theorem digitAt_any (x k : Int) (w : World) (h0 : 0 ≤ x) (hx : x < 9223372036854775808) (k0 : 0 ≤ k) (k6 : k ≤ 62) :
    Calls Try.prog 75 #[.int .i64 x, .int .i64 k] w fun e w' => e = .returned (.int .i64 (digZ x k)) ∧ w = w' := by
  have hd := digit_walk x k h0 hx k0
  have Hd := Lib.hid hd
  clear hd
  go_enter Try.func75, Try.ntmps75
  go_wp2
  go_ret
  exact ⟨by simp [Hd.out], rfl⟩

/-! ### the model's -/
theorem l01In_any (n lo hi : Int) (w : World) :
    Calls Try.prog 65 #[.int .i64 n, .int .i64 lo, .int .i64 hi] w fun e w' => e = .returned (.bool (decide (lo ≤ n ∧ n ≤ hi))) ∧ w = w' := by
  by_cases h : lo ≤ n
  · go_enter Try.func65, Try.ntmps65
    go_wp2
    go_ret
    exact ⟨by simp [h], rfl⟩
  · go_enter Try.func65, Try.ntmps65
    go_wp2
    go_ret
    exact ⟨by simp; intro _; omega, rfl⟩

theorem l01In_yes (n lo hi : Int) (w : World) (h : lo ≤ n ∧ n ≤ hi) :
    Calls Try.prog 65 #[.int .i64 n, .int .i64 lo, .int .i64 hi] w fun e w' => e = .returned (.bool true) ∧ w = w' :=
  (l01In_any n lo hi w).mono fun _ _ ⟨he, hw⟩ => ⟨by rw [he, decide_eq_true h], hw⟩
theorem l01In_no (n lo hi : Int) (w : World) (h : ¬ (lo ≤ n ∧ n ≤ hi)) :
    Calls Try.prog 65 #[.int .i64 n, .int .i64 lo, .int .i64 hi] w fun e w' => e = .returned (.bool false) ∧ w = w' :=
  (l01In_any n lo hi w).mono fun _ _ ⟨he, hw⟩ => ⟨by rw [he, decide_eq_false h], hw⟩

theorem l01Rows_any (n : Int) (w : World) (h1 : 1 ≤ n) (h5 : n ≤ 5) :
    Calls Try.prog 83 #[.int .i64 n] w fun e w' => e = .returned (.int .i64 (rcZ n)) ∧ w = w' := by
  rcases cases5 h1 h5 with rfl | rfl | rfl | rfl | rfl <;>
  · go_enter Try.func83, Try.ntmps83
    go_wp2
    go_ret
    exact ⟨rfl, rfl⟩

/-! ### a table copied into the program's own type, and two tables compared -/


theorem eqTable_same (a b : Int) (w : World) :
    Calls Try.prog 33 #[.agg #[.int .i64 a, .int .i64 b], .agg #[.int .i64 a, .int .i64 b]] w fun e w' => e = .returned (.bool true) ∧ Below w.heap.size w w' := by
  go_enter Try.func33, Try.ntmps33
  go_wp2
  go_ret
  exact ⟨rfl, by go_grown⟩

end Go.Proofs.Ytkdidplpnhokiaa
