/- A box of three cells through a walk; a flow chart's value. -/
import Derived.Test.YtkdidplpnhokiaaLkW
import Derived.Test.YtkdidplpnhokiaaTool
namespace Go.Proofs.Ytkdidplpnhokiaa
open Go.RowKit
set_option linter.unusedVariables false

/-- a box of three cells: what it holds, and that it may be written -/
abbrev C3 (w : World) (b : Nat) (x y z : Value) : Prop := (w.cell? ⟨b, 0, none⟩ = some x ∧ w.cell? ⟨b, 1, none⟩ = some y ∧ w.cell? ⟨b, 2, none⟩ = some z) ∧ (w.frozen? ⟨b, 0, none⟩ = false ∧ w.frozen? ⟨b, 1, none⟩ = false ∧ w.frozen? ⟨b, 2, none⟩ = false) ∧ b < w.heap.size
theorem C3.lt {w : World} {b : Nat} {x y z : Value} (h : C3 w b x y z) : b < w.heap.size := h.2.2
theorem C3.here (w : World) (x y z : Value) (t : TypeId) : C3 (w.alloc (.cells #[x, y, z] t)) w.heap.size x y z :=
  ⟨⟨by rw [World.cell?_alloc_at _ _ _ _ rfl]; rfl, by rw [World.cell?_alloc_at _ _ _ _ rfl]; rfl, by rw [World.cell?_alloc_at _ _ _ _ rfl]; rfl⟩, ⟨World.frozen?_alloc_at _ _ _ _ rfl, World.frozen?_alloc_at _ _ _ _ rfl, World.frozen?_alloc_at _ _ _ _ rfl⟩, by simp⟩
theorem C3.hereD (w : World) (x y z : Value) (t : TypeId) : C3 (w.alloc (.cells #[x, y, z] t)).drew w.heap.size x y z := C3.here w x y z t
theorem C3.turn {w w' : World} {b : Nat} {x y z : Value} (h : C3 w b x y z) (e : w'.heap[b]? = w.heap[b]?) (hs : w.heap.size ≤ w'.heap.size) : C3 w' b x y z := by
  obtain ⟨⟨h0, h1, h2⟩, ⟨f0, f1, f2⟩, hz⟩ := h
  exact ⟨⟨(World.cell?_of_block (w := w) e).trans h0, (World.cell?_of_block (w := w) e).trans h1, (World.cell?_of_block (w := w) e).trans h2⟩, ⟨(World.frozen?_of_block (w := w) e).trans f0, (World.frozen?_of_block (w := w) e).trans f1, (World.frozen?_of_block (w := w) e).trans f2⟩, by omega⟩
theorem C3.keep {w w' : World} {b : Nat} {x y z : Value} (h : C3 w b x y z) (hb : Below w.heap.size w w') : C3 w' b x y z := h.turn (hb.block b h.2.2) hb.size
theorem C3.set {w : World} {b : Nat} {x y z : Value} (h : C3 w b x y z) (g i : Nat) (v : Value) (hg : b ≠ g) : C3 (w.setCell ⟨g, i, none⟩ v) b x y z :=
  h.turn (Below.heap_setCell w ⟨g, i, none⟩ v b hg) (by rw [World.size_setCell]; exact Nat.le_refl _)
theorem C3.alloc {w : World} {b : Nat} {x y z : Value} (h : C3 w b x y z) (o : Obj) : C3 (w.alloc o) b x y z := h.keep ((Below.refl _ _).alloc (Nat.le_refl _) o)
theorem C3.drewU {w : World} {b : Nat} {x y z : Value} (h : C3 w b x y z) : C3 w.drew b x y z := h
theorem C3.drewUN {w : World} {b : Nat} {x y z : Value} (h : C3 w b x y z) (n : Nat) : C3 (w.drewN n) b x y z := h
theorem C3.only {w w' : World} {B C b : Nat} {x y z : Value} (h : C3 w b x y z) (ho : Only B C w w') (hd : b < B ∨ C ≤ b) : C3 w' b x y z := h.turn (ho.block b h.2.2 hd) ho.size
theorem C3.grown {w w1 : World} {b : Nat} {x y z : Value} {row : Option Nat} (h : C3 w b x y z) (hg : w.grownBy w1 row) (hr : row ≠ some b) : C3 w1 b x y z := h.turn (hg.block b h.2.2 (Ne.symm hr)) hg.size
theorem keepAt3 {w w' : World} {b : Nat} {x y z : Value} (hb : Below w.heap.size w w') (h : C3 w b x y z) : C3 w' b x y z := h.keep hb
theorem C3.put1 {w : World} {b : Nat} {x y z : Value} (h : C3 w b x y z) (y' : Value) : C3 (w.setCell ⟨b, 1, none⟩ y') b x y' z := by
  obtain ⟨⟨h0, h1, h2⟩, ⟨f0, f1, f2⟩, hz⟩ := h
  refine ⟨⟨(World.cell?_setCell_other w ⟨b, 1, none⟩ ⟨b, 0, none⟩ y' (by simp)).trans h0, World.cell?_setCell_same w ⟨b, 1, none⟩ y' h1, (World.cell?_setCell_other w ⟨b, 1, none⟩ ⟨b, 2, none⟩ y' (by simp)).trans h2⟩, ⟨?_, ?_, ?_⟩, ?_⟩
  · rw [World.frozen?_setCell]; exact f0
  · rw [World.frozen?_setCell]; exact f1
  · rw [World.frozen?_setCell]; exact f2
  · rw [World.size_setCell]; exact hz

/-- the value v is a chart with the columns p and rows that read as xss and yss -/
def ReadsH (w : World) (v : Value) (p : Int) (xss yss : List (List Int)) : Prop :=
  ∃ a ca b cb, v = .agg #[.int .i64 p, .slice a xss.length ca, .slice b yss.length cb] ∧ Reads2 w (.slice a xss.length ca) xss ∧ Reads2 w (.slice b yss.length cb) yss
theorem ReadsH.keep {w w' : World} {v : Value} {p : Int} {xss yss : List (List Int)} (h : ReadsH w v p xss yss) (hb : Below w.heap.size w w') : ReadsH w' v p xss yss := by
  obtain ⟨a, ca, b, cb, rfl, h1, h2⟩ := h
  exact ⟨a, ca, b, cb, rfl, h1.keep hb, h2.keep hb⟩
theorem ReadsH.of {w : World} {v1 v2 : Value} {p : Int} {xss yss : List (List Int)} (h1 : Reads2 w v1 xss) (h2 : Reads2 w v2 yss) : ReadsH w (.agg #[.int .i64 p, v1, v2]) p xss yss := by
  obtain ⟨a, ca, rfl, hm, h1'⟩ := h1
  obtain ⟨b, cb, rfl, hm2, h2'⟩ := h2
  exact ⟨a, ca, b, cb, rfl, ⟨a, ca, rfl, hm, h1'⟩, ⟨b, cb, rfl, hm2, h2'⟩⟩
theorem readsHAt {w w' : World} {v : Value} {p : Int} {xss yss : List (List Int)} (hb : Below w.heap.size w w') (h : ReadsH w v p xss yss) : ReadsH w' v p xss yss := h.keep hb
/-- .. of the call's own, from block B on, below C -/
def OwnH (w : World) (B C : Nat) (v : Value) (p : Int) (xss yss : List (List Int)) : Prop :=
  ∃ a ca b cb M, v = .agg #[.int .i64 p, .slice a xss.length ca, .slice b yss.length cb] ∧ B ≤ M ∧ M ≤ C ∧ Own2 w B M (.slice a xss.length ca) xss ∧ Own2 w M C (.slice b yss.length cb) yss
theorem OwnH.reads {w : World} {B C : Nat} {v : Value} {p : Int} {xss yss : List (List Int)} (h : OwnH w B C v p xss yss) : ReadsH w v p xss yss := by
  obtain ⟨a, ca, b, cb, M, rfl, _, _, h1, h2⟩ := h
  exact ⟨a, ca, b, cb, rfl, h1.reads, h2.reads⟩
theorem OwnH.keep {w w' : World} {B C : Nat} {v : Value} {p : Int} {xss yss : List (List Int)} (h : OwnH w B C v p xss yss) (hb : Below w.heap.size w w') : OwnH w' B C v p xss yss := by
  obtain ⟨a, ca, b, cb, M, rfl, hB, hC, h1, h2⟩ := h
  exact ⟨a, ca, b, cb, M, rfl, hB, hC, h1.keep hb, h2.keep hb⟩
theorem OwnH.only {w w' : World} {B C lo hi : Nat} {v : Value} {p : Int} {xss yss : List (List Int)} (h : OwnH w lo hi v p xss yss) (ho : Only B C w w') (hd : hi ≤ B ∨ C ≤ lo) : OwnH w' lo hi v p xss yss := by
  obtain ⟨a, ca, b, cb, M, rfl, hB, hC, h1, h2⟩ := h
  exact ⟨a, ca, b, cb, M, rfl, hB, hC, h1.only ho (by omega), h2.only ho (by omega)⟩
theorem OwnH.mono {w : World} {B C B' C' : Nat} {v : Value} {p : Int} {xss yss : List (List Int)} (h : OwnH w B C v p xss yss) (h1 : B' ≤ B) (h2 : C ≤ C') : OwnH w B' C' v p xss yss := by
  obtain ⟨a, ca, b, cb, M, rfl, hB, hC, h3, h4⟩ := h
  exact ⟨a, ca, b, cb, M, rfl, by omega, by omega, h3.mono h1 (Nat.le_refl _), h4.mono (Nat.le_refl _) h2⟩
theorem ownHAt {w w' : World} {B C : Nat} {v : Value} {p : Int} {xss yss : List (List Int)} (hb : Below w.heap.size w w') (h : OwnH w B C v p xss yss) : OwnH w' B C v p xss yss := h.keep hb

end Go.Proofs.Ytkdidplpnhokiaa
