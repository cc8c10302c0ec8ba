/- One cell of a block that may be written, through a walk. -/
import Derived.Test.YtkdidplpnhokiaaBase
import Derived.Test.YtkdidplpnhokiaaSl
namespace Go.Proofs.Ytkdidplpnhokiaa
open Go.RowKit
set_option linter.unusedVariables false

/-- a fact that may fail to be got -/
theorem cutH {T G : Prop} (k : T → G) (h : T) : G := k h
/-- what one cell holds, and that it may be written -/
abbrev U1 (w : World) (b o : Nat) (x : Value) : Prop := w.cell? ⟨b, o, none⟩ = some x ∧ w.frozen? ⟨b, o, none⟩ = false ∧ b < w.heap.size
/-- .. whatever it holds -/
def U1e (w : World) (b o : Nat) : Prop := ∃ x, U1 w b o x
theorem u1At {w w' : World} {b o : Nat} {x : Value} (hb : Below w.heap.size w w') (h : U1 w b o x) : U1 w' b o x := by
  obtain ⟨h0, f0, hz⟩ := h
  have := hb.size
  exact ⟨(hb.cell (p := ⟨b, o, none⟩) hz).trans h0, (hb.frozen (p := ⟨b, o, none⟩) hz).trans f0, by omega⟩
theorem U1.here (w : World) (x : Value) (t : TypeId) : U1 (w.alloc (.cells #[x] t)) w.heap.size 0 x :=
  ⟨by rw [World.cell?_alloc_at _ _ _ _ rfl]; rfl, World.frozen?_alloc_at _ _ _ _ rfl, by simp⟩
theorem U1.hereE {w : World} {b : Nat} {x : Value} {t : TypeId} (e : b = w.heap.size) : U1 (w.alloc (.cells #[x] t)) b 0 x := e ▸ U1.here w x t
theorem U1.alloc {w : World} {b o : Nat} {x : Value} (h : U1 w b o x) (ob : Obj) : U1 (w.alloc ob) b o x := u1At ((Below.refl _ _).alloc (Nat.le_refl _) ob) h
theorem U1.drewU {w : World} {b o : Nat} {x : Value} (h : U1 w b o x) : U1 w.drew b o x := h
theorem U1.drewN {w : World} {b o : Nat} {x : Value} (h : U1 w b o x) (n : Nat) : U1 (w.drewN n) b o x := h
theorem U1.set {w : World} {b o : Nat} {x : Value} (h : U1 w b o x) (g i : Nat) (v : Value) (hg : b ≠ g) : U1 (w.setCell ⟨g, i, none⟩ v) b o x := by
  obtain ⟨h0, f0, hz⟩ := h
  have e := Below.heap_setCell w ⟨g, i, none⟩ v b hg
  exact ⟨(World.cell?_of_block (w := w) e).trans h0, (World.frozen?_of_block (w := w) e).trans f0, by rw [World.size_setCell]; exact hz⟩
theorem U1e.of {w : World} {b o : Nat} {x : Value} (h : U1 w b o x) : U1e w b o := ⟨x, h⟩
theorem U1e.hereE {w : World} {b : Nat} {x : Value} {t : TypeId} (e : b = w.heap.size) : U1e (w.alloc (.cells #[x] t)) b 0 := ⟨x, U1.hereE e⟩
theorem U1e.alloc {w : World} {b o : Nat} (h : U1e w b o) (ob : Obj) : U1e (w.alloc ob) b o := by obtain ⟨x, h⟩ := h; exact ⟨x, h.alloc ob⟩
theorem U1e.drewU {w : World} {b o : Nat} (h : U1e w b o) : U1e w.drew b o := h
theorem u1eAt {w w' : World} {b o : Nat} (hb : Below w.heap.size w w') (h : U1e w b o) : U1e w' b o := by obtain ⟨x, h⟩ := h; exact ⟨x, u1At hb h⟩
theorem U1e.set {w : World} {b o : Nat} (h : U1e w b o) (g i : Nat) (v : Value) (hg : b ≠ g) : U1e (w.setCell ⟨g, i, none⟩ v) b o := by obtain ⟨x, h⟩ := h; exact ⟨x, h.set g i v hg⟩
theorem U1.fill {w : World} {b o : Nat} (h : U1e w b o) (v : Value) : U1 (w.setCell ⟨b, o, none⟩ v) b o v := by
  obtain ⟨x, h0, f0, hz⟩ := h
  exact ⟨World.cell?_setCell_same w ⟨b, o, none⟩ v h0, by rw [World.frozen?_setCell]; exact f0, by rw [World.size_setCell]; exact hz⟩
theorem C2.drewU {w : World} {b : Nat} {x y : Value} (h : C2 w b x y) : C2 w.drew b x y := h
theorem C2.drewUN {w : World} {b : Nat} {x y : Value} (h : C2 w b x y) (n : Nat) : C2 (w.drewN n) b x y := h
theorem Reads.drewU {w : World} {v : Value} {xs : List Int} (h : Reads w v xs) : Reads w.drew v xs := h
theorem readsAtU {w w' : World} {v : Value} {xs : List Int} (hb : Below w.heap.size w w') (h : Reads w v xs) : Reads w' v xs := h.keep hb

/-- a slice of one number, laid out -/
theorem ownsOne (w : World) (x : Int) (base : Nat) (hb : base ≤ w.heap.size) : Owns (w.alloc (.cells #[.int .i64 x] 2)) base (.slice (some ⟨w.heap.size, 0, none⟩) 1 1) [x] :=
  ⟨by simp, .inr ⟨w.heap.size, 1, #[.int .i64 x], rfl, hb, heap_alloc_new w _, Nat.le_refl _, by simp [maxLen], by simp, by simp⟩⟩

end Go.Proofs.Ytkdidplpnhokiaa
