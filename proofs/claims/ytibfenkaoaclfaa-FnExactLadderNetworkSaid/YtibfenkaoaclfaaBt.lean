/- l02Both: the model's networks put together. -/
import Derived.Test.YtibfenkaoaclfaaBoth
import Derived.StillTailTactics
namespace Go.Proofs.Ytibfenkaoaclfaa
open Go.RowKit
set_option linter.unusedVariables false

/-- the contact c with the points that the numbers ns tell -/
def numC (ns c : List Int) : List Int := [min (ns.getD (c.getD 0 0).toNat 0) (ns.getD (c.getD 1 0).toNat 0), max (ns.getD (c.getD 0 0).toNat 0) (ns.getD (c.getD 1 0).toNat 0), c.getD 2 0, c.getD 3 0]
/-- a row of four whose first two are places among the numbers ns -/
def Cov (ns c : List Int) : Prop := c.length = 4 ∧ (0 ≤ c.getD 0 0 ∧ c.getD 0 0 < ns.length) ∧ (0 ≤ c.getD 1 0 ∧ c.getD 1 0 < ns.length)

theorem rows1_nil (w : World) (B g : Nat) (hB : B ≤ g) (hg : w.heap[g]? = some (.cells #[] 22 (0, 0))) : Rows1 w B (.slice (some ⟨g, 0, none⟩) 0 0) [] :=
  ⟨fun _ => .slice none 0 0, ⟨rfl, .inr ⟨g, 0, #[], rfl, hB, hg, Nat.le_refl _, Nat.zero_le _, rfl, rfl⟩⟩, fun i hi => by simp at hi⟩

theorem Rows1.drewR {w : World} {B : Nat} {v : Value} {L : List (List Int)} (h : Rows1 w B v L) : Rows1 w.drew B v L := h
theorem RowAt.setFar {w : World} {o : Option Nat} {u : Value} {c : List Int} {b n m i : Nat} {a : Option Addr} (h : RowAt w o u c) (hi : i ≤ 1) (hb : w.cell? ⟨b, 1, none⟩ = some (.slice a n m)) (x : Value) : RowAt (w.setCell ⟨b, i, none⟩ x) o u c := by
  obtain ⟨rb, off, rc, rfl, h4, hc, h1, h2⟩ := h
  refine ⟨rb, off, rc, rfl, h4, fun j hj => ?_, h1, by rw [World.size_setCell]; exact h2⟩
  have e := hc j hj
  have hn : ¬ (rb = b ∧ off ≤ 1) := by
    rintro ⟨rfl, h5⟩
    have h6 := hc (1 - off) (by omega)
    rw [show off + (1 - off) = 1 by omega, hb] at h6
    cases h6
  refine (World.cell?_setCell_other w ⟨b, i, none⟩ ⟨rb, off + j, none⟩ x (fun e2 => hn ?_)).trans e
  have e3 : rb = b ∧ off + j = i := by
    have e4 : (⟨rb, off + j, none⟩ : Addr) = ⟨b, i, none⟩ := by first | exact e2 | exact e2.symm
    simp only [Addr.mk.injEq] at e4
    exact ⟨e4.1, e4.2.1⟩
  exact ⟨e3.1, by omega⟩
theorem Rows1.setFar {w : World} {B b n m i : Nat} {a : Option Addr} {v : Value} {L : List (List Int)} (h : Rows1 w B v L) (hi : i ≤ 1) (hb : w.cell? ⟨b, 1, none⟩ = some (.slice a n m)) (hne : v.ownBlock ≠ some b) (x : Value) : Rows1 (w.setCell ⟨b, i, none⟩ x) B v L := by
  obtain ⟨V, h1, h2⟩ := h
  exact ⟨V, rowSame h1 fun k _ e => Below.heap_setCell w ⟨b, i, none⟩ x k (fun e2 => hne (by rw [e, e2])), fun j hj => (h2 j hj).setFar hi hb x⟩
theorem Rows1.monoR {w : World} {B B' : Nat} {v : Value} {L : List (List Int)} (h : Rows1 w B v L) (hB : B' ≤ B) : Rows1 w B' v L := by
  obtain ⟨V, h1, h2⟩ := h
  refine ⟨V, ⟨h1.1, ?_⟩, h2⟩
  rcases h1.2 with hn | ⟨g, cap, cur, rfl, hb, rest⟩
  · exact .inl hn
  · exact .inr ⟨g, cap, cur, rfl, by omega, rest⟩
theorem C2.apart {o : Option Nat} {B b : Nat} {w w' : World} {x y : Value} (hc : C2 w b x y) (h : Put1 o B w w') (hb : o ≠ some b) : C2 w' b x y := by
  obtain ⟨h0, h1, f0, f1, hz⟩ := hc
  have e := h.rest b hz hb
  have := h.low.size
  exact ⟨(World.cell?_of_block (w := w) e).trans h0, (World.cell?_of_block (w := w) e).trans h1, (World.frozen?_of_block (w := w) e).trans f0, (World.frozen?_of_block (w := w) e).trans f1, by omega⟩
theorem Put1.under {o : Option Nat} {B X : Nat} {a w w' : World} (hL : Below X a w) (h : Put1 o B w w') (hX : X ≤ B) (hs : X ≤ a.heap.size) : Below X a w' :=
  ⟨h.low.os.trans hL.os, h.low.tape.trans hL.tape, h.low.output.trans hL.output, Nat.le_trans hL.size h.low.size, fun k hk => (h.low.block k (by omega)).trans (hL.block k hk)⟩
theorem rows1_own {w : World} {B : Nat} {v : Value} {L : List (List Int)} (h : Rows1 w B v L) : ∀ k, v.ownBlock = some k → B ≤ k ∧ k < w.heap.size := by
  obtain ⟨V, h1, _⟩ := h
  exact World.ownsRow.lt h1
theorem sortTo_next {L : List (List Int)} {k : Nat} {c : List Int} (hk : k < L.length) (hc : L.getD k [] = c) : sortTo L (k + 1) = insR (sortTo L k) c := by
  rw [← hc]
  show (if _ then _ else _) = _
  rw [if_pos hk]

end Go.Proofs.Ytibfenkaoaclfaa
