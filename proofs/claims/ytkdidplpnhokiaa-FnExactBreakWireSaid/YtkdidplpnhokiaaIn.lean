/- Slices of the call's own, told with the range of blocks in which they lie. -/
import Derived.Test.YtkdidplpnhokiaaMark2
namespace Go.Proofs.Ytkdidplpnhokiaa
open Go.RowKit
set_option linter.unusedVariables false

/-- the slice v lies in a block of its own, from lo on and below hi, and reads as the numbers xs -/
def In (w : World) (lo hi : Nat) (v : Value) (xs : List Int) : Prop := Owns w lo v xs ∧ ∀ b, v.ownBlock = some b → b < hi
theorem In.of {w : World} {base lo hi : Nat} {v : Value} {xs : List Int} (h : Owns w base v xs) (hl : lo ≤ base) (hh : w.heap.size ≤ hi) : In w lo hi v xs :=
  ⟨h.mono hl, fun b e => by have := (World.ownsRow.lt h b e).2; omega⟩
theorem In.reads {w : World} {lo hi : Nat} {v : Value} {xs : List Int} (h : In w lo hi v xs) : Reads w v xs := h.1.reads
theorem In.keep {w w' : World} {lo hi : Nat} {v : Value} {xs : List Int} (h : In w lo hi v xs) (hb : Below w.heap.size w w') : In w' lo hi v xs := ⟨h.1.keep hb, h.2⟩
theorem In.wide {w : World} {lo hi lo' hi' : Nat} {v : Value} {xs : List Int} (h : In w lo hi v xs) (hl : lo' ≤ lo) (hh : hi ≤ hi') : In w lo' hi' v xs := ⟨h.1.mono hl, fun b e => Nat.lt_of_lt_of_le (h.2 b e) hh⟩
theorem In.only {w w' : World} {B C lo hi : Nat} {v : Value} {xs : List Int} (h : In w lo hi v xs) (ho : Only B C w w') (hd : hi ≤ B ∨ C ≤ lo) : In w' lo hi v xs :=
  ⟨rowSame h.1 fun k hk e => ho.block k (World.ownsRow.lt h.1 k e).2 (by have := h.2 k e; omega), h.2⟩
theorem Own2.only {w w' : World} {B C lo hi : Nat} {v : Value} {xss : List (List Int)} (h : Own2 w lo hi v xss) (ho : Only B C w w') (hd : hi ≤ B ∨ C ≤ lo) : Own2 w' lo hi v xss :=
  h.same fun k h1 h2 h3 => ho.block k h3 (by omega)
theorem C2.only {w w' : World} {B C b : Nat} {x y : Value} (h : C2 w b x y) (ho : Only B C w w') (hd : b < B ∨ C ≤ b) : C2 w' b x y := ho.c2 h hd
theorem Only.under {B C X : Nat} {a w w' : World} (h : Below X a w) (ho : Only B C w w') (hX : X ≤ B) (hs : X ≤ w.heap.size) : Below X a w' :=
  h.trans ⟨ho.os, ho.tape, ho.output, ho.size, fun k hk => ho.block k (by omega) (.inl (by omega))⟩

theorem markIn_any (v : Value) (lo hi : Nat) (xs : List Int) (q : Int) (w : World) (h : In w lo hi v xs) (hn : xs.length ≤ 1048576) (q0 : 0 ≤ q) (q1 : q ≤ 1000000000000) :
    Calls Try.prog 29 #[v, .int .i64 q] w fun e w' => e = .returned (.int .i64 (q + xs.length)) ∧ In w' lo hi v (iota q xs.length) ∧ Only lo hi w w' :=
  (markInt64S_any v lo xs q w h.1 hn q0 q1).mono fun _ _ ⟨he, ho, hg⟩ => ⟨he, ⟨ho, h.2⟩, (Only.refl lo hi w).grown hg fun k e => ⟨(World.ownsRow.lt h.1 k e).1, h.2 k e⟩⟩

end Go.Proofs.Ytkdidplpnhokiaa
