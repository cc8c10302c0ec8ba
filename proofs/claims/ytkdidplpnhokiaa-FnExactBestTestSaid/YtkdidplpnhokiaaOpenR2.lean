/- A slice of slices of int64 that comes in as an argument of a law. -/
import Derived.Test.YtkdidplpnhokiaaOpenNet
namespace Go.Proofs.Ytkdidplpnhokiaa
open Go.ChangeShapes Go.WideShapes Go.ChangeAt Go.RowKit Go.Joins

set_option maxRecDepth 100000 in
theorem openRows2 {H : Type} {enc : TypeId × Value → H} {W : World} {r : Reach} {b0 : Nat} {v : Value} {d : DataW H} {p : List MemPlace}
    (hv : Value.okWide Try.prog W r b0 23 v) (h : DataW.Trod enc Try.prog W 0 (fun _ => true) true 23 v d p) :
    ∃ (xss : List (List Int)), Reads2 W v xss := by
  obtain ⟨a0, len0, cap0, rfl⟩ := okWide_slice Try.underlying23 hv
  obtain ⟨fuel, hf⟩ := h
  rcases Deep.open_int_rows Try.underlying23 Try.underlying22 Try.underlying2 (by kernel_rfl) (by kernel_rfl) hf with ⟨hcs, _⟩ | ⟨x, len, cap, A, L, C, Z, hcs, _, hl, hm, _, hx⟩
  · simp [Value.cells] at hcs
    obtain ⟨rfl, rfl, rfl⟩ := hcs
    exact ⟨[], none, 0, rfl, by simp, .inl rfl⟩
  · simp [Value.cells] at hcs
    obtain ⟨rfl, rfl, rfl⟩ := hcs
    refine ⟨(List.range len0).map fun i => (Z i).take (L i), some x, cap0, by simp, by simp; omega, ?_⟩
    by_cases h0 : len0 = 0
    · left; subst h0; rfl
    · right
      obtain ⟨b, off, spot⟩ := x
      have hc0 := (hx 0 (by omega)).1
      have hspot : spot = none := by simpa [Addr.add] using World.cell?_spot hc0
      subst hspot
      refine ⟨b, off, rfl, fun i hi => ?_⟩
      have hi' : i < len0 := by simpa using hi
      obtain ⟨h1, h2, h3, h4, _, h6, h7⟩ := hx i (by omega)
      rw [addrAdd] at h1
      refine ⟨_, h1, ?_⟩
      have e : ((List.range len0).map fun i => (Z i).take (L i)).getD i [] = (Z i).take (L i) := by
        simp [List.getD_eq_getElem?_getD, hi']
      rw [e]
      exact readsOf h2 h3 h4 h6 fun a' ha' => (h7 a' ha').2

end Go.Proofs.Ytkdidplpnhokiaa
