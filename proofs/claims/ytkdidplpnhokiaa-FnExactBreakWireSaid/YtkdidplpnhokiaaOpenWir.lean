/- A wiring that comes in as an argument of a law. -/
import Derived.Test.YtkdidplpnhokiaaFrame
import Derived.Test.YtkdidplpnhokiaaOpenNet
namespace Go.Proofs.Ytkdidplpnhokiaa
open Go.ChangeShapes Go.WideShapes Go.ChangeAt Go.RowKit Go.Joins

set_option maxRecDepth 100000 in
/-- integers that came in, as the one cell of a field -/
theorem openIntsField {H : Type} {enc : TypeId × Value → H} {W : World} {cs : List Value} {x : DataW H × List MemPlace} {fuel : Nat}
    (h : DataW.trod enc Try.prog W 0 (fun _ => true) true fuel 22 cs = some x) : ∃ (u : Value) (xs : List Int), cs = [u] ∧ Reads W u xs := by
  rcases open_ints Try.underlying22 Try.underlying2 (by kernel_rfl) h with ⟨hcs, _⟩ | ⟨x, l, c, zs, hcs, _, hl, hm, hz, _, hcell, hwz⟩
  · exact ⟨_, [], hcs, none, 0, rfl, by simp, .inl rfl⟩
  · refine ⟨_, zs.take l, hcs, readsOf hl hm (by simpa using hz) (fun h => by cases h) fun a' ha' c hc => ?_⟩
    cases ha'
    exact hcell c (by rw [hz]; simpa using hc)

set_option maxRecDepth 100000 in
/-- rows of integers that came in, as the one cell of a field -/
theorem openRowsFieldW {H : Type} {enc : TypeId × Value → H} {W : World} {cs : List Value} {x : DataW H × List MemPlace} {fuel : Nat}
    (h : DataW.trod enc Try.prog W 0 (fun _ => true) true fuel 23 cs = some x) : ∃ (u : Value) (xss : List (List Int)), cs = [u] ∧ Reads2 W u xss := by
  rcases Deep.open_int_rows Try.underlying23 Try.underlying22 Try.underlying2 (by kernel_rfl) (by kernel_rfl) h with ⟨hcs, _⟩ | ⟨x, len, cap, A, L, C, Z, hcs, _, hl, hm, _, hx⟩
  · exact ⟨_, [], hcs, none, 0, rfl, by simp, .inl rfl⟩
  · refine ⟨_, (List.range len).map fun i => (Z i).take (L i), hcs, some x, cap, by simp, by simp; omega, ?_⟩
    by_cases h0 : len = 0
    · left; subst h0; rfl
    · right
      obtain ⟨b, off, spot⟩ := x
      have hc0 := (hx 0 (by omega)).1
      have hspot : spot = none := by simpa [Addr.add] using World.cell?_spot hc0
      subst hspot
      refine ⟨b, off, rfl, fun i hi => ?_⟩
      have hi' : i < len := by simpa using hi
      obtain ⟨h1, h2, h3, h4, _, h6, h7⟩ := hx i (by omega)
      rw [addrAdd] at h1
      refine ⟨_, h1, ?_⟩
      have e : ((List.range len).map fun i => (Z i).take (L i)).getD i [] = (Z i).take (L i) := by
        simp [List.getD_eq_getElem?_getD, hi']
      rw [e]
      exact readsOf h2 h3 h4 h6 fun a' ha' => (h7 a' ha').2

set_option maxRecDepth 100000 in
theorem cellsWir : Try.prog.cellsOf 25 = 3 := by kernel_rfl
set_option maxRecDepth 100000 in
theorem openWir {H : Type} {enc : TypeId × Value → H} {W : World} {r : Reach} {b0 : Nat} {v : Value} {d : DataW H} {p : List MemPlace}
    (hv : Value.okWide Try.prog W r b0 25 v) (h : DataW.Trod enc Try.prog W 0 (fun _ => true) true 25 v d p) :
    ∃ (a : Int) (u1 u2 : Value) (xs : List Int) (yss : List (List Int)), v = .agg #[.int .i64 a, u1, u2] ∧ (Lit.int .i64 a).wf = true ∧ Reads W u1 xs ∧ Reads2 W u2 yss := by
  obtain ⟨c0, c1, c2, y0, y1, y2, m, rfl, _, _, hy0, hy1, hy2⟩ := open_agg3 Try.underlying25 (by kernel_rfl) cellsWir hv h
  obtain ⟨a, e0, rfl, wa⟩ := DataW.trod_int Try.underlying2 hy0
  obtain ⟨u1, xss, e1, h1⟩ := openIntsField hy1
  obtain ⟨u2, yss, e2, h2⟩ := openRowsFieldW hy2
  simp at e0 e1 e2
  subst e0 e1 e2
  exact ⟨_, _, _, xss, yss, rfl, wa, h1, h2⟩

end Go.Proofs.Ytkdidplpnhokiaa
