/- A circuit that comes in as an argument of a law. -/
import Derived.Test.YtblbapehakcomaaFrame
import Derived.Test.YtblbapehakcomaaOpenNet
namespace Go.Proofs.Ytblbapehakcomaa
open Go.ChangeShapes Go.WideShapes Go.ChangeAt Go.RowKit Go.Joins

set_option maxRecDepth 100000 in
theorem cellsCir : Try.prog.cellsOf 24 = 2 := by kernel_rfl
set_option maxRecDepth 100000 in
theorem openCir {H : Type} {enc : TypeId × Value → H} {W : World} {r : Reach} {b0 : Nat} {v : Value} {d : DataW H} {p : List MemPlace}
    (hv : Value.okWide Try.prog W r b0 24 v) (h : DataW.Trod enc Try.prog W 0 (fun _ => true) true 24 v d p) :
    ∃ (a : Int) (u : Value) (xs : List Int), v = .agg #[.int .i64 a, u] ∧ (Lit.int .i64 a).wf = true ∧ Reads W u xs := by
  obtain ⟨c0, c1, y0, y1, m, rfl, rfl, rfl, hy0, hy1⟩ := open_agg2 Try.underlying24 (by kernel_rfl) cellsCir hv h
  obtain ⟨a, e0, rfl, wa⟩ := DataW.trod_int Try.underlying2 hy0
  simp at e0
  subst e0
  rcases open_ints Try.underlying22 Try.underlying2 (by kernel_rfl) hy1 with ⟨hcs, _⟩ | ⟨x, l, c, zs, hcs, _, hl, hm, hz, _, hcell, hwz⟩
  · simp at hcs
    subst hcs
    exact ⟨_, _, [], rfl, wa, none, 0, rfl, by simp, .inl rfl⟩
  · simp at hcs
    subst hcs
    refine ⟨_, _, zs.take l, rfl, wa, readsOf hl hm (by simpa using hz) (fun h => by cases h) fun a' ha' c hc => ?_⟩
    cases ha'
    exact hcell c (by rw [hz]; simpa using hc)

end Go.Proofs.Ytblbapehakcomaa
