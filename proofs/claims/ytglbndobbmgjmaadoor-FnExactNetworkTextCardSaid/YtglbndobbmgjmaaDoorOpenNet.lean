/- A network that comes in as an argument of a law. -/
import Derived.Test.YtglbndobbmgjmaaDoorFrame
import Derived.Test.YtglbndobbmgjmaaDoorRows2
import Derived.Deep.Matrix
namespace Go.Proofs.YtglbndobbmgjmaaDoor
open Go.ChangeShapes Go.WideShapes Go.ChangeAt Go.RowKit Go.Joins

theorem addrAdd (b off i : Nat) : (⟨b, off, none⟩ : Addr).add i = ⟨b, off + i, none⟩ := by
  unfold Addr.add; split
  · rename_i h; subst h; rfl
  · rfl
theorem readsOf {w : World} {a : Option Addr} {L C : Nat} {zs : List Int} (hl : L ≤ C) (hm : C ≤ maxLen) (hz : zs.length = C) (h0 : a = none → C = 0)
    (hc : ∀ a', a = some a' → ∀ c, c < C → w.cell? (a'.add c) = some (.int .i64 (zs.getD c 0))) : Reads w (.slice a L C) (zs.take L) := by
  have e : (zs.take L).length = L := by simp; omega
  refine ⟨a, C, by rw [e], by rw [e]; omega, ?_⟩
  by_cases hL : L = 0
  · left; subst hL; rfl
  · right
    cases a with
    | none => have := h0 rfl; omega
    | some x =>
      obtain ⟨b, off, spot⟩ := x
      have hc0 := hc _ rfl 0 (by omega)
      have hspot : spot = none := by simpa [Addr.add] using World.cell?_spot hc0
      subst hspot
      refine ⟨b, off, rfl, fun i hi => ?_⟩
      rw [e] at hi
      have := hc _ rfl i (by omega)
      rw [addrAdd] at this
      have e2 : (zs.take L).getD i 0 = zs.getD i 0 := by
        simp only [List.getD_eq_getElem?_getD, List.getElem?_take, if_pos hi]
      rw [e2]
      exact this

set_option maxRecDepth 100000 in
theorem cellsNet : Tryd.prog.cellsOf 24 = 2 := by kernel_rfl
set_option maxRecDepth 100000 in
theorem openNet {H : Type} {enc : TypeId × Value → H} {W : World} {r : Reach} {b0 : Nat} {v : Value} {d : DataW H} {p : List MemPlace}
    (hv : Value.okWide Tryd.prog W r b0 24 v) (h : DataW.Trod enc Tryd.prog W 0 (fun _ => true) true 24 v d p) :
    ∃ (a : Int) (u : Value) (xss : List (List Int)), v = .agg #[.int .i64 a, u] ∧ (Lit.int .i64 a).wf = true ∧ Reads2 W u xss := by
  obtain ⟨c0, c1, y0, y1, m, rfl, rfl, rfl, hy0, hy1⟩ := open_agg2 Tryd.underlying24 (by kernel_rfl) cellsNet hv h
  obtain ⟨a, e0, rfl, wa⟩ := DataW.trod_int Tryd.underlying2 hy0
  simp at e0
  subst e0
  rcases Deep.open_int_rows Tryd.underlying22 Tryd.underlying45 Tryd.underlying2 (by kernel_rfl) (by kernel_rfl) hy1 with ⟨hcs, _⟩ | ⟨x, len, cap, A, L, C, Z, hcs, _, hl, hm, _, hx⟩
  · simp at hcs
    subst hcs
    exact ⟨_, _, [], rfl, wa, none, 0, rfl, by simp, .inl rfl⟩
  · simp at hcs
    subst hcs
    refine ⟨_, _, (List.range len).map fun i => (Z i).take (L i), rfl, wa, some x, cap, by simp, by simp; omega, ?_⟩
    by_cases h0 : len = 0
    · left; subst h0; rfl
    · right
      obtain ⟨b, off, spot⟩ := x
      have hc0 := (hx 0 (by omega)).1
      have hspot : spot = none := by simpa [Addr.add] using World.cell?_spot hc0
      subst hspot
      refine ⟨b, off, rfl, fun i hi => ?_⟩
      have hi' : i < len := by simpa using hi
      obtain ⟨h1, h2, h3, h4, _, h6, h7⟩ := hx i (by omega)
      rw [addrAdd] at h1
      refine ⟨_, h1, ?_⟩
      have e : ((List.range len).map fun i => (Z i).take (L i)).getD i [] = (Z i).take (L i) := by
        simp [List.getD_eq_getElem?_getD, hi']
      rw [e]
      exact readsOf h2 h3 h4 h6 fun a' ha' => (h7 a' ha').2

end Go.Proofs.YtglbndobbmgjmaaDoor
