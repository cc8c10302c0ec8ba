/- A network that comes in as an argument of a law. -/
import Derived.Test.YtkdidplpnhokiaaFrame
import Derived.Test.YtkdidplpnhokiaaRows2
import Derived.Deep.Matrix
namespace Go.Proofs.Ytkdidplpnhokiaa
open Go.ChangeShapes Go.WideShapes Go.ChangeAt Go.RowKit Go.Joins

theorem addrAdd (b off i : Nat) : (⟨b, off, none⟩ : Addr).add i = ⟨b, off + i, none⟩ := by
  unfold Addr.add; split
  · rename_i h; subst h; rfl
  · rfl
theorem readsOf {w : World} {a : Option Addr} {L C : Nat} {zs : List Int} (hl : L ≤ C) (hm : C ≤ maxLen) (hz : zs.length = C) (h0 : a = none → C = 0)
    (hc : ∀ a', a = some a' → ∀ c, c < C → w.cell? (a'.add c) = some (.int .i64 (zs.getD c 0))) : Reads w (.slice a L C) (zs.take L) := by
  have e : (zs.take L).length = L := by simp; omega
  refine ⟨a, C, by rw [e], by rw [e]; omega, ?_⟩
  by_cases hL : L = 0
  · left; subst hL; rfl
  · right
    cases a with
    | none => have := h0 rfl; omega
    | some x =>
      obtain ⟨b, off, spot⟩ := x
      have hc0 := hc _ rfl 0 (by omega)
      have hspot : spot = none := by simpa [Addr.add] using World.cell?_spot hc0
      subst hspot
      refine ⟨b, off, rfl, fun i hi => ?_⟩
      rw [e] at hi
      have := hc _ rfl i (by omega)
      rw [addrAdd] at this
      have e2 : (zs.take L).getD i 0 = zs.getD i 0 := by
        simp only [List.getD_eq_getElem?_getD, List.getElem?_take, if_pos hi]
      rw [e2]
      exact this

end Go.Proofs.Ytkdidplpnhokiaa
