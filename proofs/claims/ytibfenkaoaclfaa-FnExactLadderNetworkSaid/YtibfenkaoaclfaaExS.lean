/- ExchangeEnds: the model's, and the way of the program for what is no network. -/
import Derived.Test.YtibfenkaoaclfaaEx
import Derived.Test.YtibfenkaoaclfaaSNet
import Derived.Test.YtibfenkaoaclfaaHeldN
namespace Go.Proofs.Ytibfenkaoaclfaa
open Go.RowKit
set_option linter.unusedVariables false

theorem Rows1.reads2 {w : World} {B : Nat} {v : Value} {L : List (List Int)} (h : Rows1 w B v L) : Reads2 w v L := by
  obtain ⟨V, h1, h2⟩ := h
  rcases h1.2 with ⟨rfl, hn⟩ | ⟨g, cap, cur, rfl, hb, hg, hc, hm, hs, ht⟩
  · have e : L = [] := List.length_eq_zero_iff.1 hn
    subst e
    exact ⟨none, 0, rfl, Nat.zero_le _, .inl rfl⟩
  · refine ⟨some ⟨g, 0, none⟩, cap, rfl, by omega, .inr ⟨g, 0, rfl, fun i hi => ⟨V i, ?_, (h2 i hi).reads⟩⟩⟩
    have h3 := World.ownsRow.cellAt h1 i (by omega)
    rw [Nat.zero_add]
    rw [h3]
    simp [hi]

/-- a contact's points get their new numbers by the list of numbers -/
theorem numC_ren {p zero one next : Int} {c : List Int} (hp : 2 ≤ p) (h : Con p c) : numC (numL zero one next p.toNat) c = renC zero one next c := by
  obtain ⟨h4, h0, h1, h2, _, _⟩ := h
  unfold numC renC
  rw [numL_at (by omega), numL_at (by omega), Int.toNat_of_nonneg h0, Int.toNat_of_nonneg (by omega)]
theorem cov_con {p zero one next : Int} {c : List Int} (hp : 2 ≤ p) (h : Con p c) : Cov (numL zero one next p.toNat) c := by
  obtain ⟨h4, h0, h1, h2, _, _⟩ := h
  unfold Cov
  rw [numL_len]
  exact ⟨h4, ⟨h0, by omega⟩, by omega, by omega⟩
theorem mapC_ren {p zero one next : Int} {xss : List (List Int)} (hN : Net p xss) : xss.map (numC (numL zero one next p.toNat)) = xss.map (renC zero one next) := by
  apply List.map_congr_left
  intro c hc
  obtain ⟨i, hi, rfl⟩ := List.mem_iff_getElem.1 hc
  have h := (hN.2.2.2 i hi).1
  rw [List.getD_eq_getElem?_getD, List.getElem?_eq_getElem hi, Option.getD_some] at h
  exact numC_ren hN.1 h
theorem cov_net {p zero one next : Int} {xss : List (List Int)} (hN : Net p xss) : ∀ i, i < xss.length → Cov (numL zero one next p.toNat) (xss.getD i []) :=
  fun i hi => cov_con hN.1 (hN.2.2.2 i hi).1
theorem reads2_nil (w : World) : Reads2 w (.slice none 0 0) [] := ⟨none, 0, rfl, Nat.zero_le _, .inl rfl⟩
theorem reads_zero (w : World) (g : Nat) : Reads w (.slice (some ⟨g, 0, none⟩) 0 0) [] := ⟨some ⟨g, 0, none⟩, 0, rfl, Nat.zero_le _, .inr ⟨g, 0, rfl, fun i hi => by simp at hi⟩⟩

theorem C2.drewX {w : World} {b : Nat} {x y : Value} (h : C2 w b x y) : C2 w.drew b x y := h
/-- what ExchangeEnds gives -/
def resExchangeEnds_0 (p : Int) (xss : List (List Int)) : List (List Int) := if Net p xss then sortL (xss.map (renC 1 0 2)) else []
def resExchangeEnds_0p (p : Int) (xss : List (List Int)) : Int := if Net p xss then p else 0
def resExchangeEnds_1 (p : Int) (xss : List (List Int)) : Int := if Net p xss then 0 else 1
theorem sumLen_four {L : List (List Int)} (h : ∀ c ∈ L, c.length = 4) (k : Nat) (hk : k ≤ L.length) : sumLen L k = 4 * k := by
  induction k with
  | zero => rfl
  | succ k ih =>
    have e : (L.getD k []).length = 4 := h _ (by simp [List.getD_eq_getElem?_getD, show k < L.length by omega])
    simp only [sumLen]; rw [ih (by omega), e]; omega
theorem len_four {L : List (List Int)} (h : ∀ c ∈ L, c.length = 4) (h12 : L.length ≤ 12) : L.length ≤ 100000 ∧ L.length + sumLen L L.length ≤ 1000000 ∧ ∀ i, i < L.length → (L.getD i []).length ≤ 1048576 := by
  refine ⟨by omega, by rw [sumLen_four h _ (Nat.le_refl _)]; omega, fun i hi => ?_⟩
  have e : (L.getD i []).length = 4 := h _ (by simp [List.getD_eq_getElem?_getD, hi])
  omega
theorem lenExchangeEnds_0 (p : Int) (xss : List (List Int)) : (resExchangeEnds_0 p xss).length ≤ 100000 ∧ (resExchangeEnds_0 p xss).length + sumLen (resExchangeEnds_0 p xss) (resExchangeEnds_0 p xss).length ≤ 1000000 ∧ ∀ i, i < (resExchangeEnds_0 p xss).length → ((resExchangeEnds_0 p xss).getD i []).length ≤ 1048576 := by
  unfold resExchangeEnds_0
  split
  · rename_i hN
    refine len_four (fun c hc => renC_four c (sortL_mem hc)) ?_
    rw [sortL_len, List.length_map]; exact hN.2.2.1
  · exact len_four (fun c hc => by cases hc) (by simp)

end Go.Proofs.Ytibfenkaoaclfaa
