/- The live terminals of a wiring: the program's. -/
import Derived.Test.YtkdidplpnhokiaaLvM
import Derived.Test.YtkdidplpnhokiaaClW
namespace Go.Proofs.Ytkdidplpnhokiaa
open Go.RowKit
set_option linter.unusedVariables false

/-- what wires that are not broken, and switches in their positions, join -/
def wirE (xs : List Int) (yss : List (List Int)) (brk : Nat → Bool) (pos : Int) (a b : Nat) : Prop :=
  (∃ i, i < yss.length ∧ brk i = false ∧ ((yss.getD i []).getD 0 0).toNat = a ∧ ((yss.getD i []).getD 1 0).toNat = b) ∨
  (∃ i, i < xs.length ∧ ∃ r ∈ pairsL (termZ xs i) (xs.getD i 0) (dig pos.toNat i), (r.getD 0 0).toNat = a ∧ (r.getD 1 0).toNat = b)

theorem mem_swC {xs : List Int} {c : List Int} : c ∈ swC xs ↔ ∃ i, i < xs.length ∧ ∃ q, q < 2 ∧ ∃ r ∈ pairsL (termZ xs i) (xs.getD i 0) q, c = [r.getD 0 0, r.getD 1 0, (i : Int), 1 - (q : Int)] := by
  unfold swC swTo swPos swRow
  simp only [List.mem_flatMap, List.mem_range, List.mem_map]
  constructor
  · rintro ⟨i, hi, q, hq, r, hr, rfl⟩; exact ⟨i, hi, q, hq, r, hr, rfl⟩
  · rintro ⟨i, hi, q, hq, r, hr, rfl⟩; exact ⟨i, hi, q, hq, r, hr, rfl⟩
theorem leads_len (xs : List Int) (yss : List (List Int)) : (leadsL xs yss).length = yss.length + (swC xs).length := by unfold leadsL; rw [List.length_append, List.length_map]
theorem swC_len {xs : List Int} (h : SwOk xs) : (swC xs).length ≤ 20 := by have := swTo_len xs xs.length; have := h.1.2; unfold swC; omega
theorem leads_wire {xs : List Int} {yss : List (List Int)} {i : Nat} (h : i < yss.length) : (leadsL xs yss).getD i [] = wireC (yss.getD i []) := by
  unfold leadsL
  simp [List.getD_eq_getElem?_getD, List.getElem?_append_left, h]
theorem leads_sw {xs : List Int} {yss : List (List Int)} {i : Nat} (h : yss.length ≤ i) : (leadsL xs yss).getD i [] = (swC xs).getD (i - yss.length) [] := by
  unfold leadsL
  simp only [List.getD_eq_getElem?_getD]
  rw [List.getElem?_append_right (by simpa using h), List.length_map]
theorem getD_mem {L : List (List Int)} {i : Nat} (h : i < L.length) : L.getD i [] ∈ L := by
  simp [List.getD_eq_getElem?_getD, h]
theorem mem_getD {L : List (List Int)} {c : List Int} (h : c ∈ L) : ∃ i, i < L.length ∧ L.getD i [] = c := by
  obtain ⟨i, hi, e⟩ := List.getElem_of_mem h
  exact ⟨i, hi, by simp [List.getD_eq_getElem?_getD, hi, e]⟩
theorem pairs_bd {t size : Int} {q : Nat} (hs : size = 3 ∨ size = 4) (hq : q < 2) {r : List Int} (hr : r ∈ pairsL t size q) : t ≤ r.getD 0 0 ∧ r.getD 0 0 < t + size ∧ t ≤ r.getD 1 0 ∧ r.getD 1 0 < t + size := by
  unfold pairsL at hr
  rcases hs with rfl | rfl
  · rw [if_pos rfl] at hr
    simp only [List.mem_singleton] at hr
    subst hr
    simp; omega
  · rw [if_neg (by decide)] at hr
    simp only [List.mem_cons, List.not_mem_nil, or_false] at hr
    rcases hr with rfl | rfl <;> simp <;> omega
theorem swC_pts {xs : List Int} (h : SwOk xs) {c : List Int} (hc : c ∈ swC xs) : (0 ≤ c.getD 0 0 ∧ c.getD 0 0 < 22) ∧ (0 ≤ c.getD 1 0 ∧ c.getD 1 0 < 22) ∧ (0 ≤ c.getD 2 0 ∧ c.getD 2 0 < 60) := by
  obtain ⟨i, hi, q, hq, r, hr, rfl⟩ := mem_swC.1 hc
  have h1 := pairs_bd (h.2 i hi) hq hr
  have h2 := termZ_bd h (k := i) (by omega)
  have h3 := term_in h hi
  have h4 := termZ_bd h (Nat.le_refl _)
  have h5 := h.1.2
  simp only [List.getD_cons_zero, List.getD_cons_succ]
  omega
/-- wires that lie within 22 terminals -/
def Wires22 (yss : List (List Int)) : Prop := ∀ i, i < yss.length → (yss.getD i []).length = 2 ∧ (0 ≤ (yss.getD i []).getD 0 0 ∧ (yss.getD i []).getD 0 0 < 22) ∧ (0 ≤ (yss.getD i []).getD 1 0 ∧ (yss.getD i []).getD 1 0 < 22)
theorem leads_pts {xs : List Int} {yss : List (List Int)} (h : SwOk xs) (hy : Wires22 yss) : JW.Pts22 (leadsL xs yss) ∧ ∀ i, i < (leadsL xs yss).length → 0 ≤ ((leadsL xs yss).getD i []).getD 2 0 ∧ ((leadsL xs yss).getD i []).getD 2 0 < 60 := by
  have key : ∀ i, i < (leadsL xs yss).length → (0 ≤ ((leadsL xs yss).getD i []).getD 0 0 ∧ ((leadsL xs yss).getD i []).getD 0 0 < 22) ∧ (0 ≤ ((leadsL xs yss).getD i []).getD 1 0 ∧ ((leadsL xs yss).getD i []).getD 1 0 < 22) ∧ (0 ≤ ((leadsL xs yss).getD i []).getD 2 0 ∧ ((leadsL xs yss).getD i []).getD 2 0 < 60) := by
    intro i hi
    rw [leads_len] at hi
    by_cases hw : i < yss.length
    · rw [leads_wire hw]
      have := hy i hw
      unfold wireC
      simp only [List.getD_cons_zero, List.getD_cons_succ]
      omega
    · rw [leads_sw (by omega)]
      exact swC_pts h (getD_mem (by omega))
  exact ⟨fun i hi => ⟨(key i hi).1, (key i hi).2.1⟩, fun i hi => (key i hi).2.2⟩

theorem dig5 {pos : Int} (h0 : 0 ≤ pos) (h1 : pos < 32) : digZ pos 5 = 0 := by
  unfold digZ
  have : dig pos.toNat 5 = 0 := by
    unfold dig
    rw [show pos.toNat / 2 ^ 5 = 0 from Nat.div_eq_of_lt (by omega)]
  rw [show (5 : Int).toNat = 5 from rfl, this]; rfl
theorem leads_E {xs : List Int} {yss : List (List Int)} (brk : Nat → Bool) {pos : Int} (h : SwOk xs) (h0 : 0 ≤ pos) (h1 : pos < 32) (cl : Nat → Bool)
    (hcl : ∀ i, i < (leadsL xs yss).length → (cl i = true ↔ clB (leadsL xs yss) pos i = true ∧ (i < yss.length → brk i = false))) (a b : Nat) : conE (leadsL xs yss) cl a b ↔ wirE xs yss brk pos a b := by
  unfold conE wirE
  constructor
  · rintro ⟨i, hi, hc, ha, hb⟩
    obtain ⟨h2, h3⟩ := (hcl i hi).1 hc
    by_cases hw : i < yss.length
    · left
      rw [leads_wire hw] at ha hb
      exact ⟨i, hw, h3 hw, by simpa [wireC] using ha, by simpa [wireC] using hb⟩
    · right
      rw [leads_len] at hi
      unfold clB at h2
      rw [leads_sw (by omega)] at ha hb h2
      obtain ⟨j, hj, q, hq, r, hr, e⟩ := mem_swC.1 (getD_mem (L := swC xs) (i := i - yss.length) (by omega))
      rw [e] at ha hb h2
      simp only [List.getD_cons_zero, List.getD_cons_succ, bne_iff_ne] at ha hb h2
      have hd : dig pos.toNat j = q := by
        have hl := dig_lt pos.toNat j
        unfold digZ at h2
        rw [Int.toNat_natCast] at h2
        omega
      exact ⟨j, hj, r, by rw [hd]; exact hr, ha, hb⟩
  · rintro (⟨i, hi, hbr, ha, hb⟩ | ⟨j, hj, r, hr, ha, hb⟩)
    · refine ⟨i, by rw [leads_len]; omega, (hcl i (by rw [leads_len]; omega)).2 ⟨?_, fun _ => hbr⟩, ?_, ?_⟩
      · unfold clB
        rw [leads_wire hi]
        unfold wireC
        simp only [List.getD_cons_zero, List.getD_cons_succ, dig5 h0 h1]
        decide
      · rw [leads_wire hi]; simpa [wireC] using ha
      · rw [leads_wire hi]; simpa [wireC] using hb
    · have hl := dig_lt pos.toNat j
      obtain ⟨i, hi, e⟩ := mem_getD (mem_swC.2 ⟨j, hj, dig pos.toNat j, by omega, r, hr, rfl⟩)
      have e2 : (leadsL xs yss).getD (yss.length + i) [] = [r.getD 0 0, r.getD 1 0, (j : Int), 1 - ((dig pos.toNat j : Nat) : Int)] := by
        rw [leads_sw (by omega), show yss.length + i - yss.length = i by omega]; exact e
      refine ⟨yss.length + i, by rw [leads_len]; omega, (hcl _ (by rw [leads_len]; omega)).2 ⟨?_, fun hh => absurd hh (by omega)⟩, ?_, ?_⟩
      · unfold clB
        rw [e2]
        simp only [List.getD_cons_zero, List.getD_cons_succ, bne_iff_ne]
        unfold digZ
        rw [Int.toNat_natCast]
        omega
      · rw [e2]; simpa using ha
      · rw [e2]; simpa using hb

/-- the closed ones but those of a set -/
theorem andNot_w {a B : Nat} (ha : a < 1152921504606846976) (hB : B < 65536) : bits .andNot .i64 (a : Int) (B : Int) = ((a &&& (2 ^ 63 - 1 - B) : Nat) : Int) := i64_andNot a B (by omega) (by omega)
theorem andNot_bit {a B i : Nat} (hB : B < 65536) (hi : i < 63) : (a &&& (2 ^ 63 - 1 - B)).testBit i = (a.testBit i && !(B.testBit i)) := by
  rw [Nat.testBit_and]
  congr 1
  have e : 2 ^ 63 - 1 - B = B ^^^ (2 ^ 63 - 1) := (xor_full (n := 63) (by omega)).symm
  rw [e, Nat.testBit_xor, Nat.testBit_two_pow_sub_one]
  simp [hi]

end Go.Proofs.Ytkdidplpnhokiaa
