/- ExchangeEnds: the model's, and the way of the program for what is no network. -/
import Derived.Test.YtnmjdphibphpnaaEx
import Derived.Test.YtnmjdphibphpnaaSNet
import Derived.Test.YtnmjdphibphpnaaHeldN
namespace Go.Proofs.Ytnmjdphibphpnaa
open Go.RowKit
set_option linter.unusedVariables false

theorem Rows1.reads2 {w : World} {B : Nat} {v : Value} {L : List (List Int)} (h : Rows1 w B v L) : Reads2 w v L := by
  obtain ⟨V, h1, h2⟩ := h
  rcases h1.2 with ⟨rfl, hn⟩ | ⟨g, cap, cur, rfl, hb, hg, hc, hm, hs, ht⟩
  · have e : L = [] := List.length_eq_zero_iff.1 hn
    subst e
    exact ⟨none, 0, rfl, Nat.zero_le _, .inl rfl⟩
  · refine ⟨some ⟨g, 0, none⟩, cap, rfl, by omega, .inr ⟨g, 0, rfl, fun i hi => ⟨V i, ?_, (h2 i hi).reads⟩⟩⟩
    have h3 := World.ownsRow.cellAt h1 i (by omega)
    rw [Nat.zero_add]
    rw [h3]
    simp [hi]

/-- a contact's points get their new numbers by the list of numbers -/
theorem numC_ren {p zero one next : Int} {c : List Int} (hp : 2 ≤ p) (h : Con p c) : numC (numL zero one next p.toNat) c = renC zero one next c := by
  obtain ⟨h4, h0, h1, h2, _, _⟩ := h
  unfold numC renC
  rw [numL_at (by omega), numL_at (by omega), Int.toNat_of_nonneg h0, Int.toNat_of_nonneg (by omega)]
theorem cov_con {p zero one next : Int} {c : List Int} (hp : 2 ≤ p) (h : Con p c) : Cov (numL zero one next p.toNat) c := by
  obtain ⟨h4, h0, h1, h2, _, _⟩ := h
  unfold Cov
  rw [numL_len]
  exact ⟨h4, ⟨h0, by omega⟩, by omega, by omega⟩
theorem mapC_ren {p zero one next : Int} {xss : List (List Int)} (hN : Net p xss) : xss.map (numC (numL zero one next p.toNat)) = xss.map (renC zero one next) := by
  apply List.map_congr_left
  intro c hc
  obtain ⟨i, hi, rfl⟩ := List.mem_iff_getElem.1 hc
  have h := (hN.2.2.2 i hi).1
  rw [List.getD_eq_getElem?_getD, List.getElem?_eq_getElem hi, Option.getD_some] at h
  exact numC_ren hN.1 h
theorem cov_net {p zero one next : Int} {xss : List (List Int)} (hN : Net p xss) : ∀ i, i < xss.length → Cov (numL zero one next p.toNat) (xss.getD i []) :=
  fun i hi => cov_con hN.1 (hN.2.2.2 i hi).1
theorem reads2_nil (w : World) : Reads2 w (.slice none 0 0) [] := ⟨none, 0, rfl, Nat.zero_le _, .inl rfl⟩
theorem reads_zero (w : World) (g : Nat) : Reads w (.slice (some ⟨g, 0, none⟩) 0 0) [] := ⟨some ⟨g, 0, none⟩, 0, rfl, Nat.zero_le _, .inr ⟨g, 0, rfl, fun i hi => by simp at hi⟩⟩

theorem C2.drewX {w : World} {b : Nat} {x y : Value} (h : C2 w b x y) : C2 w.drew b x y := h
/-- what ExchangeEnds gives -/
def resExchangeEnds_0 (p : Int) (xss : List (List Int)) : List (List Int) := if Net p xss then sortL (xss.map (renC 1 0 2)) else []
def resExchangeEnds_0p (p : Int) (xss : List (List Int)) : Int := if Net p xss then p else 0
def resExchangeEnds_1 (p : Int) (xss : List (List Int)) : Int := if Net p xss then 0 else 1
theorem sumLen_four {L : List (List Int)} (h : ∀ c ∈ L, c.length = 4) (k : Nat) (hk : k ≤ L.length) : sumLen L k = 4 * k := by
  induction k with
  | zero => rfl
  | succ k ih =>
    have e : (L.getD k []).length = 4 := h _ (by simp [List.getD_eq_getElem?_getD, show k < L.length by omega])
    simp only [sumLen]; rw [ih (by omega), e]; omega
theorem len_four {L : List (List Int)} (h : ∀ c ∈ L, c.length = 4) (h12 : L.length ≤ 12) : L.length ≤ 100000 ∧ L.length + sumLen L L.length ≤ 1000000 ∧ ∀ i, i < L.length → (L.getD i []).length ≤ 1048576 := by
  refine ⟨by omega, by rw [sumLen_four h _ (Nat.le_refl _)]; omega, fun i hi => ?_⟩
  have e : (L.getD i []).length = 4 := h _ (by simp [List.getD_eq_getElem?_getD, hi])
  omega
theorem lenExchangeEnds_0 (p : Int) (xss : List (List Int)) : (resExchangeEnds_0 p xss).length ≤ 100000 ∧ (resExchangeEnds_0 p xss).length + sumLen (resExchangeEnds_0 p xss) (resExchangeEnds_0 p xss).length ≤ 1000000 ∧ ∀ i, i < (resExchangeEnds_0 p xss).length → ((resExchangeEnds_0 p xss).getD i []).length ≤ 1048576 := by
  unfold resExchangeEnds_0
  split
  · rename_i hN
    refine len_four (fun c hc => renC_four c (sortL_mem hc)) ?_
    rw [sortL_len, List.length_map]; exact hN.2.2.1
  · exact len_four (fun c hc => by cases hc) (by simp)

set_option maxRecDepth 100000 in
set_option maxHeartbeats 4000000 in
theorem sEx_yes (p : Int) (v : Value) (xss : List (List Int)) (w : World) (ha : Reads2 w v xss) (hN : Net p xss) :
    Calls Try.prog 13 #[.agg #[.int .i64 p, v]] w fun e w' => ∃ sa sc, e = .returned (.tuple #[.agg #[.int .i64 p, .slice sa xss.length sc], .int .i64 0]) ∧ Reads2 w' (.slice sa xss.length sc) (sortL (xss.map (renC 1 0 2))) ∧ Below w.heap.size w w' := by
  have HA := Lib.hid ha
  have HN := Lib.hid hN
  have h12 : Hid (xss.length ≤ 12) := hN.2.2.1
  have HD : Hid (decide (Net p xss) = true) := decide_eq_true hN
  have HC := Lib.hid (cov_net (zero := 1) (one := 0) (next := 2) hN)
  have HP : Hid (2 ≤ p ∧ p ≤ 8) := ⟨hN.1, hN.2.1⟩
  have HM : Hid (sortTo (xss.map (numC (numL 1 0 2 p.toNat)) ++ ([] : List (List Int)).map (numC [])) (xss.length + ([] : List (List Int)).length) = sortL (xss.map (renC 1 0 2))) := by
    unfold Hid; rw [List.map_nil, List.append_nil, mapC_ren hN]; unfold sortL; rw [List.length_map]; rfl
  obtain ⟨xa, xc, rfl, _, _⟩ := ha
  clear hN
  have kx := C2.here w (.int .i64 p) (.slice xa xss.length xc) 26
  have hL0 : Below w.heap.size w (w.alloc (.cells #[.int .i64 p, .slice xa xss.length xc] 26)) := (Below.refl _ _).alloc (Nat.le_refl _) _
  replace kx := kx.alloc (.cells #[.int .i64 0, .slice none 0 0] 26)
  have ko := C2.here (w.alloc (.cells #[.int .i64 p, .slice xa xss.length xc] 26)) (.int .i64 0) (.slice none 0 0) 26
  rw [World.size_alloc] at ko
  replace hL0 := hL0.alloc (by simp) (.cells #[.int .i64 0, .slice none 0 0] 26)
  go_enter Try.func13, Try.ntmps13
  go_wp2_with fail
  refine (l02Is_any p _ xss _ (HA.out.keep hL0)).mono ?_
  rintro e w1 ⟨rfl, hb⟩
  rw [HD.out]
  have hL1 := chain (B := w.heap.size) hL0 (Nat.le_refl _) hb
  replace kx := keepAt hb kx
  replace ko := keepAt hb ko
  clear hb hL0
  have hL : Below w.heap.size w w1 := hL1
  clear hL1
  have j2 : Hid ((0 : Int) ≤ 2 ∧ (2 : Int) ≤ 100) := by unfold Hid; omega
  have hx1 : Hid (w.heap.size < w1.heap.size) := kx.2.2.2.2
  have ho1 : Hid (w.heap.size + 1 < w1.heap.size) := ko.2.2.2.2
  go_upto_region 3 with fail
  go_region_held3 (fun w' => C2 w' w.heap.size (.int .i64 p) (.slice xa xss.length xc))
    ((repeat' (first | (with_reducible assumption) | (with_reducible refine C2.drewX ?_) | (with_reducible refine C2.alloc ?_ _) | (with_reducible refine C2.set ?_ _ _ _ (by omega)))))
    (first | (go_at_call 47; (with_reducible refine (l02Numbers_any p _ _ _ 1 0 2 _ HP.out.1 HP.out.2 j2.out).mono ?_); rintro e w2 ⟨u, rfl, hO, hb⟩; have hL := chain (B := w.heap.size) (a := w) (by go_grown) (Nat.le_refl _) hb; replace kx := keepAt hb (show C2 _ w.heap.size (.int .i64 p) (.slice xa xss.length xc) from by (repeat' (first | (with_reducible assumption) | (with_reducible refine C2.drewX ?_) | (with_reducible refine C2.alloc ?_ _)))); replace ko := keepAt hb (show C2 _ (w.heap.size + 1) (.int .i64 0) (.slice none 0 0) from by (repeat' (first | (with_reducible assumption) | (with_reducible refine C2.drewX ?_) | (with_reducible refine C2.alloc ?_ _)))); have RN := Lib.hid hO.reads; clear hb hO) | (go_at_call 46; (with_reducible refine (l02Both_any p p 0 _ (.slice none 0 0) _ _ xss [] (numL 1 0 2 p.toNat) [] _ (HA.out.keep (by go_grown)) (reads2_nil _) (RN.out.keep (by go_grown)) (reads_zero _ _) h12.out (by simp) HC.out (by simp)).mono ?_); rintro e w3 ⟨sa, sc, rfl, hW, hb⟩; have hne : Hid ((Value.slice sa xss.length sc).ownBlock ≠ some (w.heap.size + 1)) := fun e => (by have h1 := (rows1_own hW _ e).1; (repeat (first | rw [World.size_alloc] at h1 | rw [World.size_drew] at h1)); have h2 := ko.2.2.2.2; omega); have hL := chain (B := w.heap.size) (a := w) (by go_grown) (Nat.le_refl _) hb; replace kx := keepAt hb (show C2 _ w.heap.size (.int .i64 p) (.slice xa xss.length xc) from by (repeat' (first | (with_reducible assumption) | (with_reducible refine C2.drewX ?_) | (with_reducible refine C2.alloc ?_ _)))); replace ko := keepAt hb (show C2 _ (w.heap.size + 1) (.int .i64 0) (.slice none 0 0) from by (repeat' (first | (with_reducible assumption) | (with_reducible refine C2.drewX ?_) | (with_reducible refine C2.alloc ?_ _)))); have RB := Lib.hid hW; clear hb hW))
  all_goals (replace RB := Lib.hid (show Rows1 w3 0 (.slice sa xss.length sc) (sortL (xss.map (renC 1 0 2))) from by have h := Rows1.monoR RB.out (Nat.zero_le _); rw [HM.out] at h; exact h))
  all_goals (have HF := Lib.hid (Rows1.reads2 ((RB.out.setFar (i := 0) (by omega) ko.2.1 hne.out (.int .i64 p)).setFar (i := 1) (Nat.le_refl 1) (ko.put0 (.int .i64 p)).2.1 hne.out (.slice sa xss.length sc))))
  all_goals (have ko2 := (ko.put0 (.int .i64 p)).put1 (.slice sa xss.length sc))
  all_goals (have hL4 := (hL.setCell (p := ⟨w.heap.size + 1, 0, none⟩) (by simp) (.int .i64 p)).setCell (p := ⟨w.heap.size + 1, 1, none⟩) (by simp) (.slice sa xss.length sc))
  all_goals (clear RB hL)
  all_goals (go_wp2_with fail)
  all_goals (refine bodyPost_ret (v := .tuple #[.agg #[.int .i64 p, .slice sa xss.length sc], .int .i64 0]) (by simp [results, Try.results13, go_sem, *]) rfl ?_)
  all_goals (exact ⟨sa, sc, rfl, HF.out, hL4⟩)

set_option maxRecDepth 100000 in
set_option maxHeartbeats 2000000 in
theorem sEx_no (p : Int) (v : Value) (xss : List (List Int)) (w : World) (ha : Reads2 w v xss) (hN : ¬ Net p xss) :
    Calls Try.prog 13 #[.agg #[.int .i64 p, v]] w fun e w' => e = .returned (.tuple #[.agg #[.int .i64 0, .slice none 0 0], .int .i64 1]) ∧ Below w.heap.size w w' := by
  have HA := Lib.hid ha
  have HD : Hid (decide (Net p xss) = false) := decide_eq_false hN
  obtain ⟨xa, xc, rfl, _, _⟩ := ha
  clear hN
  have hL0 : Below w.heap.size w ((w.alloc (.cells #[.int .i64 p, .slice xa xss.length xc] 26)).alloc (.cells #[.int .i64 0, .slice none 0 0] 26)) := ((Below.refl _ _).alloc (Nat.le_refl _) _).alloc (by simp) _
  have ko := C2.here (w.alloc (.cells #[.int .i64 p, .slice xa xss.length xc] 26)) (.int .i64 0) (.slice none 0 0) 26
  rw [World.size_alloc] at ko
  go_enter Try.func13, Try.ntmps13
  go_wp2_with fail
  refine (l02Is_any p _ xss _ (HA.out.keep hL0)).mono ?_
  rintro e w1 ⟨rfl, hb⟩
  rw [HD.out]
  have hL1 := chain (B := w.heap.size) hL0 (Nat.le_refl _) hb
  replace ko := keepAt hb ko
  clear hb hL0
  have ko2 := (ko.put0 (.int .i64 0)).put1 (.slice none 0 0)
  go_wp2_with fail
  refine bodyPost_ret (v := .tuple #[.agg #[.int .i64 0, .slice none 0 0], .int .i64 1]) (by simp [results, Try.results13, go_sem, *]) rfl ?_
  exact ⟨rfl, by go_grown⟩

set_option maxRecDepth 100000 in
set_option maxHeartbeats 2000000 in
theorem iEx_no (p : Int) (v : Value) (xss : List (List Int)) (w : World) (ha : Reads2 w v xss) (hN : ¬ Net p xss) :
    Calls Try.prog 15 #[.agg #[.int .i64 p, v]] w fun e w' => e = .returned (.tuple #[.agg #[.int .i64 0, .slice none 0 0], .int .i64 1]) ∧ Below w.heap.size w w' := by
  have HA := Lib.hid ha
  have HD : Hid (decide (Net p xss) = false) := decide_eq_false hN
  obtain ⟨xa, xc, rfl, _, _⟩ := ha
  clear hN
  have hL0 : Below w.heap.size w ((w.alloc (.cells #[.int .i64 p, .slice xa xss.length xc] 26)).alloc (.cells #[.int .i64 0, .slice none 0 0] 26)) := ((Below.refl _ _).alloc (Nat.le_refl _) _).alloc (by simp) _
  have ko := C2.here (w.alloc (.cells #[.int .i64 p, .slice xa xss.length xc] 26)) (.int .i64 0) (.slice none 0 0) 26
  rw [World.size_alloc] at ko
  go_enter Try.func15, Try.ntmps15
  go_wp2_with fail
  refine (isNetwork_any p _ xss _ (HA.out.keep hL0)).mono ?_
  rintro e w1 ⟨rfl, hb⟩
  rw [HD.out]
  have hL1 := chain (B := w.heap.size) hL0 (Nat.le_refl _) hb
  replace ko := keepAt hb ko
  clear hb hL0
  have ko2 := (ko.put0 (.int .i64 0)).put1 (.slice none 0 0)
  go_wp2_with fail
  refine bodyPost_ret (v := .tuple #[.agg #[.int .i64 0, .slice none 0 0], .int .i64 1]) (by simp [results, Try.results15, go_sem, *]) rfl ?_
  exact ⟨rfl, by go_grown⟩

theorem sExchangeEnds_any (p : Int) (v : Value) (xss : List (List Int)) (w : World) (ha : Reads2 w v xss) :
    Calls Try.prog 13 #[.agg #[.int .i64 p, v]] w fun e w' => ∃ sa sc, e = .returned (.tuple #[.agg #[.int .i64 (resExchangeEnds_0p p xss), .slice sa (resExchangeEnds_0 p xss).length sc], .int .i64 (resExchangeEnds_1 p xss)]) ∧ Reads2 w' (.slice sa (resExchangeEnds_0 p xss).length sc) (resExchangeEnds_0 p xss) ∧ Below w.heap.size w w' := by
  unfold resExchangeEnds_0 resExchangeEnds_0p resExchangeEnds_1
  by_cases hN : Net p xss
  · simp only [if_pos hN, sortL_len, List.length_map]
    exact sEx_yes p v xss w ha hN
  · simp only [if_neg hN, List.length_nil]
    exact (sEx_no p v xss w ha hN).mono fun e w' h => ⟨none, 0, h.1, reads2_nil _, h.2⟩
theorem iExchangeEnds_any (p : Int) (v : Value) (xss : List (List Int)) (w : World) (ha : Reads2 w v xss) :
    Calls Try.prog 15 #[.agg #[.int .i64 p, v]] w fun e w' => ∃ sa sc, e = .returned (.tuple #[.agg #[.int .i64 (resExchangeEnds_0p p xss), .slice sa (resExchangeEnds_0 p xss).length sc], .int .i64 (resExchangeEnds_1 p xss)]) ∧ Own2 w' w.heap.size w'.heap.size (.slice sa (resExchangeEnds_0 p xss).length sc) (resExchangeEnds_0 p xss) ∧ Below w.heap.size w w' := by
  unfold resExchangeEnds_0 resExchangeEnds_0p resExchangeEnds_1
  by_cases hN : Net p xss
  · simp only [if_pos hN, sortL_len, List.length_map]
    exact iEx_yes p v xss w ha hN
  · simp only [if_neg hN, List.length_nil]
    exact (iEx_no p v xss w ha hN).mono fun e w' h => ⟨none, 0, h.1, own2_nil _ _ _, h.2⟩

end Go.Proofs.Ytnmjdphibphpnaa
