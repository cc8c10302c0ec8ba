/- ExchangeEnds of the program. -/
import Derived.Test.YtnmjdphibphpnaaBt
import Derived.Test.YtnmjdphibphpnaaNetOf
namespace Go.Proofs.Ytnmjdphibphpnaa
open Go.RowKit
set_option linter.unusedVariables false

theorem renC_four {zero one next : Int} {xss : List (List Int)} : ∀ c, c ∈ xss.map (renC zero one next) → c.length = 4 := by
  intro c hc
  obtain ⟨d, _, rfl⟩ := List.mem_map.1 hc
  rfl

theorem C2.lowB {w w' : World} {b B : Nat} {x y : Value} (h : C2 w b x y) (hb : Below B w w') (hB : b < B) : C2 w' b x y := by
  obtain ⟨h0, h1, f0, f1, hz⟩ := h
  have e := hb.block b hB
  have := hb.size
  exact ⟨(World.cell?_of_block (w := w) e).trans h0, (World.cell?_of_block (w := w) e).trans h1, (World.frozen?_of_block (w := w) e).trans f0, (World.frozen?_of_block (w := w) e).trans f1, by omega⟩

set_option maxRecDepth 100000 in
set_option maxHeartbeats 4000000 in
theorem iEx_yes (p : Int) (v : Value) (xss : List (List Int)) (w : World) (ha : Reads2 w v xss) (hN : Net p xss) :
    Calls Try.prog 15 #[.agg #[.int .i64 p, v]] w fun e w' => ∃ sa sc, e = .returned (.tuple #[.agg #[.int .i64 p, .slice sa xss.length sc], .int .i64 0]) ∧ Own2 w' w.heap.size w'.heap.size (.slice sa xss.length sc) (sortL (xss.map (renC 1 0 2))) ∧ Below w.heap.size w w' := by
  have HA := Lib.hid ha
  have HN := Lib.hid hN
  have h12 : xss.length ≤ 12 := hN.2.2.1
  have HD : Hid (decide (Net p xss) = true) := decide_eq_true hN
  have HLM : Hid ((xss.map (renC 1 0 2)).length = xss.length) := List.length_map ..
  have H12 : Hid ((xss.map (renC 1 0 2)).length ≤ 12) := by unfold Hid; rw [List.length_map]; exact h12
  obtain ⟨xa, xc, rfl, _, _⟩ := ha
  clear hN h12
  have kx := C2.here w (.int .i64 p) (.slice xa xss.length xc) 26
  have hL0 : Below w.heap.size w (w.alloc (.cells #[.int .i64 p, .slice xa xss.length xc] 26)) := (Below.refl _ _).alloc (Nat.le_refl _) _
  replace kx := kx.alloc (.cells #[.int .i64 0, .slice none 0 0] 26)
  have ko := C2.here (w.alloc (.cells #[.int .i64 p, .slice xa xss.length xc] 26)) (.int .i64 0) (.slice none 0 0) 26
  rw [World.size_alloc] at ko
  replace hL0 := hL0.alloc (by simp) (.cells #[.int .i64 0, .slice none 0 0] 26)
  go_enter Try.func15, Try.ntmps15
  go_wp2_with fail
  refine (isNetwork_any p _ xss _ (HA.out.keep hL0)).mono ?_
  rintro e w1 ⟨rfl, hb⟩
  rw [HD.out]
  have hL1 := chain (B := w.heap.size) hL0 (Nat.le_refl _) hb
  replace kx := keepAt hb kx
  replace ko := keepAt hb ko
  clear hb hL0
  have hL1d : Below w.heap.size w w1.drew := Bdrew hL1 1
  have hA1 : Hid (Reads2 w1.drew (.slice xa xss.length xc) xss) := HA.out.keep hL1d
  have j1 : Hid ((0 : Int) ≤ 1 ∧ (1 : Int) ≤ 100) := by unfold Hid; omega
  have j0 : Hid ((0 : Int) ≤ 0 ∧ (0 : Int) ≤ 100) := by unfold Hid; omega
  have j2 : Hid ((0 : Int) ≤ 2 ∧ (2 : Int) ≤ 100) := by unfold Hid; omega
  have hx1 : Hid (w.heap.size < w1.drew.heap.size) := kx.2.2.2.2
  have ho1 : Hid (w.heap.size + 1 < w1.drew.heap.size) := ko.2.2.2.2
  go_upto_region 3 with fail
  go_region_with (first | (go_at_call 51; (with_reducible refine (renumbered_any p _ xss 1 0 2 _ hA1.out HN.out j1.out j0.out j2.out).mono ?_); rintro e w2 ⟨u, rfl, hO, hb⟩; have hL2 := chain (B := w.heap.size) hL1d (Nat.le_refl _) hb; replace kx := keepAt hb (show C2 _ _ _ _ from kx); replace ko := keepAt hb (show C2 _ _ _ _ from ko); have hs1 := hb.size; clear hb) | (go_at_call 50; (with_reducible refine (networkOf_any p _ _ _ _ H12.out renC_four hs1 hO).mono ?_); rintro e w3 ⟨sa, sc, rfl, hW, hb_⟩; have hb := hb_.low; replace ko := C2.lowB (show C2 _ _ _ _ from ko) hb ho1.out; have hL3 := Below.trans hL2 (Below.mono hb (Nat.le_of_lt (Nat.lt_of_le_of_lt (Nat.le_refl _) hx1.out))); have hs3 := hb.size; clear hb hb_))
  all_goals (rw [List.length_map] at hW)
  all_goals (have hb1 : w.heap.size + 1 < w2.heap.size := Nat.lt_of_lt_of_le ho1.out hs1)
  all_goals (have HO := Lib.hid (((hW.setCell ⟨w.heap.size + 1, 0, none⟩ (.int .i64 p) hb1).setCell ⟨w.heap.size + 1, 1, none⟩ (.slice sa xss.length sc) hb1).wide (show w.heap.size ≤ w2.heap.size by omega) (show w3.heap.size ≤ (((w3.setCell ⟨w.heap.size + 1, 0, none⟩ (.int .i64 p)).setCell ⟨w.heap.size + 1, 1, none⟩ (.slice sa xss.length sc))).heap.size by rw [World.size_setCell, World.size_setCell]; exact Nat.le_refl _)))
  all_goals (have ko2 := (ko.put0 (.int .i64 p)).put1 (.slice sa xss.length sc))
  all_goals (have hL4 := (hL3.setCell (p := ⟨w.heap.size + 1, 0, none⟩) (by simp) (.int .i64 p)).setCell (p := ⟨w.heap.size + 1, 1, none⟩) (by simp) (.slice sa xss.length sc))
  all_goals (clear hW hL3 HLM)
  all_goals (go_wp2_with fail)
  all_goals (refine bodyPost_ret (v := .tuple #[.agg #[.int .i64 p, .slice sa xss.length sc], .int .i64 0]) (by simp [results, Try.results15, go_sem, *]) rfl ?_)
  all_goals (exact ⟨sa, sc, rfl, HO.out, hL4⟩)

end Go.Proofs.Ytnmjdphibphpnaa
