/- SideBySide: the program's and the model's. -/
import Derived.Test.YtnmjdphibphpnaaSbM
import Derived.Test.YtnmjdphibphpnaaExS
import Derived.Test.YtnmjdphibphpnaaNetB
import Derived.Test.YtnmjdphibphpnaaNetL
namespace Go.Proofs.Ytnmjdphibphpnaa
open Go.RowKit
set_option linter.unusedVariables false

abbrev ptSideBySide (px py : Int) : Int := px + py - 2
def resSideBySide_0 (px : Int) (xss : List (List Int)) (py : Int) (yss : List (List Int)) : List (List Int) := twoL (px + py - 2) px py 0 1 2 0 1 (px) xss yss
def resSideBySide_0p (px : Int) (xss : List (List Int)) (py : Int) (yss : List (List Int)) : Int := twoP (px + py - 2) px py xss yss
def resSideBySide_1 (px : Int) (xss : List (List Int)) (py : Int) (yss : List (List Int)) : Int := twoC (px + py - 2) px py xss yss
theorem lenSideBySide_0 (px : Int) (xss : List (List Int)) (py : Int) (yss : List (List Int)) : (resSideBySide_0 px xss py yss).length ≤ 100000 ∧ (resSideBySide_0 px xss py yss).length + sumLen (resSideBySide_0 px xss py yss) (resSideBySide_0 px xss py yss).length ≤ 1000000 ∧ ∀ i, i < (resSideBySide_0 px xss py yss).length → ((resSideBySide_0 px xss py yss).getD i []).length ≤ 1048576 := by
  unfold resSideBySide_0 twoL
  split
  · rename_i hN
    refine len_four (fun c hc => ?_) ?_
    · have h := sortL_mem hc
      rcases List.mem_append.1 h with h | h
      · exact renC_four c h
      · exact renC_four c h
    · rw [sortL_len, List.length_append, List.length_map, List.length_map]; exact hN.2.2.2
  · exact len_four (fun c hc => by cases hc) (by simp)

theorem fourSideBySide_0 (px : Int) (xss : List (List Int)) (py : Int) (yss : List (List Int)) : ∀ c ∈ resSideBySide_0 px xss py yss, c.length = 4 := by
  intro c hc
  unfold resSideBySide_0 twoL at hc
  split at hc
  · rcases List.mem_append.1 (sortL_mem hc) with h | h
    · exact renC_four c h
    · exact renC_four c h
  · cases hc

set_option maxRecDepth 100000 in
set_option maxHeartbeats 4000000 in
theorem iSideBySide_n1 (px py : Int) (vx vy : Value) (xss yss : List (List Int)) (w : World) (hx : Reads2 w vx xss) (hy : Reads2 w vy yss) (h : ¬ Net px xss) :
    Calls Try.prog 20 #[.agg #[.int .i64 px, vx], .agg #[.int .i64 py, vy]] w fun e w' => e = .returned (.tuple #[.agg #[.int .i64 0, .slice none 0 0], .int .i64 1]) ∧ Below w.heap.size w w' := by
  have HX := Lib.hid hx
  have HY := Lib.hid hy
  have D1 : Hid (decide (Net px xss) = false) := decide_eq_false h
  clear h
  obtain ⟨xa, xc, rfl, _, _⟩ := hx
  obtain ⟨ya, yc, rfl, _, _⟩ := hy
  have kx : C2 (((w.alloc (.cells #[.int .i64 px, .slice xa xss.length xc] 26)).alloc (.cells #[.int .i64 py, .slice ya yss.length yc] 26)).alloc (.cells #[.int .i64 0, .slice none 0 0] 26)) w.heap.size (.int .i64 px) (.slice xa xss.length xc) := by simpa using ((C2.here w (.int .i64 px) (.slice xa xss.length xc) 26).alloc (.cells #[.int .i64 py, .slice ya yss.length yc] 26)).alloc (.cells #[.int .i64 0, .slice none 0 0] 26)
  have ky : C2 (((w.alloc (.cells #[.int .i64 px, .slice xa xss.length xc] 26)).alloc (.cells #[.int .i64 py, .slice ya yss.length yc] 26)).alloc (.cells #[.int .i64 0, .slice none 0 0] 26)) (w.heap.size + 1) (.int .i64 py) (.slice ya yss.length yc) := by simpa using (C2.here (w.alloc (.cells #[.int .i64 px, .slice xa xss.length xc] 26)) (.int .i64 py) (.slice ya yss.length yc) 26).alloc (.cells #[.int .i64 0, .slice none 0 0] 26)
  have ko : C2 (((w.alloc (.cells #[.int .i64 px, .slice xa xss.length xc] 26)).alloc (.cells #[.int .i64 py, .slice ya yss.length yc] 26)).alloc (.cells #[.int .i64 0, .slice none 0 0] 26)) (w.heap.size + 2) (.int .i64 0) (.slice none 0 0) := by simpa using C2.here ((w.alloc (.cells #[.int .i64 px, .slice xa xss.length xc] 26)).alloc (.cells #[.int .i64 py, .slice ya yss.length yc] 26)) (.int .i64 0) (.slice none 0 0) 26
  have hL : Below w.heap.size w (((w.alloc (.cells #[.int .i64 px, .slice xa xss.length xc] 26)).alloc (.cells #[.int .i64 py, .slice ya yss.length yc] 26)).alloc (.cells #[.int .i64 0, .slice none 0 0] 26)) := (((Below.refl _ _).alloc (Nat.le_refl _) _).alloc (by simp) _).alloc (by simp; omega) _
  go_enter Try.func20, Try.ntmps20
  go_wp2_with fail
  refine (isNetwork_b px _ xss _ (HX.out.keep (by go_grown)) D1.out).mono ?_
  rintro e w1 ⟨rfl, hb⟩
  have hL := chain (B := w.heap.size) (a := w) (by go_grown) (Nat.le_refl _) hb; replace kx := keepAt hb (show C2 _ w.heap.size (.int .i64 px) (.slice xa xss.length xc) from by (repeat' (first | (with_reducible assumption) | (with_reducible refine C2.drewX ?_) | (with_reducible refine C2.alloc ?_ _)))); replace ky := keepAt hb (show C2 _ (w.heap.size + 1) (.int .i64 py) (.slice ya yss.length yc) from by (repeat' (first | (with_reducible assumption) | (with_reducible refine C2.drewX ?_) | (with_reducible refine C2.alloc ?_ _)))); replace ko := keepAt hb (show C2 _ (w.heap.size + 2) (.int .i64 0) (.slice none 0 0) from by (repeat' (first | (with_reducible assumption) | (with_reducible refine C2.drewX ?_) | (with_reducible refine C2.alloc ?_ _))))
  clear hb
  have ko2 := (ko.put0 (.int .i64 0)).put1 (.slice none 0 0)
  go_wp2_with fail
  refine bodyPost_ret (v := .tuple #[.agg #[.int .i64 0, .slice none 0 0], .int .i64 1]) (by simp [results, Try.results20, go_sem, *]) rfl ?_
  exact ⟨rfl, by go_grown⟩

set_option maxRecDepth 100000 in
set_option maxHeartbeats 4000000 in
theorem iSideBySide_n2 (px py : Int) (vx vy : Value) (xss yss : List (List Int)) (w : World) (hx : Reads2 w vx xss) (hy : Reads2 w vy yss) (h1 : Net px xss) (h2 : ¬ Net py yss) :
    Calls Try.prog 20 #[.agg #[.int .i64 px, vx], .agg #[.int .i64 py, vy]] w fun e w' => e = .returned (.tuple #[.agg #[.int .i64 0, .slice none 0 0], .int .i64 1]) ∧ Below w.heap.size w w' := by
  have HX := Lib.hid hx
  have HY := Lib.hid hy
  have D1 : Hid (decide (Net px xss) = true) := decide_eq_true h1
  have D2 : Hid (decide (Net py yss) = false) := decide_eq_false h2
  clear h1 h2
  obtain ⟨xa, xc, rfl, _, _⟩ := hx
  obtain ⟨ya, yc, rfl, _, _⟩ := hy
  have kx : C2 (((w.alloc (.cells #[.int .i64 px, .slice xa xss.length xc] 26)).alloc (.cells #[.int .i64 py, .slice ya yss.length yc] 26)).alloc (.cells #[.int .i64 0, .slice none 0 0] 26)) w.heap.size (.int .i64 px) (.slice xa xss.length xc) := by simpa using ((C2.here w (.int .i64 px) (.slice xa xss.length xc) 26).alloc (.cells #[.int .i64 py, .slice ya yss.length yc] 26)).alloc (.cells #[.int .i64 0, .slice none 0 0] 26)
  have ky : C2 (((w.alloc (.cells #[.int .i64 px, .slice xa xss.length xc] 26)).alloc (.cells #[.int .i64 py, .slice ya yss.length yc] 26)).alloc (.cells #[.int .i64 0, .slice none 0 0] 26)) (w.heap.size + 1) (.int .i64 py) (.slice ya yss.length yc) := by simpa using (C2.here (w.alloc (.cells #[.int .i64 px, .slice xa xss.length xc] 26)) (.int .i64 py) (.slice ya yss.length yc) 26).alloc (.cells #[.int .i64 0, .slice none 0 0] 26)
  have ko : C2 (((w.alloc (.cells #[.int .i64 px, .slice xa xss.length xc] 26)).alloc (.cells #[.int .i64 py, .slice ya yss.length yc] 26)).alloc (.cells #[.int .i64 0, .slice none 0 0] 26)) (w.heap.size + 2) (.int .i64 0) (.slice none 0 0) := by simpa using C2.here ((w.alloc (.cells #[.int .i64 px, .slice xa xss.length xc] 26)).alloc (.cells #[.int .i64 py, .slice ya yss.length yc] 26)) (.int .i64 0) (.slice none 0 0) 26
  have hL : Below w.heap.size w (((w.alloc (.cells #[.int .i64 px, .slice xa xss.length xc] 26)).alloc (.cells #[.int .i64 py, .slice ya yss.length yc] 26)).alloc (.cells #[.int .i64 0, .slice none 0 0] 26)) := (((Below.refl _ _).alloc (Nat.le_refl _) _).alloc (by simp) _).alloc (by simp; omega) _
  go_enter Try.func20, Try.ntmps20
  go_wp2_with fail
  refine (isNetwork_b px _ xss _ (HX.out.keep (by go_grown)) D1.out).mono ?_
  rintro e w1 ⟨rfl, hb⟩
  have hL := chain (B := w.heap.size) (a := w) (by go_grown) (Nat.le_refl _) hb; replace kx := keepAt hb (show C2 _ w.heap.size (.int .i64 px) (.slice xa xss.length xc) from by (repeat' (first | (with_reducible assumption) | (with_reducible refine C2.drewX ?_) | (with_reducible refine C2.alloc ?_ _)))); replace ky := keepAt hb (show C2 _ (w.heap.size + 1) (.int .i64 py) (.slice ya yss.length yc) from by (repeat' (first | (with_reducible assumption) | (with_reducible refine C2.drewX ?_) | (with_reducible refine C2.alloc ?_ _)))); replace ko := keepAt hb (show C2 _ (w.heap.size + 2) (.int .i64 0) (.slice none 0 0) from by (repeat' (first | (with_reducible assumption) | (with_reducible refine C2.drewX ?_) | (with_reducible refine C2.alloc ?_ _))))
  clear hb
  go_wp2_with fail
  refine (isNetwork_b py _ yss _ (HY.out.keep (by go_grown)) D2.out).mono ?_
  rintro e w2 ⟨rfl, hb⟩
  have hL := chain (B := w.heap.size) (a := w) (by go_grown) (Nat.le_refl _) hb; replace kx := keepAt hb (show C2 _ w.heap.size (.int .i64 px) (.slice xa xss.length xc) from by (repeat' (first | (with_reducible assumption) | (with_reducible refine C2.drewX ?_) | (with_reducible refine C2.alloc ?_ _)))); replace ky := keepAt hb (show C2 _ (w.heap.size + 1) (.int .i64 py) (.slice ya yss.length yc) from by (repeat' (first | (with_reducible assumption) | (with_reducible refine C2.drewX ?_) | (with_reducible refine C2.alloc ?_ _)))); replace ko := keepAt hb (show C2 _ (w.heap.size + 2) (.int .i64 0) (.slice none 0 0) from by (repeat' (first | (with_reducible assumption) | (with_reducible refine C2.drewX ?_) | (with_reducible refine C2.alloc ?_ _))))
  clear hb
  have ko2 := (ko.put0 (.int .i64 0)).put1 (.slice none 0 0)
  go_wp2_with fail
  refine bodyPost_ret (v := .tuple #[.agg #[.int .i64 0, .slice none 0 0], .int .i64 1]) (by simp [results, Try.results20, go_sem, *]) rfl ?_
  exact ⟨rfl, by go_grown⟩

set_option maxRecDepth 100000 in
set_option maxHeartbeats 4000000 in
theorem sSideBySide_n1 (px py : Int) (vx vy : Value) (xss yss : List (List Int)) (w : World) (hx : Reads2 w vx xss) (hy : Reads2 w vy yss) (h : ¬ Net px xss) :
    Calls Try.prog 19 #[.agg #[.int .i64 px, vx], .agg #[.int .i64 py, vy]] w fun e w' => e = .returned (.tuple #[.agg #[.int .i64 0, .slice none 0 0], .int .i64 1]) ∧ Below w.heap.size w w' := by
  have HX := Lib.hid hx
  have HY := Lib.hid hy
  have D1 : Hid (decide (Net px xss) = false) := decide_eq_false h
  clear h
  obtain ⟨xa, xc, rfl, _, _⟩ := hx
  obtain ⟨ya, yc, rfl, _, _⟩ := hy
  have kx : C2 (((w.alloc (.cells #[.int .i64 px, .slice xa xss.length xc] 26)).alloc (.cells #[.int .i64 py, .slice ya yss.length yc] 26)).alloc (.cells #[.int .i64 0, .slice none 0 0] 26)) w.heap.size (.int .i64 px) (.slice xa xss.length xc) := by simpa using ((C2.here w (.int .i64 px) (.slice xa xss.length xc) 26).alloc (.cells #[.int .i64 py, .slice ya yss.length yc] 26)).alloc (.cells #[.int .i64 0, .slice none 0 0] 26)
  have ky : C2 (((w.alloc (.cells #[.int .i64 px, .slice xa xss.length xc] 26)).alloc (.cells #[.int .i64 py, .slice ya yss.length yc] 26)).alloc (.cells #[.int .i64 0, .slice none 0 0] 26)) (w.heap.size + 1) (.int .i64 py) (.slice ya yss.length yc) := by simpa using (C2.here (w.alloc (.cells #[.int .i64 px, .slice xa xss.length xc] 26)) (.int .i64 py) (.slice ya yss.length yc) 26).alloc (.cells #[.int .i64 0, .slice none 0 0] 26)
  have ko : C2 (((w.alloc (.cells #[.int .i64 px, .slice xa xss.length xc] 26)).alloc (.cells #[.int .i64 py, .slice ya yss.length yc] 26)).alloc (.cells #[.int .i64 0, .slice none 0 0] 26)) (w.heap.size + 2) (.int .i64 0) (.slice none 0 0) := by simpa using C2.here ((w.alloc (.cells #[.int .i64 px, .slice xa xss.length xc] 26)).alloc (.cells #[.int .i64 py, .slice ya yss.length yc] 26)) (.int .i64 0) (.slice none 0 0) 26
  have hL : Below w.heap.size w (((w.alloc (.cells #[.int .i64 px, .slice xa xss.length xc] 26)).alloc (.cells #[.int .i64 py, .slice ya yss.length yc] 26)).alloc (.cells #[.int .i64 0, .slice none 0 0] 26)) := (((Below.refl _ _).alloc (Nat.le_refl _) _).alloc (by simp) _).alloc (by simp; omega) _
  go_enter Try.func19, Try.ntmps19
  go_wp2_with fail
  refine (l02Is_b px _ xss _ (HX.out.keep (by go_grown)) D1.out).mono ?_
  rintro e w1 ⟨rfl, hb⟩
  have hL := chain (B := w.heap.size) (a := w) (by go_grown) (Nat.le_refl _) hb; replace kx := keepAt hb (show C2 _ w.heap.size (.int .i64 px) (.slice xa xss.length xc) from by (repeat' (first | (with_reducible assumption) | (with_reducible refine C2.drewX ?_) | (with_reducible refine C2.alloc ?_ _)))); replace ky := keepAt hb (show C2 _ (w.heap.size + 1) (.int .i64 py) (.slice ya yss.length yc) from by (repeat' (first | (with_reducible assumption) | (with_reducible refine C2.drewX ?_) | (with_reducible refine C2.alloc ?_ _)))); replace ko := keepAt hb (show C2 _ (w.heap.size + 2) (.int .i64 0) (.slice none 0 0) from by (repeat' (first | (with_reducible assumption) | (with_reducible refine C2.drewX ?_) | (with_reducible refine C2.alloc ?_ _))))
  clear hb
  have ko2 := (ko.put0 (.int .i64 0)).put1 (.slice none 0 0)
  go_wp2_with fail
  refine bodyPost_ret (v := .tuple #[.agg #[.int .i64 0, .slice none 0 0], .int .i64 1]) (by simp [results, Try.results19, go_sem, *]) rfl ?_
  exact ⟨rfl, by go_grown⟩

set_option maxRecDepth 100000 in
set_option maxHeartbeats 4000000 in
theorem sSideBySide_n2 (px py : Int) (vx vy : Value) (xss yss : List (List Int)) (w : World) (hx : Reads2 w vx xss) (hy : Reads2 w vy yss) (h1 : Net px xss) (h2 : ¬ Net py yss) :
    Calls Try.prog 19 #[.agg #[.int .i64 px, vx], .agg #[.int .i64 py, vy]] w fun e w' => e = .returned (.tuple #[.agg #[.int .i64 0, .slice none 0 0], .int .i64 1]) ∧ Below w.heap.size w w' := by
  have HX := Lib.hid hx
  have HY := Lib.hid hy
  have D1 : Hid (decide (Net px xss) = true) := decide_eq_true h1
  have D2 : Hid (decide (Net py yss) = false) := decide_eq_false h2
  clear h1 h2
  obtain ⟨xa, xc, rfl, _, _⟩ := hx
  obtain ⟨ya, yc, rfl, _, _⟩ := hy
  have kx : C2 (((w.alloc (.cells #[.int .i64 px, .slice xa xss.length xc] 26)).alloc (.cells #[.int .i64 py, .slice ya yss.length yc] 26)).alloc (.cells #[.int .i64 0, .slice none 0 0] 26)) w.heap.size (.int .i64 px) (.slice xa xss.length xc) := by simpa using ((C2.here w (.int .i64 px) (.slice xa xss.length xc) 26).alloc (.cells #[.int .i64 py, .slice ya yss.length yc] 26)).alloc (.cells #[.int .i64 0, .slice none 0 0] 26)
  have ky : C2 (((w.alloc (.cells #[.int .i64 px, .slice xa xss.length xc] 26)).alloc (.cells #[.int .i64 py, .slice ya yss.length yc] 26)).alloc (.cells #[.int .i64 0, .slice none 0 0] 26)) (w.heap.size + 1) (.int .i64 py) (.slice ya yss.length yc) := by simpa using (C2.here (w.alloc (.cells #[.int .i64 px, .slice xa xss.length xc] 26)) (.int .i64 py) (.slice ya yss.length yc) 26).alloc (.cells #[.int .i64 0, .slice none 0 0] 26)
  have ko : C2 (((w.alloc (.cells #[.int .i64 px, .slice xa xss.length xc] 26)).alloc (.cells #[.int .i64 py, .slice ya yss.length yc] 26)).alloc (.cells #[.int .i64 0, .slice none 0 0] 26)) (w.heap.size + 2) (.int .i64 0) (.slice none 0 0) := by simpa using C2.here ((w.alloc (.cells #[.int .i64 px, .slice xa xss.length xc] 26)).alloc (.cells #[.int .i64 py, .slice ya yss.length yc] 26)) (.int .i64 0) (.slice none 0 0) 26
  have hL : Below w.heap.size w (((w.alloc (.cells #[.int .i64 px, .slice xa xss.length xc] 26)).alloc (.cells #[.int .i64 py, .slice ya yss.length yc] 26)).alloc (.cells #[.int .i64 0, .slice none 0 0] 26)) := (((Below.refl _ _).alloc (Nat.le_refl _) _).alloc (by simp) _).alloc (by simp; omega) _
  go_enter Try.func19, Try.ntmps19
  go_wp2_with fail
  refine (l02Is_b px _ xss _ (HX.out.keep (by go_grown)) D1.out).mono ?_
  rintro e w1 ⟨rfl, hb⟩
  have hL := chain (B := w.heap.size) (a := w) (by go_grown) (Nat.le_refl _) hb; replace kx := keepAt hb (show C2 _ w.heap.size (.int .i64 px) (.slice xa xss.length xc) from by (repeat' (first | (with_reducible assumption) | (with_reducible refine C2.drewX ?_) | (with_reducible refine C2.alloc ?_ _)))); replace ky := keepAt hb (show C2 _ (w.heap.size + 1) (.int .i64 py) (.slice ya yss.length yc) from by (repeat' (first | (with_reducible assumption) | (with_reducible refine C2.drewX ?_) | (with_reducible refine C2.alloc ?_ _)))); replace ko := keepAt hb (show C2 _ (w.heap.size + 2) (.int .i64 0) (.slice none 0 0) from by (repeat' (first | (with_reducible assumption) | (with_reducible refine C2.drewX ?_) | (with_reducible refine C2.alloc ?_ _))))
  clear hb
  go_wp2_with fail
  refine (l02Is_b py _ yss _ (HY.out.keep (by go_grown)) D2.out).mono ?_
  rintro e w2 ⟨rfl, hb⟩
  have hL := chain (B := w.heap.size) (a := w) (by go_grown) (Nat.le_refl _) hb; replace kx := keepAt hb (show C2 _ w.heap.size (.int .i64 px) (.slice xa xss.length xc) from by (repeat' (first | (with_reducible assumption) | (with_reducible refine C2.drewX ?_) | (with_reducible refine C2.alloc ?_ _)))); replace ky := keepAt hb (show C2 _ (w.heap.size + 1) (.int .i64 py) (.slice ya yss.length yc) from by (repeat' (first | (with_reducible assumption) | (with_reducible refine C2.drewX ?_) | (with_reducible refine C2.alloc ?_ _)))); replace ko := keepAt hb (show C2 _ (w.heap.size + 2) (.int .i64 0) (.slice none 0 0) from by (repeat' (first | (with_reducible assumption) | (with_reducible refine C2.drewX ?_) | (with_reducible refine C2.alloc ?_ _))))
  clear hb
  have ko2 := (ko.put0 (.int .i64 0)).put1 (.slice none 0 0)
  go_wp2_with fail
  refine bodyPost_ret (v := .tuple #[.agg #[.int .i64 0, .slice none 0 0], .int .i64 1]) (by simp [results, Try.results19, go_sem, *]) rfl ?_
  exact ⟨rfl, by go_grown⟩

set_option maxRecDepth 100000 in
set_option maxHeartbeats 4000000 in
theorem sSideBySide_l1 (px py : Int) (vx vy : Value) (xss yss : List (List Int)) (w : World) (hx : Reads2 w vx xss) (hy : Reads2 w vy yss) (h1 : Net px xss) (h2 : Net py yss) (h3 : 8 < px + py - 2) :
    Calls Try.prog 19 #[.agg #[.int .i64 px, vx], .agg #[.int .i64 py, vy]] w fun e w' => e = .returned (.tuple #[.agg #[.int .i64 0, .slice none 0 0], .int .i64 3]) ∧ Below w.heap.size w w' := by
  have HX := Lib.hid hx
  have HY := Lib.hid hy
  have D1 : Hid (decide (Net px xss) = true) := decide_eq_true h1
  have D2 : Hid (decide (Net py yss) = true) := decide_eq_true h2
  have N1 := Lib.hid h1
  have N2 := Lib.hid h2
  have x2 : 2 ≤ px := h1.1
  have x8 : px ≤ 8 := h1.2.1
  have y2 : 2 ≤ py := h2.1
  have y8 : py ≤ 8 := h2.2.1
  have x12 : xss.length ≤ 12 := h1.2.2.1
  have y12 : yss.length ≤ 12 := h2.2.2.1
  clear h1 h2
  obtain ⟨xa, xc, rfl, _, _⟩ := hx
  obtain ⟨ya, yc, rfl, _, _⟩ := hy
  have kx : C2 (((w.alloc (.cells #[.int .i64 px, .slice xa xss.length xc] 26)).alloc (.cells #[.int .i64 py, .slice ya yss.length yc] 26)).alloc (.cells #[.int .i64 0, .slice none 0 0] 26)) w.heap.size (.int .i64 px) (.slice xa xss.length xc) := by simpa using ((C2.here w (.int .i64 px) (.slice xa xss.length xc) 26).alloc (.cells #[.int .i64 py, .slice ya yss.length yc] 26)).alloc (.cells #[.int .i64 0, .slice none 0 0] 26)
  have ky : C2 (((w.alloc (.cells #[.int .i64 px, .slice xa xss.length xc] 26)).alloc (.cells #[.int .i64 py, .slice ya yss.length yc] 26)).alloc (.cells #[.int .i64 0, .slice none 0 0] 26)) (w.heap.size + 1) (.int .i64 py) (.slice ya yss.length yc) := by simpa using (C2.here (w.alloc (.cells #[.int .i64 px, .slice xa xss.length xc] 26)) (.int .i64 py) (.slice ya yss.length yc) 26).alloc (.cells #[.int .i64 0, .slice none 0 0] 26)
  have ko : C2 (((w.alloc (.cells #[.int .i64 px, .slice xa xss.length xc] 26)).alloc (.cells #[.int .i64 py, .slice ya yss.length yc] 26)).alloc (.cells #[.int .i64 0, .slice none 0 0] 26)) (w.heap.size + 2) (.int .i64 0) (.slice none 0 0) := by simpa using C2.here ((w.alloc (.cells #[.int .i64 px, .slice xa xss.length xc] 26)).alloc (.cells #[.int .i64 py, .slice ya yss.length yc] 26)) (.int .i64 0) (.slice none 0 0) 26
  have hL : Below w.heap.size w (((w.alloc (.cells #[.int .i64 px, .slice xa xss.length xc] 26)).alloc (.cells #[.int .i64 py, .slice ya yss.length yc] 26)).alloc (.cells #[.int .i64 0, .slice none 0 0] 26)) := (((Below.refl _ _).alloc (Nat.le_refl _) _).alloc (by simp) _).alloc (by simp; omega) _
  go_enter Try.func19, Try.ntmps19
  go_wp2_with fail
  refine (l02Is_b px _ xss _ (HX.out.keep (by go_grown)) D1.out).mono ?_
  rintro e w1 ⟨rfl, hb⟩
  have hL := chain (B := w.heap.size) (a := w) (by go_grown) (Nat.le_refl _) hb; replace kx := keepAt hb (show C2 _ w.heap.size (.int .i64 px) (.slice xa xss.length xc) from by (repeat' (first | (with_reducible assumption) | (with_reducible refine C2.drewX ?_) | (with_reducible refine C2.alloc ?_ _)))); replace ky := keepAt hb (show C2 _ (w.heap.size + 1) (.int .i64 py) (.slice ya yss.length yc) from by (repeat' (first | (with_reducible assumption) | (with_reducible refine C2.drewX ?_) | (with_reducible refine C2.alloc ?_ _)))); replace ko := keepAt hb (show C2 _ (w.heap.size + 2) (.int .i64 0) (.slice none 0 0) from by (repeat' (first | (with_reducible assumption) | (with_reducible refine C2.drewX ?_) | (with_reducible refine C2.alloc ?_ _))))
  clear hb
  go_wp2_with fail
  refine (l02Is_b py _ yss _ (HY.out.keep (by go_grown)) D2.out).mono ?_
  rintro e w2 ⟨rfl, hb⟩
  have hL := chain (B := w.heap.size) (a := w) (by go_grown) (Nat.le_refl _) hb; replace kx := keepAt hb (show C2 _ w.heap.size (.int .i64 px) (.slice xa xss.length xc) from by (repeat' (first | (with_reducible assumption) | (with_reducible refine C2.drewX ?_) | (with_reducible refine C2.alloc ?_ _)))); replace ky := keepAt hb (show C2 _ (w.heap.size + 1) (.int .i64 py) (.slice ya yss.length yc) from by (repeat' (first | (with_reducible assumption) | (with_reducible refine C2.drewX ?_) | (with_reducible refine C2.alloc ?_ _)))); replace ko := keepAt hb (show C2 _ (w.heap.size + 2) (.int .i64 0) (.slice none 0 0) from by (repeat' (first | (with_reducible assumption) | (with_reducible refine C2.drewX ?_) | (with_reducible refine C2.alloc ?_ _))))
  clear hb
  have ko2 := (ko.put0 (.int .i64 0)).put1 (.slice none 0 0)
  go_wp2_with fail
  refine bodyPost_ret (v := .tuple #[.agg #[.int .i64 0, .slice none 0 0], .int .i64 3]) (by simp [results, Try.results19, go_sem, *]) rfl ?_
  exact ⟨rfl, by go_grown⟩

set_option maxRecDepth 100000 in
set_option maxHeartbeats 4000000 in
theorem sSideBySide_l2 (px py : Int) (vx vy : Value) (xss yss : List (List Int)) (w : World) (hx : Reads2 w vx xss) (hy : Reads2 w vy yss) (h1 : Net px xss) (h2 : Net py yss) (h3 : px + py - 2 ≤ 8) (h4 : 12 < xss.length + yss.length) :
    Calls Try.prog 19 #[.agg #[.int .i64 px, vx], .agg #[.int .i64 py, vy]] w fun e w' => e = .returned (.tuple #[.agg #[.int .i64 0, .slice none 0 0], .int .i64 3]) ∧ Below w.heap.size w w' := by
  have HX := Lib.hid hx
  have HY := Lib.hid hy
  have D1 : Hid (decide (Net px xss) = true) := decide_eq_true h1
  have D2 : Hid (decide (Net py yss) = true) := decide_eq_true h2
  have N1 := Lib.hid h1
  have N2 := Lib.hid h2
  have x2 : 2 ≤ px := h1.1
  have x8 : px ≤ 8 := h1.2.1
  have y2 : 2 ≤ py := h2.1
  have y8 : py ≤ 8 := h2.2.1
  have x12 : xss.length ≤ 12 := h1.2.2.1
  have y12 : yss.length ≤ 12 := h2.2.2.1
  clear h1 h2
  have h3' : ¬ (8 : Int) < px + py - 2 := by omega
  have h4' : (12 : Int) < (xss.length : Int) + (yss.length : Int) := by omega
  clear h3 h4
  obtain ⟨xa, xc, rfl, _, _⟩ := hx
  obtain ⟨ya, yc, rfl, _, _⟩ := hy
  have kx : C2 (((w.alloc (.cells #[.int .i64 px, .slice xa xss.length xc] 26)).alloc (.cells #[.int .i64 py, .slice ya yss.length yc] 26)).alloc (.cells #[.int .i64 0, .slice none 0 0] 26)) w.heap.size (.int .i64 px) (.slice xa xss.length xc) := by simpa using ((C2.here w (.int .i64 px) (.slice xa xss.length xc) 26).alloc (.cells #[.int .i64 py, .slice ya yss.length yc] 26)).alloc (.cells #[.int .i64 0, .slice none 0 0] 26)
  have ky : C2 (((w.alloc (.cells #[.int .i64 px, .slice xa xss.length xc] 26)).alloc (.cells #[.int .i64 py, .slice ya yss.length yc] 26)).alloc (.cells #[.int .i64 0, .slice none 0 0] 26)) (w.heap.size + 1) (.int .i64 py) (.slice ya yss.length yc) := by simpa using (C2.here (w.alloc (.cells #[.int .i64 px, .slice xa xss.length xc] 26)) (.int .i64 py) (.slice ya yss.length yc) 26).alloc (.cells #[.int .i64 0, .slice none 0 0] 26)
  have ko : C2 (((w.alloc (.cells #[.int .i64 px, .slice xa xss.length xc] 26)).alloc (.cells #[.int .i64 py, .slice ya yss.length yc] 26)).alloc (.cells #[.int .i64 0, .slice none 0 0] 26)) (w.heap.size + 2) (.int .i64 0) (.slice none 0 0) := by simpa using C2.here ((w.alloc (.cells #[.int .i64 px, .slice xa xss.length xc] 26)).alloc (.cells #[.int .i64 py, .slice ya yss.length yc] 26)) (.int .i64 0) (.slice none 0 0) 26
  have hL : Below w.heap.size w (((w.alloc (.cells #[.int .i64 px, .slice xa xss.length xc] 26)).alloc (.cells #[.int .i64 py, .slice ya yss.length yc] 26)).alloc (.cells #[.int .i64 0, .slice none 0 0] 26)) := (((Below.refl _ _).alloc (Nat.le_refl _) _).alloc (by simp) _).alloc (by simp; omega) _
  go_enter Try.func19, Try.ntmps19
  go_wp2_with fail
  refine (l02Is_b px _ xss _ (HX.out.keep (by go_grown)) D1.out).mono ?_
  rintro e w1 ⟨rfl, hb⟩
  have hL := chain (B := w.heap.size) (a := w) (by go_grown) (Nat.le_refl _) hb; replace kx := keepAt hb (show C2 _ w.heap.size (.int .i64 px) (.slice xa xss.length xc) from by (repeat' (first | (with_reducible assumption) | (with_reducible refine C2.drewX ?_) | (with_reducible refine C2.alloc ?_ _)))); replace ky := keepAt hb (show C2 _ (w.heap.size + 1) (.int .i64 py) (.slice ya yss.length yc) from by (repeat' (first | (with_reducible assumption) | (with_reducible refine C2.drewX ?_) | (with_reducible refine C2.alloc ?_ _)))); replace ko := keepAt hb (show C2 _ (w.heap.size + 2) (.int .i64 0) (.slice none 0 0) from by (repeat' (first | (with_reducible assumption) | (with_reducible refine C2.drewX ?_) | (with_reducible refine C2.alloc ?_ _))))
  clear hb
  go_wp2_with fail
  refine (l02Is_b py _ yss _ (HY.out.keep (by go_grown)) D2.out).mono ?_
  rintro e w2 ⟨rfl, hb⟩
  have hL := chain (B := w.heap.size) (a := w) (by go_grown) (Nat.le_refl _) hb; replace kx := keepAt hb (show C2 _ w.heap.size (.int .i64 px) (.slice xa xss.length xc) from by (repeat' (first | (with_reducible assumption) | (with_reducible refine C2.drewX ?_) | (with_reducible refine C2.alloc ?_ _)))); replace ky := keepAt hb (show C2 _ (w.heap.size + 1) (.int .i64 py) (.slice ya yss.length yc) from by (repeat' (first | (with_reducible assumption) | (with_reducible refine C2.drewX ?_) | (with_reducible refine C2.alloc ?_ _)))); replace ko := keepAt hb (show C2 _ (w.heap.size + 2) (.int .i64 0) (.slice none 0 0) from by (repeat' (first | (with_reducible assumption) | (with_reducible refine C2.drewX ?_) | (with_reducible refine C2.alloc ?_ _))))
  clear hb
  have ko2 := (ko.put0 (.int .i64 0)).put1 (.slice none 0 0)
  go_wp2_with fail
  refine bodyPost_ret (v := .tuple #[.agg #[.int .i64 0, .slice none 0 0], .int .i64 3]) (by simp [results, Try.results19, go_sem, *]) rfl ?_
  exact ⟨rfl, by go_grown⟩

set_option maxRecDepth 100000 in
set_option maxHeartbeats 8000000 in
theorem sSideBySide_yes (px py : Int) (vx vy : Value) (xss yss : List (List Int)) (w : World) (hx : Reads2 w vx xss) (hy : Reads2 w vy yss) (h : Two (px + py - 2) px py xss yss) :
    Calls Try.prog 19 #[.agg #[.int .i64 px, vx], .agg #[.int .i64 py, vy]] w fun e w' => ∃ sa sc, e = .returned (.tuple #[.agg #[.int .i64 (px + py - 2), .slice sa (xss.length + yss.length) sc], .int .i64 0]) ∧ Reads2 w' (.slice sa (xss.length + yss.length) sc) (sortL (xss.map (renC 0 1 2) ++ yss.map (renC 0 1 (px)))) ∧ Below w.heap.size w w' := by
  have HX := Lib.hid hx
  have HY := Lib.hid hy
  obtain ⟨h1, h2, h3, h4⟩ := h
  have D1 : Hid (decide (Net px xss) = true) := decide_eq_true h1
  have D2 : Hid (decide (Net py yss) = true) := decide_eq_true h2
  have N1 := Lib.hid h1
  have N2 := Lib.hid h2
  have x2 : 2 ≤ px := h1.1
  have x8 : px ≤ 8 := h1.2.1
  have y2 : 2 ≤ py := h2.1
  have y8 : py ≤ 8 := h2.2.1
  have x12 : xss.length ≤ 12 := h1.2.2.1
  have y12 : yss.length ≤ 12 := h2.2.2.1
  have h3' : ¬ (8 : Int) < px + py - 2 := by omega
  have h4' : ¬ (12 : Int) < (xss.length : Int) + (yss.length : Int) := by omega
  have C1 := Lib.hid (cov_net (zero := 0) (one := 1) (next := 2) h1)
  have C3 := Lib.hid (cov_net (zero := 0) (one := 1) (next := px) h2)
  have HM : Hid (sortTo (xss.map (numC (numL 0 1 2 px.toNat)) ++ yss.map (numC (numL 0 1 (px) py.toNat))) (xss.length + yss.length) = sortL (xss.map (renC 0 1 2) ++ yss.map (renC 0 1 (px)))) := by
    unfold Hid; rw [mapC_ren h1, mapC_ren h2]; unfold sortL; rw [List.length_append, List.length_map, List.length_map]
  have X12 := Lib.hid x12
  have Y12 := Lib.hid y12
  have j1 : Hid ((0 : Int) ≤ 2 ∧ (2 : Int) ≤ 100) := by unfold Hid; omega
  have j2 : Hid (0 ≤ px ∧ px ≤ 100) := by unfold Hid; omega
  have P1 : Hid (2 ≤ px ∧ px ≤ 8) := ⟨x2, x8⟩
  have P2 : Hid (2 ≤ py ∧ py ≤ 8) := ⟨y2, y8⟩
  clear h1 h2 h3 h4
  obtain ⟨xa, xc, rfl, _, _⟩ := hx
  obtain ⟨ya, yc, rfl, _, _⟩ := hy
  have kx : C2 (((w.alloc (.cells #[.int .i64 px, .slice xa xss.length xc] 26)).alloc (.cells #[.int .i64 py, .slice ya yss.length yc] 26)).alloc (.cells #[.int .i64 0, .slice none 0 0] 26)) w.heap.size (.int .i64 px) (.slice xa xss.length xc) := by simpa using ((C2.here w (.int .i64 px) (.slice xa xss.length xc) 26).alloc (.cells #[.int .i64 py, .slice ya yss.length yc] 26)).alloc (.cells #[.int .i64 0, .slice none 0 0] 26)
  have ky : C2 (((w.alloc (.cells #[.int .i64 px, .slice xa xss.length xc] 26)).alloc (.cells #[.int .i64 py, .slice ya yss.length yc] 26)).alloc (.cells #[.int .i64 0, .slice none 0 0] 26)) (w.heap.size + 1) (.int .i64 py) (.slice ya yss.length yc) := by simpa using (C2.here (w.alloc (.cells #[.int .i64 px, .slice xa xss.length xc] 26)) (.int .i64 py) (.slice ya yss.length yc) 26).alloc (.cells #[.int .i64 0, .slice none 0 0] 26)
  have ko : C2 (((w.alloc (.cells #[.int .i64 px, .slice xa xss.length xc] 26)).alloc (.cells #[.int .i64 py, .slice ya yss.length yc] 26)).alloc (.cells #[.int .i64 0, .slice none 0 0] 26)) (w.heap.size + 2) (.int .i64 0) (.slice none 0 0) := by simpa using C2.here ((w.alloc (.cells #[.int .i64 px, .slice xa xss.length xc] 26)).alloc (.cells #[.int .i64 py, .slice ya yss.length yc] 26)) (.int .i64 0) (.slice none 0 0) 26
  have hL : Below w.heap.size w (((w.alloc (.cells #[.int .i64 px, .slice xa xss.length xc] 26)).alloc (.cells #[.int .i64 py, .slice ya yss.length yc] 26)).alloc (.cells #[.int .i64 0, .slice none 0 0] 26)) := (((Below.refl _ _).alloc (Nat.le_refl _) _).alloc (by simp) _).alloc (by simp; omega) _
  go_enter Try.func19, Try.ntmps19
  go_wp2_with fail
  refine (l02Is_b px _ xss _ (HX.out.keep (by go_grown)) D1.out).mono ?_
  rintro e w1 ⟨rfl, hb⟩
  have hL := chain (B := w.heap.size) (a := w) (by go_grown) (Nat.le_refl _) hb; replace kx := keepAt hb (show C2 _ w.heap.size (.int .i64 px) (.slice xa xss.length xc) from by (repeat' (first | (with_reducible assumption) | (with_reducible refine C2.drewX ?_) | (with_reducible refine C2.alloc ?_ _)))); replace ky := keepAt hb (show C2 _ (w.heap.size + 1) (.int .i64 py) (.slice ya yss.length yc) from by (repeat' (first | (with_reducible assumption) | (with_reducible refine C2.drewX ?_) | (with_reducible refine C2.alloc ?_ _)))); replace ko := keepAt hb (show C2 _ (w.heap.size + 2) (.int .i64 0) (.slice none 0 0) from by (repeat' (first | (with_reducible assumption) | (with_reducible refine C2.drewX ?_) | (with_reducible refine C2.alloc ?_ _))))
  clear hb
  go_wp2_with fail
  refine (l02Is_b py _ yss _ (HY.out.keep (by go_grown)) D2.out).mono ?_
  rintro e w2 ⟨rfl, hb⟩
  have hL := chain (B := w.heap.size) (a := w) (by go_grown) (Nat.le_refl _) hb; replace kx := keepAt hb (show C2 _ w.heap.size (.int .i64 px) (.slice xa xss.length xc) from by (repeat' (first | (with_reducible assumption) | (with_reducible refine C2.drewX ?_) | (with_reducible refine C2.alloc ?_ _)))); replace ky := keepAt hb (show C2 _ (w.heap.size + 1) (.int .i64 py) (.slice ya yss.length yc) from by (repeat' (first | (with_reducible assumption) | (with_reducible refine C2.drewX ?_) | (with_reducible refine C2.alloc ?_ _)))); replace ko := keepAt hb (show C2 _ (w.heap.size + 2) (.int .i64 0) (.slice none 0 0) from by (repeat' (first | (with_reducible assumption) | (with_reducible refine C2.drewX ?_) | (with_reducible refine C2.alloc ?_ _))))
  clear hb
  have hx1 : Hid (w.heap.size < w2.heap.size) := kx.2.2.2.2
  go_upto_region 6 with fail
  go_region_held3 (fun w' => C2 w' w.heap.size (.int .i64 px) (.slice xa xss.length xc) ∧ C2 w' (w.heap.size + 1) (.int .i64 py) (.slice ya yss.length yc))
    ((first | (refine ⟨?_, ?_⟩ <;> ((repeat' (first | (with_reducible assumption) | (with_reducible refine C2.drewX ?_) | (with_reducible refine C2.alloc ?_ _) | (with_reducible refine C2.set ?_ _ _ _ (by omega)))); done)) | ((repeat' (first | (with_reducible assumption) | (with_reducible refine C2.drewX ?_) | (with_reducible refine C2.alloc ?_ _) | (with_reducible refine C2.set ?_ _ _ _ (by omega)))); done)))
    (first | (go_at_call 47; (with_reducible refine (l02Numbers_any px _ _ _ 0 1 2 _ P1.out.1 P1.out.2 j1.out).mono ?_); rintro e w3 ⟨u1, rfl, hO, hb⟩; have hL := chain (B := w.heap.size) (a := w) (by go_grown) (Nat.le_refl _) hb; replace kx := keepAt hb (show C2 _ w.heap.size (.int .i64 px) (.slice xa xss.length xc) from by (repeat' (first | (with_reducible assumption) | (with_reducible refine C2.drewX ?_) | (with_reducible refine C2.alloc ?_ _)))); replace ky := keepAt hb (show C2 _ (w.heap.size + 1) (.int .i64 py) (.slice ya yss.length yc) from by (repeat' (first | (with_reducible assumption) | (with_reducible refine C2.drewX ?_) | (with_reducible refine C2.alloc ?_ _)))); replace ko := keepAt hb (show C2 _ (w.heap.size + 2) (.int .i64 0) (.slice none 0 0) from by (repeat' (first | (with_reducible assumption) | (with_reducible refine C2.drewX ?_) | (with_reducible refine C2.alloc ?_ _)))); have R1 := Lib.hid hO.reads; clear hb hO) | (go_at_call 47; (with_reducible refine (l02Numbers_any py _ _ _ 0 1 (px) _ P2.out.1 P2.out.2 j2.out).mono ?_); rintro e w4 ⟨u2, rfl, hO, hb⟩; have hL := chain (B := w.heap.size) (a := w) (by go_grown) (Nat.le_refl _) hb; replace kx := keepAt hb (show C2 _ w.heap.size (.int .i64 px) (.slice xa xss.length xc) from by (repeat' (first | (with_reducible assumption) | (with_reducible refine C2.drewX ?_) | (with_reducible refine C2.alloc ?_ _)))); replace ky := keepAt hb (show C2 _ (w.heap.size + 1) (.int .i64 py) (.slice ya yss.length yc) from by (repeat' (first | (with_reducible assumption) | (with_reducible refine C2.drewX ?_) | (with_reducible refine C2.alloc ?_ _)))); replace ko := keepAt hb (show C2 _ (w.heap.size + 2) (.int .i64 0) (.slice none 0 0) from by (repeat' (first | (with_reducible assumption) | (with_reducible refine C2.drewX ?_) | (with_reducible refine C2.alloc ?_ _)))); replace R1 := Lib.hid (R1.out.keep (by first | assumption | go_grown)); have R2 := Lib.hid hO.reads; clear hb hO) | (go_at_call 46; (with_reducible refine (l02Both_any (px + py - 2) px py _ _ _ _ xss yss (numL 0 1 2 px.toNat) (numL 0 1 (px) py.toNat) _ (HX.out.keep (by go_grown)) (HY.out.keep (by go_grown)) (R1.out.keep (by go_grown)) (R2.out.keep (by go_grown)) X12.out Y12.out C1.out C3.out).mono ?_); rintro e w5 ⟨sa, sc, rfl, hW, hb⟩; have hne : Hid ((Value.slice sa (xss.length + yss.length) sc).ownBlock ≠ some (w.heap.size + 2)) := fun e => (by have h1 := (rows1_own hW _ e).1; (repeat (first | rw [World.size_alloc] at h1 | rw [World.size_drew] at h1)); have h2 := ko.2.2.2.2; omega); have hL := chain (B := w.heap.size) (a := w) (by go_grown) (Nat.le_refl _) hb; replace kx := keepAt hb (show C2 _ w.heap.size (.int .i64 px) (.slice xa xss.length xc) from by (repeat' (first | (with_reducible assumption) | (with_reducible refine C2.drewX ?_) | (with_reducible refine C2.alloc ?_ _)))); replace ky := keepAt hb (show C2 _ (w.heap.size + 1) (.int .i64 py) (.slice ya yss.length yc) from by (repeat' (first | (with_reducible assumption) | (with_reducible refine C2.drewX ?_) | (with_reducible refine C2.alloc ?_ _)))); replace ko := keepAt hb (show C2 _ (w.heap.size + 2) (.int .i64 0) (.slice none 0 0) from by (repeat' (first | (with_reducible assumption) | (with_reducible refine C2.drewX ?_) | (with_reducible refine C2.alloc ?_ _)))); have RB := Lib.hid hW; clear hb hW))
  all_goals (replace RB := Lib.hid (show Rows1 w5 0 (.slice sa (xss.length + yss.length) sc) (sortL (xss.map (renC 0 1 2) ++ yss.map (renC 0 1 (px)))) from by have h := Rows1.monoR RB.out (Nat.zero_le _); rw [HM.out] at h; exact h))
  all_goals (have HF := Lib.hid (Rows1.reads2 ((RB.out.setFar (i := 0) (by omega) ko.2.1 hne.out (.int .i64 (px + py - 2))).setFar (i := 1) (Nat.le_refl 1) (ko.put0 (.int .i64 (px + py - 2))).2.1 hne.out (.slice sa (xss.length + yss.length) sc))))
  all_goals (have hN : (sortL (xss.map (renC 0 1 2) ++ yss.map (renC 0 1 (px)))).length = xss.length + yss.length := by rw [sortL_len, List.length_append, List.length_map, List.length_map])
  all_goals (have HNN := Lib.hid hN; clear hN)
  all_goals (have ko2 := (ko.put0 (.int .i64 (px + py - 2))).put1 (.slice sa (xss.length + yss.length) sc))
  all_goals (have hL4 := (hL.setCell (p := ⟨w.heap.size + 2, 0, none⟩) (by simp) (.int .i64 (px + py - 2))).setCell (p := ⟨w.heap.size + 2, 1, none⟩) (by simp) (.slice sa (xss.length + yss.length) sc))
  all_goals (clear RB hL)
  all_goals (go_wp2_with fail)
  all_goals (refine bodyPost_ret (v := .tuple #[.agg #[.int .i64 (px + py - 2), .slice sa (xss.length + yss.length) sc], .int .i64 0]) (by simp [results, Try.results19, go_sem, *]) rfl ?_)
  all_goals (exact ⟨sa, sc, rfl, HF.out, hL4⟩)

set_option maxRecDepth 100000 in
set_option maxHeartbeats 8000000 in
theorem iSideBySide_yes (px py : Int) (vx vy : Value) (xss yss : List (List Int)) (w : World) (hx : Reads2 w vx xss) (hy : Reads2 w vy yss) (h : Two (px + py - 2) px py xss yss) :
    Calls Try.prog 20 #[.agg #[.int .i64 px, vx], .agg #[.int .i64 py, vy]] w fun e w' => ∃ sa sc, e = .returned (.tuple #[.agg #[.int .i64 (px + py - 2), .slice sa (xss.length + yss.length) sc], .int .i64 0]) ∧ Own2 w' w.heap.size w'.heap.size (.slice sa (xss.length + yss.length) sc) (sortL (xss.map (renC 0 1 2) ++ yss.map (renC 0 1 (px)))) ∧ Below w.heap.size w w' := by
  have HX := Lib.hid hx
  have HY := Lib.hid hy
  obtain ⟨h1, h2, h3, h4⟩ := h
  have D1 : Hid (decide (Net px xss) = true) := decide_eq_true h1
  have D2 : Hid (decide (Net py yss) = true) := decide_eq_true h2
  have N1 := Lib.hid h1
  have N2 := Lib.hid h2
  have x2 : 2 ≤ px := h1.1
  have x8 : px ≤ 8 := h1.2.1
  have y2 : 2 ≤ py := h2.1
  have y8 : py ≤ 8 := h2.2.1
  have x12 : xss.length ≤ 12 := h1.2.2.1
  have y12 : yss.length ≤ 12 := h2.2.2.1
  have H3 := Lib.hid h3
  have HLL : Hid (xss.length + yss.length ≤ 12) := h4
  clear h1 h2 h3 h4
  obtain ⟨i0, hi, hz0, hz1, hz2⟩ := info_parts infoCon
  have j1 : Hid ((0 : Int) ≤ 2 ∧ (2 : Int) ≤ 100) := by unfold Hid; omega
  have j2 : Hid (0 ≤ px ∧ px ≤ 100) := by unfold Hid; omega
  have ja : Hid ((0 : Int) ≤ 0 ∧ (0 : Int) ≤ 100) := by unfold Hid; omega
  have jb : Hid ((0 : Int) ≤ 1 ∧ (1 : Int) ≤ 100) := by unfold Hid; omega
  have jc : Hid ((0 : Int) ≤ 0 ∧ (0 : Int) ≤ 100) := by unfold Hid; omega
  have jd : Hid ((0 : Int) ≤ 1 ∧ (1 : Int) ≤ 100) := by unfold Hid; omega
  have X12 := Lib.hid x12
  have Y12 := Lib.hid y12
  have LX : Hid ((xss.map (renC 0 1 2)).length ≤ 12) := by unfold Hid; rw [List.length_map]; exact x12
  have LY : Hid ((yss.map (renC 0 1 (px))).length ≤ 12) := by unfold Hid; rw [List.length_map]; exact y12
  have LL : Hid ((xss.map (renC 0 1 2) ++ yss.map (renC 0 1 (px))).length = xss.length + yss.length) := by unfold Hid; rw [List.length_append, List.length_map, List.length_map]
  have H4 : Hid (∀ c, c ∈ (xss.map (renC 0 1 2) ++ yss.map (renC 0 1 (px))) → c.length = 4) := fun c hc => by rcases List.mem_append.1 hc with h | h <;> exact renC_four c h
  obtain ⟨xa, xc, rfl, _, _⟩ := hx
  obtain ⟨ya, yc, rfl, _, _⟩ := hy
  have kx : C2 (((w.alloc (.cells #[.int .i64 px, .slice xa xss.length xc] 26)).alloc (.cells #[.int .i64 py, .slice ya yss.length yc] 26)).alloc (.cells #[.int .i64 0, .slice none 0 0] 26)) w.heap.size (.int .i64 px) (.slice xa xss.length xc) := by simpa using ((C2.here w (.int .i64 px) (.slice xa xss.length xc) 26).alloc (.cells #[.int .i64 py, .slice ya yss.length yc] 26)).alloc (.cells #[.int .i64 0, .slice none 0 0] 26)
  have ky : C2 (((w.alloc (.cells #[.int .i64 px, .slice xa xss.length xc] 26)).alloc (.cells #[.int .i64 py, .slice ya yss.length yc] 26)).alloc (.cells #[.int .i64 0, .slice none 0 0] 26)) (w.heap.size + 1) (.int .i64 py) (.slice ya yss.length yc) := by simpa using (C2.here (w.alloc (.cells #[.int .i64 px, .slice xa xss.length xc] 26)) (.int .i64 py) (.slice ya yss.length yc) 26).alloc (.cells #[.int .i64 0, .slice none 0 0] 26)
  have ko : C2 (((w.alloc (.cells #[.int .i64 px, .slice xa xss.length xc] 26)).alloc (.cells #[.int .i64 py, .slice ya yss.length yc] 26)).alloc (.cells #[.int .i64 0, .slice none 0 0] 26)) (w.heap.size + 2) (.int .i64 0) (.slice none 0 0) := by simpa using C2.here ((w.alloc (.cells #[.int .i64 px, .slice xa xss.length xc] 26)).alloc (.cells #[.int .i64 py, .slice ya yss.length yc] 26)) (.int .i64 0) (.slice none 0 0) 26
  have hL : Below w.heap.size w (((w.alloc (.cells #[.int .i64 px, .slice xa xss.length xc] 26)).alloc (.cells #[.int .i64 py, .slice ya yss.length yc] 26)).alloc (.cells #[.int .i64 0, .slice none 0 0] 26)) := (((Below.refl _ _).alloc (Nat.le_refl _) _).alloc (by simp) _).alloc (by simp; omega) _
  go_enter Try.func20, Try.ntmps20
  go_wp2_with fail
  refine (isNetwork_b px _ xss _ (HX.out.keep (by go_grown)) D1.out).mono ?_
  rintro e w1 ⟨rfl, hb⟩
  have hL := chain (B := w.heap.size) (a := w) (by go_grown) (Nat.le_refl _) hb; replace kx := keepAt hb (show C2 _ w.heap.size (.int .i64 px) (.slice xa xss.length xc) from by (repeat' (first | (with_reducible assumption) | (with_reducible refine C2.drewX ?_) | (with_reducible refine C2.alloc ?_ _)))); replace ky := keepAt hb (show C2 _ (w.heap.size + 1) (.int .i64 py) (.slice ya yss.length yc) from by (repeat' (first | (with_reducible assumption) | (with_reducible refine C2.drewX ?_) | (with_reducible refine C2.alloc ?_ _)))); replace ko := keepAt hb (show C2 _ (w.heap.size + 2) (.int .i64 0) (.slice none 0 0) from by (repeat' (first | (with_reducible assumption) | (with_reducible refine C2.drewX ?_) | (with_reducible refine C2.alloc ?_ _))))
  clear hb
  go_wp2_with fail
  refine (isNetwork_b py _ yss _ (HY.out.keep (by go_grown)) D2.out).mono ?_
  rintro e w2 ⟨rfl, hb⟩
  have hL := chain (B := w.heap.size) (a := w) (by go_grown) (Nat.le_refl _) hb; replace kx := keepAt hb (show C2 _ w.heap.size (.int .i64 px) (.slice xa xss.length xc) from by (repeat' (first | (with_reducible assumption) | (with_reducible refine C2.drewX ?_) | (with_reducible refine C2.alloc ?_ _)))); replace ky := keepAt hb (show C2 _ (w.heap.size + 1) (.int .i64 py) (.slice ya yss.length yc) from by (repeat' (first | (with_reducible assumption) | (with_reducible refine C2.drewX ?_) | (with_reducible refine C2.alloc ?_ _)))); replace ko := keepAt hb (show C2 _ (w.heap.size + 2) (.int .i64 0) (.slice none 0 0) from by (repeat' (first | (with_reducible assumption) | (with_reducible refine C2.drewX ?_) | (with_reducible refine C2.alloc ?_ _))))
  clear hb
  have hx1 : Hid (w.heap.size + 2 < w2.heap.size) := ko.2.2.2.2
  go_upto_region 3 with fail
  go_region_held3 (fun w' => C2 w' w.heap.size (.int .i64 px) (.slice xa xss.length xc) ∧ C2 w' (w.heap.size + 1) (.int .i64 py) (.slice ya yss.length yc))
    ((first | (refine ⟨?_, ?_⟩ <;> ((repeat' (first | (with_reducible assumption) | (with_reducible refine C2.drewX ?_) | (with_reducible refine C2.alloc ?_ _) | (with_reducible refine C2.set ?_ _ _ _ (by omega)))); done)) | ((repeat' (first | (with_reducible assumption) | (with_reducible refine C2.drewX ?_) | (with_reducible refine C2.alloc ?_ _) | (with_reducible refine C2.set ?_ _ _ _ (by omega)))); done)))
    (first | (go_at_call 51; (with_reducible refine (renumbered_any px _ xss 0 1 2 _ (HX.out.keep (by go_grown)) N1.out ja.out jb.out j1.out).mono ?_); rintro e w3 ⟨u1, rfl, O1, hb⟩; have hs3 := hb.size; (repeat (first | rw [World.size_alloc] at hs3 | rw [World.size_drew] at hs3 | rw [World.size_alloc] at O1 | rw [World.size_drew] at O1)); have hL := chain (B := w.heap.size) (a := w) (by go_grown) (Nat.le_refl _) hb; replace kx := keepAt hb (show C2 _ w.heap.size (.int .i64 px) (.slice xa xss.length xc) from by (repeat' (first | (with_reducible assumption) | (with_reducible refine C2.drewX ?_) | (with_reducible refine C2.alloc ?_ _)))); replace ky := keepAt hb (show C2 _ (w.heap.size + 1) (.int .i64 py) (.slice ya yss.length yc) from by (repeat' (first | (with_reducible assumption) | (with_reducible refine C2.drewX ?_) | (with_reducible refine C2.alloc ?_ _)))); replace ko := keepAt hb (show C2 _ (w.heap.size + 2) (.int .i64 0) (.slice none 0 0) from by (repeat' (first | (with_reducible assumption) | (with_reducible refine C2.drewX ?_) | (with_reducible refine C2.alloc ?_ _)))); clear hb) | (go_at_call 51; (with_reducible refine (renumbered_any py _ yss 0 1 (px) _ (HY.out.keep (by go_grown)) N2.out jc.out jd.out j2.out).mono ?_); rintro e w4 ⟨u2, rfl, O2, hb⟩; have hs4 := hb.size; (repeat (first | rw [World.size_alloc] at hs4 | rw [World.size_drew] at hs4 | rw [World.size_alloc] at O2 | rw [World.size_drew] at O2)); replace O1 := OwnsC.keep O1 (by first | assumption | go_grown); have hL := chain (B := w.heap.size) (a := w) (by go_grown) (Nat.le_refl _) hb; replace kx := keepAt hb (show C2 _ w.heap.size (.int .i64 px) (.slice xa xss.length xc) from by (repeat' (first | (with_reducible assumption) | (with_reducible refine C2.drewX ?_) | (with_reducible refine C2.alloc ?_ _)))); replace ky := keepAt hb (show C2 _ (w.heap.size + 1) (.int .i64 py) (.slice ya yss.length yc) from by (repeat' (first | (with_reducible assumption) | (with_reducible refine C2.drewX ?_) | (with_reducible refine C2.alloc ?_ _)))); replace ko := keepAt hb (show C2 _ (w.heap.size + 2) (.int .i64 0) (.slice none 0 0) from by (repeat' (first | (with_reducible assumption) | (with_reducible refine C2.drewX ?_) | (with_reducible refine C2.alloc ?_ _)))); clear hb) | (refine step_append_two (by rfl) _ _ 60 (by rfl) w2.heap.size w3.heap.size 69 i0 (.agg #[.int .i64 0, .int .i64 0, .int .i64 0, .int .i64 0]) 4 32 Try.underlying60 hi hz0 hz1 hz2 (by rfl) (by decide) u1 u2 _ _ _ _ (by rfl) (by rfl) O1 O2 (cellsC_one _ _ _) (by have := LX.out; have := LY.out; unfold maxLen; omega) (by have := LX.out; have := LY.out; omega) (by omega) ?_; intro u3 w5 hown hgrow hat; have kx5 := C2.grown kx hgrow (fun e => by have := (World.ownsRow.lt O1 _ e).1; have := hx1.out; omega); have ky5 := C2.grown ky hgrow (fun e => by have := (World.ownsRow.lt O1 _ e).1; have := hx1.out; omega); have ko5 := C2.grown ko hgrow (fun e => by have := (World.ownsRow.lt O1 _ e).1; have := hx1.out; omega); have hL5 := hL.grown hgrow (by have := hL.size; omega) (fun b e => by have := (World.ownsRow.lt O1 _ e).1; have := hx1.out; omega); have hs5 := hgrow.size; have OJ := Lib.hid (OwnsC.joined hown); replace kx := kx5; replace ky := ky5; replace ko := ko5; replace hL := hL5; clear kx5 ky5 ko5 hL5 hown hgrow hat O1 O2))
  all_goals (have hbase : Hid (w2.heap.size ≤ w5.heap.size) := by unfold Hid; omega)
  all_goals (clear hs3 hs4 hs5)
  all_goals (go_wp2_with fail)
  all_goals (refine (limits_ok (px + py - 2) _ _ w2.heap.size _ H3.out (by rw [LL.out]; exact HLL.out) H4.out hbase.out OJ.out).mono ?_)
  all_goals (rintro e w6 ⟨sa, sc, rfl, hW, hb⟩)
  all_goals (rw [LL.out] at hW)
  all_goals (replace ko := C2.lowB ko hb hx1.out)
  all_goals (have hL6 := Below.trans hL (Below.mono hb (by have := hx1.out; omega)))
  all_goals (have hs6 := hb.size)
  all_goals (have hb5 : w.heap.size + 2 < w5.heap.size := by have := hx1.out; have := hbase.out; omega)
  all_goals (have HO := Lib.hid (((hW.setCell ⟨w.heap.size + 2, 0, none⟩ (.int .i64 (px + py - 2)) hb5).setCell ⟨w.heap.size + 2, 1, none⟩ (.slice sa (xss.length + yss.length) sc) hb5).wide (show w.heap.size ≤ w5.heap.size by omega) (show w6.heap.size ≤ (((w6.setCell ⟨w.heap.size + 2, 0, none⟩ (.int .i64 (px + py - 2))).setCell ⟨w.heap.size + 2, 1, none⟩ (.slice sa (xss.length + yss.length) sc))).heap.size by rw [World.size_setCell, World.size_setCell]; exact Nat.le_refl _)))
  all_goals (have ko2 := (ko.put0 (.int .i64 (px + py - 2))).put1 (.slice sa (xss.length + yss.length) sc))
  all_goals (have hL7 := (hL6.setCell (p := ⟨w.heap.size + 2, 0, none⟩) (by simp) (.int .i64 (px + py - 2))).setCell (p := ⟨w.heap.size + 2, 1, none⟩) (by simp) (.slice sa (xss.length + yss.length) sc))
  all_goals (clear hW hb hL hL6 hs6)
  all_goals (rw [LL.out])
  all_goals (go_wp2_with fail)
  all_goals (refine bodyPost_ret (v := .tuple #[.agg #[.int .i64 (px + py - 2), .slice sa (xss.length + yss.length) sc], .int .i64 0]) (by simp [results, Try.results20, go_sem, *]) rfl ?_)
  all_goals (exact ⟨sa, sc, rfl, HO.out, hL7⟩)

set_option maxRecDepth 100000 in
set_option maxHeartbeats 8000000 in
theorem iSideBySide_lim (px py : Int) (vx vy : Value) (xss yss : List (List Int)) (w : World) (hx : Reads2 w vx xss) (hy : Reads2 w vy yss) (h1 : Net px xss) (h2 : Net py yss) (h3 : 8 < px + py - 2 ∨ 12 < xss.length + yss.length) :
    Calls Try.prog 20 #[.agg #[.int .i64 px, vx], .agg #[.int .i64 py, vy]] w fun e w' => e = .returned (.tuple #[.agg #[.int .i64 0, .slice none 0 0], .int .i64 3]) ∧ Below w.heap.size w w' := by
  have HX := Lib.hid hx
  have HY := Lib.hid hy
  have D1 : Hid (decide (Net px xss) = true) := decide_eq_true h1
  have D2 : Hid (decide (Net py yss) = true) := decide_eq_true h2
  have N1 := Lib.hid h1
  have N2 := Lib.hid h2
  have x2 : 2 ≤ px := h1.1
  have x8 : px ≤ 8 := h1.2.1
  have y2 : 2 ≤ py := h2.1
  have y8 : py ≤ 8 := h2.2.1
  have x12 : xss.length ≤ 12 := h1.2.2.1
  have y12 : yss.length ≤ 12 := h2.2.2.1
  have H3 := Lib.hid h3
  clear h1 h2 h3
  obtain ⟨i0, hi, hz0, hz1, hz2⟩ := info_parts infoCon
  have j1 : Hid ((0 : Int) ≤ 2 ∧ (2 : Int) ≤ 100) := by unfold Hid; omega
  have j2 : Hid (0 ≤ px ∧ px ≤ 100) := by unfold Hid; omega
  have ja : Hid ((0 : Int) ≤ 0 ∧ (0 : Int) ≤ 100) := by unfold Hid; omega
  have jb : Hid ((0 : Int) ≤ 1 ∧ (1 : Int) ≤ 100) := by unfold Hid; omega
  have jc : Hid ((0 : Int) ≤ 0 ∧ (0 : Int) ≤ 100) := by unfold Hid; omega
  have jd : Hid ((0 : Int) ≤ 1 ∧ (1 : Int) ≤ 100) := by unfold Hid; omega
  have X12 := Lib.hid x12
  have Y12 := Lib.hid y12
  have LX : Hid ((xss.map (renC 0 1 2)).length ≤ 12) := by unfold Hid; rw [List.length_map]; exact x12
  have LY : Hid ((yss.map (renC 0 1 (px))).length ≤ 12) := by unfold Hid; rw [List.length_map]; exact y12
  have LL : Hid ((xss.map (renC 0 1 2) ++ yss.map (renC 0 1 (px))).length = xss.length + yss.length) := by unfold Hid; rw [List.length_append, List.length_map, List.length_map]
  have H4 : Hid (∀ c, c ∈ (xss.map (renC 0 1 2) ++ yss.map (renC 0 1 (px))) → c.length = 4) := fun c hc => by rcases List.mem_append.1 hc with h | h <;> exact renC_four c h
  obtain ⟨xa, xc, rfl, _, _⟩ := hx
  obtain ⟨ya, yc, rfl, _, _⟩ := hy
  have kx : C2 (((w.alloc (.cells #[.int .i64 px, .slice xa xss.length xc] 26)).alloc (.cells #[.int .i64 py, .slice ya yss.length yc] 26)).alloc (.cells #[.int .i64 0, .slice none 0 0] 26)) w.heap.size (.int .i64 px) (.slice xa xss.length xc) := by simpa using ((C2.here w (.int .i64 px) (.slice xa xss.length xc) 26).alloc (.cells #[.int .i64 py, .slice ya yss.length yc] 26)).alloc (.cells #[.int .i64 0, .slice none 0 0] 26)
  have ky : C2 (((w.alloc (.cells #[.int .i64 px, .slice xa xss.length xc] 26)).alloc (.cells #[.int .i64 py, .slice ya yss.length yc] 26)).alloc (.cells #[.int .i64 0, .slice none 0 0] 26)) (w.heap.size + 1) (.int .i64 py) (.slice ya yss.length yc) := by simpa using (C2.here (w.alloc (.cells #[.int .i64 px, .slice xa xss.length xc] 26)) (.int .i64 py) (.slice ya yss.length yc) 26).alloc (.cells #[.int .i64 0, .slice none 0 0] 26)
  have ko : C2 (((w.alloc (.cells #[.int .i64 px, .slice xa xss.length xc] 26)).alloc (.cells #[.int .i64 py, .slice ya yss.length yc] 26)).alloc (.cells #[.int .i64 0, .slice none 0 0] 26)) (w.heap.size + 2) (.int .i64 0) (.slice none 0 0) := by simpa using C2.here ((w.alloc (.cells #[.int .i64 px, .slice xa xss.length xc] 26)).alloc (.cells #[.int .i64 py, .slice ya yss.length yc] 26)) (.int .i64 0) (.slice none 0 0) 26
  have hL : Below w.heap.size w (((w.alloc (.cells #[.int .i64 px, .slice xa xss.length xc] 26)).alloc (.cells #[.int .i64 py, .slice ya yss.length yc] 26)).alloc (.cells #[.int .i64 0, .slice none 0 0] 26)) := (((Below.refl _ _).alloc (Nat.le_refl _) _).alloc (by simp) _).alloc (by simp; omega) _
  go_enter Try.func20, Try.ntmps20
  go_wp2_with fail
  refine (isNetwork_b px _ xss _ (HX.out.keep (by go_grown)) D1.out).mono ?_
  rintro e w1 ⟨rfl, hb⟩
  have hL := chain (B := w.heap.size) (a := w) (by go_grown) (Nat.le_refl _) hb; replace kx := keepAt hb (show C2 _ w.heap.size (.int .i64 px) (.slice xa xss.length xc) from by (repeat' (first | (with_reducible assumption) | (with_reducible refine C2.drewX ?_) | (with_reducible refine C2.alloc ?_ _)))); replace ky := keepAt hb (show C2 _ (w.heap.size + 1) (.int .i64 py) (.slice ya yss.length yc) from by (repeat' (first | (with_reducible assumption) | (with_reducible refine C2.drewX ?_) | (with_reducible refine C2.alloc ?_ _)))); replace ko := keepAt hb (show C2 _ (w.heap.size + 2) (.int .i64 0) (.slice none 0 0) from by (repeat' (first | (with_reducible assumption) | (with_reducible refine C2.drewX ?_) | (with_reducible refine C2.alloc ?_ _))))
  clear hb
  go_wp2_with fail
  refine (isNetwork_b py _ yss _ (HY.out.keep (by go_grown)) D2.out).mono ?_
  rintro e w2 ⟨rfl, hb⟩
  have hL := chain (B := w.heap.size) (a := w) (by go_grown) (Nat.le_refl _) hb; replace kx := keepAt hb (show C2 _ w.heap.size (.int .i64 px) (.slice xa xss.length xc) from by (repeat' (first | (with_reducible assumption) | (with_reducible refine C2.drewX ?_) | (with_reducible refine C2.alloc ?_ _)))); replace ky := keepAt hb (show C2 _ (w.heap.size + 1) (.int .i64 py) (.slice ya yss.length yc) from by (repeat' (first | (with_reducible assumption) | (with_reducible refine C2.drewX ?_) | (with_reducible refine C2.alloc ?_ _)))); replace ko := keepAt hb (show C2 _ (w.heap.size + 2) (.int .i64 0) (.slice none 0 0) from by (repeat' (first | (with_reducible assumption) | (with_reducible refine C2.drewX ?_) | (with_reducible refine C2.alloc ?_ _))))
  clear hb
  have hx1 : Hid (w.heap.size + 2 < w2.heap.size) := ko.2.2.2.2
  go_upto_region 3 with fail
  go_region_held3 (fun w' => C2 w' w.heap.size (.int .i64 px) (.slice xa xss.length xc) ∧ C2 w' (w.heap.size + 1) (.int .i64 py) (.slice ya yss.length yc))
    ((first | (refine ⟨?_, ?_⟩ <;> ((repeat' (first | (with_reducible assumption) | (with_reducible refine C2.drewX ?_) | (with_reducible refine C2.alloc ?_ _) | (with_reducible refine C2.set ?_ _ _ _ (by omega)))); done)) | ((repeat' (first | (with_reducible assumption) | (with_reducible refine C2.drewX ?_) | (with_reducible refine C2.alloc ?_ _) | (with_reducible refine C2.set ?_ _ _ _ (by omega)))); done)))
    (first | (go_at_call 51; (with_reducible refine (renumbered_any px _ xss 0 1 2 _ (HX.out.keep (by go_grown)) N1.out ja.out jb.out j1.out).mono ?_); rintro e w3 ⟨u1, rfl, O1, hb⟩; have hs3 := hb.size; (repeat (first | rw [World.size_alloc] at hs3 | rw [World.size_drew] at hs3 | rw [World.size_alloc] at O1 | rw [World.size_drew] at O1)); have hL := chain (B := w.heap.size) (a := w) (by go_grown) (Nat.le_refl _) hb; replace kx := keepAt hb (show C2 _ w.heap.size (.int .i64 px) (.slice xa xss.length xc) from by (repeat' (first | (with_reducible assumption) | (with_reducible refine C2.drewX ?_) | (with_reducible refine C2.alloc ?_ _)))); replace ky := keepAt hb (show C2 _ (w.heap.size + 1) (.int .i64 py) (.slice ya yss.length yc) from by (repeat' (first | (with_reducible assumption) | (with_reducible refine C2.drewX ?_) | (with_reducible refine C2.alloc ?_ _)))); replace ko := keepAt hb (show C2 _ (w.heap.size + 2) (.int .i64 0) (.slice none 0 0) from by (repeat' (first | (with_reducible assumption) | (with_reducible refine C2.drewX ?_) | (with_reducible refine C2.alloc ?_ _)))); clear hb) | (go_at_call 51; (with_reducible refine (renumbered_any py _ yss 0 1 (px) _ (HY.out.keep (by go_grown)) N2.out jc.out jd.out j2.out).mono ?_); rintro e w4 ⟨u2, rfl, O2, hb⟩; have hs4 := hb.size; (repeat (first | rw [World.size_alloc] at hs4 | rw [World.size_drew] at hs4 | rw [World.size_alloc] at O2 | rw [World.size_drew] at O2)); replace O1 := OwnsC.keep O1 (by first | assumption | go_grown); have hL := chain (B := w.heap.size) (a := w) (by go_grown) (Nat.le_refl _) hb; replace kx := keepAt hb (show C2 _ w.heap.size (.int .i64 px) (.slice xa xss.length xc) from by (repeat' (first | (with_reducible assumption) | (with_reducible refine C2.drewX ?_) | (with_reducible refine C2.alloc ?_ _)))); replace ky := keepAt hb (show C2 _ (w.heap.size + 1) (.int .i64 py) (.slice ya yss.length yc) from by (repeat' (first | (with_reducible assumption) | (with_reducible refine C2.drewX ?_) | (with_reducible refine C2.alloc ?_ _)))); replace ko := keepAt hb (show C2 _ (w.heap.size + 2) (.int .i64 0) (.slice none 0 0) from by (repeat' (first | (with_reducible assumption) | (with_reducible refine C2.drewX ?_) | (with_reducible refine C2.alloc ?_ _)))); clear hb) | (refine step_append_two (by rfl) _ _ 60 (by rfl) w2.heap.size w3.heap.size 69 i0 (.agg #[.int .i64 0, .int .i64 0, .int .i64 0, .int .i64 0]) 4 32 Try.underlying60 hi hz0 hz1 hz2 (by rfl) (by decide) u1 u2 _ _ _ _ (by rfl) (by rfl) O1 O2 (cellsC_one _ _ _) (by have := LX.out; have := LY.out; unfold maxLen; omega) (by have := LX.out; have := LY.out; omega) (by omega) ?_; intro u3 w5 hown hgrow hat; have kx5 := C2.grown kx hgrow (fun e => by have := (World.ownsRow.lt O1 _ e).1; have := hx1.out; omega); have ky5 := C2.grown ky hgrow (fun e => by have := (World.ownsRow.lt O1 _ e).1; have := hx1.out; omega); have ko5 := C2.grown ko hgrow (fun e => by have := (World.ownsRow.lt O1 _ e).1; have := hx1.out; omega); have hL5 := hL.grown hgrow (by have := hL.size; omega) (fun b e => by have := (World.ownsRow.lt O1 _ e).1; have := hx1.out; omega); have hs5 := hgrow.size; have OJ := Lib.hid (OwnsC.joined hown); replace kx := kx5; replace ky := ky5; replace ko := ko5; replace hL := hL5; clear kx5 ky5 ko5 hL5 hown hgrow hat O1 O2))
  all_goals (have hbase : Hid (w2.heap.size ≤ w5.heap.size) := by unfold Hid; omega)
  all_goals (clear hs3 hs4 hs5)
  all_goals (go_wp2_with fail)
  all_goals (refine (limits_no (px + py - 2) _ _ w2.heap.size _ hbase.out OJ.out (by rw [LL.out]; exact H3.out)).mono ?_)
  all_goals (rintro e w6 ⟨rfl, hb⟩)
  all_goals (replace ko := C2.lowB ko hb hx1.out)
  all_goals (have hL6 := Below.trans hL (Below.mono hb (by have := hx1.out; omega)))
  all_goals (have ko2 := (ko.put0 (.int .i64 0)).put1 (.slice none 0 0))
  all_goals (have hL7 := (hL6.setCell (p := ⟨w.heap.size + 2, 0, none⟩) (by simp) (.int .i64 0)).setCell (p := ⟨w.heap.size + 2, 1, none⟩) (by simp) (.slice none 0 0))
  all_goals (clear hb hL hL6)
  all_goals (go_wp2_with fail)
  all_goals (refine bodyPost_ret (v := .tuple #[.agg #[.int .i64 0, .slice none 0 0], .int .i64 3]) (by simp [results, Try.results20, go_sem, *]) rfl ?_)
  all_goals (exact ⟨rfl, hL7⟩)

theorem iSideBySide_any (px : Int) (vx : Value) (xss : List (List Int)) (py : Int) (vy : Value) (yss : List (List Int)) (w : World) (hx : Reads2 w vx xss) (hy : Reads2 w vy yss) :
    Calls Try.prog 20 #[.agg #[.int .i64 px, vx], .agg #[.int .i64 py, vy]] w fun e w' => ∃ sa sc, e = .returned (.tuple #[.agg #[.int .i64 (resSideBySide_0p px xss py yss), .slice sa (resSideBySide_0 px xss py yss).length sc], .int .i64 (resSideBySide_1 px xss py yss)]) ∧ Own2 w' w.heap.size w'.heap.size (.slice sa (resSideBySide_0 px xss py yss).length sc) (resSideBySide_0 px xss py yss) ∧ Below w.heap.size w w' := by
  unfold resSideBySide_0 resSideBySide_0p resSideBySide_1 twoL twoP
  rcases two_cases (px + py - 2) px py xss yss with ⟨h1, h, hc⟩ | ⟨h1, h2, h, hc⟩ | ⟨h1, h2, h3, h, hc⟩ | ⟨h1, h2, h3, h4, h, hc⟩ | ⟨h, hc⟩
  · simp only [if_neg h, hc, List.length_nil]
    exact (iSideBySide_n1 px py vx vy xss yss w hx hy h1).mono fun e w' h => ⟨none, 0, h.1, own2_nil _ _ _, h.2⟩
  · simp only [if_neg h, hc, List.length_nil]
    exact (iSideBySide_n2 px py vx vy xss yss w hx hy h1 h2).mono fun e w' h => ⟨none, 0, h.1, own2_nil _ _ _, h.2⟩
  · simp only [if_neg h, hc, List.length_nil]
    exact (iSideBySide_lim px py vx vy xss yss w hx hy h1 h2 (.inl h3)).mono fun e w' h => ⟨none, 0, h.1, own2_nil _ _ _, h.2⟩
  · simp only [if_neg h, hc, List.length_nil]
    exact (iSideBySide_lim px py vx vy xss yss w hx hy h1 h2 (.inr h4)).mono fun e w' h => ⟨none, 0, h.1, own2_nil _ _ _, h.2⟩
  · simp only [if_pos h, hc, sortL_len, List.length_append, List.length_map]
    exact iSideBySide_yes px py vx vy xss yss w hx hy h
theorem sSideBySide_any (px : Int) (vx : Value) (xss : List (List Int)) (py : Int) (vy : Value) (yss : List (List Int)) (w : World) (hx : Reads2 w vx xss) (hy : Reads2 w vy yss) :
    Calls Try.prog 19 #[.agg #[.int .i64 px, vx], .agg #[.int .i64 py, vy]] w fun e w' => ∃ sa sc, e = .returned (.tuple #[.agg #[.int .i64 (resSideBySide_0p px xss py yss), .slice sa (resSideBySide_0 px xss py yss).length sc], .int .i64 (resSideBySide_1 px xss py yss)]) ∧ Reads2 w' (.slice sa (resSideBySide_0 px xss py yss).length sc) (resSideBySide_0 px xss py yss) ∧ Below w.heap.size w w' := by
  unfold resSideBySide_0 resSideBySide_0p resSideBySide_1 twoL twoP
  rcases two_cases (px + py - 2) px py xss yss with ⟨h1, h, hc⟩ | ⟨h1, h2, h, hc⟩ | ⟨h1, h2, h3, h, hc⟩ | ⟨h1, h2, h3, h4, h, hc⟩ | ⟨h, hc⟩
  · simp only [if_neg h, hc, List.length_nil]
    exact (sSideBySide_n1 px py vx vy xss yss w hx hy h1).mono fun e w' h => ⟨none, 0, h.1, reads2_nil _, h.2⟩
  · simp only [if_neg h, hc, List.length_nil]
    exact (sSideBySide_n2 px py vx vy xss yss w hx hy h1 h2).mono fun e w' h => ⟨none, 0, h.1, reads2_nil _, h.2⟩
  · simp only [if_neg h, hc, List.length_nil]
    exact (sSideBySide_l1 px py vx vy xss yss w hx hy h1 h2 h3).mono fun e w' h => ⟨none, 0, h.1, reads2_nil _, h.2⟩
  · simp only [if_neg h, hc, List.length_nil]
    exact (sSideBySide_l2 px py vx vy xss yss w hx hy h1 h2 h3 h4).mono fun e w' h => ⟨none, 0, h.1, reads2_nil _, h.2⟩
  · simp only [if_pos h, hc, sortL_len, List.length_append, List.length_map]
    exact sSideBySide_yes px py vx vy xss yss w hx hy h

end Go.Proofs.Ytnmjdphibphpnaa
