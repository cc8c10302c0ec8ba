/- TableOfWiring: the program's and the model's. -/
import Derived.Test.YtkdidplpnhokiaaTw
namespace Go.Proofs.Ytkdidplpnhokiaa
open Go.RowKit
set_option linter.unusedVariables false

def resTableOfWiring_0n (p : Int) (xs : List Int) (yss : List (List Int)) : Int := if wirB p xs yss = true then (xs.length : Int) else 0
noncomputable def resTableOfWiring_0m (p : Int) (xs : List Int) (yss : List (List Int)) : Int := if wirB p xs yss = true then tabZ xs yss (fun _ => false) else 0
def resTableOfWiring_1 (p : Int) (xs : List Int) (yss : List (List Int)) : Int := if wirB p xs yss = true then 0 else 1

set_option maxRecDepth 100000 in
set_option maxHeartbeats 1000000 in
theorem iTableOfWiring_any (v : Value) (p : Int) (xs : List Int) (yss : List (List Int)) (w : World) (ha : ReadsW w v p xs yss) :
    Calls Try.prog 32 #[v] w fun e w' => e = .returned (.tuple #[.agg #[.int .i64 (resTableOfWiring_0n p xs yss), .int .i64 (resTableOfWiring_0m p xs yss)], .int .i64 (resTableOfWiring_1 p xs yss)]) ∧ Below w.heap.size w w' := by
  unfold resTableOfWiring_0n resTableOfWiring_0m resTableOfWiring_1
  obtain ⟨d, hd⟩ : ∃ d, wirB p xs yss = d := ⟨_, rfl⟩
  have HW := Lib.hid (fun w' (h : Below w.heap.size w w') => isWiring_any v p xs yss w' (ha.keep h) hd)
  have ha' := ha
  obtain ⟨a, ca, b', cb, rfl, _, _⟩ := ha
  have h0 := (C3.here w (.int .i64 p) (.slice a xs.length ca) (.slice b' yss.length cb) 28).alloc (.cells #[.int .i64 0, .int .i64 0] 44)
  have k1 := C2.here (w.alloc (.cells #[.int .i64 p, .slice a xs.length ca, .slice b' yss.length cb] 28)) (.int .i64 0) (.int .i64 0) 44
  simp only [World.size_alloc] at k1
  rw [hd]
  cases d
  · clear hd ha'
    rw [if_neg (by simp), if_neg (by simp), if_neg (by simp)]
    generalize xs.length = n at *
    generalize yss.length = m at *
    go_enter Try.func32, Try.ntmps32
    go_wp2_with (go_at_call 18; (with_reducible refine (HW.out _ (by go_grown)).mono ?_); rintro e w2 ⟨rfl, hb⟩; have hL := chain (B := w.heap.size) (a := w) (by go_grown) (Nat.le_refl _) hb; replace h0 := keepAt3 hb h0; replace k1 := keepAt hb k1; clear hb)
    refine bodyPost_ret (v := .tuple #[.agg #[.int .i64 0, .int .i64 0], .int .i64 1]) (by simp [results, Try.results32, go_sem, *]) rfl ?_
    exact ⟨rfl, by go_grown⟩
  · have hw := (wirB_out hd).weak
    obtain ⟨z, hz⟩ : ∃ z, tabZ xs yss (fun _ => false) = z := ⟨_, rfl⟩
    have HT := Lib.hid (fun w' (h : Below w.heap.size w w') => tableWithout_zero _ p xs yss w' (ha'.keep h) hw hz)
    rw [if_pos rfl, if_pos rfl, if_pos rfl, hz]
    clear hd ha' hw hz
    generalize xs.length = n at *
    generalize yss.length = m at *
    go_enter Try.func32, Try.ntmps32
    go_wp2_with (first | (go_at_call 18; (with_reducible refine (HW.out _ (by go_grown)).mono ?_); rintro e w2 ⟨rfl, hb⟩; have hL := chain (B := w.heap.size) (a := w) (by go_grown) (Nat.le_refl _) hb; replace h0 := keepAt3 hb h0; replace k1 := keepAt hb k1; clear hb) | (go_at_call 82; (with_reducible refine (HT.out _ hL).mono ?_); rintro e w3 ⟨rfl, hb⟩; replace hL := chain (B := w.heap.size) (a := w) hL (Nat.le_refl _) hb; replace h0 := keepAt3 hb h0; replace k1 := keepAt hb k1; clear hb))
    refine bodyPost_ret (v := .tuple #[.agg #[.int .i64 (n : Int), .int .i64 z], .int .i64 0]) (by simp [results, Try.results32, go_sem, *]) rfl ?_
    exact ⟨rfl, by go_grown⟩

set_option maxRecDepth 100000 in
set_option maxHeartbeats 1000000 in
theorem sTableOfWiring_any (v : Value) (p : Int) (xs : List Int) (yss : List (List Int)) (w : World) (ha : ReadsW w v p xs yss) :
    Calls Try.prog 31 #[v] w fun e w' => e = .returned (.tuple #[.agg #[.int .i64 (resTableOfWiring_0n p xs yss), .int .i64 (resTableOfWiring_0m p xs yss)], .int .i64 (resTableOfWiring_1 p xs yss)]) ∧ Below w.heap.size w w' := by
  unfold resTableOfWiring_0n resTableOfWiring_0m resTableOfWiring_1
  obtain ⟨d, hd⟩ : ∃ d, wirB p xs yss = d := ⟨_, rfl⟩
  have HW := Lib.hid (fun w' (h : Below w.heap.size w w') => l10Is_any v p xs yss w' (ha.keep h) hd)
  have ha' := ha
  obtain ⟨a, ca, b', cb, rfl, _, _⟩ := ha
  have h0 := (C3.here w (.int .i64 p) (.slice a xs.length ca) (.slice b' yss.length cb) 28).alloc (.cells #[.int .i64 0, .int .i64 0] 44)
  have k1 := C2.here (w.alloc (.cells #[.int .i64 p, .slice a xs.length ca, .slice b' yss.length cb] 28)) (.int .i64 0) (.int .i64 0) 44
  simp only [World.size_alloc] at k1
  rw [hd]
  cases d
  · clear hd ha'
    rw [if_neg (by simp), if_neg (by simp), if_neg (by simp)]
    generalize xs.length = n at *
    generalize yss.length = m at *
    go_enter Try.func31, Try.ntmps31
    go_wp2_with (go_at_call 56; (with_reducible refine (HW.out _ (by go_grown)).mono ?_); rintro e w2 ⟨rfl, hb⟩; have hL := chain (B := w.heap.size) (a := w) (by go_grown) (Nat.le_refl _) hb; replace h0 := keepAt3 hb h0; replace k1 := keepAt hb k1; clear hb)
    refine bodyPost_ret (v := .tuple #[.agg #[.int .i64 0, .int .i64 0], .int .i64 1]) (by simp [results, Try.results31, go_sem, *]) rfl ?_
    exact ⟨rfl, by go_grown⟩
  · have hw := (wirB_out hd).weak
    obtain ⟨z, hz⟩ : ∃ z, tabZ xs yss (fun _ => false) = z := ⟨_, rfl⟩
    have HT := Lib.hid (fun w' (h : Below w.heap.size w w') => l10Table_any _ p xs yss w' (ha'.keep h) hw hz)
    rw [if_pos rfl, if_pos rfl, if_pos rfl, hz]
    clear hd ha' hw hz
    generalize xs.length = n at *
    generalize yss.length = m at *
    go_enter Try.func31, Try.ntmps31
    go_wp2_with (first | (go_at_call 56; (with_reducible refine (HW.out _ (by go_grown)).mono ?_); rintro e w2 ⟨rfl, hb⟩; have hL := chain (B := w.heap.size) (a := w) (by go_grown) (Nat.le_refl _) hb; replace h0 := keepAt3 hb h0; replace k1 := keepAt hb k1; clear hb) | (go_at_call 81; (with_reducible refine (HT.out _ hL).mono ?_); rintro e w3 ⟨rfl, hb⟩; replace hL := chain (B := w.heap.size) (a := w) hL (Nat.le_refl _) hb; replace h0 := keepAt3 hb h0; replace k1 := keepAt hb k1; clear hb))
    refine bodyPost_ret (v := .tuple #[.agg #[.int .i64 (n : Int), .int .i64 z], .int .i64 0]) (by simp [results, Try.results31, go_sem, *]) rfl ?_
    exact ⟨rfl, by go_grown⟩

end Go.Proofs.Ytkdidplpnhokiaa
