/- BreakWire: the model's. -/
import Derived.Test.YtkdidplpnhokiaaBri
namespace Go.Proofs.Ytkdidplpnhokiaa
open Go.RowKit
set_option linter.unusedVariables false

set_option maxRecDepth 100000 in
set_option maxHeartbeats 4000000 in
theorem sBreakWire_any (v : Value) (p : Int) (xs : List Int) (yss : List (List Int)) (x : Int) (w : World) (ha : ReadsW w v p xs yss) :
    Calls Try.prog 38 #[v, .int .i64 x] w fun e w' => ∃ sa sc sb sd, e = .returned (.tuple #[.agg #[.int .i64 (resBreakWire_0p p xs yss x), .slice sa (resBreakWire_0 p xs yss x).length sc, .slice sb (resBreakWire_0o p xs yss x).length sd], .int .i64 (resBreakWire_1 p xs yss x)]) ∧
      ReadsW w' (.agg #[.int .i64 (resBreakWire_0p p xs yss x), .slice sa (resBreakWire_0 p xs yss x).length sc, .slice sb (resBreakWire_0o p xs yss x).length sd]) (resBreakWire_0p p xs yss x) (resBreakWire_0 p xs yss x) (resBreakWire_0o p xs yss x) ∧ Below w.heap.size w w' := by
  unfold resBreakWire_0p resBreakWire_0 resBreakWire_0o resBreakWire_1
  obtain ⟨d, hd⟩ : ∃ d, wirB p xs yss = d := ⟨_, rfl⟩
  have HW := Lib.hid (fun w' (h : Below w.heap.size w w') => l10Is_any v p xs yss w' (ha.keep h) hd)
  have ha' := ha
  obtain ⟨a, ca, b', cb, rfl, hr1, hr2⟩ := ha
  have h0 := (C3.here w (.int .i64 p) (.slice a xs.length ca) (.slice b' yss.length cb) 28).alloc (.cells #[.int .i64 0, .slice none 0 0, .slice none 0 0] 28)
  have j1 := C3.here (w.alloc (.cells #[.int .i64 p, .slice a xs.length ca, .slice b' yss.length cb] 28)) (.int .i64 0) (.slice none 0 0) (.slice none 0 0) 28
  rw [World.size_alloc] at j1
  have HZ : Hid (∀ w' : World, ReadsW w' (.agg #[.int .i64 0, .slice none ([] : List Int).length 0, .slice none ([] : List (List Int)).length 0]) 0 [] []) := fun w' =>
    ReadsW.of (Owns.reads (base := w'.heap.size) (World.ownsRow_nil _ _ _ _)) (own2Nil w' 0 0).reads
  obtain ⟨c, hc⟩ : ∃ c, brkC p xs yss x = c := ⟨_, rfl⟩
  have hml : (yss.length : Int) ≤ 9223372036854775807 := by obtain ⟨_, _, _, hm, _⟩ := hr2; unfold maxLen at hm; omega
  have hw1 : IntKind.i64.wrap ((yss.length : Int) - 1) = (yss.length : Int) - 1 := IntWalk.i64_in _ (by omega)
  rw [hc]
  cases d
  · have e : c = 1 := by rw [← hc]; unfold brkC; rw [hd]; rfl
    subst e
    clear hd hr1 hr2 hc ha'
    rw [if_neg (by decide), if_neg (by decide), if_neg (by decide)]
    generalize xs.length = n at *
    generalize yss.length = m at *
    go_enter Try.func38, Try.ntmps38
    go_wp2_with ((go_at_call 56; (with_reducible refine (HW.out _ (by go_grown)).mono ?_); rintro e w' ⟨rfl, hb⟩; have hL := chain (B := w.heap.size) (a := w) (by go_grown) (Nat.le_refl _) hb; (first | replace h0 := keepAt3 hb h0 | replace h0 := keepAt3 hb (C3.alloc h0 _)); replace j1 := keepAt3 hb j1; clear hb))
    have k3 := j1.fill (.int .i64 0) (.slice none 0 0) (.slice none 0 0)
    have hLf : Below w.heap.size w (((w'.setCell ⟨w.heap.size + 1, 0, none⟩ (.int .i64 0)).setCell ⟨w.heap.size + 1, 1, none⟩ (.slice none 0 0)).setCell ⟨w.heap.size + 1, 2, none⟩ (.slice none 0 0)) := by go_grown
    obtain ⟨⟨c0, c1, c2⟩, _⟩ := k3
    clear j1 h0
    generalize (((w'.setCell ⟨w.heap.size + 1, 0, none⟩ (.int .i64 0)).setCell ⟨w.heap.size + 1, 1, none⟩ (.slice none 0 0)).setCell ⟨w.heap.size + 1, 2, none⟩ (.slice none 0 0)) = wf at *
    refine bodyPost_ret (v := .tuple #[.agg #[.int .i64 0, .slice none 0 0, .slice none 0 0], .int .i64 1]) (by simp [results, Try.results38, go_sem, *]) rfl ?_
    exact ⟨none, 0, none, 0, rfl, HZ.out _, hLf⟩
  · have hw := wirB_out hd
    by_cases hx : 0 ≤ x ∧ x < (yss.length : Int)
    · have e : c = 0 := by rw [← hc]; unfold brkC; rw [if_pos hd, if_pos hx]
      subst e
      rw [if_pos rfl, if_pos rfl, if_pos rfl]
      obtain ⟨i, rfl⟩ := Int.eq_ofNat_of_zero_le hx.1
      have hi : i < yss.length := by omega
      rw [Int.toNat_natCast]
      have HB := Lib.hid (fun w => l01In_yes (i : Int) 0 ((yss.length : Int) - 1) w (by omega))
      have HWO : Hid (∀ w', Below w.heap.size w w' → Calls Try.prog 91 #[.agg #[.int .i64 p, .slice a xs.length ca, .slice b' yss.length cb], .int .i64 (i : Int)] w' fun e w'' => ∃ ua uc ub ud, e = .returned (.agg #[.int .i64 p, .slice ua xs.length uc, .slice ub (yss.eraseIdx i).length ud]) ∧ FarW w'.heap.size w'' (.agg #[.int .i64 p, .slice ua xs.length uc, .slice ub (yss.eraseIdx i).length ud]) p xs (yss.eraseIdx i) ∧ Below w'.heap.size w' w'') := fun w' h => by
        refine (l10Without_any _ p xs yss i w' (ha'.keep h) hw.weak hi).mono ?_
        rintro e w'' ⟨u, rfl, hf, hb⟩
        obtain ⟨ua, uc, ub, ud, rfl, _, _⟩ := id hf.reads
        exact ⟨ua, uc, ub, ud, rfl, hf, hb⟩
      clear hd hr1 hr2 hc hx hw ha' hi
      generalize xs.length = n at *
      generalize yss.length = m at *
      go_enter Try.func38, Try.ntmps38
      go_wp2_with (first | (go_at_call 56; (with_reducible refine (HW.out _ (by go_grown)).mono ?_); rintro e w' ⟨rfl, hb⟩; have hL := chain (B := w.heap.size) (a := w) (by go_grown) (Nat.le_refl _) hb; (first | replace h0 := keepAt3 hb h0 | replace h0 := keepAt3 hb (C3.alloc h0 _)); replace j1 := keepAt3 hb j1; clear hb) | (go_at_call 65; (with_reducible refine (HB.out _).mono ?_); rintro e w' ⟨rfl, rfl⟩))
      refine (HWO.out _ hL).mono ?_
      rintro e w6 ⟨ua, uc, ub, ud, rfl, hf, hb6⟩
      have hL6 := chain (B := w.heap.size) (a := w) hL (Nat.le_refl _) hb6
      have j16 := keepAt3 hb6 j1
      have hj := j1.2.2
      have HF6 := Lib.hid hf
      clear hf hb6 h0 hL
      go_wp2_with fail
      have k3 := j16.fill (.int .i64 p) (.slice ua n uc) (.slice ub (yss.eraseIdx i).length ud)
      have hLf : Below w.heap.size w (((w6.setCell ⟨w.heap.size + 1, 0, none⟩ (.int .i64 p)).setCell ⟨w.heap.size + 1, 1, none⟩ (.slice ua n uc)).setCell ⟨w.heap.size + 1, 2, none⟩ (.slice ub (yss.eraseIdx i).length ud)) := by go_grown
      have HF := Lib.hid (((HF6.out.set (w.heap.size + 1) 0 (.int .i64 p) (by omega)).set (w.heap.size + 1) 1 (.slice ua n uc) (by omega)).set (w.heap.size + 1) 2 (.slice ub (yss.eraseIdx i).length ud) (by omega)).reads
      obtain ⟨⟨c0, c1, c2⟩, _⟩ := k3
      clear j16 j1 HF6
      generalize (((w6.setCell ⟨w.heap.size + 1, 0, none⟩ (.int .i64 p)).setCell ⟨w.heap.size + 1, 1, none⟩ (.slice ua n uc)).setCell ⟨w.heap.size + 1, 2, none⟩ (.slice ub (yss.eraseIdx i).length ud)) = wf at *
      refine bodyPost_ret (v := .tuple #[.agg #[.int .i64 p, .slice ua n uc, .slice ub (yss.eraseIdx i).length ud], .int .i64 0]) (by simp [results, Try.results38, go_sem, *]) rfl ?_
      exact ⟨ua, uc, ub, ud, rfl, HF.out, hLf⟩
    · have e : c = 2 := by rw [← hc]; unfold brkC; rw [if_pos hd, if_neg hx]
      subst e
      rw [if_neg (by decide), if_neg (by decide), if_neg (by decide)]
      have HB := Lib.hid (fun w => l01In_no x 0 ((yss.length : Int) - 1) w (by omega))
      clear hd hr1 hr2 hc hx hw ha'
      generalize xs.length = n at *
      generalize yss.length = m at *
      go_enter Try.func38, Try.ntmps38
      go_wp2_with (first | (go_at_call 56; (with_reducible refine (HW.out _ (by go_grown)).mono ?_); rintro e w' ⟨rfl, hb⟩; have hL := chain (B := w.heap.size) (a := w) (by go_grown) (Nat.le_refl _) hb; (first | replace h0 := keepAt3 hb h0 | replace h0 := keepAt3 hb (C3.alloc h0 _)); replace j1 := keepAt3 hb j1; clear hb) | (go_at_call 65; (with_reducible refine (HB.out _).mono ?_); rintro e w' ⟨rfl, rfl⟩))
      have k3 := j1.fill (.int .i64 0) (.slice none 0 0) (.slice none 0 0)
      have hLf : Below w.heap.size w (((w'.setCell ⟨w.heap.size + 1, 0, none⟩ (.int .i64 0)).setCell ⟨w.heap.size + 1, 1, none⟩ (.slice none 0 0)).setCell ⟨w.heap.size + 1, 2, none⟩ (.slice none 0 0)) := by go_grown
      obtain ⟨⟨c0, c1, c2⟩, _⟩ := k3
      clear j1 h0
      generalize (((w'.setCell ⟨w.heap.size + 1, 0, none⟩ (.int .i64 0)).setCell ⟨w.heap.size + 1, 1, none⟩ (.slice none 0 0)).setCell ⟨w.heap.size + 1, 2, none⟩ (.slice none 0 0)) = wf at *
      refine bodyPost_ret (v := .tuple #[.agg #[.int .i64 0, .slice none 0 0, .slice none 0 0], .int .i64 2]) (by simp [results, Try.results38, go_sem, *]) rfl ?_
      exact ⟨none, 0, none, 0, rfl, HZ.out _, hLf⟩

end Go.Proofs.Ytkdidplpnhokiaa
