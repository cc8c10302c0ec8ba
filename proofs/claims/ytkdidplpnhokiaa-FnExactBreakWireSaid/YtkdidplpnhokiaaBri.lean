/- BreakWire: the program's, the model's. -/
import Derived.Test.YtkdidplpnhokiaaBrw
namespace Go.Proofs.Ytkdidplpnhokiaa
open Go.RowKit
set_option linter.unusedVariables false

/-- the rows' values of a slice of slices that came in -/
theorem rows_vals {w : World} {b' : Option Addr} {n cb : Nat} {yss : List (List Int)} (h : Reads2 w (.slice b' n cb) yss) (h2 : ∀ i, i < yss.length → (yss.getD i []).length = 2) (h0 : 0 < yss.length) :
    ∃ sa off vs, b' = some ⟨sa, off, none⟩ ∧ vs.length = yss.length ∧ (∀ j x, vs[j]? = some x → w.cell? ⟨sa, off + j, none⟩ = some x) ∧ ∀ X, (∀ b, X = some b → w.heap.size ≤ b) → Rws w X vs yss := by
  obtain ⟨a, ca, e, hm, h⟩ := h
  simp only [Value.slice.injEq] at e
  obtain ⟨rfl, rfl, rfl⟩ := e
  rcases h with rfl | ⟨b, off, rfl, h⟩
  · simp at h0
  · have hch : ∀ i : Fin yss.length, ∃ u, w.cell? ⟨b, off + i.1, none⟩ = some u ∧ Reads w u (yss.getD i.1 []) := fun i => h i.1 i.2
    refine ⟨b, off, List.ofFn fun i => Classical.choose (hch i), rfl, by simp, fun j x hj => ?_, fun X hX => ⟨by simp, fun i hi => ?_⟩⟩
    · rw [List.getElem?_ofFn] at hj
      split at hj
      · rename_i hlt
        injection hj with hj
        subst hj
        exact (Classical.choose_spec (hch ⟨j, hlt⟩)).1
      · cases hj
    · refine ⟨Classical.choose (hch ⟨i, hi⟩), by rw [List.getElem?_ofFn, dif_pos hi], R2.of (Classical.choose_spec (hch ⟨i, hi⟩)).2 (h2 i hi) hX⟩

theorem OwnW.turn {w w' : World} {B C : Nat} {v : Value} {p : Int} {xs : List Int} {yss : List (List Int)} (h : OwnW w B C v p xs yss) (hh : ∀ b, B ≤ b → w'.heap[b]? = w.heap[b]?) : OwnW w' B C v p xs yss := by
  obtain ⟨a, ca, b, cb, M, rfl, hB, hC, h1, h2⟩ := h
  exact ⟨a, ca, b, cb, M, rfl, hB, hC, ⟨rowSame h1.1 fun k hk _ => hh k hk, h1.2⟩, h2.same fun k hk _ _ => hh k (by omega)⟩

set_option maxRecDepth 100000 in
set_option maxHeartbeats 4000000 in
theorem iBreakWire_any (v : Value) (p : Int) (xs : List Int) (yss : List (List Int)) (x : Int) (w : World) (haF : ReadsWF w v p xs yss) :
    Calls Try.prog 39 #[v, .int .i64 x] w fun e w' => ∃ sa sc sb sd, e = .returned (.tuple #[.agg #[.int .i64 (resBreakWire_0p p xs yss x), .slice sa (resBreakWire_0 p xs yss x).length sc, .slice sb (resBreakWire_0o p xs yss x).length sd], .int .i64 (resBreakWire_1 p xs yss x)]) ∧
      OwnW w' w.heap.size w'.heap.size (.agg #[.int .i64 (resBreakWire_0p p xs yss x), .slice sa (resBreakWire_0 p xs yss x).length sc, .slice sb (resBreakWire_0o p xs yss x).length sd]) (resBreakWire_0p p xs yss x) (resBreakWire_0 p xs yss x) (resBreakWire_0o p xs yss x) ∧ Below w.heap.size w w' := by
  unfold resBreakWire_0p resBreakWire_0 resBreakWire_0o resBreakWire_1
  obtain ⟨ha, hcap⟩ := haF
  obtain ⟨d, hd⟩ : ∃ d, wirB p xs yss = d := ⟨_, rfl⟩
  have HW := Lib.hid (fun w' (h : Below w.heap.size w w') => isWiring_any v p xs yss w' (ha.keep h) hd)
  obtain ⟨a, ca, b', cb, rfl, hr1, hr2⟩ := ha
  have hcb := hcap _ _ _ _ _ _ _ rfl
  have h0 := (C3.here w (.int .i64 p) (.slice a xs.length ca) (.slice b' yss.length cb) 28).alloc (.cells #[.int .i64 0, .slice none 0 0, .slice none 0 0] 28)
  have j1 := C3.here (w.alloc (.cells #[.int .i64 p, .slice a xs.length ca, .slice b' yss.length cb] 28)) (.int .i64 0) (.slice none 0 0) (.slice none 0 0) 28
  rw [World.size_alloc] at j1
  have hZ : ∀ w' : World, w.heap.size ≤ w'.heap.size → OwnW w' w.heap.size w'.heap.size (.agg #[.int .i64 0, .slice none ([] : List Int).length 0, .slice none ([] : List (List Int)).length 0]) 0 [] [] := fun w' h =>
    ⟨none, 0, none, 0, w.heap.size, rfl, Nat.le_refl _, h, ⟨World.ownsRow_nil _ _ _ _, fun b e => by simp [Value.ownBlock] at e⟩, own2Nil _ _ _⟩
  have HZ := Lib.hid hZ
  clear hZ hcap
  obtain ⟨c, hc⟩ : ∃ c, brkC p xs yss x = c := ⟨_, rfl⟩
  rw [hc]
  cases d
  · have e : c = 1 := by rw [← hc]; unfold brkC; rw [hd]; rfl
    subst e
    clear hd hr1 hr2 hcb hc
    rw [if_neg (by decide), if_neg (by decide), if_neg (by decide)]
    generalize xs.length = n at *
    generalize yss.length = m at *
    go_enter Try.func39, Try.ntmps39
    go_wp2_with ((go_at_call 18; (with_reducible refine (HW.out _ (by go_grown)).mono ?_); rintro e w' ⟨rfl, hb⟩; have hL := chain (B := w.heap.size) (a := w) (by go_grown) (Nat.le_refl _) hb; (first | replace h0 := keepAt3 hb h0 | replace h0 := keepAt3 hb (C3.alloc h0 _)); replace j1 := keepAt3 hb j1; clear hb))
    have k3 := j1.fill (.int .i64 0) (.slice none 0 0) (.slice none 0 0)
    have hLf : Below w.heap.size w (((w'.setCell ⟨w.heap.size + 1, 0, none⟩ (.int .i64 0)).setCell ⟨w.heap.size + 1, 1, none⟩ (.slice none 0 0)).setCell ⟨w.heap.size + 1, 2, none⟩ (.slice none 0 0)) := by go_grown
    have HF := Lib.hid (HZ.out _ hLf.size)
    obtain ⟨⟨c0, c1, c2⟩, _⟩ := k3
    clear j1 h0
    generalize (((w'.setCell ⟨w.heap.size + 1, 0, none⟩ (.int .i64 0)).setCell ⟨w.heap.size + 1, 1, none⟩ (.slice none 0 0)).setCell ⟨w.heap.size + 1, 2, none⟩ (.slice none 0 0)) = wf at *
    refine bodyPost_ret (v := .tuple #[.agg #[.int .i64 0, .slice none 0 0, .slice none 0 0], .int .i64 1]) (by simp [results, Try.results39, go_sem, *]) rfl ?_
    exact ⟨none, 0, none, 0, rfl, HF.out, hLf⟩
  · have hw := wirB_out hd
    by_cases hx : 0 ≤ x ∧ x < (yss.length : Int)
    · have e : c = 0 := by rw [← hc]; unfold brkC; rw [if_pos hd, if_pos hx]
      subst e
      rw [if_pos rfl, if_pos rfl, if_pos rfl]
      obtain ⟨i, rfl⟩ := Int.eq_ofNat_of_zero_le hx.1
      have hi : i < yss.length := by omega
      rw [Int.toNat_natCast]
      have HB := Lib.hid (fun w => isBelow_yes (i : Int) (yss.length : Int) w hx)
      have h2 := hw.weak.two
      obtain ⟨sa, off, vs, rfl, hvl, hvc, hvr⟩ := rows_vals hr2 h2 (by omega)
      have h16 := hw.2.2.1
      have HSW := Lib.hid hr1
      have HWO : Hid (∀ W u', Reads2 W u' (yss.eraseIdx i) → Below w.heap.size w W → Calls Try.prog 68 #[.slice a xs.length ca, u'] W fun e w' => ∃ ua uc ub ud, e = .returned (.agg #[.int .i64 p, .slice ua xs.length uc, .slice ub (yss.eraseIdx i).length ud]) ∧ OwnW w' W.heap.size w'.heap.size (.agg #[.int .i64 p, .slice ua xs.length uc, .slice ub (yss.eraseIdx i).length ud]) p xs (yss.eraseIdx i) ∧ Below W.heap.size W w') := fun W u' hu hb => by
        refine (wiringOf_any _ u' xs (yss.eraseIdx i) W (hr1.keep hb) hu hw.1 (by rw [len_erase hi]; omega) ((wir_order hw).erase hi) hw.2.1.symm).mono ?_
        rintro e w' ⟨u, rfl, ho, hb⟩
        obtain ⟨ua, uc, ub, ud, rfl, _, _⟩ := id ho.reads
        exact ⟨ua, uc, ub, ud, rfl, ho, hb⟩
      have HCC : Hid (∀ W bq c1 a2 n2 c2, Below w.heap.size w W → W.cell? ⟨bq, 0, none⟩ = some (.slice (some ⟨sa, off, none⟩) i c1) → W.cell? ⟨bq, 1, none⟩ = some (.slice a2 n2 c2) → (a2 = some ⟨sa, off + (i + 1), none⟩ ∨ yss.length = i + 1) → n2 = yss.length - (i + 1) → Calls Try.prog 92 #[.slice (some ⟨bq, 0, none⟩) 2 2] W fun e w' => ∃ u, e = .returned u ∧ Reads2 w' u (yss.eraseIdx i) ∧ Below W.heap.size W w') := fun W bq c1 a2 n2 c2 hb hc0 hc1 ha2 hn2 => by
        rw [List.eraseIdx_eq_take_drop_succ]
        have hz := hb.size
        refine (concat_any bq (some ⟨sa, off, none⟩) a2 i c1 n2 c2 (vs.take i) (vs.drop (i + 1)) (yss.take i) (yss.drop (i + 1)) W hc0 hc1 ⟨by rw [List.length_take]; omega, fun _ => ⟨_, rfl, fun j x hj => ?_⟩, fun X hX => ((hvr X (fun b e => by have := hX b e; omega)).keep hb).takeN i⟩ ⟨by rw [List.length_drop]; omega, fun h0 => ?_, fun X hX => ((hvr X (fun b e => by have := hX b e; omega)).keep hb).dropN (i + 1)⟩ (by omega) (by omega)).mono ?_
        · rw [add_none]
          rw [List.getElem?_take] at hj
          split at hj
          · exact cell_later hb (hvc j x hj)
          · cases hj
        · rw [List.length_drop] at h0
          rcases ha2 with rfl | h
          · refine ⟨_, rfl, fun j x hj => ?_⟩
            rw [add_none, Nat.add_assoc]
            rw [List.getElem?_drop] at hj
            exact cell_later hb (hvc (i + 1 + j) x hj)
          · omega
        · rintro e w' ⟨u, rfl, hu, hb2⟩
          exact ⟨u, rfl, hu.reads, hb2⟩
      have e1 : (0 : Int) ≤ (i : Int) := by omega
      have e2 : (i : Int) ≤ (cb : Int) := by omega
      have e3 : (0 : Int) ≤ (i : Int) + 1 := by omega
      have e4 : (i : Int) + 1 ≤ (yss.length : Int) := by omega
      have e5 : (yss.length : Int) ≤ (cb : Int) := by omega
      have e6 : IntKind.i64.wrap ((i : Int) + 1) = (i : Int) + 1 := IntWalk.i64_in _ (by omega)
      have e7 : ¬ cb = 0 := by omega
      have e8 : ((i : Int) + 1).toNat = i + 1 := by omega
      have e10 : (i : Int) ≤ (i : Int) + 1 := by omega
      have HMI : Hid (yss.length ≤ 16 ∧ i < yss.length) := ⟨h16, hi⟩
      clear hd hr1 hr2 hc hx hw h2 hvl hvc hvr hi h16
      generalize xs.length = n at *
      generalize yss.length = m at *
      go_enter Try.func39, Try.ntmps39
      go_wp2_with (first | (go_at_call 18; (with_reducible refine (HW.out _ (by go_grown)).mono ?_); rintro e w' ⟨rfl, hb⟩; have hL := chain (B := w.heap.size) (a := w) (by go_grown) (Nat.le_refl _) hb; (first | replace h0 := keepAt3 hb h0 | replace h0 := keepAt3 hb (C3.alloc h0 _)); replace j1 := keepAt3 hb j1; clear hb) | (go_at_call 89; (with_reducible refine (HB.out _).mono ?_); rintro e w' ⟨rfl, rfl⟩))
      by_cases e9 : cb = i + 1
      · have HM1 : Hid (m = i + 1 ∧ 0 = m - (i + 1)) := by have := HMI.out; unfold Hid; omega
        subst e9
        have q0 : (w'.alloc (.cells #[.slice (some ⟨sa, off, none⟩) i (i + 1), .slice (some ⟨sa, off, none⟩) 0 0] 23)).drew.cell? ⟨w'.heap.size, 0, none⟩ = some (.slice (some ⟨sa, off, none⟩) i (i + 1)) := by show (w'.alloc (.cells #[.slice (some ⟨sa, off, none⟩) i (i + 1), .slice (some ⟨sa, off, none⟩) 0 0] 23)).cell? ⟨w'.heap.size, 0, none⟩ = _; rw [World.cell?_alloc_at _ _ _ _ rfl]; rfl
        have q1 : (w'.alloc (.cells #[.slice (some ⟨sa, off, none⟩) i (i + 1), .slice (some ⟨sa, off, none⟩) 0 0] 23)).drew.cell? ⟨w'.heap.size, 1, none⟩ = some (.slice (some ⟨sa, off, none⟩) 0 0) := by show (w'.alloc (.cells #[.slice (some ⟨sa, off, none⟩) i (i + 1), .slice (some ⟨sa, off, none⟩) 0 0] 23)).cell? ⟨w'.heap.size, 1, none⟩ = _; rw [World.cell?_alloc_at _ _ _ _ rfl]; rfl
        go_region_held3 (fun wx => C3 wx w.heap.size (.int .i64 p) (.slice a n ca) (.slice (some ⟨sa, off, none⟩) m (i + 1)))
          ((repeat' (first | (with_reducible assumption) | (with_reducible refine C3.drewU ?_) | (with_reducible refine C3.alloc ?_ _) | (with_reducible refine C3.set ?_ _ _ _ (by omega)))))
          (first | (go_at_call 92; (with_reducible refine (HCC.out _ _ _ _ _ _ (by go_grown) q0 q1 (.inr HM1.out.1) HM1.out.2).mono ?_); rintro e w5 ⟨u5, rfl, hru, hb5⟩; have hL5 := chain (B := w.heap.size) (a := w) (by go_grown) (Nat.le_refl _) hb5; have h05 := keepAt3 hb5 (show C3 _ w.heap.size (.int .i64 p) (.slice a n ca) (.slice (some ⟨sa, off, none⟩) m (i + 1)) from by (repeat' (first | (with_reducible assumption) | (with_reducible refine C3.drewU ?_) | (with_reducible refine C3.alloc ?_ _)))); have j15 := keepAt3 hb5 (show C3 _ (w.heap.size + 1) (.int .i64 0) (.slice none 0 0) (.slice none 0 0) from by (repeat' (first | (with_reducible assumption) | (with_reducible refine C3.drewU ?_) | (with_reducible refine C3.alloc ?_ _)))); have HRU := Lib.hid hru; clear hb5 hru) | (go_at_call 68; (with_reducible refine (HWO.out _ _ HRU.out hL5).mono ?_); rintro e w6 ⟨ua, uc, ub, ud, rfl, ho6, hb6⟩; have hL6 := chain (B := w.heap.size) (a := w) hL5 (Nat.le_refl _) hb6; have h06 := keepAt3 hb6 h05; have j16 := keepAt3 hb6 j15; have HO6 := Lib.hid (show OwnW w6 w5.heap.size w6.heap.size _ _ _ _ from ho6); clear hb6 ho6))
        go_wp2_with fail
        have k3 := j16.fill (.int .i64 p) (.slice ua n uc) (.slice ub (yss.eraseIdx i).length ud)
        have hLf : Below w.heap.size w (((w6.setCell ⟨w.heap.size + 1, 0, none⟩ (.int .i64 p)).setCell ⟨w.heap.size + 1, 1, none⟩ (.slice ua n uc)).setCell ⟨w.heap.size + 1, 2, none⟩ (.slice ub (yss.eraseIdx i).length ud)) := by go_grown
        have hsz : (((w6.setCell ⟨w.heap.size + 1, 0, none⟩ (.int .i64 p)).setCell ⟨w.heap.size + 1, 1, none⟩ (.slice ua n uc)).setCell ⟨w.heap.size + 1, 2, none⟩ (.slice ub (yss.eraseIdx i).length ud)).heap.size = w6.heap.size := by simp
        have hj5 := j15.2.2
        have HF := Lib.hid ((HO6.out.turn (w' := ((w6.setCell ⟨w.heap.size + 1, 0, none⟩ (.int .i64 p)).setCell ⟨w.heap.size + 1, 1, none⟩ (.slice ua n uc)).setCell ⟨w.heap.size + 1, 2, none⟩ (.slice ub (yss.eraseIdx i).length ud)) (fun q hq => by
          have hq1 : q ≠ w.heap.size + 1 := by omega
          rw [Below.heap_setCell _ _ _ q hq1, Below.heap_setCell _ _ _ q hq1, Below.heap_setCell _ _ _ q hq1])).mono (B' := w.heap.size) (C' := w6.heap.size) (by omega) (Nat.le_refl _))
        obtain ⟨⟨c0, c1, c2⟩, _⟩ := k3
        clear j16 j15 h06 h05 h0 j1 HO6 HRU
        generalize (((w6.setCell ⟨w.heap.size + 1, 0, none⟩ (.int .i64 p)).setCell ⟨w.heap.size + 1, 1, none⟩ (.slice ua n uc)).setCell ⟨w.heap.size + 1, 2, none⟩ (.slice ub (yss.eraseIdx i).length ud)) = wf at *
        refine bodyPost_ret (v := .tuple #[.agg #[.int .i64 p, .slice ua n uc, .slice ub (yss.eraseIdx i).length ud], .int .i64 0]) (by simp [results, Try.results39, go_sem, *]) rfl ?_
        exact ⟨ua, uc, ub, ud, rfl, by rw [hsz]; exact HF.out, hLf⟩
      · have q0 : (w'.alloc (.cells #[.slice (some ⟨sa, off, none⟩) i cb, .slice (some ⟨sa, off + (i + 1), none⟩) (m - (i + 1)) (cb - (i + 1))] 23)).drew.cell? ⟨w'.heap.size, 0, none⟩ = some (.slice (some ⟨sa, off, none⟩) i cb) := by show (w'.alloc (.cells #[.slice (some ⟨sa, off, none⟩) i cb, .slice (some ⟨sa, off + (i + 1), none⟩) (m - (i + 1)) (cb - (i + 1))] 23)).cell? ⟨w'.heap.size, 0, none⟩ = _; rw [World.cell?_alloc_at _ _ _ _ rfl]; rfl
        have q1 : (w'.alloc (.cells #[.slice (some ⟨sa, off, none⟩) i cb, .slice (some ⟨sa, off + (i + 1), none⟩) (m - (i + 1)) (cb - (i + 1))] 23)).drew.cell? ⟨w'.heap.size, 1, none⟩ = some (.slice (some ⟨sa, off + (i + 1), none⟩) (m - (i + 1)) (cb - (i + 1))) := by show (w'.alloc (.cells #[.slice (some ⟨sa, off, none⟩) i cb, .slice (some ⟨sa, off + (i + 1), none⟩) (m - (i + 1)) (cb - (i + 1))] 23)).cell? ⟨w'.heap.size, 1, none⟩ = _; rw [World.cell?_alloc_at _ _ _ _ rfl]; rfl
        go_region_held3 (fun wx => C3 wx w.heap.size (.int .i64 p) (.slice a n ca) (.slice (some ⟨sa, off, none⟩) m cb))
          ((repeat' (first | (with_reducible assumption) | (with_reducible refine C3.drewU ?_) | (with_reducible refine C3.alloc ?_ _) | (with_reducible refine C3.set ?_ _ _ _ (by omega)))))
          (first | (go_at_call 92; (with_reducible refine (HCC.out _ _ _ _ _ _ (by go_grown) q0 q1 (.inl rfl) rfl).mono ?_); rintro e w5 ⟨u5, rfl, hru, hb5⟩; have hL5 := chain (B := w.heap.size) (a := w) (by go_grown) (Nat.le_refl _) hb5; have h05 := keepAt3 hb5 (show C3 _ w.heap.size (.int .i64 p) (.slice a n ca) (.slice (some ⟨sa, off, none⟩) m cb) from by (repeat' (first | (with_reducible assumption) | (with_reducible refine C3.drewU ?_) | (with_reducible refine C3.alloc ?_ _)))); have j15 := keepAt3 hb5 (show C3 _ (w.heap.size + 1) (.int .i64 0) (.slice none 0 0) (.slice none 0 0) from by (repeat' (first | (with_reducible assumption) | (with_reducible refine C3.drewU ?_) | (with_reducible refine C3.alloc ?_ _)))); have HRU := Lib.hid hru; clear hb5 hru) | (go_at_call 68; (with_reducible refine (HWO.out _ _ HRU.out hL5).mono ?_); rintro e w6 ⟨ua, uc, ub, ud, rfl, ho6, hb6⟩; have hL6 := chain (B := w.heap.size) (a := w) hL5 (Nat.le_refl _) hb6; have h06 := keepAt3 hb6 h05; have j16 := keepAt3 hb6 j15; have HO6 := Lib.hid (show OwnW w6 w5.heap.size w6.heap.size _ _ _ _ from ho6); clear hb6 ho6))
        go_wp2_with fail
        have k3 := j16.fill (.int .i64 p) (.slice ua n uc) (.slice ub (yss.eraseIdx i).length ud)
        have hLf : Below w.heap.size w (((w6.setCell ⟨w.heap.size + 1, 0, none⟩ (.int .i64 p)).setCell ⟨w.heap.size + 1, 1, none⟩ (.slice ua n uc)).setCell ⟨w.heap.size + 1, 2, none⟩ (.slice ub (yss.eraseIdx i).length ud)) := by go_grown
        have hsz : (((w6.setCell ⟨w.heap.size + 1, 0, none⟩ (.int .i64 p)).setCell ⟨w.heap.size + 1, 1, none⟩ (.slice ua n uc)).setCell ⟨w.heap.size + 1, 2, none⟩ (.slice ub (yss.eraseIdx i).length ud)).heap.size = w6.heap.size := by simp
        have hj5 := j15.2.2
        have HF := Lib.hid ((HO6.out.turn (w' := ((w6.setCell ⟨w.heap.size + 1, 0, none⟩ (.int .i64 p)).setCell ⟨w.heap.size + 1, 1, none⟩ (.slice ua n uc)).setCell ⟨w.heap.size + 1, 2, none⟩ (.slice ub (yss.eraseIdx i).length ud)) (fun q hq => by
          have hq1 : q ≠ w.heap.size + 1 := by omega
          rw [Below.heap_setCell _ _ _ q hq1, Below.heap_setCell _ _ _ q hq1, Below.heap_setCell _ _ _ q hq1])).mono (B' := w.heap.size) (C' := w6.heap.size) (by omega) (Nat.le_refl _))
        obtain ⟨⟨c0, c1, c2⟩, _⟩ := k3
        clear j16 j15 h06 h05 h0 j1 HO6 HRU
        generalize (((w6.setCell ⟨w.heap.size + 1, 0, none⟩ (.int .i64 p)).setCell ⟨w.heap.size + 1, 1, none⟩ (.slice ua n uc)).setCell ⟨w.heap.size + 1, 2, none⟩ (.slice ub (yss.eraseIdx i).length ud)) = wf at *
        refine bodyPost_ret (v := .tuple #[.agg #[.int .i64 p, .slice ua n uc, .slice ub (yss.eraseIdx i).length ud], .int .i64 0]) (by simp [results, Try.results39, go_sem, *]) rfl ?_
        exact ⟨ua, uc, ub, ud, rfl, by rw [hsz]; exact HF.out, hLf⟩
    · have e : c = 2 := by rw [← hc]; unfold brkC; rw [if_pos hd, if_neg hx]
      subst e
      rw [if_neg (by decide), if_neg (by decide), if_neg (by decide)]
      have HB := Lib.hid (fun w => isBelow_no x (yss.length : Int) w hx)
      clear hd hr1 hr2 hcb hc hx hw
      generalize xs.length = n at *
      generalize yss.length = m at *
      go_enter Try.func39, Try.ntmps39
      go_wp2_with (first | (go_at_call 18; (with_reducible refine (HW.out _ (by go_grown)).mono ?_); rintro e w' ⟨rfl, hb⟩; have hL := chain (B := w.heap.size) (a := w) (by go_grown) (Nat.le_refl _) hb; (first | replace h0 := keepAt3 hb h0 | replace h0 := keepAt3 hb (C3.alloc h0 _)); replace j1 := keepAt3 hb j1; clear hb) | (go_at_call 89; (with_reducible refine (HB.out _).mono ?_); rintro e w' ⟨rfl, rfl⟩))
      have k3 := j1.fill (.int .i64 0) (.slice none 0 0) (.slice none 0 0)
      have hLf : Below w.heap.size w (((w'.setCell ⟨w.heap.size + 1, 0, none⟩ (.int .i64 0)).setCell ⟨w.heap.size + 1, 1, none⟩ (.slice none 0 0)).setCell ⟨w.heap.size + 1, 2, none⟩ (.slice none 0 0)) := by go_grown
      have HF := Lib.hid (HZ.out _ hLf.size)
      obtain ⟨⟨c0, c1, c2⟩, _⟩ := k3
      clear j1 h0
      generalize (((w'.setCell ⟨w.heap.size + 1, 0, none⟩ (.int .i64 0)).setCell ⟨w.heap.size + 1, 1, none⟩ (.slice none 0 0)).setCell ⟨w.heap.size + 1, 2, none⟩ (.slice none 0 0)) = wf at *
      refine bodyPost_ret (v := .tuple #[.agg #[.int .i64 0, .slice none 0 0, .slice none 0 0], .int .i64 2]) (by simp [results, Try.results39, go_sem, *]) rfl ?_
      exact ⟨none, 0, none, 0, rfl, HF.out, hLf⟩

end Go.Proofs.Ytkdidplpnhokiaa
