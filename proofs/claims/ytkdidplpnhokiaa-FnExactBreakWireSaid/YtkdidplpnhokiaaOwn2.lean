/- Slices of slices that a call makes: how they lie, and how they are copied out of slices that came in. -/
import Derived.Test.YtkdidplpnhokiaaRows2
namespace Go.Proofs.Ytkdidplpnhokiaa
open Go.RowKit
set_option linter.unusedVariables false

theorem rowSame {w w' : World} {base : Nat} {e : TypeId} {size : Nat} {v : Value} {n : Nat} {xs : List Value} (h : w.ownsRow base e size v n xs)
    (he : ∀ k, base ≤ k → v.ownBlock = some k → w'.heap[k]? = w.heap[k]?) : w'.ownsRow base e size v n xs := by
  refine ⟨h.1, ?_⟩
  rcases h.2 with hn | ⟨g, cap, cur, rfl, hb, hgg, rest⟩
  · exact .inl hn
  · exact .inr ⟨g, cap, cur, rfl, hb, by rw [he g hb rfl]; exact hgg, rest⟩
theorem rowLater {w w' : World} {base : Nat} {e : TypeId} {size : Nat} {v : Value} {n : Nat} {xs : List Value} (h : w.ownsRow base e size v n xs) (hb : Below w.heap.size w w') : w'.ownsRow base e size v n xs :=
  rowSame h fun k _ hk => hb.block k (World.ownsRow.lt h k hk).2

/-- the slice v and its rows lie in blocks of their own from B on, below C, all apart, and read as the lists xss -/
def Own2 (w : World) (B C : Nat) (v : Value) (xss : List (List Int)) : Prop :=
  ∃ V : Nat → Value, w.ownsRow B 22 1 v xss.length ((List.range xss.length).map V) ∧ (∀ k, v.ownBlock = some k → k < C) ∧
    ∀ i, i < xss.length → Owns w B (V i) (xss.getD i []) ∧ ∀ k, (V i).ownBlock = some k → k < C ∧ v.ownBlock ≠ some k ∧ ∀ j, j < i → (V j).ownBlock ≠ some k

theorem Own2.same {w w' : World} {B C : Nat} {v : Value} {xss : List (List Int)} (h : Own2 w B C v xss) (he : ∀ k, B ≤ k → k < C → k < w.heap.size → w'.heap[k]? = w.heap[k]?) : Own2 w' B C v xss := by
  obtain ⟨V, h1, h2, h3⟩ := h
  refine ⟨V, rowSame h1 fun k hk e => he k hk (h2 k e) (World.ownsRow.lt h1 k e).2, h2, fun i hi => ?_⟩
  obtain ⟨a, b⟩ := h3 i hi
  exact ⟨rowSame a fun k hk e => he k hk (b k e).1 (World.ownsRow.lt a k e).2, b⟩
theorem Own2.keep {w w' : World} {B C : Nat} {v : Value} {xss : List (List Int)} (h : Own2 w B C v xss) (hb : Below w.heap.size w w') : Own2 w' B C v xss :=
  h.same fun k _ _ hk => hb.block k hk
theorem Own2.mono {w : World} {B B' C C' : Nat} {v : Value} {xss : List (List Int)} (h : Own2 w B C v xss) (hB : B' ≤ B) (hC : C ≤ C') : Own2 w B' C' v xss := by
  obtain ⟨V, h1, h2, h3⟩ := h
  have low : ∀ {e : TypeId} {size : Nat} {u : Value} {n : Nat} {xs : List Value}, w.ownsRow B e size u n xs → w.ownsRow B' e size u n xs := by
    intro e size u n xs h
    refine ⟨h.1, ?_⟩
    rcases h.2 with hn | ⟨g, cap, cur, rfl, hb, hgg, rest⟩
    · exact .inl hn
    · exact .inr ⟨g, cap, cur, rfl, by omega, hgg, rest⟩
  refine ⟨V, low h1, fun k e => Nat.lt_of_lt_of_le (h2 k e) hC, fun i hi => ?_⟩
  obtain ⟨a, b⟩ := h3 i hi
  exact ⟨low a, fun k e => ⟨Nat.lt_of_lt_of_le (b k e).1 hC, (b k e).2⟩⟩
theorem Own2.reads {w : World} {B C : Nat} {v : Value} {xss : List (List Int)} (h : Own2 w B C v xss) : Reads2 w v xss := by
  obtain ⟨V, h1, h2, h3⟩ := h
  have h1' := h1
  rcases h1.2 with ⟨rfl, hn⟩ | ⟨g, cap, cur, rfl, hb, hg, hc, hm, hs, ht⟩
  · have e : xss = [] := List.length_eq_zero_iff.1 hn
    subst e
    exact ⟨none, 0, rfl, by simp, .inl rfl⟩
  · refine ⟨_, cap, rfl, by omega, .inr ⟨g, 0, rfl, fun i hi => ⟨V i, ?_, (h3 i hi).1.reads⟩⟩⟩
    rw [Nat.zero_add, h1'.cellAt i (by omega)]
    simp [hi]

/-- the rows so far -/
def Copied (w : World) (g n : Nat) (xss : List (List Int)) (k : Nat) : Prop :=
  ∃ V : Nat → Value, w.ownsRow g 22 1 (.slice (some ⟨g, 0, none⟩) n n) n ((List.range n).map V) ∧
    ∀ i, i < k → Owns w g (V i) (xss.getD i []) ∧ ∀ b, (V i).ownBlock = some b → g < b ∧ ∀ j, j < i → (V j).ownBlock ≠ some b
theorem Copied.keep {w w' : World} {g n k : Nat} {xss : List (List Int)} (h : Copied w g n xss k) (hb : Below w.heap.size w w') : Copied w' g n xss k := by
  obtain ⟨V, h1, h2⟩ := h
  exact ⟨V, rowLater h1 hb, fun i hi => ⟨(h2 i hi).1.keep hb, (h2 i hi).2⟩⟩
theorem Copied.cell {w : World} {g n k : Nat} {xss : List (List Int)} (h : Copied w g n xss k) {j : Nat} (hj : j < n) : (∃ u, w.cell? ⟨g, j, none⟩ = some u) ∧ w.frozen? ⟨g, j, none⟩ = false ∧ g < w.heap.size := by
  obtain ⟨V, h1, h2⟩ := h
  refine ⟨⟨V j, ?_⟩, h1.frozenAt j, (World.ownsRow.lt h1 g rfl).2⟩
  rw [h1.cellAt j (by omega)]
  simp [hj]
theorem Copied.step {w w' : World} {g n k : Nat} {xss : List (List Int)} {u : Value} (h : Copied w g n xss k) (hk : k < n) (hb : Below w.heap.size w w') (hu : Owns w' w.heap.size u (xss.getD k [])) :
    Copied (w'.setCell ⟨g, k, none⟩ u) g n xss (k + 1) := by
  obtain ⟨V, h1, h2⟩ := h
  have hg := (World.ownsRow.lt h1 g rfl).2
  have h1' := (rowLater h1 hb).stored k u
  have other : ∀ {x : Value} {xs : List Int} {B : Nat}, Owns w' B x xs → (∀ b, x.ownBlock = some b → g < b) → Owns (w'.setCell ⟨g, k, none⟩ u) B x xs := by
    intro x xs B hx hne
    exact World.ownsRow.kept hx h1'.2 (.inr fun e => by have := hne g e; omega)
  refine ⟨fun i => if i = k then u else V i, ?_, fun i hi => ?_⟩
  · have e : ((List.range n).map V).set k u = (List.range n).map (fun i => if i = k then u else V i) := by
      apply List.ext_getElem
      · simp
      · intro i h1 h2
        simp only [List.getElem_set, List.getElem_map, List.getElem_range]
        by_cases e : i = k
        · subst e; simp
        · simp [e, Ne.symm e]
    rw [← e]; exact h1'.1
  · rcases Nat.lt_or_ge i k with hlt | hge
    · simp only [if_neg (show ¬ i = k by omega)]
      obtain ⟨a, b⟩ := h2 i hlt
      refine ⟨other (a.keep hb) fun b' e => (b b' e).1, fun b' e => ⟨(b b' e).1, fun j hj => ?_⟩⟩
      rw [if_neg (show ¬ j = k by omega)]
      exact (b b' e).2 j hj
    · have e : i = k := by omega
      subst e
      simp only [if_true]
      refine ⟨other (hu.mono (by omega)) fun b' e => by have := (World.ownsRow.lt hu b' e).1; omega, fun b' e => ⟨by have := (World.ownsRow.lt hu b' e).1; omega, fun j hj => ?_⟩⟩
      rw [if_neg (show ¬ j = i by omega)]
      intro e2
      have h3 := (World.ownsRow.lt (h2 j hj).1 b' e2).2
      have h4 := (World.ownsRow.lt hu b' e).1
      omega
theorem Copied.all {w : World} {g n : Nat} {xss : List (List Int)} (h : Copied w g n xss n) (hn : xss.length = n) : Own2 w g w.heap.size (.slice (some ⟨g, 0, none⟩) n n) xss := by
  obtain ⟨V, h1, h2⟩ := h
  subst hn
  refine ⟨V, h1, fun k e => (World.ownsRow.lt h1 k e).2, fun i hi => ⟨(h2 i hi).1, fun k e => ⟨(World.ownsRow.lt (h2 i hi).1 k e).2, ?_, ((h2 i hi).2 k e).2⟩⟩⟩
  have := ((h2 i hi).2 k e).1
  intro e2
  have : g = k := by simpa [Value.ownBlock] using e2
  omega
theorem Copied.start {w : World} {g n : Nat} {xss : List (List Int)} (h : w.ownsRow g 22 1 (.slice (some ⟨g, 0, none⟩) n n) n (madeCells (Value.slice none 0 0).cells (n * 1)).toList) : Copied w g n xss 0 := by
  refine ⟨fun _ => .slice none 0 0, ?_, fun i hi => by omega⟩
  have e : (madeCells (Value.slice none 0 0).cells (n * 1)).toList = (List.range n).map fun _ => Value.slice none 0 0 := by
    simp only [madeCells, Value.cells, Nat.mul_one]
    apply List.ext_getElem
    · simp
    · intro i h1 h2
      simp [Nat.mod_one]
  rw [← e]; exact h

theorem infoRow : (Try.prog.info? 22).map (fun i => (i.zero, i.size, i.bytes)) = some (some (.slice none 0 0), 1, 24) := by kernel_rfl

set_option maxRecDepth 100000 in
set_option maxHeartbeats 1000000 in
theorem toInt64SS_any (va : Value) (xss : List (List Int)) (w : World) (ha : Reads2 w va xss) (hn : xss.length ≤ 1048576) (hl : ∀ i, i < xss.length → (xss.getD i []).length ≤ 1048576) :
    Calls Try.prog 44 #[va] w fun e w' => ∃ u, e = .returned u ∧ Own2 w' w.heap.size w'.heap.size u xss ∧ Below w.heap.size w w' := by
  obtain ⟨i0, hi, hz0, hz1, hz2⟩ := info_parts infoRow
  obtain ⟨a, ca, rfl, hm, ha⟩ := ha
  have HN : Hid (xss.length = xss.length) := rfl
  rcases ha with rfl | ⟨b, off, rfl, ha⟩
  · go_enter Try.func44, Try.ntmps44
    go_wp2_with (at_make; refine wpList_make_full _ rfl _ _ 23 rfl w.heap.size 22 i0 (.slice none 0 0) 1 Try.underlying23 hi hz0 hz1 .i64 .i64 ((([] : List (List Int)).length : Nat) : Int) ((([] : List (List Int)).length : Nat) : Int) ([] : List (List Int)).length rfl rfl rfl rfl (by rw [hz2]; omega) hm (Nat.le_refl _) ?_; intro w1 oo hg; have hL : Below w.heap.size w w1 := Below.grown (Below.refl _ w) hg (Nat.le_refl _) (by simp))
    refine wp_loop_rounds 1 ?_
    rw [rounds_succ]
    go_wp2
    go_ret
    exact ⟨_, rfl, (Copied.start oo).all rfl, hL⟩
  · generalize hx : xss.length = n at *
    have Hx := Lib.hid hx
    have Ha := Lib.hid ha
    have Hl := Lib.hid hl
    clear hx ha hl HN
    go_enter Try.func44, Try.ntmps44
    go_wp2_with (at_make; refine wpList_make_full _ rfl _ _ 23 rfl w.heap.size 22 i0 (.slice none 0 0) 1 Try.underlying23 hi hz0 hz1 .i64 .i64 (n : Int) (n : Int) n rfl rfl rfl rfl (by rw [hz2]; omega) hm (Nat.le_refl _) ?_; intro w1 oo hg; have hL : Below w.heap.size w w1 := Below.grown (Below.refl _ w) hg (Nat.le_refl _) (by simp))
    have hC : Copied w1 w.heap.size n xss 0 := Copied.start oo
    clear oo hg hi hz0 hz1 hz2
    go_loopw [4] (fun c wr => ∃ k : Nat, k ≤ n ∧ c = .int .i64 (k : Int) ∧ Below w.heap.size w wr ∧ Copied wr w.heap.size n xss k) (fun c _ => n - (intOf c).toNat)
    case atStart => exact ⟨0, Nat.zero_le _, rfl, hL, hC⟩
    case round =>
      clear hL hC
      obtain ⟨k, hk, rfl, hL, hC⟩ := hrel
      by_cases hlt : k < n
      · obtain ⟨u, hu, hr⟩ := Ha.out k hlt
        have hca := cell_later hL hu
        have HR := Lib.hid (hr.keep hL)
        have hl' := Hl.out k hlt
        obtain ⟨⟨old, ho⟩, hf, hgz⟩ := hC.cell hlt
        have HC := Lib.hid hC
        have hi1 : (k : Int) < (n : Int) := by omega
        have hi0 : (0 : Int) ≤ (k : Int) := by omega
        clear hu hr hC
        go_wp2_with fail
        refine (toInt64S_any _ _ _ HR.out hl').mono ?_
        rintro e w2 ⟨x, rfl, ox, hb⟩
        obtain ⟨xa, xc, rfl, _, _⟩ := ox.reads
        have ho2 := cell_later hb ho
        have hf2 := (hb.frozen (p := ⟨w.heap.size, k, none⟩) hgz).trans hf
        have HS := Lib.hid (HC.out.step hlt hb ox)
        have hL2 := chain (B := w.heap.size) (a := w) hL (Nat.le_refl _) hb
        clear hb ox
        go_wp2_with fail
        go_roundw
        case rel => exact ⟨k + 1, by omega, by go_num, hL2.setCell (Nat.le_refl _) _, HS.out⟩
        case measure => simp [intOf]; omega
      · have e : k = n := by omega
        subst e
        go_wp2_with fail
        go_ret
        exact ⟨_, rfl, hC.all Hx.out, hL⟩

/-! ### two of them compared -/
set_option maxHeartbeats 1000000 in
theorem eqInt64S_quiet (va vb : Value) (xs : List Int) (w : World) (ha : Reads w va xs) (hb : Reads w vb xs) :
    Calls Try.prog 28 #[va, vb] w fun e w' => e = .returned (.bool true) ∧ ∃ m, w' = w.drewN m := by
  obtain ⟨a, ca, rfl, hm, ha⟩ := ha
  obtain ⟨b, cb, rfl, _, hb⟩ := hb
  unfold maxLen at hm
  have zero : ∃ m, w = w.drewN m := ⟨0, rfl⟩
  have HZ := Lib.hid zero
  clear zero
  rcases ha with rfl | ⟨ba, oa, rfl, ha⟩
  · go_enter Try.func28, Try.ntmps28
    go_wp2
    refine wp_loop_rounds 1 ?_
    rw [rounds_succ]
    go_wp2
    go_ret
    exact ⟨rfl, HZ.out⟩
  · rcases hb with rfl | ⟨bb, ob, rfl, hb⟩
    · go_enter Try.func28, Try.ntmps28
      go_wp2
      refine wp_loop_rounds 1 ?_
      rw [rounds_succ]
      go_wp2
      go_ret
      exact ⟨rfl, HZ.out⟩
    · generalize hn : xs.length = n at *
      have Ha := Lib.hid ha
      have Hb := Lib.hid hb
      clear ha hb hn
      go_enter Try.func28, Try.ntmps28
      go_wp2
      go_loopw [5] (fun c wr => ∃ k : Nat, k ≤ n ∧ c = .int .i64 (k : Int) ∧ Hid (∃ m, wr = w.drewN m)) (fun c _ => n - (intOf c).toNat)
      case atStart => exact ⟨0, Nat.zero_le _, rfl, HZ⟩
      case round =>
        obtain ⟨k, hk, rfl, hL⟩ := hrel
        by_cases hlt : k < n
        · have hca : wr.cell? ⟨ba, oa + k, none⟩ = some (.int .i64 (xs.getD k 0)) := by obtain ⟨m, hm⟩ := hL.out; rw [hm]; exact Ha.out k hlt
          have hcb : wr.cell? ⟨bb, ob + k, none⟩ = some (.int .i64 (xs.getD k 0)) := by obtain ⟨m, hm⟩ := hL.out; rw [hm]; exact Hb.out k hlt
          generalize xs.getD k 0 = x at hca hcb
          have hi1 : (k : Int) < (n : Int) := by omega
          have hi0 : (0 : Int) ≤ (k : Int) := by omega
          go_wp2_with fail
          go_quiet (fail)
          go_wp2
          go_roundw
          case rel => exact ⟨k + 1, by omega, by go_num, by obtain ⟨m, hm⟩ := hL.out; exact ⟨_, by rw [hm, World.drewN_drewN]⟩⟩
          case measure => simp [intOf]; omega
        · go_wp2
          go_ret
          exact ⟨rfl, hL.out⟩

set_option maxHeartbeats 1000000 in
theorem eqInt64SS_same (va vb : Value) (xss : List (List Int)) (w : World) (ha : Reads2 w va xss) (hb : Reads2 w vb xss) :
    Calls Try.prog 46 #[va, vb] w fun e w' => e = .returned (.bool true) ∧ Below w.heap.size w w' := by
  obtain ⟨a, ca, rfl, hm, ha⟩ := ha
  obtain ⟨b, cb, rfl, _, hb⟩ := hb
  unfold maxLen at hm
  rcases ha with rfl | ⟨ba, oa, rfl, ha⟩
  · go_enter Try.func46, Try.ntmps46
    go_wp2
    refine wp_loop_rounds 1 ?_
    rw [rounds_succ]
    go_wp2
    go_ret
    exact ⟨rfl, Below.refl _ _⟩
  · rcases hb with rfl | ⟨bb, ob, rfl, hb⟩
    · go_enter Try.func46, Try.ntmps46
      go_wp2
      refine wp_loop_rounds 1 ?_
      rw [rounds_succ]
      go_wp2
      go_ret
      exact ⟨rfl, Below.refl _ _⟩
    · generalize hn : xss.length = n at *
      have Ha := Lib.hid ha
      have Hb := Lib.hid hb
      clear ha hb hn
      go_enter Try.func46, Try.ntmps46
      go_wp2
      go_loopw [5] (fun c wr => ∃ k : Nat, k ≤ n ∧ c = .int .i64 (k : Int) ∧ Below w.heap.size w wr) (fun c _ => n - (intOf c).toNat)
      case atStart => exact ⟨0, Nat.zero_le _, rfl, Below.refl _ _⟩
      case round =>
        obtain ⟨k, hk, rfl, hL⟩ := hrel
        by_cases hlt : k < n
        · obtain ⟨ua, hca0, ra⟩ := Ha.out k hlt
          obtain ⟨ub, hcb0, rb⟩ := Hb.out k hlt
          have hca := cell_later hL hca0
          have hcb := cell_later hL hcb0
          have RA := Lib.hid (ra.keep hL)
          have RB := Lib.hid (rb.keep hL)
          clear hca0 hcb0 ra rb
          have hi1 : (k : Int) < (n : Int) := by omega
          have hi0 : (0 : Int) ≤ (k : Int) := by omega
          go_wp2_with fail
          go_quiet ((go_at_call 28; exact Calls.quiet_of (eqInt64S_quiet _ _ _ _ (RA.out.keep (Bdrew (Below.refl _ _) _)) (RB.out.keep (Bdrew (Below.refl _ _) _)))))
          go_wp2
          go_roundw
          case rel => exact ⟨k + 1, by omega, by go_num, Bdrew hL _⟩
          case measure => simp [intOf]; omega
        · go_wp2
          go_ret
          exact ⟨rfl, hL⟩

end Go.Proofs.Ytkdidplpnhokiaa
