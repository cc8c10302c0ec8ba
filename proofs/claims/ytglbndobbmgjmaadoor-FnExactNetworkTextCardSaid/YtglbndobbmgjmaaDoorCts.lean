/- Contacts as arrays: made out of a network. -/
import Derived.Test.YtglbndobbmgjmaaDoorOwn2
import Derived.Test.YtglbndobbmgjmaaDoorNetM
import Derived.Laws.Cover3
namespace Go.Proofs.YtglbndobbmgjmaaDoor
open Go.RowKit
set_option linter.unusedVariables false

theorem infoCon : (Tryd.prog.info? 41).map (fun i => (i.zero, i.size, i.bytes)) = some (some (.agg #[.int .i64 0, .int .i64 0, .int .i64 0, .int .i64 0]), 4, 32) := by kernel_rfl

/-- the cells of n contacts, the first k of xss, zeros behind -/
def cellsC (xss : List (List Int)) (n k : Nat) : List Value := (List.range (n * 4)).map fun q => .int .i64 (if q / 4 < k then (xss.getD (q / 4) []).getD (q % 4) 0 else 0)
theorem cellsC_step (xss : List (List Int)) (n k : Nat) (hk : k < n) :
    ((((cellsC xss n k).set (k * 4) (.int .i64 ((xss.getD k []).getD 0 0))).set (k * 4 + 1) (.int .i64 ((xss.getD k []).getD 1 0))).set (k * 4 + 2) (.int .i64 ((xss.getD k []).getD 2 0))).set (k * 4 + 3) (.int .i64 ((xss.getD k []).getD 3 0)) = cellsC xss n (k + 1) := by
  unfold cellsC
  apply List.ext_getElem
  · simp
  · intro q h1 h2
    simp only [List.getElem_set, List.getElem_map, List.getElem_range]
    by_cases e3 : k * 4 + 3 = q
    · have a : q / 4 = k := by omega
      have b : q % 4 = 3 := by omega
      rw [if_pos e3, a, b, if_pos (by omega)]
    · rw [if_neg e3]
      by_cases e2 : k * 4 + 2 = q
      · have a : q / 4 = k := by omega
        have b : q % 4 = 2 := by omega
        rw [if_pos e2, a, b, if_pos (by omega)]
      · rw [if_neg e2]
        by_cases e1 : k * 4 + 1 = q
        · have a : q / 4 = k := by omega
          have b : q % 4 = 1 := by omega
          rw [if_pos e1, a, b, if_pos (by omega)]
        · rw [if_neg e1]
          by_cases e0 : k * 4 = q
          · have a : q / 4 = k := by omega
            have b : q % 4 = 0 := by omega
            rw [if_pos e0, a, b, if_pos (by omega)]
          · rw [if_neg e0]
            by_cases h : q / 4 < k
            · rw [if_pos h, if_pos (by omega)]
            · rw [if_neg h, if_neg (by omega)]
theorem cellsC_zero (xss : List (List Int)) (n : Nat) : (madeCells (Value.agg #[.int .i64 0, .int .i64 0, .int .i64 0, .int .i64 0]).cells (n * 4)).toList = cellsC xss n 0 := by
  unfold cellsC
  apply List.ext_getElem
  · simp [madeCells]
  · intro q h1 h2
    have h : q % 4 = 0 ∨ q % 4 = 1 ∨ q % 4 = 2 ∨ q % 4 = 3 := by omega
    rcases h with h | h | h | h <;> simp [madeCells, Value.cells, h]

/-- the slice v of arrays lies in a block of its own, from block base on, and has the contacts xss -/
def OwnsC (w : World) (base : Nat) (v : Value) (xss : List (List Int)) : Prop := w.ownsRow base 41 4 v xss.length (cellsC xss xss.length xss.length)
/-- the slice v of arrays reads as the contacts xss -/
def ReadsC (w : World) (v : Value) (xss : List (List Int)) : Prop :=
  ∃ (a : Option Addr) (cap : Nat), v = .slice a xss.length cap ∧ xss.length ≤ maxLen ∧
    (xss = [] ∨ ∃ b, a = some ⟨b, 0, none⟩ ∧ ∀ i, i < xss.length → ∀ j, j < 4 → w.cell? ⟨b, i * 4 + j, none⟩ = some (.int .i64 ((xss.getD i []).getD j 0)))
theorem ReadsC.keep {w w' : World} {v : Value} {xss : List (List Int)} (h : ReadsC w v xss) (hb : Below w.heap.size w w') : ReadsC w' v xss := by
  obtain ⟨a, cap, rfl, hm, h⟩ := h
  refine ⟨a, cap, rfl, hm, ?_⟩
  rcases h with h | ⟨b, rfl, h⟩
  · exact .inl h
  · exact .inr ⟨b, rfl, fun i hi j hj => cell_later hb (h i hi j hj)⟩
theorem OwnsC.reads {w : World} {base : Nat} {v : Value} {xss : List (List Int)} (h : OwnsC w base v xss) : ReadsC w v xss := by
  have h' := h
  rcases h.2 with ⟨rfl, hn⟩ | ⟨g, cap, cur, rfl, hb, hg, hc, hm, hs, ht⟩
  · have e : xss = [] := List.length_eq_zero_iff.1 hn
    subst e
    exact ⟨none, 0, rfl, by simp, .inl rfl⟩
  · refine ⟨_, cap, rfl, by omega, .inr ⟨g, rfl, fun i hi j hj => ?_⟩⟩
    unfold OwnsC at h'
    rw [h'.cellAt (i * 4 + j) (by omega)]
    have e1 : (i * 4 + j) / 4 = i := by omega
    have e2 : (i * 4 + j) % 4 = j := by omega
    have e3 : i * 4 + j < xss.length * 4 := by omega
    unfold cellsC
    rw [List.getElem?_map, List.getElem?_range e3]
    simp only [Option.map_some, e1, e2, if_pos hi]
theorem OwnsC.keep {w w' : World} {base : Nat} {v : Value} {xss : List (List Int)} (h : OwnsC w base v xss) (hb : Below w.heap.size w w') : OwnsC w' base v xss := rowLater h hb

/-- a row of four numbers in memory -/
theorem Reads.four {w : World} {v : Value} {c : List Int} (h : Reads w v c) (h4 : c.length = 4) :
    ∃ cb co cc, v = .slice (some ⟨cb, co, none⟩) 4 cc ∧ ∀ j, j < 4 → w.cell? ⟨cb, co + j, none⟩ = some (.int .i64 (c.getD j 0)) := by
  obtain ⟨a, cap, rfl, _, h⟩ := h
  rcases h with rfl | ⟨cb, co, rfl, h⟩
  · cases h4
  · exact ⟨cb, co, cap, by rw [h4], fun j hj => h j (by omega)⟩

set_option maxRecDepth 100000 in
set_option maxHeartbeats 2000000 in
theorem contactsOf_any (p : Int) (v : Value) (xss : List (List Int)) (w : World) (ha : Reads2 w v xss) (hn : xss.length ≤ 12) (h4 : ∀ i, i < xss.length → (xss.getD i []).length = 4) :
    Calls Tryd.prog 15 #[.agg #[.int .i64 p, v]] w fun e w' => ∃ u, e = .returned u ∧ OwnsC w' w.heap.size u xss ∧ Below w.heap.size w w' := by
  obtain ⟨i0, hi, hz0, hz1, hz2⟩ := info_parts infoCon
  obtain ⟨a, ca, rfl, hm, ha⟩ := ha
  have k0 := C2.here w (.int .i64 p) (.slice a xss.length ca) 28
  have harr : ∀ (w : World) (a : Option Addr) (cc : Nat), (Instr.arrayAt 41 (.slice a 4 cc)).run Tryd.prog w = .ok (.pointer a) w := fun w a cc => run_arrayAt w _ _ 4 a 4 cc Tryd.underlying41 (Nat.le_refl _)
  rcases ha with rfl | ⟨b, off, rfl, ha⟩
  · go_enter Tryd.func15, Tryd.ntmps15
    go_wp2_with (at_make; refine wpList_make_full _ rfl _ _ 38 rfl w.heap.size 41 i0 (.agg #[.int .i64 0, .int .i64 0, .int .i64 0, .int .i64 0]) 4 Tryd.underlying38 hi hz0 hz1 .i64 .i64 ((([] : List (List Int)).length : Nat) : Int) ((([] : List (List Int)).length : Nat) : Int) ([] : List (List Int)).length rfl rfl rfl rfl (by rw [hz2]; omega) (by unfold maxLen; omega) (by simp) ?_; intro w1 oo hg; have hL : Below w.heap.size w w1 := Below.grown (by go_grown) hg (by simp) (by simp); replace k0 := k0.grown hg (by simp))
    refine wp_loop_rounds 1 ?_
    rw [rounds_succ]
    go_wp2
    go_ret
    refine ⟨_, rfl, ?_, hL⟩
    have h := oo
    rw [cellsC_zero []] at h
    simp only [World.size_alloc] at h
    exact h
  · have Ha : Hid (∀ i, i < xss.length → ∃ cb co cc, w.cell? ⟨b, off + i, none⟩ = some (.slice (some ⟨cb, co, none⟩) 4 cc) ∧ ∀ j, j < 4 → w.cell? ⟨cb, co + j, none⟩ = some (.int .i64 ((xss.getD i []).getD j 0))) := fun i hi => by
      obtain ⟨u, hu, hr⟩ := ha i hi
      obtain ⟨cb, co, cc, rfl, h⟩ := hr.four (h4 i hi)
      exact ⟨cb, co, cc, hu, h⟩
    clear ha h4
    generalize hnn : xss.length = n at *
    have HN := Lib.hid hnn
    clear hnn
    go_enter Tryd.func15, Tryd.ntmps15
    go_wp2_with (at_make; refine wpList_make_full _ rfl _ _ 38 rfl w.heap.size 41 i0 (.agg #[.int .i64 0, .int .i64 0, .int .i64 0, .int .i64 0]) 4 Tryd.underlying38 hi hz0 hz1 .i64 .i64 (n : Int) (n : Int) n rfl rfl rfl rfl (by rw [hz2]; omega) (by unfold maxLen; omega) (by simp) ?_; intro w1 oo hg; have hL : Below w.heap.size w w1 := Below.grown (by go_grown) hg (by simp) (by simp); replace k0 := k0.grown hg (by simp))
    simp only [World.size_alloc] at oo ⊢
    rw [cellsC_zero xss n] at oo
    clear hg hi hz0 hz1 hz2 k0
    go_loopw [13] (fun c wr => ∃ k : Nat, k ≤ n ∧ c = .int .i64 (k : Int) ∧ Below w.heap.size w wr ∧ wr.ownsRow w.heap.size 41 4 (.slice (some ⟨w.heap.size + 1, 0, none⟩) n n) n (cellsC xss n k)) (fun c _ => n - (intOf c).toNat)
    case atStart => exact ⟨0, Nat.zero_le _, rfl, hL, oo⟩
    case round =>
      clear hL oo
      obtain ⟨k, hk, rfl, hL, hO⟩ := hrel
      by_cases hlt : k < n
      · obtain ⟨cb, co, cc, h1, h2⟩ := Ha.out k hlt
        have hca := cell_later hL h1
        have c0 := cell_later hL (h2 0 (by omega))
        have c1 := cell_later hL (h2 1 (by omega))
        have c2 := cell_later hL (h2 2 (by omega))
        have c3 := cell_later hL (h2 3 (by omega))
        simp only [Nat.add_zero] at c0
        have hi1 : (k : Int) < (n : Int) := by omega
        have hi0 : (0 : Int) ≤ (k : Int) := by omega
        have old : ∀ j, j < 4 → ∃ u, wr.cell? ⟨w.heap.size + 1, k * 4 + j, none⟩ = some u := fun j hj => by
          rw [hO.cellAt (k * 4 + j) (by omega)]
          have := hO.1
          exact ⟨_, List.getElem?_eq_getElem (by omega)⟩
        obtain ⟨u0, o0⟩ := old 0 (by omega)
        obtain ⟨u1, o1⟩ := old 1 (by omega)
        obtain ⟨u2, o2⟩ := old 2 (by omega)
        obtain ⟨u3, o3⟩ := old 3 (by omega)
        simp only [Nat.add_zero] at o0
        have f0 := hO.frozenAt (k * 4)
        have f1 := hO.frozenAt (k * 4 + 1)
        have f2 := hO.frozenAt (k * 4 + 2)
        have f3 := hO.frozenAt (k * 4 + 3)
        have HS := Lib.hid ((((hO.stored (k * 4) (.int .i64 ((xss.getD k []).getD 0 0))).1.stored (k * 4 + 1) (.int .i64 ((xss.getD k []).getD 1 0))).1.stored (k * 4 + 2) (.int .i64 ((xss.getD k []).getD 2 0))).1.stored (k * 4 + 3) (.int .i64 ((xss.getD k []).getD 3 0))).1
        rw [cellsC_step xss n k hlt] at HS
        generalize (xss.getD k []).getD 0 0 = x0 at *
        generalize (xss.getD k []).getD 1 0 = x1 at *
        generalize (xss.getD k []).getD 2 0 = x2 at *
        generalize (xss.getD k []).getD 3 0 = x3 at *
        clear h1 h2 old hO
        go_wp2_with fail
        go_roundw
        case rel => exact ⟨k + 1, by omega, by go_num, (((hL.setCell (p := ⟨w.heap.size + 1, k * 4, none⟩) (by simp) _).setCell (p := ⟨w.heap.size + 1, k * 4 + 1, none⟩) (by simp) _).setCell (p := ⟨w.heap.size + 1, k * 4 + 2, none⟩) (by simp) _).setCell (p := ⟨w.heap.size + 1, k * 4 + 3, none⟩) (by simp) _, HS.out⟩
        case measure => simp [intOf]; omega
      · have e : k = n := by omega
        subst e
        go_wp2_with fail
        go_ret
        refine ⟨_, rfl, ?_, hL⟩
        unfold OwnsC
        rw [HN.out]
        exact hO

end Go.Proofs.YtglbndobbmgjmaaDoor
