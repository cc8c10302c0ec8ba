/- The tables that a wiring has with one wire broken: the program's. -/
import Derived.Test.YtkdidplpnhokiaaTw
import Derived.Test.YtkdidplpnhokiaaCts
import Derived.Deep.RegionHeld3
namespace Go.Proofs.Ytkdidplpnhokiaa
open Go.RowKit
set_option linter.unusedVariables false

theorem infoTab : (Try.prog.info? 44).map (fun i => (i.zero, i.size, i.bytes)) = some (some (.agg #[.int .i64 0, .int .i64 0]), 2, 16) := by kernel_rfl
/-- the cells of n tables of N inputs, the first k of f, zeros behind -/
def cellsT (N : Int) (f : Nat → Int) (n k : Nat) : List Value := (List.range (n * 2)).map fun q => .int .i64 (if q / 2 < k then (if q % 2 = 0 then N else f (q / 2)) else 0)
theorem cellsT_step (N : Int) (f : Nat → Int) (n k : Nat) (hk : k < n) :
    ((cellsT N f n k).set (k * 2) (.int .i64 N)).set (k * 2 + 1) (.int .i64 (f k)) = cellsT N f n (k + 1) := by
  unfold cellsT
  apply List.ext_getElem
  · simp
  · intro q h1 h2
    simp only [List.getElem_set, List.getElem_map, List.getElem_range]
    by_cases e1 : k * 2 + 1 = q
    · have a : q / 2 = k := by omega
      have b : ¬ q % 2 = 0 := by omega
      rw [if_pos e1, if_pos (by omega), if_neg b, a]
    · rw [if_neg e1]
      by_cases e0 : k * 2 = q
      · have b : q % 2 = 0 := by omega
        rw [if_pos e0, if_pos (by omega), if_pos b]
      · rw [if_neg e0]
        by_cases h : q / 2 < k
        · simp only [if_pos h, if_pos (show q / 2 < k + 1 by omega)]
        · simp only [if_neg h, if_neg (show ¬ q / 2 < k + 1 by omega)]
theorem cellsT_zero (N : Int) (f : Nat → Int) (n : Nat) : (madeCells (Value.agg #[.int .i64 0, .int .i64 0]).cells (n * 2)).toList = cellsT N f n 0 := by
  unfold cellsT
  apply List.ext_getElem
  · simp [madeCells]
  · intro q h1 h2
    have h : q % 2 = 0 ∨ q % 2 = 1 := by omega
    rcases h with h | h <;> simp [madeCells, Value.cells, h]
/-- the slice v has n tables of N inputs in a block of the call's own -/
def OwnsT (w : World) (B : Nat) (v : Value) (N : Int) (f : Nat → Int) (n : Nat) : Prop := w.ownsRow B 44 2 v n (cellsT N f n n)
def ReadsT (w : World) (v : Value) (N : Int) (f : Nat → Int) (n : Nat) : Prop := ∃ g cap, v = .slice (some ⟨g, 0, none⟩) n cap ∧ ∀ i, i < n → w.cell? ⟨g, i * 2, none⟩ = some (.int .i64 N) ∧ w.cell? ⟨g, i * 2 + 1, none⟩ = some (.int .i64 (f i))
theorem ReadsT.keep {w w' : World} {v : Value} {N : Int} {f : Nat → Int} {n : Nat} (h : ReadsT w v N f n) (hb : Below w.heap.size w w') : ReadsT w' v N f n := by
  obtain ⟨g, cap, rfl, h⟩ := h
  exact ⟨g, cap, rfl, fun i hi => ⟨cell_later hb (h i hi).1, cell_later hb (h i hi).2⟩⟩
theorem OwnsT.reads {w : World} {B g c : Nat} {N : Int} {f : Nat → Int} {n : Nat} (h : OwnsT w B (.slice (some ⟨g, 0, none⟩) n c) N f n) : ReadsT w (.slice (some ⟨g, 0, none⟩) n c) N f n := by
  refine ⟨g, c, rfl, fun i hi => ?_⟩
  unfold OwnsT at h
  rw [h.cellAt (i * 2) (by omega), h.cellAt (i * 2 + 1) (by omega)]
  have e1 : (i * 2 + 1) / 2 = i := by omega
  have e2 : (i * 2) / 2 = i := by omega
  have e3 : ¬ (i * 2 + 1) % 2 = 0 := by omega
  have e4 : (i * 2) % 2 = 0 := by omega
  unfold cellsT
  rw [List.getElem?_map, List.getElem?_range (by omega), List.getElem?_map, List.getElem?_range (by omega)]
  simp only [Option.map_some, e1, e2, if_pos e4, if_neg e3, if_pos hi, and_self]

/-- the values that the table has without the wire i -/
noncomputable def tabI (xs : List Int) (yss : List (List Int)) (i : Nat) : Int := tabZ xs yss ((2 ^ i : Nat)).testBit

theorem wrap_pow {k : Nat} (h : k < 16) : IntKind.i64.wrap ((2 : Int) ^ k) = ((2 ^ k : Nat) : Int) := by
  have h2 : 2 ^ k < 2 ^ 16 := Nat.pow_lt_pow_right (by decide) h
  have e : ((2 : Int) ^ k) = ((2 ^ k : Nat) : Int) := by simp
  rw [e]
  generalize 2 ^ k = z at *
  simp [IntKind.wrap, IntKind.bits]
  omega
theorem slotsT {w : World} {B g c m k : Nat} {cs : List Value} (h : w.ownsRow B 44 2 (.slice (some ⟨g, 0, none⟩) m c) m cs) (hk : k < m) :
    (∃ u, w.cell? ⟨g, k * 2, none⟩ = some u) ∧ (∃ u, w.cell? ⟨g, k * 2 + 1, none⟩ = some u) ∧ w.frozen? ⟨g, k * 2, none⟩ = false ∧ w.frozen? ⟨g, k * 2 + 1, none⟩ = false := by
  have := h.1
  refine ⟨⟨_, by rw [h.cellAt (k * 2) (by omega)]; exact List.getElem?_eq_getElem (by omega)⟩, ⟨_, by rw [h.cellAt (k * 2 + 1) (by omega)]; exact List.getElem?_eq_getElem (by omega)⟩, h.frozenAt _, h.frozenAt _⟩

set_option maxRecDepth 100000 in
set_option maxHeartbeats 2000000 in
theorem faultTables_any (v : Value) (p : Int) (xs : List Int) (yss : List (List Int)) (w : World) (ha : ReadsW w v p xs yss) (hw : WirW p xs yss) :
    Calls Try.prog 93 #[v] w fun e w' => ∃ g, e = .returned (.slice (some ⟨g, 0, none⟩) yss.length yss.length) ∧ OwnsT w' w.heap.size (.slice (some ⟨g, 0, none⟩) yss.length yss.length) (xs.length : Int) (tabI xs yss) yss.length ∧ Below w.heap.size w w' := by
  obtain ⟨i0, hi, hz0, hz1, hz2⟩ := info_parts infoTab
  have h16 := hw.2.2.1
  have HTB : Hid (∀ k, k < yss.length → ∀ w', Below w.heap.size w w' → Calls Try.prog 82 #[v, .int .i64 (IntKind.i64.wrap ((2 : Int) ^ k))] w' fun e w'' => e = .returned (.agg #[.int .i64 (xs.length : Int), .int .i64 (tabI xs yss k)]) ∧ Below w'.heap.size w' w'') := fun k hk w' hb => by
    rw [wrap_pow (by omega)]
    exact tableWithout_any v p xs yss (2 ^ k) w' (ha.keep hb) hw (Nat.pow_lt_pow_right (by omega) hk) rfl
  obtain ⟨a, ca, b', cb, rfl, hA, hB⟩ := ha
  have h0 := C3.here w (.int .i64 p) (.slice a xs.length ca) (.slice b' yss.length cb) 28
  clear hA hB hw
  generalize hmm : yss.length = m at *
  have HM := Lib.hid hmm
  clear hmm
  generalize hnn : xs.length = n at *
  clear hnn
  go_enter Try.func93, Try.ntmps93
  go_wp2_with (at_make; refine wpList_make_full _ rfl _ _ 100 rfl w.heap.size 44 i0 (.agg #[.int .i64 0, .int .i64 0]) 2 Try.underlying100 hi hz0 hz1 .i64 .i64 (m : Int) (m : Int) m rfl rfl rfl rfl (by rw [hz2]; omega) (by unfold maxLen; omega) (by simp) ?_; intro w1 oo hg; have hL : Below w.heap.size w w1 := Below.grown (by go_grown) hg (by simp) (by simp); replace h0 := h0.grown hg (by simp))
  simp only [World.size_alloc] at oo ⊢
  rw [cellsT_zero (n : Int) (tabI xs yss) m] at oo
  clear hg hi hz0 hz1 hz2
  go_loopw [11] (fun c wr => ∃ k : Nat, k ≤ m ∧ c = .int .i64 (k : Int) ∧ Below w.heap.size w wr ∧ C3 wr w.heap.size (.int .i64 p) (.slice a n ca) (.slice b' m cb) ∧ wr.ownsRow w.heap.size 44 2 (.slice (some ⟨w.heap.size + 1, 0, none⟩) m m) m (cellsT (n : Int) (tabI xs yss) m k)) (fun c _ => m - (intOf c).toNat)
  case atStart => exact ⟨0, Nat.zero_le _, rfl, hL, h0, oo⟩
  case round =>
    clear hL oo h0
    obtain ⟨k, hk, rfl, hL, h0, hO⟩ := hrel
    by_cases hlt : k < m
    · have hi1 : (k : Int) < (m : Int) := by omega
      have hi0 : (0 : Int) ≤ (k : Int) := by omega
      have HT := Lib.hid (HTB.out k hlt)
      have HO := Lib.hid hO
      have HC := Lib.hid (cellsT_step (n : Int) (tabI xs yss) m k hlt)
      clear hO
      go_wp2_with fail
      go_region_with (go_at_call 82; (with_reducible refine (HT.out _ (by go_grown)).mono ?_); rintro e w5 ⟨rfl, hb⟩; have hL5 := chain (B := w.heap.size) (a := w) (by go_grown) (Nat.le_refl _) hb; have h05 := keepAt3 (b := w.heap.size) (x := .int .i64 p) (y := .slice a n ca) (z := .slice b' m cb) hb (by (repeat' (first | (with_reducible assumption) | (with_reducible refine C3.drewU ?_) | (with_reducible refine C3.alloc ?_ _)))); have HO5 := Lib.hid (rowLater HO.out (chain (B := wr.heap.size) (a := wr) (by go_grown) (Nat.le_refl _) hb)); obtain ⟨⟨u0, o0⟩, ⟨u1, o1⟩, f0, f1⟩ := slotsT HO5.out hlt; clear hb)
      all_goals
       have HS := Lib.hid ((HO5.out.stored (k * 2) (.int .i64 (n : Int))).1.stored (k * 2 + 1) (.int .i64 (tabI xs yss k))).1
       rw [HC.out] at HS
       go_wp2_with fail
       go_roundw
       case rel => exact ⟨k + 1, by omega, by go_num, by go_grown, (h05.set _ _ _ (by omega)).set _ _ _ (by omega), HS.out⟩
       case measure => simp [intOf]; omega
    · have e : k = m := by omega
      subst e
      go_wp2_with fail
      go_ret
      exact ⟨_, rfl, hO, hL⟩

end Go.Proofs.Ytkdidplpnhokiaa
