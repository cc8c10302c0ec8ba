/- networkOf: a network out of contacts, put in order. -/
import Derived.Test.YtibfenkaoaclfaaPdq
import Derived.Test.YtibfenkaoaclfaaClone
import Derived.Test.YtibfenkaoaclfaaNetCp
import Derived.Test.YtibfenkaoaclfaaPut
import Derived.Deep.RegionHeld3
import Derived.Deep.AppendLies
import Derived.Deep.RegionLaw
namespace Go.Proofs.Ytibfenkaoaclfaa
open Go.RowKit
set_option linter.unusedVariables false

theorem own2_nil (w : World) (B C : Nat) : Own2 w B C (.slice none 0 0) [] :=
  ⟨fun _ => .slice none 0 0, World.ownsRow_nil _ _ _ _, fun k e => by simp [Value.ownBlock] at e, fun i hi => by simp at hi⟩
theorem Own2.wide {w : World} {B C B' C' : Nat} {v : Value} {xss : List (List Int)} (h : Own2 w B C v xss) (hB : B' ≤ B) (hC : C ≤ C') : Own2 w B' C' v xss := by
  obtain ⟨V, h1, h2, h3⟩ := h
  refine ⟨V, ?_, fun k e => Nat.lt_of_lt_of_le (h2 k e) hC, fun i hi => ⟨(h3 i hi).1.mono hB, fun k e => ⟨Nat.lt_of_lt_of_le ((h3 i hi).2 k e).1 hC, ((h3 i hi).2 k e).2⟩⟩⟩
  refine ⟨h1.1, ?_⟩
  rcases h1.2 with h2 | ⟨g, cap, cur, hv, hbg, r⟩
  · exact .inl h2
  · exact .inr ⟨g, cap, cur, hv, Nat.le_trans hB hbg, r⟩

theorem Own2.setCell {w : World} {B C : Nat} {v : Value} {xss : List (List Int)} (h : Own2 w B C v xss) (p : Addr) (x : Value) (hp : p.block < B) : Own2 (w.setCell p x) B C v xss :=
  h.same fun k h1 _ _ => Below.heap_setCell _ _ _ _ (by omega)
theorem Own2.size {w w' : World} {B : Nat} {v : Value} {xss : List (List Int)} (h : Own2 w B w.heap.size v xss) (e : w.heap.size ≤ w'.heap.size) (hw : Own2 w' B w.heap.size v xss) : Own2 w' B w'.heap.size v xss := hw.wide (Nat.le_refl _) e
/-- the rows of a slice of slices, as the append's law wants them -/
theorem Own2.rows {w w' : World} {B C : Nat} {v : Value} {xss : List (List Int)} (h : Own2 w B C v xss) (hb : Below w.heap.size w w') (o : Obj) : (w'.alloc o).ownsRow B 22 1 v xss.length ((List.range xss.length).map (Classical.choose h)) :=
  World.ownsRow.alloc (rowLater (Classical.choose_spec h).1 hb) o

theorem Own2.rowsN {w w' : World} {B C n : Nat} {v : Value} {xss : List (List Int)} (hn : xss.length = n) (h : Own2 w B C v xss) (hb : Below w.heap.size w w') (o : Obj) : (w'.alloc o).ownsRow B 22 1 v n ((List.range n).map (Classical.choose h)) := by
  subst hn; exact Own2.rows h hb o
theorem Own2.snocN {w w1 w2 : World} {B n g cap : Nat} {v u : Value} {xss : List (List Int)} {c : List Int} (o : Obj) (hn : xss.length = n) (h : Own2 w B w.heap.size v xss) (hB : B ≤ w.heap.size) (hb : Below w.heap.size w w1) (hu : Owns w1 w.heap.size u c)
    (ho : w2.ownsRow B 22 1 (.slice (some ⟨g, 0, none⟩) (n + 1) cap) (n + 1) ((List.range n).map (Classical.choose h) ++ [u])) (hg : (w1.alloc o).grownBy w2 v.ownBlock) (hat : v.ownBlock = some g ∨ g = w1.heap.size + 1) :
    Own2 w2 B w2.heap.size (.slice (some ⟨g, 0, none⟩) (n + 1) cap) (xss ++ [c]) := by
  subst hn
  refine Own2.snoc o h hB hb hu ho hg ?_
  rcases hat with h1 | h1
  · exact .inl h1.symm
  · right; rw [h1]; simp [Value.ownBlock]

set_option maxRecDepth 100000 in
set_option maxHeartbeats 4000000 in
theorem networkOf_any (p : Int) (v : Value) (L : List (List Int)) (base : Nat) (w : World) (hn12 : L.length ≤ 12) (h4 : ∀ c, c ∈ L → c.length = 4) (hb : base ≤ w.heap.size) (ho : OwnsC w base v L) :
    Calls Try.prog 69 #[.int .i64 p, v] w fun e w' => ∃ sa sc, e = .returned (.agg #[.int .i64 p, .slice sa L.length sc]) ∧ Own2 w' w.heap.size w'.heap.size (.slice sa L.length sc) (sortL L) ∧ Put1 (Value.ownBlock v) base w w' := by
  obtain ⟨i0, hi, hz0, hz1, hz2⟩ := info_parts infoRow
  have H4 : Hid (∀ c, c ∈ sortL L → c.length = 4) := fun c hc => h4 c (sortL_mem hc)
  have HSL := Lib.hid (sortL_len L)
  have HSF := Lib.hid (sortFunc_any v L base (w.alloc (.cells #[.int .i64 0, .slice none 0 0] 37)) hn12 h4 (by simp; omega) (World.ownsRow.alloc ho _))
  have hvb : ∀ k, v.ownBlock = some k → base ≤ k ∧ k < w.heap.size := World.ownsRow.lt ho
  have k0 := C2.here w (.int .i64 0) (.slice none 0 0) 37
  have HB := Lib.hid hb
  have h12 := Lib.hid hn12
  obtain ⟨a, cap, rfl, _, _⟩ := ho.reads
  clear ho h4 hb hn12
  go_enter Try.func69, Try.ntmps69
  go_wp2_with fail
  refine HSF.out.mono ?_
  rintro e w1 ⟨rfl, oo, hO⟩
  have hO1 := hO base w.heap.size hvb
  have HRest : Hid (∀ k, k < w.heap.size → Value.ownBlock (.slice a L.length cap) ≠ some k → w1.heap[k]? = w.heap[k]?) := fun k hk hne => by
    have e1 : (w.alloc (.cells #[.int .i64 0, .slice none 0 0] 37)).heap[k]? = w.heap[k]? := Below.heap_alloc w _ k hk
    cases hq : Value.ownBlock (.slice a L.length cap) with
    | none => exact ((hO 0 0 (fun j e => by rw [hq] at e; cases e)).block k (by simp; omega) (.inr (Nat.zero_le _))).trans e1
    | some g => exact ((hO g (g + 1) (fun j e => by rw [hq] at e; cases e; omega)).block k (by simp; omega) (by have : g ≠ k := fun e => hne (by rw [hq, e]); omega)).trans e1
  have k1 := hO1.c2 k0 (.inr (Nat.le_refl _))
  have hs := hO1.size
  rw [World.size_alloc] at hs
  have hL1 : Below base w w1 := ((Below.refl _ w).alloc HB.out _).trans (hO1.below (by rw [World.size_alloc]; have := HB.out; omega))
  have HCells : Hid (∀ i, i < L.length → ∃ b, a = some ⟨b, 0, none⟩ ∧ ∀ j, j < 4 → w1.cell? ⟨b, i * 4 + j, none⟩ = some (.int .i64 (((sortL L).getD i []).getD j 0))) := fun i hi => by
    obtain ⟨a', cap', e, _, hr⟩ := oo.reads
    simp only [Value.slice.injEq] at e
    obtain ⟨rfl, _, _⟩ := e
    rcases hr with hr | ⟨b, rfl, hr⟩
    · have := HSL.out; rw [hr] at this; simp at this; omega
    · exact ⟨b, rfl, fun j hj => hr i (by rw [HSL.out]; exact hi) j hj⟩
  clear hO hO1 k0 hvb oo HSF
  have kx := C2.here w1 (.int .i64 p) (.slice none 0 0) 37
  have hsz1 : (w1.alloc (.cells #[.int .i64 p, .slice none 0 0] 37)).heap.size = w1.heap.size + 1 := by simp
  have o0 : Hid (Own2 (w1.alloc (.cells #[.int .i64 p, .slice none 0 0] 37)) (w1.heap.size + 1) (w1.alloc (.cells #[.int .i64 p, .slice none 0 0] 37)).heap.size (.slice none 0 0) ((sortL L).take 0)) := own2_nil _ _ _
  go_wp2_with fail
  go_loopw [14] (fun c wr => ∃ (k : Nat) (sa : Option Addr) (sc : Nat), k ≤ L.length ∧ c = .int .i64 (k : Int) ∧ Below w1.heap.size w1 wr ∧ C2 wr w1.heap.size (.int .i64 p) (.slice sa k sc) ∧ Hid (Own2 wr (w1.heap.size + 1) wr.heap.size (.slice sa k sc) ((sortL L).take k)))
    (fun c _ => L.length - (intOf c).toNat)
  case atStart => exact ⟨0, none, 0, Nat.zero_le _, rfl, (Below.refl _ _).alloc (Nat.le_refl _) _, kx, o0⟩
  case round =>
    clear kx o0 hsz1
    obtain ⟨k, sa, sc, hk, rfl, hL, kx, HO⟩ := hrel
    by_cases hlt : k < L.length
    · obtain ⟨b, rfl, hc⟩ := HCells.out k hlt
      have hc0 := cell_later hL (hc 0 (by omega))
      have hc1 := cell_later hL (hc 1 (by omega))
      have hc2 := cell_later hL (hc 2 (by omega))
      have hc3 := cell_later hL (hc 3 (by omega))
      simp only [Nat.add_zero] at hc0
      have hi1 : (k : Int) < (L.length : Int) := by omega
      have hi0 : (0 : Int) ≤ (k : Int) := by omega
      have HC4 : Hid (((sortL L).getD k []).length = 4) := H4.out _ (by have := HSL.out; simp [List.getD_eq_getElem?_getD, show k < (sortL L).length by omega])
      have HCE : Hid ((sortL L).getD k [] = [((sortL L).getD k []).getD 0 0, ((sortL L).getD k []).getD 1 0, ((sortL L).getD k []).getD 2 0, ((sortL L).getD k []).getD 3 0]) := four_eq HC4.out
      have HT : Hid ((sortL L).take (k + 1) = (sortL L).take k ++ [(sortL L).getD k []]) := take_succ_getD (by have := HSL.out; omega)
      have HTl : Hid (((sortL L).take k).length = k) := by unfold Hid; have := HSL.out; rw [List.length_take]; omega
      clear hc
      generalize (sortL L).getD k [] = c at *
      generalize c.getD 0 0 = c0 at *
      generalize c.getD 1 0 = c1 at *
      generalize c.getD 2 0 = c2 at *
      generalize c.getD 3 0 = c3 at *
      have HCell : Hid (∀ wx, Below (wr.alloc (.cells #[.int .i64 c0, .int .i64 c1, .int .i64 c2, .int .i64 c3] 77)).heap.size (wr.alloc (.cells #[.int .i64 c0, .int .i64 c1, .int .i64 c2, .int .i64 c3] 77)) wx → ∀ i, i < 4 → wx.cell? ⟨wr.heap.size, 0 + i, none⟩ = some (.int .i64 ([c0, c1, c2, c3].getD i 0))) := fun wx hwx i hi => by
        rw [Nat.zero_add]
        refine cell_later hwx ?_
        rw [World.cell?_alloc_at _ _ _ _ rfl]
        have h : i = 0 ∨ i = 1 ∨ i = 2 ∨ i = 3 := by omega
        rcases h with rfl | rfl | rfl | rfl <;> rfl
      have kx0 := Lib.hid kx
      replace kx := kx.alloc (.cells #[.int .i64 c0, .int .i64 c1, .int .i64 c2, .int .i64 c3] 77)
      have HSep : Hid (Value.ownBlock (.slice sa k sc) ≠ some w1.heap.size) := fun e => by
        obtain ⟨V, h1, _, _⟩ := HO.out
        have := (World.ownsRow.lt h1 _ e).1
        omega
      have HSepB : Hid (∀ q, Value.ownBlock (.slice sa k sc) = some q → w1.heap.size ≤ q) := fun q e => by
        obtain ⟨V, h1, _, _⟩ := HO.out
        have := (World.ownsRow.lt h1 _ e).1
        omega
      have HKl : Hid (k + 1 ≤ L.length) := by unfold Hid; omega
      have HMs : Hid (L.length - (intOf (Value.int .i64 ((k + 1 : Nat) : Int))).toNat < L.length - (intOf (Value.int .i64 (k : Int))).toNat) := by unfold Hid; simp [intOf]; omega
      have hBr : Hid (w1.heap.size + 1 ≤ wr.heap.size) := kx0.out.2.2.2.2
      have hk12 : Hid (k ≤ 12) := by unfold Hid; have := h12.out; omega
      go_wp2_with fail
      go_region_law (first | (refine step_append_lies _ (by rfl) _ _ 35 (by rfl) (w1.heap.size + 1) 22 i0 (.slice none 0 0) 1 24 Try.underlying35 hi hz0 hz1 hz2 (by rfl) (by decide) (.slice sa k sc) k ((List.range k).map (Classical.choose HO.out)) (by rfl) (HRW.out _) ⟨w2.heap.size, 0, none⟩ 1 1 [Value.slice ua 4 uc] (by rfl) (by rfl) (cell_one_new _ _ _) (by simp [Value.oneCell']) (by decide) (by have := hk12.out; unfold maxLen; omega) (by have := hk12.out; omega) (by have := hBr.out; have := hs2.out; rw [World.size_alloc]; omega) (w2.heap.size + 1) (by simp) ?_; intro g cap2 w3 hown hgrow hat hlt3; have kx3 := C2.grown (kx.alloc _) hgrow HSep.out; have HO3 := Lib.hid (Own2.snocN _ HTl.out HO.out hBr.out hX.out ou.out hown hgrow hat); have hB3 : Hid (Below w1.heap.size w1 w3) := ((hL.trans (Below.mono hX.out hL.size)).alloc (by have := hBr.out; have := hs2.out; omega) _).grown hgrow (by have := hBr.out; have := hs2.out; rw [World.size_alloc]; omega) (fun q e => HSepB.out q e); clear hown hgrow hat) | (go_simp; go_at_call 79; (with_reducible refine (clone_any _ _ 4 _ [c0, c1, c2, c3] _ rfl (by decide) (HCell.out _ (by go_grown))).mono ?_); rintro e w2 ⟨u, rfl, ou0, hb⟩; obtain ⟨ua, uc, hu0, _, _⟩ := ou0.reads; (have hu4 : u = .slice ua 4 uc := hu0); subst hu4; clear hu0; have hX := Lib.hid (chain (B := wr.heap.size) (a := wr) (by go_grown) (Nat.le_refl _) hb); replace kx := keepAt hb (show C2 _ _ _ _ from kx); have ou := Lib.hid (ou0.mono (base' := wr.heap.size) (by simp)); have hs2 := Lib.hid hX.out.size; have HRW := Lib.hid (fun o => Own2.rowsN HTl.out HO.out hX.out o); clear hb ou0))
      all_goals (go_wp2_with fail)
      all_goals (have HW : wrap64 ((k : Int) + 1) = ((k + 1 : Nat) : Int) := by rw [IntWalk.wrap64_in _ (by have := hk12.out; omega)]; omega)
      all_goals (rw [HW])
      all_goals (exact ⟨⟨k + 1, some ⟨g, 0, none⟩, cap2, HKl.out, rfl, hB3.out.setCell (p := ⟨w1.heap.size, 1, none⟩) (Nat.le_refl _) _, kx3.put1 _, by rw [HT.out, HCE.out, World.size_setCell]; exact HO3.out.setCell ⟨w1.heap.size, 1, none⟩ _ (Nat.lt_succ_self w1.heap.size)⟩, HMs.out⟩)
    · have e : k = L.length := by omega
      have hs2 : w.heap.size < w1.heap.size + 1 := by omega
      have HOF : Hid (Own2 ((wr.setCell ⟨w.heap.size, 0, none⟩ (.int .i64 p)).setCell ⟨w.heap.size, 1, none⟩ (.slice sa L.length sc)) w.heap.size ((wr.setCell ⟨w.heap.size, 0, none⟩ (.int .i64 p)).setCell ⟨w.heap.size, 1, none⟩ (.slice sa L.length sc)).heap.size (.slice sa L.length sc) (sortL L)) := by
        have h := HO.out
        rw [e, ← HSL.out, List.take_length, HSL.out] at h
        have h2 := (h.setCell ⟨w.heap.size, 0, none⟩ (.int .i64 p) hs2).setCell ⟨w.heap.size, 1, none⟩ (.slice sa L.length sc) hs2
        exact h2.wide (by omega) (by rw [World.size_setCell, World.size_setCell]; exact Nat.le_refl _)
      have hi1 : ¬ (k : Int) < (L.length : Int) := by omega
      rw [e] at kx
      replace k1 := k1.keep hL
      have hBf : Below base w wr := hL1.trans (Below.mono hL (by have := HB.out; omega))
      clear HO e
      go_wp2_with fail
      refine bodyPost_ret (v := .agg #[.int .i64 p, .slice sa L.length sc]) (by simp [results, Try.results69, go_sem, *]) rfl ?_
      refine ⟨sa, sc, rfl, HOF.out, (hBf.setCell (p := ⟨w.heap.size, 0, none⟩) HB.out _).setCell (p := ⟨w.heap.size, 1, none⟩) HB.out _, fun k hk hne => ?_⟩
      rw [Below.heap_setCell _ _ _ _ (show k ≠ w.heap.size by omega), Below.heap_setCell _ _ _ _ (show k ≠ w.heap.size by omega)]
      exact (hL.block k (by omega)).trans (HRest.out k hk hne)

end Go.Proofs.Ytibfenkaoaclfaa
