/- l02Put: the model's insertion of a contact. -/
import Derived.Test.YtibfenkaoaclfaaCmp
import Derived.Test.YtibfenkaoaclfaaInsM
import Derived.Test.YtibfenkaoaclfaaOwn2
import Derived.Maps.AppendAt
import Derived.Deep.AppendLies
import Derived.Deep.RegionWith
namespace Go.Proofs.Ytibfenkaoaclfaa
open Go.RowKit
set_option linter.unusedVariables false

/-- the value u is a slice of four numbers that reads as c and lies in another block than ob -/
def RowAt (w : World) (ob : Option Nat) (u : Value) (c : List Int) : Prop :=
  ∃ rb off rc, u = .slice (some ⟨rb, off, none⟩) 4 rc ∧ c.length = 4 ∧ (∀ j, j < 4 → w.cell? ⟨rb, off + j, none⟩ = some (.int .i64 (c.getD j 0))) ∧ ob ≠ some rb ∧ rb < w.heap.size
theorem RowAt.reads {w : World} {ob : Option Nat} {u : Value} {c : List Int} (h : RowAt w ob u c) : Reads w u c := by
  obtain ⟨rb, off, rc, rfl, h4, hc, _, _⟩ := h
  exact ⟨some ⟨rb, off, none⟩, rc, by rw [h4], by rw [h4]; unfold maxLen; omega, .inr ⟨rb, off, rfl, fun i hi => hc i (by omega)⟩⟩
theorem RowAt.keep {w w' : World} {ob : Option Nat} {u : Value} {c : List Int} (h : RowAt w ob u c) (hb : Below w.heap.size w w') : RowAt w' ob u c := by
  obtain ⟨rb, off, rc, rfl, h4, hc, h1, h2⟩ := h
  have := hb.size
  exact ⟨rb, off, rc, rfl, h4, fun j hj => (hb.cell (p := ⟨rb, off + j, none⟩) h2).trans (hc j hj), h1, by omega⟩
theorem RowAt.grown {w w' : World} {ob ob' : Option Nat} {u : Value} {c : List Int} (h : RowAt w ob u c) (hg : w.grownBy w' ob) (hob : ob' = ob ∨ ∃ g, ob' = some g ∧ w.heap.size ≤ g) : RowAt w' ob' u c := by
  obtain ⟨rb, off, rc, rfl, h4, hc, h1, h2⟩ := h
  have := hg.size
  refine ⟨rb, off, rc, rfl, h4, fun j hj => ?_, ?_, by omega⟩
  · have e := hg.block rb h2 (fun e => h1 e.symm)
    exact (World.cell?_of_block (w := w) e).trans (hc j hj)
  · rcases hob with rfl | ⟨g, rfl, hg2⟩
    · exact h1
    · intro e
      have : g = rb := by simpa using e
      omega
theorem RowAt.set {w : World} {g : Nat} {u : Value} {c : List Int} (h : RowAt w (some g) u c) (p : Addr) (x : Value) (hp : p.block = g) : RowAt (w.setCell p x) (some g) u c := by
  obtain ⟨rb, off, rc, rfl, h4, hc, h1, h2⟩ := h
  refine ⟨rb, off, rc, rfl, h4, fun j hj => ?_, h1, by rw [World.size_setCell]; exact h2⟩
  have e := Below.heap_setCell w p x rb (fun e => h1 (by rw [e, hp]))
  exact (World.cell?_of_block (w := w) e).trans (hc j hj)

/-- a slice of rows: the slice in a block of its own from B on, the rows elsewhere -/
def Rows1 (w : World) (B : Nat) (v : Value) (L : List (List Int)) : Prop :=
  ∃ V : Nat → Value, w.ownsRow B 22 1 v L.length ((List.range L.length).map V) ∧ ∀ i, i < L.length → RowAt w v.ownBlock (V i) (L.getD i [])

/-- what lies in the slice while a place is sought for the new row: the rows but for the place j, where something lies -/
def shiftV (V : Nat → Value) (X : Value) (j i : Nat) : Value := if i < j then V i else if i = j then X else V (i - 1)
theorem shiftV_step (V : Nat → Value) (X : Value) (n j : Nat) (hj : j < n) :
    ((List.range (n + 1)).map (shiftV V X (j + 1))).set (j + 1) (V j) = (List.range (n + 1)).map (shiftV V (V j) j) := by
  apply List.ext_getElem
  · simp
  · intro i h1 h2
    simp only [List.getElem_set, List.getElem_map, List.getElem_range]
    by_cases e : j + 1 = i
    · rw [if_pos e]; unfold shiftV; rw [if_neg (by omega), if_neg (by omega)]
      congr 1; omega
    · rw [if_neg e]; unfold shiftV
      by_cases e2 : i < j
      · rw [if_pos (by omega), if_pos e2]
      · by_cases e3 : i = j
        · rw [if_pos (by omega), if_neg e2, if_pos e3, e3]
        · rw [if_neg (by omega), if_neg (by omega), if_neg e2, if_neg e3]
theorem shiftV_done (V : Nat → Value) (X u : Value) (n j : Nat) (hj : j ≤ n) :
    ((List.range (n + 1)).map (shiftV V X j)).set j u = (List.range (n + 1)).map (shiftV V u j) := by
  apply List.ext_getElem
  · simp
  · intro i h1 h2
    simp only [List.getElem_set, List.getElem_map, List.getElem_range]
    by_cases e : j = i
    · rw [if_pos e]; unfold shiftV; rw [if_neg (by omega), if_pos e.symm]
    · rw [if_neg e]; unfold shiftV
      by_cases e2 : i < j
      · rw [if_pos e2, if_pos e2]
      · rw [if_neg e2, if_neg (by omega), if_neg e2, if_neg (by omega)]
theorem shiftV_first (V : Nat → Value) (u : Value) (n : Nat) : (List.range n).map V ++ [u] = (List.range (n + 1)).map (shiftV V u n) := by
  rw [List.range_succ, List.map_append]
  congr 1
  · apply List.map_congr_left
    intro i hi
    unfold shiftV; rw [if_pos (by simpa using hi)]
  · simp [shiftV]
theorem midL_shift {P : List (List Int)} {x : List Int} {j i : Nat} (hj : j ≤ P.length) (hi : i < P.length + 1) : (midL P x [] j).getD i [] = if i < j then P.getD i [] else if i = j then x else P.getD (i - 1) [] := by
  have h : (P.take j).length = j := by simp; omega
  unfold midL
  simp only [List.getD_eq_getElem?_getD, List.append_nil]
  by_cases h1 : i < j
  · rw [if_pos h1, List.getElem?_append_left (by omega), List.getElem?_take, if_pos h1]
  · rw [if_neg h1, List.getElem?_append_right (by omega), h]
    by_cases h2 : i = j
    · rw [if_pos h2, h2, Nat.sub_self]; rfl
    · rw [if_neg h2]
      obtain ⟨m, rfl⟩ : ∃ m, i = j + 1 + m := ⟨i - j - 1, by omega⟩
      rw [show j + 1 + m - j = m + 1 by omega, show j + 1 + m - 1 = j + m by omega, List.getElem?_cons_succ, List.getElem?_drop]

theorem put_done {wr : World} {B g n cap j : Nat} {V : Nat → Value} {X u : Value} {x : List Int} {L : List (List Int)} (hn : L.length = n) (hj : j ≤ n) (hp : posR L x n = j)
    (ho : wr.ownsRow B 22 1 (.slice (some ⟨g, 0, none⟩) (n + 1) cap) (n + 1) ((List.range (n + 1)).map (shiftV V X j))) (hr : ∀ i, i < n → RowAt wr (some g) (V i) (L.getD i [])) (hu : RowAt wr (some g) u x) :
    Rows1 (wr.setCell ⟨g, j, none⟩ u) B (.slice (some ⟨g, 0, none⟩) (n + 1) cap) (insR L x) := by
  subst hn
  have e : insR L x = midL L x [] j := by unfold insR; rw [hp]
  have hl : (insR L x).length = L.length + 1 := insR_len L x
  refine ⟨shiftV V u j, ?_, fun i hi => ?_⟩
  · rw [hl, ← shiftV_done V X u L.length j hj]
    exact (ho.stored j u).1
  · rw [hl] at hi
    rw [e, midL_shift hj hi]
    unfold shiftV
    show RowAt _ (some g) _ _
    by_cases h1 : i < j
    · rw [if_pos h1, if_pos h1]; exact (hr i (by omega)).set _ _ rfl
    · rw [if_neg h1, if_neg h1]
      by_cases h2 : i = j
      · rw [if_pos h2, if_pos h2]; exact hu.set _ _ rfl
      · rw [if_neg h2, if_neg h2]; exact (hr (i - 1) (by omega)).set _ _ rfl

theorem before_row {w : World} {ob : Option Nat} {u v : Value} {c d : List Int} (h1 : RowAt w ob u c) (h2 : RowAt w ob v d) {z : Bool} (hz : decide (cmpL c d < 0) = z) :
    Calls Try.prog 68 #[u, v] w fun e w' => e = .returned (.bool z) ∧ Below w.heap.size w w' := by
  have e1 := h1.reads
  have e2 := h2.reads
  obtain ⟨_, _, _, _, l1, _⟩ := h1
  obtain ⟨_, _, _, _, l2, _⟩ := h2
  exact before4 u v c d w e1 e2 l1 l2 hz

/-- what lies below B is as it was, and so is every block but one -/
structure Put1 (o : Option Nat) (B : Nat) (w w' : World) : Prop where
  low : Below B w w'
  rest : ∀ k, k < w.heap.size → o ≠ some k → w'.heap[k]? = w.heap[k]?
theorem Put1.later {o : Option Nat} {B : Nat} {w wr w' : World} (h : Put1 o B w wr) (hb : Below wr.heap.size wr w') (hB : B ≤ w.heap.size := by first | assumption | exact (‹Hid (B ≤ w.heap.size)›).out) : Put1 o B w w' :=
  ⟨chain h.low hB hb, fun k hk ho => (hb.block k (Nat.lt_of_lt_of_le hk h.low.size)).trans (h.rest k hk ho)⟩
theorem Put1.setCell {o : Option Nat} {B : Nat} {w wr : World} {p : Addr} (h : Put1 o B w wr) (hB : B ≤ p.block) (ho : some p.block = o ∨ w.heap.size ≤ p.block) (x : Value) : Put1 o B w (wr.setCell p x) :=
  ⟨h.low.setCell hB x, fun k hk hk2 => (Below.heap_setCell wr p x k (fun e => by
    rcases ho with h1 | h1
    · exact hk2 (by rw [← h1, ← e])
    · omega)).trans (h.rest k hk hk2)⟩
theorem Put1.grown {o : Option Nat} {B : Nat} {w wr w' : World} (h : Put1 o B w wr) (hg : wr.grownBy w' o) (hs : B ≤ wr.heap.size) (hr : ∀ k, o = some k → B ≤ k) : Put1 o B w w' :=
  ⟨h.low.grown hg hs hr, fun k hk ho => (hg.block k (Nat.lt_of_lt_of_le hk h.low.size) (fun e => ho e.symm)).trans (h.rest k hk ho)⟩

theorem posR_stop' {P : List (List Int)} {x : List Int} {i : Nat} (h : ¬ cmpL x (P.getD i []) < 0) : posR P x (i + 1) = i + 1 := by
  show (if _ then _ else _) = _
  rw [if_neg h]
theorem posR_go' {P : List (List Int)} {x : List Int} {i : Nat} (h : cmpL x (P.getD i []) < 0) : posR P x (i + 1) = posR P x i := by
  show (if _ then _ else _) = _
  rw [if_pos h]
theorem put_first {w : World} {B g n cap : Nat} {V : Nat → Value} {u : Value} (h : w.ownsRow B 22 1 (.slice (some ⟨g, 0, none⟩) (n + 1) cap) (n + 1) ((List.range n).map V ++ [u])) :
    w.ownsRow B 22 1 (.slice (some ⟨g, 0, none⟩) (n + 1) cap) (n + 1) ((List.range (n + 1)).map (shiftV V u n)) := by
  rw [← shiftV_first]; exact h
theorem _root_.Go.World.ownsRow.cellSome {w : World} {B g n cap : Nat} {e : TypeId} {xs : List Value} (h : w.ownsRow B e 1 (.slice (some ⟨g, 0, none⟩) n cap) n xs) (j : Nat) (hj : j < n) : ∃ u, w.cell? ⟨g, j, none⟩ = some u := by
  rw [h.cellAt j (by omega)]
  have := h.1
  exact ⟨_, List.getElem?_eq_getElem (by omega)⟩

set_option maxRecDepth 100000 in
set_option maxHeartbeats 4000000 in
theorem l02Put_lt (sa : Option Addr) (n sc : Nat) (L : List (List Int)) (B : Nat) (a b c d : Int) (w : World) (hab : a < b) (hba : ¬ b < a) (hn : L.length = n) (hR : Rows1 w B (.slice sa n sc) L) (hn12 : n ≤ 1000) (hB : B ≤ w.heap.size) :
    Calls Try.prog 49 #[.slice sa n sc, .int .i64 a, .int .i64 b, .int .i64 c, .int .i64 d] w fun e w' => ∃ g cap, e = .returned (.slice (some ⟨g, 0, none⟩) (n + 1) cap) ∧ Rows1 w' B (.slice (some ⟨g, 0, none⟩) (n + 1) cap) (insR L [a, b, c, d]) ∧ Put1 (Value.slice sa n sc).ownBlock B w w' ∧ (some g = (Value.slice sa n sc).ownBlock ∨ w.heap.size ≤ g) := by
  obtain ⟨i0, hi, hz0, hz1, hz2⟩ := info_parts infoRow
  obtain ⟨V, h1, h2⟩ := hR
  rw [hn] at h1 h2
  have hvb : ∀ k, (Value.slice sa n sc).ownBlock = some k → B ≤ k ∧ k < w.heap.size := World.ownsRow.lt h1
  have HN := Lib.hid hn
  have H1 := Lib.hid h1
  have H2 := Lib.hid h2
  have HB := Lib.hid hB
  have HVB := Lib.hid hvb
  have H12 := Lib.hid hn12
  have hL2 : Below w.heap.size w ((w.alloc (.cells #[.int .i64 a, .int .i64 b, .int .i64 c, .int .i64 d] 2)).alloc (.cells #[.slice (some ⟨w.heap.size, 0, none⟩) 4 4] 22)) := ((Below.refl _ _).alloc (Nat.le_refl _) _).alloc (by simp) _
  have HR2 : Hid (∀ i, i < n → RowAt ((w.alloc (.cells #[.int .i64 a, .int .i64 b, .int .i64 c, .int .i64 d] 2)).alloc (.cells #[.slice (some ⟨w.heap.size, 0, none⟩) 4 4] 22)) (Value.slice sa n sc).ownBlock (V i) (L.getD i [])) := fun i hi => (h2 i hi).keep hL2
  have HU2 : Hid (RowAt ((w.alloc (.cells #[.int .i64 a, .int .i64 b, .int .i64 c, .int .i64 d] 2)).alloc (.cells #[.slice (some ⟨w.heap.size, 0, none⟩) 4 4] 22)) (Value.slice sa n sc).ownBlock (.slice (some ⟨w.heap.size, 0, none⟩) 4 4) [a, b, c, d]) := by
    refine ⟨w.heap.size, 0, 4, rfl, rfl, fun j hj => ?_, fun e => ?_, by simp; omega⟩
    · rw [World.cell?_alloc_past _ _ _ (by simp), World.cell?_alloc_at _ _ _ _ rfl]
      have h : j = 0 ∨ j = 1 ∨ j = 2 ∨ j = 3 := by omega
      rcases h with rfl | rfl | rfl | rfl <;> rfl
    · have := (hvb _ e).2
      omega
  have HLB : Hid (Put1 (Value.slice sa n sc).ownBlock B w ((w.alloc (.cells #[.int .i64 a, .int .i64 b, .int .i64 c, .int .i64 d] 2)).alloc (.cells #[.slice (some ⟨w.heap.size, 0, none⟩) 4 4] 22))) := ⟨((Below.refl _ _).alloc hB _).alloc (by simp; omega) _, fun k hk _ => hL2.block k hk⟩
  have HNw : Hid (∀ j u, [Value.slice (some ⟨w.heap.size, 0, none⟩) 4 4][j]? = some u → ((w.alloc (.cells #[.int .i64 a, .int .i64 b, .int .i64 c, .int .i64 d] 2)).alloc (.cells #[.slice (some ⟨w.heap.size, 0, none⟩) 4 4] 22)).cell? ((⟨w.heap.size + 1, 0, none⟩ : Addr).add j) = some u) := by
    have := cell_one_new (w.alloc (.cells #[.int .i64 a, .int .i64 b, .int .i64 c, .int .i64 d] 2)) (.slice (some ⟨w.heap.size, 0, none⟩) 4 4) 22
    rw [World.size_alloc] at this
    exact this
  clear hn h1 h2 hB hvb hn12 hL2
  go_enter Try.func49, Try.ntmps49
  go_wp2_with (at_builtin; refine wpList_append_lies _ rfl _ _ 35 rfl B 22 i0 (.slice none 0 0) 1 24 Try.underlying35 hi hz0 hz1 hz2 rfl (by decide) (.slice sa n sc) n ((List.range n).map V) rfl (World.ownsRow.alloc (World.ownsRow.alloc H1.out _) _) ⟨w.heap.size + 1, 0, none⟩ 1 1 [.slice (some ⟨w.heap.size, 0, none⟩) 4 4] rfl rfl HNw.out (by simp [Value.oneCell']) (by decide) (by have := H12.out; unfold maxLen; omega) (by have := H12.out; omega) (by have := HB.out; simp; omega) (w.heap.size + 2) (by simp) ?_; intro g cap w2 hown hgrow hat hlt; have OC := Lib.hid (put_first hown); have HatG : Hid (some g = (Value.slice sa n sc).ownBlock ∨ ∃ g', some g = some g' ∧ ((w.alloc (.cells #[.int .i64 a, .int .i64 b, .int .i64 c, .int .i64 d] 2)).alloc (.cells #[.slice (some ⟨w.heap.size, 0, none⟩) 4 4] 22)).heap.size ≤ g') := (by unfold Hid; rcases hat with h | h; (exact .inl h.symm); (exact .inr ⟨g, rfl, by rw [h]; simp⟩)); have RC := Lib.hid (fun i hi => (HR2.out i hi).grown hgrow HatG.out); have UC := Lib.hid (HU2.out.grown hgrow HatG.out); have LB := Lib.hid (HLB.out.grown hgrow (by have := HB.out; simp; omega) (fun k e => (HVB.out k e).1)); have HGO : Hid (some g = (Value.slice sa n sc).ownBlock ∨ w.heap.size ≤ g) := (by unfold Hid; rcases hat with h | h; (exact .inl h.symm); (exact .inr (by rw [h]; omega))); have HGB : Hid (B ≤ g) := (World.ownsRow.lt hown g rfl).1; clear hown hgrow hat hlt)
  go_loopw [12] (fun cc wr => ∃ (j : Nat) (X : Value), j ≤ n ∧ cc = .int .i64 (j : Int) ∧ Hid (Put1 (Value.slice sa n sc).ownBlock B w wr) ∧ Hid (wr.ownsRow B 22 1 (.slice (some ⟨g, 0, none⟩) (n + 1) cap) (n + 1) ((List.range (n + 1)).map (shiftV V X j))) ∧ Hid (∀ i, i < n → RowAt wr (some g) (V i) (L.getD i [])) ∧ Hid (RowAt wr (some g) (.slice (some ⟨w.heap.size, 0, none⟩) 4 4) [a, b, c, d]) ∧ Hid (posR L [a, b, c, d] j = posR L [a, b, c, d] n))
    (fun cc _ => (intOf cc).toNat)
  case atStart => exact ⟨n, _, Nat.le_refl _, rfl, LB, OC, RC, UC, rfl⟩
  case round =>
    clear OC RC UC LB
    obtain ⟨j, X, hj, rfl, LB, OC, RC, UC, HP⟩ := hrel
    rcases Nat.eq_zero_or_pos j with hz | hp
    · subst hz
      have HF := Lib.hid (put_done HN.out (Nat.zero_le n) (HP.out.symm.trans rfl) OC.out RC.out UC.out)
      obtain ⟨old, hold⟩ := OC.out.cellSome 0 (by omega)
      have hfr := OC.out.frozenAt 0
      have hn1 : (0 : Int) < (n : Int) + 1 := by omega
      go_wp2_with fail
      go_ret
      exact ⟨g, cap, rfl, HF.out, LB.out.setCell (p := ⟨g, 0, none⟩) HGB.out HGO.out _, HGO.out⟩
    · obtain ⟨i, rfl⟩ : ∃ i, j = i + 1 := ⟨j - 1, by omega⟩
      have hin : i < n := by omega
      have hcv : wr.cell? ⟨g, i, none⟩ = some (V i) := by
        rw [OC.out.cellAt i (by omega), List.getElem?_map, List.getElem?_range (by omega)]
        simp [shiftV]
      obtain ⟨old, hold⟩ := OC.out.cellSome (i + 1) (by omega)
      have hfr := OC.out.frozenAt (i + 1)
      have hrow := RC.out i hin
      obtain ⟨rb, off, rc, hVi, hrest⟩ := hrow
      have HVi := Lib.hid hVi
      have HRow : Hid (RowAt wr (some g) (.slice (some ⟨rb, off, none⟩) 4 rc) (L.getD i [])) := ⟨rb, off, rc, rfl, hrest⟩
      rw [hVi] at hcv
      clear hVi hrest
      have HGW : Hid (B ≤ w.heap.size) := HB.out
      generalize hJ : (((i + 1 : Nat)) : Int) = J at *
      have HMs : Hid (((i : Int)).toNat < J.toNat) := by unfold Hid; omega
      have g1 : decide ((0 : Int) < J) = true := decide_eq_true (by omega)
      have g2 : (0 : Int) < J := by omega
      have g3 : (0 : Int) ≤ J := by omega
      have g4 : J < (n : Int) + 1 := by omega
      have g5 : J.toNat = i + 1 := by omega
      have g6 : J - 1 = (i : Int) := by omega
      have g7 : (0 : Int) ≤ (i : Int) := by omega
      have g8 : (i : Int) < (n : Int) + 1 := by omega
      clear hJ
      have HI0 : Hid (i ≤ n) := by unfold Hid; omega
      have HI1 : Hid (i + 1 ≤ n) := by unfold Hid; omega
      have g9 : wrap64 (i : Int) = (i : Int) := IntWalk.wrap64_in _ (by have := H12.out; omega)
      by_cases hc : cmpL [a, b, c, d] (L.getD i []) < 0
      · have HZ : Hid (decide (cmpL [a, b, c, d] (L.getD i []) < 0) = true) := decide_eq_true hc
        have HPn : Hid (posR L [a, b, c, d] i = posR L [a, b, c, d] n) := by unfold Hid; rw [← HP.out, posR_go' hc]
        have HI := HI0
        clear hc HP
        go_wp2_with (go_at_call 68; (with_reducible refine (before_row UC.out HRow.out HZ.out).mono ?_); rintro e w3 ⟨rfl, hb⟩; replace hcv := cell_later hb hcv; replace hold := cell_later hb hold; replace OC := Lib.hid (rowLater OC.out hb); replace RC := Lib.hid (fun q hq => (RC.out q hq).keep hb); replace UC := Lib.hid (UC.out.keep hb); replace LB := Lib.hid (LB.out.later hb); replace hfr := OC.out.frozenAt (i + 1); clear hb)
        rw [g9]
        have HO2 : Hid ((w3.setCell ⟨g, i + 1, none⟩ (.slice (some ⟨rb, off, none⟩) 4 rc)).ownsRow B 22 1 (.slice (some ⟨g, 0, none⟩) (n + 1) cap) (n + 1) ((List.range (n + 1)).map (shiftV V (V i) i))) := by
          unfold Hid
          rw [← HVi.out, ← shiftV_step V X n i hin]
          exact (OC.out.stored (i + 1) (V i)).1
        exact ⟨⟨i, V i, HI.out, rfl, LB.out.setCell (p := ⟨g, i + 1, none⟩) HGB.out HGO.out _, HO2, fun q hq => (RC.out q hq).set _ _ rfl, UC.out.set _ _ rfl, HPn⟩, HMs.out⟩
      · have HZ : Hid (decide (cmpL [a, b, c, d] (L.getD i []) < 0) = false) := decide_eq_false hc
        have HF0 : Hid (posR L [a, b, c, d] n = i + 1) := by unfold Hid; rw [← HP.out, posR_stop' hc]
        have HI := HI1
        clear hc HP
        go_wp2_with (go_at_call 68; (with_reducible refine (before_row UC.out HRow.out HZ.out).mono ?_); rintro e w3 ⟨rfl, hb⟩; replace hcv := cell_later hb hcv; replace hold := cell_later hb hold; replace OC := Lib.hid (rowLater OC.out hb); replace RC := Lib.hid (fun q hq => (RC.out q hq).keep hb); replace UC := Lib.hid (UC.out.keep hb); replace LB := Lib.hid (LB.out.later hb); replace hfr := OC.out.frozenAt (i + 1); clear hb)
        go_ret
        have HF := Lib.hid (put_done HN.out HI.out HF0.out OC.out RC.out UC.out)
        exact ⟨g, cap, rfl, HF.out, LB.out.setCell (p := ⟨g, i + 1, none⟩) HGB.out HGO.out _, HGO.out⟩

set_option maxRecDepth 100000 in
set_option maxHeartbeats 4000000 in
theorem l02Put_gt (sa : Option Addr) (n sc : Nat) (L : List (List Int)) (B : Nat) (a b c d : Int) (w : World) (hab : ¬ a < b) (hba : b < a) (hn : L.length = n) (hR : Rows1 w B (.slice sa n sc) L) (hn12 : n ≤ 1000) (hB : B ≤ w.heap.size) :
    Calls Try.prog 49 #[.slice sa n sc, .int .i64 a, .int .i64 b, .int .i64 c, .int .i64 d] w fun e w' => ∃ g cap, e = .returned (.slice (some ⟨g, 0, none⟩) (n + 1) cap) ∧ Rows1 w' B (.slice (some ⟨g, 0, none⟩) (n + 1) cap) (insR L [b, a, c, d]) ∧ Put1 (Value.slice sa n sc).ownBlock B w w' ∧ (some g = (Value.slice sa n sc).ownBlock ∨ w.heap.size ≤ g) := by
  obtain ⟨i0, hi, hz0, hz1, hz2⟩ := info_parts infoRow
  obtain ⟨V, h1, h2⟩ := hR
  rw [hn] at h1 h2
  have hvb : ∀ k, (Value.slice sa n sc).ownBlock = some k → B ≤ k ∧ k < w.heap.size := World.ownsRow.lt h1
  have HN := Lib.hid hn
  have H1 := Lib.hid h1
  have H2 := Lib.hid h2
  have HB := Lib.hid hB
  have HVB := Lib.hid hvb
  have H12 := Lib.hid hn12
  have hL2 : Below w.heap.size w ((w.alloc (.cells #[.int .i64 b, .int .i64 a, .int .i64 c, .int .i64 d] 2)).alloc (.cells #[.slice (some ⟨w.heap.size, 0, none⟩) 4 4] 22)) := ((Below.refl _ _).alloc (Nat.le_refl _) _).alloc (by simp) _
  have HR2 : Hid (∀ i, i < n → RowAt ((w.alloc (.cells #[.int .i64 b, .int .i64 a, .int .i64 c, .int .i64 d] 2)).alloc (.cells #[.slice (some ⟨w.heap.size, 0, none⟩) 4 4] 22)) (Value.slice sa n sc).ownBlock (V i) (L.getD i [])) := fun i hi => (h2 i hi).keep hL2
  have HU2 : Hid (RowAt ((w.alloc (.cells #[.int .i64 b, .int .i64 a, .int .i64 c, .int .i64 d] 2)).alloc (.cells #[.slice (some ⟨w.heap.size, 0, none⟩) 4 4] 22)) (Value.slice sa n sc).ownBlock (.slice (some ⟨w.heap.size, 0, none⟩) 4 4) [b, a, c, d]) := by
    refine ⟨w.heap.size, 0, 4, rfl, rfl, fun j hj => ?_, fun e => ?_, by simp; omega⟩
    · rw [World.cell?_alloc_past _ _ _ (by simp), World.cell?_alloc_at _ _ _ _ rfl]
      have h : j = 0 ∨ j = 1 ∨ j = 2 ∨ j = 3 := by omega
      rcases h with rfl | rfl | rfl | rfl <;> rfl
    · have := (hvb _ e).2
      omega
  have HLB : Hid (Put1 (Value.slice sa n sc).ownBlock B w ((w.alloc (.cells #[.int .i64 b, .int .i64 a, .int .i64 c, .int .i64 d] 2)).alloc (.cells #[.slice (some ⟨w.heap.size, 0, none⟩) 4 4] 22))) := ⟨((Below.refl _ _).alloc hB _).alloc (by simp; omega) _, fun k hk _ => hL2.block k hk⟩
  have HNw : Hid (∀ j u, [Value.slice (some ⟨w.heap.size, 0, none⟩) 4 4][j]? = some u → ((w.alloc (.cells #[.int .i64 b, .int .i64 a, .int .i64 c, .int .i64 d] 2)).alloc (.cells #[.slice (some ⟨w.heap.size, 0, none⟩) 4 4] 22)).cell? ((⟨w.heap.size + 1, 0, none⟩ : Addr).add j) = some u) := by
    have := cell_one_new (w.alloc (.cells #[.int .i64 b, .int .i64 a, .int .i64 c, .int .i64 d] 2)) (.slice (some ⟨w.heap.size, 0, none⟩) 4 4) 22
    rw [World.size_alloc] at this
    exact this
  clear hn h1 h2 hB hvb hn12 hL2
  go_enter Try.func49, Try.ntmps49
  go_wp2_with (at_builtin; refine wpList_append_lies _ rfl _ _ 35 rfl B 22 i0 (.slice none 0 0) 1 24 Try.underlying35 hi hz0 hz1 hz2 rfl (by decide) (.slice sa n sc) n ((List.range n).map V) rfl (World.ownsRow.alloc (World.ownsRow.alloc H1.out _) _) ⟨w.heap.size + 1, 0, none⟩ 1 1 [.slice (some ⟨w.heap.size, 0, none⟩) 4 4] rfl rfl HNw.out (by simp [Value.oneCell']) (by decide) (by have := H12.out; unfold maxLen; omega) (by have := H12.out; omega) (by have := HB.out; simp; omega) (w.heap.size + 2) (by simp) ?_; intro g cap w2 hown hgrow hat hlt; have OC := Lib.hid (put_first hown); have HatG : Hid (some g = (Value.slice sa n sc).ownBlock ∨ ∃ g', some g = some g' ∧ ((w.alloc (.cells #[.int .i64 b, .int .i64 a, .int .i64 c, .int .i64 d] 2)).alloc (.cells #[.slice (some ⟨w.heap.size, 0, none⟩) 4 4] 22)).heap.size ≤ g') := (by unfold Hid; rcases hat with h | h; (exact .inl h.symm); (exact .inr ⟨g, rfl, by rw [h]; simp⟩)); have RC := Lib.hid (fun i hi => (HR2.out i hi).grown hgrow HatG.out); have UC := Lib.hid (HU2.out.grown hgrow HatG.out); have LB := Lib.hid (HLB.out.grown hgrow (by have := HB.out; simp; omega) (fun k e => (HVB.out k e).1)); have HGO : Hid (some g = (Value.slice sa n sc).ownBlock ∨ w.heap.size ≤ g) := (by unfold Hid; rcases hat with h | h; (exact .inl h.symm); (exact .inr (by rw [h]; omega))); have HGB : Hid (B ≤ g) := (World.ownsRow.lt hown g rfl).1; clear hown hgrow hat hlt)
  go_loopw [12] (fun cc wr => ∃ (j : Nat) (X : Value), j ≤ n ∧ cc = .int .i64 (j : Int) ∧ Hid (Put1 (Value.slice sa n sc).ownBlock B w wr) ∧ Hid (wr.ownsRow B 22 1 (.slice (some ⟨g, 0, none⟩) (n + 1) cap) (n + 1) ((List.range (n + 1)).map (shiftV V X j))) ∧ Hid (∀ i, i < n → RowAt wr (some g) (V i) (L.getD i [])) ∧ Hid (RowAt wr (some g) (.slice (some ⟨w.heap.size, 0, none⟩) 4 4) [b, a, c, d]) ∧ Hid (posR L [b, a, c, d] j = posR L [b, a, c, d] n))
    (fun cc _ => (intOf cc).toNat)
  case atStart => exact ⟨n, _, Nat.le_refl _, rfl, LB, OC, RC, UC, rfl⟩
  case round =>
    clear OC RC UC LB
    obtain ⟨j, X, hj, rfl, LB, OC, RC, UC, HP⟩ := hrel
    rcases Nat.eq_zero_or_pos j with hz | hp
    · subst hz
      have HF := Lib.hid (put_done HN.out (Nat.zero_le n) (HP.out.symm.trans rfl) OC.out RC.out UC.out)
      obtain ⟨old, hold⟩ := OC.out.cellSome 0 (by omega)
      have hfr := OC.out.frozenAt 0
      have hn1 : (0 : Int) < (n : Int) + 1 := by omega
      go_wp2_with fail
      go_ret
      exact ⟨g, cap, rfl, HF.out, LB.out.setCell (p := ⟨g, 0, none⟩) HGB.out HGO.out _, HGO.out⟩
    · obtain ⟨i, rfl⟩ : ∃ i, j = i + 1 := ⟨j - 1, by omega⟩
      have hin : i < n := by omega
      have hcv : wr.cell? ⟨g, i, none⟩ = some (V i) := by
        rw [OC.out.cellAt i (by omega), List.getElem?_map, List.getElem?_range (by omega)]
        simp [shiftV]
      obtain ⟨old, hold⟩ := OC.out.cellSome (i + 1) (by omega)
      have hfr := OC.out.frozenAt (i + 1)
      have hrow := RC.out i hin
      obtain ⟨rb, off, rc, hVi, hrest⟩ := hrow
      have HVi := Lib.hid hVi
      have HRow : Hid (RowAt wr (some g) (.slice (some ⟨rb, off, none⟩) 4 rc) (L.getD i [])) := ⟨rb, off, rc, rfl, hrest⟩
      rw [hVi] at hcv
      clear hVi hrest
      have HGW : Hid (B ≤ w.heap.size) := HB.out
      generalize hJ : (((i + 1 : Nat)) : Int) = J at *
      have HMs : Hid (((i : Int)).toNat < J.toNat) := by unfold Hid; omega
      have g1 : decide ((0 : Int) < J) = true := decide_eq_true (by omega)
      have g2 : (0 : Int) < J := by omega
      have g3 : (0 : Int) ≤ J := by omega
      have g4 : J < (n : Int) + 1 := by omega
      have g5 : J.toNat = i + 1 := by omega
      have g6 : J - 1 = (i : Int) := by omega
      have g7 : (0 : Int) ≤ (i : Int) := by omega
      have g8 : (i : Int) < (n : Int) + 1 := by omega
      clear hJ
      have HI0 : Hid (i ≤ n) := by unfold Hid; omega
      have HI1 : Hid (i + 1 ≤ n) := by unfold Hid; omega
      have g9 : wrap64 (i : Int) = (i : Int) := IntWalk.wrap64_in _ (by have := H12.out; omega)
      by_cases hc : cmpL [b, a, c, d] (L.getD i []) < 0
      · have HZ : Hid (decide (cmpL [b, a, c, d] (L.getD i []) < 0) = true) := decide_eq_true hc
        have HPn : Hid (posR L [b, a, c, d] i = posR L [b, a, c, d] n) := by unfold Hid; rw [← HP.out, posR_go' hc]
        have HI := HI0
        clear hc HP
        go_wp2_with (go_at_call 68; (with_reducible refine (before_row UC.out HRow.out HZ.out).mono ?_); rintro e w3 ⟨rfl, hb⟩; replace hcv := cell_later hb hcv; replace hold := cell_later hb hold; replace OC := Lib.hid (rowLater OC.out hb); replace RC := Lib.hid (fun q hq => (RC.out q hq).keep hb); replace UC := Lib.hid (UC.out.keep hb); replace LB := Lib.hid (LB.out.later hb); replace hfr := OC.out.frozenAt (i + 1); clear hb)
        rw [g9]
        have HO2 : Hid ((w3.setCell ⟨g, i + 1, none⟩ (.slice (some ⟨rb, off, none⟩) 4 rc)).ownsRow B 22 1 (.slice (some ⟨g, 0, none⟩) (n + 1) cap) (n + 1) ((List.range (n + 1)).map (shiftV V (V i) i))) := by
          unfold Hid
          rw [← HVi.out, ← shiftV_step V X n i hin]
          exact (OC.out.stored (i + 1) (V i)).1
        exact ⟨⟨i, V i, HI.out, rfl, LB.out.setCell (p := ⟨g, i + 1, none⟩) HGB.out HGO.out _, HO2, fun q hq => (RC.out q hq).set _ _ rfl, UC.out.set _ _ rfl, HPn⟩, HMs.out⟩
      · have HZ : Hid (decide (cmpL [b, a, c, d] (L.getD i []) < 0) = false) := decide_eq_false hc
        have HF0 : Hid (posR L [b, a, c, d] n = i + 1) := by unfold Hid; rw [← HP.out, posR_stop' hc]
        have HI := HI1
        clear hc HP
        go_wp2_with (go_at_call 68; (with_reducible refine (before_row UC.out HRow.out HZ.out).mono ?_); rintro e w3 ⟨rfl, hb⟩; replace hcv := cell_later hb hcv; replace hold := cell_later hb hold; replace OC := Lib.hid (rowLater OC.out hb); replace RC := Lib.hid (fun q hq => (RC.out q hq).keep hb); replace UC := Lib.hid (UC.out.keep hb); replace LB := Lib.hid (LB.out.later hb); replace hfr := OC.out.frozenAt (i + 1); clear hb)
        go_ret
        have HF := Lib.hid (put_done HN.out HI.out HF0.out OC.out RC.out UC.out)
        exact ⟨g, cap, rfl, HF.out, LB.out.setCell (p := ⟨g, i + 1, none⟩) HGB.out HGO.out _, HGO.out⟩

set_option maxRecDepth 100000 in
set_option maxHeartbeats 4000000 in
theorem l02Put_eq (sa : Option Addr) (n sc : Nat) (L : List (List Int)) (B : Nat) (a c d : Int) (w : World) (hn : L.length = n) (hR : Rows1 w B (.slice sa n sc) L) (hn12 : n ≤ 1000) (hB : B ≤ w.heap.size) :
    Calls Try.prog 49 #[.slice sa n sc, .int .i64 a, .int .i64 a, .int .i64 c, .int .i64 d] w fun e w' => ∃ g cap, e = .returned (.slice (some ⟨g, 0, none⟩) (n + 1) cap) ∧ Rows1 w' B (.slice (some ⟨g, 0, none⟩) (n + 1) cap) (insR L [a, a, c, d]) ∧ Put1 (Value.slice sa n sc).ownBlock B w w' ∧ (some g = (Value.slice sa n sc).ownBlock ∨ w.heap.size ≤ g) := by
  obtain ⟨i0, hi, hz0, hz1, hz2⟩ := info_parts infoRow
  obtain ⟨V, h1, h2⟩ := hR
  rw [hn] at h1 h2
  have hvb : ∀ k, (Value.slice sa n sc).ownBlock = some k → B ≤ k ∧ k < w.heap.size := World.ownsRow.lt h1
  have HN := Lib.hid hn
  have H1 := Lib.hid h1
  have H2 := Lib.hid h2
  have HB := Lib.hid hB
  have HVB := Lib.hid hvb
  have H12 := Lib.hid hn12
  have hL2 : Below w.heap.size w ((w.alloc (.cells #[.int .i64 a, .int .i64 a, .int .i64 c, .int .i64 d] 2)).alloc (.cells #[.slice (some ⟨w.heap.size, 0, none⟩) 4 4] 22)) := ((Below.refl _ _).alloc (Nat.le_refl _) _).alloc (by simp) _
  have HR2 : Hid (∀ i, i < n → RowAt ((w.alloc (.cells #[.int .i64 a, .int .i64 a, .int .i64 c, .int .i64 d] 2)).alloc (.cells #[.slice (some ⟨w.heap.size, 0, none⟩) 4 4] 22)) (Value.slice sa n sc).ownBlock (V i) (L.getD i [])) := fun i hi => (h2 i hi).keep hL2
  have HU2 : Hid (RowAt ((w.alloc (.cells #[.int .i64 a, .int .i64 a, .int .i64 c, .int .i64 d] 2)).alloc (.cells #[.slice (some ⟨w.heap.size, 0, none⟩) 4 4] 22)) (Value.slice sa n sc).ownBlock (.slice (some ⟨w.heap.size, 0, none⟩) 4 4) [a, a, c, d]) := by
    refine ⟨w.heap.size, 0, 4, rfl, rfl, fun j hj => ?_, fun e => ?_, by simp; omega⟩
    · rw [World.cell?_alloc_past _ _ _ (by simp), World.cell?_alloc_at _ _ _ _ rfl]
      have h : j = 0 ∨ j = 1 ∨ j = 2 ∨ j = 3 := by omega
      rcases h with rfl | rfl | rfl | rfl <;> rfl
    · have := (hvb _ e).2
      omega
  have HLB : Hid (Put1 (Value.slice sa n sc).ownBlock B w ((w.alloc (.cells #[.int .i64 a, .int .i64 a, .int .i64 c, .int .i64 d] 2)).alloc (.cells #[.slice (some ⟨w.heap.size, 0, none⟩) 4 4] 22))) := ⟨((Below.refl _ _).alloc hB _).alloc (by simp; omega) _, fun k hk _ => hL2.block k hk⟩
  have HNw : Hid (∀ j u, [Value.slice (some ⟨w.heap.size, 0, none⟩) 4 4][j]? = some u → ((w.alloc (.cells #[.int .i64 a, .int .i64 a, .int .i64 c, .int .i64 d] 2)).alloc (.cells #[.slice (some ⟨w.heap.size, 0, none⟩) 4 4] 22)).cell? ((⟨w.heap.size + 1, 0, none⟩ : Addr).add j) = some u) := by
    have := cell_one_new (w.alloc (.cells #[.int .i64 a, .int .i64 a, .int .i64 c, .int .i64 d] 2)) (.slice (some ⟨w.heap.size, 0, none⟩) 4 4) 22
    rw [World.size_alloc] at this
    exact this
  clear hn h1 h2 hB hvb hn12 hL2
  go_enter Try.func49, Try.ntmps49
  go_wp2_with (at_builtin; refine wpList_append_lies _ rfl _ _ 35 rfl B 22 i0 (.slice none 0 0) 1 24 Try.underlying35 hi hz0 hz1 hz2 rfl (by decide) (.slice sa n sc) n ((List.range n).map V) rfl (World.ownsRow.alloc (World.ownsRow.alloc H1.out _) _) ⟨w.heap.size + 1, 0, none⟩ 1 1 [.slice (some ⟨w.heap.size, 0, none⟩) 4 4] rfl rfl HNw.out (by simp [Value.oneCell']) (by decide) (by have := H12.out; unfold maxLen; omega) (by have := H12.out; omega) (by have := HB.out; simp; omega) (w.heap.size + 2) (by simp) ?_; intro g cap w2 hown hgrow hat hlt; have OC := Lib.hid (put_first hown); have HatG : Hid (some g = (Value.slice sa n sc).ownBlock ∨ ∃ g', some g = some g' ∧ ((w.alloc (.cells #[.int .i64 a, .int .i64 a, .int .i64 c, .int .i64 d] 2)).alloc (.cells #[.slice (some ⟨w.heap.size, 0, none⟩) 4 4] 22)).heap.size ≤ g') := (by unfold Hid; rcases hat with h | h; (exact .inl h.symm); (exact .inr ⟨g, rfl, by rw [h]; simp⟩)); have RC := Lib.hid (fun i hi => (HR2.out i hi).grown hgrow HatG.out); have UC := Lib.hid (HU2.out.grown hgrow HatG.out); have LB := Lib.hid (HLB.out.grown hgrow (by have := HB.out; simp; omega) (fun k e => (HVB.out k e).1)); have HGO : Hid (some g = (Value.slice sa n sc).ownBlock ∨ w.heap.size ≤ g) := (by unfold Hid; rcases hat with h | h; (exact .inl h.symm); (exact .inr (by rw [h]; omega))); have HGB : Hid (B ≤ g) := (World.ownsRow.lt hown g rfl).1; clear hown hgrow hat hlt)
  go_loopw [12] (fun cc wr => ∃ (j : Nat) (X : Value), j ≤ n ∧ cc = .int .i64 (j : Int) ∧ Hid (Put1 (Value.slice sa n sc).ownBlock B w wr) ∧ Hid (wr.ownsRow B 22 1 (.slice (some ⟨g, 0, none⟩) (n + 1) cap) (n + 1) ((List.range (n + 1)).map (shiftV V X j))) ∧ Hid (∀ i, i < n → RowAt wr (some g) (V i) (L.getD i [])) ∧ Hid (RowAt wr (some g) (.slice (some ⟨w.heap.size, 0, none⟩) 4 4) [a, a, c, d]) ∧ Hid (posR L [a, a, c, d] j = posR L [a, a, c, d] n))
    (fun cc _ => (intOf cc).toNat)
  case atStart => exact ⟨n, _, Nat.le_refl _, rfl, LB, OC, RC, UC, rfl⟩
  case round =>
    clear OC RC UC LB
    obtain ⟨j, X, hj, rfl, LB, OC, RC, UC, HP⟩ := hrel
    rcases Nat.eq_zero_or_pos j with hz | hp
    · subst hz
      have HF := Lib.hid (put_done HN.out (Nat.zero_le n) (HP.out.symm.trans rfl) OC.out RC.out UC.out)
      obtain ⟨old, hold⟩ := OC.out.cellSome 0 (by omega)
      have hfr := OC.out.frozenAt 0
      have hn1 : (0 : Int) < (n : Int) + 1 := by omega
      go_wp2_with fail
      go_ret
      exact ⟨g, cap, rfl, HF.out, LB.out.setCell (p := ⟨g, 0, none⟩) HGB.out HGO.out _, HGO.out⟩
    · obtain ⟨i, rfl⟩ : ∃ i, j = i + 1 := ⟨j - 1, by omega⟩
      have hin : i < n := by omega
      have hcv : wr.cell? ⟨g, i, none⟩ = some (V i) := by
        rw [OC.out.cellAt i (by omega), List.getElem?_map, List.getElem?_range (by omega)]
        simp [shiftV]
      obtain ⟨old, hold⟩ := OC.out.cellSome (i + 1) (by omega)
      have hfr := OC.out.frozenAt (i + 1)
      have hrow := RC.out i hin
      obtain ⟨rb, off, rc, hVi, hrest⟩ := hrow
      have HVi := Lib.hid hVi
      have HRow : Hid (RowAt wr (some g) (.slice (some ⟨rb, off, none⟩) 4 rc) (L.getD i [])) := ⟨rb, off, rc, rfl, hrest⟩
      rw [hVi] at hcv
      clear hVi hrest
      have HGW : Hid (B ≤ w.heap.size) := HB.out
      generalize hJ : (((i + 1 : Nat)) : Int) = J at *
      have HMs : Hid (((i : Int)).toNat < J.toNat) := by unfold Hid; omega
      have g1 : decide ((0 : Int) < J) = true := decide_eq_true (by omega)
      have g2 : (0 : Int) < J := by omega
      have g3 : (0 : Int) ≤ J := by omega
      have g4 : J < (n : Int) + 1 := by omega
      have g5 : J.toNat = i + 1 := by omega
      have g6 : J - 1 = (i : Int) := by omega
      have g7 : (0 : Int) ≤ (i : Int) := by omega
      have g8 : (i : Int) < (n : Int) + 1 := by omega
      clear hJ
      have HI0 : Hid (i ≤ n) := by unfold Hid; omega
      have HI1 : Hid (i + 1 ≤ n) := by unfold Hid; omega
      have g9 : wrap64 (i : Int) = (i : Int) := IntWalk.wrap64_in _ (by have := H12.out; omega)
      by_cases hc : cmpL [a, a, c, d] (L.getD i []) < 0
      · have HZ : Hid (decide (cmpL [a, a, c, d] (L.getD i []) < 0) = true) := decide_eq_true hc
        have HPn : Hid (posR L [a, a, c, d] i = posR L [a, a, c, d] n) := by unfold Hid; rw [← HP.out, posR_go' hc]
        have HI := HI0
        clear hc HP
        go_wp2_with (go_at_call 68; (with_reducible refine (before_row UC.out HRow.out HZ.out).mono ?_); rintro e w3 ⟨rfl, hb⟩; replace hcv := cell_later hb hcv; replace hold := cell_later hb hold; replace OC := Lib.hid (rowLater OC.out hb); replace RC := Lib.hid (fun q hq => (RC.out q hq).keep hb); replace UC := Lib.hid (UC.out.keep hb); replace LB := Lib.hid (LB.out.later hb); replace hfr := OC.out.frozenAt (i + 1); clear hb)
        rw [g9]
        have HO2 : Hid ((w3.setCell ⟨g, i + 1, none⟩ (.slice (some ⟨rb, off, none⟩) 4 rc)).ownsRow B 22 1 (.slice (some ⟨g, 0, none⟩) (n + 1) cap) (n + 1) ((List.range (n + 1)).map (shiftV V (V i) i))) := by
          unfold Hid
          rw [← HVi.out, ← shiftV_step V X n i hin]
          exact (OC.out.stored (i + 1) (V i)).1
        exact ⟨⟨i, V i, HI.out, rfl, LB.out.setCell (p := ⟨g, i + 1, none⟩) HGB.out HGO.out _, HO2, fun q hq => (RC.out q hq).set _ _ rfl, UC.out.set _ _ rfl, HPn⟩, HMs.out⟩
      · have HZ : Hid (decide (cmpL [a, a, c, d] (L.getD i []) < 0) = false) := decide_eq_false hc
        have HF0 : Hid (posR L [a, a, c, d] n = i + 1) := by unfold Hid; rw [← HP.out, posR_stop' hc]
        have HI := HI1
        clear hc HP
        go_wp2_with (go_at_call 68; (with_reducible refine (before_row UC.out HRow.out HZ.out).mono ?_); rintro e w3 ⟨rfl, hb⟩; replace hcv := cell_later hb hcv; replace hold := cell_later hb hold; replace OC := Lib.hid (rowLater OC.out hb); replace RC := Lib.hid (fun q hq => (RC.out q hq).keep hb); replace UC := Lib.hid (UC.out.keep hb); replace LB := Lib.hid (LB.out.later hb); replace hfr := OC.out.frozenAt (i + 1); clear hb)
        go_ret
        have HF := Lib.hid (put_done HN.out HI.out HF0.out OC.out RC.out UC.out)
        exact ⟨g, cap, rfl, HF.out, LB.out.setCell (p := ⟨g, i + 1, none⟩) HGB.out HGO.out _, HGO.out⟩

theorem l02Put_any (sa : Option Addr) (n sc : Nat) (L : List (List Int)) (B : Nat) (a b c d : Int) (w : World) (hn : L.length = n) (hR : Rows1 w B (.slice sa n sc) L) (hn12 : n ≤ 1000) (hB : B ≤ w.heap.size) :
    Calls Try.prog 49 #[.slice sa n sc, .int .i64 a, .int .i64 b, .int .i64 c, .int .i64 d] w fun e w' => ∃ g cap, e = .returned (.slice (some ⟨g, 0, none⟩) (n + 1) cap) ∧ Rows1 w' B (.slice (some ⟨g, 0, none⟩) (n + 1) cap) (insR L [min a b, max a b, c, d]) ∧ Put1 (Value.slice sa n sc).ownBlock B w w' ∧ (some g = (Value.slice sa n sc).ownBlock ∨ w.heap.size ≤ g) := by
  rcases Int.lt_trichotomy a b with h | h | h
  · have := l02Put_lt sa n sc L B a b c d w h (by omega) hn hR hn12 hB
    rw [show min a b = a by omega, show max a b = b by omega]; exact this
  · subst h
    have := l02Put_eq sa n sc L B a c d w hn hR hn12 hB
    rw [show min a a = a by omega, show max a a = a by omega]; exact this
  · have := l02Put_gt sa n sc L B a b c d w (by omega) h hn hR hn12 hB
    rw [show min a b = b by omega, show max a b = a by omega]; exact this

end Go.Proofs.Ytibfenkaoaclfaa
