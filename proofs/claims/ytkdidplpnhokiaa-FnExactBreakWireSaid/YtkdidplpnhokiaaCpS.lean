/- Wirings copied, and without a wire: the model's. -/
import Derived.Test.YtkdidplpnhokiaaLts
import Derived.Deep.RegionHeld3
import Derived.Deep.RegionWith
namespace Go.Proofs.Ytkdidplpnhokiaa
open Go.RowKit
set_option linter.unusedVariables false

theorem reads_news {w : World} {a : Option Addr} {n c : Nat} {xs : List Int} (h : Reads w (.slice a n c) xs) (h0 : 0 < xs.length) : ∃ ad, a = some ad ∧ ∀ j u, (xs.map (Value.int .i64))[j]? = some u → w.cell? (ad.add j) = some u := by
  obtain ⟨a', c', e, hm, h⟩ := h
  simp only [Value.slice.injEq] at e
  obtain ⟨rfl, rfl, rfl⟩ := e
  rcases h with rfl | ⟨b, off, rfl, h⟩
  · simp at h0
  · refine ⟨_, rfl, fun j u hj => ?_⟩
    have hj' : j < xs.length := by
      obtain ⟨h1, _⟩ := List.getElem?_eq_some_iff.1 hj
      simpa using h1
    have ea : (⟨b, off, none⟩ : Addr).add j = ⟨b, off + j, none⟩ := by
      unfold Addr.add; split
      · rename_i h; subst h; rfl
      · rfl
    rw [ea, h j hj']
    rw [List.getElem?_map, List.getElem?_eq_getElem hj'] at hj
    simp only [Option.map_some, Option.some.injEq] at hj
    rw [← hj, List.getD_eq_getElem?_getD, List.getElem?_eq_getElem hj']; rfl
/-- an append of a row to a row of the call's own -/
theorem own_append {w : World} {B n c : Nat} {u : Value} {L M : List Int} {a : Option Addr} (h1 : Owns w B u L) (h2 : Reads w (.slice a n c) M) (hn : M.length = n) (hl : L.length + M.length ≤ 1000000) (hB : B ≤ w.heap.size) :
    ∃ v' w', (Builtin.append_ #[22, 22] 22 #[u, .slice a n c]).run Try.prog w = .ok v' w' ∧ Owns w' B v' (L ++ M) ∧ w.grownBy w' u.ownBlock ∧ (v'.ownBlock = u.ownBlock ∨ v'.ownBlock = some w.heap.size) := by
  subst hn
  obtain ⟨i0, hi, hz0, hz1, hz2⟩ := info_parts info64
  by_cases h : M.length = 0
  · have e := List.length_eq_zero_iff.1 h
    subst e
    refine ⟨u, w, run_append_zero (P := Try.prog) (w := w) B _ _ 2 i0 1 Try.underlying22 hi u L.length _ h1 a c, by rw [List.append_nil]; exact h1, ⟨rfl, rfl, rfl, Nat.le_refl _, fun _ _ _ => rfl⟩, .inl rfl⟩
  · obtain ⟨ad, rfl, h4⟩ := reads_news h2 (by omega)
    obtain ⟨v', w', hr, ho, hg, _, hat⟩ := run_append_own_at (P := Try.prog) (w := w) B 22 22 2 i0 (.int .i64 0) 1 8 Try.underlying22 hi hz0 hz1 hz2 rfl (by decide) u L.length _ h1 ad M.length c (M.map (Value.int .i64)) (by rw [List.length_map, Nat.mul_one]) h4 (by intro x hx; obtain ⟨y, _, rfl⟩ := List.mem_map.1 hx; rfl) (by unfold maxLen; omega) (by omega) hB
    exact ⟨v', w', hr, by unfold Owns; rw [List.length_append, List.map_append]; exact ho, hg, hat⟩

set_option maxRecDepth 100000 in
theorem l01OwnW_any (v : Value) (xs : List Int) (w : World) (ha : Reads w v xs) (hn : xs.length ≤ 1000) :
    Calls Try.prog 125 #[v] w fun e w' => ∃ u, e = .returned u ∧ Owns w' w.heap.size u xs ∧ Below w.heap.size w w' := by
  have ho : Owns (w.alloc (.cells #[] 2)) w.heap.size (.slice (some ⟨w.heap.size, 0, none⟩) 0 0) [] :=
    World.ownsRow_made (base := w.heap.size) (e := 2) (size := 1) w #[] 0 (Nat.le_refl _) (by simp) rfl
  obtain ⟨a, ca, rfl, _, _⟩ := id ha
  obtain ⟨v2, w2, hr, ho2, hg, _⟩ := own_append ho (ha.keep ((Below.refl _ _).alloc (Nat.le_refl _) (.cells #[] 2))) rfl (by simp; omega) (by simp)
  rw [List.nil_append] at ho2
  have hL : Below w.heap.size w w2 := Below.grown (by go_grown) hg (by simp) (fun q e => by simp [Value.ownBlock] at e; omega)
  have HO := Lib.hid ho2
  clear ha ho ho2 hg hn
  generalize xs.length = n at *
  go_enter Try.func125, Try.ntmps125
  go_wp2_with (at_builtin; refine Lib.wpList_append_run _ rfl _ _ _ _ rfl _ _ rfl rfl _ _ hr ?_)
  go_ret
  exact ⟨_, rfl, HO.out, hL⟩

theorem C3.fill {w : World} {b : Nat} {x y z : Value} (h : C3 w b x y z) (x' y' z' : Value) : C3 (((w.setCell ⟨b, 0, none⟩ x').setCell ⟨b, 1, none⟩ y').setCell ⟨b, 2, none⟩ z') b x' y' z' := by
  obtain ⟨⟨h0, h1, h2⟩, ⟨f0, f1, f2⟩, hz⟩ := h
  have a0 := World.cell?_setCell_same w ⟨b, 0, none⟩ x' h0
  have a1 : (w.setCell ⟨b, 0, none⟩ x').cell? ⟨b, 1, none⟩ = some y := (World.cell?_setCell_other w ⟨b, 0, none⟩ ⟨b, 1, none⟩ x' (by simp)).trans h1
  have a2 : (w.setCell ⟨b, 0, none⟩ x').cell? ⟨b, 2, none⟩ = some z := (World.cell?_setCell_other w ⟨b, 0, none⟩ ⟨b, 2, none⟩ x' (by simp)).trans h2
  have b0 := (World.cell?_setCell_other (w.setCell ⟨b, 0, none⟩ x') ⟨b, 1, none⟩ ⟨b, 0, none⟩ y' (by simp)).trans a0
  have b1 := World.cell?_setCell_same (w.setCell ⟨b, 0, none⟩ x') ⟨b, 1, none⟩ y' a1
  have b2 := (World.cell?_setCell_other (w.setCell ⟨b, 0, none⟩ x') ⟨b, 1, none⟩ ⟨b, 2, none⟩ y' (by simp)).trans a2
  refine ⟨⟨(World.cell?_setCell_other _ ⟨b, 2, none⟩ ⟨b, 0, none⟩ z' (by simp)).trans b0, (World.cell?_setCell_other _ ⟨b, 2, none⟩ ⟨b, 1, none⟩ z' (by simp)).trans b1, World.cell?_setCell_same _ ⟨b, 2, none⟩ z' b2⟩, ⟨?_, ?_, ?_⟩, ?_⟩
  · rw [World.frozen?_setCell, World.frozen?_setCell, World.frozen?_setCell]; exact f0
  · rw [World.frozen?_setCell, World.frozen?_setCell, World.frozen?_setCell]; exact f1
  · rw [World.frozen?_setCell, World.frozen?_setCell, World.frozen?_setCell]; exact f2
  · rw [World.size_setCell, World.size_setCell, World.size_setCell]; exact hz

theorem C3.hereG {g : Nat} (w : World) (hg : g = w.heap.size) (x y z : Value) (t : TypeId) : C3 (w.alloc (.cells #[x, y, z] t)) g x y z := by subst hg; exact C3.here w x y z t
theorem ownsNilG {e : Nat} (w : World) (he : e = w.heap.size) {B : Nat} (hB : B ≤ w.heap.size) : (w.alloc (.cells #[] 22)).ownsRow B 22 1 (.slice (some ⟨e, 0, none⟩) 0 0) 0 [] := by
  subst he; exact World.ownsRow_made (base := B) (e := 22) (size := 1) w #[] 0 hB (by simp) rfl
theorem ownSet3 {w : World} {B : Nat} {t : TypeId} {sz : Nat} {v : Value} {n : Nat} {vs : List Value} (h : w.ownsRow B t sz v n vs) {g : Nat} (hne : ∀ k, v.ownBlock = some k → k ≠ g) (x y z : Value) :
    (((w.setCell ⟨g, 0, none⟩ x).setCell ⟨g, 1, none⟩ y).setCell ⟨g, 2, none⟩ z).ownsRow B t sz v n vs :=
  rowSame h fun k _ e => by
    have := hne k e
    rw [Below.heap_setCell _ _ _ k (by dsimp only; omega), Below.heap_setCell _ _ _ k (by dsimp only; omega), Below.heap_setCell _ _ _ k (by dsimp only; omega)]

theorem R2.turn {w w' : World} {X Y : Option Nat} {v : Value} {r : List Int} (h : R2 w X v r) (hY : R2 w Y v r) (hh : ∀ b, b < w.heap.size → Y ≠ some b → w'.heap[b]? = w.heap[b]?) : R2 w' X v r := by
  obtain ⟨h2, b, off, c, e, hX, c0, c1⟩ := h
  obtain ⟨_, b', off', c', e', hY', _, _⟩ := hY
  rw [e] at e'
  simp only [Value.slice.injEq, Option.some.injEq, Addr.mk.injEq] at e'
  obtain ⟨⟨rfl, _, _⟩, _⟩ := e'
  have hlt : b < w.heap.size := World.block_lt_of_cell? _ _ c0
  refine ⟨h2, b, off, c, e, hX, ?_, ?_⟩
  · rw [← c0]; exact World.cell?_of_block (w := w) (hh b hlt hY')
  · rw [← c1]; exact World.cell?_of_block (w := w) (hh b hlt hY')
theorem Rws.turn {w w' : World} {X Y : Option Nat} {vs : List Value} {L : List (List Int)} (h : Rws w X vs L) (hY : Rws w Y vs L) (hh : ∀ b, b < w.heap.size → Y ≠ some b → w'.heap[b]? = w.heap[b]?) : Rws w' X vs L :=
  ⟨h.1, fun i hi => by
    obtain ⟨v, e, r⟩ := h.2 i hi
    obtain ⟨v', e', r'⟩ := hY.2 i hi
    rw [e] at e'; injection e' with e'; subst e'
    exact ⟨v, e, r.turn r' hh⟩⟩
theorem Rws.single {w : World} {X : Option Nat} {v : Value} {r : List Int} (h : R2 w X v r) : Rws w X [v] [r] :=
  ⟨rfl, fun i hi => ⟨v, by simp at hi; subst hi; rfl, by simp at hi; subst hi; exact h⟩⟩
theorem rws_round {w5 w6 : World} {o : Obj} {sa g g2 y : Nat} {vs : List Value} {L : List (List Int)} {v : Value} {r : List Int} (hs : Rws w5 (some sa) vs L) (hsg : Rws w5 (some g) vs L)
    (hr : R2 w5 (some sa) v r) (hrg : R2 w5 (some g) v r) (hsy : Rws w5 (some y) vs L) (hry : R2 w5 (some y) v r) (hg : (w5.alloc o).grownBy w6 (some sa)) (hat : some sa = some g2 ∨ g2 = w5.heap.size + 1) (x : Value) :
    Rws (w6.setCell ⟨g, 2, none⟩ x) (some g2) (vs ++ [v]) (L ++ [r]) ∧ Rws (w6.setCell ⟨g, 2, none⟩ x) (some g) (vs ++ [v]) (L ++ [r]) ∧ Rws (w6.setCell ⟨g, 2, none⟩ x) (some y) (vs ++ [v]) (L ++ [r]) := by
  have hA := (hs.append (Rws.single hr)).keep ((Below.refl _ _).alloc (Nat.le_refl _) o)
  have hG := (hsg.append (Rws.single hrg)).keep ((Below.refl _ _).alloc (Nat.le_refl _) o)
  have h6 : Rws w6 (some g2) (vs ++ [v]) (L ++ [r]) := hA.grown hg (by rcases hat with e | e; exact .inl e.symm; exact .inr (by rw [e, World.size_alloc]))
  have h6g : Rws w6 (some g) (vs ++ [v]) (L ++ [r]) := hG.turn hA (fun b hb hn => hg.block b hb (Ne.symm hn))
  have hk : ∀ b, b < w6.heap.size → some g ≠ some b → (w6.setCell ⟨g, 2, none⟩ x).heap[b]? = w6.heap[b]? := fun b _ hn => Below.heap_setCell _ _ _ b (by dsimp only; intro e; exact hn (by rw [e]))
  have hY := (hsy.append (Rws.single hry)).keep ((Below.refl _ _).alloc (Nat.le_refl _) o)
  have h6y : Rws w6 (some y) (vs ++ [v]) (L ++ [r]) := hY.turn hA (fun b hb hn => hg.block b hb (Ne.symm hn))
  exact ⟨h6.turn h6g hk, h6g.turn h6g hk, h6y.turn h6g hk⟩
theorem owns_round {w5 w6 : World} {o : Obj} {B sa g : Nat} {t : TypeId} {sz : Nat} {v : Value} {n : Nat} {vs : List Value} (h : w5.ownsRow B t sz v n vs) (hg : (w5.alloc o).grownBy w6 (some sa))
    (hne : ∀ b, v.ownBlock = some b → b ≠ sa ∧ b ≠ g) (x : Value) : (w6.setCell ⟨g, 2, none⟩ x).ownsRow B t sz v n vs := by
  have h1 := World.ownsRow.alloc h o
  have h2 : w6.ownsRow B t sz v n vs := rowSame h1 fun k _ e => hg.block k (World.ownsRow.lt h1 k e).2 (fun e2 => by injection e2 with e2; exact (hne k e).1 e2)
  exact rowSame h2 fun k _ e => Below.heap_setCell _ _ _ k (by dsimp only; exact fun e2 => (hne k e).2 e2)
theorem C3.put2 {w : World} {b : Nat} {x y z : Value} (h : C3 w b x y z) (z' : Value) : C3 (w.setCell ⟨b, 2, none⟩ z') b x y z' := by
  obtain ⟨⟨h0, h1, h2⟩, ⟨f0, f1, f2⟩, hz⟩ := h
  refine ⟨⟨(World.cell?_setCell_other _ ⟨b, 2, none⟩ ⟨b, 0, none⟩ z' (by simp)).trans h0, (World.cell?_setCell_other _ ⟨b, 2, none⟩ ⟨b, 1, none⟩ z' (by simp)).trans h1, World.cell?_setCell_same _ ⟨b, 2, none⟩ z' h2⟩, ⟨?_, ?_, ?_⟩, ?_⟩
  · rw [World.frozen?_setCell]; exact f0
  · rw [World.frozen?_setCell]; exact f1
  · rw [World.frozen?_setCell]; exact f2
  · rw [World.size_setCell]; exact hz

theorem Rws.far {w w' : World} {B : Nat} {X : Option Nat} {vs : List Value} {L : List (List Int)} (h : Rws w X vs L) (hy : ∀ y, y < B → Rws w (some y) vs L) (hh : ∀ b, B ≤ b → b < w.heap.size → w'.heap[b]? = w.heap[b]?) : Rws w' X vs L :=
  ⟨h.1, fun i hi => by
    obtain ⟨v, e, h2, b, off, c, e1, hX, c0, c1⟩ := h.2 i hi
    have hlt : b < w.heap.size := World.block_lt_of_cell? _ _ c0
    have hB : B ≤ b := by
      refine Nat.le_of_not_lt fun hb => ?_
      obtain ⟨v', e', _, b', off', c', e1', hX', _, _⟩ := (hy b hb).2 i hi
      rw [e] at e'; injection e' with e'; subst e'
      rw [e1] at e1'
      simp only [Value.slice.injEq, Option.some.injEq, Addr.mk.injEq] at e1'
      obtain ⟨⟨rfl, _, _⟩, _⟩ := e1'
      exact hX' rfl
    refine ⟨v, e, h2, b, off, c, e1, hX, ?_, ?_⟩
    · rw [← c0]; exact World.cell?_of_block (w := w) (hh b hB hlt)
    · rw [← c1]; exact World.cell?_of_block (w := w) (hh b hB hlt)⟩
theorem rowLow {w : World} {A B : Nat} {t : TypeId} {sz : Nat} {v : Value} {n : Nat} {vs : List Value} (h : w.ownsRow B t sz v n vs) (hab : A ≤ B) : w.ownsRow A t sz v n vs := by
  refine ⟨h.1, ?_⟩
  rcases h.2 with h2 | ⟨g, cap, cur, e, hb, h3⟩
  · exact .inl h2
  · exact .inr ⟨g, cap, cur, e, Nat.le_trans hab hb, h3⟩
/-- a wiring all of whose memory is the call's own, from the block B on -/
def FarW (B : Nat) (w : World) (u : Value) (p : Int) (xs : List Int) (yss : List (List Int)) : Prop :=
  ∃ ua uc sa sc vs, u = .agg #[.int .i64 p, .slice ua xs.length uc, .slice (some ⟨sa, 0, none⟩) yss.length sc] ∧ Owns w B (.slice ua xs.length uc) xs ∧
    w.ownsRow B 22 1 (.slice (some ⟨sa, 0, none⟩) yss.length sc) yss.length vs ∧ Rws w (some sa) vs yss ∧ ∀ y, y < B → Rws w (some y) vs yss
theorem FarW.reads {B : Nat} {w : World} {u : Value} {p : Int} {xs : List Int} {yss : List (List Int)} (h : FarW B w u p xs yss) : ReadsW w u p xs yss := by
  obtain ⟨ua, uc, sa, sc, vs, rfl, h1, h2, h3, _⟩ := h
  exact ⟨ua, uc, _, sc, rfl, h1.reads, (show Ar w B (.slice (some ⟨sa, 0, none⟩) yss.length sc) yss from ⟨vs, h2, h3⟩).reads⟩
theorem FarW.keep {B : Nat} {w w' : World} {u : Value} {p : Int} {xs : List Int} {yss : List (List Int)} (h : FarW B w u p xs yss) (hb : Below w.heap.size w w') : FarW B w' u p xs yss := by
  obtain ⟨ua, uc, sa, sc, vs, rfl, h1, h2, h3, h4⟩ := h
  exact ⟨ua, uc, sa, sc, vs, rfl, rowLater h1 hb, rowLater h2 hb, h3.keep hb, fun y hy => (h4 y hy).keep hb⟩
theorem FarW.turn {B : Nat} {w w' : World} {u : Value} {p : Int} {xs : List Int} {yss : List (List Int)} (h : FarW B w u p xs yss) (hh : ∀ b, B ≤ b → b < w.heap.size → w'.heap[b]? = w.heap[b]?) : FarW B w' u p xs yss := by
  obtain ⟨ua, uc, sa, sc, vs, rfl, h1, h2, h3, h4⟩ := h
  exact ⟨ua, uc, sa, sc, vs, rfl, rowSame h1 fun k _ e => hh k (World.ownsRow.lt h1 k e).1 (World.ownsRow.lt h1 k e).2, rowSame h2 fun k _ e => hh k (World.ownsRow.lt h2 k e).1 (World.ownsRow.lt h2 k e).2, h3.far h4 hh, fun y hy => (h4 y hy).far h4 hh⟩
theorem FarW.set {B : Nat} {w : World} {u : Value} {p : Int} {xs : List Int} {yss : List (List Int)} (h : FarW B w u p xs yss) (g i : Nat) (v : Value) (hg : g < B) : FarW B (w.setCell ⟨g, i, none⟩ v) u p xs yss :=
  h.turn fun b h3 _ => Below.heap_setCell _ _ _ b (by dsimp only; omega)
theorem FarW.low {A B : Nat} {w : World} {u : Value} {p : Int} {xs : List Int} {yss : List (List Int)} (h : FarW B w u p xs yss) (hab : A ≤ B) : FarW A w u p xs yss := by
  obtain ⟨ua, uc, sa, sc, vs, rfl, h1, h2, h3, h4⟩ := h
  exact ⟨ua, uc, sa, sc, vs, rfl, rowLow h1 hab, rowLow h2 hab, h3, fun y hy => h4 y (by omega)⟩

set_option maxRecDepth 100000 in
set_option maxHeartbeats 4000000 in
theorem l10Copy_any (v : Value) (p : Int) (xs : List Int) (yss : List (List Int)) (w : World) (ha : ReadsW w v p xs yss) (hw : WirW p xs yss) :
    Calls Try.prog 87 #[v] w fun e w' => ∃ u, e = .returned u ∧ FarW w.heap.size w' u p xs yss ∧ Below w.heap.size w w' := by
  obtain ⟨i0, hi, hz0, hz1, hz2⟩ := info_parts infoRow
  obtain ⟨a, ca, b', cb, rfl, hA, hB⟩ := ha
  have hn5 := hw.1.1.2
  have h16 := hw.2.2.1
  have HO1 : Hid (∀ w', Below w.heap.size w w' → Calls Try.prog 125 #[.slice a xs.length ca] w' fun e w'' => ∃ ua uc, e = .returned (.slice ua xs.length uc) ∧ Owns w'' w'.heap.size (.slice ua xs.length uc) xs ∧ Below w'.heap.size w' w'') := fun w' h => by
    refine (l01OwnW_any _ xs w' (hA.keep h) (by omega)).mono ?_
    rintro e w'' ⟨u, rfl, ho, hb⟩
    obtain ⟨ua, uc, rfl, _, _⟩ := id ho.reads
    exact ⟨ua, uc, rfl, ho, hb⟩
  have HY : Hid (∀ k, k < yss.length → ∃ b off u, b' = some ⟨b, off, none⟩ ∧ w.cell? ⟨b, off + k, none⟩ = some u ∧ Reads w u (yss.getD k [])) := fun k hk => hB.cellW hk
  have HY2 : Hid (∀ k, k < yss.length → (yss.getD k []).length = 2) := hw.two
  have HOR : Hid (∀ (r : List Int) (w' : World) (u' : Value), r.length = 2 → Reads w' u' r → Calls Try.prog 125 #[u'] w' fun e w'' => ∃ ra rc, e = .returned (.slice ra 2 rc) ∧ (∀ X : Option Nat, (∀ b, X = some b → b < w'.heap.size) → R2 w'' X (.slice ra 2 rc) r) ∧ Below w'.heap.size w' w'') := fun r w' u' h2 h => by
    refine (l01OwnW_any u' r w' h (by omega)).mono ?_
    rintro e w'' ⟨u, rfl, ho, hb⟩
    obtain ⟨ua, uc, rfl, _, _⟩ := id ho.reads
    rw [h2] at ho ⊢
    refine ⟨ua, uc, rfl, fun X hX => ?_, hb⟩
    obtain ⟨cb, co, cc, e2, hc⟩ := ho.reads.two h2
    injection e2 with e3 e4 e5
    subst e3 e5
    have hlo := (World.ownsRow.lt ho cb rfl).1
    exact ⟨h2, cb, co, uc, rfl, fun e => by have := hX cb e; omega, by simpa using hc 0 (by omega), hc 1 (by omega)⟩
  have HTK : Hid (∀ k, k < yss.length → yss.take (k + 1) = yss.take k ++ [yss.getD k []]) := fun k hk => take_snoc hk
  have HTL : Hid (∀ k, k ≤ yss.length → (yss.take k).length = k) := fun k hk => by rw [List.length_take]; omega
  have HTA : Hid (yss.take yss.length = yss) := List.take_length
  have h0 := (C3.here w (.int .i64 p) (.slice a xs.length ca) (.slice b' yss.length cb) 28).alloc (.cells #[.int .i64 0, .slice none 0 0, .slice none 0 0] 28)
  have k1 := C3.here (w.alloc (.cells #[.int .i64 p, .slice a xs.length ca, .slice b' yss.length cb] 28)) (.int .i64 0) (.slice none 0 0) (.slice none 0 0) 28
  rw [World.size_alloc] at k1
  have hL0 : Below w.heap.size w ((w.alloc (.cells #[.int .i64 p, .slice a xs.length ca, .slice b' yss.length cb] 28)).alloc (.cells #[.int .i64 0, .slice none 0 0, .slice none 0 0] 28)) := by go_grown
  clear hA hB hw
  generalize hnn : xs.length = n at *
  have HN := Lib.hid hnn
  generalize hmm : yss.length = m at *
  have HM := Lib.hid hmm
  clear hnn hmm
  go_enter Try.func87, Try.ntmps87
  go_wp2_with fail
  go_cut [3] (fun t3 wx => ∃ g ua uc e, t3 = .pointer (some ⟨g, 0, none⟩) ∧ C3 wx g (.int .i64 p) (.slice ua n uc) (.slice (some ⟨e, 0, none⟩) 0 0) ∧ C3 wx w.heap.size (.int .i64 p) (.slice a n ca) (.slice b' m cb) ∧ C3 wx (w.heap.size + 1) (.int .i64 0) (.slice none 0 0) (.slice none 0 0) ∧ Hid (Owns wx (w.heap.size + 2) (.slice ua n uc) xs ∧ ∀ b, (Value.slice ua n uc).ownBlock = some b → b ≠ e ∧ b ≠ g) ∧ Hid (wx.ownsRow (w.heap.size + 2) 22 1 (.slice (some ⟨e, 0, none⟩) 0 0) 0 []) ∧ (e ≠ g ∧ w.heap.size + 2 ≤ g) ∧ Below w.heap.size w wx)
  case first =>
   go_region_held3 (fun w' => C3 w' w.heap.size (.int .i64 p) (.slice a n ca) (.slice b' m cb))
    ((repeat' (first | (with_reducible assumption) | (with_reducible refine C3.drewU ?_) | (with_reducible refine C3.alloc ?_ _) | (with_reducible refine C3.set ?_ _ _ _ (by omega)))))
    ((go_at_call 125; (with_reducible refine (HO1.out _ (by go_grown)).mono ?_); rintro e wa ⟨ua, uc, rfl, hu, hb⟩; have hL := chain (B := w.heap.size) (a := w) (by go_grown) (Nat.le_refl _) hb; replace h0 := keepAt3 hb (show C3 _ w.heap.size (.int .i64 p) (.slice a n ca) (.slice b' m cb) from by (repeat' (first | (with_reducible assumption) | (with_reducible refine C3.drewU ?_) | (with_reducible refine C3.alloc ?_ _)))); replace k1 := keepAt3 hb (show C3 _ (w.heap.size + 1) (.int .i64 0) (.slice none 0 0) (.slice none 0 0) from by (repeat' (first | (with_reducible assumption) | (with_reducible refine C3.drewU ?_) | (with_reducible refine C3.alloc ?_ _)))); (try (first | (have kn := keepAt3 hb (C3.here _ (.int .i64 0) (.slice none 0 0) (.slice none 0 0) 28)) | (have kn := keepAt3 hb (C3.hereD _ (.int .i64 0) (.slice none 0 0) (.slice none 0 0) 28)) | (have kn := keepAt3 hb ((C3.here _ (.int .i64 0) (.slice none 0 0) (.slice none 0 0) 28).alloc (.cells #[] 22))) | (have kn := keepAt3 hb (C3.drewU ((C3.here _ (.int .i64 0) (.slice none 0 0) (.slice none 0 0) 28).alloc (.cells #[] 22)))))); (try (repeat (first | rw [World.size_alloc] at kn | rw [World.size_drew] at kn))); have HU := Lib.hid hu; have hB3 := hb; clear hb hu))
   all_goals go_wp2_with fail
   all_goals go_meet
   all_goals have hzL := hL.size
   all_goals have hzB := hB3.size
   all_goals simp only [World.size_alloc, World.size_drew] at hzB
   all_goals have hOO : Owns wa (w.heap.size + 2) (.slice ua n uc) xs := HU.out.mono (by simp)
   all_goals have hUB : ∀ k, (Value.slice ua n uc).ownBlock = some k → k < wa.heap.size := fun k e => (World.ownsRow.lt hOO k e).2
   · exact ⟨_, ua, uc, wa.heap.size, rfl, C3.hereG _ (by simp) _ _ _ _, (h0.alloc _).alloc _, (k1.alloc _).alloc _, ⟨World.ownsRow.alloc (World.ownsRow.alloc hOO _) _, fun k e => by have := hUB k e; (try have := hUL k e); (try simp only [World.size_alloc, World.size_setCell]); omega⟩, World.ownsRow.alloc (ownsNilG wa rfl (by omega)) _, ⟨by omega, by omega⟩, by go_grown⟩
   · exact ⟨_, ua, uc, wa.heap.size + 1, rfl, (C3.hereG _ rfl _ _ _ _).alloc _, (h0.alloc _).alloc _, (k1.alloc _).alloc _, ⟨World.ownsRow.alloc (World.ownsRow.alloc hOO _) _, fun k e => by have := hUB k e; (try have := hUL k e); (try simp only [World.size_alloc, World.size_setCell]); omega⟩, ownsNilG _ (by simp) (by simp; omega), ⟨by omega, by omega⟩, by go_grown⟩
   · have hUL : ∀ k, (Value.slice ua n uc).ownBlock = some k → w.heap.size + 3 ≤ k := fun k e => by have := (World.ownsRow.lt HU.out k e).1; simp at this; omega
     exact ⟨_, ua, uc, w.heap.size + 1 + 1, rfl, C3.hereG _ rfl _ _ _ _, h0.alloc _, k1.alloc _, ⟨World.ownsRow.alloc hOO _, fun k e => by have := hUL k e; have := hUB k e; (try simp only [World.size_alloc, World.size_setCell]); omega⟩, World.ownsRow.alloc (rowLater (hb := hB3) (h := World.ownsRow.drew (ownsNilG ((w.alloc (.cells #[.int .i64 p, .slice a n ca, .slice b' m cb] 28)).alloc (.cells #[.int .i64 0, .slice none 0 0, .slice none 0 0] 28)) (by simp) (by simp)))) _, ⟨by omega, by omega⟩, by go_grown⟩
   · have hUL : ∀ k, (Value.slice ua n uc).ownBlock = some k → w.heap.size + 4 ≤ k := fun k e => by have := (World.ownsRow.lt HU.out k e).1; simp at this; omega
     exact ⟨_, ua, uc, w.heap.size + 1 + 1, rfl, kn.fill _ _ _, ((h0.set _ _ _ (by omega)).set _ _ _ (by omega)).set _ _ _ (by omega), ((k1.set _ _ _ (by omega)).set _ _ _ (by omega)).set _ _ _ (by omega), ⟨ownSet3 hOO (fun k e => by have := hUL k e; omega) _ _ _, fun k e => by have := hUL k e; have := hUB k e; (try simp only [World.size_alloc, World.size_setCell]); omega⟩, ownSet3 (rowLater (hb := hB3) (h := World.ownsRow.drew (World.ownsRow.alloc (ownsNilG ((w.alloc (.cells #[.int .i64 p, .slice a n ca, .slice b' m cb] 28)).alloc (.cells #[.int .i64 0, .slice none 0 0, .slice none 0 0] 28)) (e := w.heap.size + 1 + 1) (by simp) (by simp)) (.cells #[.int .i64 0, .slice none 0 0, .slice none 0 0] 28)))) (fun k e => by simp [Value.ownBlock] at e; omega) _ _ _, ⟨by omega, by omega⟩, by go_grown⟩
   · have hUL : ∀ k, (Value.slice ua n uc).ownBlock = some k → w.heap.size + 3 ≤ k := fun k e => by have := (World.ownsRow.lt HU.out k e).1; simp at this; omega
     exact ⟨_, ua, uc, wa.heap.size, rfl, (kn.fill _ _ _).alloc _, (((h0.set _ _ _ (by omega)).set _ _ _ (by omega)).set _ _ _ (by omega)).alloc _, (((k1.set _ _ _ (by omega)).set _ _ _ (by omega)).set _ _ _ (by omega)).alloc _, ⟨World.ownsRow.alloc (ownSet3 hOO (fun k e => by have := hUL k e; omega) _ _ _) _, fun k e => by have := hUB k e; (try have := hUL k e); (try simp only [World.size_alloc, World.size_setCell]); omega⟩, ownsNilG _ (by simp) (by simp; omega), ⟨by omega, by omega⟩, by go_grown⟩
   · have hUL : ∀ k, (Value.slice ua n uc).ownBlock = some k → w.heap.size + 4 ≤ k := fun k e => by have := (World.ownsRow.lt HU.out k e).1; simp at this; omega
     exact ⟨_, ua, uc, w.heap.size + 1 + 1 + 1, rfl, kn.fill _ _ _, ((h0.set _ _ _ (by omega)).set _ _ _ (by omega)).set _ _ _ (by omega), ((k1.set _ _ _ (by omega)).set _ _ _ (by omega)).set _ _ _ (by omega), ⟨ownSet3 hOO (fun k e => by have := hUL k e; omega) _ _ _, fun k e => by have := hUL k e; have := hUB k e; (try simp only [World.size_alloc, World.size_setCell]); omega⟩, ownSet3 (rowLater (hb := hB3) (h := World.ownsRow.drew (ownsNilG (((w.alloc (.cells #[.int .i64 p, .slice a n ca, .slice b' m cb] 28)).alloc (.cells #[.int .i64 0, .slice none 0 0, .slice none 0 0] 28)).alloc (.cells #[.int .i64 0, .slice none 0 0, .slice none 0 0] 28)) (e := w.heap.size + 1 + 1 + 1) (by simp) (by simp)))) (fun k e => by simp [Value.ownBlock] at e; omega) _ _ _, ⟨by omega, by omega⟩, by go_grown⟩
  case rest =>
   clear h0 k1 hL0 HO1
   obtain ⟨g, ua, uc, e, rfl, kg, h0, k1, HU, HE, ⟨hne, hg2⟩, hL⟩ := hcut
   have HA0 : Hid (∃ vs, wc.ownsRow (w.heap.size + 2) 22 1 (.slice (some ⟨e, 0, none⟩) 0 0) 0 vs ∧ Rws wc (some e) vs (yss.take 0) ∧ Rws wc (some g) vs (yss.take 0) ∧ ∀ y, y < w.heap.size + 2 → Rws wc (some y) vs (yss.take 0)) := ⟨[], HE.out, Rws.nil _ _, Rws.nil _ _, fun y _ => Rws.nil _ _⟩
   have HU1 : Hid (Owns wc (w.heap.size + 2) (.slice ua n uc) xs) := HU.out.1
   have HU2 : Hid (∀ b, (Value.slice ua n uc).ownBlock = some b → b ≠ e ∧ b ≠ g) := HU.out.2
   have hm16 : m ≤ 16 := h16
   go_wp2_with fail
   go_loopw [4] (fun c wr => ∃ (k : Nat) (sa : Nat) (sc : Nat), k ≤ m ∧ c = .int .i64 (k : Int) ∧ Below w.heap.size w wr ∧ C3 wr w.heap.size (.int .i64 p) (.slice a n ca) (.slice b' m cb) ∧ C3 wr (w.heap.size + 1) (.int .i64 0) (.slice none 0 0) (.slice none 0 0) ∧ C3 wr g (.int .i64 p) (.slice ua n uc) (.slice (some ⟨sa, 0, none⟩) k sc) ∧ Hid (Owns wr (w.heap.size + 2) (.slice ua n uc) xs) ∧ Hid (∃ vs, wr.ownsRow (w.heap.size + 2) 22 1 (.slice (some ⟨sa, 0, none⟩) k sc) k vs ∧ Rws wr (some sa) vs (yss.take k) ∧ Rws wr (some g) vs (yss.take k) ∧ ∀ y, y < w.heap.size + 2 → Rws wr (some y) vs (yss.take k)) ∧ Hid (sa ≠ g ∧ ∀ b, (Value.slice ua n uc).ownBlock = some b → b ≠ sa ∧ b ≠ g)) (fun c _ => m - (intOf c).toNat)
   case atStart => exact ⟨0, e, 0, Nat.zero_le _, rfl, hL, h0, k1, kg, HU1, HA0, ⟨hne, HU2.out⟩⟩
   case round =>
     clear hL h0 k1 kg HU1 HA0 HU2 hne HU HE
     obtain ⟨k, sa, sc, hk, rfl, hL, h0, k1, kg, HU, HA, HS⟩ := hrel
     by_cases hlt : k < m
     · obtain ⟨yb, yo, yu, rfl, hca0, hru⟩ := HY.out k hlt
       have hca := cell_later hL hca0
       have HRU := Lib.hid (hru.keep hL)
       have HRL := Lib.hid (HY2.out k hlt)
       have HT := Lib.hid (HTK.out k hlt)
       have HTk := Lib.hid (HTL.out k hk)
       have hi1 : (k : Int) < (m : Int) := by omega
       have hi0 : (0 : Int) ≤ (k : Int) := by omega
       have hzg := kg.lt
       have hgw : w.heap.size + 2 ≤ g := hg2
       clear hca0 hru
       generalize yss.getD k [] = r at *
       generalize yss.take k = L at *
       have HC := Lib.hid (fun w' h => HOR.out r w' yu HRL.out h)
       obtain ⟨vs, hvs, hrws, hrwg, hrwy⟩ := HA.out
       have HRG := Lib.hid hrwg
       have HRY := Lib.hid hrwy
       have HVS := Lib.hid hvs
       have HRS := Lib.hid hrws
       have HSB : Hid (∀ q, (Value.slice (some ⟨sa, 0, none⟩) k sc).ownBlock = some q → w.heap.size + 2 ≤ q ∧ q < wr.heap.size) := fun q e => World.ownsRow.lt HVS.out q e
       have hsaz : w.heap.size + 2 ≤ sa ∧ sa < wr.heap.size := HSB.out sa rfl
       clear hvs hrws hrwg hrwy HA
       go_wp2_with fail
       go_region_law (first | (refine step_append_lies _ (by rfl) _ _ 23 (by rfl) (w.heap.size + 2) 22 i0 (.slice none 0 0) 1 24 Try.underlying23 hi hz0 hz1 hz2 (by rfl) (by decide) (.slice (some ⟨sa, 0, none⟩) k sc) k vs (by rfl) (HRW.out _) ⟨w5.heap.size, 0, none⟩ 1 1 [.slice ra 2 rc] (by rfl) (by rfl) (cell_one_new _ _ _) (by simp [Value.oneCell']) (by decide) (by unfold maxLen; omega) (by omega) (by simp; omega) (w5.heap.size + 1) (by simp) ?_; intro g2 cap2 w6 hown hgrow_ hat hlt3; have hgrow : (w5.alloc (.cells #[.slice ra 2 rc] 22)).grownBy w6 (some sa) := ⟨hgrow_.os, hgrow_.tape, hgrow_.output, hgrow_.size, hgrow_.block⟩; have kg6 := C3.grown (kg5.alloc (.cells #[.slice ra 2 rc] 22)) hgrow (by intro e; injection e with e; exact HS.out.1 e); have h06 := C3.grown (h05.alloc (.cells #[.slice ra 2 rc] 22)) hgrow (by intro e; injection e with e; omega); have k16 := C3.grown (k15.alloc (.cells #[.slice ra 2 rc] 22)) hgrow (by intro e; injection e with e; omega); have HOW := Lib.hid hown; have HGR := Lib.hid hgrow; have HAT := Lib.hid hat; clear hown hgrow_ hgrow hat) | (go_simp; go_at_call 125; (with_reducible refine (HC.out _ (HRU.out.keep (by go_grown))).mono ?_); rintro e5 w5 ⟨ra, rc, rfl, hr2, hb⟩; have hX := Lib.hid (chain (B := wr.heap.size) (a := wr) (by go_grown) (Nat.le_refl _) hb); have hX2 := hX.out.size; have kg5 := keepAt3 (b := g) (x := .int .i64 p) (y := .slice ua n uc) (z := .slice (some ⟨sa, 0, none⟩) k sc) hX.out kg; have h05 := keepAt3 (b := w.heap.size) (x := .int .i64 p) (y := .slice a n ca) (z := .slice (some ⟨yb, yo, none⟩) m cb) hX.out h0; have k15 := keepAt3 (b := w.heap.size + 1) (x := .int .i64 0) (y := .slice none 0 0) (z := .slice none 0 0) hX.out k1; have HRW := Lib.hid (fun o => World.ownsRow.alloc (o := o) (rowLater HVS.out hX.out)); have HR2 := Lib.hid (hr2 (some sa) (fun b e => by injection e with e; have := hb.size; simp; omega)); have HR3 := Lib.hid (hr2 (some g) (fun b e => by injection e with e; have := hb.size; simp; omega)); have HR4 := Lib.hid (fun (y : Nat) (hy : y < w.heap.size + 2) => hr2 (some y) (fun b e => by injection e with e; have := hb.size; simp; omega)); clear hb hr2))
       all_goals go_wp2_with fail
       all_goals
        have hz5 := (show Below wr.heap.size wr w5 from hX.out).size
        have h5 : Below w.heap.size w w5 := chain hL (Nat.le_refl _) hX.out
        have h6 : Below w.heap.size w w6 := Below.grown (by go_grown) HGR.out (by simp; omega) (fun q e => by injection e with e; omega)
        have hne2 : g2 ≠ g := by
          rcases HAT.out with e | e
          · have e' : sa = g2 := by simpa [Value.ownBlock] using e
            rw [← e']; exact HS.out.1
          · omega
        have hx := fun (y : Nat) (hy : y < w.heap.size + 2) => rws_round (HRS.out.keep hX.out) (HRG.out.keep hX.out) HR2.out HR3.out ((HRY.out y hy).keep hX.out) (HR4.out y hy) HGR.out (HAT.out) (.slice (some ⟨g2, 0, none⟩) (k + 1) cap2)
        have HTT := HT.out
        refine ⟨⟨k + 1, g2, cap2, by omega, rfl, ?_, h06.set _ _ _ (by omega), k16.set _ _ _ (by omega), kg6.put2 _, owns_round (rowLater HU.out hX.out) HGR.out HS.out.2 _, ⟨_, rowSame HOW.out (fun q _ e => Below.heap_setCell _ _ _ q (by simp [Value.ownBlock] at e; dsimp only; omega)), ?_, ?_, ?_⟩, ⟨hne2, fun b e => ⟨?_, (HS.out.2 b e).2⟩⟩⟩, ?_⟩
        · go_grown
        · rw [HTT]; exact (hx 0 (by omega)).1
        · rw [HTT]; exact (hx 0 (by omega)).2.1
        · rw [HTT]; exact fun y hy => (hx y hy).2.2
        · rcases HAT.out with e2 | e2
          · have e' : sa = g2 := by simpa [Value.ownBlock] using e2
            rw [← e']; exact (HS.out.2 b e).1
          · have := (World.ownsRow.lt HU.out b e).2
            omega
        · have e1 : (intOf (Value.int .i64 ((k : Int) + 1))).toNat = k + 1 := by simp only [intOf]; omega
          have e2 : (intOf (Value.int .i64 (k : Int))).toNat = k := by simp only [intOf]; omega
          rw [e1, e2]; omega
     · have hkm : k = m := by omega
       subst hkm
       obtain ⟨vs, hvs, hrws, hrwg, hrwy⟩ := HA.out
       rw [HTA.out] at hrws hrwy
       have HR : Hid (∀ w', (∀ b, w.heap.size + 2 ≤ b → b < wr.heap.size → w'.heap[b]? = wr.heap[b]?) → w'.ownsRow w.heap.size 22 1 (.slice (some ⟨sa, 0, none⟩) k sc) k vs ∧ Rws w' (some sa) vs yss ∧ ∀ y, y < w.heap.size → Rws w' (some y) vs yss) := fun w' hw' =>
         ⟨rowLow (rowSame hvs fun q _ e => hw' q (World.ownsRow.lt hvs q e).1 (World.ownsRow.lt hvs q e).2) (by omega), hrws.far hrwy hw', fun y hy => (hrwy y (by omega)).far hrwy hw'⟩
       have hO : Owns wr (w.heap.size + 2) (.slice ua n uc) xs := HU.out
       have HO : Hid (∀ w', (∀ b, w.heap.size + 2 ≤ b → b < wr.heap.size → w'.heap[b]? = wr.heap[b]?) → Owns w' w.heap.size (.slice ua n uc) xs) := fun w' hw' =>
         (show Owns w' (w.heap.size + 2) (.slice ua n uc) xs from rowSame hO fun q _ e => hw' q (World.ownsRow.lt hO q e).1 (World.ownsRow.lt hO q e).2).mono (by omega)
       clear hvs hrws hrwg hrwy HA
       go_wp2_with fail
       have k2 := k1.fill (.int .i64 p) (.slice ua n uc) (.slice (some ⟨sa, 0, none⟩) k sc)
       have hk : ∀ b, b ≠ w.heap.size + 1 → (((wr.setCell ⟨w.heap.size + 1, 0, none⟩ (.int .i64 p)).setCell ⟨w.heap.size + 1, 1, none⟩ (.slice ua n uc)).setCell ⟨w.heap.size + 1, 2, none⟩ (.slice (some ⟨sa, 0, none⟩) k sc)).heap[b]? = wr.heap[b]? := fun b hb => by
         rw [Below.heap_setCell _ _ _ b hb, Below.heap_setCell _ _ _ b hb, Below.heap_setCell _ _ _ b hb]
       have HK := Lib.hid (And.intro (HO.out _ (fun b h1 h2 => hk b (by omega))) (HR.out _ (fun b h1 h2 => hk b (by omega))))
       have hLf : Below w.heap.size w (((wr.setCell ⟨w.heap.size + 1, 0, none⟩ (.int .i64 p)).setCell ⟨w.heap.size + 1, 1, none⟩ (.slice ua n uc)).setCell ⟨w.heap.size + 1, 2, none⟩ (.slice (some ⟨sa, 0, none⟩) k sc)) := by go_grown
       clear hk HR HU hO HO
       obtain ⟨⟨c0, c1, c2⟩, _⟩ := k2
       have HC0 := Lib.hid HN.out
       have HM0 := Lib.hid HM.out
       clear HM HTL HTA HTK HY2 HY h0 kg HS k1 hk hL HOR
       generalize (((wr.setCell ⟨w.heap.size + 1, 0, none⟩ (.int .i64 p)).setCell ⟨w.heap.size + 1, 1, none⟩ (.slice ua n uc)).setCell ⟨w.heap.size + 1, 2, none⟩ (.slice (some ⟨sa, 0, none⟩) k sc)) = wf at *
       refine bodyPost_ret (v := .agg #[.int .i64 p, .slice ua n uc, .slice (some ⟨sa, 0, none⟩) k sc]) (by simp [results, Try.results87, go_sem, *]) rfl ?_
       have e1 := HC0.out
       have e2 := HM0.out
       obtain ⟨r1, r2, r3, r4⟩ := HK.out
       refine ⟨_, rfl, ⟨ua, uc, sa, sc, vs, by rw [e1, e2], by rw [e1]; exact r1, by rw [e2]; exact r2, r3, r4⟩, hLf⟩

end Go.Proofs.Ytkdidplpnhokiaa
