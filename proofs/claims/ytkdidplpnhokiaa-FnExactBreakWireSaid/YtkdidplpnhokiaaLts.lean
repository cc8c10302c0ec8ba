/- Ar, LnS, LvS, Lt in one text. -/
import Derived.Test.YtkdidplpnhokiaaApp2
import Derived.Test.YtkdidplpnhokiaaWis
import Derived.Lib.AppendZeros
import Derived.Test.YtkdidplpnhokiaaLvp
import Derived.Shelf.SlSortCmp.QuietGrown
namespace Go.Proofs.Ytkdidplpnhokiaa
open Go.RowKit
set_option linter.unusedVariables false

/-- an append of an empty slice, wherever it lies -/
theorem run_append_zero {P : Program} {w : World} (base : Nat) (t ty e : TypeId) (i : TypeInfo) (size : Nat) (ht : P.underlying t = some (.slice e)) (hi : P.info? e = some i)
    (v : Value) (n : Nat) (xs : List Value) (hown : w.ownsRow base e size v n xs) (a : Option Addr) (c : Nat) :
    (Builtin.append_ #[t, t] ty #[v, .slice a 0 c]).run P w = .ok v w := by
  rcases hown.2 with ⟨rfl, rfl⟩ | ⟨g, cap, cur, rfl, _, _, hnc, _⟩
  · cases a <;> simp [Builtin.append_, run_underlying ht, sizeOf, typeInfo, hi, Builtin.lenOf, Builtin.firstCells, loadCells, loadCellsFrom]
  · cases a <;> simp [Builtin.append_, run_underlying ht, sizeOf, typeInfo, hi, Builtin.lenOf, Builtin.firstCells, hnc, storeCells, loadCells, loadCellsFrom]

/-- the value v is a row r of two numbers, in no block of X -/
def R2 (w : World) (X : Option Nat) (v : Value) (r : List Int) : Prop :=
  r.length = 2 ∧ ∃ b off c, v = .slice (some ⟨b, off, none⟩) 2 c ∧ X ≠ some b ∧ w.cell? ⟨b, off, none⟩ = some (.int .i64 (r.getD 0 0)) ∧ w.cell? ⟨b, off + 1, none⟩ = some (.int .i64 (r.getD 1 0))
theorem R2.of {w : World} {X : Option Nat} {v : Value} {r : List Int} (h : Reads w v r) (h2 : r.length = 2) (hX : ∀ b, X = some b → w.heap.size ≤ b) : R2 w X v r := by
  obtain ⟨a, c, rfl, _, h⟩ := h
  rcases h with h | ⟨b, off, rfl, h⟩
  · rw [h] at h2; cases h2
  · have c0 := h 0 (by omega)
    have c1 := h 1 (by omega)
    rw [Nat.add_zero] at c0
    refine ⟨h2, b, off, c, by rw [h2], fun e => ?_, c0, c1⟩
    have h3 := hX b e
    have h4 : b < w.heap.size := World.block_lt_of_cell? _ _ c0
    omega
theorem R2.reads {w : World} {X : Option Nat} {v : Value} {r : List Int} (h : R2 w X v r) : Reads w v r := by
  obtain ⟨h2, b, off, c, rfl, _, c0, c1⟩ := h
  refine ⟨_, c, by rw [h2], by rw [h2]; unfold maxLen; omega, .inr ⟨b, off, rfl, fun i hi => ?_⟩⟩
  have hi' : i = 0 ∨ i = 1 := by omega
  rcases hi' with rfl | rfl
  · exact c0
  · exact c1
theorem R2.keep {w w' : World} {X : Option Nat} {v : Value} {r : List Int} (h : R2 w X v r) (hb : Below w.heap.size w w') : R2 w' X v r := by
  obtain ⟨h2, b, off, c, e, hX, c0, c1⟩ := h
  exact ⟨h2, b, off, c, e, hX, cell_later hb c0, cell_later hb c1⟩
theorem R2.grown {w w' : World} {X X' : Option Nat} {v : Value} {r : List Int} (h : R2 w X v r) (hg : w.grownBy w' X) (hat : X' = X ∨ X' = some w.heap.size) : R2 w' X' v r := by
  obtain ⟨h2, b, off, c, e, hX, c0, c1⟩ := h
  have hlt : b < w.heap.size := World.block_lt_of_cell? _ _ c0
  refine ⟨h2, b, off, c, e, ?_, ?_, ?_⟩
  · rcases hat with rfl | rfl
    · exact hX
    · intro e2; injection e2 with e2; omega
  · rw [← c0]; exact World.cell?_of_block (w := w) (hg.block b hlt (Ne.symm hX))
  · rw [← c1]; exact World.cell?_of_block (w := w) (hg.block b hlt (Ne.symm hX))
/-- rows that are told by a list of values -/
def Rws (w : World) (X : Option Nat) (vs : List Value) (L : List (List Int)) : Prop := vs.length = L.length ∧ ∀ i, i < L.length → ∃ v, vs[i]? = some v ∧ R2 w X v (L.getD i [])
theorem Rws.keep {w w' : World} {X : Option Nat} {vs : List Value} {L : List (List Int)} (h : Rws w X vs L) (hb : Below w.heap.size w w') : Rws w' X vs L :=
  ⟨h.1, fun i hi => by obtain ⟨v, e, r⟩ := h.2 i hi; exact ⟨v, e, r.keep hb⟩⟩
theorem Rws.nil (w : World) (X : Option Nat) : Rws w X [] [] := ⟨rfl, fun i hi => by simp at hi⟩
theorem Rws.append {w : World} {X : Option Nat} {vs ns : List Value} {L M : List (List Int)} (h : Rws w X vs L) (h' : Rws w X ns M) : Rws w X (vs ++ ns) (L ++ M) := by
  refine ⟨by rw [List.length_append, List.length_append, h.1, h'.1], fun i hi => ?_⟩
  rw [List.length_append] at hi
  by_cases hl : i < L.length
  · obtain ⟨v, e, r⟩ := h.2 i hl
    refine ⟨v, by rw [List.getElem?_append_left (by rw [h.1]; exact hl)]; exact e, ?_⟩
    simpa [List.getD_eq_getElem?_getD, List.getElem?_append_left hl] using r
  · obtain ⟨v, e, r⟩ := h'.2 (i - L.length) (by omega)
    refine ⟨v, by rw [List.getElem?_append_right (by rw [h.1]; omega), h.1]; exact e, ?_⟩
    simpa [List.getD_eq_getElem?_getD, List.getElem?_append_right (show L.length ≤ i by omega)] using r
theorem Rws.grown {w w' : World} {X X' : Option Nat} {vs : List Value} {L : List (List Int)} (h : Rws w X vs L) (hg : w.grownBy w' X) (hat : X' = X ∨ X' = some w.heap.size) : Rws w' X' vs L :=
  ⟨h.1, fun i hi => by obtain ⟨v, e, r⟩ := h.2 i hi; exact ⟨v, e, r.grown hg hat⟩⟩
theorem Rws.one {w : World} {X : Option Nat} {vs : List Value} {L : List (List Int)} (h : Rws w X vs L) : ∀ u ∈ vs, u.oneCell' = true := by
  intro u hu
  obtain ⟨i, hi, e⟩ := List.getElem_of_mem hu
  obtain ⟨v, e2, r⟩ := h.2 i (by rw [← h.1]; exact hi)
  rw [List.getElem?_eq_getElem hi, e] at e2
  injection e2 with e2
  subst e2
  obtain ⟨_, b, off, c, rfl, _⟩ := r
  rfl
/-- rows of a slice that came in, as an append of all of them wants them -/
theorem Reads2.rws {w : World} {a : Option Addr} {n c : Nat} {L : List (List Int)} (h : Reads2 w (.slice a n c) L) (h2 : ∀ i, i < L.length → (L.getD i []).length = 2) (X : Option Nat) (hX : ∀ b, X = some b → w.heap.size ≤ b) (h0 : 0 < L.length) :
    ∃ b off vs, a = some ⟨b, off, none⟩ ∧ Rws w X vs L ∧ ∀ j u, vs[j]? = some u → w.cell? ((⟨b, off, none⟩ : Addr).add j) = some u := by
  obtain ⟨a', ca', e, hm, h⟩ := h
  simp only [Value.slice.injEq] at e
  obtain ⟨rfl, rfl, rfl⟩ := e
  rcases h with rfl | ⟨b, off, rfl, h⟩
  · simp at h0
  · have hex : ∀ i, ∃ v, i < L.length → w.cell? ⟨b, off + i, none⟩ = some v ∧ R2 w X v (L.getD i []) := fun i => by
      by_cases hi : i < L.length
      · obtain ⟨u, hu, hr⟩ := h i hi
        exact ⟨u, fun _ => ⟨hu, R2.of hr (h2 i hi) hX⟩⟩
      · exact ⟨.bool true, fun h => absurd h hi⟩
    refine ⟨b, off, (List.range L.length).map (fun i => Classical.choose (hex i)), rfl, ⟨by simp, fun i hi => ⟨Classical.choose (hex i), by simp [hi], (Classical.choose_spec (hex i) hi).2⟩⟩, fun j u hj => ?_⟩
    have hj' : j < L.length := by
      obtain ⟨h1, _⟩ := List.getElem?_eq_some_iff.1 hj
      simpa using h1
    have ea : (⟨b, off, none⟩ : Addr).add j = ⟨b, off + j, none⟩ := by
      unfold Addr.add; split
      · rename_i h; subst h; rfl
      · rfl
    rw [ea, (Classical.choose_spec (hex j) hj').1]
    simpa [hj'] using hj
/-- a slice of the call's own whose rows lie elsewhere -/
def Ar (w : World) (B : Nat) (u : Value) (L : List (List Int)) : Prop := ∃ vs, w.ownsRow B 22 1 u L.length vs ∧ Rws w u.ownBlock vs L
theorem Ar.keep {w w' : World} {B : Nat} {u : Value} {L : List (List Int)} (h : Ar w B u L) (hb : Below w.heap.size w w') : Ar w' B u L := by
  obtain ⟨vs, h1, h2⟩ := h
  exact ⟨vs, rowLater h1 hb, h2.keep hb⟩
theorem Ar.reads {w : World} {B : Nat} {u : Value} {L : List (List Int)} (h : Ar w B u L) : Reads2 w u L := by
  obtain ⟨vs, h1, h2⟩ := h
  have h1' := h1
  rcases h1.2 with ⟨rfl, hn⟩ | ⟨g, cap, cur, rfl, hb, hg, hc, hm, hs, ht⟩
  · have e : L = [] := List.length_eq_zero_iff.1 hn
    subst e
    exact ⟨none, 0, rfl, by simp, .inl rfl⟩
  · refine ⟨_, cap, rfl, by omega, .inr ⟨g, 0, rfl, fun i hi => ?_⟩⟩
    obtain ⟨v, e, r⟩ := h2.2 i hi
    exact ⟨v, by rw [Nat.zero_add, h1'.cellAt i (by omega)]; exact e, r.reads⟩
theorem Ar.more {w w' : World} {B : Nat} {u u' : Value} {vs ns : List Value} {L M : List (List Int)} (h1 : Rws w u.ownBlock vs L) (h2 : Rws w u.ownBlock ns M)
    (ho : w'.ownsRow B 22 1 u' (L.length + M.length) (vs ++ ns)) (hg : w.grownBy w' u.ownBlock) (hat : u'.ownBlock = u.ownBlock ∨ u'.ownBlock = some w.heap.size) : Ar w' B u' (L ++ M) :=
  ⟨vs ++ ns, by rw [List.length_append]; exact ho, (h1.append h2).grown hg hat⟩

theorem r2_new (w : World) (x y : Int) (t : TypeId) (X : Option Nat) (hX : ∀ b, X = some b → b < w.heap.size) : R2 (w.alloc (.cells #[.int .i64 x, .int .i64 y] t)) X (.slice (some ⟨w.heap.size, 0, none⟩) 2 2) [x, y] := by
  refine ⟨rfl, w.heap.size, 0, 2, rfl, fun e => absurd (hX _ e) (Nat.lt_irrefl _), ?_, ?_⟩
  · rw [World.cell?_alloc_at _ _ _ _ rfl]; rfl
  · rw [World.cell?_alloc_at _ _ _ _ rfl]; rfl
theorem r2_newG {g : Nat} (w : World) (hg : g = w.heap.size) (x y : Int) (t : TypeId) (X : Option Nat) (hX : ∀ b, X = some b → b < w.heap.size) : R2 (w.alloc (.cells #[.int .i64 x, .int .i64 y] t)) X (.slice (some ⟨g, 0, none⟩) 2 2) [x, y] := by
  subst hg; exact r2_new w x y t X hX
theorem rws_one {w : World} {X : Option Nat} {v : Value} {r : List Int} (h : R2 w X v r) : Rws w X [v] [r] :=
  ⟨rfl, fun i hi => by have : i = 0 := by simpa using hi
                       subst this; exact ⟨v, rfl, h⟩⟩
theorem rws_two {w : World} {X : Option Nat} {v v' : Value} {r r' : List Int} (h : R2 w X v r) (h' : R2 w X v' r') : Rws w X [v, v'] [r, r'] :=
  ⟨rfl, fun i hi => by
    have hi' : i = 0 ∨ i = 1 := by have : i < 2 := hi; omega
    rcases hi' with rfl | rfl
    · exact ⟨v, rfl, h⟩
    · exact ⟨v', rfl, h'⟩⟩
theorem news_new {g : Nat} (w : World) (hg : g = w.heap.size) (vs : List Value) (t : TypeId) : ∀ j u, vs[j]? = some u → (w.alloc (.cells vs.toArray t)).cell? ((⟨g, 0, none⟩ : Addr).add j) = some u := by
  subst hg
  intro j u h
  refine World.news_of_block (cs := vs.toArray) (t := t) (fr := (0, 0)) (heap_alloc_new w _) j u ?_
  simpa using h

set_option maxRecDepth 100000 in
set_option maxHeartbeats 2000000 in
theorem l10Pairs_any (t size : Int) (q : Nat) (w : World) (hs : size = 3 ∨ size = 4) (hq : q < 2) (h0 : 0 ≤ t) (h1 : t ≤ 1000) :
    Calls Try.prog 105 #[.int .i64 size, .int .i64 t, .int .i64 (q : Int)] w fun e w' => ∃ b vs, e = .returned (.slice (some ⟨b, 0, none⟩) (pairsL t size q).length (pairsL t size q).length) ∧
      (∀ X, (∀ b, X = some b → b < w.heap.size) → Rws w' X vs (pairsL t size q)) ∧ (∀ j u, vs[j]? = some u → w'.cell? ((⟨b, 0, none⟩ : Addr).add j) = some u) ∧ Below w.heap.size w w' := by
  have hq2 : q = 0 ∨ q = 1 := by omega
  have key : ∀ (w : World) (x y : Int) (o : Obj) (X : Option Nat), (∀ b, X = some b → b < w.heap.size) → Rws ((w.alloc (.cells #[.int .i64 x, .int .i64 y] 2)).alloc o) X [.slice (some ⟨w.heap.size, 0, none⟩) 2 2] [[x, y]] := fun w x y o X hX =>
    rws_one ((r2_new w x y 2 X hX).keep ((Below.refl _ _).alloc (Nat.le_refl _) o))
  have key2 : ∀ (w : World) (x y x' y' : Int) (o : Obj) (X : Option Nat), (∀ b, X = some b → b < w.heap.size) → Rws (((w.alloc (.cells #[.int .i64 x, .int .i64 y] 2)).alloc (.cells #[.int .i64 x', .int .i64 y'] 2)).alloc o) X [.slice (some ⟨w.heap.size, 0, none⟩) 2 2, .slice (some ⟨w.heap.size + 1, 0, none⟩) 2 2] [[x, y], [x', y']] := fun w x y x' y' o X hX =>
    rws_two ((r2_new w x y 2 X hX).keep (((Below.refl _ _).alloc (Nat.le_refl _) _).alloc (by simp) o)) ((r2_newG (w.alloc (.cells #[.int .i64 x, .int .i64 y] 2)) (by simp) x' y' 2 X (fun b e => by have := hX b e; simp; omega)).keep ((Below.refl _ _).alloc (Nat.le_refl _) o))
  rcases hs with rfl | rfl
  · rcases hq2 with rfl | rfl
    · have HP : Hid (pairsL t 3 0 = [[t, t + 1]]) := by unfold Hid pairsL; simp
      rw [HP.out]
      go_enter Try.func105, Try.ntmps105
      go_wp2
      go_ret
      exact ⟨_, [.slice (some ⟨w.heap.size, 0, none⟩) 2 2], rfl, fun X hX => key w t (t + 1) _ X hX, news_new _ (by simp) [.slice (some ⟨w.heap.size, 0, none⟩) 2 2] _, by go_grown⟩
    · have HP : Hid (pairsL t 3 1 = [[t, t + 1 + 1]]) := by unfold Hid pairsL; simp
      rw [HP.out]
      go_enter Try.func105, Try.ntmps105
      go_wp2
      go_ret
      exact ⟨_, [.slice (some ⟨w.heap.size, 0, none⟩) 2 2], rfl, fun X hX => key w t (t + 1 + 1) _ X hX, news_new _ (by simp) [.slice (some ⟨w.heap.size, 0, none⟩) 2 2] _, by go_grown⟩
  · rcases hq2 with rfl | rfl
    · have HP : Hid (pairsL t 4 0 = [[t, t + 2], [t + 1, t + 3]]) := by unfold Hid pairsL; simp
      rw [HP.out]
      go_enter Try.func105, Try.ntmps105
      go_wp2
      go_ret
      exact ⟨_, [.slice (some ⟨w.heap.size, 0, none⟩) 2 2, .slice (some ⟨w.heap.size + 1, 0, none⟩) 2 2], rfl, fun X hX => key2 w t (t + 2) (t + 1) (t + 3) _ X hX, news_new _ (by simp) [.slice (some ⟨w.heap.size, 0, none⟩) 2 2, .slice (some ⟨w.heap.size + 1, 0, none⟩) 2 2] _, by go_grown⟩
    · have HP : Hid (pairsL t 4 1 = [[t, t + 3], [t + 1, t + 2]]) := by unfold Hid pairsL; simp; omega
      rw [HP.out]
      go_enter Try.func105, Try.ntmps105
      go_wp2
      go_ret
      exact ⟨_, [.slice (some ⟨w.heap.size, 0, none⟩) 2 2, .slice (some ⟨w.heap.size + 1, 0, none⟩) 2 2], rfl, fun X hX => key2 w t (t + 3) (t + 1) (t + 2) _ X hX, news_new _ (by simp) [.slice (some ⟨w.heap.size, 0, none⟩) 2 2, .slice (some ⟨w.heap.size + 1, 0, none⟩) 2 2] _, by go_grown⟩

/-- the links of the first k switches -/
def lnTo (xs : List Int) (pos : Int) (k : Nat) : List (List Int) := (List.range k).flatMap fun i => pairsL (termZ xs i) (xs.getD i 0) (dig pos.toNat i)
theorem lnTo_succ (xs : List Int) (pos : Int) (k : Nat) : lnTo xs pos (k + 1) = lnTo xs pos k ++ pairsL (termZ xs k) (xs.getD k 0) (dig pos.toNat k) := by unfold lnTo; rw [List.range_succ, List.flatMap_append]; simp
theorem lnTo_len (xs : List Int) (pos : Int) (k : Nat) : (lnTo xs pos k).length ≤ 2 * k := by
  induction k with
  | zero => exact Nat.le_refl _
  | succ k ih => rw [lnTo_succ, List.length_append]; have := pairsL_len (termZ xs k) (xs.getD k 0) (dig pos.toNat k); omega
def linksL (xs : List Int) (yss : List (List Int)) (pos : Int) : List (List Int) := yss ++ lnTo xs pos xs.length

theorem ar_append {w : World} {B n c : Nat} {u : Value} {L M : List (List Int)} {ad : Addr} {vs ns : List Value} (h1 : w.ownsRow B 22 1 u L.length vs) (h2 : Rws w u.ownBlock vs L) (h3 : Rws w u.ownBlock ns M) (h4 : ∀ j x, ns[j]? = some x → w.cell? (ad.add j) = some x)
    (hn : M.length = n) (hl : L.length + M.length ≤ 1000000) (hB : B ≤ w.heap.size) :
    ∃ v' w', (Builtin.append_ #[23, 23] 23 #[u, .slice (some ad) n c]).run Try.prog w = .ok v' w' ∧ Ar w' B v' (L ++ M) ∧ w.grownBy w' u.ownBlock := by
  subst hn
  obtain ⟨i0, hi, hz0, hz1, hz2⟩ := info_parts infoRow
  obtain ⟨v', w', hr, ho, hg, _, hat⟩ := run_append_own_at (P := Try.prog) (w := w) B 23 23 22 i0 (.slice none 0 0) 1 24 Try.underlying23 hi hz0 hz1 hz2 rfl (by decide) u L.length vs h1 ad M.length c ns (by rw [h3.1, Nat.mul_one]) h4 h3.one (by unfold maxLen; omega) (by omega) hB
  exact ⟨v', w', hr, Ar.more h2 h3 ho hg hat, hg⟩
theorem ar_start {w : World} {B m c : Nat} {u : Value} {yss : List (List Int)} {b' : Option Addr} (ho : w.ownsRow B 22 1 u 0 []) (hm : yss.length = m)
    (hrw : 0 < yss.length → ∃ b off vs, b' = some ⟨b, off, none⟩ ∧ Rws w u.ownBlock vs yss ∧ ∀ j x, vs[j]? = some x → w.cell? ((⟨b, off, none⟩ : Addr).add j) = some x) (h16 : yss.length ≤ 16) (hB : B ≤ w.heap.size) :
    ∃ v' w', (Builtin.append_ #[23, 23] 23 #[u, .slice b' m c]).run Try.prog w = .ok v' w' ∧ Ar w' B v' yss ∧ w.grownBy w' u.ownBlock := by
  subst hm
  obtain ⟨i0, hi, hz0, hz1, hz2⟩ := info_parts infoRow
  by_cases h : yss.length = 0
  · have e := List.length_eq_zero_iff.1 h
    subst e
    exact ⟨u, w, run_append_zero (P := Try.prog) (w := w) B _ _ 22 i0 1 Try.underlying23 hi u 0 [] ho b' c, ⟨[], ho, Rws.nil _ _⟩, ⟨rfl, rfl, rfl, Nat.le_refl _, fun _ _ _ => rfl⟩⟩
  · obtain ⟨b, off, vs, rfl, h3, h4⟩ := hrw (by omega)
    have := ar_append (L := []) (M := yss) (c := c) ho (Rws.nil _ _) h3 h4 rfl (by simp; omega) hB
    rwa [List.nil_append] at this

set_option maxRecDepth 100000 in
set_option maxHeartbeats 4000000 in
theorem l10Links_any (v : Value) (p : Int) (xs : List Int) (yss : List (List Int)) (pos : Int) (w : World) (ha : ReadsW w v p xs yss) (hs : SwOk xs) (h2 : ∀ i, i < yss.length → (yss.getD i []).length = 2) (h16 : yss.length ≤ 16) (p0 : 0 ≤ pos) (p1 : pos < 32) :
    Calls Try.prog 79 #[v, .int .i64 pos] w fun e w' => ∃ u, e = .returned u ∧ Reads2 w' u (linksL xs yss pos) ∧ Below w.heap.size w w' := by
  obtain ⟨i0, hi, hz0, hz1, hz2⟩ := info_parts infoRow
  obtain ⟨a, ca, b', cb, rfl, hA, hB⟩ := ha
  have HX : Hid (∀ k, k < xs.length → ∃ b off, a = some ⟨b, off, none⟩ ∧ w.cell? ⟨b, off + k, none⟩ = some (.int .i64 (xs.getD k 0))) := fun k hk => hA.cellW hk
  have hm1 : xs.length ≤ 2 ^ 63 - 1 := by obtain ⟨_, _, _, hm, _⟩ := hA; exact hm
  have h0 := C3.here w (.int .i64 p) (.slice a xs.length ca) (.slice b' yss.length cb) 28
  have hn5 := hs.1.2
  have HPR : Hid (∀ (k : Nat) (w' : World), k < xs.length → Calls Try.prog 105 #[.int .i64 (xs.getD k 0), .int .i64 (termZ xs k), .int .i64 (digZ pos (k : Int))] w' fun e w'' => ∃ b vs, e = .returned (.slice (some ⟨b, 0, none⟩) (pairsL (termZ xs k) (xs.getD k 0) (dig pos.toNat k)).length (pairsL (termZ xs k) (xs.getD k 0) (dig pos.toNat k)).length) ∧
      (∀ X, (∀ b, X = some b → b < w'.heap.size) → Rws w'' X vs (pairsL (termZ xs k) (xs.getD k 0) (dig pos.toNat k))) ∧ (∀ j u, vs[j]? = some u → w''.cell? ((⟨b, 0, none⟩ : Addr).add j) = some u) ∧ Below w'.heap.size w' w'') := fun k w' hk => by
    have hb := termZ_bd hs (k := k) (by omega)
    exact l10Pairs_any _ _ _ w' (hs.2 k hk) (dig_lt _ _) (by omega) (by omega)
  have HST : Hid (∀ k, termZ xs (k + 1) = termZ xs k + xs.getD k 0) := fun k => rfl
  have HBD : Hid (∀ k, k < xs.length → (0 ≤ termZ xs k ∧ termZ xs k ≤ 22) ∧ (0 ≤ xs.getD k 0 ∧ xs.getD k 0 ≤ 4)) := fun k hk => by
    have hb := termZ_bd hs (k := k) (by omega)
    have := hs.2 k hk
    omega
  have HLT : Hid (∀ k, k < xs.length → lnTo xs pos (k + 1) = lnTo xs pos k ++ pairsL (termZ xs k) (xs.getD k 0) (dig pos.toNat k)) := fun k _ => lnTo_succ xs pos k
  have HLL : Hid (∀ k, k < xs.length → (yss ++ lnTo xs pos k).length ≤ 26 ∧ (pairsL (termZ xs k) (xs.getD k 0) (dig pos.toNat k)).length ≤ 2) := fun k hk => ⟨by have := lnTo_len xs pos k; rw [List.length_append]; omega, pairsL_len _ _ _⟩
  have HEND : Hid (yss ++ lnTo xs pos xs.length = linksL xs yss pos) := rfl
  have HRW : Hid (0 < yss.length → ∀ X, (∀ b, X = some b → w.heap.size ≤ b) → ∃ b off vs, b' = some ⟨b, off, none⟩ ∧ Rws w X vs yss ∧ ∀ j u, vs[j]? = some u → w.cell? ((⟨b, off, none⟩ : Addr).add j) = some u) := fun h X hX => hB.rws h2 X hX h
  have HAS : Hid (∃ v' w', (Builtin.append_ #[23, 23] 23 #[.slice (some ⟨w.heap.size + 1, 0, none⟩) 0 0, .slice b' yss.length cb]).run Try.prog ((w.alloc (.cells #[.int .i64 p, .slice a xs.length ca, .slice b' yss.length cb] 28)).alloc (.cells #[] 22)) = .ok v' w' ∧
      Ar w' (w.heap.size + 1) v' yss ∧ ((w.alloc (.cells #[.int .i64 p, .slice a xs.length ca, .slice b' yss.length cb] 28)).alloc (.cells #[] 22)).grownBy w' (some (w.heap.size + 1))) := by
    have ho : ((w.alloc (.cells #[.int .i64 p, .slice a xs.length ca, .slice b' yss.length cb] 28)).alloc (.cells #[] 22)).ownsRow (w.heap.size + 1) 22 1 (.slice (some ⟨w.heap.size + 1, 0, none⟩) 0 0) 0 [] := by
      have h := World.ownsRow_made (base := w.heap.size + 1) (e := 22) (size := 1) (w.alloc (.cells #[.int .i64 p, .slice a xs.length ca, .slice b' yss.length cb] 28)) #[] 0 (by simp) (by simp) rfl
      simpa using h
    refine ar_start ho rfl (fun h => ?_) h16 (by simp)
    obtain ⟨b, off, vs, rfl, h3, h4⟩ := hB.rws h2 (some (w.heap.size + 1)) (fun b e => by injection e with e; omega) h
    have hb : Below w.heap.size w ((w.alloc (.cells #[.int .i64 p, .slice a xs.length ca, .slice (some ⟨b, off, none⟩) yss.length cb] 28)).alloc (.cells #[] 22)) := by go_grown
    exact ⟨b, off, vs, rfl, h3.keep hb, fun j x hj => cell_later hb (h4 j x hj)⟩
  clear hA hB hs h2
  have h03 := h0.alloc (.cells #[] 22)
  have hN5 : Hid (xs.length ≤ 5) := hn5
  obtain ⟨v2, w2, hr2, hAr, hgr2⟩ := HAS.out
  have h02 := C3.grown h03 hgr2 (by simp)
  have hL2 : Below w.heap.size w w2 := Below.grown (by go_grown) hgr2 (by simp; omega) (fun q e => by injection e with e; omega)
  have HAR := Lib.hid hAr
  clear HAS h0 h03 hgr2 hAr
  generalize yss.length = m at *
  generalize xs.length = n at *
  go_enter Try.func79, Try.ntmps79
  go_wp2_with (at_builtin; refine Lib.wpList_append_run _ rfl _ _ _ _ rfl _ _ rfl rfl _ _ hr2 ?_)
  go_loopw [5, 6, 7] (fun u t c wr => ∃ (k : Nat) (tz : Int), k ≤ n ∧ c = .int .i64 (k : Int) ∧ t = .int .i64 tz ∧ Hid (tz = termZ xs k) ∧ Below w.heap.size w wr ∧ C3 wr w.heap.size (.int .i64 p) (.slice a n ca) (.slice b' m cb) ∧ Hid (Ar wr (w.heap.size + 1) u (yss ++ lnTo xs pos k))) (fun _ _ c _ => n - (intOf c).toNat)
  case atStart => exact ⟨0, 2, Nat.zero_le _, rfl, rfl, rfl, hL2, h02, by have := HAR.out; unfold Hid; simpa [lnTo] using this⟩
  case round =>
    clear hL2 h02 HAR
    obtain ⟨k, tz, hk, rfl, rfl, HT, hL, h0, HAR⟩ := hrel
    by_cases hlt : k < n
    · obtain ⟨sb, so, rfl, hca0⟩ := HX.out k hlt
      have hca := cell_later hL hca0
      have hi1 : (k : Int) < (n : Int) := by omega
      have hi0 : (0 : Int) ≤ (k : Int) := by omega
      have hw : bits .and .i64 (pos / 2 ^ k) 1 = digZ pos (k : Int) := by have := digit_walk pos k p0 (by omega) (by omega); simpa using this
      have HP := Lib.hid (fun w' => HPR.out k w' hlt)
      have HT' : Hid (tz + xs.getD k 0 = termZ xs (k + 1)) := by unfold Hid; rw [HST.out k, ← HT.out]
      obtain ⟨⟨b0, b1⟩, b2, b3⟩ := HBD.out k hlt
      have HLK := Lib.hid (HLT.out k hlt)
      have HLB := Lib.hid (HLL.out k hlt)
      rw [← HT.out] at HP HLK HLB b0 b1
      have hdb := digZ_bd pos (k : Int)
      generalize pairsL tz (xs.getD k 0) (dig pos.toNat k) = M at *
      generalize hx : xs.getD k 0 = x at *
      have HXX := Lib.hid hx
      clear hx
      have hu64 := IntWalk.u64_in (k : Int) (by omega)
      have hmn : min (k : Int).toNat 64 = k := by omega
      have HCA := Lib.hid hca0
      clear hca0
      obtain ⟨vs, hvs, hrws⟩ := HAR.out
      have HVS := Lib.hid hvs
      have HRS := Lib.hid hrws
      clear hvs hrws HAR
      go_wp2_with fail
      refine (HP.out _).mono ?_
      rintro e w4 ⟨b, ns, rfl, hns, hnc, hb4⟩
      have hL4 := chain (B := w.heap.size) (a := w) hL (Nat.le_refl _) hb4
      have h04 := keepAt3 hb4 h0
      have hz4 := hL4.size
      have hz0 := h04.lt
      have hX : ∀ bb, u5.ownBlock = some bb → bb < wr.heap.size := fun bb e => (World.ownsRow.lt HVS.out bb e).2
      obtain ⟨v5, w5, hr5, hAr5, hgr5⟩ := ar_append (c := M.length) (rowLater HVS.out hb4) (HRS.out.keep hb4) (hns _ hX) hnc rfl (by have := HLB.out; omega) (by omega)
      have hL5 := hL4.grown hgr5 (by omega) (fun q e => by have := (World.ownsRow.lt HVS.out q e).1; omega)
      have h05 := C3.grown h04 hgr5 (fun e => by have := (World.ownsRow.lt HVS.out _ e).1; omega)
      have HAR5 : Hid (Ar w5 (w.heap.size + 1) v5 (yss ++ lnTo xs pos (k + 1))) := by rw [Hid, HLK.out, ← List.append_assoc]; exact hAr5
      have hca5 := cell_later hL5 HCA.out
      clear hns hnc hb4 hX hgr5 hAr5 h0 h04 hL hL4 hca HRS HVS
      go_wp2_with (at_builtin; refine Lib.wpList_append_run _ rfl _ _ _ _ rfl _ _ rfl rfl _ _ hr5 ?_)
      exact ⟨⟨k + 1, tz + x, by omega, by go_num, by go_num, HT', hL5, h05, HAR5⟩, by simp [intOf]; omega⟩
    · have e : k = n := by omega
      subst e
      have HE := HAR.out.reads
      rw [HEND.out] at HE
      clear HAR
      go_wp2_with fail
      go_ret
      exact ⟨_, rfl, HE, hL⟩

theorem infoBoolW : (Try.prog.info? 4).map (fun i => (i.zero, i.size, i.bytes)) = some (some (.bool false), 1, 1) := by kernel_rfl
/-- what links join -/
def linkE (L : List (List Int)) (a b : Nat) : Prop := ∃ i, i < L.length ∧ ((L.getD i []).getD 0 0).toNat = a ∧ ((L.getD i []).getD 1 0).toNat = b

/-- the slice in block g tells f -/
def FlagsF (w : World) (B g T : Nat) (f : Nat → Bool) : Prop := w.ownsRow B 4 1 (.slice (some ⟨g, 0, none⟩) T T) T ((List.range T).map fun t => Value.bool (f t))
theorem FlagsF.cell {w : World} {B g T : Nat} {f : Nat → Bool} (h : FlagsF w B g T f) {t : Nat} (ht : t < T) : w.cell? ⟨g, t, none⟩ = some (.bool (f t)) ∧ w.frozen? ⟨g, t, none⟩ = false := by
  have h' : w.ownsRow B 4 1 (.slice (some ⟨g, 0, none⟩) T T) T ((List.range T).map fun t => Value.bool (f t)) := h
  refine ⟨?_, h'.frozenAt t⟩
  rw [h'.cellAt t (by omega)]
  simp [ht]
theorem FlagsF.keep {w w' : World} {B g T : Nat} {f : Nat → Bool} (h : FlagsF w B g T f) (hb : Below w.heap.size w w') : FlagsF w' B g T f := rowLater h hb
theorem FlagsF.set {w : World} {B g T : Nat} {f : Nat → Bool} (h : FlagsF w B g T f) (t : Nat) : FlagsF (w.setCell ⟨g, t, none⟩ (.bool true)) B g T (fun x => if x = t then true else f x) := by
  have h1 := (World.ownsRow.stored (w := w) h t (.bool true)).1
  have e : ((List.range T).map fun t => Value.bool (f t)).set t (.bool true) = (List.range T).map fun x => Value.bool (if x = t then true else f x) := by
    apply List.ext_getElem
    · simp
    · intro i h1 h2
      simp only [List.getElem_set, List.getElem_map, List.getElem_range]
      by_cases e : t = i
      · subst e; simp
      · rw [if_neg e, if_neg (Ne.symm e)]
  rw [e] at h1
  exact h1
theorem FlagsF.congr {w : World} {B g T : Nat} {f f' : Nat → Bool} (h : FlagsF w B g T f) (he : ∀ t, t < T → f t = f' t) : FlagsF w B g T f' := by
  unfold FlagsF at *
  have e : ((List.range T).map fun t => Value.bool (f t)) = (List.range T).map fun t => Value.bool (f' t) := by
    apply List.map_congr_left
    intro t ht
    rw [he t (List.mem_range.1 ht)]
  rw [← e]; exact h
theorem made_falseW (m : Nat) : (madeCells (Value.bool false).cells (m * 1)).toList = (List.range m).map fun _ => Value.bool false := by
  simp only [madeCells, Value.cells, Nat.mul_one]
  apply List.ext_getElem
  · simp
  · intro i h1 h2
    simp [Nat.mod_one]

theorem Reads.two {w : World} {v : Value} {c : List Int} (h : Reads w v c) (h2 : c.length = 2) :
    ∃ cb co cc, v = .slice (some ⟨cb, co, none⟩) 2 cc ∧ ∀ j, j < 2 → w.cell? ⟨cb, co + j, none⟩ = some (.int .i64 (c.getD j 0)) := by
  obtain ⟨a, cap, rfl, _, h⟩ := h
  rcases h with rfl | ⟨cb, co, rfl, h⟩
  · cases h2
  · exact ⟨cb, co, cap, by rw [h2], fun j hj => h j (by omega)⟩

/-- how many are not told -/
def cntNo (f : Nat → Bool) : Nat → Nat
  | 0 => 0
  | T + 1 => cntNo f T + (if f T = true then 0 else 1)
theorem cntNo_mono {f f' : Nat → Bool} (h : ∀ t, f t = true → f' t = true) (T : Nat) : cntNo f' T ≤ cntNo f T := by
  induction T with
  | zero => exact Nat.le_refl _
  | succ T ih =>
    simp only [cntNo]
    by_cases e : f T = true
    · rw [if_pos e, if_pos (h T e)]; omega
    · rw [if_neg e]; split <;> omega
theorem cntNo_lt {f f' : Nat → Bool} (h : ∀ t, f t = true → f' t = true) {T t : Nat} (ht : t < T) (h1 : f t = false) (h2 : f' t = true) : cntNo f' T < cntNo f T := by
  induction T with
  | zero => omega
  | succ T ih =>
    simp only [cntNo]
    have hm := cntNo_mono h T
    by_cases e : t = T
    · subst e
      rw [if_pos h2, if_neg (by rw [h1]; simp)]; omega
    · have := ih (by omega)
      by_cases e : f T = true
      · rw [if_pos e, if_pos (h T e)]; omega
      · rw [if_neg e]; split <;> omega
theorem cntNo_congr {f f' : Nat → Bool} {T : Nat} (h : ∀ t, t < T → f t = f' t) : cntNo f T = cntNo f' T := by
  induction T with
  | zero => rfl
  | succ T ih => simp only [cntNo]; rw [ih fun t ht => h t (by omega), h T (by omega)]
def bitW (w : World) (g t : Nat) : Bool := match w.cell? ⟨g, t, none⟩ with | some (.bool b) => b | _ => false
def cntWd (w : World) (g T : Nat) : Nat := cntNo (bitW w g) T
theorem cntWd_eq {w : World} {B g T : Nat} {f : Nat → Bool} (h : FlagsF w B g T f) : cntWd w g T = cntNo f T :=
  cntNo_congr fun t ht => by unfold bitW; rw [(h.cell ht).1]
def boolM : Value → Nat
  | .bool true => 1
  | _ => 0

set_option maxRecDepth 100000 in
set_option maxHeartbeats 4000000 in
theorem l10Live_any (T s : Nat) (v : Value) (L : List (List Int)) (w : World) (ha : Reads2 w v L) (h2 : ∀ i, i < L.length → (L.getD i []).length = 2 ∧ (0 ≤ (L.getD i []).getD 0 0 ∧ (L.getD i []).getD 0 0 < (T : Int)) ∧ (0 ≤ (L.getD i []).getD 1 0 ∧ (L.getD i []).getD 1 0 < (T : Int))) (hT : T ≤ 22) (hs : s < T) :
    Calls Try.prog 78 #[.int .i64 (T : Int), v, .int .i64 (s : Int)] w fun e w' => ∃ g, e = .returned (.slice (some ⟨g, 0, none⟩) T T) ∧ FlagsF w' w.heap.size g T (fun t => bP (Live (linkE L) s t)) ∧ Below w.heap.size w w' := by
  obtain ⟨i0, hi, hz0, hz1, hz2⟩ := info_parts infoBoolW
  have HA := Lib.hid ha
  obtain ⟨a, ca, rfl, hm, _⟩ := ha
  unfold maxLen at hm
  have Ha : Hid (∀ k, k < L.length → ∃ b off u, a = some ⟨b, off, none⟩ ∧ w.cell? ⟨b, off + k, none⟩ = some u ∧ Reads w u (L.getD k [])) := fun k hk => HA.out.cellW hk
  have H2 := Lib.hid h2
  have HE : Hid (∀ i, i < L.length → linkE L ((L.getD i []).getD 0 0).toNat ((L.getD i []).getD 1 0).toNat) := fun i h => ⟨i, h, rfl, rfl⟩
  have HFIN : Hid (∀ f : Nat → Bool, (f s = true ∧ ∀ t, f t = true → Live (linkE L) s t) → (∀ i, i < L.length → f ((L.getD i []).getD 0 0).toNat = f ((L.getD i []).getD 1 0).toNat) → ∀ t, f t = bP (Live (linkE L) s t)) := by
    intro f h1 h2 t
    cases e : f t
    · refine (bP_no fun hl => ?_).symm
      have := hl (fun t => f t = true) h1.1 (fun a b ⟨i, hi, ea, eb⟩ => by rw [← ea, ← eb, h2 i hi])
      rw [e] at this; cases this
    · exact (bP_yes (h1.2 t e)).symm
  clear HA h2
  generalize hnn : L.length = n at *
  clear hnn
  go_enter Try.func78, Try.ntmps78
  go_wp2_with (at_make; refine wpList_make_full _ rfl _ _ 84 rfl w.heap.size 4 i0 (.bool false) 1 Try.underlying84 hi hz0 hz1 .i64 .i64 (T : Int) (T : Int) T rfl rfl rfl rfl (by rw [hz2]; omega) (by unfold maxLen; omega) (Nat.le_refl _) ?_; intro w1 oo hg; have hL : Below w.heap.size w w1 := Below.grown (Below.refl _ w) hg (Nat.le_refl _) (by simp); rw [made_falseW] at oo; have HF : Hid (FlagsF w1 w.heap.size w.heap.size T (fun _ => false)) := oo; have hc0 := (HF.out.cell hs).1; have hf0 := (HF.out.cell hs).2; have hsT : (s : Int) < (T : Int) := (by omega); have hs0 : (0 : Int) ≤ (s : Int) := (by omega))
  have HF1 := Lib.hid (HF.out.set s)
  have hL1 := hL.setCell (p := ⟨w.heap.size, s, none⟩) (Nat.le_refl _) (.bool true)
  clear oo hg HF hc0 hf0 hL
  go_loopw [8] (fun c wr => ∃ (mb : Bool) (f : Nat → Bool), c = .bool mb ∧ Below w.heap.size w wr ∧ Hid (FlagsF wr w.heap.size w.heap.size T f) ∧ Hid (f s = true ∧ ∀ t, f t = true → Live (linkE L) s t) ∧ Hid (mb = false → ∀ i, i < n → f ((L.getD i []).getD 0 0).toNat = f ((L.getD i []).getD 1 0).toNat)) (fun c wr => 2 * cntWd wr w.heap.size T + boolM c)
  case atStart => exact ⟨true, _, rfl, hL1, HF1, ⟨by simp, fun t ht => by by_cases e : t = s <;> simp [e] at ht; subst e; exact Live.self _ _⟩, fun h => by cases h⟩
  case round =>
    clear hL1 HF1
    obtain ⟨mb, f, rfl, hL, HF, HI, HC⟩ := hrel
    cases mb
    · have HR : Hid (FlagsF wr w.heap.size w.heap.size T (fun t => bP (Live (linkE L) s t))) := HF.out.congr fun t _ => HFIN.out f HI.out (HC.out rfl) t
      clear HF HI HC HFIN
      go_wp2_with fail
      go_ret
      exact ⟨_, rfl, HR.out, hL⟩
    · have HCN := Lib.hid (cntWd_eq HF.out)
      obtain ⟨wo, hwo⟩ : ∃ wo : World, wo = wr := ⟨_, rfl⟩
      have HLo : Hid (Below w.heap.size w wo) := by rw [hwo]; exact hL
      have HFo : Hid (FlagsF wo w.heap.size w.heap.size T f) := by rw [hwo]; exact HF
      subst hwo
      clear hL HF HC
      go_wp2_with fail
      go_loopw [8, 9] (fun cm c wr => ∃ (k : Nat) (mb : Bool) (f2 : Nat → Bool), k ≤ n ∧ c = .int .i64 (k : Int) ∧ cm = .bool mb ∧ Below w.heap.size w wr ∧ Hid (FlagsF wr w.heap.size w.heap.size T f2) ∧ Hid (f2 s = true ∧ ∀ t, f2 t = true → Live (linkE L) s t) ∧ Hid (mb = false → f2 = f ∧ ∀ i, i < k → f ((L.getD i []).getD 0 0).toNat = f ((L.getD i []).getD 1 0).toNat) ∧ Hid (mb = true → cntNo f2 T < cntNo f T)) (fun _ c _ => n - (intOf c).toNat)
      case atStart => exact ⟨0, false, f, Nat.zero_le _, rfl, rfl, HLo.out, HFo, HI, fun _ => ⟨rfl, fun i hi => by omega⟩, fun h => by cases h⟩
      case round =>
        obtain ⟨k, mb, f2, hk, rfl, rfl, hL, HF, HI2, HN, HY⟩ := hrel
        by_cases hlt : k < n
        · obtain ⟨b, off, u, rfl, hca0, hru⟩ := Ha.out k hlt
          have hca := cell_later hL hca0
          obtain ⟨hl2, ⟨x0, x1⟩, ⟨y0, y1⟩⟩ := H2.out k hlt
          obtain ⟨ub, uo, uc, rfl, hcu⟩ := (hru.keep hL).two hl2
          have c0 := hcu 0 (by omega)
          have c1 := hcu 1 (by omega)
          rw [Nat.add_zero] at c0
          have HEk := Lib.hid (HE.out k hlt)
          have hi1 : (k : Int) < (n : Int) := by omega
          have hi0 : (0 : Int) ≤ (k : Int) := by omega
          have HSK : Hid (∀ P : Nat → Prop, (∀ i, i < k → P i) → P k → ∀ i, i < k + 1 → P i) := fun P h1 h2 i hi => by
            by_cases e : i = k
            · subst e; exact h2
            · exact h1 i (by omega)
          have HQ : Hid (f ((L.getD k []).getD 0 0).toNat = f ((L.getD k []).getD 1 0).toNat → mb = false → ∀ i, i < k + 1 → f ((L.getD i []).getD 0 0).toNat = f ((L.getD i []).getD 1 0).toNat) := fun h hm => HSK.out (fun i => f ((L.getD i []).getD 0 0).toNat = f ((L.getD i []).getD 1 0).toNat) (HN.out hm).2 h
          clear hcu hl2 hca0 hru HSK
          generalize (L.getD k []).getD 0 0 = x at *
          generalize (L.getD k []).getD 1 0 = y at *
          obtain ⟨X, rfl⟩ := Int.eq_ofNat_of_zero_le x0
          obtain ⟨Y, rfl⟩ := Int.eq_ofNat_of_zero_le y0
          simp only [Int.toNat_natCast] at HEk HQ
          obtain ⟨fx0, fx1⟩ := HF.out.cell (t := X) (by omega)
          obtain ⟨fy0, fy1⟩ := HF.out.cell (t := Y) (by omega)
          have hXT : (X : Int) < (T : Int) := x1
          have hYT : (Y : Int) < (T : Int) := y1
          have hX0 : (0 : Int) ≤ (X : Int) := by omega
          have hY0 : (0 : Int) ≤ (Y : Int) := by omega
          have HXY : Hid (X < T ∧ Y < T) := ⟨by omega, by omega⟩
          have hzz := hL.size
          by_cases hpq : f2 X = f2 Y
          · have hne : (f2 X != f2 Y) = false := by rw [hpq]; simp
            have HN' : Hid (mb = false → f2 = f ∧ ∀ i, i < k + 1 → f ((L.getD i []).getD 0 0).toNat = f ((L.getD i []).getD 1 0).toNat) := fun hm => ⟨(HN.out hm).1, HQ.out (by rw [← (HN.out hm).1]; exact hpq) hm⟩
            clear hpq HN HQ
            generalize f2 X = p at *
            generalize f2 Y = q at *
            have hcs : (p = true ∧ q = true) ∨ (p = false ∧ q = false) := by cases p <;> cases q <;> simp at hne ⊢
            clear hne
            rcases hcs with ⟨rfl, rfl⟩ | ⟨rfl, rfl⟩ <;>
            · go_wp2_with fail
              go_quiet (fail)
              go_wp2_with fail
              go_quiet (fail)
              go_wp2_with fail
              go_roundw
              case rel => exact ⟨k + 1, mb, f2, by omega, by go_num, rfl, Bdrew hL _, HF.out.keep (Bdrew (Below.refl _ _) _), HI2, HN', HY⟩
              case measure => simp [intOf]; omega
          · have hne : (f2 X != f2 Y) = true := by simpa using hpq
            obtain ⟨f3, hf3⟩ : ∃ f3 : Nat → Bool, (fun t => if t = Y then true else (fun t => if t = X then true else f2 t) t) = f3 := ⟨_, rfl⟩
            have HS : Hid (∀ wx, FlagsF wx w.heap.size w.heap.size T f2 → FlagsF ((wx.setCell ⟨w.heap.size, X, none⟩ (.bool true)).setCell ⟨w.heap.size, Y, none⟩ (.bool true)) w.heap.size w.heap.size T f3) := fun wx h => by rw [← hf3]; exact (h.set X).set Y
            have h3a : ∀ t, f2 t = true → f3 t = true := fun t h => by rw [← hf3]; by_cases e : t = Y <;> by_cases e2 : t = X <;> simp [e, e2, h]
            have h3x : f3 X = true := by rw [← hf3]; simp
            have h3y : f3 Y = true := by rw [← hf3]; simp
            have h3l : ∀ t, f3 t = true → Live (linkE L) s t := fun t h => by
              have hst := Live.step (s := s) HEk.out
              have hxy : Live (linkE L) s X ∧ Live (linkE L) s Y := by
                cases e1 : f2 X
                · cases e2 : f2 Y
                  · rw [e1, e2] at hpq; exact absurd rfl hpq
                  · have := HI2.out.2 Y e2; exact ⟨hst.2 this, this⟩
                · have := HI2.out.2 X e1; exact ⟨this, hst.1 this⟩
              rw [← hf3] at h
              by_cases e1 : t = Y
              · subst e1; exact hxy.2
              · by_cases e2 : t = X
                · subst e2; exact hxy.1
                · simp only [if_neg e1, if_neg e2] at h; exact HI2.out.2 t h
            have HI3 : Hid (f3 s = true ∧ ∀ t, f3 t = true → Live (linkE L) s t) := ⟨h3a s HI2.out.1, h3l⟩
            have HLT : Hid (cntNo f3 T < cntNo f T) := by
              have h1 : cntNo f3 T < cntNo f2 T := by
                cases e1 : f2 X
                · exact cntNo_lt h3a HXY.out.1 e1 h3x
                · cases e2 : f2 Y
                  · exact cntNo_lt h3a HXY.out.2 e2 h3y
                  · rw [e1, e2] at hpq; exact absurd rfl hpq
              have h2 : cntNo f2 T ≤ cntNo f T := by
                cases mb
                · rw [(HN.out rfl).1]; exact Nat.le_refl _
                · exact Nat.le_of_lt (HY.out rfl)
              exact Nat.lt_of_lt_of_le h1 h2
            have hXne : X ≠ Y := fun e => hpq (by rw [e])
            have hYne : Y ≠ X := Ne.symm hXne
            clear hf3 h3a h3x h3y h3l hpq HN HQ
            generalize f2 X = p at *
            generalize f2 Y = q at *
            have hcs : (p = true ∧ q = false) ∨ (p = false ∧ q = true) := by cases p <;> cases q <;> simp at hne ⊢
            clear hne
            rcases hcs with ⟨rfl, rfl⟩ | ⟨rfl, rfl⟩ <;>
            · go_wp2_with fail
              go_quiet (fail)
              go_wp2_with fail
              go_quiet (fail)
              go_wp2_with fail
              go_roundw
              case rel => exact ⟨k + 1, true, f3, by omega, by go_num, rfl, ((Bdrew hL _).setCell (p := ⟨w.heap.size, X, none⟩) (Nat.le_refl _) _).setCell (p := ⟨w.heap.size, Y, none⟩) (Nat.le_refl _) _, HS.out (wr.drewN _) (HF.out.keep (Bdrew (Below.refl _ _) _)), HI3, (fun h => by cases h), fun _ => HLT.out⟩
              case measure => simp [intOf]; omega
        · have e : k = n := by omega
          subst e
          have HCN2 := Lib.hid (cntWd_eq HF.out)
          have HME : Hid (2 * cntWd wr w.heap.size T + boolM (.bool mb) < 2 * cntWd wo w.heap.size T + boolM (.bool true)) := by
            rw [Hid, HCN.out, HCN2.out]
            cases mb
            · rw [(HN.out rfl).1]; simp [boolM]
            · have := HY.out rfl
              show 2 * cntNo f2 T + 1 < 2 * cntNo f T + 1
              omega
          have HC2 : Hid (mb = false → ∀ i, i < k → f2 ((L.getD i []).getD 0 0).toNat = f2 ((L.getD i []).getD 1 0).toNat) := fun h => by rw [(HN.out h).1]; exact (HN.out h).2
          clear HN HY
          go_wp2_with fail
          go_roundw
          case rel => exact ⟨mb, f2, rfl, hL, HF, HI2, HC2⟩
          case measure => exact HME.out

/-- a wiring but for its wires' order -/
def WirW (p : Int) (xs : List Int) (yss : List (List Int)) : Prop := SwOk xs ∧ p = termZ xs xs.length ∧ yss.length ≤ 16 ∧ ∀ i, i < yss.length → WOk p (yss.getD i [])
theorem Wir.weak {p : Int} {xs : List Int} {yss : List (List Int)} (h : Wir p xs yss) : WirW p xs yss := ⟨h.1, h.2.1, h.2.2.1, fun i hi => (h.2.2.2 i hi).1⟩
theorem WirW.p22 {p : Int} {xs : List Int} {yss : List (List Int)} (h : WirW p xs yss) : 5 ≤ p ∧ p ≤ 22 := by
  have h1 := termZ_bd h.1 (Nat.le_refl _)
  have h2 := h.1.1
  rw [h.2.1]; omega
theorem WirW.two {p : Int} {xs : List Int} {yss : List (List Int)} (h : WirW p xs yss) : ∀ i, i < yss.length → (yss.getD i []).length = 2 := fun i hi => (h.2.2.2 i hi).1
theorem WirW.w22 {p : Int} {xs : List Int} {yss : List (List Int)} (h : WirW p xs yss) : Wires22 yss := fun i hi => by
  have h1 := h.2.2.2 i hi
  have h2 := h.p22
  unfold WOk at h1
  omega

theorem mem_lnTo {xs : List Int} {pos : Int} {k : Nat} {r : List Int} : r ∈ lnTo xs pos k ↔ ∃ i, i < k ∧ r ∈ pairsL (termZ xs i) (xs.getD i 0) (dig pos.toNat i) := by
  unfold lnTo
  simp only [List.mem_flatMap, List.mem_range]
theorem links_mem {xs : List Int} {yss : List (List Int)} {pos : Int} {r : List Int} : r ∈ linksL xs yss pos ↔ r ∈ yss ∨ ∃ i, i < xs.length ∧ r ∈ pairsL (termZ xs i) (xs.getD i 0) (dig pos.toNat i) := by
  unfold linksL
  rw [List.mem_append, mem_lnTo]
theorem linkE_mem {L : List (List Int)} {a b : Nat} : linkE L a b ↔ ∃ r ∈ L, (r.getD 0 0).toNat = a ∧ (r.getD 1 0).toNat = b := by
  unfold linkE
  constructor
  · rintro ⟨i, hi, h⟩; exact ⟨_, getD_mem hi, h⟩
  · rintro ⟨r, hr, h⟩
    obtain ⟨i, hi, e⟩ := mem_getD hr
    exact ⟨i, hi, by rw [e]; exact h⟩
theorem links_E (xs : List Int) (yss : List (List Int)) (pos : Int) (a b : Nat) : linkE (linksL xs yss pos) a b ↔ wirE xs yss (fun _ => false) pos a b := by
  rw [linkE_mem]
  unfold wirE
  constructor
  · rintro ⟨r, hr, h⟩
    rcases links_mem.1 hr with hr | ⟨i, hi, hr⟩
    · obtain ⟨i, hi, e⟩ := mem_getD hr
      exact .inl ⟨i, hi, rfl, by rw [e]; exact h⟩
    · exact .inr ⟨i, hi, r, hr, h⟩
  · rintro (⟨i, hi, _, h⟩ | ⟨i, hi, r, hr, h⟩)
    · exact ⟨_, links_mem.2 (.inl (getD_mem hi)), h⟩
    · exact ⟨r, links_mem.2 (.inr ⟨i, hi, hr⟩), h⟩
theorem links_bd {p : Int} {xs : List Int} {yss : List (List Int)} (h : WirW p xs yss) (pos : Int) : ∀ i, i < (linksL xs yss pos).length → ((linksL xs yss pos).getD i []).length = 2 ∧ (0 ≤ ((linksL xs yss pos).getD i []).getD 0 0 ∧ ((linksL xs yss pos).getD i []).getD 0 0 < p) ∧ (0 ≤ ((linksL xs yss pos).getD i []).getD 1 0 ∧ ((linksL xs yss pos).getD i []).getD 1 0 < p) := by
  intro i hi
  have hm := getD_mem hi
  generalize (linksL xs yss pos).getD i [] = r at *
  rcases links_mem.1 hm with hr | ⟨j, hj, hr⟩
  · obtain ⟨j, hj, e⟩ := mem_getD hr
    have := h.2.2.2 j hj
    rw [e] at this
    unfold WOk at this
    omega
  · have h1 := pairs_bd (h.1.2 j hj) (dig_lt _ _) hr
    have h2 := term_in h.1 hj
    have h3 := termZ_bd h.1 (k := j) (by omega)
    rw [h.2.1]
    refine ⟨?_, by omega, by omega⟩
    unfold pairsL at hr
    split at hr
    · simp only [List.mem_singleton] at hr; subst hr; rfl
    · simp only [List.mem_cons, List.not_mem_nil, or_false] at hr
      rcases hr with rfl | rfl <;> rfl
/-- is the lamp lit -/
noncomputable def litB (xs : List Int) (yss : List (List Int)) (pos : Int) : Bool := bP (Live (wirE xs yss (fun _ => false) pos) 0 1)
theorem links_lit (xs : List Int) (yss : List (List Int)) (pos : Int) (t : Nat) : bP (Live (linkE (linksL xs yss pos)) 0 t) = bP (Live (wirE xs yss (fun _ => false) pos) 0 t) :=
  bP_congr (Live.congr (links_E xs yss pos) 0 t)

set_option maxRecDepth 100000 in
set_option maxHeartbeats 2000000 in
theorem l10Lit_any (v : Value) (p : Int) (xs : List Int) (yss : List (List Int)) (pos : Int) (w : World) (ha : ReadsW w v p xs yss) (hw : WirW p xs yss) (p0 : 0 ≤ pos) (p1 : pos < 32) {b : Bool} (hb : litB xs yss pos = b) :
    Calls Try.prog 73 #[v, .int .i64 pos] w fun e w' => e = .returned (.bool b) ∧ Below w.heap.size w w' := by
  have HLN := Lib.hid (fun w' (h : Below w.heap.size w w') => l10Links_any v p xs yss pos w' (ha.keep h) hw.1 hw.two hw.2.2.1 p0 p1)
  obtain ⟨hp5, hp22⟩ := hw.p22
  obtain ⟨T, hT⟩ := Int.eq_ofNat_of_zero_le (show 0 ≤ p by omega)
  have HLV : Hid (∀ (w' : World) (u : Value), Reads2 w' u (linksL xs yss pos) → Calls Try.prog 78 #[.int .i64 p, u, .int .i64 0] w' fun e w'' => ∃ g, e = .returned (.slice (some ⟨g, 0, none⟩) T T) ∧ w''.cell? ⟨g, 1, none⟩ = some (.bool b) ∧ Below w'.heap.size w' w'') := fun w' u h => by
    have := l10Live_any T 0 u (linksL xs yss pos) w' h (by rw [← hT]; exact links_bd hw pos) (by omega) (by omega)
    rw [hT]
    refine this.mono ?_
    rintro e w'' ⟨g, he, hf, hbl⟩
    refine ⟨g, he, ?_, hbl⟩
    rw [(hf.cell (t := 1) (by omega)).1, links_lit, ← hb]
    rfl
  have hT2 : (1 : Int) < (T : Int) := by omega
  obtain ⟨a, ca, b', cb, rfl, _, _⟩ := ha
  have h0 := C3.here w (.int .i64 p) (.slice a xs.length ca) (.slice b' yss.length cb) 28
  have hL0 : Below w.heap.size w (w.alloc (.cells #[.int .i64 p, .slice a xs.length ca, .slice b' yss.length cb] 28)) := by go_grown
  clear hb hw hT hp5 hp22
  generalize xs.length = n at *
  generalize yss.length = m at *
  go_enter Try.func73, Try.ntmps73
  go_wp2_with fail
  go_region_with (first | (go_at_call 79; (with_reducible refine (HLN.out _ (by go_grown)).mono ?_); rintro e wa ⟨u, rfl, hu, hb⟩; have hL := chain (B := w.heap.size) (a := w) (by go_grown) (Nat.le_refl _) hb; replace h0 := keepAt3 hb (show C3 _ w.heap.size (.int .i64 p) (.slice a n ca) (.slice b' m cb) from by (repeat' (first | (with_reducible assumption) | (with_reducible refine C3.drewU ?_) | (with_reducible refine C3.alloc ?_ _)))); have HU := Lib.hid hu; clear hb hu) | (go_at_call 78; (with_reducible refine (HLV.out _ _ (HU.out.keep (by go_grown))).mono ?_); rintro e wb ⟨g, rfl, hc, hb⟩; replace hL := chain (B := w.heap.size) (a := w) (by go_grown) (Nat.le_refl _) hb; replace h0 := keepAt3 hb (show C3 _ w.heap.size (.int .i64 p) (.slice a n ca) (.slice b' m cb) from by (repeat' (first | (with_reducible assumption) | (with_reducible refine C3.drewU ?_) | (with_reducible refine C3.alloc ?_ _)))); clear hb))
  all_goals go_wp2_with fail
  all_goals go_ret
  all_goals exact ⟨rfl, by go_grown⟩

end Go.Proofs.Ytkdidplpnhokiaa
