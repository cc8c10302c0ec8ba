/- Formulas in memory: the members of a formula lie in rows of their own, and theirs in others, all apart. -/
import Derived.Test.YtohmhiodmaahfaaDoorFm
import Derived.Test.YtohmhiodmaahfaaDoorOwn2
namespace Go.Proofs.YtohmhiodmaahfaaDoor
open Go.RowKit
set_option linter.unusedVariables false

abbrev noF : Fm := .mk 0 []
/-- the cells of a list of formulas whose members lie in the slices V -/
def cellsF (ts : List Fm) (V : Nat → Value) : List Value := (List.range ts.length).flatMap fun i => [.int .u8 (ts.getD i noF).sign, V i]
theorem cellsF_congr {ts : List Fm} {V V' : Nat → Value} (h : ∀ i, i < ts.length → V i = V' i) : cellsF ts V = cellsF ts V' := by
  unfold cellsF
  have : ∀ (l : List Nat), (∀ i ∈ l, i < ts.length) → (l.flatMap fun i => [.int .u8 (ts.getD i noF).sign, V i]) = l.flatMap fun i => [.int .u8 (ts.getD i noF).sign, V' i] := by
    intro l
    induction l with
    | nil => intro _; rfl
    | cons a l ih =>
      intro hl
      simp only [List.flatMap_cons]
      rw [h a (hl a (by simp)), ih fun i hi => hl i (by simp [hi])]
  exact this _ fun i hi => List.mem_range.1 hi
theorem flat2_len (n : Nat) (f g : Nat → Value) : ((List.range n).flatMap fun i => [f i, g i]).length = 2 * n := by
  induction n with
  | zero => rfl
  | succ n ih => rw [List.range_succ, List.flatMap_append, List.length_append, ih]; simp; omega
theorem flat2_get (n : Nat) (f g : Nat → Value) (k : Nat) (hk : k < n) : ((List.range n).flatMap fun i => [f i, g i])[2 * k]? = some (f k) ∧ ((List.range n).flatMap fun i => [f i, g i])[2 * k + 1]? = some (g k) := by
  induction n with
  | zero => omega
  | succ n ih =>
    have hl := flat2_len n f g
    rw [List.range_succ, List.flatMap_append]
    by_cases e : k < n
    · obtain ⟨h1, h2⟩ := ih e
      rw [List.getElem?_append_left (by omega), List.getElem?_append_left (by omega)]
      exact ⟨h1, h2⟩
    · have : k = n := by omega
      subst this
      rw [List.getElem?_append_right (by omega), List.getElem?_append_right (by omega), hl]
      simp
theorem cellsF_len (ts : List Fm) (V : Nat → Value) : (cellsF ts V).length = 2 * ts.length := flat2_len _ _ _
theorem cellsF_get {ts : List Fm} {V : Nat → Value} {k : Nat} (hk : k < ts.length) : (cellsF ts V)[2 * k]? = some (.int .u8 (ts.getD k noF).sign) ∧ (cellsF ts V)[2 * k + 1]? = some (V k) := flat2_get _ _ _ k hk
theorem getD_snoc_lt {ts : List Fm} {t : Fm} {i : Nat} (h : i < ts.length) : (ts ++ [t]).getD i noF = ts.getD i noF := by
  simp only [List.getD_eq_getElem?_getD]; rw [List.getElem?_append_left h]
theorem getD_snoc_eq {ts : List Fm} {t : Fm} : (ts ++ [t]).getD ts.length noF = t := by
  simp [List.getD_eq_getElem?_getD]
theorem cellsF_snoc (ts : List Fm) (t : Fm) (V : Nat → Value) : cellsF (ts ++ [t]) V = cellsF ts V ++ [.int .u8 t.sign, V ts.length] := by
  unfold cellsF
  rw [List.length_append, List.length_singleton, List.range_succ, List.flatMap_append]
  congr 1
  · have : ∀ (l : List Nat), (∀ i ∈ l, i < ts.length) → (l.flatMap fun i => [.int .u8 ((ts ++ [t]).getD i noF).sign, V i]) = l.flatMap fun i => [.int .u8 (ts.getD i noF).sign, V i] := by
      intro l
      induction l with
      | nil => intro _; rfl
      | cons a l ih =>
        intro hl
        simp only [List.flatMap_cons]
        rw [getD_snoc_lt (hl a (by simp)), ih fun i hi => hl i (by simp [hi])]
    exact this _ fun i hi => List.mem_range.1 hi
  · simp [List.getD_eq_getElem?_getD]

/-- the slice v, in a row of its own from block B on, has the formulas ts, and theirs in rows of their own; bs: all blocks -/
inductive Hold (w : World) (B : Nat) : Value → List Fm → List Nat → Prop
  | mk (v : Value) (ts : List Fm) (V : Nat → Value) (bss : Nat → List Nat) (h : w.ownsRow B 50 2 v ts.length (cellsF ts V))
      (hm : ∀ i, i < ts.length → Hold w B (V i) (ts.getD i noF).members (bss i)) : Hold w B v ts (v.ownBlock.toList ++ (List.range ts.length).flatMap bss)
theorem Hold.same {w w' : World} {B : Nat} {v : Value} {ts : List Fm} {bs : List Nat} (h : Hold w B v ts bs) (he : ∀ k ∈ bs, w'.heap[k]? = w.heap[k]?) : Hold w' B v ts bs := by
  induction h with
  | mk v ts V bss h hm ih =>
    refine .mk v ts V bss (rowSame h fun k _ e => he k (by simp [e])) fun i hi => ih i hi fun k hk => he k ?_
    simp only [List.mem_append, List.mem_flatMap, List.mem_range]
    exact .inr ⟨i, hi, hk⟩
theorem Hold.lt {w : World} {B : Nat} {v : Value} {ts : List Fm} {bs : List Nat} (h : Hold w B v ts bs) : ∀ k ∈ bs, B ≤ k ∧ k < w.heap.size := by
  induction h with
  | mk v ts V bss h hm ih =>
    intro k hk
    simp only [List.mem_append, List.mem_flatMap, List.mem_range, Option.mem_toList] at hk
    rcases hk with hk | ⟨i, hi, hk⟩
    · exact World.ownsRow.lt h k hk
    · exact ih i hi k hk
theorem Hold.keep {w w' : World} {B : Nat} {v : Value} {ts : List Fm} {bs : List Nat} (h : Hold w B v ts bs) (hb : Below w.heap.size w w') : Hold w' B v ts bs :=
  h.same fun k hk => hb.block k (h.lt k hk).2
theorem Hold.nil (w : World) (B : Nat) : Hold w B (.slice none 0 0) [] [] :=
  .mk _ [] (fun _ => .slice none 0 0) (fun _ => []) (World.ownsRow_nil _ _ _ _) fun i hi => by simp at hi
theorem Hold.row {w : World} {B : Nat} {v : Value} {ts : List Fm} {bs : List Nat} (h : Hold w B v ts bs) : ∃ V, w.ownsRow B 50 2 v ts.length (cellsF ts V) ∧ (∀ k, v.ownBlock = some k → k ∈ bs) ∧ ∀ i, i < ts.length → ∃ bs', Hold w B (V i) (ts.getD i noF).members bs' ∧ ∀ k ∈ bs', k ∈ bs := by
  cases h with
  | mk v ts V bss h hm =>
    refine ⟨V, h, fun k e => by simp [e], fun i hi => ⟨bss i, hm i hi, fun k hk => ?_⟩⟩
    simp only [List.mem_append, List.mem_flatMap, List.mem_range]
    exact .inr ⟨i, hi, hk⟩
/-- one formula more behind the others -/
theorem Hold.snoc {w w' : World} {B : Nat} {v v' u : Value} {ts : List Fm} {t : Fm} {bs bs' : List Nat} (h : Hold w B v ts bs) (hu : Hold w B u t.members bs') (hnd : (bs ++ bs').Nodup)
    (hg : w.grownBy w' v.ownBlock) (hat : v'.ownBlock = v.ownBlock ∨ ∃ g, v'.ownBlock = some g ∧ w.heap.size ≤ g)
    (ho : ∀ V, w.ownsRow B 50 2 v ts.length (cellsF ts V) → w'.ownsRow B 50 2 v' (ts.length + 1) (cellsF ts V ++ [.int .u8 t.sign, u])) :
    ∃ bs2, Hold w' B v' (ts ++ [t]) bs2 ∧ (∀ k ∈ bs2, k ∈ bs ∨ k ∈ bs' ∨ w.heap.size ≤ k) ∧ bs2.Nodup := by
  cases h with
  | mk v ts V bss h hm =>
    have hlt1 := (Hold.mk v ts V bss h hm).lt
    have hlt2 := hu.lt
    let V' : Nat → Value := fun i => if i < ts.length then V i else u
    let bss' : Nat → List Nat := fun i => if i < ts.length then bss i else bs'
    have hflat : (List.range (ts ++ [t]).length).flatMap bss' = (List.range ts.length).flatMap bss ++ bs' := by
      rw [List.length_append, List.length_singleton, List.range_succ, List.flatMap_append]
      congr 1
      · have : ∀ (l : List Nat), (∀ i ∈ l, i < ts.length) → l.flatMap bss' = l.flatMap bss := by
          intro l
          induction l with
          | nil => intro _; rfl
          | cons a l ih =>
            intro hl
            simp only [List.flatMap_cons]
            rw [ih fun i hi => hl i (by simp [hi])]
            simp [bss', hl a (by simp)]
        exact this _ fun i hi => List.mem_range.1 hi
      · simp [bss']
    have hsame : ∀ k, k ∈ (List.range ts.length).flatMap bss ∨ k ∈ bs' → w'.heap[k]? = w.heap[k]? := by
      intro k hk
      have hk2 : k < w.heap.size := by
        rcases hk with hk | hk
        · exact (hlt1 k (by simp only [List.mem_append]; exact .inr hk)).2
        · exact (hlt2 k hk).2
      refine hg.block k hk2 fun e => ?_
      have e' : k ∈ v.ownBlock.toList := by rw [← e]; simp
      rw [List.append_assoc, List.nodup_append] at hnd
      exact hnd.2.2 k e' k (by simp only [List.mem_append]; exact hk) rfl
    have hrow : w'.ownsRow B 50 2 v' (ts ++ [t]).length (cellsF (ts ++ [t]) V') := by
      rw [cellsF_snoc, List.length_append, List.length_singleton]
      have e1 : cellsF ts V' = cellsF ts V := cellsF_congr fun i hi => by simp [V', hi]
      have e2 : V' ts.length = u := by simp [V']
      rw [e1, e2]
      exact ho V h
    refine ⟨_, .mk v' (ts ++ [t]) V' bss' hrow fun i hi => ?_, ?_, ?_⟩
    · by_cases hi2 : i < ts.length
      · rw [getD_snoc_lt hi2]
        have e1 : V' i = V i := by simp [V', hi2]
        have e2 : bss' i = bss i := by simp [bss', hi2]
        rw [e1, e2]
        exact (hm i hi2).same fun k hk => hsame k (.inl (by simp only [List.mem_flatMap, List.mem_range]; exact ⟨i, hi2, hk⟩))
      · have e : i = ts.length := by simp at hi; omega
        subst e
        rw [getD_snoc_eq]
        have e1 : V' ts.length = u := by simp [V']
        have e2 : bss' ts.length = bs' := by simp [bss']
        rw [e1, e2]
        exact hu.same fun k hk => hsame k (.inr hk)
    · intro k hk
      rw [hflat] at hk
      simp only [List.mem_append, Option.mem_toList] at hk ⊢
      rcases hk with hk | hk | hk
      · rcases hat with h1 | ⟨g, h1, h2⟩
        · exact .inl (.inl (by rw [← h1]; exact hk))
        · rw [h1] at hk
          have : g = k := by simpa using hk
          exact .inr (.inr (by omega))
      · exact .inl (.inr hk)
      · exact .inr (.inl hk)
    · rw [hflat]
      rw [List.append_assoc] at hnd
      rcases hat with h1 | ⟨g, h1, h2⟩
      · rw [h1]; exact hnd
      · rw [h1]
        rw [List.nodup_append] at hnd ⊢
        refine ⟨by simp, hnd.2.1, fun a ha b hb e => ?_⟩
        have : a = g := by simpa using ha
        subst e
        simp only [List.mem_append] at hb
        rcases hb with hb | hb
        · have := (hlt1 a (by simp only [List.mem_append]; exact .inr hb)).2; omega
        · have := (hlt2 a hb).2; omega

/-- the last formula of a row, and what is left when it is taken off or written over -/
theorem Hold.top {w : World} {B g n cap : Nat} {S : List Fm} {t : Fm} {bs : List Nat} (hn : S.length = n) (h : Hold w B (.slice (some ⟨g, 0, none⟩) (n + 1) cap) (S ++ [t]) bs) (hnd : bs.Nodup) :
    ∃ (u : Value) (bs1 bs2 : List Nat), w.cell? ⟨g, 2 * n, none⟩ = some (.int .u8 t.sign) ∧ w.cell? ⟨g, 2 * n + 1, none⟩ = some u ∧ w.frozen? ⟨g, 2 * n, none⟩ = false ∧ w.frozen? ⟨g, 2 * n + 1, none⟩ = false ∧ Hold w B u t.members bs2 ∧ (g :: (bs1 ++ bs2)).Nodup ∧ (∀ k, k ∈ bs ↔ k = g ∨ k ∈ bs1 ∨ k ∈ bs2) ∧ B ≤ g ∧ g < w.heap.size ∧
      Hold w B (.slice (some ⟨g, 0, none⟩) n cap) S (g :: bs1) ∧
      (∀ (w' : World) (t' : Fm) (u' : Value) (bs2' : List Nat), (∀ k ∈ bs1, w'.heap[k]? = w.heap[k]?) → w'.heap[g]? = w.heap[g]? → t'.sign = t.sign → Hold (w'.setCell ⟨g, 2 * n + 1, none⟩ u') B u' t'.members bs2' →
        Hold (w'.setCell ⟨g, 2 * n + 1, none⟩ u') B (.slice (some ⟨g, 0, none⟩) (n + 1) cap) (S ++ [t']) (g :: (bs1 ++ bs2'))) := by
  subst hn
  generalize hL : S ++ [t] = L at h
  generalize hv : (Value.slice (some ⟨g, 0, none⟩) (S.length + 1) cap) = v at h
  cases h with
  | mk v ts V bss h hm =>
    subst hL hv
    have hlen : (S ++ [t]).length = S.length + 1 := by simp
    have hflat : (List.range (S ++ [t]).length).flatMap bss = (List.range S.length).flatMap bss ++ bss S.length := by
      rw [hlen, List.range_succ, List.flatMap_append]; simp
    rw [hlen] at h
    have hc := cellsF_get (ts := S ++ [t]) (V := V) (k := S.length) (by simp)
    rw [getD_snoc_eq] at hc
    have hu := hm S.length (by simp)
    rw [getD_snoc_eq] at hu
    have hgl := World.ownsRow.lt h g rfl
    have hown : (Value.slice (some ⟨g, 0, none⟩) (S.length + 1) cap).ownBlock.toList = [g] := rfl
    have hnd2 : (g :: ((List.range S.length).flatMap bss ++ bss S.length)).Nodup := by
      rw [hflat, hown] at hnd; exact hnd
    refine ⟨V S.length, (List.range S.length).flatMap bss, bss S.length, ?_, ?_, h.frozenAt _, h.frozenAt _, hu, hnd2, ?_, hgl.1, hgl.2, ?_, ?_⟩
    · rw [h.cellAt _ (by omega)]; exact hc.1
    · rw [h.cellAt _ (by omega)]; exact hc.2
    · intro k
      rw [hflat, hown]
      simp only [List.mem_append, List.mem_singleton]
    · have hrow : w.ownsRow B 50 2 (.slice (some ⟨g, 0, none⟩) S.length cap) S.length (cellsF S V) := by
        refine ⟨by rw [cellsF_len, Nat.mul_comm], .inr ?_⟩
        rcases h.2 with ⟨hn, _⟩ | ⟨g', cap', cur, e, h1, h2, h3, h4, h5, h6⟩
        · cases hn
        · simp only [Value.slice.injEq, Option.some.injEq, Addr.mk.injEq, and_true, true_and] at e
          obtain ⟨rfl, rfl⟩ := e
          refine ⟨g, cap, cur, rfl, h1, h2, by omega, h4, h5, ?_⟩
          rw [cellsF_snoc] at h6
          have e1 : cur.toList.take (S.length * 2) = (cur.toList.take ((S.length + 1) * 2)).take (S.length * 2) := by rw [List.take_take, Nat.min_eq_left (by omega)]
          rw [e1, h6, List.take_append_of_le_length (by rw [cellsF_len]; omega), List.take_of_length_le (by rw [cellsF_len]; omega)]
      exact .mk _ S V bss hrow fun i hi => by
        have := hm i (by simp; omega)
        rwa [getD_snoc_lt hi] at this
    · intro w' t' u' bs2' hsame hg hsg hu'
      have hgn : g ∉ (List.range S.length).flatMap bss := fun hh => by
        have := (List.nodup_cons.1 hnd2).1
        exact this (by simp only [List.mem_append]; exact .inl hh)
      let V' : Nat → Value := fun i => if i < S.length then V i else u'
      let bss' : Nat → List Nat := fun i => if i < S.length then bss i else bs2'
      have hcell : cellsF (S ++ [t']) V' = (cellsF (S ++ [t]) V).set (2 * S.length + 1) u' := by
        rw [cellsF_snoc, cellsF_snoc, hsg]
        have e1 : cellsF S V' = cellsF S V := cellsF_congr fun i hi => by simp [V', hi]
        have e2 : V' S.length = u' := by simp [V']
        rw [e1, e2, List.set_append_right _ _ (by rw [cellsF_len]; omega), cellsF_len]
        have : 2 * S.length + 1 - 2 * S.length = 1 := by omega
        rw [this]
        rfl
      have h' : w'.ownsRow B 50 2 (.slice (some ⟨g, 0, none⟩) (S.length + 1) cap) (S.length + 1) (cellsF (S ++ [t]) V) := rowSame h fun k _ e => by
        have : g = k := by simpa [Value.ownBlock] using e
        subst this
        exact hg
      have hst := (h'.stored (2 * S.length + 1) u').1
      rw [← hcell] at hst
      have hl2 : (S ++ [t']).length = S.length + 1 := by simp
      have hflat' : (List.range (S ++ [t']).length).flatMap bss' = (List.range S.length).flatMap bss ++ bs2' := by
        rw [hl2, List.range_succ, List.flatMap_append]
        congr 1
        · have : ∀ (l : List Nat), (∀ i ∈ l, i < S.length) → l.flatMap bss' = l.flatMap bss := by
            intro l
            induction l with
            | nil => intro _; rfl
            | cons a l ih =>
              intro hl
              simp only [List.flatMap_cons]
              rw [ih fun i hi => hl i (by simp [hi])]
              simp [bss', hl a (by simp)]
          exact this _ fun i hi => List.mem_range.1 hi
        · simp [bss']
      have hfin := Hold.mk (w := w'.setCell ⟨g, 2 * S.length + 1, none⟩ u') (B := B) (.slice (some ⟨g, 0, none⟩) (S.length + 1) cap) (S ++ [t']) V' bss' (by rw [hl2]; exact hst) fun i hi => by
        by_cases hi2 : i < S.length
        · rw [getD_snoc_lt hi2]
          have e1 : V' i = V i := by simp [V', hi2]
          have e2 : bss' i = bss i := by simp [bss', hi2]
          rw [e1, e2]
          have h0 := hm i (by simp; omega)
          rw [getD_snoc_lt hi2] at h0
          refine h0.same fun k hk => ?_
          have hk2 : k ∈ (List.range S.length).flatMap bss := by simp only [List.mem_flatMap, List.mem_range]; exact ⟨i, hi2, hk⟩
          rw [Below.heap_setCell _ _ _ _ (fun e => hgn (by have e2 : k = g := e; rw [← e2]; exact hk2))]
          exact hsame k hk2
        · have e : i = S.length := by simp at hi; omega
          subst e
          rw [getD_snoc_eq]
          have e1 : V' S.length = u' := by simp [V']
          have e2 : bss' S.length = bs2' := by simp [bss']
          rw [e1, e2]
          exact hu'
      rw [hflat'] at hfin
      exact hfin

end Go.Proofs.YtohmhiodmaahfaaDoor
