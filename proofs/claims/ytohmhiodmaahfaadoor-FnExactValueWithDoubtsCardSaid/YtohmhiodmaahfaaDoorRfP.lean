/- One member more for the bracket that is open inmost: what memory holds then. -/
import Derived.Test.YtohmhiodmaahfaaDoorRfM
namespace Go.Proofs.YtohmhiodmaahfaaDoor
open Go.RowKit
set_option linter.unusedVariables false

theorem rowUniq {w : World} {b : Nat} {e : TypeId} {sz : Nat} {v : Value} {n : Nat} {xs ys : List Value} (h1 : w.ownsRow b e sz v n xs) (h2 : w.ownsRow b e sz v n ys) : xs = ys := by
  rcases h1.2 with ⟨rfl, rfl⟩ | ⟨g, cap, cur, rfl, _, hg, _, _, _, ht⟩
  · have e1 : xs = [] := List.eq_nil_of_length_eq_zero (by simpa using h1.1)
    have e2 : ys = [] := List.eq_nil_of_length_eq_zero (by simpa using h2.1)
    rw [e1, e2]
  · rcases h2.2 with ⟨h, _⟩ | ⟨g2, cap2, cur2, hv, _, hg2, _, _, _, ht2⟩
    · cases h
    · simp only [Value.slice.injEq, Option.some.injEq, Addr.mk.injEq, and_true, true_and] at hv
      obtain ⟨rfl, rfl⟩ := hv
      rw [hg] at hg2
      simp only [Option.some.injEq, Obj.cells.injEq] at hg2
      obtain ⟨rfl, _⟩ := hg2
      rw [← ht, ← ht2]
theorem Hold.grow {w w' : World} {B : Nat} {v v' u : Value} {ts : List Fm} {t : Fm} {bs bs' : List Nat} {V : Nat → Value} (h : Hold w B v ts bs) (hu : Hold w B u t.members bs') (hnd : (bs ++ bs').Nodup)
    (hg : w.grownBy w' v.ownBlock) (hat : v'.ownBlock = v.ownBlock ∨ ∃ g, v'.ownBlock = some g ∧ w.heap.size ≤ g) (hV : w.ownsRow B 50 2 v ts.length (cellsF ts V))
    (ho : w'.ownsRow B 50 2 v' (ts.length + 1) (cellsF ts V ++ [.int .u8 t.sign, u])) :
    ∃ bs2, Hold w' B v' (ts ++ [t]) bs2 ∧ (∀ k ∈ bs2, k ∈ bs ∨ k ∈ bs' ∨ w.heap.size ≤ k) ∧ bs2.Nodup :=
  Hold.snoc h hu hnd hg hat fun V' h' => by rw [rowUniq h' hV]; exact ho
theorem grown_setRow {w w' : World} {row : Option Nat} (h : w.grownBy w' row) (p : Addr) (x : Value) (hp : row = some p.block ∨ w.heap.size ≤ p.block) : w.grownBy (w'.setCell p x) row :=
  ⟨h.os, h.tape, h.output, by rw [World.size_setCell]; exact h.size, fun k hk hne => by
    rw [Below.heap_setCell _ _ _ _ (fun e => by
      rcases hp with hp | hp
      · exact hne (by rw [hp, e])
      · omega)]
    exact h.block k hk hne⟩
theorem setTwo (l : List Value) (a b x y : Value) (k : Nat) (hk : l.length = k) : ((l ++ [a, b]).set k x).set (k + 1) y = l ++ [x, y] := by
  subst hk
  rw [List.set_append_right _ _ (Nat.le_refl _), Nat.sub_self, List.set_append_right _ _ (by omega), Nat.add_sub_cancel_left]
  rfl
theorem rf_put {w' w3 : World} {B g gv n m uc cap2 : Nat} {S0 acc : List Fm} {t : Fm} {c : Int} {u tv x0 y0 : Value} {bs bt : List Nat} {V2 : Nat → Value} (o : Obj) (hS : S0.length = n) (hm : acc.length = m)
    (hold : Hold w' B (.slice (some ⟨g, 0, none⟩) (n + 1) uc) (S0 ++ [.mk c acc]) bs) (ht : Hold w' B tv t.members bt) (hnd : (bs ++ bt).Nodup)
    (hc1 : w'.cell? ⟨g, 2 * n + 1, none⟩ = some u) (hV2 : w'.ownsRow B 50 2 u m (cellsF acc V2)) (hgrow : (w'.alloc o).grownBy w3 u.ownBlock)
    (hown : w3.ownsRow B 50 2 (.slice (some ⟨gv, 0, none⟩) (m + 1) cap2) (m + 1) (cellsF acc V2 ++ [x0, y0])) (hat : u.ownBlock = some gv ∨ gv = w'.heap.size + 1) :
    ∃ bs', Hold (((w3.setCell ⟨gv, m * 2, none⟩ (.int .u8 t.sign)).setCell ⟨gv, m * 2 + 1, none⟩ tv).setCell ⟨g, 2 * n + 1, none⟩ (.slice (some ⟨gv, 0, none⟩) (m + 1) cap2)) B (.slice (some ⟨g, 0, none⟩) (n + 1) uc) (S0 ++ [.mk c (acc ++ [t])]) bs' ∧ bs'.Nodup := by
  subst hS hm
  have hnd1 := (List.nodup_append.1 hnd).1
  obtain ⟨u1, bs1, bs2, _, hc1', _, _, htop, hnd2, hmem, hgB, hgs, _, hput⟩ := Hold.top rfl hold hnd1
  obtain rfl : u = u1 := by rw [hc1'] at hc1; exact (Option.some.inj hc1).symm
  have htop' : Hold w' B u acc bs2 := htop
  have hin2 : ∀ k, u.ownBlock = some k → k ∈ bs2 := by
    obtain ⟨_, _, h, _⟩ := htop'.row
    exact h
  have hal : Below w'.heap.size w' (w'.alloc o) := (Below.refl _ _).alloc (Nat.le_refl _) o
  have hg4 : (w'.alloc o).grownBy ((w3.setCell ⟨gv, acc.length * 2, none⟩ (.int .u8 t.sign)).setCell ⟨gv, acc.length * 2 + 1, none⟩ tv) u.ownBlock := by
    have hp : u.ownBlock = some gv ∨ (w'.alloc o).heap.size ≤ gv := by
      rcases hat with h | h
      · exact .inl h
      · exact .inr (by rw [World.size_alloc]; omega)
    exact grown_setRow (grown_setRow hgrow ⟨gv, acc.length * 2, none⟩ _ hp) ⟨gv, acc.length * 2 + 1, none⟩ _ hp
  have hrow := ((hown.stored (acc.length * 2) (.int .u8 t.sign)).1.stored (acc.length * 2 + 1) tv).1
  rw [setTwo _ _ _ _ _ _ (by rw [cellsF_len, Nat.mul_comm])] at hrow
  have hndt : (bs2 ++ bt).Nodup := by
    rw [List.nodup_append] at hnd ⊢
    refine ⟨?_, hnd.2.1, fun a ha b hb => hnd.2.2 a ((hmem a).2 (.inr (.inr ha))) b hb⟩
    have := (List.nodup_cons.1 hnd2).2
    exact (List.nodup_append.1 this).2.1
  obtain ⟨bs3, h3, hb3, hnd3⟩ := Hold.grow (t := t) (htop'.keep hal) (ht.keep hal) hndt hg4 (by
    rcases hat with h | h
    · exact .inl h.symm
    · exact .inr ⟨gv, rfl, by rw [World.size_alloc]; omega⟩) (World.ownsRow.alloc hV2 o) hrow
  have hg3 : g ∉ bs3 := fun h => by
    rcases hb3 g h with h | h | h
    · exact (List.nodup_cons.1 hnd2).1 (List.mem_append.2 (.inr h))
    · exact (List.nodup_append.1 hnd).2.2 g ((hmem g).2 (.inl rfl)) g h rfl
    · rw [World.size_alloc] at h; omega
  have hne : ∀ k, k = g ∨ k ∈ bs1 → u.ownBlock ≠ some k := fun k hk e => by
    have h2 := hin2 k e
    rcases hk with rfl | hk
    · exact (List.nodup_cons.1 hnd2).1 (List.mem_append.2 (.inr h2))
    · exact (List.nodup_append.1 (List.nodup_cons.1 hnd2).2).2.2 k hk k h2 rfl
  have hsm : ∀ k, k = g ∨ k ∈ bs1 → ((w3.setCell ⟨gv, acc.length * 2, none⟩ (.int .u8 t.sign)).setCell ⟨gv, acc.length * 2 + 1, none⟩ tv).heap[k]? = w'.heap[k]? := fun k hk => by
    have hlt : k < w'.heap.size := (hold.lt k ((hmem k).2 (by rcases hk with h | h; exact .inl h; exact .inr (.inl h)))).2
    rw [hg4.block k (by rw [World.size_alloc]; omega) (fun e => hne k hk e.symm)]
    exact Below.heap_alloc w' o k hlt
  have hfin := hput _ (.mk c (acc ++ [t])) (.slice (some ⟨gv, 0, none⟩) (acc.length + 1) cap2) bs3 (fun k hk => hsm k (.inr hk)) (hsm g (.inl rfl)) rfl
    (h3.same fun k hk => Below.heap_setCell _ _ _ _ (fun e => hg3 (by have e2 : k = g := e; rw [← e2]; exact hk)))
  refine ⟨_, hfin, ?_⟩
  rw [List.nodup_cons] at hnd2 ⊢
  have h12 := List.nodup_append.1 hnd2.2
  refine ⟨fun h => ?_, ?_⟩
  · rcases List.mem_append.1 h with h | h
    · exact hnd2.1 (List.mem_append.2 (.inl h))
    · exact hg3 h
  · rw [List.nodup_append]
    refine ⟨h12.1, hnd3, fun a ha b hb e => ?_⟩
    subst e
    rcases hb3 a hb with h | h | h
    · exact h12.2.2 a ha a h rfl
    · exact (List.nodup_append.1 hnd).2.2 a ((hmem a).2 (.inr (.inl ha))) a h rfl
    · rw [World.size_alloc] at h
      have := (hold.lt a ((hmem a).2 (.inr (.inl ha)))).2
      omega

/-- the rows hold the formulas, all blocks apart -/
def HoldN (w : World) (B : Nat) (v : Value) (ts : List Fm) : Prop := ∃ bs, Hold w B v ts bs ∧ bs.Nodup
theorem setCell_two (w : World) (p q : Addr) (x y : Value) (h : p.block ≠ q.block) : (w.setCell p x).setCell q y = (w.setCell q y).setCell p x := by
  unfold World.setCell
  simp only
  congr 1
  apply Array.ext_getElem?
  intro i
  simp only [Array.getElem?_modify]
  by_cases h1 : p.block = i
  · have h2 : ¬ q.block = i := fun e => h (h1.trans e.symm)
    simp [h1, h2]
  · by_cases h2 : q.block = i <;> simp [h1, h2]

end Go.Proofs.YtohmhiodmaahfaaDoor
