/- Rows of truth values of the call's own. -/
import Derived.Test.YtnlcnbkookmfaaaTogM
import Derived.Maps.AppendAt
namespace Go.Proofs.Ytnlcnbkookmfaaa
open Go.RowKit
set_option linter.unusedVariables false

theorem infoBool : (Try.prog.info? 4).map (fun i => (i.zero, i.size, i.bytes)) = some (some (.bool false), 1, 1) := by kernel_rfl
theorem infoRowB : (Try.prog.info? 66).map (fun i => (i.zero, i.size, i.bytes)) = some (some (.slice none 0 0), 1, 24) := by kernel_rfl

theorem World.ownsRow.monoB {w : World} {B B' : Nat} {e : TypeId} {size n : Nat} {v : Value} {xs : List Value} (h : w.ownsRow B e size v n xs) (hB : B' ≤ B) : w.ownsRow B' e size v n xs := by
  refine ⟨h.1, ?_⟩
  rcases h.2 with h2 | ⟨g, cap, cur, hv, hbg, r⟩
  · exact .inl h2
  · exact .inr ⟨g, cap, cur, hv, Nat.le_trans hB hbg, r⟩
/-- a row of k truth values -/
def OwnB (w : World) (B : Nat) (v : Value) (k : Nat) (f : Nat → Bool) : Prop := w.ownsRow B 4 1 v k ((List.range k).map fun j => Value.bool (f j))
theorem OwnB.keep {w w' : World} {B : Nat} {v : Value} {k : Nat} {f : Nat → Bool} (h : OwnB w B v k f) (hb : Below w.heap.size w w') : OwnB w' B v k f := rowLater h hb
theorem OwnB.mono {w : World} {B B' : Nat} {v : Value} {k : Nat} {f : Nat → Bool} (h : OwnB w B v k f) (hB : B' ≤ B) : OwnB w B' v k f := by
  refine ⟨h.1, ?_⟩
  rcases h.2 with h2 | ⟨g, cap, cur, hv, hbg, r⟩
  · exact .inl h2
  · exact .inr ⟨g, cap, cur, hv, Nat.le_trans hB hbg, r⟩
theorem OwnB.snoc {w : World} {B : Nat} {v : Value} {k : Nat} {f : Nat → Bool} (h : w.ownsRow B 4 1 v (k + 1) (((List.range k).map fun j => Value.bool (f j)) ++ [Value.bool (f k)])) : OwnB w B v (k + 1) f := by
  unfold OwnB
  rw [List.range_succ, List.map_append]
  exact h
theorem OwnB.form {w : World} {B : Nat} {v : Value} {k : Nat} {f : Nat → Bool} (h : OwnB w B v k f) : ∃ a c, v = .slice a k c := by
  rcases h.2 with ⟨rfl, rfl⟩ | ⟨g, cap, cur, rfl, _⟩
  · exact ⟨_, _, rfl⟩
  · exact ⟨_, _, rfl⟩
theorem OwnB.cell {w : World} {B : Nat} {v : Value} {k : Nat} {f : Nat → Bool} (h : OwnB w B v k f) {j : Nat} (hj : j < k) : ∃ g cap, v = .slice (some ⟨g, 0, none⟩) k cap ∧ w.cell? ⟨g, j, none⟩ = some (.bool (f j)) ∧ w.frozen? ⟨g, j, none⟩ = false ∧ g < w.heap.size ∧ B ≤ g := by
  have h' := h
  rcases h.2 with ⟨rfl, rfl⟩ | ⟨g, cap, cur, rfl, _⟩
  · omega
  · unfold OwnB at h'
    have hl := World.ownsRow.lt h' g rfl
    refine ⟨g, cap, rfl, ?_, h'.frozenAt j, hl.2, hl.1⟩
    rw [h'.cellAt j (by omega)]
    simp [hj]

/-- the slice v has k rows of n truth values each, all in blocks of their own from B on -/
def MatB (w : World) (B : Nat) (v : Value) (k n : Nat) (V : Nat → Value) (R : Nat → Nat → Bool) : Prop :=
  w.ownsRow B 66 1 v k ((List.range k).map V) ∧ ∀ i, i < k → OwnB w B (V i) n (R i) ∧ ∀ b, (V i).ownBlock = some b → v.ownBlock ≠ some b ∧ ∀ j, j < i → (V j).ownBlock ≠ some b
theorem MatB.keep {w w' : World} {B : Nat} {v : Value} {k n : Nat} {V : Nat → Value} {R : Nat → Nat → Bool} (h : MatB w B v k n V R) (hb : Below w.heap.size w w') : MatB w' B v k n V R :=
  ⟨rowLater h.1 hb, fun i hi => ⟨(h.2 i hi).1.keep hb, (h.2 i hi).2⟩⟩
theorem MatB.drewN {w : World} {B : Nat} {v : Value} {k n : Nat} {V : Nat → Value} {R : Nat → Nat → Bool} (h : MatB w B v k n V R) (m : Nat) : MatB (w.drewN m) B v k n V R := h
theorem MatB.form {w : World} {B : Nat} {v : Value} {k n : Nat} {V : Nat → Value} {R : Nat → Nat → Bool} (h : MatB w B v k n V R) : ∃ a c, v = .slice a k c := by
  rcases h.1.2 with ⟨rfl, rfl⟩ | ⟨g, cap, cur, rfl, _⟩
  · exact ⟨_, _, rfl⟩
  · exact ⟨_, _, rfl⟩
theorem MatB.cell {w : World} {B : Nat} {v : Value} {k n : Nat} {V : Nat → Value} {R : Nat → Nat → Bool} (h : MatB w B v k n V R) {i : Nat} (hi : i < k) : ∃ g cap, v = .slice (some ⟨g, 0, none⟩) k cap ∧ w.cell? ⟨g, i, none⟩ = some (V i) ∧ g < w.heap.size ∧ B ≤ g := by
  have h' := h.1
  rcases h.1.2 with ⟨rfl, rfl⟩ | ⟨g, cap, cur, rfl, _⟩
  · omega
  · have hl := World.ownsRow.lt h' g rfl
    refine ⟨g, cap, rfl, ?_, hl.2, hl.1⟩
    rw [h'.cellAt i (by omega)]
    simp [hi]
theorem MatB.lt {w : World} {B : Nat} {v : Value} {k n : Nat} {V : Nat → Value} {R : Nat → Nat → Bool} (h : MatB w B v k n V R) : (∀ b, v.ownBlock = some b → b < w.heap.size ∧ B ≤ b) ∧ ∀ i, i < k → ∀ b, (V i).ownBlock = some b → b < w.heap.size ∧ B ≤ b :=
  ⟨fun b e => ⟨(World.ownsRow.lt h.1 b e).2, (World.ownsRow.lt h.1 b e).1⟩, fun i hi b e => ⟨(World.ownsRow.lt (h.2 i hi).1 b e).2, (World.ownsRow.lt (h.2 i hi).1 b e).1⟩⟩
theorem matB_made (w : World) (B n : Nat) (hB : B ≤ w.heap.size) (R : Nat → Nat → Bool) : MatB (w.alloc (.cells #[] 66)) B (.slice (some ⟨w.heap.size, 0, none⟩) 0 0) 0 n (fun _ => .slice none 0 0) R :=
  ⟨World.ownsRow_made (base := B) (e := 66) (size := 1) w #[] 0 hB (by simp) rfl, fun i hi => by omega⟩
theorem ownB_made (w : World) (B : Nat) (hB : B ≤ w.heap.size) (f : Nat → Bool) : OwnB (w.alloc (.cells #[] 4)) B (.slice (some ⟨w.heap.size, 0, none⟩) 0 0) 0 f :=
  World.ownsRow_made (base := B) (e := 4) (size := 1) w #[] 0 hB (by simp) rfl

/-- one row more -/
theorem MatB.more {w1 w2 : World} {B k n : Nat} {v u v' : Value} {V : Nat → Value} {R : Nat → Nat → Bool} (o : Obj) (h : MatB w1 B v k n V R) (hu : OwnB w1 B u n (R k)) (hs : ∀ b, u.ownBlock = some b → v.ownBlock ≠ some b ∧ ∀ j, j < k → (V j).ownBlock ≠ some b)
    (ho : w2.ownsRow B 66 1 v' (k + 1) ((List.range k).map V ++ [u])) (hg : (w1.alloc o).grownBy w2 v.ownBlock) (hat : v'.ownBlock = v.ownBlock ∨ v'.ownBlock = some (w1.alloc o).heap.size) :
    MatB w2 B v' (k + 1) n (fun i => if i < k then V i else u) R := by
  obtain ⟨h1, h3⟩ := h
  have hz1 : (w1.alloc o).heap.size = w1.heap.size + 1 := by simp
  rw [hz1] at hat
  have key : ∀ {x : Value} {f : Nat → Bool}, OwnB w1 B x n f → (∀ b, x.ownBlock = some b → v.ownBlock ≠ some b) → OwnB w2 B x n f := fun {x f} hx hk =>
    World.ownsRow.kept (World.ownsRow.alloc hx o) hg (by
      rcases e : x.ownBlock with _ | b
      · exact .inl rfl
      · right; intro e2; exact hk b e e2.symm)
  have new : ∀ b, b < w1.heap.size → v.ownBlock ≠ some b → v'.ownBlock ≠ some b := fun b hb hne e => by
    rcases hat with hat | hat
    · rw [hat] at e; exact hne e
    · rw [hat] at e
      have : w1.heap.size + 1 = b := by simpa using e
      omega
  refine ⟨?_, fun i hi => ?_⟩
  · have e : (List.range (k + 1)).map (fun i => if i < k then V i else u) = (List.range k).map V ++ [u] := by
      rw [List.range_succ, List.map_append]
      congr 1
      · apply List.map_congr_left
        intro i hi
        rw [if_pos (by simpa using hi)]
      · simp
    rw [e]; exact ho
  · by_cases hlt : i < k
    · simp only [if_pos hlt]
      obtain ⟨a, bb⟩ := h3 i hlt
      refine ⟨key a fun b e => (bb b e).1, fun b e => ⟨new b (World.ownsRow.lt a b e).2 (bb b e).1, fun j hj => by rw [if_pos (by omega)]; exact (bb b e).2 j hj⟩⟩
    · have e : i = k := by omega
      subst e
      simp only [if_neg (Nat.lt_irrefl _)]
      refine ⟨key hu fun b e => (hs b e).1, fun b e => ⟨new b (World.ownsRow.lt hu b e).2 (hs b e).1, fun j hj => by rw [if_pos hj]; exact (hs b e).2 j hj⟩⟩

theorem MatB.grown {w w' : World} {B k n S : Nat} {v : Value} {V : Nat → Value} {R : Nat → Nat → Bool} {row : Option Nat} {o : Obj} (h : MatB w B v k n V R) (hg : (w.alloc o).grownBy w' row) (hrow : ∀ b, row = some b → S ≤ b) (hv : ∀ b, v.ownBlock = some b → b < S) (hV : ∀ i, i < k → ∀ b, (V i).ownBlock = some b → b < S) : MatB w' B v k n V R := by
  have key : ∀ {e : TypeId} {size m : Nat} {x : Value} {xs : List Value}, w.ownsRow B e size x m xs → (∀ b, x.ownBlock = some b → b < S) → w'.ownsRow B e size x m xs := fun {e size m x xs} hx hb =>
    World.ownsRow.kept (World.ownsRow.alloc hx o) hg (by
      rcases e1 : x.ownBlock with _ | b
      · exact .inl rfl
      · right
        intro e2
        have := hrow b e2.symm
        have := hb b e1
        omega)
  exact ⟨key h.1 hv, fun i hi => ⟨key (h.2 i hi).1 (hV i hi), (h.2 i hi).2⟩⟩

def updB (R : Nat → Nat → Bool) (r s : Nat) : Nat → Nat → Bool := fun i j => if i = r ∧ j = s then false else R i j
/-- one place turned -/
theorem MatB.put {w : World} {B k n r s b cap : Nat} {v : Value} {V : Nat → Value} {R : Nat → Nat → Bool} (h : MatB w B v k n V R) (hr : r < k) (hs : s < n) (hV : V r = .slice (some ⟨b, 0, none⟩) n cap) :
    MatB (w.setCell ⟨b, s, none⟩ (.bool false)) B v k n V (updB R r s) := by
  obtain ⟨h1, h3⟩ := h
  obtain ⟨hrow, hsep⟩ := h3 r hr
  unfold OwnB at hrow
  rw [hV] at hrow
  have hst := hrow.stored s (.bool false)
  have hvb : (V r).ownBlock = some b := by rw [hV]; rfl
  refine ⟨World.ownsRow.kept h1 hst.2 (.inr (hsep b hvb).1), fun i hi => ?_⟩
  obtain ⟨a, bb⟩ := h3 i hi
  refine ⟨?_, bb⟩
  by_cases e : i = r
  · subst e
    unfold OwnB
    rw [hV]
    have e2 : ((List.range n).map fun j => Value.bool (R i j)).set s (.bool false) = (List.range n).map fun j => Value.bool (updB R i s i j) := by
      apply List.ext_getElem
      · simp
      · intro j h1 h2
        simp only [List.getElem_set, List.getElem_map, List.getElem_range, updB]
        by_cases e : s = j
        · subst e; simp
        · simp [e, Ne.symm e]
    rw [← e2]; exact hst.1
  · have e2 : (fun j => Value.bool (updB R r s i j)) = fun j => Value.bool (R i j) := by funext j; simp [updB, e]
    unfold OwnB
    rw [e2]
    refine World.ownsRow.kept a hst.2 ?_
    rcases e3 : (V i).ownBlock with _ | b2
    · exact .inl rfl
    · right
      intro e4
      have e5 : b2 = b := by simpa using e4
      subst e5
      rcases Nat.lt_or_ge i r with h6 | h6
      · exact (hsep b2 hvb).2 i h6 e3
      · exact (bb b2 e3).2 r (by omega) hvb
theorem MatB.congr {w : World} {B k n : Nat} {v : Value} {V : Nat → Value} {R S : Nat → Nat → Bool} (h : MatB w B v k n V R) (e : ∀ i j, i < k → j < n → R i j = S i j) : MatB w B v k n V S := by
  refine ⟨h.1, fun i hi => ⟨?_, (h.2 i hi).2⟩⟩
  have := (h.2 i hi).1
  unfold OwnB at this ⊢
  have e2 : ((List.range n).map fun j => Value.bool (R i j)) = (List.range n).map fun j => Value.bool (S i j) := by
    apply List.map_congr_left
    intro j hj
    rw [e i j hi (by simpa using hj)]
  rw [← e2]; exact this

/-- f 0 + .. + f (k - 1) -/
def cntTo (f : Nat → Nat) : Nat → Nat
  | 0 => 0
  | k + 1 => cntTo f k + f k
theorem cntTo_le {f g : Nat → Nat} {k : Nat} (h : ∀ i, i < k → f i ≤ g i) : cntTo f k ≤ cntTo g k := by
  induction k with
  | zero => exact Nat.le_refl _
  | succ k ih => simp only [cntTo]; have := ih fun i hi => h i (by omega); have := h k (by omega); omega
theorem cntTo_lt {f g : Nat → Nat} {k j : Nat} (h : ∀ i, i < k → f i ≤ g i) (hj : j < k) (hlt : f j < g j) : cntTo f k < cntTo g k := by
  induction k with
  | zero => omega
  | succ k ih =>
    simp only [cntTo]
    have h2 := h k (by omega)
    by_cases e : j = k
    · subst e; have := cntTo_le (f := f) (g := g) (k := j) fun i hi => h i (by omega); omega
    · have := ih (fun i hi => h i (by omega)) (by omega); omega
theorem cntTo_congr {f g : Nat → Nat} {k : Nat} (h : ∀ i, i < k → f i = g i) : cntTo f k = cntTo g k := by
  induction k with
  | zero => rfl
  | succ k ih => simp only [cntTo]; rw [ih fun i hi => h i (by omega), h k (by omega)]
/-- how many places are told -/
def cntR (n : Nat) (R : Nat → Nat → Bool) : Nat := cntTo (fun i => cntTo (fun j => (R i j).toNat) n) n
theorem cntR_put {n r s : Nat} {R : Nat → Nat → Bool} (hr : r < n) (hs : s < n) (h : R r s = true) : cntR n (updB R r s) < cntR n R := by
  have hle : ∀ i j, (updB R r s i j).toNat ≤ (R i j).toNat := fun i j => by
    unfold updB
    split
    · simp
    · exact Nat.le_refl _
  refine cntTo_lt (j := r) (fun i _ => cntTo_le fun j _ => hle i j) hr ?_
  refine cntTo_lt (j := s) (fun j _ => hle r j) hs ?_
  rw [h]; simp [updB]
def bitW (w : World) (v : Value) (i j : Nat) : Nat :=
  match v with
  | .slice (some ⟨g, _, _⟩) _ _ => match w.cell? ⟨g, i, none⟩ with
    | some (.slice (some ⟨b, _, _⟩) _ _) => match w.cell? ⟨b, j, none⟩ with
      | some (.bool true) => 1
      | _ => 0
    | _ => 0
  | _ => 0
def cntW (w : World) (v : Value) (n : Nat) : Nat := cntTo (fun i => cntTo (fun j => bitW w v i j) n) n
theorem cntW_eq {w : World} {B n : Nat} {v : Value} {V : Nat → Value} {R : Nat → Nat → Bool} (h : MatB w B v n n V R) : cntW w v n = cntR n R := by
  refine cntTo_congr fun i hi => cntTo_congr fun j hj => ?_
  obtain ⟨g, cap, rfl, hc, _, _⟩ := h.cell hi
  obtain ⟨b, cap2, hV, hd, _, _, _⟩ := (h.2 i hi).1.cell hj
  unfold bitW
  simp only [hc, hV, hd]
  cases R i j <;> rfl

end Go.Proofs.Ytnlcnbkookmfaaa
