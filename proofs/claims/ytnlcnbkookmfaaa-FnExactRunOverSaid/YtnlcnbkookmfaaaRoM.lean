/- RunOver: mathematics, and small contracts. -/
import Derived.Test.YtnlcnbkookmfaaaChf
import Derived.Test.YtnlcnbkookmfaaaCoF
namespace Go.Proofs.Ytnlcnbkookmfaaa
open Go.RowKit
set_option linter.unusedVariables false

/-- the column at a place -/
def colAt (cs : List Int) (k : Nat) : Nat := (cs.getD k 0).toNat
/-- where a chain ends -/
noncomputable def lst (f : Nat → Int) (r n : Nat) : Nat := (wk f r (jend f r n)).toNat
/-- the row behind k columns -/
noncomputable def rowAt (xss : List (List Int)) (cs : List Int) (r : Nat) : Nat → Nat
  | 0 => r
  | k + 1 => lst (fcol xss (colAt cs k)) (rowAt xss cs r k) xss.length
noncomputable def endB (xss : List (List Int)) (cs : List Int) (r k : Nat) : Bool := chB (fcol xss (colAt cs k)) (rowAt xss cs r k) xss.length
noncomputable def roR (xss : List (List Int)) (cs : List Int) (r k : Nat) : List Int := (List.range k).map fun i => ((rowAt xss cs r (i + 1) : Nat) : Int)
noncomputable def roO (xss yss : List (List Int)) (cs : List Int) (r k : Nat) : List Int := (List.range k).map fun i => plZ yss (rowAt xss cs r (i + 1)) (colAt cs i)
theorem roR_len (xss : List (List Int)) (cs : List Int) (r k : Nat) : (roR xss cs r k).length = k := by simp [roR]
theorem roO_len (xss yss : List (List Int)) (cs : List Int) (r k : Nat) : (roO xss yss cs r k).length = k := by simp [roO]
theorem roR_succ (xss : List (List Int)) (cs : List Int) (r k : Nat) : roR xss cs r (k + 1) = roR xss cs r k ++ [((rowAt xss cs r (k + 1) : Nat) : Int)] := by simp [roR, List.range_succ]
theorem roO_succ (xss yss : List (List Int)) (cs : List Int) (r k : Nat) : roO xss yss cs r (k + 1) = roO xss yss cs r k ++ [plZ yss (rowAt xss cs r (k + 1)) (colAt cs k)] := by simp [roO, List.range_succ]
theorem lst_lt {f : Nat → Int} {r n : Nat} (hf : Fol f n) (hr : r < n) : lst f r n < n := by
  have := wk_in hf hr _ (Nat.le_refl _)
  unfold lst; omega
theorem chR_lst {f : Nat → Int} {r n : Nat} (hf : Fol f n) (hr : r < n) (h : chB f r n = true) : ∃ m, (chR f r n).length = m + 1 ∧ (chR f r n).getD m 0 = ((lst f r n : Nat) : Int) := by
  have h1 := wk_in hf hr _ (Nat.le_refl _)
  refine ⟨jend f r n, ?_, ?_⟩
  · unfold chR; rw [if_pos h, chL_len]
  · unfold chR; rw [if_pos h, chL_get _ _ _ _ (by omega)]; unfold lst; omega
theorem rowAt_lt {p : Int} {xss yss : List (List Int)} (h : chaB p xss yss = true) {cs : List Int} (hc : ∀ i, i < cs.length → bel (cs.getD i 0) p = true) {r : Nat} (hr : r < xss.length) : ∀ k, k ≤ cs.length → rowAt xss cs r k < xss.length := by
  intro k
  induction k with
  | zero => intro _; exact hr
  | succ k ih =>
    intro hk
    have h1 := of_decide_eq_true (hc k (by omega))
    exact lst_lt (fol_col h (by unfold colAt; omega)) (ih (by omega))

noncomputable def roC (p : Int) (xss yss : List (List Int)) (r : Int) (cs : List Int) : Int :=
  if plcC p xss yss r cs = 0 then (if cs.length ≤ 100 then (if ∀ i, i < cs.length → endB xss cs r.toNat i = true then 0 else 4) else 2) else plcC p xss yss r cs
noncomputable def resRunOver_0 (p : Int) (xss yss : List (List Int)) (r : Int) (cs : List Int) : List Int := if roC p xss yss r cs = 0 then roR xss cs r.toNat cs.length else []
noncomputable def resRunOver_1 (p : Int) (xss yss : List (List Int)) (r : Int) (cs : List Int) : List Int := if roC p xss yss r cs = 0 then roO xss yss cs r.toNat cs.length else []
noncomputable def resRunOver_2 (p : Int) (xss yss : List (List Int)) (r : Int) (cs : List Int) : Int := roC p xss yss r cs
theorem roC_zero {p : Int} {xss yss : List (List Int)} {r : Int} {cs : List Int} (h : roC p xss yss r cs = 0) : cs.length ≤ 100 := by
  unfold roC at h
  split at h
  · split at h
    · assumption
    · cases h
  · rename_i h1; exact absurd h h1
theorem lenRunOver_0 (p : Int) (xss yss : List (List Int)) (r : Int) (cs : List Int) : (resRunOver_0 p xss yss r cs).length ≤ 100000 := by
  unfold resRunOver_0
  split
  · rename_i h; rw [roR_len]; have := roC_zero h; omega
  · simp
theorem lenRunOver_1 (p : Int) (xss yss : List (List Int)) (r : Int) (cs : List Int) : (resRunOver_1 p xss yss r cs).length ≤ 100000 := by
  unfold resRunOver_1
  split
  · rename_i h; rw [roO_len]; have := roC_zero h; omega
  · simp
/-- the three results -/
def ResRo (p : Int) (xss yss : List (List Int)) (r : Int) (cs l0 l1 : List Int) (c : Int) : Prop := resRunOver_0 p xss yss r cs = l0 ∧ resRunOver_1 p xss yss r cs = l1 ∧ resRunOver_2 p xss yss r cs = c
theorem ro_no {p : Int} {xss yss : List (List Int)} {r : Int} {cs : List Int} {c : Int} (h : roC p xss yss r cs = c) (hc : c ≠ 0) : ResRo p xss yss r cs [] [] c := by
  unfold ResRo resRunOver_0 resRunOver_1 resRunOver_2
  rw [h, if_neg hc, if_neg hc]; exact ⟨rfl, rfl, rfl⟩
theorem ro_plc {p : Int} {xss yss : List (List Int)} {r : Int} {cs : List Int} {c : Int} (h : plcC p xss yss r cs = c) (hc : c ≠ 0) : ResRo p xss yss r cs [] [] c :=
  ro_no (by unfold roC; rw [h, if_neg hc]) hc
theorem ro_long {p : Int} {xss yss : List (List Int)} {r : Int} {cs : List Int} (h : plcC p xss yss r cs = 0) (hl : ¬ cs.length ≤ 100) : ResRo p xss yss r cs [] [] 2 :=
  ro_no (by unfold roC; rw [if_pos h, if_neg hl]) (by decide)
theorem ro_stop {p : Int} {xss yss : List (List Int)} {r : Int} {cs : List Int} (h : plcC p xss yss r cs = 0) (hl : cs.length ≤ 100) {i : Nat} (hi : i < cs.length) (he : endB xss cs r.toNat i = false) : ResRo p xss yss r cs [] [] 4 :=
  ro_no (by unfold roC; rw [if_pos h, if_pos hl, if_neg (fun h2 => by have := h2 i hi; rw [he] at this; cases this)]) (by decide)
theorem ro_ok {p : Int} {xss yss : List (List Int)} {r : Int} {cs : List Int} (h : plcC p xss yss r cs = 0) (hl : cs.length ≤ 100) (he : ∀ i, i < cs.length → endB xss cs r.toNat i = true) : ResRo p xss yss r cs (roR xss cs r.toNat cs.length) (roO xss yss cs r.toNat cs.length) 0 := by
  have e : roC p xss yss r cs = 0 := by unfold roC; rw [if_pos h, if_pos hl, if_pos he]
  unfold ResRo resRunOver_0 resRunOver_1 resRunOver_2
  rw [if_pos e, if_pos e]; exact ⟨rfl, rfl, e⟩

/-! ### two slices that grow in turn -/
/-- two slices do not share their block -/
def apart (u v : Value) : Prop := ∀ b, u.ownBlock = some b → v.ownBlock ≠ some b
theorem apart.symm {u v : Value} (h : apart u v) : apart v u := fun b h1 h2 => h b h2 h1
theorem apRow {w w5 : World} {B : Nat} {o : Obj} {u v u' : Value} {ys : List Int} (hv : Owns w B v ys) (ha : apart u v) (hg : (w.alloc o).grownBy w5 u.ownBlock)
    (hat : u'.ownBlock = u.ownBlock ∨ u'.ownBlock = some (w.alloc o).heap.size) : Owns w5 B v ys ∧ apart u' v := by
  have hv' : Owns (w.alloc o) B v ys := World.ownsRow.alloc hv _
  refine ⟨rowSame hv' fun k hk e => hg.block k (World.ownsRow.lt hv' k e).2 (fun e2 => ha k e2.symm e), fun b h1 h2 => ?_⟩
  rcases hat with h | h
  · exact ha b (by rw [← h]; exact h1) h2
  · rw [h] at h1
    have e : (w.alloc o).heap.size = b := by injection h1
    have := (World.ownsRow.lt hv' b h2).2
    omega
/-- two slices of the call's own, in ranges of blocks that do not meet -/
def TwoIn (w : World) (B : Nat) (u0 u1 : Value) (xs ys : List Int) : Prop :=
  ∃ a0 b0 a1 b1, In w a0 b0 u0 xs ∧ In w a1 b1 u1 ys ∧ B ≤ a0 ∧ b0 ≤ w.heap.size ∧ B ≤ a1 ∧ b1 ≤ w.heap.size ∧ (b0 ≤ a1 ∨ b1 ≤ a0)
theorem Owns.ranged {w : World} {B : Nat} {u : Value} {xs : List Int} (h : Owns w B u xs) (hB : B ≤ w.heap.size) :
    ∃ a b, In w a b u xs ∧ B ≤ a ∧ b ≤ w.heap.size ∧ ((a = B ∧ b = B) ∨ (u.ownBlock = some a ∧ b = a + 1)) := by
  obtain ⟨hl, h2⟩ := h
  rcases h2 with ⟨rfl, hn⟩ | ⟨g, cap, cur, rfl, hb, hr⟩
  · exact ⟨B, B, ⟨⟨hl, .inl ⟨rfl, hn⟩⟩, fun b e => by cases e⟩, Nat.le_refl _, hB, .inl ⟨rfl, rfl⟩⟩
  · have h' : Owns w g (.slice (some ⟨g, 0, none⟩) xs.length cap) xs := ⟨hl, .inr ⟨g, cap, cur, rfl, Nat.le_refl _, hr⟩⟩
    have e0 : (Value.slice (some ⟨g, 0, none⟩) xs.length cap).ownBlock = some g := rfl
    have hlt := (World.ownsRow.lt h' g e0).2
    exact ⟨g, g + 1, ⟨h', fun b e => by rw [e0] at e; injection e with e; omega⟩, hb, hlt, .inr ⟨e0, rfl⟩⟩
theorem TwoIn.of {w : World} {B : Nat} {u0 u1 : Value} {xs ys : List Int} (h0 : Owns w B u0 xs) (h1 : Owns w B u1 ys) (ha : apart u0 u1) (hB : B ≤ w.heap.size) : TwoIn w B u0 u1 xs ys := by
  obtain ⟨a0, b0, i0, l0, m0, c0⟩ := h0.ranged hB
  obtain ⟨a1, b1, i1, l1, m1, c1⟩ := h1.ranged hB
  refine ⟨a0, b0, a1, b1, i0, i1, l0, m0, l1, m1, ?_⟩
  rcases c0 with c0 | c0
  · left; omega
  · rcases c1 with c1 | c1
    · right; omega
    · have : a0 ≠ a1 := fun e => ha a0 c0.1 (by rw [e]; exact c1.1)
      omega
theorem TwoIn.mono {w : World} {B B' : Nat} {u0 u1 : Value} {xs ys : List Int} (h : TwoIn w B u0 u1 xs ys) (hB : B' ≤ B) : TwoIn w B' u0 u1 xs ys := by
  obtain ⟨a0, b0, a1, b1, i0, i1, l0, m0, l1, m1, c⟩ := h
  exact ⟨a0, b0, a1, b1, i0, i1, by omega, m0, by omega, m1, c⟩
theorem apartNil (u : Value) : apart (.slice none 0 0) u := fun b e => by cases e
theorem TwoIn.nil (w : World) {B : Nat} (hB : B ≤ w.heap.size) : TwoIn w B (.slice none 0 0) (.slice none 0 0) [] [] := TwoIn.of (ownsNone _ _) (ownsNone _ _) (apartNil _) hB

/-! ### the columns tested -/
theorem noColumn_any (p x : Int) (y z : Value) (bn : Nat) (w : World) (h0 : C3 w bn (.int .i64 p) y z) :
    Calls Try.prog 62 (#[.int .i64 x] ++ #[.pointer (some ⟨bn, 0, none⟩)]) w fun e w' => e = .returned (.bool (!(bel x p))) ∧ Below w.heap.size w w' := by
  have HB := Lib.hid (fun w => isBelowH x p w (b := bel x p) rfl)
  generalize bel x p = b at *
  go_enter Try.func62, Try.ntmps62
  go_wp2_with ((go_at_call 60; (with_reducible refine (HB.out _).mono ?_); rintro e w' ⟨rfl, rfl⟩))
  go_ret
  exact ⟨rfl, Below.refl _ _⟩
theorem noCol_contains (cs : List Int) (p : Int) : decide (∃ i, i < cs.length ∧ (!(bel (cs.getD i 0) p)) = true) = !(decide (∀ i, i < cs.length → bel (cs.getD i 0) p = true)) := by
  by_cases h : ∀ i, i < cs.length → bel (cs.getD i 0) p = true
  · rw [decide_eq_true h]
    refine decide_eq_false fun ⟨i, hi, hx⟩ => ?_
    rw [h i hi] at hx
    cases hx
  · rw [decide_eq_false h]
    refine decide_eq_true (Classical.byContradiction fun hno => h fun i hi => Classical.byContradiction fun hx => hno ⟨i, hi, ?_⟩)
    simpa using hx

end Go.Proofs.Ytnlcnbkookmfaaa
