/- Chains in flow charts: mathematics. -/
import Derived.Test.YtnlcnbkookmfaaaCo0
import Derived.Test.YtnlcnbkookmfaaaBfsM
namespace Go.Proofs.Ytnlcnbkookmfaaa
set_option linter.unusedVariables false

/-- the row behind k steps -/
def wk (f : Nat → Int) (r : Nat) : Nat → Int
  | 0 => (r : Int)
  | k + 1 => if wk f r k < 0 then -1 else f (wk f r k).toNat
/-- the rows of the first k steps -/
def chL (f : Nat → Int) (r k : Nat) : List Int := (List.range k).map (wk f r)
theorem chL_len (f : Nat → Int) (r k : Nat) : (chL f r k).length = k := by simp [chL]
theorem chL_zero (f : Nat → Int) (r : Nat) : chL f r 0 = [] := rfl
theorem chL_succ (f : Nat → Int) (r k : Nat) : chL f r (k + 1) = chL f r k ++ [wk f r k] := by simp [chL, List.range_succ]
theorem chL_get (f : Nat → Int) (r k i : Nat) (h : i < k) : (chL f r k).getD i 0 = wk f r i := by
  simp [chL, List.getD_eq_getElem?_getD, h]
/-- does the chain end here -/
def stopB (f : Nat → Int) (r k : Nat) : Bool := decide (wk f r (k + 1) = wk f r k ∨ wk f r (k + 1) < 0)
noncomputable def jend (f : Nat → Int) (r n : Nat) : Nat := Classical.choose (firstB (stopB f r) n)
theorem jend_spec (f : Nat → Int) (r n : Nat) : jend f r n ≤ n ∧ (∀ i, i < jend f r n → stopB f r i = false) ∧ (jend f r n < n → stopB f r (jend f r n) = true) := Classical.choose_spec (firstB (stopB f r) n)
/-- is there a chain -/
noncomputable def chB (f : Nat → Int) (r n : Nat) : Bool := decide (jend f r n < n ∧ wk f r (jend f r n + 1) = wk f r (jend f r n))
/-- the chain -/
noncomputable def chR (f : Nat → Int) (r n : Nat) : List Int := if chB f r n = true then chL f r (jend f r n + 1) else []
/-- what follows lies among the rows, or is none -/
def Fol (f : Nat → Int) (n : Nat) : Prop := ∀ r, r < n → -1 ≤ f r ∧ f r < (n : Int)

theorem wk_go {f : Nat → Int} {r i n : Nat} (h : i < jend f r n) : 0 ≤ wk f r (i + 1) ∧ wk f r (i + 1) ≠ wk f r i := by
  have := (jend_spec f r n).2.1 i h
  unfold stopB at this
  have := of_decide_eq_false this
  omega
theorem wk_in {f : Nat → Int} {r n : Nat} (hf : Fol f n) (hr : r < n) : ∀ i, i ≤ jend f r n → 0 ≤ wk f r i ∧ wk f r i < (n : Int) := by
  intro i
  induction i with
  | zero => intro _; simp only [wk]; omega
  | succ i ih =>
    intro hi
    obtain ⟨h0, h1⟩ := ih (by omega)
    have hg := (wk_go (show i < jend f r n by omega)).1
    refine ⟨hg, ?_⟩
    simp only [wk]
    rw [if_neg (by omega)]
    exact (hf _ (by omega)).2
theorem wk_step {f : Nat → Int} {r i : Nat} (h : 0 ≤ wk f r i) : wk f r (i + 1) = f (wk f r i).toNat := by
  simp only [wk]; rw [if_neg (by omega)]
theorem wk_shift {f : Nat → Int} {r a b : Nat} (h : wk f r a = wk f r b) (m : Nat) : wk f r (a + m) = wk f r (b + m) := by
  induction m with
  | zero => exact h
  | succ m ih =>
    show wk f r ((a + m) + 1) = wk f r ((b + m) + 1)
    simp only [wk]; rw [ih]
theorem wk_ne {f : Nat → Int} {r n : Nat} (hj : jend f r n < n) {a b : Nat} (hab : a < b) (hb : b ≤ jend f r n) : wk f r a ≠ wk f r b := fun e => by
  obtain ⟨_, h2, h3⟩ := jend_spec f r n
  have s1 := wk_shift e (jend f r n - b)
  have s2 := wk_shift e (jend f r n - b + 1)
  have e1 : b + (jend f r n - b) = jend f r n := by omega
  have e2 : b + (jend f r n - b + 1) = jend f r n + 1 := by omega
  have e3 : a + (jend f r n - b + 1) = (a + (jend f r n - b)) + 1 := by omega
  rw [e1] at s1
  rw [e2, e3] at s2
  have h4 := h2 (a + (jend f r n - b)) (by omega)
  have h5 := h3 hj
  unfold stopB at h4 h5
  rw [s1, s2] at h4
  rw [h5] at h4
  cases h4
theorem chL_notin {f : Nat → Int} {r n k : Nat} (hj : jend f r n < n) (hk : k ≤ jend f r n) : decide (wk f r k ∈ chL f r k) = false := by
  refine decide_eq_false fun h => ?_
  unfold chL at h
  obtain ⟨i, hi, e⟩ := List.mem_map.1 h
  have := List.mem_range.1 hi
  exact wk_ne hj this hk e
theorem chL_nodup_step {f : Nat → Int} {r k : Nat} (h : (chL f r k).Nodup) (hk : wk f r k ∉ chL f r k) : (chL f r (k + 1)).Nodup := by
  rw [chL_succ, List.nodup_append]
  refine ⟨h, by simp, fun x hx y hy => ?_⟩
  have : y = wk f r k := by simpa using hy
  subst this
  intro e; subst e; exact hk hx
/-- among n rows there are at most n different ones -/
theorem chL_short {f : Nat → Int} {r n k : Nat} (hf : Fol f n) (hr : r < n) (hk : k ≤ jend f r n + 1) (h : (chL f r k).Nodup) : k ≤ n := by
  have h2 : ((chL f r k).map Int.toNat).Nodup := by
    unfold List.Nodup
    rw [List.pairwise_map]
    refine List.Pairwise.imp_of_mem (fun {x y} hx hy hne e => hne ?_) h
    unfold chL at hx hy
    obtain ⟨i, hi, rfl⟩ := List.mem_map.1 hx
    obtain ⟨j, hj, rfl⟩ := List.mem_map.1 hy
    have a1 := wk_in hf hr i (by have := List.mem_range.1 hi; omega)
    have a2 := wk_in hf hr j (by have := List.mem_range.1 hj; omega)
    omega
  have := nodup_len (M := n) h2 fun x hx => by
    obtain ⟨y, hy, rfl⟩ := List.mem_map.1 hx
    unfold chL at hy
    obtain ⟨i, hi, rfl⟩ := List.mem_map.1 hy
    have a1 := wk_in hf hr i (by have := List.mem_range.1 hi; omega)
    omega
  rw [List.length_map, chL_len] at this
  exact this

end Go.Proofs.Ytnlcnbkookmfaaa
