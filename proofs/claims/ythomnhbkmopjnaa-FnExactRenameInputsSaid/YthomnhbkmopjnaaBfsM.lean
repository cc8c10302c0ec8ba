/- Searching through: plain mathematics. What is reached from a start by steps, in the order of a queue; ways that end. -/
import Derived.Test.YthomnhbkmopjnaaMath
namespace Go.Proofs.Ythomnhbkmopjnaa
set_option linter.unusedVariables false

/-- new ones are put behind the queue -/
def visit (q : List Nat) : List Nat → List Nat
  | [] => q
  | x :: r => visit (if x ∈ q then q else q ++ [x]) r
theorem visit_snoc (q l : List Nat) (x : Nat) : visit q (l ++ [x]) = if x ∈ visit q l then visit q l else visit q l ++ [x] := by
  induction l generalizing q with
  | nil => simp only [List.nil_append, visit]; rfl
  | cons y r ih => simp only [List.cons_append, visit]; rw [ih]; rfl
theorem visit_mem (q l : List Nat) (x : Nat) : x ∈ visit q l ↔ x ∈ q ∨ x ∈ l := by
  induction l generalizing q with
  | nil => simp [visit]
  | cons y r ih =>
    simp only [visit]
    rw [ih]
    by_cases h : y ∈ q
    · rw [if_pos h]
      constructor
      · rintro (h1 | h1)
        · exact .inl h1
        · exact .inr (List.mem_cons_of_mem _ h1)
      · rintro (h1 | h1)
        · exact .inl h1
        · rcases List.mem_cons.1 h1 with rfl | h1
          · exact .inl h
          · exact .inr h1
    · rw [if_neg h]; simp only [List.mem_append, List.mem_cons, List.not_mem_nil, or_false]; exact ⟨fun h => by rcases h with (h | h) | h <;> simp [h], fun h => by rcases h with h | h | h <;> simp [h]⟩
theorem visit_nodup (q l : List Nat) (h : q.Nodup) : (visit q l).Nodup := by
  induction l generalizing q with
  | nil => exact h
  | cons y r ih =>
    simp only [visit]
    apply ih
    by_cases hy : y ∈ q
    · rw [if_pos hy]; exact h
    · rw [if_neg hy, List.nodup_append]
      exact ⟨h, by simp, fun a ha b hb e => hy (by simp at hb; rw [← hb, ← e]; exact ha)⟩
theorem visit_pre (q l : List Nat) : ∃ r, visit q l = q ++ r := by
  induction l generalizing q with
  | nil => exact ⟨[], by simp [visit]⟩
  | cons y r ih =>
    simp only [visit]
    obtain ⟨t, ht⟩ := ih (if y ∈ q then q else q ++ [y])
    rw [ht]
    by_cases hy : y ∈ q
    · rw [if_pos hy]; exact ⟨t, rfl⟩
    · rw [if_neg hy]; exact ⟨[y] ++ t, by simp⟩

/-- the queue when k of it are looked at -/
def bfs (st : Nat → List Nat) (s : Nat) : Nat → List Nat
  | 0 => [s]
  | k + 1 => if k < (bfs st s k).length then visit (bfs st s k) (st ((bfs st s k).getD k 0)) else bfs st s k
theorem bfs_nodup (st : Nat → List Nat) (s k : Nat) : (bfs st s k).Nodup := by
  induction k with
  | zero => simp [bfs]
  | succ k ih =>
    simp only [bfs]
    by_cases h : k < (bfs st s k).length
    · rw [if_pos h]; exact visit_nodup _ _ ih
    · rw [if_neg h]; exact ih
theorem bfs_lt {st : Nat → List Nat} {M s : Nat} (hs : s < M) (hst : ∀ x, x < M → ∀ y ∈ st x, y < M) (k : Nat) : ∀ x ∈ bfs st s k, x < M := by
  induction k with
  | zero => intro x hx; simp [bfs] at hx; omega
  | succ k ih =>
    simp only [bfs]
    by_cases h : k < (bfs st s k).length
    · rw [if_pos h]
      intro x hx
      rcases (visit_mem _ _ _).1 hx with h1 | h1
      · exact ih x h1
      · refine hst _ (ih _ ?_) x h1
        rw [List.getD_eq_getElem?_getD, List.getElem?_eq_getElem h]; exact List.getElem_mem h
    · rw [if_neg h]; exact ih
theorem nodup_len {l : List Nat} {M : Nat} (hn : l.Nodup) (hl : ∀ x ∈ l, x < M) : l.length ≤ M := by
  have := List.Nodup.length_le_of_subset hn (l₂ := List.range M) (fun x hx => List.mem_range.2 (hl x hx))
  simpa using this
theorem bfs_len {st : Nat → List Nat} {M s : Nat} (hs : s < M) (hst : ∀ x, x < M → ∀ y ∈ st x, y < M) (k : Nat) : (bfs st s k).length ≤ M :=
  nodup_len (bfs_nodup st s k) (bfs_lt hs hst k)
theorem bfs_pre (st : Nat → List Nat) (s k : Nat) : ∃ r, bfs st s (k + 1) = bfs st s k ++ r := by
  simp only [bfs]
  by_cases h : k < (bfs st s k).length
  · rw [if_pos h]; exact visit_pre _ _
  · rw [if_neg h]; exact ⟨[], by simp⟩
theorem bfs_preN (st : Nat → List Nat) (s k j : Nat) : ∃ r, bfs st s (k + j) = bfs st s k ++ r := by
  induction j with
  | zero => exact ⟨[], by simp⟩
  | succ j ih =>
    obtain ⟨r, hr⟩ := ih
    obtain ⟨t, ht⟩ := bfs_pre st s (k + j)
    exact ⟨r ++ t, by rw [show k + (j + 1) = k + j + 1 by omega, ht, hr]; simp⟩
theorem bfs_start (st : Nat → List Nat) (s k : Nat) : s ∈ bfs st s k := by
  obtain ⟨r, hr⟩ := bfs_preN st s 0 k
  rw [Nat.zero_add] at hr
  rw [hr]; simp [bfs]
/-- at the end of the queue nothing is added any more -/
theorem bfs_stop {st : Nat → List Nat} {s k : Nat} (h : (bfs st s k).length ≤ k) (j : Nat) : bfs st s (k + j) = bfs st s k := by
  induction j with
  | zero => rfl
  | succ j ih =>
    rw [show k + (j + 1) = k + j + 1 by omega]
    simp only [bfs]
    rw [if_neg (by rw [ih]; omega), ih]
/-- what is reached -/
def reach (st : Nat → List Nat) (M s : Nat) : List Nat := bfs st s M
theorem reach_end {st : Nat → List Nat} {M s : Nat} (hs : s < M) (hst : ∀ x, x < M → ∀ y ∈ st x, y < M) {k : Nat} (hk : (bfs st s k).length ≤ k) (hkM : k ≤ M) : bfs st s k = reach st M s := by
  have := bfs_stop hk (M - k)
  rw [show k + (M - k) = M by omega] at this
  exact this.symm
theorem reach_nodup (st : Nat → List Nat) (M s : Nat) : (reach st M s).Nodup := bfs_nodup _ _ _
theorem reach_lt {st : Nat → List Nat} {M s : Nat} (hs : s < M) (hst : ∀ x, x < M → ∀ y ∈ st x, y < M) : ∀ x ∈ reach st M s, x < M := bfs_lt hs hst M
theorem reach_len {st : Nat → List Nat} {M s : Nat} (hs : s < M) (hst : ∀ x, x < M → ∀ y ∈ st x, y < M) : (reach st M s).length ≤ M := bfs_len hs hst M
theorem reach_start (st : Nat → List Nat) (M s : Nat) : s ∈ reach st M s := bfs_start _ _ _
/-- its steps are reached, too -/
theorem reach_closed {st : Nat → List Nat} {M s : Nat} (hs : s < M) (hst : ∀ x, x < M → ∀ y ∈ st x, y < M) {x y : Nat} (hx : x ∈ reach st M s) (hy : y ∈ st x) : y ∈ reach st M s := by
  obtain ⟨k, hk, rfl⟩ := List.getElem_of_mem hx
  have hkM : k < M := Nat.lt_of_lt_of_le hk (reach_len hs hst)
  obtain ⟨r, hr⟩ := bfs_preN st s (k + 1) (M - (k + 1))
  obtain ⟨r0, hr0⟩ := bfs_preN st s k (M - k)
  rw [show k + 1 + (M - (k + 1)) = M by omega] at hr
  rw [show k + (M - k) = M by omega] at hr0
  have hlen : k < (bfs st s k).length := by
    rcases Nat.lt_or_ge k (bfs st s k).length with h | h
    · exact h
    · exfalso
      have h2 := bfs_stop h (M - k)
      rw [show k + (M - k) = M by omega] at h2
      unfold reach at hk
      rw [h2] at hk; omega
  have e : (reach st M s)[k] = (bfs st s k).getD k 0 := by
    have h1 : (reach st M s)[k]? = some (reach st M s)[k] := List.getElem?_eq_getElem hk
    have h2 : (reach st M s)[k]? = (bfs st s k)[k]? := by
      have : reach st M s = bfs st s k ++ r0 := hr0
      rw [this, List.getElem?_append_left hlen]
    rw [List.getD_eq_getElem?_getD, ← h2, h1]; rfl
  unfold reach
  rw [hr]
  refine List.mem_append_left _ ?_
  simp only [bfs]
  rw [if_pos hlen]
  refine (visit_mem _ _ _).2 (.inr ?_)
  rw [← e]; exact hy
/-- whatever holds of the start and goes on along steps holds of all that is reached -/
theorem bfs_ind {st : Nat → List Nat} {s : Nat} {P : Nat → Prop} (h0 : P s) (hstep : ∀ x, P x → ∀ y ∈ st x, P y) (k : Nat) : ∀ x ∈ bfs st s k, P x := by
  induction k with
  | zero => intro x hx; simp [bfs] at hx; rw [hx]; exact h0
  | succ k ih =>
    simp only [bfs]
    by_cases h : k < (bfs st s k).length
    · rw [if_pos h]
      intro x hx
      rcases (visit_mem _ _ _).1 hx with h1 | h1
      · exact ih x h1
      · refine hstep _ (ih _ ?_) x h1
        rw [List.getD_eq_getElem?_getD, List.getElem?_eq_getElem h]; exact List.getElem_mem h
    · rw [if_neg h]; exact ih

/-! ### ways that end -/
/-- all ways from x end -/
def Ends (st : Nat → List Nat) (x : Nat) : Prop := Acc (fun y x => y ∈ st x) x
theorem Ends.mk {st : Nat → List Nat} {x : Nat} (h : ∀ y ∈ st x, Ends st y) : Ends st x := Acc.intro x h
theorem Ends.step {st : Nat → List Nat} {x y : Nat} (h : Ends st x) (hy : y ∈ st x) : Ends st y := h.inv hy
theorem Ends.all {st : Nat → List Nat} {s : Nat} (h : Ends st s) (k : Nat) : ∀ x ∈ bfs st s k, Ends st x := bfs_ind h (fun _ hx _ hy => hx.step hy) k

/-- a set whose members have all their steps in it before: only ends -/
def Sound (st : Nat → List Nat) (E : List Nat) : Prop := ∀ x ∈ E, Ends st x
/-- one look: x is found if all its steps are -/
def look (st : Nat → List Nat) (E : List Nat) (x : Nat) : List Nat := if (∀ y ∈ st x, y ∈ E) then (if x ∈ E then E else E ++ [x]) else E
def pass (st : Nat → List Nat) (R E : List Nat) : List Nat := R.foldl (look st) E
theorem look_sound {st : Nat → List Nat} {E : List Nat} (h : Sound st E) (x : Nat) : Sound st (look st E x) := by
  unfold look
  by_cases h1 : ∀ y ∈ st x, y ∈ E
  · rw [if_pos h1]
    by_cases h2 : x ∈ E
    · rw [if_pos h2]; exact h
    · rw [if_neg h2]
      intro z hz
      rcases List.mem_append.1 hz with hz | hz
      · exact h z hz
      · have : z = x := by simpa using hz
        subst this
        exact Ends.mk fun y hy => h y (h1 y hy)
  · rw [if_neg h1]; exact h
theorem look_nodup {st : Nat → List Nat} {E : List Nat} (h : E.Nodup) (x : Nat) : (look st E x).Nodup := by
  unfold look
  by_cases h1 : ∀ y ∈ st x, y ∈ E
  · rw [if_pos h1]
    by_cases h2 : x ∈ E
    · rw [if_pos h2]; exact h
    · rw [if_neg h2, List.nodup_append]
      exact ⟨h, by simp, fun a ha b hb e => h2 (by simp at hb; rw [← hb, ← e]; exact ha)⟩
  · rw [if_neg h1]; exact h
theorem look_pre (st : Nat → List Nat) (E : List Nat) (x : Nat) : ∃ r, look st E x = E ++ r := by
  unfold look
  by_cases h1 : ∀ y ∈ st x, y ∈ E
  · rw [if_pos h1]
    by_cases h2 : x ∈ E
    · rw [if_pos h2]; exact ⟨[], by simp⟩
    · rw [if_neg h2]; exact ⟨[x], rfl⟩
  · rw [if_neg h1]; exact ⟨[], by simp⟩
theorem fold_pre (st : Nat → List Nat) (R E : List Nat) : ∃ r, pass st R E = E ++ r := by
  unfold pass
  induction R generalizing E with
  | nil => exact ⟨[], by simp⟩
  | cons x r ih =>
    obtain ⟨a, ha⟩ := look_pre st E x
    obtain ⟨b, hb⟩ := ih (look st E x)
    exact ⟨a ++ b, by simp only [List.foldl_cons]; rw [hb, ha]; simp⟩
theorem pass_sound {st : Nat → List Nat} {E : List Nat} (R : List Nat) (h : Sound st E) : Sound st (pass st R E) := by
  unfold pass
  induction R generalizing E with
  | nil => exact h
  | cons x r ih => exact ih (look_sound h x)
theorem pass_nodup {st : Nat → List Nat} {E : List Nat} (R : List Nat) (h : E.Nodup) : (pass st R E).Nodup := by
  unfold pass
  induction R generalizing E with
  | nil => exact h
  | cons x r ih => exact ih (look_nodup h x)
theorem pass_sub {st : Nat → List Nat} {E R T : List Nat} (hE : ∀ x ∈ E, x ∈ T) (hR : ∀ x ∈ R, x ∈ T) : ∀ x ∈ pass st R E, x ∈ T := by
  unfold pass
  induction R generalizing E with
  | nil => exact hE
  | cons y r ih =>
    refine ih (fun x hx => ?_) (fun x hx => hR x (List.mem_cons_of_mem _ hx))
    unfold look at hx
    by_cases h1 : ∀ z ∈ st y, z ∈ E
    · rw [if_pos h1] at hx
      by_cases h2 : y ∈ E
      · rw [if_pos h2] at hx; exact hE x hx
      · rw [if_neg h2] at hx
        rcases List.mem_append.1 hx with hx | hx
        · exact hE x hx
        · have : x = y := by simpa using hx
          rw [this]; exact hR y (by simp)
    · rw [if_neg h1] at hx; exact hE x hx
/-- if a pass finds nothing then none that it looks at has all its steps found -/
theorem pass_fix {st : Nat → List Nat} {R E : List Nat} (h : pass st R E = E) : ∀ x ∈ R, (∀ y ∈ st x, y ∈ E) → x ∈ E := by
  unfold pass at h
  induction R generalizing E with
  | nil => intro x hx; cases hx
  | cons z r ih =>
    simp only [List.foldl_cons] at h
    obtain ⟨a, ha⟩ := look_pre st E z
    obtain ⟨b, hb⟩ := fold_pre st r (look st E z)
    unfold pass at hb
    rw [hb, ha, List.append_assoc] at h
    have hab : a ++ b = [] := by simpa using h
    have ha0 : a = [] := (List.append_eq_nil_iff.1 hab).1
    have hb0 : b = [] := (List.append_eq_nil_iff.1 hab).2
    rw [ha0, List.append_nil] at ha
    rw [hb0, List.append_nil] at hb
    intro x hx hall
    rcases List.mem_cons.1 hx with rfl | hx
    · unfold look at ha
      rw [if_pos hall] at ha
      by_cases h2 : x ∈ E
      · exact h2
      · rw [if_neg h2] at ha
        have := congrArg List.length ha
        simp at this
    · rw [ha] at hb
      exact ih (by rw [hb]) x hx hall
/-- so many passes -/
def passes (st : Nat → List Nat) (R : List Nat) : Nat → List Nat
  | 0 => []
  | k + 1 => pass st R (passes st R k)
theorem passes_sound (st : Nat → List Nat) (R : List Nat) (k : Nat) : Sound st (passes st R k) := by
  induction k with
  | zero => intro x hx; cases hx
  | succ k ih => exact pass_sound R ih
theorem passes_nodup (st : Nat → List Nat) (R : List Nat) (k : Nat) : (passes st R k).Nodup := by
  induction k with
  | zero => simp [passes]
  | succ k ih => exact pass_nodup R ih
theorem passes_sub (st : Nat → List Nat) (R : List Nat) (k : Nat) : ∀ x ∈ passes st R k, x ∈ R := by
  induction k with
  | zero => intro x hx; cases hx
  | succ k ih => exact pass_sub ih fun _ h => h
theorem passes_grow (st : Nat → List Nat) (R : List Nat) (k : Nat) : (∀ x ∈ R, (∀ y ∈ st x, y ∈ passes st R k) → x ∈ passes st R k) ∨ k ≤ (passes st R k).length := by
  induction k with
  | zero => right; omega
  | succ k ih =>
    obtain ⟨r, hr⟩ := fold_pre st R (passes st R k)
    by_cases h0 : r = []
    · left
      have hfix : pass st R (passes st R k) = passes st R k := by rw [hr, h0]; simp
      have : passes st R (k + 1) = passes st R k := hfix
      rw [this]
      exact pass_fix hfix
    · rcases ih with ih | ih
      · left
        -- nothing could be found any more
        exfalso
        apply h0
        have key : ∀ (l : List Nat), (∀ x ∈ l, x ∈ R) → pass st l (passes st R k) = passes st R k := by
          intro l
          induction l with
          | nil => intro _; rfl
          | cons z t iht =>
            intro hl
            have hz : look st (passes st R k) z = passes st R k := by
              unfold look
              by_cases h1 : ∀ y ∈ st z, y ∈ passes st R k
              · rw [if_pos h1, if_pos (ih z (hl z (by simp)) h1)]
              · rw [if_neg h1]
            have e : pass st (z :: t) (passes st R k) = pass st t (look st (passes st R k) z) := rfl
            rw [e, hz]
            exact iht fun x hx => hl x (by simp [hx])
        have h3 := key R fun _ h => h
        rw [h3] at hr
        simpa using hr
      · right
        have hl : 1 ≤ r.length := by
          cases r with
          | nil => exact absurd rfl h0
          | cons _ _ => simp
        have : (passes st R (k + 1)).length = (passes st R k).length + r.length := by
          show (pass st R (passes st R k)).length = _
          rw [hr]; simp
        omega
theorem sub_full {E R : List Nat} (hn : E.Nodup) (hs : ∀ x ∈ E, x ∈ R) (hl : R.length ≤ E.length) : ∀ x ∈ R, x ∈ E := by
  intro x hx
  refine Classical.byContradiction fun h => ?_
  have h2 : (x :: E).Nodup := List.nodup_cons.2 ⟨h, hn⟩
  have := List.Nodup.length_le_of_subset h2 (l₂ := R) (fun y hy => by
    rcases List.mem_cons.1 hy with rfl | hy
    · exact hx
    · exact hs y hy)
  simp at this; omega
/-- behind as many passes as there are places all that end are found -/
theorem passes_all {st : Nat → List Nat} {R : List Nat} (hn : R.Nodup) (hcl : ∀ x ∈ R, ∀ y ∈ st x, y ∈ R) {x : Nat} (hx : x ∈ R) : x ∈ passes st R R.length ↔ Ends st x := by
  constructor
  · exact fun h => passes_sound st R _ x h
  · intro h
    have hfull : (∀ x ∈ R, (∀ y ∈ st x, y ∈ passes st R R.length) → x ∈ passes st R R.length) := by
      rcases passes_grow st R R.length with h | h
      · exact h
      · have hsub := passes_sub st R R.length
        intro z hz _
        -- all of R is found
        exact sub_full (passes_nodup _ _ _) hsub h z hz
    have : x ∈ R → x ∈ passes st R R.length := by
      refine Acc.rec (motive := fun x _ => x ∈ R → x ∈ passes st R R.length) ?_ h
      intro z hz ih hzR
      exact hfull z hzR fun y hy => ih y hy (hcl z hzR y hy)
    exact this hx
theorem passes_len {st : Nat → List Nat} {R : List Nat} (hn : R.Nodup) (hcl : ∀ x ∈ R, ∀ y ∈ st x, y ∈ R) : ¬ ((passes st R R.length).length < R.length) ↔ ∀ x ∈ R, Ends st x := by
  have hsub := passes_sub st R R.length
  have hle := List.Nodup.length_le_of_subset (passes_nodup st R R.length) hsub
  constructor
  · intro h x hx
    exact passes_sound st R _ x (sub_full (passes_nodup _ _ _) hsub (by omega) x hx)
  · intro h hlt
    have h2 : ∀ x ∈ R, x ∈ passes st R R.length := fun x hx => (passes_all hn hcl hx).2 (h x hx)
    have := List.Nodup.length_le_of_subset hn h2
    omega

end Go.Proofs.Ythomnhbkmopjnaa
