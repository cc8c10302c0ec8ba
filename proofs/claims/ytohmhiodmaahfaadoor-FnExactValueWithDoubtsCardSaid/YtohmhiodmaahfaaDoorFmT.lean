/- Formulas and their texts (plain mathematics). -/
import Derived.Test.YtohmhiodmaahfaaDoorFm
namespace Go.Proofs.YtohmhiodmaahfaaDoor
set_option linter.unusedVariables false

mutual
/-- the text of a formula -/
def txtF : Fm → List Int
  | .mk c ms => if openC c then c :: (txtL ms ++ [closeC c]) else [c]
def txtL : List Fm → List Int
  | [] => []
  | t :: ts => txtF t ++ txtL ts
end
mutual
/-- a formula as it is read: a contact, 0 or 1, or two members or more in brackets -/
def wfF : Fm → Prop
  | .mk c ms => (leafC c = true ∧ ms = []) ∨ (openC c = true ∧ 2 ≤ ms.length ∧ wfL ms)
def wfL : List Fm → Prop
  | [] => True
  | t :: ts => wfF t ∧ wfL ts
end
theorem txtF_leaf {c : Int} {ms : List Fm} (h : openC c = false) : txtF (.mk c ms) = [c] := by simp [txtF, h]
theorem txtF_open {c : Int} {ms : List Fm} (h : openC c = true) : txtF (.mk c ms) = c :: (txtL ms ++ [closeC c]) := by simp [txtF, h]
theorem txtF_pos (t : Fm) : 1 ≤ (txtF t).length := by
  obtain ⟨c, ms⟩ := t
  unfold txtF; split <;> simp
theorem txtL_append (ts us : List Fm) : txtL (ts ++ us) = txtL ts ++ txtL us := by
  induction ts with
  | nil => simp [txtL]
  | cons t ts ih => simp [txtL, ih]
theorem wfL_append {ts us : List Fm} : wfL (ts ++ us) ↔ wfL ts ∧ wfL us := by
  induction ts with
  | nil => simp [wfL]
  | cons t ts ih => simp [wfL, ih, and_assoc]
theorem wfL_mem {ts : List Fm} (h : wfL ts) : ∀ t ∈ ts, wfF t := by
  induction ts with
  | nil => intro t ht; cases ht
  | cons a ts ih =>
    intro t ht
    simp only [wfL] at h
    rcases List.mem_cons.1 ht with rfl | ht
    · exact h.1
    · exact ih h.2 t ht

/-- the text l stands in f from the place a on -/
def Agr (f : Nat → Int) (l : List Int) (a : Nat) : Prop := ∀ k, k < l.length → f (a + k) = l.getD k 0
theorem Agr.append {f : Nat → Int} {l m : List Int} {a : Nat} : Agr f (l ++ m) a ↔ Agr f l a ∧ Agr f m (a + l.length) := by
  constructor
  · intro h
    refine ⟨fun k hk => ?_, fun k hk => ?_⟩
    · rw [h k (by simp; omega)]
      simp only [List.getD_eq_getElem?_getD]
      rw [List.getElem?_append_left hk]
    · rw [Nat.add_assoc, h (l.length + k) (by simp; omega)]
      simp only [List.getD_eq_getElem?_getD]
      rw [List.getElem?_append_right (by omega), Nat.add_sub_cancel_left]
  · rintro ⟨h1, h2⟩ k hk
    simp only [List.length_append] at hk
    by_cases e : k < l.length
    · rw [h1 k e]
      simp only [List.getD_eq_getElem?_getD]
      rw [List.getElem?_append_left e]
    · have := h2 (k - l.length) (by omega)
      rw [show a + l.length + (k - l.length) = a + k by omega] at this
      rw [this]
      simp only [List.getD_eq_getElem?_getD]
      rw [List.getElem?_append_right (by omega)]
theorem Agr.one {f : Nat → Int} {c : Int} {a : Nat} : Agr f [c] a ↔ f a = c := by
  constructor
  · intro h; exact h 0 (by simp)
  · intro h k hk
    have : k = 0 := by simp at hk; omega
    subst this; exact h
theorem Agr.cons {f : Nat → Int} {c : Int} {l : List Int} {a : Nat} : Agr f (c :: l) a ↔ f a = c ∧ Agr f l (a + 1) := by
  have := Agr.append (f := f) (l := [c]) (m := l) (a := a)
  rw [Agr.one] at this
  exact this

theorem rdF_txt {f : Nat → Int} {n : Nat} : ∀ (N : Nat),
    (∀ (t : Fm) (a : Nat), (txtF t).length ≤ N → wfF t → Agr f (txtF t) a → a + (txtF t).length ≤ n → rdF f n none a = some (t, a + (txtF t).length)) ∧
    (∀ (ts : List Fm) (c : Int) (acc : List Fm) (a : Nat), (txtL ts).length ≤ N → wfL ts → Agr f (txtL ts) a → a + (txtL ts).length ≤ n → rdF f n (some (c, acc)) a = rdF f n (some (c, acc ++ ts)) (a + (txtL ts).length)) := by
  intro N
  induction N with
  | zero =>
    refine ⟨fun t a h => ?_, fun ts c acc a h => ?_⟩
    · have := txtF_pos t; omega
    · cases ts with
      | nil => intro _ _ _; simp [txtL]
      | cons t ts =>
        have := txtF_pos t
        simp only [txtL, List.length_append] at h
        omega
  | succ N ih =>
    have h1 : ∀ (t : Fm) (a : Nat), (txtF t).length ≤ N + 1 → wfF t → Agr f (txtF t) a → a + (txtF t).length ≤ n → rdF f n none a = some (t, a + (txtF t).length) := by
      intro t a hN hw hA hn
      obtain ⟨c, ms⟩ := t
      simp only [wfF] at hw
      rcases hw with ⟨hl, rfl⟩ | ⟨ho, h2, hw⟩
      · have ho := leaf_open hl
        rw [txtF_leaf ho] at hA hn ⊢
        rw [Agr.one] at hA
        simp only [List.length_singleton] at hn ⊢
        rw [← hA]
        exact rdF_leaf (by omega) (by rw [hA]; exact hl)
      · rw [txtF_open ho] at hA hn hN ⊢
        rw [Agr.cons, Agr.append, Agr.one] at hA
        simp only [List.length_cons, List.length_append, List.length_nil] at hn hN ⊢
        obtain ⟨e0, hA1, hA2⟩ := hA
        rw [rdF_open (by omega) (by rw [e0]; exact ho), e0, ih.2 ms c [] (a + 1) (by omega) hw hA1 (by omega), List.nil_append, rdF_close (by omega) hA2 h2]
        congr 2
        omega
    refine ⟨h1, fun ts => ?_⟩
    induction ts with
    | nil => intro c acc a _ _ _ _; simp [txtL]
    | cons t ts ihs =>
      intro c acc a hN hw hA hn
      simp only [wfL] at hw
      simp only [txtL] at hA hN hn ⊢
      rw [List.length_append] at hN hn ⊢
      rw [Agr.append] at hA
      have hp := txtF_pos t
      have e := h1 t a (by omega) hw.1 hA.1 (by omega)
      rw [rdF_more (by omega) e, ihs c (acc ++ [t]) (a + (txtF t).length) (by omega) hw.2 hA.2 (by omega)]
      rw [List.append_assoc, Nat.add_assoc]; rfl
theorem rdF_text {f : Nat → Int} {n a : Nat} {t : Fm} (hw : wfF t) (hA : Agr f (txtF t) a) (hn : a + (txtF t).length ≤ n) : rdF f n none a = some (t, a + (txtF t).length) :=
  (rdF_txt _).1 t a (Nat.le_refl _) hw hA hn

theorem rdF_back : ∀ (f : Nat → Int) (n : Nat) (m : Option (Int × List Fm)) (a : Nat) (t : Fm) (e : Nat), rdF f n m a = some (t, e) →
    match m with
    | none => wfF t ∧ e = a + (txtF t).length ∧ Agr f (txtF t) a
    | some (c, acc) => ∃ ts, t = .mk c (acc ++ ts) ∧ e = a + (txtL ts).length + 1 ∧ Agr f (txtL ts) a ∧ f (a + (txtL ts).length) = closeC c ∧ wfL ts ∧ 2 ≤ (acc ++ ts).length := by
  intro f n m a
  induction m, a using rdF.induct f n with
  | case1 a h hl =>
    intro t e he
    rw [rdF_leaf h hl] at he
    simp only [Option.some.injEq, Prod.mk.injEq] at he
    obtain ⟨rfl, rfl⟩ := he
    simp only
    rw [txtF_leaf (leaf_open hl)]
    exact ⟨by simp only [wfF]; exact .inl ⟨hl, trivial⟩, rfl, Agr.one.2 rfl⟩
  | case2 a h hl ho ih =>
    intro t e he
    rw [rdF_open h ho] at he
    obtain ⟨ts, rfl, rfl, hA, hc, hw, h2⟩ := ih t e he
    simp only [List.nil_append] at h2 ⊢
    rw [txtF_open ho]
    refine ⟨by simp only [wfF]; exact .inr ⟨ho, h2, hw⟩, by simp; omega, Agr.cons.2 ⟨rfl, Agr.append.2 ⟨hA, Agr.one.2 hc⟩⟩⟩
  | case3 a h hl ho =>
    intro t e he
    rw [rdF_none (by simpa using hl) (by simpa using ho)] at he
    cases he
  | case4 a h c acc hc h2 =>
    intro t e he
    rw [rdF_close h hc h2] at he
    simp only [Option.some.injEq, Prod.mk.injEq] at he
    obtain ⟨rfl, rfl⟩ := he
    exact ⟨[], by simp, by simp [txtL], fun k hk => by simp [txtL] at hk, by simpa [txtL] using hc, trivial, by simpa using h2⟩
  | case5 a h c acc hc h2 =>
    intro t e he
    rw [rdF_few hc h2] at he
    cases he
  | case6 a h c acc hc hn ih =>
    intro t e he
    rw [rdF_fail hn hc] at he
    cases he
  | case7 a h c acc hc t1 e1 hn hlt ih1 ih2 =>
    intro t e he
    rw [rdF_more h hn] at he
    obtain ⟨ts, rfl, rfl, hA, hcl, hw, h2⟩ := ih2 t e he
    obtain ⟨hw1, rfl, hA1⟩ := ih1 t1 e1 hn
    refine ⟨t1 :: ts, by simp, by simp [txtL]; omega, ?_, ?_, ?_, by simpa using h2⟩
    · simp only [txtL]; exact Agr.append.2 ⟨hA1, hA⟩
    · simp only [txtL, List.length_append]; rw [← hcl]; congr 1; omega
    · simp only [wfL]; exact ⟨hw1, hw⟩
  | case8 a h c acc hc t1 e1 hn hlt ih1 =>
    intro t e he
    exact absurd (rdF_adv _ _ _ _ _ _ hn).1 hlt
  | case9 m a h =>
    intro t e he
    rw [rdF_end (by omega)] at he
    cases he
/-- a text is a formula just if it is the text of one -/
theorem wholeF_iff {f : Nat → Int} {n : Nat} {t : Fm} : wholeF f n = some t ↔ wfF t ∧ n = (txtF t).length ∧ Agr f (txtF t) 0 := by
  rw [wholeF_eq]
  constructor
  · intro h
    cases hr : rdF f n none 0 with
    | none => rw [hr] at h; cases h
    | some r =>
      obtain ⟨t1, e1⟩ := r
      rw [hr] at h
      simp only at h
      split at h
      · rename_i he
        simp only [Option.some.injEq] at h
        subst h
        obtain ⟨hw, h1, hA⟩ := rdF_back _ _ _ _ _ _ hr
        exact ⟨hw, by omega, hA⟩
      · cases h
  · rintro ⟨hw, hn, hA⟩
    rw [rdF_text hw hA (by omega)]
    simp only
    rw [if_pos (by omega)]

end Go.Proofs.YtohmhiodmaahfaaDoor
