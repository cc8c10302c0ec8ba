/- A scope in which the run jumps back to several labels. -/
import Derived.ScopeJumps
namespace Go.Proofs.YtohmhiodmaahfaaDoor
open Go

/-- As Q; by a goto to a label l: J l. -/
def jumpN (J : Nat → Act → World → Prop) (Q : Exit → Act → World → Prop) : Exit → Act → World → Prop
  | .goto l, a, w => J l a w
  | e, a, w => Q e a w

section
variable {P : Program} {a : Act} {w : World} {Q : Exit → Act → World → Prop}
theorem wp_scope_jumpsM {c : Code} (J : Nat → Act → World → Prop) (μ : Nat → Act → World → Nat) (J1 : Nat → Act → World → Prop) (h1 : ∀ l a w, J1 l a w → J l a w)
    (first : c.wp P (jumpN J1 Q) a w)
    (pass : ∀ l a w, J l a w → ∃ rest, findLabel c l = some rest ∧ rest.wp P (jumpN (fun l' a' w' => J l' a' w' ∧ μ l' a' w' < μ l a w) Q) a w) : (Code.scope c).wp P Q a w := by
  intro b k cs
  have key : ∀ n l a w, μ l a w = n → J l a w → ∀ rest, findLabel c l = some rest → ∃ e a' w', Q e a' w' ∧ Arrives P (lone (b.at a (.code rest :: .inScope c :: k)) cs w) b k cs e a' w' := by
    intro n
    induction n using Nat.strongRecOn with
    | _ n ih =>
      intro l a w hn hJ rest hf
      obtain ⟨rest', hf', hpass⟩ := pass l a w hJ
      obtain rfl : rest = rest' := by rw [hf] at hf'; exact Option.some.inj hf'
      obtain ⟨e, a₁, w₁, hq, harr⟩ := hpass b (.inScope c :: k) cs
      cases e with
      | normal => exact ⟨.normal, a₁, w₁, hq, Steps.trans harr (.one step_inScope)⟩
      | exit id => exact ⟨.exit id, a₁, w₁, hq, fun k' hk => harr k' (by simp [exitTo, hk])⟩
      | goto l' =>
        obtain ⟨hJ', hlt⟩ := hq
        obtain ⟨rest2, hf2, _⟩ := pass l' a₁ w₁ hJ'
        obtain ⟨e₂, a₂, w₂, hq₂, harr₂⟩ := ih _ (by omega) l' a₁ w₁ rfl hJ' rest2 hf2
        exact ⟨e₂, a₂, w₂, hq₂, .of_steps (harr _ (by simp [gotoIn, hf2])) harr₂⟩
      | ret => exact ⟨_, a₁, w₁, hq, harr⟩
      | panic ch => exact ⟨_, a₁, w₁, hq, harr⟩
      | outgrown => exact ⟨_, a₁, w₁, hq, harr⟩
  obtain ⟨e, a₁, w₁, hq, harr⟩ := first b (.inScope c :: k) cs
  cases e with
  | normal => exact ⟨.normal, a₁, w₁, hq, .head step_scope (Steps.trans harr (.one step_inScope))⟩
  | exit id => exact ⟨.exit id, a₁, w₁, hq, fun k' hk => .head step_scope (harr k' (by simp [exitTo, hk]))⟩
  | goto l' =>
    have hJ' : J l' a₁ w₁ := h1 _ _ _ hq
    obtain ⟨rest2, hf2, _⟩ := pass l' a₁ w₁ hJ'
    obtain ⟨e₂, a₂, w₂, hq₂, harr₂⟩ := key _ l' a₁ w₁ rfl hJ' rest2 hf2
    exact ⟨e₂, a₂, w₂, hq₂, .of_steps (.head step_scope (harr _ (by simp [gotoIn, hf2]))) harr₂⟩
  | ret => exact ⟨_, a₁, w₁, hq, .of_steps (.one step_scope) harr⟩
  | panic ch => exact ⟨_, a₁, w₁, hq, .of_steps (.one step_scope) harr⟩
  | outgrown => exact ⟨_, a₁, w₁, hq, .of_steps (.one step_scope) harr⟩
/-- a scope with the labels 0 and 1, the second behind the first: what each of both parts does, and the way to the first -/
theorem wp_scope_two {c r0 r1 : Code} (h0 : findLabel c 0 = some (Code.skip.seq r0)) (h1 : findLabel c 1 = some (Code.skip.seq r1)) (J : Nat → Act → World → Prop) (μ : Nat → Act → World → Nat) (hJ : ∀ l a w, J l a w → l = 0 ∨ l = 1)
    (end_ : ∀ M a w, J 1 a w → μ 1 a w ≤ M → r1.wp P (jumpN (fun l' a' w' => J l' a' w' ∧ μ l' a' w' < M) Q) a w)
    (begin_ : (∀ M a w, J 1 a w → μ 1 a w ≤ M → r1.wp P (jumpN (fun l' a' w' => J l' a' w' ∧ μ l' a' w' < M) Q) a w) → ∀ M a w, J 0 a w → μ 0 a w ≤ M → r0.wp P (jumpN (fun l' a' w' => J l' a' w' ∧ μ l' a' w' < M) Q) a w)
    (first : (∀ M a w, J 0 a w → μ 0 a w ≤ M → r0.wp P (jumpN (fun l' a' w' => J l' a' w' ∧ μ l' a' w' < M) Q) a w) → ∃ M, c.wp P (jumpN (fun l' a' w' => J l' a' w' ∧ μ l' a' w' < M) Q) a w) : (Code.scope c).wp P Q a w := by
  obtain ⟨M, hM⟩ := first (begin_ end_)
  have pass : ∀ l a w, J l a w → ∃ rest, findLabel c l = some rest ∧ rest.wp P (jumpN (fun l' a' w' => J l' a' w' ∧ μ l' a' w' < μ l a w) Q) a w := fun l a w h => by
    rcases hJ l a w h with rfl | rfl
    · exact ⟨_, h0, wp_seq (wp_skip (begin_ end_ _ a w h (Nat.le_refl _)))⟩
    · exact ⟨_, h1, wp_seq (wp_skip (end_ _ a w h (Nat.le_refl _)))⟩
  exact wp_scope_jumpsM J μ _ (fun _ _ _ h => h.1) hM pass
end
end Go.Proofs.YtohmhiodmaahfaaDoor
