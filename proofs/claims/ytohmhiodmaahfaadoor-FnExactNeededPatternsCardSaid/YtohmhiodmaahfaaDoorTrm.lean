/- Texts of some signs alone: the program's. -/
import Derived.Test.YtohmhiodmaahfaaDoorTrimL
import Derived.Test.YtohmhiodmaahfaaDoorByt
namespace Go.Proofs.YtohmhiodmaahfaaDoor
open Go.RowKit
set_option linter.unusedVariables false

theorem dropWhile_cases {α : Type} (p : α → Bool) : ∀ l : List α, l.dropWhile p = [] ∨ ∃ a t, l.dropWhile p = a :: t ∧ p a = false
  | [] => .inl rfl
  | a :: l => by
    cases h : p a
    · exact .inr ⟨a, l, by rw [List.dropWhile_cons_of_neg (by simp [h])], h⟩
    · rw [List.dropWhile_cons_of_pos h]; exact dropWhile_cases p l
theorem dw_nil {α : Type} (p : α → Bool) (l : List α) : l.dropWhile p = [] ↔ ∀ x ∈ l, p x = true := by
  induction l with
  | nil => simp
  | cons a l ih =>
    cases h : p a
    · rw [List.dropWhile_cons_of_neg (by simp [h])]; simp [h]
    · rw [List.dropWhile_cons_of_pos h, ih]; simp [h]
theorem trimS_nil (l cs : List UInt8) : Lib.trimS l cs = [] ↔ l.all (cs.contains ·) = true := by
  unfold Lib.trimS Lib.trimLeftS Lib.trimRightS
  rw [List.all_eq_true]
  constructor
  · intro h
    rcases dropWhile_cases (cs.contains ·) l.reverse with h2 | ⟨a, t, h2, h3⟩
    · rw [dw_nil] at h2
      exact fun x hx => h2 x (List.mem_reverse.2 hx)
    · rw [dw_nil] at h
      have := h a (List.mem_reverse.2 (by rw [h2]; exact List.mem_cons_self))
      rw [h3] at this; cases this
  · intro h
    have e : l.reverse.dropWhile (cs.contains ·) = [] := (dw_nil _ _).2 fun x hx => h x (List.mem_reverse.1 hx)
    rw [e]; rfl
/-- are all bytes of a text among some? -/
def allIn (s : ByteArray) (cs : List UInt8) : Bool := s.data.toList.all (cs.contains ·)
theorem allIn_iff (s : ByteArray) (cs : List UInt8) : allIn s cs = true ↔ ∀ i, i < s.size → ∃ c ∈ cs, byteAt s i = (c.toNat : Int) := by
  unfold allIn
  rw [List.all_eq_true]
  constructor
  · intro h i hi
    have hm : s[i] ∈ s.data.toList := by
      show s.data[i] ∈ s.data.toList
      exact Array.mem_toList_iff.2 (Array.getElem_mem hi)
    have := h _ hm
    refine ⟨s[i], by simpa using this, byteAt_eq s i hi⟩
  · intro h x hx
    obtain ⟨i, hi, e⟩ := List.getElem_of_mem hx
    have hi2 : i < s.size := by simpa using hi
    obtain ⟨c, hc, hb⟩ := h i hi2
    have e2 : s[i] = x := by rw [← e]; rfl
    rw [byteAt_eq s i hi2, e2] at hb
    have e3 : x = c := UInt8.toNat.inj (by omega)
    rw [e3]; simpa using hc

set_option maxRecDepth 100000 in
set_option maxHeartbeats 1000000 in
theorem hasSignsOf_any (s c : ByteArray) (w : World) (hs : s.size ≤ 1048576) (hc : c.size < 4294967281) (ha : c.data.toList.all (fun b => decide (b.toNat < 128)) = true) :
    Calls Tryd.prog 31 #[.string s, .string c] w fun e w' => e = .returned (.bool (allIn s c.data.toList)) ∧ Below w.heap.size w w' := by
  have hcon := Any.strings_Trim_laid trimA (by kernel_rfl) s c w (by omega) hc (ascii_of_all ha)
  change Calls Tryd.prog 66 _ _ (fun e w' => e = .returned (.string ⟨(Lib.trimS s.data.toList c.data.toList).toArray⟩) ∧ Below w.heap.size w w') at hcon
  have HB : Hid ((Lib.trimS s.data.toList c.data.toList).isEmpty = allIn s c.data.toList) := by
    unfold Hid
    rw [Bool.eq_iff_iff, List.isEmpty_iff, trimS_nil]; rfl
  generalize Lib.trimS s.data.toList c.data.toList = r at hcon HB
  clear ha
  go_enter Tryd.func31, Tryd.ntmps31
  go_wp2_with (go_at_call 66; refine hcon.mono ?_; rintro e w' ⟨rfl, hB⟩)
  go_ret
  exact ⟨by rw [← HB.out]; rfl, hB⟩

end Go.Proofs.YtohmhiodmaahfaaDoor
