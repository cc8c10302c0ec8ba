/- Sets of rows that go together: the program's setOf, commonCompany, goTogether. -/
import Derived.Test.YtnlcnbkookmfaaaCin
import Derived.Test.YtnlcnbkookmfaaaSets
import Derived.Test.YtnlcnbkookmfaaaRdF
namespace Go.Proofs.Ytnlcnbkookmfaaa
open Go.RowKit
set_option linter.unusedVariables false

theorem rowN_and (P Q : Nat → Prop) : rowN P &&& rowN Q = rowN (fun b => P b ∧ Q b) := by
  refine Nat.eq_of_testBit_eq fun j => ?_
  rw [Nat.testBit_and, rowN_testBit, rowN_testBit, rowN_testBit]
  by_cases hj : j < 8
  · cases e1 : bP (P j)
    · rw [bP_no (p := P j ∧ Q j) fun h => bP_out e1 h.1]; simp
    · cases e2 : bP (Q j)
      · rw [bP_no (p := P j ∧ Q j) fun h => bP_out e2 h.2]; simp
      · rw [bP_yes (p := P j ∧ Q j) ⟨bP_iff.1 e1, bP_iff.1 e2⟩]; simp
  · simp [hj]
theorem rowN_sub (P Q : Nat → Prop) : (rowN P &&& (2 ^ 63 - 1 - rowN Q) = 0) ↔ ∀ j, j < 8 → P j → Q j := by
  have hq := rowN_lt Q
  have e : 2 ^ 63 - 1 - rowN Q = 2 ^ 63 - (rowN Q + 1) := by omega
  rw [e]
  have hb : ∀ j, (rowN P &&& (2 ^ 63 - (rowN Q + 1))).testBit j = ((decide (j < 8) && bP (P j)) && (decide (j < 63) && !(decide (j < 8) && bP (Q j)))) := fun j => by
    rw [Nat.testBit_and, rowN_testBit, Nat.testBit_two_pow_sub_succ (by omega), rowN_testBit]
  constructor
  · intro h j hj hp
    have := hb j
    rw [h, Nat.zero_testBit, bP_yes hp] at this
    cases e2 : bP (Q j)
    · rw [e2] at this
      simp [hj] at this
      omega
    · exact bP_iff.1 e2
  · intro h
    refine Nat.eq_of_testBit_eq fun j => ?_
    rw [hb j, Nat.zero_testBit]
    by_cases hj : j < 8
    · cases e1 : bP (P j)
      · simp
      · rw [bP_yes (h j hj (bP_iff.1 e1))]; simp [hj]
    · simp [hj]
/-- the members of a list below 8, as a set -/
def memQ (xs : List Int) (k : Nat) (b : Nat) : Prop := ∃ i, i < k ∧ xs.getD i 0 = (b : Int)
theorem memQ_succ {xs : List Int} {k x : Nat} (h : xs.getD k 0 = (x : Int)) (b : Nat) : (memQ xs k b ∨ b = x) ↔ memQ xs (k + 1) b := by
  constructor
  · rintro (⟨i, hi, e⟩ | rfl)
    · exact ⟨i, by omega, e⟩
    · exact ⟨k, by omega, h⟩
  · rintro ⟨i, hi, e⟩
    by_cases hk : i = k
    · subst hk; right; omega
    · exact .inl ⟨i, by omega, e⟩

set_option maxRecDepth 100000 in
set_option maxHeartbeats 1000000 in
theorem setOf8_any (v : Value) (xs : List Int) (w : World) (ha : Reads w v xs) (hx : ∀ i, i < xs.length → 0 ≤ xs.getD i 0 ∧ xs.getD i 0 < 8) :
    Calls Try.prog 71 #[v] w fun e w' => e = .returned (.int .i64 ((rowN (memQ xs xs.length) : Nat) : Int)) ∧ w = w' := by
  have H0 : Hid (rowN (memQ xs 0) = 0) := by
    unfold Hid
    rw [rowN_congr (Q := fun _ => False) fun j _ => ⟨fun ⟨i, hi, _⟩ => by omega, False.elim⟩, rowN_none]
  have HX := Lib.hid hx
  obtain ⟨a, ca, rfl, hm, h⟩ := ha
  have hR : Reads w (.slice a xs.length ca) xs := ⟨a, ca, rfl, hm, h⟩
  have HC : Hid (∀ i, i < xs.length → ∃ b off, a = some ⟨b, off, none⟩ ∧ w.cell? ⟨b, off + i, none⟩ = some (.int .i64 (xs.getD i 0))) := fun i hi => hR.cellR hi
  unfold maxLen at hm
  clear h hR hx
  generalize hn : xs.length = n at *
  clear hn
  go_enter Try.func71, Try.ntmps71
  go_wp2_with fail
  go_loop [3, 8] (fun s c => ∃ k : Nat, k ≤ n ∧ c = .int .i64 (k : Int) ∧ s = .int .i64 ((rowN (memQ xs k) : Nat) : Int)) (fun _ c => n - (intOf c).toNat)
  case atStart => exact ⟨0, Nat.zero_le _, rfl, by rw [H0.out]; rfl⟩
  case round =>
    obtain ⟨k, hk, rfl, rfl⟩ := hrel
    by_cases hlt : k < n
    · obtain ⟨b, off, rfl, hc⟩ := HC.out k hlt
      have hx := HX.out k hlt
      obtain ⟨X, hX⟩ : ∃ X : Nat, xs.getD k 0 = (X : Int) := ⟨(xs.getD k 0).toNat, by omega⟩
      rw [hX] at hc hx
      have hi1 : (k : Int) < (n : Int) := by omega
      have hi0 : (0 : Int) ≤ (k : Int) := by omega
      have hX0 : (0 : Int) ≤ (X : Int) := by omega
      have hX8 : X < 8 := by omega
      obtain ⟨V, hV⟩ : ∃ V, bits .or .i64 ((rowN (memQ xs k) : Nat) : Int) (wrap64 (2 ^ X)) = V := ⟨_, rfl⟩
      have HV : Hid (V = ((rowN (memQ xs (k + 1)) : Nat) : Int)) := by
        rw [Hid, ← hV, or_walk (rowN (memQ xs k)) X (by have := rowN_lt (memQ xs k); omega) (by omega), rowN_or _ hX8]
        rw [rowN_congr fun j _ => memQ_succ hX j]
      generalize ((rowN (memQ xs k) : Nat) : Int) = S at *
      clear hX hx
      go_wp2_with fail
      go_round
      case rel => exact ⟨k + 1, by omega, by go_num, by rw [HV.out]⟩
      case measure => simp [intOf]; omega
    · have e : k = n := by omega
      subst e
      have hge : ¬ (k : Int) < (k : Int) := by omega
      obtain ⟨S, hS⟩ : ∃ S, ((rowN (memQ xs k) : Nat) : Int) = S := ⟨_, rfl⟩
      have HS := Lib.hid hS
      rw [hS]
      clear hS
      go_wp2_with fail
      go_ret
      exact ⟨by rw [HS.out]; rfl, rfl⟩

theorem ones8 (Q : Nat → Prop) : onesTo ((rowN Q : Nat) : Int) 62 = onesTo ((rowN Q : Nat) : Int) 8 := by
  have hq := rowN_lt Q
  refine (onesTo_rest (by omega) (by decide) ?_).symm
  rw [div_nat (by omega), Int.toNat_natCast, Nat.div_eq_of_lt (by omega)]; rfl
theorem ones8_get {Q : Nat → Prop} {i : Nat} (hi : i < (onesTo ((rowN Q : Nat) : Int) 62).length) : ∃ x : Nat, (onesTo ((rowN Q : Nat) : Int) 62).getD i 0 = (x : Int) ∧ x < 8 ∧ Q x := by
  have hm : (onesTo ((rowN Q : Nat) : Int) 62).getD i 0 ∈ onesTo ((rowN Q : Nat) : Int) 62 := by
    rw [List.getD_eq_getElem?_getD, List.getElem?_eq_getElem hi]; exact List.getElem_mem hi
  rw [ones8] at hm
  unfold onesTo at hm
  obtain ⟨x, hx, e⟩ := List.mem_map.1 hm
  obtain ⟨h1, h2⟩ := List.mem_filter.1 hx
  have hx8 := List.mem_range.1 h1
  refine ⟨x, by rw [ones8]; exact e.symm, hx8, ?_⟩
  rw [Int.toNat_natCast, rowN_dig _ hx8] at h2
  cases e2 : bP (Q x)
  · rw [e2] at h2; simp at h2
  · exact bP_iff.1 e2
theorem ones8_has {Q : Nat → Prop} {x : Nat} (hx : x < 8) (hq : Q x) : ∃ i, i < (onesTo ((rowN Q : Nat) : Int) 62).length ∧ (onesTo ((rowN Q : Nat) : Int) 62).getD i 0 = (x : Int) := by
  have hm : (x : Int) ∈ onesTo ((rowN Q : Nat) : Int) 62 := by
    rw [ones8]
    unfold onesTo
    refine List.mem_map.2 ⟨x, List.mem_filter.2 ⟨List.mem_range.2 hx, ?_⟩, rfl⟩
    rw [Int.toNat_natCast, rowN_dig _ hx, bP_yes hq]; rfl
  obtain ⟨i, hi, e⟩ := List.getElem_of_mem hm
  exact ⟨i, hi, by rw [List.getD_eq_getElem?_getD, List.getElem?_eq_getElem hi]; simpa using e⟩
theorem ones8_len (Q : Nat → Prop) : (onesTo ((rowN Q : Nat) : Int) 62).length ≤ 8 := by rw [ones8]; exact onesTo_len _ _

set_option maxRecDepth 100000 in
set_option maxHeartbeats 1000000 in
theorem commonCompany_any (T : Nat → Nat → Prop) (Q : Nat → Prop) (w : World) :
    Calls Try.prog 76 #[arrV (matZ T), .int .i64 ((rowN Q : Nat) : Int)] w fun e w' => e = .returned (.int .i64 ((rowN (fun b => ∀ a, a < 8 → Q a → T a b) : Nat) : Int)) ∧ Below w.heap.size w w' := by
  obtain ⟨L, hL_⟩ : ∃ L, onesTo ((rowN Q : Nat) : Int) 62 = L := ⟨_, rfl⟩
  have HLG : Hid (∀ i, i < L.length → ∃ x : Nat, L.getD i 0 = (x : Int) ∧ x < 8 ∧ Q x) := fun i hi => by rw [← hL_] at hi ⊢; exact ones8_get hi
  have HLH : Hid (∀ x : Nat, x < 8 → Q x → ∃ i, i < L.length ∧ L.getD i 0 = (x : Int)) := fun x hx hq => by rw [← hL_]; exact ones8_has hx hq
  have hL8 : L.length ≤ 8 := by rw [← hL_]; exact ones8_len Q
  have HMO : Hid (∀ w, Calls Try.prog 77 #[.int .i64 ((rowN Q : Nat) : Int)] w fun e w' => ∃ u, e = .returned u ∧ Owns w' w.heap.size u L ∧ Below w.heap.size w w') := fun w => by
    have := membersOf_any ((rowN Q : Nat) : Int) w (by omega) (by have := rowN_lt Q; omega)
    rwa [hL_] at this
  have hrc : Hid (∀ w, Calls Try.prog 75 #[.int .i64 8] w fun e w' => e = .returned (.int .i64 256) ∧ w = w') := fun w => by
    go_enter Try.func75, Try.ntmps75
    go_wp2
    go_ret
    exact ⟨rfl, rfl⟩
  have H0 : Hid (rowN (fun b => ∀ i, i < 0 → T (L.getD i 0).toNat b) = 255) := by
    unfold Hid
    rw [rowN_congr (Q := fun _ => True) fun j _ => ⟨fun _ => trivial, fun _ i hi => by omega⟩, rowN_all]
  have HEND : Hid (rowN (fun b => ∀ i, i < L.length → T (L.getD i 0).toNat b) = rowN (fun b => ∀ a, a < 8 → Q a → T a b)) := by
    unfold Hid
    refine rowN_congr fun j _ => ⟨fun h a ha hq => ?_, fun h i hi => ?_⟩
    · obtain ⟨i, hi, e⟩ := HLH.out a ha hq
      have := h i hi
      rwa [e, Int.toNat_natCast] at this
    · obtain ⟨x, e, hx, hq⟩ := HLG.out i hi
      rw [e, Int.toNat_natCast]
      exact h x hx hq
  have a1 := Arr8.here w (matZ T) 68
  have hbl : Hid (Below w.heap.size w (w.alloc (.cells (arrC (matZ T)) 68))) := by unfold Hid; go_grown
  unfold arrV
  unfold arrC at a1 hbl
  have A1 := Lib.hid a1
  clear a1 hL_
  have HRW := Lib.hid (fun a => rfl (a := matZ T a))
  generalize ((rowN Q : Nat) : Int) = S at *
  clear HRW
  go_enter Try.func76, Try.ntmps76
  go_wp2_with ((go_at_call 75; (with_reducible refine (hrc.out _).mono ?_); rintro e w' ⟨rfl, rfl⟩))
  refine (HMO.out _).mono ?_
  rintro e w2 ⟨u, rfl, ou, hb⟩
  have A2 := Lib.hid (arr8At hb A1.out)
  have hL2 := chain (B := w.heap.size) (a := w) hbl.out (Nat.le_refl _) hb
  have hrd := Lib.hid ou.reads
  obtain ⟨ua, uc, rfl, _, _⟩ := ou.reads
  have HC : Hid (∀ i, i < L.length → ∃ b off, ua = some ⟨b, off, none⟩ ∧ w2.cell? ⟨b, off + i, none⟩ = some (.int .i64 (L.getD i 0))) := fun i hi => hrd.out.cellR hi
  clear hb ou A1 hbl hrd
  generalize hn : L.length = n at *
  clear hn
  go_wp2_with fail
  go_loop [5, 13] (fun s c => ∃ k : Nat, k ≤ n ∧ c = .int .i64 (k : Int) ∧ s = .int .i64 ((rowN (fun b => ∀ i, i < k → T (L.getD i 0).toNat b) : Nat) : Int)) (fun _ c => n - (intOf c).toNat)
  case atStart => exact ⟨0, Nat.zero_le _, rfl, by rw [H0.out]; rfl⟩
  case round =>
    obtain ⟨k, hk, rfl, rfl⟩ := hrel
    by_cases hlt : k < n
    · obtain ⟨b, off, rfl, hc⟩ := HC.out k hlt
      obtain ⟨X, hX, hX8, hq⟩ := HLG.out k hlt
      rw [hX] at hc
      have hi1 : (k : Int) < (n : Int) := by omega
      have hi0 : (0 : Int) ≤ (k : Int) := by omega
      have hX0 : (0 : Int) ≤ (X : Int) := by omega
      have hX1 : (X : Int) < 8 := by omega
      have hca := (A2.out.1 X hX8).1
      obtain ⟨V, hV⟩ : ∃ V, bits .and .i64 ((rowN (fun b => ∀ i, i < k → T (L.getD i 0).toNat b) : Nat) : Int) (matZ T X) = V := ⟨_, rfl⟩
      have HV : Hid (V = ((rowN (fun b => ∀ i, i < k + 1 → T (L.getD i 0).toNat b) : Nat) : Int)) := by
        rw [Hid, ← hV]
        unfold matZ
        rw [i64_and _ _ (by have := rowN_lt (fun b => ∀ i, i < k → T (L.getD i 0).toNat b); omega) (by have := rowN_lt (T X); omega), rowN_and]
        rw [rowN_congr fun j _ => (show ((∀ i, i < k → T (L.getD i 0).toNat j) ∧ T X j) ↔ ∀ i, i < k + 1 → T (L.getD i 0).toNat j from ⟨fun h i hi => by
          rcases Nat.lt_or_ge i k with h2 | h2
          · exact h.1 i h2
          · have e : i = k := by omega
            subst e; rw [hX, Int.toNat_natCast]; exact h.2, fun h => ⟨fun i hi => h i (by omega), by have := h k (by omega); rwa [hX, Int.toNat_natCast] at this⟩⟩)]
      generalize ((rowN (fun b => ∀ i, i < k → T (L.getD i 0).toNat b) : Nat) : Int) = CS at *
      generalize matZ T X = TX at *
      clear hX
      go_wp2_with fail
      go_round
      case rel => exact ⟨k + 1, by omega, by go_num, by rw [HV.out]⟩
      case measure => simp [intOf]; omega
    · have e : k = n := by omega
      subst e
      have hge : ¬ (k : Int) < (k : Int) := by omega
      rw [HEND.out]
      obtain ⟨CS, hS⟩ : ∃ CS, ((rowN (fun b => ∀ a, a < 8 → Q a → T a b) : Nat) : Int) = CS := ⟨_, rfl⟩
      have HS := Lib.hid hS
      rw [hS]
      clear hS
      go_wp2_with fail
      go_ret
      exact ⟨by rw [HS.out]; rfl, hL2⟩

/-- does a set go together -/
noncomputable def goB (T : Nat → Nat → Prop) (Q : Nat → Prop) : Bool := bP (∀ a b, a < 8 → b < 8 → Q a → Q b → T a b)
set_option maxRecDepth 100000 in
theorem goTogether_any (T : Nat → Nat → Prop) (Q : Nat → Prop) (w : World) :
    Calls Try.prog 70 #[arrV (matZ T), .int .i64 ((rowN Q : Nat) : Int)] w fun e w' => e = .returned (.bool (goB T Q)) ∧ Below w.heap.size w w' := by
  have HCC := Lib.hid (fun w => commonCompany_any T Q w)
  have HAN : Hid (bits .andNot .i64 ((rowN Q : Nat) : Int) ((rowN (fun b => ∀ a, a < 8 → Q a → T a b) : Nat) : Int) = ((rowN Q &&& (2 ^ 63 - 1 - rowN (fun b => ∀ a, a < 8 → Q a → T a b)) : Nat) : Int)) :=
    i64_andNot _ _ (by have := rowN_lt Q; omega) (by have := rowN_lt (fun b => ∀ a, a < 8 → Q a → T a b); omega)
  have HB : Hid (goB T Q = (((rowN Q &&& (2 ^ 63 - 1 - rowN (fun b => ∀ a, a < 8 → Q a → T a b)) : Nat) : Int) == 0)) := by
    unfold Hid goB
    have h1 := rowN_sub Q (fun b => ∀ a, a < 8 → Q a → T a b)
    by_cases h : rowN Q &&& (2 ^ 63 - 1 - rowN (fun b => ∀ a, a < 8 → Q a → T a b)) = 0
    · rw [h, bP_yes fun a b ha hb hqa hqb => h1.1 h b hb hqb a ha hqa]; rfl
    · rw [bP_no fun hh => h (h1.2 fun j hj hq a ha hqa => hh a j ha hj hqa hq)]
      have : (((rowN Q &&& (2 ^ 63 - 1 - rowN (fun b => ∀ a, a < 8 → Q a → T a b)) : Nat) : Int) == 0) = false := by simp only [beq_eq_false_iff_ne, ne_eq]; omega
      rw [this]
  unfold arrV at HCC ⊢
  have han := HAN.out
  have a1 := Arr8.here w (matZ T) 68
  unfold arrC at a1
  obtain ⟨q0, q1, q2, q3, q4, q5, q6, q7⟩ := a1.cells
  clear HAN a1
  generalize rowN Q &&& (2 ^ 63 - 1 - rowN (fun b => ∀ a, a < 8 → Q a → T a b)) = R at *
  generalize ((rowN (fun b => ∀ a, a < 8 → Q a → T a b) : Nat) : Int) = CS at *
  generalize ((rowN Q : Nat) : Int) = S at *
  generalize goB T Q = gb at *
  go_enter Try.func70, Try.ntmps70
  go_wp2_with fail
  refine (HCC.out _).mono ?_
  rintro e w2 ⟨rfl, hb⟩
  have hL := chain (B := w.heap.size) (a := w) (by go_grown) (Nat.le_refl _) hb
  clear hb
  go_wp2_with fail
  go_ret
  exact ⟨by rw [HB.out]; rfl, hL⟩

end Go.Proofs.Ytnlcnbkookmfaaa
