/- All selectors, in order: plain mathematics. -/
import Derived.Test.YtkojdaafgbfioaaDoorBrM
import Derived.Test.YtkojdaafgbfioaaDoorTtM
namespace Go.Proofs.YtkojdaafgbfioaaDoor
open Go.RowKit
set_option linter.unusedVariables false

/-- the texts of two lists behind each other -/
def joinT (l o : List ByteArray) : List ByteArray := l.flatMap fun s => o.map fun t => s ++ t
theorem joinT_take {l o : List ByteArray} {k : Nat} (h : k < l.length) : joinT (l.take (k + 1)) o = joinT (l.take k) o ++ o.map (fun t => l.getD k ByteArray.empty ++ t) := by
  unfold joinT
  rw [List.take_succ_eq_append_getElem h, List.flatMap_append]
  simp [List.getD_eq_getElem?_getD, h]
theorem joinT_len (l o : List ByteArray) : (joinT l o).length = l.length * o.length := by
  induction l with
  | nil => simp [joinT]
  | cons a l ih =>
    have : joinT (a :: l) o = o.map (fun t => a ++ t) ++ joinT l o := rfl
    rw [this, List.length_append, List.length_map, ih, List.length_cons, Nat.succ_mul, Nat.add_comm]
theorem joinT_mem {l o : List ByteArray} {u : ByteArray} (h : u ∈ joinT l o) : ∃ s ∈ l, ∃ t ∈ o, u = s ++ t := by
  unfold joinT at h
  obtain ⟨s, hs, h⟩ := List.mem_flatMap.1 h
  obtain ⟨t, ht, rfl⟩ := List.mem_map.1 h
  exact ⟨s, hs, t, ht, rfl⟩
theorem byteAt_left {a b : ByteArray} {k : Nat} (h : k < a.size) : byteAt (a ++ b) k = byteAt a k := by
  have hz : (a ++ b).size = a.size + b.size := ByteArray.size_append
  rw [byteAt_eq _ _ (by omega), byteAt_eq _ _ h, ByteArray.getElem_append_left h]
theorem byteAt_right {a b : ByteArray} {k : Nat} (h : a.size ≤ k) : byteAt (a ++ b) k = byteAt b (k - a.size) := by
  have hz : (a ++ b).size = a.size + b.size := ByteArray.size_append
  rcases Nat.lt_or_ge k (a.size + b.size) with h2 | h2
  · rw [byteAt_eq _ _ (by omega), byteAt_eq _ _ (by omega), ByteArray.getElem_append_right (by omega)]
  · rw [byteAt_out (by omega), byteAt_out (by omega)]

/-- the text of a digit -/
def digT (i : Int) : ByteArray := strZ [48 + i]
theorem digT_size (i : Int) : (digT i).size = 1 := rfl
theorem digT_byte {i : Int} (h0 : 0 ≤ i) (h1 : i < 5) : byteAt (digT i) 0 = 48 + i := by
  have : (digT i) = ⟨[u8 (48 + i)].toArray⟩ := rfl
  rw [this, byteAt_mk _ 0 (by simp)]
  exact u8_nat (by omega) (by omega)
/-- a selector put together -/
theorem sel_made {m L : Nat} {a b : ByteArray} {i : Nat} (hi : i < 5) (hL : dig L i = 1) (ha : SelU m (L - 2 ^ i) a) (hb : SelU m (L - 2 ^ i) b) : SelU (m + 1) L (digT (i : Int) ++ a ++ b) := by
  have hz1 : (digT (i : Int) ++ a).size = 1 + lenT m := by rw [ByteArray.size_append, digT_size, ha.1]
  have hz : (digT (i : Int) ++ a ++ b).size = lenT (m + 1) := by rw [ByteArray.size_append, hz1, hb.1, lenT_succ]; omega
  have h0 : byteAt (digT (i : Int) ++ a ++ b) 0 = 48 + (i : Int) := by
    rw [byteAt_left (by omega), byteAt_left (by rw [digT_size]; omega), digT_byte (by omega) (by omega)]
  have hd : dgt (digT (i : Int) ++ a ++ b) 0 = i := by unfold dgt; omega
  have hlo : loU m (digT (i : Int) ++ a ++ b) = a := by
    refine bytes_ext (by rw [lo_size hz, ha.1]) fun k hk => ?_
    rw [lo_size hz] at hk
    rw [lenT_succ] at hz
    unfold loU
    rw [byteAt_extract _ _ _ _ (by omega) (by omega), byteAt_left (by omega), byteAt_right (by rw [digT_size]; omega), digT_size]
    congr 1; omega
  have hhi : hiU m (digT (i : Int) ++ a ++ b) = b := by
    refine bytes_ext (by rw [hi_size hz, hb.1]) fun k hk => ?_
    rw [hi_size hz] at hk
    rw [lenT_succ] at hz
    unfold hiU
    rw [byteAt_extract _ _ _ _ (by omega) (by omega), byteAt_right (by omega), hz1]
    congr 1; omega
  refine ⟨hz, ?_⟩
  rw [sel_split hz, hd, hlo, hhi, ha.2, hb.2, h0, decide_eq_true ⟨by omega, hL⟩]; rfl

/-- all selectors for the inputs of a set -/
def selL : Nat → Nat → List ByteArray
  | 0, _ => [⟨#[46]⟩]
  | m + 1, L => (onesTo (L : Int) 62).flatMap fun i => joinT (joinT [digT i] (selL m (L - 2 ^ i.toNat))) (selL m (L - 2 ^ i.toNat))
def stepL (m L : Nat) (i : Int) : List ByteArray := joinT (joinT [digT i] (selL m (L - 2 ^ i.toNat))) (selL m (L - 2 ^ i.toNat))
theorem selL_succ (m L : Nat) : selL (m + 1) L = (onesTo (L : Int) 62).flatMap (stepL m L) := rfl
theorem ones_mem {v : Int} {k : Nat} {x : Int} (h : x ∈ onesTo v k) : ∃ j : Nat, j < k ∧ x = (j : Int) ∧ dig v.toNat j = 1 := by
  unfold onesTo at h
  obtain ⟨j, hj, rfl⟩ := List.mem_map.1 h
  obtain ⟨h1, h2⟩ := List.mem_filter.1 hj
  exact ⟨j, List.mem_range.1 h1, rfl, by simpa using h2⟩
theorem ones_small {L : Nat} (hL : L < 32) {x : Int} (h : x ∈ onesTo (L : Int) 62) : ∃ j : Nat, j < 5 ∧ x = (j : Int) ∧ dig L j = 1 := by
  obtain ⟨j, _, rfl, hd⟩ := ones_mem h
  rw [Int.toNat_natCast] at hd
  refine ⟨j, ?_, rfl, hd⟩
  rcases Nat.lt_or_ge j 5 with h | h
  · exact h
  · unfold dig at hd
    rw [Nat.div_eq_of_lt (Nat.lt_of_lt_of_le hL (Nat.pow_le_pow_right (n := 2) (by decide) h))] at hd; omega
theorem selL_sel (m : Nat) : ∀ {L : Nat}, L < 32 → pcN L = m → ∀ u ∈ selL m L, SelU m L u := by
  induction m with
  | zero =>
    intro L hL hp u hu
    have : u = ⟨#[46]⟩ := by simpa [selL] using hu
    subst this
    exact ⟨rfl, by rw [selAt_zero]; rfl⟩
  | succ m ih =>
    intro L hL hp u hu
    rw [selL_succ] at hu
    obtain ⟨x, hx, hu⟩ := List.mem_flatMap.1 hu
    obtain ⟨j, hj, rfl, hd⟩ := ones_small hL hx
    have hpc := pc_less hL hj hd
    have hl := (sub_dig hL hj hd).1
    unfold stepL at hu
    rw [Int.toNat_natCast] at hu
    obtain ⟨s, hs, b, hb, rfl⟩ := joinT_mem hu
    obtain ⟨t, ht, a, ha, rfl⟩ := joinT_mem hs
    have : t = digT (j : Int) := by simpa using ht
    subst this
    exact sel_made hj hd (ih hl (by omega) a ha) (ih hl (by omega) b hb)
theorem ones_count : ∀ L : Fin 32, (onesTo (L.val : Int) 62).length = pcN L.val := by decide +kernel
/-- how many selectors there are -/
def cntS : Nat → Nat
  | 0 => 1
  | m + 1 => (m + 1) * (cntS m * cntS m)
theorem stepL_len (m L : Nat) (i : Int) : (stepL m L i).length = (selL m (L - 2 ^ i.toNat)).length * (selL m (L - 2 ^ i.toNat)).length := by
  unfold stepL; rw [joinT_len, joinT_len]; simp
theorem flat_same {α β : Type} {f : α → List β} {c : Nat} : ∀ (l : List α), (∀ x ∈ l, (f x).length = c) → (l.flatMap f).length = l.length * c
  | [], _ => by simp
  | a :: l, h => by
    rw [List.flatMap_cons, List.length_append, h a List.mem_cons_self, flat_same l fun x hx => h x (List.mem_cons_of_mem _ hx), List.length_cons, Nat.succ_mul, Nat.add_comm]
theorem selL_len (m : Nat) : ∀ {L : Nat}, L < 32 → pcN L = m → (selL m L).length = cntS m := by
  induction m with
  | zero => intro L _ _; rfl
  | succ m ih =>
    intro L hL hp
    rw [selL_succ, flat_same (c := cntS m * cntS m), ones_count ⟨L, hL⟩]
    · show pcN L * _ = _
      rw [hp]; rfl
    · intro x hx
      obtain ⟨j, hj, rfl, hd⟩ := ones_small hL hx
      have hpc := pc_less hL hj hd
      rw [stepL_len, Int.toNat_natCast, ih (sub_dig hL hj hd).1 (by omega)]
theorem cntS_le {m : Nat} (h : m ≤ 4) : cntS m ≤ 576 := by
  rcases (show m = 0 ∨ m = 1 ∨ m = 2 ∨ m = 3 ∨ m = 4 by omega) with rfl | rfl | rfl | rfl | rfl <;> decide
theorem cntS_le3 {m : Nat} (h : m ≤ 3) : cntS m ≤ 12 := by
  rcases (show m = 0 ∨ m = 1 ∨ m = 2 ∨ m = 3 by omega) with rfl | rfl | rfl | rfl <;> decide
theorem ones_five {L : Nat} (hL : L < 32) : onesTo (L : Int) 5 = onesTo (L : Int) 62 := by
  refine onesTo_rest (by omega) (by omega) ?_
  rw [div_nat (by omega), Int.toNat_natCast, Nat.div_eq_of_lt hL]; rfl

end Go.Proofs.YtkojdaafgbfioaaDoor
