/- The branches of a selector that rows go over: plain mathematics. -/
import Derived.Test.YtkojdaafgbfioaaDoorSeM
import Derived.Test.YtkojdaafgbfioaaDoorSetsM
namespace Go.Proofs.YtkojdaafgbfioaaDoor
open Go.RowKit
set_option linter.unusedVariables false

/-- the rows in which an input is 1 -/
def maskN (d : Nat) : Nat := build (fun j => dig j d) 32
theorem maskN_lt (d : Nat) : maskN d < 4294967296 := build_lt _ 32
theorem maskN_bit (d k : Nat) : (maskN d).testBit k = (decide (k < 32) && k.testBit d) := by
  unfold maskN
  rw [build_testBit, dig_mod, dig_testBit]
  cases k.testBit d <;> simp
/-- the rows of a set in which an input is 1, and 0 -/
def hiS (S d : Nat) : Nat := S &&& maskN d
def loS (S d : Nat) : Nat := S &&& (2 ^ 63 - 1 - maskN d)
theorem bit_out {S k : Nat} (hS : S < 4294967296) (hk : 32 ≤ k) : S.testBit k = false :=
  Nat.testBit_lt_two_pow (Nat.lt_of_lt_of_le hS (Nat.pow_le_pow_right (n := 2) (by decide) hk))
theorem hiS_bit {S : Nat} (hS : S < 4294967296) (d k : Nat) : (hiS S d).testBit k = (S.testBit k && k.testBit d) := by
  unfold hiS
  rw [Nat.testBit_and, maskN_bit]
  rcases Nat.lt_or_ge k 32 with h | h
  · rw [decide_eq_true h]; simp
  · rw [bit_out hS h]; simp
theorem loS_bit {S : Nat} (hS : S < 4294967296) (d k : Nat) : (loS S d).testBit k = (S.testBit k && !k.testBit d) := by
  unfold loS
  have hm := maskN_lt d
  rw [Nat.testBit_and, show 2 ^ 63 - 1 - maskN d = 2 ^ 63 - (maskN d + 1) by omega, Nat.testBit_two_pow_sub_succ (by omega), maskN_bit]
  rcases Nat.lt_or_ge k 32 with h | h
  · rw [decide_eq_true h, decide_eq_true (show k < 63 by omega)]; simp
  · rw [bit_out hS h]; simp
theorem hiS_lt {S : Nat} (hS : S < 4294967296) (d : Nat) : hiS S d < 4294967296 := Nat.lt_of_le_of_lt Nat.and_le_left hS
theorem loS_lt {S : Nat} (hS : S < 4294967296) (d : Nat) : loS S d < 4294967296 := Nat.lt_of_le_of_lt Nat.and_le_left hS
theorem ne_zero_iff (S : Nat) : S ≠ 0 ↔ ∃ k, S.testBit k = true := by
  constructor
  · intro h; exact Nat.exists_testBit_of_ne_zero h
  · rintro ⟨k, hk⟩ rfl; simp at hk

/-- a branch: from a place to a place, the input and the kind of its contact, the rows that go over it -/
structure Br where
  fr : Nat
  to : Nat
  inp : Nat
  kd : Nat
  rs : Nat
/-- the branches that the rows of a set go on by, one side of a digit -/
def sideU (f : Nat → List Br) (p q d kd S : Nat) : List Br := if S = 0 then [] else ⟨p, q, d, kd, S⟩ :: f S
/-- the branches of a selector whose text begins at a place, that the rows of a set go over -/
def brU : Nat → ByteArray → Nat → Nat → List Br
  | 0, _, _, _ => []
  | m + 1, u, p, S => sideU (brU m (loU m u) (p + 1)) p (p + 1) (dgt u 0) 1 (loS S (dgt u 0)) ++ sideU (brU m (hiU m u) (p + 1 + lenT m)) p (p + 1 + lenT m) (dgt u 0) 0 (hiS S (dgt u 0))
theorem brU_succ (m : Nat) (u : ByteArray) (p S : Nat) : brU (m + 1) u p S = sideU (brU m (loU m u) (p + 1)) p (p + 1) (dgt u 0) 1 (loS S (dgt u 0)) ++ sideU (brU m (hiU m u) (p + 1 + lenT m)) p (p + 1 + lenT m) (dgt u 0) 0 (hiS S (dgt u 0)) := rfl
theorem sideU_some {f : Nat → List Br} {p q d kd S : Nat} (h : S ≠ 0) : sideU f p q d kd S = ⟨p, q, d, kd, S⟩ :: f S := if_neg h
theorem sideU_none {f : Nat → List Br} {p q d kd S : Nat} (h : S = 0) : sideU f p q d kd S = [] := if_pos h
theorem sideU_mem {f : Nat → List Br} {p q d kd S : Nat} {b : Br} (h : b ∈ sideU f p q d kd S) : S ≠ 0 ∧ (b = ⟨p, q, d, kd, S⟩ ∨ b ∈ f S) := by
  by_cases h0 : S = 0
  · rw [sideU_none h0] at h; simp at h
  · rw [sideU_some h0] at h; exact ⟨h0, by simpa using h⟩
theorem brU_len (m : Nat) : ∀ (u : ByteArray) (p S : Nat), (brU m u p S).length + 1 ≤ lenT m := by
  induction m with
  | zero => intro u p S; exact Nat.le_refl _
  | succ m ih =>
    intro u p S
    rw [brU_succ, List.length_append, lenT_succ]
    have h1 : ∀ v q k T, (sideU (brU m v q) p q (dgt u 0) k T).length ≤ lenT m := fun v q k T => by
      unfold sideU
      split
      · simp
      · have := ih v q T
        simp only [List.length_cons]; omega
    have a1 := h1 (loU m u) (p + 1) 1 (loS S (dgt u 0))
    have a2 := h1 (hiU m u) (p + 1 + lenT m) 0 (hiS S (dgt u 0))
    omega
/-- what holds of each branch -/
theorem brU_mem (m : Nat) : ∀ {L : Nat} {u : ByteArray} {p S : Nat}, SelU m L u → S < 4294967296 → ∀ b ∈ brU m u p S, p ≤ b.fr ∧ b.fr < b.to ∧ b.to < p + lenT m ∧ b.inp < 5 ∧ b.kd < 2 ∧ b.rs < 4294967296 := by
  induction m with
  | zero => intro L u p S _ _ b h; simp [brU] at h
  | succ m ih =>
    intro L u p S hu hS b h
    obtain ⟨⟨_, _, hd, _⟩, _, hlo, hhi⟩ := hu.fork
    have hp := lenT_pos m
    rw [lenT_succ]
    rw [brU_succ, List.mem_append] at h
    rcases h with h | h
    · obtain ⟨_, rfl | h⟩ := sideU_mem h
      · exact ⟨Nat.le_refl _, by show p < p + 1; omega, by show p + 1 < _; omega, hd, by show 1 < 2; omega, loS_lt hS _⟩
      · have := ih hlo (loS_lt hS _) b h
        exact ⟨by omega, by omega, by omega, this.2.2.2⟩
    · obtain ⟨_, rfl | h⟩ := sideU_mem h
      · exact ⟨Nat.le_refl _, by show p < p + 1 + lenT m; omega, by show p + 1 + lenT m < _; omega, hd, by show 0 < 2; omega, hiS_lt hS _⟩
      · have := ih hhi (hiS_lt hS _) b h
        exact ⟨by omega, by omega, by omega, this.2.2.2⟩

/-- a set has just the rows below 2^n that agree with a row in all inputs that are not left -/
def FullAt (S L row n : Nat) : Prop := ∀ k, S.testBit k = decide (k < 2 ^ n ∧ ∀ i, i < n → dig L i = 0 → dig k i = dig row i)
theorem pow5' {n : Nat} (h : n ≤ 5) : 2 ^ n ≤ 32 := Nat.pow_le_pow_right (n := 2) (by decide) h
/-- the digits of a set without one member -/
theorem sub_dig {L d : Nat} (hL : L < 32) (hd : d < 5) (h : dig L d = 1) : L - 2 ^ d < 32 ∧ dig (L - 2 ^ d) d = 0 ∧ ∀ i, i < 5 → i ≠ d → dig (L - 2 ^ d) i = dig L i := by
  have key : ∀ L : Fin 32, ∀ d : Fin 5, dig L.val d.val = 1 → L.val - 2 ^ d.val < 32 ∧ dig (L.val - 2 ^ d.val) d.val = 0 ∧ ∀ i : Fin 5, i.val ≠ d.val → dig (L.val - 2 ^ d.val) i.val = dig L.val i.val := by decide +kernel
  have := key ⟨L, hL⟩ ⟨d, hd⟩ h
  exact ⟨this.1, this.2.1, fun i hi hne => this.2.2 ⟨i, hi⟩ hne⟩
theorem or_dig (row d i : Nat) : dig (row ||| 2 ^ d) i = if i = d then 1 else dig row i := by
  have : (2 ^ d).testBit i = decide (d = i) := Nat.testBit_two_pow
  rw [dig_testBit, dig_testBit, Nat.testBit_or, this]
  by_cases h : i = d
  · subst h; simp
  · rw [if_neg h, decide_eq_false (fun e => h e.symm)]; simp
theorem tb_dig (k d : Nat) : k.testBit d = decide (dig k d = 1) := by rw [dig_testBit]; cases k.testBit d <;> simp
theorem FullAt.lo {S L row n d : Nat} (h : FullAt S L row n) (hS : S < 4294967296) (n5 : n ≤ 5) (hL : L < 32) (hd : d < 5) (hdn : d < n) (hb : dig L d = 1) (hr : dig row d = 0) : FullAt (loS S d) (L - 2 ^ d) row n := by
  intro k
  obtain ⟨_, h1, h2⟩ := sub_dig hL hd hb
  rw [loS_bit hS, h k, tb_dig, Bool.eq_iff_iff]
  simp only [Bool.and_eq_true, Bool.not_eq_true', decide_eq_true_eq, decide_eq_false_iff_not]
  have hk2 := dig_lt k d
  constructor
  · rintro ⟨⟨a, b⟩, c⟩
    refine ⟨a, fun i hi hz => ?_⟩
    by_cases e : i = d
    · subst e; omega
    · exact b i hi (by rw [← h2 i (by omega) e]; exact hz)
  · rintro ⟨a, b⟩
    refine ⟨⟨a, fun i hi hz => ?_⟩, ?_⟩
    · by_cases e : i = d
      · subst e; omega
      · exact b i hi (by rw [h2 i (by omega) e]; exact hz)
    · have := b d hdn h1; omega
theorem FullAt.hi {S L row n d : Nat} (h : FullAt S L row n) (hS : S < 4294967296) (n5 : n ≤ 5) (hL : L < 32) (hd : d < 5) (hdn : d < n) (hb : dig L d = 1) : FullAt (hiS S d) (L - 2 ^ d) (row ||| 2 ^ d) n := by
  intro k
  obtain ⟨_, h1, h2⟩ := sub_dig hL hd hb
  rw [hiS_bit hS, h k, tb_dig, Bool.eq_iff_iff]
  simp only [Bool.and_eq_true, decide_eq_true_eq]
  constructor
  · rintro ⟨⟨a, b⟩, c⟩
    refine ⟨a, fun i hi hz => ?_⟩
    rw [or_dig]
    by_cases e : i = d
    · subst e; rw [if_pos rfl]; exact c
    · rw [if_neg e]; exact b i hi (by rw [← h2 i (by omega) e]; exact hz)
  · rintro ⟨a, b⟩
    refine ⟨⟨a, fun i hi hz => ?_⟩, ?_⟩
    · by_cases e : i = d
      · subst e; omega
      · have := b i hi (by rw [h2 i (by omega) e]; exact hz)
        rw [or_dig, if_neg e] at this; exact this
    · have := b d hdn h1
      rw [or_dig, if_pos rfl] at this; exact this
theorem FullAt.self {S L row n : Nat} (h : FullAt S L row n) (hr : row < 2 ^ n) : S ≠ 0 :=
  (ne_zero_iff S).2 ⟨row, by rw [h row]; exact decide_eq_true ⟨hr, fun _ _ _ => rfl⟩⟩
theorem one_member {S row m : Nat} (h : ∀ k, S.testBit k = decide (k = row)) (hm : row < m) : onesTo (S : Int) m = [(row : Int)] := by
  have hd : ∀ k, dig S k = if k = row then 1 else 0 := fun k => by
    rw [dig_testBit, h k]
    by_cases e : k = row
    · rw [if_pos e, decide_eq_true e]; rfl
    · rw [if_neg e, decide_eq_false e]; rfl
  have low : ∀ k, k ≤ row → onesTo (S : Int) k = [] := by
    intro k
    induction k with
    | zero => intro _; rfl
    | succ k ih =>
      intro hk
      rw [onesTo_miss _ _ (by rw [Int.toNat_natCast, hd k, if_neg (by omega)]; decide)]
      exact ih (by omega)
  have high : ∀ j, onesTo (S : Int) (row + 1 + j) = [(row : Int)] := by
    intro j
    induction j with
    | zero =>
      show onesTo (S : Int) (row + 1) = _
      rw [onesTo_hit _ _ (by rw [Int.toNat_natCast, hd row, if_pos rfl]), low row (Nat.le_refl _)]; rfl
    | succ j ih =>
      rw [show row + 1 + (j + 1) = (row + 1 + j) + 1 by omega, onesTo_miss _ _ (by rw [Int.toNat_natCast, hd, if_neg (by omega)]; decide)]
      exact ih
  have := high (m - (row + 1))
  rwa [show row + 1 + (m - (row + 1)) = m by omega] at this
theorem FullAt.one {S row n : Nat} (h : FullAt S 0 row n) (hr : row < 2 ^ n) (n5 : n ≤ 5) : ∀ k, S.testBit k = decide (k = row) := by
  intro k
  rw [h k]
  apply decide_eq_decide.2
  constructor
  · rintro ⟨a, b⟩
    exact dig_ext a hr fun j hj => b j hj (by unfold dig; simp)
  · rintro rfl
    exact ⟨hr, fun _ _ _ => rfl⟩
/-- the rows at the ends of branches -/
def endRows (W : ByteArray) (b : Br) : List Int := if byteAt W b.to = 46 then onesTo (b.rs : Int) 62 else []
def Under (W u : ByteArray) (p : Nat) : Prop := ∀ j, j < u.size → byteAt W (p + j) = byteAt u j
theorem Under.lo {W u : ByteArray} {p m : Nat} (h : Under W u p) (hu : u.size = lenT (m + 1)) : Under W (loU m u) (p + 1) := by
  intro j hj
  rw [lo_size hu] at hj
  rw [lenT_succ] at hu
  unfold loU
  rw [byteAt_extract _ _ _ _ (by omega) (by omega), ← h (1 + j) (by omega), Nat.add_assoc]
theorem Under.hi {W u : ByteArray} {p m : Nat} (h : Under W u p) (hu : u.size = lenT (m + 1)) : Under W (hiU m u) (p + 1 + lenT m) := by
  intro j hj
  rw [hi_size hu] at hj
  rw [lenT_succ] at hu
  unfold hiU
  rw [byteAt_extract _ _ _ _ (by omega) (by omega), ← h (1 + lenT m + j) (by omega)]
  congr 1; omega
theorem or_lt_pow {row d n : Nat} (h : row < 2 ^ n) (hd : d < n) : row ||| 2 ^ d < 2 ^ n := Nat.or_lt_two_pow h (Nat.pow_lt_pow_right (by decide) hd)
theorem ends_side (W : ByteArray) (n : Nat) (n5 : n ≤ 5) : ∀ (m : Nat) (L : Nat) (u : ByteArray) (p S row f d kd : Nat), SelU m L u → L < 2 ^ n → pcN L = m → Under W u p → row < 2 ^ n → (∀ i, i < n → dig L i = 1 → dig row i = 0) → S < 4294967296 → FullAt S L row n →
    (sideU (brU m u p) f p d kd S).flatMap (endRows W) = rowsU m u row := by
  intro m
  induction m with
  | zero =>
    intro L u p S row f d kd hu hL hp hW hr _ hS hF
    have hL32 : L < 32 := Nat.lt_of_lt_of_le hL (pow5' n5)
    have e := (pc_zero hL32).2 hp
    subst e
    rw [sideU_some (hF.self hr)]
    have hb : byteAt W p = 46 := by
      have := hW 0 (by rw [hu.1]; exact Nat.one_pos)
      rw [Nat.add_zero] at this
      rw [this, hu.leaf]; rfl
    have h32 := pow5' n5
    show endRows W ⟨f, p, d, kd, S⟩ ++ [] = [(row : Int)]
    unfold endRows
    rw [if_pos hb, List.append_nil]
    exact one_member (hF.one hr n5) (by omega)
  | succ m ih =>
    intro L u p S row f d kd hu hL hp hW hr hz hS hF
    have hL32 : L < 32 := Nat.lt_of_lt_of_le hL (pow5' n5)
    obtain ⟨⟨b0, b1, hd, _⟩, hbit, hlo, hhi⟩ := hu.fork
    rw [sideU_some (hF.self hr), List.flatMap_cons]
    have hb : byteAt W p ≠ 46 := by
      have := hW 0 (by rw [hu.1]; exact lenT_pos _)
      rw [Nat.add_zero] at this
      rw [this]; omega
    have hdn : dgt u 0 < n := by
      rcases Nat.lt_or_ge (dgt u 0) n with h | h
      · exact h
      · have : dig L (dgt u 0) = 0 := by
          unfold dig
          rw [Nat.div_eq_of_lt (Nat.lt_of_lt_of_le hL (Nat.pow_le_pow_right (by decide) h))]
        omega
    have hpc := pc_less hL32 hd hbit
    obtain ⟨_, hz1, hz2⟩ := sub_dig hL32 hd hbit
    have e0 : endRows W ⟨f, p, d, kd, S⟩ = [] := by unfold endRows; exact if_neg hb
    rw [e0, List.nil_append, brU_succ, List.flatMap_append]
    have hzz : ∀ r, (∀ i, i < n → i ≠ dgt u 0 → dig r i = dig row i) → ∀ i, i < n → dig (L - 2 ^ dgt u 0) i = 1 → dig r i = 0 := fun r hr2 i hi h1 => by
      by_cases e : i = dgt u 0
      · rw [e, hz1] at h1; omega
      · rw [hr2 i hi e]; exact hz i hi (by rw [← hz2 i (by omega) e]; exact h1)
    rw [ih (L - 2 ^ dgt u 0) (loU m u) (p + 1) (loS S (dgt u 0)) row p (dgt u 0) 1 hlo (Nat.lt_of_le_of_lt (Nat.sub_le _ _) hL) (by omega) (hW.lo hu.1) hr (hzz row fun _ _ _ => rfl) (loS_lt hS _) (hF.lo hS n5 hL32 hd hdn hbit (hz _ hdn hbit)),
      ih (L - 2 ^ dgt u 0) (hiU m u) (p + 1 + lenT m) (hiS S (dgt u 0)) (row ||| 2 ^ dgt u 0) p (dgt u 0) 0 hhi (Nat.lt_of_le_of_lt (Nat.sub_le _ _) hL) (by omega) (hW.hi hu.1) (or_lt_pow hr hdn) (hzz _ fun i _ e => by rw [or_dig, if_neg e]) (hiS_lt hS _) (hF.hi hS n5 hL32 hd hdn hbit)]
    rfl
/-- the rows of the ends of a whole selector -/
theorem ends_all {n : Nat} {W : ByteArray} (n1 : 1 ≤ n) (n5 : n ≤ 5) (hW : SelU n (2 ^ n - 1) W) : (brU n W 0 (2 ^ 2 ^ n - 1)).flatMap (endRows W) = rowsU n W 0 := by
  have h32 := pow5' n5
  have hpow := Nat.two_pow_pos n
  have hfull : FullAt (2 ^ 2 ^ n - 1) (2 ^ n - 1) 0 n := fun k => by
    rw [Nat.testBit_two_pow_sub_one]
    apply decide_eq_decide.2
    constructor
    · intro h
      refine ⟨h, fun i hi hz => ?_⟩
      rw [dig_full hi] at hz; omega
    · exact fun h => h.1
  have hS : 2 ^ 2 ^ n - 1 < 4294967296 := by
    have : 2 ^ 2 ^ n ≤ 2 ^ 32 := Nat.pow_le_pow_right (by decide) h32
    omega
  have hne : (2 ^ 2 ^ n - 1 : Nat) ≠ 0 := hfull.self (row := 0) hpow
  have hpc := pc_full ⟨n, by omega⟩
  have h := ends_side W n n5 n (2 ^ n - 1) W 0 (2 ^ 2 ^ n - 1) 0 0 0 0 hW (by omega) hpc (fun j _ => by rw [Nat.zero_add]) hpow (fun i _ _ => by unfold dig; simp) hS hfull
  rw [sideU_some hne, List.flatMap_cons] at h
  obtain ⟨m, rfl⟩ : ∃ m, n = m + 1 := ⟨n - 1, by omega⟩
  obtain ⟨⟨b0, b1, _, _⟩, _, _, _⟩ := hW.fork
  have e0 : endRows W ⟨0, 0, 0, 0, 2 ^ 2 ^ (m + 1) - 1⟩ = [] := by unfold endRows; exact if_neg (by show ¬ byteAt W 0 = 46; omega)
  rw [e0, List.nil_append] at h
  exact h

end Go.Proofs.YtkojdaafgbfioaaDoor
