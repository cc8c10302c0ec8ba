/- IsFull: the program's and the model's. -/
import Derived.Test.YtkdidplpnhokiaaTw
import Derived.Test.YtkdidplpnhokiaaPart
import Derived.Test.YtkdidplpnhokiaaOpp
namespace Go.Proofs.Ytkdidplpnhokiaa
open Go.RowKit
set_option linter.unusedVariables false

/-- the row with the other value for the input i -/
def flipF (i k : Int) : Int := bits .xor .i64 k (2 ^ i.toNat)
theorem two_wrapF {i : Nat} (h : i ≤ 4) : IntKind.i64.wrap (2 ^ i) = (2 : Int) ^ i := by
  have : ∀ i : Fin 5, IntKind.i64.wrap (2 ^ i.val) = (2 : Int) ^ i.val := by decide +kernel
  exact this ⟨i, by omega⟩
theorem flipF_fin : ∀ (n : Fin 6) (i : Fin 5) (k : Fin 32), i.val < n.val → k.val < 2 ^ n.val → 0 ≤ flipF (i.val : Int) (k.val : Int) ∧ flipF (i.val : Int) (k.val : Int) < ((2 ^ n.val : Nat) : Int) := by
  decide +kernel
theorem flipF_bd {N i k : Nat} (n5 : N ≤ 5) (in_ : i < N) (hk : k < 2 ^ N) : 0 ≤ flipF (i : Int) (k : Int) ∧ flipF (i : Int) (k : Int) < ((2 ^ N : Nat) : Int) := by
  have h32 : 2 ^ N ≤ 2 ^ 5 := Nat.pow_le_pow_right (by decide) n5
  exact flipF_fin ⟨N, by omega⟩ ⟨i, by omega⟩ ⟨k, by omega⟩ in_ hk
theorem partFlip_fin : ∀ (i : Fin 5) (k : Fin 32), (partRow (i.val : Int) 0 (k.val : Int) = (k.val : Int) ∧ partRow (i.val : Int) 1 (k.val : Int) = flipF (i.val : Int) (k.val : Int)) ∨ (partRow (i.val : Int) 0 (k.val : Int) = flipF (i.val : Int) (k.val : Int) ∧ partRow (i.val : Int) 1 (k.val : Int) = (k.val : Int)) := by
  decide +kernel
/-- is the lamp another one with the input i turned -/
def difF (v : Int) (i k : Nat) : Prop := digZ v (k : Int) ≠ digZ v (flipF (i : Int) (k : Int))
instance (v : Int) (i k : Nat) : Decidable (difF v i k) := by unfold difF; infer_instance
def fullB (N : Nat) (v : Int) : Bool := decide (∀ i, i < N → ∀ k, k < 2 ^ N → difF v i k)
theorem fullB_no {N : Nat} {v : Int} {i k : Nat} (hi : i < N) (hk : k < 2 ^ N) (h : ¬ difF v i k) : fullB N v = false := decide_eq_false fun hh => h (hh i hi k hk)

theorem digZ_dig (v k : Int) : digZ v k = ((dig v.toNat k.toNat : Nat) : Int) := rfl
/-- both parts of an input are opposite just if each row's value turns with it -/
theorem parts_full {N : Nat} {v : Int} {i : Nat} (n1 : 1 ≤ N) (n5 : N ≤ 5) (hi : i < N) : partVals (N : Int) v (i : Int) 0 = fullZ (N : Int) - partVals (N : Int) v (i : Int) 1 ↔ ∀ k, k < 2 ^ N → difF v i k := by
  have h32 : 2 ^ N ≤ 32 := Nat.pow_le_pow_right (n := 2) (by decide) n5
  unfold partVals buildZ fullZ
  rw [Int.toNat_natCast]
  generalize hR : 2 ^ N = R at *
  have e1 := build_lt (fun j => dig v.toNat (partRow (i : Int) 1 (j : Int)).toNat) R
  have e0 := build_lt (fun j => dig v.toNat (partRow (i : Int) 0 (j : Int)).toNat) R
  have key : ∀ j, j < R → (difF v i j ↔ dig v.toNat (partRow (i : Int) 0 (j : Int)).toNat ≠ dig v.toNat (partRow (i : Int) 1 (j : Int)).toNat) := by
    intro j hj
    have hf := partFlip_fin ⟨i, by omega⟩ ⟨j, by omega⟩
    simp only at hf
    unfold difF
    rw [digZ_dig, digZ_dig]
    rcases hf with ⟨a, b⟩ | ⟨a, b⟩ <;> rw [a, b] <;> constructor <;> intro h h2 <;> apply h <;> omega
  have conv : ((build (fun j => dig v.toNat (partRow (i : Int) 0 (j : Int)).toNat) R : Nat) : Int) = ((2 ^ R - 1 : Nat) : Int) - ((build (fun j => dig v.toNat (partRow (i : Int) 1 (j : Int)).toNat) R : Nat) : Int) ↔
      build (fun j => dig v.toNat (partRow (i : Int) 0 (j : Int)).toNat) R = build (fun j => dig v.toNat (partRow (i : Int) 1 (j : Int)).toNat) R ^^^ (2 ^ R - 1) := by
    rw [xor_full e1]
    omega
  rw [conv]
  have hx : build (fun j => dig v.toNat (partRow (i : Int) 1 (j : Int)).toNat) R ^^^ (2 ^ R - 1) < 2 ^ R := by rw [xor_full e1]; have := Nat.two_pow_pos R; omega
  have hd0 : ∀ j, j < R → dig (build (fun j => dig v.toNat (partRow (i : Int) 0 (j : Int)).toNat) R) j = dig v.toNat (partRow (i : Int) 0 (j : Int)).toNat := fun j hj => by
    rw [build_dig _ hj, dig_mod]
  have hd1 : ∀ j, j < R → dig (build (fun j => dig v.toNat (partRow (i : Int) 1 (j : Int)).toNat) R ^^^ (2 ^ R - 1)) j = 1 - dig v.toNat (partRow (i : Int) 1 (j : Int)).toNat := fun j hj => by
    rw [dig_xor, build_dig _ hj, dig_mod, dig_full hj]
    have := dig_lt v.toNat (partRow (i : Int) 1 (j : Int)).toNat
    omega
  constructor
  · intro h k hk
    rw [key k hk]
    have h1 := hd0 k hk
    have h2 := hd1 k hk
    rw [h] at h1
    rw [h1] at h2
    have := dig_lt v.toNat (partRow (i : Int) 1 (k : Int)).toNat
    omega
  · intro h
    refine dig_ext (k := R) e0 hx fun j hj => ?_
    have h3 := (key j hj).1 (h j hj)
    rw [hd0 j hj, hd1 j hj]
    have := dig_lt v.toNat (partRow (i : Int) 1 (j : Int)).toNat
    have := dig_lt v.toNat (partRow (i : Int) 0 (j : Int)).toNat
    omega
theorem partVals_bd {N : Nat} {v i value : Int} (n1 : 1 ≤ N) (n5 : N ≤ 5) : 0 ≤ partVals (N : Int) v i value ∧ partVals (N : Int) v i value ≤ fullZ (N : Int) := by
  unfold partVals buildZ fullZ
  rw [Int.toNat_natCast]
  have := build_lt (fun j => dig v.toNat (partRow i value (j : Int)).toNat) (2 ^ N)
  omega
theorem tabZ_bd {xs : List Int} (h5 : xs.length ≤ 5) (yss : List (List Int)) (brk : Nat → Bool) : 0 ≤ tabZ xs yss brk ∧ tabZ xs yss brk < 9223372036854775808 ∧ tabZ xs yss brk ≤ fullZ (xs.length : Int) := by
  have := tabN_bd xs yss brk (pow_le32 h5)
  have h2 := setOf_lt (litR xs yss brk) (2 ^ xs.length)
  unfold tabZ fullZ
  rw [Int.toNat_natCast]
  refine ⟨this.1, by omega, ?_⟩
  unfold tabN
  omega

noncomputable def resIsFull_0 (p : Int) (xs : List Int) (yss : List (List Int)) : Bool := if wirB p xs yss = true then fullB xs.length (tabZ xs yss (fun _ => false)) else false
def resIsFull_1 (p : Int) (xs : List Int) (yss : List (List Int)) : Int := if wirB p xs yss = true then 0 else 1

set_option maxRecDepth 100000 in
set_option maxHeartbeats 4000000 in
theorem iIsFull_any (v : Value) (p : Int) (xs : List Int) (yss : List (List Int)) (w : World) (ha : ReadsW w v p xs yss) :
    Calls Try.prog 35 #[v] w fun e w' => e = .returned (.tuple #[.bool (resIsFull_0 p xs yss), .int .i64 (resIsFull_1 p xs yss)]) ∧ Below w.heap.size w w' := by
  unfold resIsFull_0 resIsFull_1
  obtain ⟨d, hd⟩ : ∃ d, wirB p xs yss = d := ⟨_, rfl⟩
  have HW := Lib.hid (fun w' (h : Below w.heap.size w w') => isWiring_any v p xs yss w' (ha.keep h) hd)
  have ha' := ha
  obtain ⟨a, ca, b', cb, rfl, _, _⟩ := ha
  have h0 := C3.here w (.int .i64 p) (.slice a xs.length ca) (.slice b' yss.length cb) 28
  rw [hd]
  cases d
  · clear hd ha'
    rw [if_neg (by simp), if_neg (by simp)]
    generalize xs.length = n at *
    generalize yss.length = m at *
    go_enter Try.func35, Try.ntmps35
    go_wp2_with ((go_at_call 18; (with_reducible refine (HW.out _ (by go_grown)).mono ?_); rintro e w' ⟨rfl, hb⟩; have hL := chain (B := w.heap.size) (a := w) (by go_grown) (Nat.le_refl _) hb; (first | replace h0 := keepAt3 hb h0 | replace h0 := keepAt3 hb (C3.alloc h0 _)); clear hb))
    go_ret2
    exact ⟨rfl, hL⟩
  · have hw := (wirB_out hd).weak
    obtain ⟨h1, h5⟩ := hw.1.1
    obtain ⟨z, hz⟩ : ∃ z, tabZ xs yss (fun _ => false) = z := ⟨_, rfl⟩
    have hzb := tabZ_bd h5 yss (fun _ => false)
    rw [hz] at hzb
    obtain ⟨z0, z1, z2⟩ := hzb
    have HT := Lib.hid (fun w' (h : Below w.heap.size w w') => tableWithout_zero _ p xs yss w' (ha'.keep h) hw hz)
    rw [if_pos rfl, if_pos rfl, hz]
    obtain ⟨c, hc⟩ : ∃ c, fullB xs.length z = c := ⟨_, rfl⟩
    rw [hc]
    have HPF : Hid (∀ i, i < xs.length → (partVals (xs.length : Int) z (i : Int) 0 = fullZ (xs.length : Int) - partVals (xs.length : Int) z (i : Int) 1 ↔ ∀ k, k < 2 ^ xs.length → difF z i k)) := fun i hi => parts_full h1 h5 hi
    have HNO : Hid (∀ i, i < xs.length → (¬ ∀ k, k < 2 ^ xs.length → difF z i k) → c = false) := fun i hi h => by rw [← hc]; exact decide_eq_false fun hh => h (hh i hi)
    have HYES : Hid ((∀ i, i < xs.length → ∀ k, k < 2 ^ xs.length → difF z i k) → c = true) := fun h => by rw [← hc]; exact decide_eq_true h
    have HP0 := Lib.hid (fun (i : Nat) (w : World) (hi : i < xs.length) => part_any (xs.length : Int) z (i : Int) 0 w (by omega) (by omega) z0 z1 (by omega) (by omega) (by omega) (by omega))
    have HP1 := Lib.hid (fun (i : Nat) (w : World) (hi : i < xs.length) => part_any (xs.length : Int) z (i : Int) 1 w (by omega) (by omega) z0 z1 (by omega) (by omega) (by omega) (by omega))
    have HOP := Lib.hid (fun (i : Nat) (w : World) => opposite_any (xs.length : Int) (partVals (xs.length : Int) z (i : Int) 1) w (by omega) (by omega) (partVals_bd h1 h5).1 (partVals_bd h1 h5).2)
    clear hd ha' hw hz hc z0 z1 z2
    generalize hNN : xs.length = n at *
    clear hNN
    generalize yss.length = m at *
    go_enter Try.func35, Try.ntmps35
    go_wp2_with ((go_at_call 18; (with_reducible refine (HW.out _ (by go_grown)).mono ?_); rintro e w' ⟨rfl, hb⟩; have hL := chain (B := w.heap.size) (a := w) (by go_grown) (Nat.le_refl _) hb; (first | replace h0 := keepAt3 hb h0 | replace h0 := keepAt3 hb (C3.alloc h0 _)); clear hb))
    refine (HT.out _ hL).mono ?_
    rintro e w3 ⟨rfl, hb⟩
    replace hL := chain (B := w.heap.size) (a := w) hL (Nat.le_refl _) hb
    clear hb
    have kt := C2.here w3 (.int .i64 (n : Int)) (.int .i64 z) 44
    have hLt := hL.alloc hL.size (.cells #[.int .i64 (n : Int), .int .i64 z] 44)
    go_wp2_with fail
    obtain ⟨g, hg⟩ : ∃ g, w3.heap.size = g := ⟨_, rfl⟩
    rw [hg] at kt ⊢
    have HG : Hid (w.heap.size ≤ g) := by have := hL.size; unfold Hid; omega
    have hn5 : n ≤ 5 := h5
    clear h0 hL hg
    go_loopw [13] (fun c wr => ∃ i : Nat, i ≤ n ∧ c = .int .i64 (i : Int) ∧ Below w.heap.size w wr ∧ C2 wr g (.int .i64 (n : Int)) (.int .i64 z) ∧ Hid (∀ j, j < i → ∀ k, k < 2 ^ n → difF z j k)) (fun c _ => n - (intOf c).toNat)
    case atStart => exact ⟨0, Nat.zero_le _, rfl, hLt, kt, fun j hj => by omega⟩
    case round =>
      clear hLt kt
      obtain ⟨i, hi, rfl, hL, kt, HI⟩ := hrel
      by_cases hlt : i < n
      · have hi1 : (i : Int) < (n : Int) := by omega
        have hi0 : (0 : Int) ≤ (i : Int) := by omega
        have HA0 := Lib.hid (fun w => HP0.out i w hlt)
        have HA1 := Lib.hid (fun w => HP1.out i w hlt)
        have HA2 := Lib.hid (fun w => HOP.out i w)
        have hpf := HPF.out i hlt
        obtain ⟨q0, hq0⟩ : ∃ q, partVals (n : Int) z (i : Int) 0 = q := ⟨_, rfl⟩
        obtain ⟨q1, hq1⟩ : ∃ q, fullZ (n : Int) - partVals (n : Int) z (i : Int) 1 = q := ⟨_, rfl⟩
        rw [hq0, hq1] at hpf
        rw [hq0] at HA0
        rw [hq1] at HA2
        generalize partVals (n : Int) z (i : Int) 1 = pv at *
        clear hq0 hq1
        have hnn : ((n : Int) == (n : Int)) = true := by simp
        by_cases hqq : q0 = q1
        · have he : (q0 == q1) = true := by simp [hqq]
          have HI' : Hid (∀ j, j < i + 1 → ∀ k, k < 2 ^ n → difF z j k) := fun j hj => by
            by_cases e : j = i
            · subst e; exact hpf.1 hqq
            · exact HI.out j (by omega)
          clear hpf hqq
          go_wp2_with fail
          go_region_held3 (fun wx => C2 wx g (.int .i64 (n : Int)) (.int .i64 z)) (exact kt) (first | (go_at_call 85; (with_reducible refine (HA0.out _).mono ?_); rintro e w' ⟨rfl, hb⟩; have hL := chain (B := w.heap.size) (a := w) (by first | exact hL | go_grown) (Nat.le_refl _) hb; replace kt := keepAt hb kt; clear hb) | (go_at_call 85; (with_reducible refine (HA1.out _).mono ?_); rintro e w' ⟨rfl, hb⟩; have hL := chain (B := w.heap.size) (a := w) (by first | exact hL | go_grown) (Nat.le_refl _) hb; replace kt := keepAt hb kt; clear hb) | (go_at_call 86; (with_reducible refine (HA2.out _).mono ?_); rintro e w' ⟨rfl, hb⟩; have hL := chain (B := w.heap.size) (a := w) (by first | exact hL | go_grown) (Nat.le_refl _) hb; replace kt := keepAt hb kt; clear hb))
          all_goals go_wp2_with fail
          all_goals exact ⟨⟨i + 1, by omega, by go_num, by first | exact hL | go_grown, kt, HI'⟩, by simp [intOf]; omega⟩
        · have he : (q0 == q1) = false := by simp [hqq]
          have HC := Lib.hid (HNO.out i hlt fun hh => hqq (hpf.2 hh))
          clear hpf hqq
          go_wp2_with fail
          go_region_held3 (fun wx => C2 wx g (.int .i64 (n : Int)) (.int .i64 z)) (exact kt) (first | (go_at_call 85; (with_reducible refine (HA0.out _).mono ?_); rintro e w' ⟨rfl, hb⟩; have hL := chain (B := w.heap.size) (a := w) (by first | exact hL | go_grown) (Nat.le_refl _) hb; replace kt := keepAt hb kt; clear hb) | (go_at_call 85; (with_reducible refine (HA1.out _).mono ?_); rintro e w' ⟨rfl, hb⟩; have hL := chain (B := w.heap.size) (a := w) (by first | exact hL | go_grown) (Nat.le_refl _) hb; replace kt := keepAt hb kt; clear hb) | (go_at_call 86; (with_reducible refine (HA2.out _).mono ?_); rintro e w' ⟨rfl, hb⟩; have hL := chain (B := w.heap.size) (a := w) (by first | exact hL | go_grown) (Nat.le_refl _) hb; replace kt := keepAt hb kt; clear hb))
          all_goals go_wp2_with fail
          all_goals go_ret2
          all_goals exact ⟨by rw [HC.out]; rfl, by first | exact hL | go_grown⟩
      · have HC := Lib.hid (HYES.out fun j hj => HI.out j (by omega))
        have hge : ¬ (i : Int) < (n : Int) := by omega
        go_wp2_with fail
        go_ret2
        exact ⟨by rw [HC.out]; rfl, hL⟩

theorem u64_ofF {i : Nat} (h : i ≤ 62) : IntKind.u64.wrap (i : Int) = (i : Int) := IntWalk.u64_in _ (by omega)

set_option maxRecDepth 100000 in
set_option maxHeartbeats 4000000 in
theorem sIsFull_any (v : Value) (p : Int) (xs : List Int) (yss : List (List Int)) (w : World) (ha : ReadsW w v p xs yss) :
    Calls Try.prog 34 #[v] w fun e w' => e = .returned (.tuple #[.bool (resIsFull_0 p xs yss), .int .i64 (resIsFull_1 p xs yss)]) ∧ Below w.heap.size w w' := by
  unfold resIsFull_0 resIsFull_1
  obtain ⟨d, hd⟩ : ∃ d, wirB p xs yss = d := ⟨_, rfl⟩
  have HW := Lib.hid (fun w' (h : Below w.heap.size w w') => l10Is_any v p xs yss w' (ha.keep h) hd)
  have ha' := ha
  obtain ⟨a, ca, b', cb, rfl, _, _⟩ := ha
  have h0 := C3.here w (.int .i64 p) (.slice a xs.length ca) (.slice b' yss.length cb) 28
  rw [hd]
  cases d
  · clear hd ha'
    rw [if_neg (by simp), if_neg (by simp)]
    generalize xs.length = n at *
    generalize yss.length = m at *
    go_enter Try.func34, Try.ntmps34
    go_wp2_with ((go_at_call 56; (with_reducible refine (HW.out _ (by go_grown)).mono ?_); rintro e w' ⟨rfl, hb⟩; have hL := chain (B := w.heap.size) (a := w) (by go_grown) (Nat.le_refl _) hb; (first | replace h0 := keepAt3 hb h0 | replace h0 := keepAt3 hb (C3.alloc h0 _)); clear hb))
    go_ret2
    exact ⟨rfl, hL⟩
  · have hw := (wirB_out hd).weak
    obtain ⟨h1, h5⟩ := hw.1.1
    obtain ⟨z, hz⟩ : ∃ z, tabZ xs yss (fun _ => false) = z := ⟨_, rfl⟩
    have hzb := tabZ_bd h5 yss (fun _ => false)
    rw [hz] at hzb
    obtain ⟨z0, z1, z2⟩ := hzb
    have HT := Lib.hid (fun w' (h : Below w.heap.size w w') => l10Table_any _ p xs yss w' (ha'.keep h) hw hz)
    rw [if_pos rfl, if_pos rfl, hz]
    obtain ⟨c, hc⟩ : ∃ c, fullB xs.length z = c := ⟨_, rfl⟩
    rw [hc]
    have HR := Lib.hid (fun w => l01Rows_any (xs.length : Int) w (by omega) (by omega))
    have HRC : Hid (rcZ (xs.length : Int) = ((2 ^ xs.length : Nat) : Int)) := by unfold Hid rcZ; rw [Int.toNat_natCast]
    rw [HRC.out] at HR
    have HNO : Hid (∀ i k, i < xs.length → k < 2 ^ xs.length → ¬ difF z i k → c = false) := fun i k hi hk h => by rw [← hc]; exact fullB_no hi hk h
    have HYES : Hid ((∀ k, k < 2 ^ xs.length → ∀ i, i < xs.length → difF z i k) → c = true) := fun h => by rw [← hc]; exact decide_eq_true fun i hi k hk => h k hk i hi
    have HFB : Hid (∀ i k : Nat, i < xs.length → k < 2 ^ xs.length → 0 ≤ flipF (i : Int) (k : Int) ∧ flipF (i : Int) (k : Int) ≤ 62) := fun i k hi hk => by
      have := flipF_bd h5 hi hk
      have := pow_le32 h5
      omega
    have hp32 : Hid (2 ^ xs.length ≤ 32) := pow_le32 h5
    have Z0 : Hid (0 ≤ z ∧ z < 9223372036854775808) := ⟨z0, z1⟩
    clear hd ha' hw hz hc z0 z1 z2 HRC
    generalize 2 ^ xs.length = R at *
    generalize hNN : xs.length = n at *
    clear hNN
    generalize yss.length = m at *
    go_enter Try.func34, Try.ntmps34
    go_wp2_with ((go_at_call 56; (with_reducible refine (HW.out _ (by go_grown)).mono ?_); rintro e w' ⟨rfl, hb⟩; have hL := chain (B := w.heap.size) (a := w) (by go_grown) (Nat.le_refl _) hb; (first | replace h0 := keepAt3 hb h0 | replace h0 := keepAt3 hb (C3.alloc h0 _)); clear hb))
    refine (HT.out _ hL).mono ?_
    rintro e w3 ⟨rfl, hb⟩
    replace hL := chain (B := w.heap.size) (a := w) hL (Nat.le_refl _) hb
    clear hb
    have kt := C2.here w3 (.int .i64 (n : Int)) (.int .i64 z) 44
    have hLt := hL.alloc hL.size (.cells #[.int .i64 (n : Int), .int .i64 z] 44)
    go_wp2_with fail
    obtain ⟨g, hg⟩ : ∃ g, w3.heap.size = g := ⟨_, rfl⟩
    rw [hg] at kt ⊢
    have HG : Hid (w.heap.size ≤ g) := by have := hL.size; unfold Hid; omega
    have hn5 : n ≤ 5 := h5
    have hR32 := hp32.out
    clear h0 hL hg
    go_loopw [5] (fun c wr => ∃ k : Nat, k ≤ R ∧ c = .int .i64 (k : Int) ∧ Below w.heap.size w wr ∧ C2 wr g (.int .i64 (n : Int)) (.int .i64 z) ∧ Hid (∀ r, r < k → ∀ i, i < n → difF z i r)) (fun c _ => R - (intOf c).toNat)
    case atStart => exact ⟨0, Nat.zero_le _, rfl, hLt, kt, fun j hj => by omega⟩
    case round =>
      clear hLt kt
      obtain ⟨k, hk, rfl, hL, kt, HK⟩ := hrel
      by_cases hlt : k < R
      · have hk1 : (k : Int) < (R : Int) := by omega
        have hk0 : (0 : Int) ≤ (k : Int) := by omega
        obtain ⟨wo, hwo⟩ : ∃ wo : World, wo = wr := ⟨_, rfl⟩
        have HLo : Hid (Below w.heap.size w wo) := by rw [hwo]; exact hL
        have HKo : Hid (C2 wo g (.int .i64 (n : Int)) (.int .i64 z)) := by rw [hwo]; exact kt
        subst hwo
        clear hL kt
        have kt := HKo.out
        go_wp2_with ((go_at_call 83; (with_reducible refine (HR.out _).mono ?_); rintro e w' ⟨rfl, rfl⟩))
        clear kt
        go_loopw [6] (fun c wr => ∃ i : Nat, i ≤ n ∧ c = .int .i64 (i : Int) ∧ Below w.heap.size w wr ∧ C2 wr g (.int .i64 (n : Int)) (.int .i64 z) ∧ Hid (∀ j, j < i → difF z j k)) (fun c _ => n - (intOf c).toNat)
        case atStart => exact ⟨0, Nat.zero_le _, rfl, HLo.out, HKo.out, fun j hj => by omega⟩
        case round =>
          obtain ⟨i, hi, rfl, hL, kt, HI⟩ := hrel
          by_cases hli : i < n
          · have hi1 : (i : Int) < (n : Int) := by omega
            have hi0 : (0 : Int) ≤ (i : Int) := by omega
            have HFB' : Hid (0 ≤ bits .xor .i64 (k : Int) (2 ^ i) ∧ bits .xor .i64 (k : Int) (2 ^ i) ≤ 62) := HFB.out i k hli hlt
            have HKB : Hid (0 ≤ (k : Int) ∧ (k : Int) ≤ 62) := by unfold Hid; omega
            have hm : min i 64 = i := by omega
            by_cases hd : digZ z (k : Int) = digZ z (bits .xor .i64 (k : Int) (2 ^ i))
            · have hdq : (digZ z (k : Int) == digZ z (bits .xor .i64 (k : Int) (2 ^ i))) = true := by simp [hd]
              have HC := Lib.hid (HNO.out i k hli hlt fun h => h hd)
              clear hd
              go_upto_region 10 with fail
              have hwp := two_wrapF (i := i) (by omega)
              have hu := u64_ofF (i := i) (by omega)
              go_region_held3 (fun wx => C2 wx g (.int .i64 (n : Int)) (.int .i64 z)) (exact kt) ((go_at_call 84; (with_reducible refine (l01At_any _ _ _ _ Z0.out.1 Z0.out.2 (by first | exact HKB.out.1 | exact HFB'.out.1) (by first | exact HKB.out.2 | exact HFB'.out.2)).mono ?_); rintro e w' ⟨rfl, hb⟩; have hL := chain (B := w.heap.size) (a := w) (by first | exact hL | go_grown) (Nat.le_refl _) hb; replace kt := keepAt hb kt; clear hb))
              clear hwp hu
              go_wp2_with fail
              go_ret2
              exact ⟨by rw [HC.out]; rfl, by first | exact hL | go_grown⟩
            · have hdq : (digZ z (k : Int) == digZ z (bits .xor .i64 (k : Int) (2 ^ i))) = false := by simp [hd]
              have HI' : Hid (∀ j, j < i + 1 → difF z j k) := fun j hj => by
                by_cases e : j = i
                · subst e; exact hd
                · exact HI.out j (by omega)
              clear hd
              go_upto_region 10 with fail
              have hwp := two_wrapF (i := i) (by omega)
              have hu := u64_ofF (i := i) (by omega)
              go_region_held3 (fun wx => C2 wx g (.int .i64 (n : Int)) (.int .i64 z)) (exact kt) ((go_at_call 84; (with_reducible refine (l01At_any _ _ _ _ Z0.out.1 Z0.out.2 (by first | exact HKB.out.1 | exact HFB'.out.1) (by first | exact HKB.out.2 | exact HFB'.out.2)).mono ?_); rintro e w' ⟨rfl, hb⟩; have hL := chain (B := w.heap.size) (a := w) (by first | exact hL | go_grown) (Nat.le_refl _) hb; replace kt := keepAt hb kt; clear hb))
              clear hwp hu
              go_wp2_with fail
              exact ⟨⟨i + 1, by omega, by go_num, by first | exact hL | go_grown, kt, HI'⟩, by simp [intOf]; omega⟩
          · have HK' : Hid (∀ r, r < k + 1 → ∀ i, i < n → difF z i r) := fun r hr j hj => by
              by_cases e : r = k
              · subst e; exact HI.out j (by omega)
              · exact HK.out r (by omega) j hj
            have hge : ¬ (i : Int) < (n : Int) := by omega
            go_wp2_with fail
            exact ⟨⟨k + 1, by omega, by go_num, hL, kt, HK'⟩, by simp [intOf]; omega⟩
      · have HC := Lib.hid (HYES.out fun j hj => HK.out j (by omega))
        have hge : ¬ (k : Int) < (R : Int) := by omega
        go_wp2_with ((go_at_call 83; (with_reducible refine (HR.out _).mono ?_); rintro e w' ⟨rfl, rfl⟩))
        go_ret2
        exact ⟨by rw [HC.out]; rfl, hL⟩

end Go.Proofs.Ytkdidplpnhokiaa
