/- IsByNumbers: the program's and the model's. -/
import Derived.Test.YtlcfecccpbeofabDoorDoor
import Derived.Test.YtlcfecccpbeofabDoorSym
import Derived.Test.YtlcfecccpbeofabDoorSSym
namespace Go.Proofs.YtlcfecccpbeofabDoor
open Go.RowKit
set_option linter.unusedVariables false

def bnOk (n l h : Int) : Prop := (0 ≤ l ∧ l ≤ n) ∧ (0 ≤ h ∧ h ≤ n)
instance (n l h : Int) : Decidable (bnOk n l h) := by unfold bnOk; infer_instance
/-- does the row k have a number of ones from l to h -/
def bnBit (l h : Int) (k : Nat) : Nat := if l ≤ (onesN k : Int) ∧ (onesN k : Int) ≤ h then 1 else 0
def bnAll (n v l h : Int) : Prop := ∀ k, k < 2 ^ n.toNat → dig v.toNat k = bnBit l h k
instance (n v l h : Int) : Decidable (bnAll n v l h) := by unfold bnAll; infer_instance
def resIsByNumbers_0 (n v l h : Int) : Bool := isTab n v && (decide (bnOk n l h) && decide (bnAll n v l h))
def resIsByNumbers_1 (n v l h : Int) : Int := if isTab n v = true then (if bnOk n l h then 0 else 2) else 1

/-- the set of the numbers from l to h -/
def bnSet (l h : Nat) (k : Nat) : Nat := setOf (fun j => decide (l ≤ j ∧ j ≤ h)) k
theorem setOf_none (f : Nat → Bool) (k : Nat) (h : ∀ j, j < k → f j = false) : setOf f k = 0 := by
  induction k with
  | zero => rfl
  | succ k ih => rw [setOf_miss _ _ (h k (by omega)), ih fun j hj => h j (by omega)]
theorem setOf_more (f : Nat → Bool) (k m : Nat) (hk : k ≤ m) (h : ∀ j, k ≤ j → j < m → f j = false) : setOf f m = setOf f k := by
  induction m with
  | zero => have : k = 0 := by omega
            subst this; rfl
  | succ m ih =>
    rcases Nat.lt_or_ge m k with h1 | h1
    · have : k = m + 1 := by omega
      subst this; rfl
    · rw [setOf_miss _ _ (h m h1 (by omega)), ih h1 fun j h2 h3 => h j h2 (by omega)]
theorem bnSet_first (l h : Nat) : bnSet l h l = 0 := setOf_none _ _ fun j hj => decide_eq_false (by omega)
theorem bnSet_hit {l h k : Nat} (h1 : l ≤ k) (h2 : k ≤ h) : bnSet l h k ||| 2 ^ k = bnSet l h (k + 1) := setOf_hit _ _ (decide_eq_true ⟨h1, h2⟩)
theorem bnSet_last {l h : Nat} (hl : h < 6) : bnSet l h 6 = bnSet l h (h + 1) := setOf_more _ _ _ (by omega) fun j h1 h2 => decide_eq_false (by omega)
theorem bnSet_empty {l h : Nat} (hl : h < l) : bnSet l h 6 = 0 := setOf_none _ _ fun j hj => decide_eq_false (by omega)
theorem bnSet_dig {l h j : Nat} (hj : j < 6) : dig (bnSet l h 6) j = if l ≤ j ∧ j ≤ h then 1 else 0 := by
  unfold bnSet; rw [setOf_dig _ hj]
  by_cases hh : l ≤ j ∧ j ≤ h
  · rw [if_pos hh]; simp [hh]
  · rw [if_neg hh, decide_eq_false hh]; rfl
theorem bnSet_lt (l h : Nat) : bnSet l h 6 < 64 := setOf_lt _ _

theorem bn_eq {n v : Int} {l h : Nat} (ht : isTab n v = true) : (v = symVals n (bnSet l h 6)) ↔ bnAll n v (l : Int) (h : Int) := by
  obtain ⟨n1, n5, v0, v1⟩ := isTab_out ht
  have hd : ∀ k, k < 2 ^ n.toNat → dig (build (fun r => dig (bnSet l h 6) (onesN r)) (2 ^ n.toNat)) k = bnBit l h k := fun k hk => by
    rw [build_dig _ hk, dig_mod, bnSet_dig (by have := onesN_le k; omega)]
    unfold bnBit
    by_cases hh : l ≤ onesN k ∧ onesN k ≤ h
    · rw [if_pos hh, if_pos (by omega)]
    · rw [if_neg hh, if_neg (by omega)]
  constructor
  · intro e k hk
    rw [e]; unfold symVals buildZ; rw [Int.toNat_natCast]
    exact hd k hk
  · intro ha
    have hv : v.toNat < 2 ^ 2 ^ n.toNat := by
      have : 0 < 2 ^ 2 ^ n.toNat := Nat.pow_pos (by decide)
      unfold fullZ at v1; omega
    have : v.toNat = build (fun r => dig (bnSet l h 6) (onesN r)) (2 ^ n.toNat) := dig_ext hv (build_lt _ _) fun k hk => by rw [hd k hk, ha k hk]
    unfold symVals buildZ
    omega

theorem bnSet_or {L H k : Nat} (h1 : L ≤ k) (h2 : k ≤ H) (h5 : H ≤ 5) : bits .or .i64 (bnSet L H k : Int) (wrap64 (2 ^ k)) = (bnSet L H (k + 1) : Int) := by
  have hlt62 : bnSet L H k < 2 ^ 62 := Nat.lt_of_lt_of_le (setOf_lt _ _) (Nat.pow_le_pow_right (by decide) (by omega))
  rw [or_walk _ _ hlt62 (by omega), bnSet_hit h1 h2]
theorem bnSet_end {L H k : Nat} (hk1 : L ≤ k) (hk2 : k ≤ H + 1 ∨ k = L) (hk3 : ¬ k ≤ H) (h5 : H ≤ 5) : bnSet L H k = bnSet L H 6 := by
  rcases Nat.lt_or_ge H L with h2 | h2
  · rw [bnSet_empty h2]
    have : k = L := by omega
    rw [this, bnSet_first]
  · have : k = H + 1 := by omega
    rw [this, bnSet_last (by omega)]

set_option maxRecDepth 100000 in
set_option maxHeartbeats 4000000 in
theorem byNumClos_any (n v l h : Int) (bl bh : Nat) (w : World) (ht : isTab n v = true)
    (hl : w.cell? ⟨bl, 0, none⟩ = some (.int .i64 l)) (hh : w.cell? ⟨bh, 0, none⟩ = some (.int .i64 h)) :
    Calls Tryd.prog 13 #[.agg #[.int .i64 n, .int .i64 v], .pointer (some ⟨bl, 0, none⟩), .pointer (some ⟨bh, 0, none⟩)] w fun e w' => e = .returned (.tuple #[.bool (resIsByNumbers_0 n v l h), .int .i64 (resIsByNumbers_1 n v l h)]) ∧ Below w.heap.size w w' := by
  obtain ⟨n1, n5, v0, v1⟩ := isTab_out ht
  have cl : (w.alloc (.cells #[.int .i64 n, .int .i64 v] 26)).cell? ⟨bl, 0, none⟩ = some (.int .i64 l) := cell_later (by go_grown) hl
  have ch : (w.alloc (.cells #[.int .i64 n, .int .i64 v] 26)).cell? ⟨bh, 0, none⟩ = some (.int .i64 h) := cell_later (by go_grown) hh
  have hw : wrap64 (n + 1) = n + 1 := IntWalk.wrap64_in _ (by omega)
  have k0 : C2 (w.alloc (.cells #[.int .i64 n, .int .i64 v] 26)) (w.heap.size) (.int .i64 n) (.int .i64 v) := by simpa using C2.here w (.int .i64 n) (.int .i64 v) 26
  by_cases hok : bnOk n l h
  · obtain ⟨⟨l0, l1⟩, h0, h1⟩ := hok
    have HC : Hid (resIsByNumbers_1 n v l h = 0) := by unfold Hid resIsByNumbers_1; rw [if_pos ht, if_pos ⟨⟨l0, l1⟩, h0, h1⟩]
    obtain ⟨L, rfl⟩ := Int.eq_ofNat_of_zero_le l0
    obtain ⟨H, rfl⟩ := Int.eq_ofNat_of_zero_le h0
    have HR : Hid (resIsByNumbers_0 n v (L : Int) (H : Int) = decide (v = symVals n (bnSet L H 6))) := by
      unfold Hid resIsByNumbers_0
      rw [ht, decide_eq_true (show bnOk n L H from ⟨⟨l0, l1⟩, h0, h1⟩), Bool.true_and, Bool.true_and]
      exact decide_eq_decide.2 (bn_eq ht).symm
    have HB1 : Hid (0 ≤ (L : Int) ∧ (L : Int) < n + 1) := ⟨l0, by omega⟩
    have HB2 : Hid (0 ≤ (H : Int) ∧ (H : Int) < n + 1) := ⟨h0, by omega⟩
    go_enter Tryd.func13, Tryd.ntmps13
    go_wp2_with (first | (go_at_call 14; (with_reducible refine (isBelow_yes _ _ _ HB1.out).mono ?_); rintro e w' ⟨rfl, rfl⟩) | (go_at_call 14; (with_reducible refine (isBelow_yes _ _ _ HB2.out).mono ?_); rintro e w' ⟨rfl, rfl⟩))
    go_loop [6, 7] (fun s c => ∃ k : Nat, L ≤ k ∧ (k ≤ H + 1 ∨ k = L) ∧ c = .int .i64 (k : Int) ∧ s = .int .i64 (bnSet L H k : Int)) (fun _ c => (H + 1 : Int).toNat - (intOf c).toNat)
    case atStart => exact ⟨L, Nat.le_refl _, .inr rfl, rfl, by rw [bnSet_first]; rfl⟩
    case round =>
      obtain ⟨k, hk1, hk2, rfl, rfl⟩ := hrel
      by_cases hlt : k ≤ H
      · have hi : (k : Int) ≤ (H : Int) := by omega
        have hm2 : min k 64 = k := by omega
        have HS := Lib.hid (bnSet_or hk1 hlt (by omega))
        have HM : Hid (((H : Int) + 1).toNat - ((k : Int) + 1).toNat < ((H : Int) + 1).toNat - ((k : Int)).toNat) := by unfold Hid; omega
        have HK : Hid (L ≤ k + 1 ∧ (k + 1 ≤ H + 1 ∨ k + 1 = L)) := by unfold Hid; omega
        have hL5 : k ≤ 5 := by omega
        go_wp2_with fail
        rw [HS.out]
        exact ⟨⟨k + 1, HK.out.1, HK.out.2, by go_num, rfl⟩, HM.out⟩
      · have hi : ¬ (k : Int) ≤ (H : Int) := by omega
        have HE := Lib.hid (bnSet_end hk1 hk2 hlt (by omega))
        rw [HE.out]
        have HS := bnSet_lt L H
        generalize bnSet L H 6 = S at *
        have hnn : (n == n) = true := by simp
        obtain ⟨sv, hsv⟩ : ∃ sv, symVals n S = sv := ⟨_, rfl⟩
        have HSV : Hid (∀ wx, Calls Tryd.prog 15 #[.int .i64 n, .int .i64 (S : Int)] wx fun e w' => e = .returned (.agg #[.int .i64 n, .int .i64 sv]) ∧ Below wx.heap.size wx w') := fun wx => by rw [← hsv]; exact symmetricTable_any _ _ _ n1 n5 HS
        rw [hsv] at HR
        clear hsv
        by_cases hvs : v = sv
        · have hvv : (v == sv) = true := by simp [hvs]
          have HRT : Hid (resIsByNumbers_0 n v (L : Int) (H : Int) = true) := by unfold Hid; rw [HR.out]; exact decide_eq_true hvs
          clear hvs
          go_wp2_with fail
          go_region_with ((go_at_call 15; (with_reducible refine (HSV.out _).mono ?_); rintro e w' ⟨rfl, hb⟩; have hL := chain (B := w.heap.size) (a := w) (by go_grown) (Nat.le_refl _) hb; (first | replace k0 := keepAt hb k0 | replace k0 := keepAt hb (C2.alloc k0 _)); clear hb))
          all_goals (go_wp2_with fail)
          all_goals (refine bodyPost_ret (v := .tuple #[.bool true, .int .i64 0]) (by simp [results, Tryd.results13, go_sem, *]) rfl ?_)
          all_goals (exact ⟨by rw [HRT.out, HC.out], by go_grown⟩)
        · have hvv : (v == sv) = false := by simp [hvs]
          have HRT : Hid (resIsByNumbers_0 n v (L : Int) (H : Int) = false) := by unfold Hid; rw [HR.out]; exact decide_eq_false hvs
          clear hvs
          go_wp2_with fail
          go_region_with ((go_at_call 15; (with_reducible refine (HSV.out _).mono ?_); rintro e w' ⟨rfl, hb⟩; have hL := chain (B := w.heap.size) (a := w) (by go_grown) (Nat.le_refl _) hb; (first | replace k0 := keepAt hb k0 | replace k0 := keepAt hb (C2.alloc k0 _)); clear hb))
          all_goals (go_wp2_with fail)
          all_goals (refine bodyPost_ret (v := .tuple #[.bool false, .int .i64 0]) (by simp [results, Tryd.results13, go_sem, *]) rfl ?_)
          all_goals (exact ⟨by rw [HRT.out, HC.out], by go_grown⟩)
  · have HC : Hid (resIsByNumbers_1 n v l h = 2) := by unfold Hid resIsByNumbers_1; rw [if_pos ht, if_neg hok]
    have HR : Hid (resIsByNumbers_0 n v l h = false) := by unfold Hid resIsByNumbers_0; rw [ht, decide_eq_false hok]; rfl
    by_cases hb1 : 0 ≤ l ∧ l < n + 1
    · have HB1 := Lib.hid hb1
      have HB2 : Hid (¬ (0 ≤ h ∧ h < n + 1)) := fun hh2 => hok ⟨⟨hb1.1, by omega⟩, hh2.1, by omega⟩
      clear hok hb1
      go_enter Tryd.func13, Tryd.ntmps13
      go_wp2_with (first | (go_at_call 14; (with_reducible refine (isBelow_yes _ _ _ HB1.out).mono ?_); rintro e w' ⟨rfl, rfl⟩) | (go_at_call 14; (with_reducible refine (isBelow_no _ _ _ HB2.out).mono ?_); rintro e w' ⟨rfl, rfl⟩))
      refine bodyPost_ret (v := .tuple #[.bool false, .int .i64 2]) (by simp [results, Tryd.results13, go_sem, *]) rfl ?_
      exact ⟨by rw [HR.out, HC.out], by go_grown⟩
    · have HB1 := Lib.hid hb1
      clear hok hb1
      go_enter Tryd.func13, Tryd.ntmps13
      go_wp2_with (first | (go_at_call 14; (with_reducible refine (isBelow_no _ _ _ HB1.out).mono ?_); rintro e w' ⟨rfl, rfl⟩))
      refine bodyPost_ret (v := .tuple #[.bool false, .int .i64 2]) (by simp [results, Tryd.results13, go_sem, *]) rfl ?_
      exact ⟨by rw [HR.out, HC.out], by go_grown⟩

set_option maxRecDepth 100000 in
set_option maxHeartbeats 1000000 in
theorem iIsByNumbers_any (n v l h : Int) (a : Addr) (w : World) (hg : w.cell? ⟨0, 0, none⟩ = some (errV a)) :
    Calls Tryd.prog 6 #[.agg #[.int .i64 n, .int .i64 v], .int .i64 l, .int .i64 h] w fun e w' => e = .returned (.tuple #[.bool (resIsByNumbers_0 n v l h), .int .i64 (resIsByNumbers_1 n v l h)]) ∧ Below w.heap.size w w' := by
  have hmf : ∀ (fn : Fn) (first cap : Array Value) (w : World), (Instr.makeFunc fn first cap).run Tryd.prog w = .ok (.func fn first cap) w := fun _ _ _ _ => rfl
  by_cases ht : isTab n v = true
  · have HT := Lib.hid ht
    clear ht
    have cl : (((w.alloc (.cells #[.int .i64 n, .int .i64 v] 26)).alloc (.cells #[.int .i64 l] 2)).alloc (.cells #[.int .i64 h] 2)).cell? ⟨w.heap.size + 1, 0, none⟩ = some (.int .i64 l) := by
      rw [World.cell?_alloc_past _ _ _ (by simp), World.cell?_alloc_at _ _ _ _ (by simp)]; rfl
    have ch : (((w.alloc (.cells #[.int .i64 n, .int .i64 v] 26)).alloc (.cells #[.int .i64 l] 2)).alloc (.cells #[.int .i64 h] 2)).cell? ⟨w.heap.size + 1 + 1, 0, none⟩ = some (.int .i64 h) := by
      rw [World.cell?_alloc_at _ _ _ _ (by simp)]; rfl
    have Hl := Lib.hid cl
    have Hh := Lib.hid ch
    clear cl ch
    have HCL : Hid (∀ wx : World, wx.cell? ⟨w.heap.size + 1, 0, none⟩ = some (.int .i64 l) → wx.cell? ⟨w.heap.size + 1 + 1, 0, none⟩ = some (.int .i64 h) → Calls Tryd.prog 13 #[.agg #[.int .i64 n, .int .i64 v], .pointer (some ⟨w.heap.size + 1, 0, none⟩), .pointer (some ⟨w.heap.size + 1 + 1, 0, none⟩)] wx fun e w' => e = .returned (.tuple #[.bool (resIsByNumbers_0 n v l h), .int .i64 (resIsByNumbers_1 n v l h)]) ∧ Below wx.heap.size wx w') :=
      fun wx h1 h2 => byNumClos_any n v l h _ _ wx HT.out h1 h2
    generalize resIsByNumbers_0 n v l h = r at *
    generalize resIsByNumbers_1 n v l h = c at *
    go_enter Tryd.func6, Tryd.ntmps6
    go_wp2_with fail
    refine (doorBool_yes n v 13 #[.pointer (some ⟨w.heap.size + 1, 0, none⟩), .pointer (some ⟨w.heap.size + 1 + 1, 0, none⟩)] r c _ HT.out ?_ (enters_of Tryd.func13 (by kernel_rfl) rfl)).mono ?_
    · intro wx hb
      exact HCL.out wx (cell_later hb Hl.out) (cell_later hb Hh.out)
    rintro e w1 ⟨rfl, hb⟩
    have hL := chain (B := w.heap.size) (a := w) (by go_grown) (Nat.le_refl _) hb
    clear hb
    go_wp2_with fail
    refine bodyPost_ret (v := .tuple #[.bool r, .int .i64 c]) (by simp [results, Tryd.results6, go_sem, *]) rfl ?_
    exact ⟨rfl, hL⟩
  · have ht : isTab n v = false := by simpa using ht
    have HT := Lib.hid ht
    have HC : Hid (resIsByNumbers_1 n v l h = 1) := by unfold Hid resIsByNumbers_1; rw [ht]; rfl
    have HR : Hid (resIsByNumbers_0 n v l h = false) := by unfold Hid resIsByNumbers_0; rw [ht]; rfl
    clear ht
    have cg : (((w.alloc (.cells #[.int .i64 n, .int .i64 v] 26)).alloc (.cells #[.int .i64 l] 2)).alloc (.cells #[.int .i64 h] 2)).cell? ⟨0, 0, none⟩ = some (errV a) := cell_later (by go_grown) hg
    have Hg := Lib.hid cg
    clear cg
    go_enter Tryd.func6, Tryd.ntmps6
    go_wp2_with fail
    refine (doorBool_no n v a 13 _ _ HT.out Hg.out).mono ?_
    rintro e w1 ⟨rfl, hb⟩
    have hL := chain (B := w.heap.size) (a := w) (by go_grown) (Nat.le_refl _) hb
    clear hb
    go_wp2_with fail
    refine bodyPost_ret (v := .tuple #[.bool false, .int .i64 1]) (by simp [results, Tryd.results6, go_sem, *]) rfl ?_
    exact ⟨by rw [HR.out, HC.out], hL⟩

theorem inB_yes (x lo hi : Int) (w : World) {b : Bool} (h : decide (lo ≤ x ∧ x ≤ hi) = b) :
    Calls Tryd.prog 8 #[.int .i64 x, .int .i64 lo, .int .i64 hi] w fun e w' => e = .returned (.bool b) ∧ w = w' := by
  have := l01In_any x lo hi w
  rwa [h] at this

set_option maxRecDepth 100000 in
set_option maxHeartbeats 4000000 in
theorem sIsByNumbers_any (n v l h : Int) (w : World) :
    Calls Tryd.prog 4 #[.agg #[.int .i64 n, .int .i64 v], .int .i64 l, .int .i64 h] w fun e w' => e = .returned (.tuple #[.bool (resIsByNumbers_0 n v l h), .int .i64 (resIsByNumbers_1 n v l h)]) ∧ Below w.heap.size w w' := by
  have k0 : C2 (w.alloc (.cells #[.int .i64 n, .int .i64 v] 26)) (w.heap.size) (.int .i64 n) (.int .i64 v) := by simpa using C2.here w (.int .i64 n) (.int .i64 v) 26
  by_cases ht : isTab n v = true
  · have HT := Lib.hid ht
    obtain ⟨n1, n5, v0, v1⟩ := isTab_out ht
    have hv63 := fullZ_bd n1 n5
    by_cases hok : bnOk n l h
    · have HC : Hid (resIsByNumbers_1 n v l h = 0) := by unfold Hid resIsByNumbers_1; rw [if_pos ht, if_pos hok]
      have HR : Hid (resIsByNumbers_0 n v l h = decide (bnAll n v l h)) := by unfold Hid resIsByNumbers_0; rw [ht, decide_eq_true hok, Bool.true_and, Bool.true_and]
      have Hr : Hid (rcZ n = ((2 ^ n.toNat : Nat) : Int)) := rfl
      have hr := rcZ_bd n1 n5
      have HB1 := Lib.hid hok.1
      have HB2 := Lib.hid hok.2
      have HV : Hid (0 ≤ v ∧ v < 9223372036854775808) := by unfold Hid; omega
      clear hok ht
      go_enter Tryd.func4, Tryd.ntmps4
      go_wp2_with (first | (go_at_call 7; (with_reducible refine (l01Is_b _ _ _ HT.out).mono ?_); rintro e w' ⟨rfl, hb⟩; have hL := chain (B := w.heap.size) (a := w) (by go_grown) (Nat.le_refl _) hb; (first | replace k0 := keepAt hb k0 | replace k0 := keepAt hb (C2.alloc k0 _)); clear hb) | (go_at_call 8; (with_reducible refine (l01In_yes _ _ _ _ HB1.out).mono ?_); rintro e w' ⟨rfl, rfl⟩) | (go_at_call 8; (with_reducible refine (l01In_yes _ _ _ _ HB2.out).mono ?_); rintro e w' ⟨rfl, rfl⟩))
      go_loopw [8] (fun c wr => ∃ k : Nat, (k : Int) ≤ rcZ n ∧ c = .int .i64 (k : Int) ∧ Below w.heap.size w wr ∧ C2 wr w.heap.size (.int .i64 n) (.int .i64 v) ∧ Hid (∀ j, j < k → dig v.toNat j = bnBit l h j)) (fun c _ => (rcZ n - intOf c).toNat)
      case atStart => exact ⟨0, by omega, rfl, by first | assumption | go_grown, k0, fun j hj => by omega⟩
      case round =>
        clear k0
        obtain ⟨k, hk, rfl, hL, k0, HA⟩ := hrel
        by_cases hlt : (k : Int) < rcZ n
        · have hk32 : k < 32 := by omega
          have HK : Hid ((0 : Int) ≤ k ∧ (k : Int) ≤ 62) := by unfold Hid; omega
          have HD : Hid (digZ v (k : Int) = (dig v.toNat k : Int)) := by unfold Hid digZ; rw [Int.toNat_natCast]
          have hd2 := dig_lt v.toNat k
          obtain ⟨b, hb⟩ : ∃ b, decide (l ≤ (onesN k : Int) ∧ (onesN k : Int) ≤ h) = b := ⟨_, rfl⟩
          have HBb := Lib.hid hb
          have HBit : Hid (bnBit l h k = b.toNat) := by
            unfold Hid bnBit
            rw [← hb]
            by_cases hh : l ≤ (onesN k : Int) ∧ (onesN k : Int) ≤ h
            · rw [if_pos hh, decide_eq_true hh]; rfl
            · rw [if_neg hh, decide_eq_false hh]; rfl
          clear hb
          by_cases hsame : dig v.toNat k = b.toNat
          · have HN : Hid (∀ j, j < k + 1 → dig v.toNat j = bnBit l h j) := fun j hj => by
              rcases Nat.lt_or_ge j k with h1 | h1
              · exact HA.out j h1
              · have : j = k := by omega
                subst this; rw [HBit.out]; exact hsame
            have hq : (digZ v (k : Int) == 1) = b := by rw [HD.out, hsame]; cases b <;> rfl
            have hnb : (b != b) = false := by cases b <;> rfl
            clear hsame hd2
            go_wp2_with (first | (go_at_call 9; (with_reducible refine (l01Rows_any _ _ n1 n5).mono ?_); rintro e w' ⟨rfl, rfl⟩) | (go_at_call 10; (with_reducible refine (l01At_any _ _ _ _ HV.out.1 HV.out.2 HK.out.1 HK.out.2).mono ?_); rintro e w' ⟨rfl, hb⟩; have hL := chain (B := w.heap.size) (a := w) (by go_grown) (Nat.le_refl _) hb; (first | replace k0 := keepAt hb k0 | replace k0 := keepAt hb (C2.alloc k0 _)); clear hb) | (go_at_call 11; (with_reducible refine (l03Ones_any k _ hk32).mono ?_); rintro e w' ⟨rfl, rfl⟩) | (go_at_call 8; (with_reducible refine (inB_yes _ _ _ _ HBb.out).mono ?_); rintro e w' ⟨rfl, rfl⟩))
            exact ⟨⟨k + 1, by omega, by go_num, by first | assumption | go_grown, k0, HN⟩, by simp [intOf]; omega⟩
          · have hq : (digZ v (k : Int) == 1) = !b := by
              rw [HD.out]
              cases b
              · have : dig v.toNat k = 1 := by have : dig v.toNat k ≠ 0 := hsame
                                               omega
                rw [this]; rfl
              · have : dig v.toNat k = 0 := by have : dig v.toNat k ≠ 1 := hsame
                                               omega
                rw [this]; rfl
            have hnb : ((!b) != b) = true := by cases b <;> rfl
            have HF : Hid (resIsByNumbers_0 n v l h = false) := by
              unfold Hid; rw [HR.out]
              refine decide_eq_false fun ha => hsame ?_
              rw [ha k (by have := Hr.out; omega), HBit.out]
            clear hsame hd2
            go_wp2_with (first | (go_at_call 9; (with_reducible refine (l01Rows_any _ _ n1 n5).mono ?_); rintro e w' ⟨rfl, rfl⟩) | (go_at_call 10; (with_reducible refine (l01At_any _ _ _ _ HV.out.1 HV.out.2 HK.out.1 HK.out.2).mono ?_); rintro e w' ⟨rfl, hb⟩; have hL := chain (B := w.heap.size) (a := w) (by go_grown) (Nat.le_refl _) hb; (first | replace k0 := keepAt hb k0 | replace k0 := keepAt hb (C2.alloc k0 _)); clear hb) | (go_at_call 11; (with_reducible refine (l03Ones_any k _ hk32).mono ?_); rintro e w' ⟨rfl, rfl⟩) | (go_at_call 8; (with_reducible refine (inB_yes _ _ _ _ HBb.out).mono ?_); rintro e w' ⟨rfl, rfl⟩))
            refine bodyPost_ret (v := .tuple #[.bool false, .int .i64 0]) (by simp [results, Tryd.results4, go_sem, *]) rfl ?_
            exact ⟨by rw [HF.out, HC.out], by first | assumption | go_grown⟩
        · have HT2 : Hid (resIsByNumbers_0 n v l h = true) := by
            unfold Hid; rw [HR.out]
            exact decide_eq_true fun j hj => HA.out j (by have := Hr.out; omega)
          go_wp2_with (first | (go_at_call 9; (with_reducible refine (l01Rows_any _ _ n1 n5).mono ?_); rintro e w' ⟨rfl, rfl⟩))
          refine bodyPost_ret (v := .tuple #[.bool true, .int .i64 0]) (by simp [results, Tryd.results4, go_sem, *]) rfl ?_
          exact ⟨by rw [HT2.out, HC.out], by first | assumption | go_grown⟩
    · have HC : Hid (resIsByNumbers_1 n v l h = 2) := by unfold Hid resIsByNumbers_1; rw [if_pos ht, if_neg hok]
      have HR : Hid (resIsByNumbers_0 n v l h = false) := by unfold Hid resIsByNumbers_0; rw [ht, decide_eq_false hok]; rfl
      by_cases hb1 : 0 ≤ l ∧ l ≤ n
      · have HB1 := Lib.hid hb1
        have HB2 : Hid (¬ (0 ≤ h ∧ h ≤ n)) := fun hh2 => hok ⟨hb1, hh2⟩
        clear hok hb1 ht
        go_enter Tryd.func4, Tryd.ntmps4
        go_wp2_with (first | (go_at_call 7; (with_reducible refine (l01Is_b _ _ _ HT.out).mono ?_); rintro e w' ⟨rfl, hb⟩; have hL := chain (B := w.heap.size) (a := w) (by go_grown) (Nat.le_refl _) hb; (first | replace k0 := keepAt hb k0 | replace k0 := keepAt hb (C2.alloc k0 _)); clear hb) | (go_at_call 8; (with_reducible refine (l01In_yes _ _ _ _ HB1.out).mono ?_); rintro e w' ⟨rfl, rfl⟩) | (go_at_call 8; (with_reducible refine (l01In_no _ _ _ _ HB2.out).mono ?_); rintro e w' ⟨rfl, rfl⟩))
        refine bodyPost_ret (v := .tuple #[.bool false, .int .i64 2]) (by simp [results, Tryd.results4, go_sem, *]) rfl ?_
        exact ⟨by rw [HR.out, HC.out], by first | assumption | go_grown⟩
      · have HB1 := Lib.hid hb1
        clear hok hb1 ht
        go_enter Tryd.func4, Tryd.ntmps4
        go_wp2_with (first | (go_at_call 7; (with_reducible refine (l01Is_b _ _ _ HT.out).mono ?_); rintro e w' ⟨rfl, hb⟩; have hL := chain (B := w.heap.size) (a := w) (by go_grown) (Nat.le_refl _) hb; (first | replace k0 := keepAt hb k0 | replace k0 := keepAt hb (C2.alloc k0 _)); clear hb) | (go_at_call 8; (with_reducible refine (l01In_no _ _ _ _ HB1.out).mono ?_); rintro e w' ⟨rfl, rfl⟩))
        refine bodyPost_ret (v := .tuple #[.bool false, .int .i64 2]) (by simp [results, Tryd.results4, go_sem, *]) rfl ?_
        exact ⟨by rw [HR.out, HC.out], by first | assumption | go_grown⟩
  · have ht : isTab n v = false := by simpa using ht
    have HT := Lib.hid ht
    have HC : Hid (resIsByNumbers_1 n v l h = 1) := by unfold Hid resIsByNumbers_1; rw [ht]; rfl
    have HR : Hid (resIsByNumbers_0 n v l h = false) := by unfold Hid resIsByNumbers_0; rw [ht]; rfl
    clear ht
    go_enter Tryd.func4, Tryd.ntmps4
    go_wp2_with (first | (go_at_call 7; (with_reducible refine (l01Is_b _ _ _ HT.out).mono ?_); rintro e w' ⟨rfl, hb⟩; have hL := chain (B := w.heap.size) (a := w) (by go_grown) (Nat.le_refl _) hb; (first | replace k0 := keepAt hb k0 | replace k0 := keepAt hb (C2.alloc k0 _)); clear hb))
    refine bodyPost_ret (v := .tuple #[.bool false, .int .i64 1]) (by simp [results, Tryd.results4, go_sem, *]) rfl ?_
    exact ⟨by rw [HR.out, HC.out], by first | assumption | go_grown⟩

end Go.Proofs.YtlcfecccpbeofabDoor
