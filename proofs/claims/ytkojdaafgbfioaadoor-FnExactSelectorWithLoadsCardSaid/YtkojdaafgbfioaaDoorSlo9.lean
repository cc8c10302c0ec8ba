/- SelectorLoads: both contracts. -/
import Derived.Test.YtkojdaafgbfioaaDoorSts
import Derived.Test.YtkojdaafgbfioaaDoorSeI
import Derived.Test.YtkojdaafgbfioaaDoorSeS
import Derived.Test.YtkojdaafgbfioaaDoorIn
import Derived.Test.YtkojdaafgbfioaaDoorSl
import Derived.Test.YtkojdaafgbfioaaDoorBrM
import Derived.Test.YtkojdaafgbfioaaDoorPolM
import Derived.LoopTactic
import Derived.Lib.Strings
import Derived.Lib.Slices
import Derived.Lib.Walk
import Derived.Lib.Bytealg
namespace Go.Proofs.YtkojdaafgbfioaaDoor
open Go.RowKit
set_option linter.unusedVariables false

/-- how often a byte stands in the first k bytes of a text -/
def cntTo (s : ByteArray) (c : Int) : Nat → Nat
  | 0 => 0
  | k + 1 => cntTo s c k + (if byteAt s k = c then 1 else 0)
theorem cntTo_le (s : ByteArray) (c : Int) (k : Nat) : cntTo s c k ≤ k := by
  induction k with
  | zero => exact Nat.le_refl _
  | succ k ih => simp only [cntTo]; split <;> omega
theorem count_take (s : ByteArray) (c : UInt8) : ∀ k, k ≤ s.size → (s.data.toList.take k).count c = cntTo s (c.toNat : Int) k := by
  intro k
  induction k with
  | zero => intro _; simp [cntTo]
  | succ k ih =>
    intro hk
    have hk2 : k < s.data.toList.length := by rw [Array.length_toList]; exact hk
    have hb : byteAt s k = ((s.data.toList[k]).toNat : Int) := by rw [byteAt_eq s k hk]; rfl
    rw [List.take_succ_eq_append_getElem hk2, List.count_append, ih (by omega), List.count_singleton]
    simp only [cntTo]
    rw [hb]
    by_cases e : s.data.toList[k] = c
    · rw [e]; simp
    · have h2 : ¬ ((s.data.toList[k]).toNat : Int) = (c.toNat : Int) := fun h => e (UInt8.toNat_inj.1 (by omega))
      rw [if_neg h2, if_neg (by simpa using e)]
theorem count_all (s : ByteArray) (c : UInt8) : Lib.countByte s.data.toList c = cntTo s (c.toNat : Int) s.size := by
  have h := count_take s c s.size (Nat.le_refl _)
  rw [List.take_of_length_le (by rw [Array.length_toList]; exact Nat.le_refl _)] at h
  exact h

set_option maxRecDepth 100000 in
set_option maxHeartbeats 1000000 in
theorem countOne_any (s : ByteArray) (i : Nat) (w : World) (h : i < 5) :
    Calls Tryd.prog 35 #[.string s, .string (strZ [48 + (i : Int)])] w fun e w' => e = .returned (.int .i64 ((cntTo s (48 + (i : Int)) s.size : Nat) : Int)) ∧ w = w' := by
  have e : strZ [48 + (i : Int)] = ⟨#[u8 (48 + (i : Int))]⟩ := rfl
  have hc := count_all s (u8 (48 + (i : Int)))
  rw [u8_nat (by omega) (by omega)] at hc
  rw [e, ← hc]
  generalize u8 (48 + (i : Int)) = c at *
  clear hc e
  go_enter Tryd.func35, Tryd.ntmps35
  go_wp2
  rw [run_callFunc_extern Tryd.func43 (by kernel_rfl) (by kernel_rfl) (by kernel_rfl) (e := Extern.BytealgCount.count) (by kernel_rfl), Lib.run_countString]
  simp only [Result.andThen]
  rw [Oper.upon_value]
  go_wp2
  go_ret
  exact ⟨rfl, rfl⟩

theorem intItoa_any (n : Nat) (w : World) (h : n < 5) :
    Calls Tryd.prog 45 #[.int .i64 (n : Int)] w fun e w' => e = .returned (.string (strZ [48 + (n : Int)])) ∧ w = w' := by
  have HS := Lib.hid (fun w => intFormat_any n w h)
  generalize (n : Int) = x at *
  go_enter Tryd.func45, Tryd.ntmps45
  go_wp2_with (go_at_call 41; (with_reducible refine (HS.out _).mono ?_); rintro e w' ⟨rfl, rfl⟩)
  go_ret
  exact ⟨rfl, rfl⟩
theorem itoa_any (n : Nat) (w : World) (h : n < 5) :
    Calls Tryd.prog 36 #[.int .i64 (n : Int)] w fun e w' => e = .returned (.string (strZ [48 + (n : Int)])) ∧ w = w' := by
  have HS := Lib.hid (fun w => intItoa_any n w h)
  generalize (n : Int) = x at *
  go_enter Tryd.func36, Tryd.ntmps36
  go_wp2_with (go_at_call 45; (with_reducible refine (HS.out _).mono ?_); rintro e w' ⟨rfl, rfl⟩)
  go_ret
  exact ⟨rfl, rfl⟩

/-- each sign of a selector is an end or a digit of its inputs -/
theorem sel_signs (m : Nat) : ∀ {L : Nat} {u : ByteArray}, SelU m L u → L < 32 → ∀ j, j < u.size → byteAt u j = 46 ∨ ∃ d : Nat, d < 5 ∧ byteAt u j = 48 + (d : Int) ∧ dig L d = 1 := by
  induction m with
  | zero =>
    intro L u hu _ j hj
    left
    have e := hu.leaf
    have h1 : u.size = 1 := hu.1
    have : j = 0 := by omega
    subst this
    rw [e]; rfl
  | succ m ih =>
    intro L u hu hL j hj
    obtain ⟨⟨b0, b1, hd, hde⟩, hbit, hlo, hhi⟩ := hu.fork
    obtain ⟨h3, h4, h5⟩ := sub_dig hL hd hbit
    have hs := hu.1
    rw [lenT_succ] at hs
    have sub : ∀ d, d < 5 → dig (L - 2 ^ dgt u 0) d = 1 → dig L d = 1 := fun d h5' h1 => by
      by_cases e : d = dgt u 0
      · rw [e]; exact hbit
      · rw [← h5 d h5' e]; exact h1
    rcases Nat.eq_zero_or_pos j with rfl | hp
    · right
      exact ⟨dgt u 0, hd, by omega, hbit⟩
    · by_cases hlt : j < 1 + lenT m
      · have hb : byteAt (loU m u) (j - 1) = byteAt u j := by
          unfold loU
          rw [byteAt_extract _ _ _ _ (by omega) (by omega)]; congr 1; omega
        rcases ih hlo h3 (j - 1) (by rw [hlo.1]; omega) with h | ⟨d, a, b, c⟩
        · left; rw [← hb]; exact h
        · right; exact ⟨d, a, by rw [← hb]; exact b, sub d a c⟩
      · have hb : byteAt (hiU m u) (j - (1 + lenT m)) = byteAt u j := by
          unfold hiU
          rw [byteAt_extract _ _ _ _ (by omega) (by omega)]; congr 1; omega
        rcases ih hhi h3 (j - (1 + lenT m)) (by rw [hhi.1]; omega) with h | ⟨d, a, b, c⟩
        · left; rw [← hb]; exact h
        · right; exact ⟨d, a, by rw [← hb]; exact b, sub d a c⟩
theorem dig_below {n d : Nat} (h : dig (2 ^ n - 1) d = 1) : d < n := by
  rcases Nat.lt_or_ge d n with h2 | h2
  · exact h2
  · have hp := Nat.two_pow_pos n
    have : 2 ^ n - 1 < 2 ^ d := Nat.lt_of_lt_of_le (by omega) (Nat.pow_le_pow_right (by decide) h2)
    unfold dig at h
    rw [Nat.div_eq_of_lt this] at h; omega

theorem ownsL_cell {w : World} {base b cap N : Nat} {xs : List Int} (h : Owns w base (.slice (some ⟨b, 0, none⟩) N cap) xs) (hl : xs.length = N) (k : Nat) (hk : k < N) : w.cell? ⟨b, k, none⟩ = some (.int .i64 (xs.getD k 0)) ∧ w.frozen? ⟨b, k, none⟩ = false := by
  subst hl
  refine ⟨?_, World.ownsRow.frozenAt h k⟩
  have := World.ownsRow.cellAt h k (by omega)
  rw [this]
  simp [hk, List.getD_eq_getElem?_getD]
theorem ownsL_store {w : World} {base b cap N : Nat} {xs : List Int} (h : Owns w base (.slice (some ⟨b, 0, none⟩) N cap) xs) (hl : xs.length = N) (k : Nat) (x : Int) : Owns (w.setCell ⟨b, k, none⟩ (.int .i64 x)) base (.slice (some ⟨b, 0, none⟩) N cap) (xs.set k x) := by
  subst hl
  have := (World.ownsRow.stored h k (.int .i64 x)).1
  rw [← List.map_set] at this
  unfold Owns
  rw [List.length_set]
  exact this
theorem made_zeroL (m : Nat) : (madeCells (Value.int .i64 0).cells (m * 1)).toList = (listF m (fun _ => 0)).map (Value.int .i64) := by
  simp only [madeCells, Value.cells, Nat.mul_one]
  apply List.ext_getElem
  · simp [listF]
  · intro i h1 h2
    simp [listF, Nat.mod_one]
/-- the loads of the inputs, k of them done -/
def ldsF (s : ByteArray) (k a : Nat) : Int := if a < k then ((cntTo s (48 + (a : Int)) s.size : Nat) : Int) else 0
theorem lds_step (s : ByteArray) {N k : Nat} (hk : k < N) : (listF N (ldsF s k)).set k ((cntTo s (48 + (k : Int)) s.size : Nat) : Int) = listF N (ldsF s (k + 1)) := by
  rw [listF_set _ _ _ _ hk]
  refine listF_congr fun a ha => ?_
  unfold ldsF
  by_cases h : a = k
  · subst h; rw [if_pos rfl, if_pos (by omega)]
  · rw [if_neg h]
    by_cases h2 : a < k
    · rw [if_pos h2, if_pos (by omega)]
    · rw [if_neg h2, if_neg (by omega)]
def ldsL (s : ByteArray) (N : Nat) : List Int := listF N (fun a => ((cntTo s (48 + (a : Int)) s.size : Nat) : Int))
theorem lds_all (s : ByteArray) (N : Nat) : listF N (ldsF s N) = ldsL s N := by
  refine listF_congr fun a ha => ?_
  unfold ldsF; rw [if_pos ha]
theorem lds_none (s : ByteArray) (N : Nat) : listF N (ldsF s 0) = listF N (fun _ => 0) := by
  refine listF_congr fun a ha => ?_
  unfold ldsF; rw [if_neg (by omega)]

set_option maxRecDepth 100000 in
set_option maxHeartbeats 2000000 in
theorem selectorLoads_any (N : Nat) (s : ByteArray) (w : World) (n5 : N ≤ 5) :
    Calls Tryd.prog 25 #[.int .i64 (N : Int), .string s] w fun e w' => ∃ q, e = .returned q ∧ Owns w' w.heap.size q (ldsL s N) ∧ Below w.heap.size w w' := by
  obtain ⟨i0, hi, hz0, hz1, hz2⟩ := info_parts info64
  have HI := Lib.hid (fun (i : Nat) (h : i < 5) w => itoa_any i w h)
  have HC := Lib.hid (fun (i : Nat) (h : i < 5) w => countOne_any s i w h)
  have hN0 : (0 : Int) ≤ (N : Int) := by omega
  go_enter Tryd.func25, Tryd.ntmps25
  go_wp2_with (at_make; refine wpList_make_full _ rfl _ _ 22 rfl w.heap.size 2 i0 (.int .i64 0) 1 Tryd.underlying22 hi hz0 hz1 .i64 .i64 (N : Int) (N : Int) N rfl rfl rfl rfl (by rw [hz2]; omega) (by unfold maxLen; omega) (Nat.le_refl _) ?_; intro w2 oo hgr; have hL2 := Below.grown (Below.refl w.heap.size w) hgr (Nat.le_refl _) (by simp))
  have oo' : Owns w2 w.heap.size (.slice (some ⟨w.heap.size, 0, none⟩) N N) (listF N (ldsF s 0)) := by
    rw [lds_none]; unfold Owns; rw [listF_len]; rw [made_zeroL] at oo; exact oo
  generalize hG : w.heap.size = G at *
  have HG := Lib.hid hG
  clear oo hgr hi hz0 hz1 hz2 hG
  go_loopw [11] (fun c wr => ∃ k : Nat, k ≤ N ∧ c = .int .i64 (k : Int) ∧ Below G w wr ∧ Owns wr G (.slice (some ⟨G, 0, none⟩) N N) (listF N (ldsF s k))) (fun c _ => N - (intOf c).toNat)
  case atStart => exact ⟨0, Nat.zero_le _, rfl, hL2, oo'⟩
  case round =>
    clear hL2 oo'
    obtain ⟨k, hk, rfl, hL, oo⟩ := hrel
    by_cases hlt : k < N
    · have hi1 : (k : Int) < (N : Int) := by omega
      have hi0 : (0 : Int) ≤ (k : Int) := by omega
      obtain ⟨hc1, hc2⟩ := ownsL_cell oo (listF_len _ _) k hlt
      have HO := Lib.hid oo
      have HI2 := Lib.hid (HI.out k (by omega))
      have HC2 := Lib.hid (HC.out k (by omega))
      have HS := Lib.hid (lds_step s hlt)
      clear oo
      generalize (listF N (ldsF s k)).getD k 0 = y at *
      go_wp2_with (first | (go_at_call 36; (with_reducible refine (HI2.out _).mono ?_); rintro e w3 ⟨rfl, rfl⟩) | (go_at_call 35; (with_reducible refine (HC2.out _).mono ?_); rintro e w4 ⟨rfl, rfl⟩))
      exact ⟨⟨k + 1, by omega, by go_num, hL.setCell (p := ⟨G, k, none⟩) (Nat.le_refl _) _, by rw [← HS.out]; exact ownsL_store HO.out (listF_len _ _) k _⟩, by simp [intOf]; omega⟩
    · have e : k = N := by omega
      subst e
      rw [lds_all] at oo
      go_wp2_with fail
      go_ret
      exact ⟨_, rfl, by rw [HG.out]; exact oo, by rw [HG.out]; exact hL⟩

/-- the loads as the model's loop has them after k signs -/
def cntL (s : ByteArray) (N k : Nat) : List Int := listF N (fun a => ((cntTo s (48 + (a : Int)) k : Nat) : Int))
theorem cnt_hit {s : ByteArray} {N k d : Nat} (hd : d < N) (hb : byteAt s k = 48 + (d : Int)) : (cntL s N k).set d (((cntTo s (48 + (d : Int)) k : Nat) : Int) + 1) = cntL s N (k + 1) := by
  unfold cntL
  rw [listF_set _ _ _ _ hd]
  refine listF_congr fun a ha => ?_
  by_cases h : a = d
  · subst h; rw [if_pos rfl]; simp only [cntTo]; rw [if_pos hb]; omega
  · rw [if_neg h]; simp only [cntTo]; rw [if_neg (by omega)]; rfl
theorem cnt_miss {s : ByteArray} {N k : Nat} (hb : byteAt s k = 46) : cntL s N (k + 1) = cntL s N k := by
  unfold cntL
  refine listF_congr fun a ha => ?_
  simp only [cntTo]; rw [if_neg (by omega)]; rfl
theorem cnt_zero (s : ByteArray) (N : Nat) : cntL s N 0 = listF N (fun _ => 0) := rfl

set_option maxRecDepth 100000 in
set_option maxHeartbeats 2000000 in
theorem l09Loads_any (N : Nat) (s : ByteArray) (w : World) (n1 : 1 ≤ N) (n5 : N ≤ 5) (hs : SelU N (2 ^ N - 1) s) :
    Calls Tryd.prog 16 #[.int .i64 (N : Int), .string s] w fun e w' => ∃ q, e = .returned q ∧ Owns w' w.heap.size q (ldsL s N) ∧ Below w.heap.size w w' := by
  obtain ⟨i0, hi, hz0, hz1, hz2⟩ := info_parts info64
  have hL32 : 2 ^ N - 1 < 32 := by have := pow5' n5; have := Nat.two_pow_pos N; omega
  have HSg := Lib.hid (sel_signs N hs hL32)
  have hz63 : s.size ≤ 63 := by rw [hs.1]; exact lenT_le n5
  have hN0 : (0 : Int) ≤ (N : Int) := by omega
  have HAll : Hid (cntL s N s.size = ldsL s N) := rfl
  clear hs hL32
  go_enter Tryd.func16, Tryd.ntmps16
  go_wp2_with (at_make; refine wpList_make_full _ rfl _ _ 22 rfl w.heap.size 2 i0 (.int .i64 0) 1 Tryd.underlying22 hi hz0 hz1 .i64 .i64 (N : Int) (N : Int) N rfl rfl rfl rfl (by rw [hz2]; omega) (by unfold maxLen; omega) (Nat.le_refl _) ?_; intro w2 oo hgr; have hL2 := Below.grown (Below.refl w.heap.size w) hgr (Nat.le_refl _) (by simp))
  have oo' : Owns w2 w.heap.size (.slice (some ⟨w.heap.size, 0, none⟩) N N) (cntL s N 0) := by
    rw [cnt_zero]; unfold Owns; rw [listF_len]; rw [made_zeroL] at oo; exact oo
  generalize hG : w.heap.size = G at *
  have HG := Lib.hid hG
  clear oo hgr hi hz0 hz1 hz2 hG
  obtain ⟨M, hM⟩ : ∃ M, s.size = M := ⟨_, rfl⟩
  have HM := Lib.hid hM
  go_loopw [6] (fun c wr => ∃ k : Nat, k ≤ s.size ∧ c = .int .i64 (k : Int) ∧ Below G w wr ∧ Owns wr G (.slice (some ⟨G, 0, none⟩) N N) (cntL s N k)) (fun c _ => M - (intOf c).toNat)
  case atStart => exact ⟨0, Nat.zero_le _, rfl, hL2, oo'⟩
  case round =>
    clear hL2 oo' hM
    obtain ⟨k, hk, rfl, hL, oo⟩ := hrel
    by_cases hlt : k < s.size
    · have hi1 : (k : Int) < (s.size : Int) := by omega
      have hi0 : (0 : Int) ≤ (k : Int) := by omega
      have hby := byteAt_eq s k hlt
      rcases HSg.out k hlt with h46 | ⟨d, hd5, hbd, hdig⟩
      · have HS := Lib.hid (cnt_miss (N := N) h46)
        have ne : ((s[k].toNat : Int) != 46) = false := by rw [← hby, h46]; rfl
        have HO := Lib.hid oo
        clear hby h46 oo
        go_wp2_with fail
        exact ⟨⟨k + 1, by omega, by go_num, hL, by rw [HS.out]; exact HO.out⟩, by have := HM.out; simp [intOf]; omega⟩
      · have hdN := dig_below hdig
        have HS := Lib.hid (cnt_hit hdN hbd)
        have ne : ((s[k].toNat : Int) != 46) = true := by
          rw [← hby, hbd]
          have : (48 + (d : Int)) ≠ 46 := by omega
          simpa using this
        have hw8 : ((s[k].toNat : Int) - 48) % 256 = (d : Int) := by rw [← hby, hbd]; omega
        obtain ⟨hc1, hc2⟩ := ownsL_cell oo (listF_len _ _) d hdN
        have hget : (cntL s N k).getD d 0 = ((cntTo s (48 + (d : Int)) k : Nat) : Int) := listF_get _ _ _ hdN
        have hcl := cntTo_le s (48 + (d : Int)) k
        rw [hget] at hc1
        have hy0 : (0 : Int) ≤ ((cntTo s (48 + (d : Int)) k : Nat) : Int) := by omega
        have hy1 : ((cntTo s (48 + (d : Int)) k : Nat) : Int) ≤ 63 := by omega
        have hd1 : (d : Int) < (N : Int) := by omega
        have hd0 : (0 : Int) ≤ (d : Int) := by omega
        have HO := Lib.hid oo
        generalize ((cntTo s (48 + (d : Int)) k : Nat) : Int) = y at *
        clear hby hbd oo hget hcl hdig
        go_wp2_with fail
        exact ⟨⟨k + 1, by omega, by go_num, hL.setCell (p := ⟨G, d, none⟩) (Nat.le_refl _) _, by rw [← HS.out]; exact ownsL_store HO.out (listF_len _ _) d _⟩, by have := HM.out; simp [intOf]; omega⟩
    · have e : k = s.size := by omega
      rw [e, HAll.out] at oo
      have hin : ¬ (k : Int) < (s.size : Int) := by omega
      clear e
      go_wp2_with fail
      go_ret
      exact ⟨_, rfl, by rw [HG.out]; exact oo, by rw [HG.out]; exact hL⟩

def resSelectorLoads_0 (n : Int) (s : ByteArray) : List Int := if isSel n s = true then ldsL s n.toNat else []
def resSelectorLoads_1 (n : Int) (s : ByteArray) : Int := if isSel n s = true then 0 else 2
theorem resSl_in {n : Int} {s : ByteArray} (h : isSel n s = true) : resSelectorLoads_0 n s = ldsL s n.toNat ∧ resSelectorLoads_1 n s = 0 := ⟨if_pos h, if_pos h⟩
theorem resSl_out {n : Int} {s : ByteArray} (h : isSel n s = false) : resSelectorLoads_0 n s = [] ∧ resSelectorLoads_1 n s = 2 := ⟨if_neg (by rw [h]; decide), if_neg (by rw [h]; decide)⟩
theorem lenSelectorLoads_0 (n : Int) (s : ByteArray) : (resSelectorLoads_0 n s).length ≤ 100000 := by
  cases h : isSel n s
  · rw [(resSl_out h).1]; simp
  · rw [(resSl_in h).1]
    have := (isSel_out h).1
    unfold ldsL; rw [listF_len]; omega

end Go.Proofs.YtkojdaafgbfioaaDoor
