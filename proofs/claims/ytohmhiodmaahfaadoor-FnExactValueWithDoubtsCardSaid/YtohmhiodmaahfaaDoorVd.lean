/- ValueWithDoubts: both contracts. -/
import Derived.Test.YtohmhiodmaahfaaDoorVdS
import Derived.Test.YtohmhiodmaahfaaDoorRfA
import Derived.Test.YtohmhiodmaahfaaDoorByt
import Derived.Test.YtohmhiodmaahfaaDoorC4
import Derived.Deep.RegionWith
namespace Go.Proofs.YtohmhiodmaahfaaDoor
open Go.RowKit
set_option linter.unusedVariables false

theorem fm_some {s : ByteArray} {t : Fm} (h : fmOf s = some t) : wfF t ∧ s = txtS t ∧ (txtF t).length ≤ 80 := by
  unfold fmOf at h
  split at h
  · obtain ⟨h1, h2, h3⟩ := wholeF_iff.1 h
    exact ⟨h1, txtS_eq h1 h2 h3, by omega⟩
  · cases h

set_option maxRecDepth 100000 in
set_option maxHeartbeats 2000000 in
theorem placesOf_any (s c : ByteArray) (g : Int → Bool) (hs : s.size = 5) (hg : ∀ i, i < 5 → (0 ≤ Lib.indexByte c.data.toList (byteAt s i).toNat.toUInt8 ↔ g (byteAt s i) = true)) (w : World) :
    Calls Tryd.prog 32 #[.string s, .string c] w fun e w' => e = .returned (.int .i64 (plc g s)) ∧ w = w' := by
  have HG := Lib.hid hg
  have HI := Lib.hid (fun (x : Int) (w : World) => stringsIndexByte c x w (r := Lib.indexByte c.data.toList x.toNat.toUInt8) rfl)
  have HP : Hid (plc g s = ((setOf (fun i => g (byteAt s i)) 5 : Nat) : Int)) := rfl
  have HLT := Lib.hid (fun k => setOf_lt (fun i => g (byteAt s i)) k)
  have H0 : Hid (setOf (fun i => g (byteAt s i)) 0 = 0) := rfl
  have HY := Lib.hid (fun k (h : g (byteAt s k) = true) => setOf_hit (fun i => g (byteAt s i)) k h)
  have HN := Lib.hid (fun k (h : g (byteAt s k) = false) => setOf_miss (fun i => g (byteAt s i)) k h)
  have hs5 : (s.size : Int) = 5 := by omega
  clear hg
  go_enter Tryd.func32, Tryd.ntmps32
  go_wp2_with fail
  go_loopw [5, 9] (fun a c wr => ∃ k : Nat, k ≤ 5 ∧ c = .int .i64 (k : Int) ∧ a = .int .i64 ((setOf (fun i => g (byteAt s i)) k : Nat) : Int) ∧ w = wr) (fun _ c _ => 5 - (intOf c).toNat)
  case atStart => exact ⟨0, Nat.zero_le _, rfl, rfl, rfl⟩
  case round =>
    obtain ⟨k, hk, rfl, rfl, rfl⟩ := hrel
    by_cases hlt : k < 5
    · have hk1 : (k : Int) < 5 := by omega
      have hk0 : (0 : Int) ≤ (k : Int) := by omega
      have hks : k < s.size := by omega
      have hb := byteAt_eq s k hks
      have hgk := HG.out k hlt
      have HIk := Lib.hid (fun w => HI.out (byteAt s k) w)
      have hR := HLT.out k
      have h32 : 2 ^ k ≤ 2 ^ 5 := Nat.pow_le_pow_right (by decide) (by omega)
      cases hx : g (byteAt s k)
      · have HNk := Lib.hid (HN.out k hx)
        have hneg : ¬ 0 ≤ Lib.indexByte c.data.toList (byteAt s k).toNat.toUInt8 := fun h => by rw [hgk.1 h] at hx; cases hx
        clear hgk hx HI HG HY HN HLT H0 hR h32
        generalize Lib.indexByte c.data.toList (byteAt s k).toNat.toUInt8 = r at *
        rw [hb] at HIk
        clear hb
        generalize setOf (fun i => g (byteAt s i)) k = R at *
        go_wp2_with (go_at_call 67; refine (HIk.out _).mono ?_; rintro e w' ⟨rfl, rfl⟩)
        clear hneg
        exact ⟨⟨k + 1, by omega, by go_num, by rw [HNk.out], trivial⟩, by simp [intOf]; omega⟩
      · have HYk := HY.out k hx
        have hpos := hgk.2 hx
        have HO : bits .or .i64 ((setOf (fun i => g (byteAt s i)) k : Nat) : Int) (2 ^ k) = ((setOf (fun i => g (byteAt s i)) (k + 1) : Nat) : Int) := by
          have e : ((2 : Int) ^ k) = ((2 ^ k : Nat) : Int) := by simp
          rw [e, i64_or _ _ (by omega) (by omega), HYk]
        clear hgk hx HI HG HY HN HLT H0 HYk h32 hR
        generalize Lib.indexByte c.data.toList (byteAt s k).toNat.toUInt8 = r at *
        rw [hb] at HIk
        clear hb
        obtain ⟨R2, hR2⟩ : ∃ R2, setOf (fun i => g (byteAt s i)) (k + 1) = R2 := ⟨_, rfl⟩
        rw [hR2] at HO
        have HR2 := Lib.hid hR2
        clear hR2
        generalize setOf (fun i => g (byteAt s i)) k = R at *
        have hp : IntKind.i64.wrap (2 ^ k) = 2 ^ k ∧ wrap64 (2 ^ k) = 2 ^ k := by
          have key : ∀ k : Fin 5, IntKind.i64.wrap (2 ^ k.val) = 2 ^ k.val ∧ wrap64 (2 ^ k.val) = 2 ^ k.val := by decide +kernel
          exact key ⟨k, hlt⟩
        obtain ⟨hp1, hp2⟩ := hp
        go_wp2_with (go_at_call 67; refine (HIk.out _).mono ?_; rintro e w' ⟨rfl, rfl⟩)
        clear hp1 hp2 HO hpos
        exact ⟨⟨k + 1, by omega, by go_num, by rw [HR2.out], trivial⟩, by simp [intOf]; omega⟩
    · have e : k = 5 := by omega
      subst e
      go_wp2_with fail
      go_ret
      exact ⟨by rw [HP.out]; rfl, rfl⟩

theorem ib_one (i : Nat) (s : ByteArray) (h : byteAt s i = 48 ∨ byteAt s i = 49 ∨ byteAt s i = 63) : (0 ≤ Lib.indexByte (⟨#[49]⟩ : ByteArray).data.toList (byteAt s i).toNat.toUInt8 ↔ isOne (byteAt s i) = true) := by
  rcases h with e | e | e <;> rw [e] <;> decide
theorem ib_oneQ (i : Nat) (s : ByteArray) (h : byteAt s i = 48 ∨ byteAt s i = 49 ∨ byteAt s i = 63) : (0 ≤ Lib.indexByte (⟨#[49, 63]⟩ : ByteArray).data.toList (byteAt s i).toNat.toUInt8 ↔ isOneQ (byteAt s i) = true) := by
  rcases h with e | e | e <;> rw [e] <;> decide
theorem dbt_out {s : ByteArray} (h : isDbt s = true) : s.size = 5 ∧ ∀ i, i < 5 → byteAt s i = 48 ∨ byteAt s i = 49 ∨ byteAt s i = 63 := by
  unfold isDbt at h
  rw [Bool.and_eq_true, decide_eq_true_iff] at h
  exact ⟨h.1, fun i hi => dbt_iff.1 h.2 i (by omega)⟩

set_option maxRecDepth 100000 in
set_option maxHeartbeats 4000000 in
theorem iValueWithDoubts_any (v : ByteArray) (hv : v.size ≤ 1048576) (s : ByteArray) (hs : s.size ≤ 1048576) (w : World) :
    Calls Tryd.prog 10 #[.string v, .string s] w fun e w' => e = .returned (.tuple #[.int .i64 (resValueWithDoubts_0 v s), .int .i64 (resValueWithDoubts_1 v s)]) ∧ Below w.heap.size w w' := by
  unfold resValueWithDoubts_0 resValueWithDoubts_1
  have hs63 : s.size ≤ 9223372036854775807 := by omega
  cases hR : fmOf v with
  | none =>
    rw [vdo_none hR]
    have HC := Lib.hid (fun w => readFormula_any v w hR)
    clear hR
    go_enter Tryd.func10, Tryd.ntmps10
    go_wp2_with (go_at_call 30; (with_reducible refine (HC.out _).mono ?_); rintro e w1 ⟨c, a0, n0, cap0, b, rfl, rfl, hh, hL⟩; clear hh; have hz := hL.size)
    go_ret2
    exact ⟨rfl, by go_grown⟩
  | some t =>
    obtain ⟨hw, hst, h80⟩ := fm_some hR
    have HC := Lib.hid (fun w => readFormula_any v w hR)
    have HH := Lib.hid (fun w => hasSignsOf_any s ⟨#[48, 49, 63]⟩ w hs (by decide) (by decide))
    cases hd : isDbt s
    · rw [vdo_out hR hd]
      clear hR hw hst h80
      go_enter Tryd.func10, Tryd.ntmps10
      go_wp2_with fail
      refine (HC.out _).mono ?_
      rintro e w1 ⟨c, a0, n0, cap0, b, rfl, rfl, hh, hL⟩
      obtain ⟨rfl, rfl, bt, hh⟩ := hh t rfl
      clear hh
      have hz := hL.size
      by_cases h5 : s.size = 5
      · have hq : ((s.size : Int) != 5) = false := by rw [h5]; rfl
        have HX : Hid (∀ w, Calls Tryd.prog 31 #[.string s, .string ⟨#[48, 49, 63]⟩] w fun e w' => e = .returned (.bool false) ∧ Below w.heap.size w w') := fun w => by
          have h2 : allIn s [48, 49, 63] = false := by
            unfold isDbt at hd
            rw [decide_eq_true h5, Bool.true_and] at hd
            exact hd
          have := HH.out w
          rw [show allIn s (⟨#[48, 49, 63]⟩ : ByteArray).data.toList = false from h2] at this
          exact this
        clear hd h5 HH
        go_wp2_with (go_at_call 31; (with_reducible refine (HX.out _).mono ?_); rintro e w2 ⟨rfl, hb⟩; have hL2 := chain (B := w.heap.size) (a := w) (hL.alloc hz _) (Nat.le_refl _) hb)
        go_ret2
        exact ⟨rfl, hL2⟩
      · have hq : ((s.size : Int) != 5) = true := by simp; omega
        clear hd h5 HH
        go_wp2_with fail
        go_ret2
        exact ⟨rfl, by go_grown⟩
    · obtain ⟨h5, hsg⟩ := dbt_out hd
      rw [vdo_in hR hd]
      have hq : ((s.size : Int) != 5) = false := by rw [h5]; rfl
      have HX : Hid (∀ w, Calls Tryd.prog 31 #[.string s, .string ⟨#[48, 49, 63]⟩] w fun e w' => e = .returned (.bool true) ∧ Below w.heap.size w w') := fun w => by
        have h2 : allIn s [48, 49, 63] = true := by
          unfold isDbt at hd
          rw [Bool.and_eq_true] at hd
          exact hd.2
        have := HH.out w
        rw [show allIn s (⟨#[48, 49, 63]⟩ : ByteArray).data.toList = true from h2] at this
        exact this
      have HP1 := Lib.hid (fun w => placesOf_any s ⟨#[49]⟩ isOne h5 (fun i hi => ib_one i s (hsg i hi)) w)
      have HP2 := Lib.hid (fun w => placesOf_any s ⟨#[49, 63]⟩ isOneQ h5 (fun i hi => ib_oneQ i s (hsg i hi)) w)
      have b1 := plc_bd isOne s
      have b2 := plc_bd isOneQ s
      have HV := vd_val hsg hw
      have HG : Hid (∀ (w : World) (B : Nat) (va : Option Addr) (vc : Nat) (bs : List Nat), Hold w B (.slice va t.members.length vc) t.members bs → Calls Tryd.prog 33 #[.agg #[.int .u8 t.sign, .slice va t.members.length vc, .int .i64 (plc isOne s), .int .i64 (plc isOneQ s)]] w fun e w' => e = .returned (.int .i64 (b2i (valF (leafD s false) t))) ∧ Below w.heap.size w w') := fun w B va vc bs hh => by
        rw [← HV.1]; exact inGap_any _ _ b1.1 b1.2 b2.1 b2.2 w hw (by omega) hh
      have HB : Hid (∀ (w : World) (B : Nat) (va : Option Addr) (vc : Nat) (bs : List Nat), Hold w B (.slice va t.members.length vc) t.members bs → Calls Tryd.prog 34 #[.agg #[.int .u8 t.sign, .slice va t.members.length vc, .int .i64 (plc isOne s), .int .i64 (plc isOneQ s)]] w fun e w' => e = .returned (.int .i64 (b2i (valF (leafD s true) t))) ∧ Below w.heap.size w w') := fun w B va vc bs hh => by
        rw [← HV.2]; exact inBridge_any _ _ b1.1 b1.2 b2.1 b2.2 w hw (by omega) hh
      clear hR hd hst h80 HV hw b1 b2 hsg HH h5
      generalize plc isOne s = P1 at *
      generalize plc isOneQ s = P2 at *
      obtain ⟨x, hx⟩ : ∃ x, valF (leafD s false) t = x := ⟨_, rfl⟩
      obtain ⟨y, hy⟩ : ∃ y, valF (leafD s true) t = y := ⟨_, rfl⟩
      rw [hx] at HG
      rw [hy] at HB
      rw [hx, hy]
      clear hx hy
      go_enter Tryd.func10, Tryd.ntmps10
      go_wp2_with fail
      refine (HC.out _).mono ?_
      rintro e w1 ⟨c, a0, n0, cap0, b, rfl, rfl, hh, hL⟩
      obtain ⟨rfl, rfl, bt, hh⟩ := hh t rfl
      have HHo := Lib.hid (fun wx (h : Below w1.heap.size w1 wx) => hh.keep h)
      have hz := hL.size
      clear hh
      have kf := C2.here w1 (.int .u8 t.sign) (.slice a0 t.members.length cap0) 50
      have hLf : Below w1.heap.size w1 (w1.alloc (.cells #[.int .u8 t.sign, .slice a0 t.members.length cap0] 50)) := by go_grown
      go_wp2_with (go_at_call 31; (with_reducible refine (HX.out _).mono ?_); rintro e w2 ⟨rfl, hb⟩; have hL2 := chain (B := w.heap.size) (a := w) (hL.alloc hz (.cells #[.int .u8 t.sign, .slice a0 t.members.length cap0] 50)) (Nat.le_refl _) hb; replace kf := keepAt hb kf; replace hLf := chain (B := w1.heap.size) (a := w1) hLf (Nat.le_refl _) hb; clear hb)
      have hzf := hLf.size
      clear HC HX
      have hzw := hL2.size
      go_cut [8] (fun s8 wx => s8 = .pointer (some ⟨w2.heap.size, 0, none⟩) ∧ Hid (C4 wx w2.heap.size (.int .u8 t.sign) (.slice a0 t.members.length cap0) (.int .i64 P1) (.int .i64 P2)) ∧ Hid (Below w1.heap.size w1 wx) ∧ Hid (Below w.heap.size w wx))
      case first =>
        go_region_with (go_at_call 32; (first | (with_reducible refine (HP1.out _).mono ?_) | (with_reducible refine (HP2.out _).mono ?_)); rintro e w' ⟨rfl, rfl⟩)
        all_goals (go_wp2_with fail; go_meet; exact ⟨rfl, C4.here w2 _ _ _ _ _, (hLf.alloc hzf _).drew, (hL2.alloc hzw _).drew⟩)
      case rest =>
      obtain ⟨rfl, hk4, hLf2, hLw⟩ := hcut
      have k4 := hk4.out
      clear kf hLf hL2 hk4
      go_wp2_with fail
      refine (HG.out _ _ _ _ bt (HHo.out _ hLf2.out)).mono ?_
      rintro e w3 ⟨rfl, hb⟩
      have hL3 := chain (B := w.heap.size) (a := w) hLw.out (Nat.le_refl _) hb
      have hLf3 := chain (B := w1.heap.size) (a := w1) hLf2.out (Nat.le_refl _) hb
      replace k4 := keepAt4 hb k4
      clear hb
      go_wp2_with fail
      refine (HB.out _ _ _ _ bt (HHo.out _ hLf3)).mono ?_
      rintro e w4 ⟨rfl, hb⟩
      have hL4 := chain (B := w.heap.size) (a := w) hL3 (Nat.le_refl _) hb
      clear hb k4 hLf3 hL3
      cases x <;> cases y
      all_goals (
        go_wp2_with fail
        go_ret2
        exact ⟨rfl, hL4⟩)

theorem vd_pair {a b : Bool} (h : a = true → b = true) : (if a = b then b2i a else 2) = if (!a) && b then 2 else if b then 1 else 0 := by
  cases a <;> cases b <;> first | rfl | (exact absurd (h rfl) (by decide))

set_option maxRecDepth 100000 in
set_option maxHeartbeats 4000000 in
theorem sValueWithDoubts_any (v : ByteArray) (hv : v.size ≤ 1048576) (s : ByteArray) (hs : s.size ≤ 1048576) (w : World) :
    Calls Tryd.prog 9 #[.string v, .string s] w fun e w' => e = .returned (.tuple #[.int .i64 (resValueWithDoubts_0 v s), .int .i64 (resValueWithDoubts_1 v s)]) ∧ Below w.heap.size w w' := by
  unfold resValueWithDoubts_0 resValueWithDoubts_1
  have hs63 : s.size ≤ 9223372036854775807 := by omega
  cases hR : fmOf v with
  | none =>
    rw [vdo_none hR]
    have HI := Lib.hid (fun w => l04Is_any v w hv (b := false) (by rw [hR]; rfl))
    clear hR
    go_enter Tryd.func9, Tryd.ntmps9
    go_wp2_with (go_at_call 28; refine (HI.out _).mono ?_; rintro e w' ⟨rfl, rfl⟩)
    go_ret2
    exact ⟨rfl, Below.refl _ _⟩
  | some t =>
    obtain ⟨hw, hst, h80⟩ := fm_some hR
    have HI := Lib.hid (fun w => l04Is_any v w hv (b := true) (by rw [hR]; rfl))
    by_cases h5 : s.size = 5
    · have hq : ((s.size : Int) != 5) = false := by rw [h5]; rfl
      have hs5 : (s.size : Int) = 5 := by omega
      obtain ⟨j, hj, hno, hyes⟩ := firstB (fun i => !decide (byteAt s i = 48 ∨ byteAt s i = 49 ∨ byteAt s i = 63)) 5
      have HNO := Lib.hid hno
      have HYES := Lib.hid hyes
      have HR1 : Hid (j < 5 → vdo v s = (0, 2)) := fun h => vdo_out hR (by
        have h2 := hyes h
        unfold isDbt
        have : allIn s [48, 49, 63] = false := by
          cases hc : allIn s [48, 49, 63]
          · rfl
          · have := dbt_iff.1 hc j (by omega)
            rw [decide_eq_true this] at h2; cases h2
        rw [this]; simp)
      have HR2 : Hid (j = 5 → (∀ i, i < 5 → byteAt s i = 48 ∨ byteAt s i = 49 ∨ byteAt s i = 63) ∧ vdo v s = (if (!valF (leafD s false) t) && valF (leafD s true) t then 2 else if valF (leafD s true) t then 1 else 0, 0)) := fun h => by
        have hall : ∀ i, i < 5 → byteAt s i = 48 ∨ byteAt s i = 49 ∨ byteAt s i = 63 := fun i hi => by
          have := hno i (by omega)
          simp only [Bool.not_eq_false', decide_eq_true_iff] at this
          exact this
        refine ⟨hall, ?_⟩
        rw [vdo_in hR (by unfold isDbt; rw [decide_eq_true h5, dbt_iff.2 (fun i hi => hall i (by omega))]; rfl), vd_pair (vd_le s hw)]
      have HD := Lib.hid (fun (h : ∀ i, i < 5 → byteAt s i = 48 ∨ byteAt s i = 49 ∨ byteAt s i = 63) w => l08Doubts_any s h5 h (txtF t).length t w hw (Nat.le_refl _) (by omega))
      rw [← hst] at HD
      clear hR hno hyes h80 hw hst
      go_enter Tryd.func9, Tryd.ntmps9
      go_wp2_with (go_at_call 28; refine (HI.out _).mono ?_; rintro e w' ⟨rfl, rfl⟩)
      go_loopw [6] (fun c wr => ∃ k : Nat, k ≤ j ∧ c = .int .i64 (k : Int) ∧ w = wr) (fun c _ => 5 - (intOf c).toNat)
      case atStart => exact ⟨0, Nat.zero_le _, rfl, rfl⟩
      case round =>
        obtain ⟨k, hk, rfl, rfl⟩ := hrel
        by_cases hlt : k < 5
        · have hk1 : (k : Int) < 5 := by omega
          have hk0 : (0 : Int) ≤ (k : Int) := by omega
          have hks : k < s.size := by omega
          have hb := byteAt_eq s k hks
          by_cases hkj : k < j
          · have h := HNO.out k hkj
            simp only [Bool.not_eq_false', decide_eq_true_iff] at h
            rw [hb] at h
            rcases h with h | h | h
            · have e1 : ((s[k].toNat : Int) != 48) = false := by rw [h]; rfl
              clear h hb
              go_wp2_with fail
              exact ⟨⟨k + 1, by omega, by go_num, trivial⟩, by simp [intOf]; omega⟩
            · have e1 : ((s[k].toNat : Int) != 48) = true := by rw [h]; rfl
              have e2 : ((s[k].toNat : Int) != 49) = false := by rw [h]; rfl
              clear h hb
              go_wp2_with fail
              exact ⟨⟨k + 1, by omega, by go_num, trivial⟩, by simp [intOf]; omega⟩
            · have e1 : ((s[k].toNat : Int) != 48) = true := by rw [h]; rfl
              have e2 : ((s[k].toNat : Int) != 49) = true := by rw [h]; rfl
              have e3 : ((s[k].toNat : Int) != 63) = false := by rw [h]; rfl
              clear h hb
              go_wp2_with fail
              exact ⟨⟨k + 1, by omega, by go_num, trivial⟩, by simp [intOf]; omega⟩
          · have e : k = j := by omega
            subst e
            have h := HYES.out hlt
            have HF := Lib.hid (HR1.out hlt)
            simp only [Bool.not_eq_true', decide_eq_false_iff_not] at h
            rw [hb] at h
            have e1 : ((s[k].toNat : Int) != 48) = true := by simp; omega
            have e2 : ((s[k].toNat : Int) != 49) = true := by simp; omega
            have e3 : ((s[k].toNat : Int) != 63) = true := by simp; omega
            clear h hb
            go_wp2_with fail
            go_ret2
            exact ⟨by rw [HF.out]; rfl, Below.refl _ _⟩
        · have e : k = 5 := by omega
          have HF := Lib.hid (HR2.out (by omega))
          have hkn : ¬ (k : Int) < 5 := by omega
          have HDD := Lib.hid (HD.out HF.out.1)
          clear e HD
          obtain ⟨x, hx⟩ : ∃ x, valF (leafD s false) t = x := ⟨_, rfl⟩
          obtain ⟨y, hy⟩ : ∃ y, valF (leafD s true) t = y := ⟨_, rfl⟩
          have HX : Hid (vdo v s = (if (!x) && y then 2 else if y then 1 else 0, 0)) := by rw [Hid, HF.out.2, hx, hy]
          rw [hx, hy] at HDD
          clear hx hy HF
          cases x <;> cases y
          all_goals (
            go_wp2_with fail
            refine (HDD.out _).mono ?_
            rintro e w2 ⟨rfl, hL⟩
            go_wp2_with fail
            go_ret2
            exact ⟨by rw [HX.out]; rfl, hL⟩)
    · rw [vdo_out hR (by unfold isDbt; rw [decide_eq_false h5]; rfl)]
      have hq : ((s.size : Int) != 5) = true := by simp; omega
      clear hR hw hst h80 h5
      go_enter Tryd.func9, Tryd.ntmps9
      go_wp2_with (go_at_call 28; refine (HI.out _).mono ?_; rintro e w' ⟨rfl, rfl⟩)
      go_ret2
      exact ⟨rfl, Below.refl _ _⟩

end Go.Proofs.YtohmhiodmaahfaaDoor
