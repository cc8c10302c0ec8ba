/- Tables of wirings: the program's and the model's. -/
import Derived.Test.YtkdidplpnhokiaaLi
import Derived.LoopTactic
import Derived.Deep.RegionHeld3
import Derived.Deep.RegionWith
namespace Go.Proofs.Ytkdidplpnhokiaa
open Go.RowKit
set_option linter.unusedVariables false

/-- is the lamp lit, wires broken as told -/
noncomputable def litR (xs : List Int) (yss : List (List Int)) (brk : Nat → Bool) (r : Nat) : Bool := bP (Live (wirE xs yss brk (r : Int)) 0 1)
/-- the values in the first k rows -/
noncomputable def tabN (xs : List Int) (yss : List (List Int)) (brk : Nat → Bool) (k : Nat) : Int := ((setOf (litR xs yss brk) k : Nat) : Int)
noncomputable def tabZ (xs : List Int) (yss : List (List Int)) (brk : Nat → Bool) : Int := tabN xs yss brk (2 ^ xs.length)
theorem pow_le32 {n : Nat} (h : n ≤ 5) : 2 ^ n ≤ 32 := Nat.pow_le_pow_right (n := 2) (by decide) h
theorem tabN_bd (xs : List Int) (yss : List (List Int)) (brk : Nat → Bool) {k : Nat} (h : k ≤ 32) : 0 ≤ tabN xs yss brk k ∧ tabN xs yss brk k < 4294967296 := by
  have h1 := setOf_lt (litR xs yss brk) k
  have h2 : 2 ^ k ≤ 2 ^ 32 := Nat.pow_le_pow_right (by decide) h
  unfold tabN; omega
theorem tab_step (xs : List Int) (yss : List (List Int)) (brk : Nat → Bool) {k : Nat} (hk : k < 32) {d : Int} (hd : d = if litR xs yss brk k = true then 1 else 0) :
    bits .or .i64 (tabN xs yss brk k) (wrap64 (d * 2 ^ k)) = tabN xs yss brk (k + 1) := by
  have h1 := setOf_lt (litR xs yss brk) k
  have hp : 2 ^ k < 2 ^ 32 := Nat.pow_lt_pow_right (by decide) hk
  subst hd
  unfold tabN
  cases e : litR xs yss brk k
  · rw [if_neg (by simp), setOf_miss _ _ e, Int.zero_mul]
    have := i64_or (setOf (litR xs yss brk) k) 0 (by omega) (by decide)
    rw [Nat.or_zero] at this
    rw [IntWalk.wrap64_in 0 (by omega)]
    exact this
  · rw [if_pos rfl, ← setOf_hit _ _ e, Int.one_mul, pow_walk _ (by omega)]
    exact i64_or _ _ (by omega) (by omega)
theorem lit_dig1 (xs : List Int) (yss : List (List Int)) (brk : Nat → Bool) (r : Nat) {z : Nat} (hz : liveN (wirE xs yss brk (r : Int)) 0 = z) : digZ (z : Int) 1 = if litR xs yss brk r = true then 1 else 0 := by
  have h := liveN_dig (wirE xs yss brk (r : Int)) 0 (t := 1) (by decide)
  have hl := dig_lt z 1
  rw [hz] at h
  unfold digZ litR
  rw [Int.toNat_natCast, show (1 : Int).toNat = 1 from rfl]
  cases e : bP (Live (wirE xs yss brk (r : Int)) 0 1)
  · have : ¬ dig z 1 = 1 := fun h1 => bP_out e (h.1 h1)
    rw [if_neg (by simp)]; omega
  · rw [if_pos rfl, h.2 (bP_iff.1 e)]; rfl

theorem ReadsC.set {w : World} {v : Value} {L : List (List Int)} (h : ReadsC w v L) {g i : Nat} (x : Value) (hne : ∀ b, v.ownBlock = some b → b < g) : ReadsC (w.setCell ⟨g, i, none⟩ x) v L := by
  obtain ⟨a, cap, rfl, hm, h⟩ := h
  refine ⟨a, cap, rfl, hm, ?_⟩
  rcases h with h | ⟨b, rfl, h⟩
  · exact .inl h
  · refine .inr ⟨b, rfl, fun i hi j hj => ?_⟩
    have hb := hne b rfl
    rw [← h i hi j hj]
    exact World.cell?_of_block (Below.heap_setCell w _ x b (by dsimp only; omega))

set_option maxRecDepth 100000 in
set_option maxHeartbeats 4000000 in
theorem tableWithout_any (v : Value) (p : Int) (xs : List Int) (yss : List (List Int)) (B : Nat) (w : World) (ha : ReadsW w v p xs yss) (hw : WirW p xs yss) (hB : B < 2 ^ yss.length) {z : Int} (hz : tabZ xs yss B.testBit = z) :
    Calls Try.prog 82 #[v, .int .i64 (B : Int)] w fun e w' => e = .returned (.agg #[.int .i64 (xs.length : Int), .int .i64 z]) ∧ Below w.heap.size w w' := by
  obtain ⟨h1, h5⟩ := hw.1.1
  have HLE := Lib.hid (fun w' (h : Below w.heap.size w w') => leadsOf_any v p xs yss w' (ha.keep h) hw.1 hw.two hw.2.2.1)
  have HPC := Lib.hid (fun w' (h : Below w.heap.size w w') => positionCount_any v p xs yss w' (ha.keep h) h1 h5 (z := rcZ (xs.length : Int)) rfl)
  have HLT : Hid (∀ (r : Nat), r < 32 → ∃ zz : Int, (0 ≤ zz ∧ zz < 9223372036854775808 ∧ digZ zz 1 = if litR xs yss B.testBit r = true then 1 else 0) ∧ ∀ (w' : World) (u : Value), ReadsC w' u (leadsL xs yss) → Calls Try.prog 76 #[u, .int .i64 (r : Int), .int .i64 (B : Int)] w' fun e w'' => e = .returned (.int .i64 zz) ∧ Below w'.heap.size w' w'') := fun r hr =>
    ⟨((liveN (wirE xs yss B.testBit (r : Int)) 0 : Nat) : Int), ⟨by omega, by have := liveN_lt (wirE xs yss B.testBit (r : Int)) 0; omega, lit_dig1 xs yss _ r rfl⟩, fun w' u h => liveTerminals_any u xs yss (r : Int) B w' h hw.1 hw.w22 hw.2.2.1 (by omega) (by omega) hB rfl⟩
  have HRC : Hid (rcZ (xs.length : Int) = ((2 ^ xs.length : Nat) : Int)) := by unfold Hid rcZ; rw [Int.toNat_natCast]
  have HST : Hid (∀ (k : Nat) (d : Int), k < 32 → (d = if litR xs yss B.testBit k = true then 1 else 0) → bits .or .i64 (tabN xs yss B.testBit k) (wrap64 (d * 2 ^ k)) = tabN xs yss B.testBit (k + 1)) := fun k d hk hd => tab_step xs yss _ hk hd
  have HEND : Hid (tabN xs yss B.testBit (2 ^ xs.length) = z) := hz
  have HZ0 : Hid (tabN xs yss B.testBit 0 = 0) := rfl
  have HBD : Hid (∀ k, k ≤ 32 → 0 ≤ tabN xs yss B.testBit k ∧ tabN xs yss B.testBit k < 4294967296) := fun k hk => tabN_bd _ _ _ hk
  have hp32 : Hid (2 ^ xs.length ≤ 32) := pow_le32 h5
  generalize (B : Int) = bz at *
  obtain ⟨a, ca, b', cb, rfl, _, _⟩ := ha
  have h0 := (C3.here w (.int .i64 p) (.slice a xs.length ca) (.slice b' yss.length cb) 28).alloc (.cells #[.int .i64 0, .int .i64 0] 44)
  have k1 := C2.here (w.alloc (.cells #[.int .i64 p, .slice a xs.length ca, .slice b' yss.length cb] 28)) (.int .i64 0) (.int .i64 0) 44
  rw [World.size_alloc] at k1
  clear hz hB hw h1
  generalize yss.length = m at *
  generalize 2 ^ xs.length = R at *
  generalize xs.length = n at *
  go_enter Try.func82, Try.ntmps82
  go_wp2_with fail
  refine (HLE.out _ (by go_grown)).mono ?_
  rintro e w2 ⟨u, rfl, hu, hb⟩
  have hL := chain (B := w.heap.size) (a := w) (by go_grown) (Nat.le_refl _) hb
  have HU := Lib.hid hu.reads
  have HNB : Hid (∀ b, u.ownBlock = some b → b < w2.heap.size) := fun b e => (World.ownsRow.lt hu b e).2
  replace h0 := keepAt3 hb h0
  replace k1 := keepAt hb k1
  have hz2 := hb.size
  simp only [World.size_alloc] at hz2
  clear hb hu
  have h02 := h0.alloc (.cells #[.int .i64 (n : Int), .int .i64 0] 44)
  have k12 := k1.alloc (.cells #[.int .i64 (n : Int), .int .i64 0] 44)
  have k2 := C2.here w2 (.int .i64 (n : Int)) (.int .i64 0) 44
  have hL2 := hL.alloc hL.size (.cells #[.int .i64 (n : Int), .int .i64 0] 44)
  replace HU := Lib.hid (HU.out.keep ((Below.refl _ _).alloc (Nat.le_refl _) (.cells #[.int .i64 (n : Int), .int .i64 0] 44)))
  have hs2 : (w2.alloc (.cells #[.int .i64 (n : Int), .int .i64 0] 44)).heap.size = w2.heap.size + 1 := by simp
  go_wp2_with (go_at_call 100; (with_reducible refine (HPC.out _ hL2).mono ?_); rintro e w3 ⟨rfl, hb⟩; replace h02 := keepAt3 hb h02; replace k12 := keepAt hb k12; replace k2 := keepAt hb k2; replace hL2 := chain (B := w.heap.size) (a := w) hL2 (Nat.le_refl _) hb; replace HU := Lib.hid (HU.out.keep hb); have hz3 := hb.size; rw [hs2] at hz3; clear hb)
  clear h0 k1 hL hs2
  rw [HRC.out]
  have hR32 := hp32.out
  generalize hgb : w2.heap.size = g at *
  have HGB : Hid (w.heap.size + 2 ≤ g ∧ g < w3.heap.size) := ⟨by omega, by omega⟩
  clear hgb hz2
  go_loopw [16] (fun c wr => ∃ k : Nat, k ≤ R ∧ c = .int .i64 (k : Int) ∧ Below w.heap.size w wr ∧ C2 wr (w.heap.size + 1) (.int .i64 0) (.int .i64 0) ∧ C2 wr g (.int .i64 (n : Int)) (.int .i64 (tabN xs yss B.testBit k)) ∧ Hid (ReadsC wr u (leadsL xs yss))) (fun c _ => R - (intOf c).toNat)
  case atStart => exact ⟨0, Nat.zero_le _, rfl, hL2, k12, by rw [HZ0.out]; exact k2, HU⟩
  case round =>
    clear h02 k12 k2 hL2 HU
    obtain ⟨k, hk, rfl, hL, k1, k2, HU⟩ := hrel
    by_cases hlt : k < R
    · have hi1 : (k : Int) < (R : Int) := by omega
      have hi0 : (0 : Int) ≤ (k : Int) := by omega
      obtain ⟨zz, ⟨zz0, zz1, hdz⟩, hlt'⟩ := HLT.out k (by omega)
      have HLK := Lib.hid hlt'
      have HD := Lib.hid (fun w => digitAt_any zz 1 w zz0 zz1 (by omega) (by omega))
      have Hs := Lib.hid (HST.out k _ (by omega) hdz)
      have hdb := digZ_bd zz 1
      generalize digZ zz 1 = dz at *
      obtain ⟨hd0, hd1⟩ := hdb
      clear hlt' hdz
      have hgz := k2.2.2.2.2
      have hgw : w.heap.size + 2 ≤ g := HGB.out.1
      go_wp2_with fail
      go_region_with (first | (go_at_call 76; (with_reducible refine (HLK.out _ _ (HU.out.keep (by go_grown))).mono ?_); rintro e w5 ⟨rfl, hb⟩; have hL := chain (B := w.heap.size) (a := w) (by go_grown) (Nat.le_refl _) hb; replace k1 := keepAt hb k1; replace k2 := keepAt hb k2; replace HU := Lib.hid (HU.out.keep (chain (B := wr.heap.size) (a := wr) (by go_grown) (Nat.le_refl _) hb)); clear hb) | (go_at_call 75; (with_reducible refine (HD.out _).mono ?_); rintro e w' ⟨rfl, rfl⟩))
      all_goals (go_wp2_with fail)
      all_goals (rw [Hs.out]; exact ⟨⟨k + 1, by omega, by go_num, by go_grown, k1.set _ _ _ (by omega), k2.put1 _, ReadsC.set (by first | exact HU.out | exact HU.out.keep (by go_grown)) _ HNB.out⟩, by simp [intOf]; omega⟩)
    · have e : k = R := by omega
      rw [e, HEND.out] at k2
      clear e
      go_wp2_with fail
      refine bodyPost_ret (v := .agg #[.int .i64 (n : Int), .int .i64 z]) (by simp [results, Try.results82, go_sem, *]) rfl ?_
      exact ⟨rfl, by go_grown⟩

theorem tableWithout_zero (v : Value) (p : Int) (xs : List Int) (yss : List (List Int)) (w : World) (ha : ReadsW w v p xs yss) (hw : WirW p xs yss) {z : Int} (hz : tabZ xs yss (fun _ => false) = z) :
    Calls Try.prog 82 #[v, .int .i64 0] w fun e w' => e = .returned (.agg #[.int .i64 (xs.length : Int), .int .i64 z]) ∧ Below w.heap.size w w' := by
  have e : (Nat.testBit 0) = fun _ => false := by funext i; exact Nat.zero_testBit i
  exact tableWithout_any v p xs yss 0 w ha hw (Nat.pow_pos (by decide)) (by rw [e]; exact hz)

theorem tab_hit {xs : List Int} {yss : List (List Int)} {brk : Nat → Bool} {k : Nat} (hk : k < 32) (h : litR xs yss brk k = true) : bits .or .i64 (tabN xs yss brk k) (wrap64 (2 ^ k)) = tabN xs yss brk (k + 1) := by
  have := tab_step xs yss brk hk (d := 1) (by rw [if_pos h])
  rwa [Int.one_mul] at this
theorem tab_miss {xs : List Int} {yss : List (List Int)} {brk : Nat → Bool} {k : Nat} (h : litR xs yss brk k = false) : tabN xs yss brk (k + 1) = tabN xs yss brk k := by
  unfold tabN; rw [setOf_miss _ _ h]

set_option maxRecDepth 100000 in
set_option maxHeartbeats 4000000 in
theorem l10Table_any (v : Value) (p : Int) (xs : List Int) (yss : List (List Int)) (w : World) (ha : ReadsW w v p xs yss) (hw : WirW p xs yss) {z : Int} (hz : tabZ xs yss (fun _ => false) = z) :
    Calls Try.prog 81 #[v] w fun e w' => e = .returned (.agg #[.int .i64 (xs.length : Int), .int .i64 z]) ∧ Below w.heap.size w w' := by
  obtain ⟨h1, h5⟩ := hw.1.1
  have HLI : Hid (∀ (k : Nat) (w' : World) (b : Bool), k < 32 → Below w.heap.size w w' → litR xs yss (fun _ => false) k = b → Calls Try.prog 73 #[v, .int .i64 (k : Int)] w' fun e w'' => e = .returned (.bool b) ∧ Below w'.heap.size w' w'') := fun k w' b hk h hb => l10Lit_any v p xs yss (k : Int) w' (ha.keep h) hw (by omega) (by omega) hb
  have HR := Lib.hid (fun w => l01Rows_any (xs.length : Int) w (by omega) (by omega))
  have HRC : Hid (rcZ (xs.length : Int) = ((2 ^ xs.length : Nat) : Int)) := by unfold Hid rcZ; rw [Int.toNat_natCast]
  rw [HRC.out] at HR
  have HH : Hid (∀ k, k < 32 → litR xs yss (fun _ => false) k = true → bits .or .i64 (tabN xs yss (fun _ => false) k) (wrap64 (2 ^ k)) = tabN xs yss (fun _ => false) (k + 1)) := fun k hk h => tab_hit hk h
  have HM : Hid (∀ k, litR xs yss (fun _ => false) k = false → tabN xs yss (fun _ => false) (k + 1) = tabN xs yss (fun _ => false) k) := fun k h => tab_miss h
  have HEND : Hid (tabN xs yss (fun _ => false) (2 ^ xs.length) = z) := hz
  have HZ0 : Hid (tabN xs yss (fun _ => false) 0 = 0) := rfl
  have hp32 : Hid (2 ^ xs.length ≤ 32) := pow_le32 h5
  obtain ⟨a, ca, b', cb, rfl, _, _⟩ := ha
  have h0 := ((C3.here w (.int .i64 p) (.slice a xs.length ca) (.slice b' yss.length cb) 28).alloc (.cells #[.int .i64 0, .int .i64 0] 44)).alloc (.cells #[.int .i64 (xs.length : Int), .int .i64 0] 44)
  have k1 := (C2.here (w.alloc (.cells #[.int .i64 p, .slice a xs.length ca, .slice b' yss.length cb] 28)) (.int .i64 0) (.int .i64 0) 44).alloc (.cells #[.int .i64 (xs.length : Int), .int .i64 0] 44)
  have k2 := C2.here ((w.alloc (.cells #[.int .i64 p, .slice a xs.length ca, .slice b' yss.length cb] 28)).alloc (.cells #[.int .i64 0, .int .i64 0] 44)) (.int .i64 (xs.length : Int)) (.int .i64 0) 44
  simp only [World.size_alloc] at k1 k2
  have hL0 : Below w.heap.size w (((w.alloc (.cells #[.int .i64 p, .slice a xs.length ca, .slice b' yss.length cb] 28)).alloc (.cells #[.int .i64 0, .int .i64 0] 44)).alloc (.cells #[.int .i64 (xs.length : Int), .int .i64 0] 44)) := by go_grown
  clear hz hw h1 h5
  generalize yss.length = m at *
  generalize 2 ^ xs.length = R at *
  generalize xs.length = n at *
  have hR32 := hp32.out
  go_enter Try.func81, Try.ntmps81
  go_wp2_with fail
  go_loopw [4] (fun c wr => ∃ k : Nat, k ≤ R ∧ c = .int .i64 (k : Int) ∧ Below w.heap.size w wr ∧ C3 wr w.heap.size (.int .i64 p) (.slice a n ca) (.slice b' m cb) ∧ C2 wr (w.heap.size + 1) (.int .i64 0) (.int .i64 0) ∧ C2 wr (w.heap.size + 1 + 1) (.int .i64 (n : Int)) (.int .i64 (tabN xs yss (fun _ => false) k))) (fun c _ => R - (intOf c).toNat)
  case atStart => exact ⟨0, Nat.zero_le _, rfl, hL0, h0, k1, by rw [HZ0.out]; exact k2⟩
  case round =>
    clear h0 k1 k2 hL0
    obtain ⟨k, hk, rfl, hL, h0, k1, k2⟩ := hrel
    by_cases hlt : k < R
    · have hi1 : (k : Int) < (R : Int) := by omega
      have hi0 : (0 : Int) ≤ (k : Int) := by omega
      have hu64 := IntWalk.u64_in (k : Int) (by omega)
      have hmn : min (k : Int).toNat 64 = k := by omega
      have HK : Hid (k < 32) := by unfold Hid; omega
      cases hb : litR xs yss (fun _ => false) k
      · have HC := Lib.hid (fun w' (h : Below w.heap.size w w') => HLI.out k w' _ HK.out h hb)
        have Hs := Lib.hid (HM.out k hb)
        clear hb
        go_wp2_with (first | (go_at_call 83; (with_reducible refine (HR.out _).mono ?_); rintro e w' ⟨rfl, rfl⟩) | (go_at_call 73; (with_reducible refine (HC.out _ hL).mono ?_); rintro e w5 ⟨rfl, hb⟩; replace hL := chain (B := w.heap.size) (a := w) hL (Nat.le_refl _) hb; replace h0 := keepAt3 hb h0; replace k1 := keepAt hb k1; replace k2 := keepAt hb k2; clear hb))
        go_roundw
        case rel => exact ⟨k + 1, by omega, by go_num, hL, h0, k1, by rw [Hs.out]; exact k2⟩
        case measure => simp [intOf]; omega
      · have HC := Lib.hid (fun w' (h : Below w.heap.size w w') => HLI.out k w' _ HK.out h hb)
        have Hs := Lib.hid (HH.out k HK.out hb)
        clear hb
        go_wp2_with (first | (go_at_call 83; (with_reducible refine (HR.out _).mono ?_); rintro e w' ⟨rfl, rfl⟩) | (go_at_call 73; (with_reducible refine (HC.out _ hL).mono ?_); rintro e w5 ⟨rfl, hb⟩; replace hL := chain (B := w.heap.size) (a := w) hL (Nat.le_refl _) hb; replace h0 := keepAt3 hb h0; replace k1 := keepAt hb k1; replace k2 := keepAt hb k2; clear hb))
        rw [Hs.out]
        go_roundw
        case rel => exact ⟨k + 1, by omega, by go_num, by go_grown, h0.set _ _ _ (by omega), k1.set _ _ _ (by omega), k2.put1 _⟩
        case measure => simp [intOf]; omega
    · have e : k = R := by omega
      rw [e, HEND.out] at k2
      have hge : ¬ (k : Int) < (R : Int) := by omega
      clear e
      go_wp2_with ((go_at_call 83; (with_reducible refine (HR.out _).mono ?_); rintro e w' ⟨rfl, rfl⟩))
      refine bodyPost_ret (v := .agg #[.int .i64 (n : Int), .int .i64 z]) (by simp [results, Try.results81, go_sem, *]) rfl ?_
      exact ⟨rfl, by go_grown⟩

end Go.Proofs.Ytkdidplpnhokiaa
