/- Points that are joined: the model's. -/
import Derived.Test.YtlihnknlpbokiabCts
import Derived.Test.YtlihnknlpbokiabNetC
import Derived.Test.YtlihnknlpbokiabJoin
namespace Go.Proofs.Ytlihnknlpbokiab
open Go.RowKit
set_option linter.unusedVariables false

theorem u64_small {x : Int} (h0 : 0 ≤ x) (h1 : x < 8) : IntKind.u64.wrap x = x := IntWalk.u64_in _ (by omega)
theorem min_small {x : Int} (h0 : 0 ≤ x) (h1 : x < 8) : min x.toNat 64 = x.toNat := by omega
theorem dig_small {S : Nat} (hS : S < 256) {x : Int} (h0 : 0 ≤ x) : bits .and .i64 ((S : Int) / 2 ^ x.toNat) 1 = ((dig S x.toNat : Nat) : Int) := by
  have := digit_walk (S : Int) x (by omega) (by omega) h0
  simpa [digZ] using this
theorem or3_small {S : Nat} (hS : S < 256) {x0 x1 : Int} (h0 : 0 ≤ x0 ∧ x0 < 8) (h1 : 0 ≤ x1 ∧ x1 < 8) : bits .or .i64 (bits .or .i64 (S : Int) (wrap64 (2 ^ x0.toNat))) (wrap64 (2 ^ x1.toNat)) = ((S ||| (2 ^ x0.toNat ||| 2 ^ x1.toNat) : Nat) : Int) := by
  have e0 : (2 : Nat) ^ x0.toNat < 2 ^ 8 := Nat.pow_lt_pow_right (by decide) (by omega)
  have e1 : (2 : Nat) ^ x1.toNat < 2 ^ 8 := Nat.pow_lt_pow_right (by decide) (by omega)
  rw [pow_walk _ (by omega), pow_walk _ (by omega), or_small hS e0, or_small (Nat.or_lt_two_pow (n := 8) hS e0) e1, Nat.or_assoc]
theorem set_bit {set : Int} (h0 : 0 ≤ set) (h1 : set < 9223372036854775808) (k : Nat) : (bits .and .i64 (set / 2 ^ k) 1 == 1) = inB set k := by
  have := digit_walk set (k : Int) h0 h1 (by omega)
  simp only [Int.toNat_natCast] at this
  rw [this]
  unfold digZ inB
  have hl := dig_lt set.toNat k
  simp only [Int.toNat_natCast]
  by_cases h : dig set.toNat k = 1
  · simp [h]
  · have e : dig set.toNat k = 0 := by omega
    simp [e]
def boolN : Value → Nat
  | .bool true => 1
  | _ => 0
theorem more_meas {S S' : Nat} {b : Bool} (h : S ≤ S') (h2 : S' < 256) (hb : b = true → S < S') :
    2 * (256 - (intOf (.int .i64 (S' : Int))).toNat) + boolN (.bool b) < 2 * (256 - (intOf (.int .i64 (S : Int))).toNat) + boolN (.bool true) := by
  simp only [intOf, Int.toNat_natCast]
  cases b
  · simp only [boolN]; omega
  · have := hb rfl
    simp only [boolN]; omega

set_option maxRecDepth 100000 in
set_option maxHeartbeats 4000000 in
theorem l02Joined_any (p : Int) (v : Value) (xss : List (List Int)) (set pt : Int) (w : World) (ha : Reads2 w v xss) (hn : xss.length ≤ 12) (h4 : ∀ i, i < xss.length → (xss.getD i []).length = 4) (h8 : Pts8 xss) (s0 : 0 ≤ set) (s1 : set < 9223372036854775808) (p0 : 0 ≤ pt) (p1 : pt < 8) :
    Calls Try.prog 74 #[.agg #[.int .i64 p, v], .int .i64 set, .int .i64 pt] w fun e w' => e = .returned (.int .i64 ((joinS xss (inB set) pt.toNat : Nat) : Int)) ∧ Below w.heap.size w w' := by
  obtain ⟨a, ca, rfl, hm, ha⟩ := ha
  unfold maxLen at hm
  have k0 := C2.here w (.int .i64 p) (.slice a xss.length ca) 30
  have hpu := u64_small p0 p1
  have hpm := min_small p0 p1
  have hs : wrap64 (2 ^ pt.toNat) = ((2 ^ pt.toNat : Nat) : Int) := pow_walk _ (by omega)
  have HW : Hid (OnWay xss (inB set) pt.toNat (2 ^ pt.toNat)) := OnWay.start (by omega)
  obtain ⟨st, hst⟩ : ∃ st, (2 ^ pt.toNat : Nat) = st := ⟨_, rfl⟩
  rw [hst] at hs HW
  have HS0 := Lib.hid hs
  have Ha : Hid (∀ i, i < xss.length → ∃ b off cb co cc, a = some ⟨b, off, none⟩ ∧ w.cell? ⟨b, off + i, none⟩ = some (.slice (some ⟨cb, co, none⟩) 4 cc) ∧ ∀ j, j < 4 → w.cell? ⟨cb, co + j, none⟩ = some (.int .i64 ((xss.getD i []).getD j 0))) := fun i hi => by
    rcases ha with rfl | ⟨b, off, rfl, ha⟩
    · simp at hi
    · obtain ⟨u, hu, hr⟩ := ha i hi
      obtain ⟨cb, co, cc, rfl, h⟩ := hr.four (h4 i hi)
      exact ⟨b, off, cb, co, cc, rfl, hu, h⟩
  have H8 : Hid (∀ i, i < xss.length → (0 ≤ (xss.getD i []).getD 0 0 ∧ (xss.getD i []).getD 0 0 < 8) ∧ (0 ≤ (xss.getD i []).getD 1 0 ∧ (xss.getD i []).getD 1 0 < 8)) := h8
  have HP8 := Lib.hid h8
  have HSET : Hid (0 ≤ set ∧ set < 9223372036854775808) := ⟨s0, s1⟩
  generalize hnn : xss.length = n at *
  have HN := Lib.hid hnn
  clear hnn ha h4 h8 hs hst
  go_enter Try.func74, Try.ntmps74
  go_wp2_with fail
  clear hpu hpm
  go_loopw [7, 8] (fun s t wr => ∃ (S : Nat) (b : Bool), s = .int .i64 (S : Int) ∧ t = .bool b ∧ S < 256 ∧ Hid (OnWay xss (inB set) pt.toNat S) ∧ Hid (b = false → passJ xss (inB set) S n = S) ∧ Below w.heap.size w wr ∧ C2 wr w.heap.size (.int .i64 p) (.slice a n ca)) (fun s t _ => 2 * (256 - (intOf s).toNat) + boolN t)
  case atStart => exact ⟨st, true, by rw [HS0.out], rfl, HW.out.2.1, HW, (fun h => by cases h), by go_grown, k0⟩
  case round =>
    clear k0
    obtain ⟨S, b, rfl, rfl, hS, HO, HT, hL, k0⟩ := hrel
    cases b
    · have HR : Hid (joinS xss (inB set) pt.toNat = S) := HO.out.done (by rw [HN.out]; exact HT.out rfl)
      go_wp2_with fail
      go_ret
      exact ⟨by rw [HR.out]; rfl, hL⟩
    · go_wp2_with fail
      obtain ⟨wo, hwo⟩ : ∃ wo : World, wo = wr := ⟨_, rfl⟩
      have HL : Hid (Below w.heap.size w wo) := by rw [hwo]; exact hL
      have K0 : Hid (C2 wo w.heap.size (.int .i64 p) (.slice a n ca)) := by rw [hwo]; exact k0
      subst hwo
      clear hL k0
      go_loopw [7, 8, 9] (fun s t c wr => ∃ (k : Nat) (m : Bool), k ≤ n ∧ c = .int .i64 (k : Int) ∧ s = .int .i64 ((passJ xss (inB set) S k : Nat) : Int) ∧ t = .bool m ∧ Hid (m = decide (passJ xss (inB set) S k ≠ S)) ∧ Below w.heap.size w wr ∧ C2 wr w.heap.size (.int .i64 p) (.slice a n ca)) (fun _ _ c _ => n - (intOf c).toNat)
      case atStart => exact ⟨0, false, Nat.zero_le _, rfl, rfl, rfl, by unfold Hid; simp [passJ], HL.out, K0.out⟩
      case round =>
        obtain ⟨k, m, hk, rfl, rfl, rfl, HM, hL, k0⟩ := hrel
        by_cases hlt : k < n
        · obtain ⟨b, off, cb, co, cc, rfl, hu, hcs⟩ := Ha.out k hlt
          have hca := cell_later hL hu
          have c0 := cell_later hL (hcs 0 (by omega))
          have c1 := cell_later hL (hcs 1 (by omega))
          simp only [Nat.add_zero] at c0
          obtain ⟨q0, q1⟩ := H8.out k hlt
          have hi1 : (k : Int) < (n : Int) := by omega
          have hi0 : (0 : Int) ≤ (k : Int) := by omega
          have hPk : passJ xss (inB set) S k < 256 := passJ_lt HP8.out _ hS (by rw [HN.out]; exact hk)
          have hge : S ≤ passJ xss (inB set) S k := passJ_ge _ _ _ _
          have HSt : Hid (passJ xss (inB set) S (k + 1) = stepJ xss (inB set) (passJ xss (inB set) S k) k) := rfl
          have hbit := set_bit HSET.out.1 HSET.out.2 k
          have hk64 := IntWalk.u64_in (k : Int) (by omega)
          clear hu hcs
          cases hck : inB set k
          · have HE : Hid (passJ xss (inB set) S (k + 1) = passJ xss (inB set) S k) := by unfold Hid; rw [HSt.out, stepJ_out hck]
            rw [hck] at hbit
            have HM2 : Hid (m = decide (passJ xss (inB set) S (k + 1) ≠ S)) := by unfold Hid; rw [HE.out]; exact HM.out
            generalize (xss.getD k []).getD 0 0 = x0 at *
            generalize (xss.getD k []).getD 1 0 = x1 at *
            generalize passJ xss (inB set) S k = Q at *
            have hu0 := u64_small q0.1 q0.2
            have hu1 := u64_small q1.1 q1.2
            clear hck HSt HM
            go_wp2_with fail
            go_quiet (fail)
            go_wp2_with fail
            go_roundw
            case rel => exact ⟨k + 1, m, by omega, by go_num, by rw [HE.out], rfl, HM2, Bdrew hL _, k0⟩
            case measure => simp [intOf]; omega
          · rw [hck] at hbit
            by_cases hdd : dig (passJ xss (inB set) S k) ((xss.getD k []).getD 0 0).toNat = dig (passJ xss (inB set) S k) ((xss.getD k []).getD 1 0).toNat
            · have HE : Hid (passJ xss (inB set) S (k + 1) = passJ xss (inB set) S k) := by unfold Hid; rw [HSt.out, stepJ_same hdd]
              have HM2 : Hid (m = decide (passJ xss (inB set) S (k + 1) ≠ S)) := by unfold Hid; rw [HE.out]; exact HM.out
              have hA := dig_small hPk q0.1
              have hB := dig_small hPk q1.1
              have hne : (bits .and .i64 (((passJ xss (inB set) S k : Nat) : Int) / 2 ^ ((xss.getD k []).getD 0 0).toNat) 1 != bits .and .i64 (((passJ xss (inB set) S k : Nat) : Int) / 2 ^ ((xss.getD k []).getD 1 0).toNat) 1) = false := by rw [hA, hB, hdd]; simp
              clear hA hB hdd
              generalize (xss.getD k []).getD 0 0 = x0 at *
              generalize (xss.getD k []).getD 1 0 = x1 at *
              generalize passJ xss (inB set) S k = Q at *
              have hu0 := u64_small q0.1 q0.2
              have hu1 := u64_small q1.1 q1.2
              have hm0 := min_small q0.1 q0.2
              have hm1 := min_small q1.1 q1.2
              clear hck HSt HM
              go_wp2_with fail
              go_quiet (fail)
              go_wp2_with fail
              go_roundw
              case rel => exact ⟨k + 1, m, by omega, by go_num, by rw [HE.out], rfl, HM2, Bdrew hL _, k0⟩
              case measure => simp [intOf]; omega
            · obtain ⟨hE, hgt⟩ := stepJ_diff (xss := xss) hck hdd
              have HE : Hid (passJ xss (inB set) S (k + 1) = passJ xss (inB set) S k ||| pairN xss k) := by unfold Hid; rw [HSt.out, hE]
              have HM2 : Hid (true = decide (passJ xss (inB set) S (k + 1) ≠ S)) := (decide_eq_true (by rw [HSt.out]; exact Nat.ne_of_gt (Nat.lt_of_le_of_lt hge hgt))).symm
              have hA := dig_small hPk q0.1
              have hB := dig_small hPk q1.1
              have hne : (bits .and .i64 (((passJ xss (inB set) S k : Nat) : Int) / 2 ^ ((xss.getD k []).getD 0 0).toNat) 1 != bits .and .i64 (((passJ xss (inB set) S k : Nat) : Int) / 2 ^ ((xss.getD k []).getD 1 0).toNat) 1) = true := by rw [hA, hB, bne_iff_ne]; exact fun h => hdd (Int.ofNat_inj.1 h)
              have HOR := Lib.hid (or3_small hPk q0 q1)
              have HPN : Hid (pairN xss k = (2 ^ ((xss.getD k []).getD 0 0).toNat ||| 2 ^ ((xss.getD k []).getD 1 0).toNat)) := rfl
              clear hA hB hdd hE hgt
              generalize (xss.getD k []).getD 0 0 = x0 at *
              generalize (xss.getD k []).getD 1 0 = x1 at *
              generalize passJ xss (inB set) S k = Q at *
              have hu0 := u64_small q0.1 q0.2
              have hu1 := u64_small q1.1 q1.2
              have hm0 := min_small q0.1 q0.2
              have hm1 := min_small q1.1 q1.2
              clear hck HSt HM
              go_wp2_with fail
              go_quiet (fail)
              go_wp2_with fail
              go_roundw
              case rel => exact ⟨k + 1, true, by omega, by go_num, by rw [HE.out, HPN.out, ← HOR.out], rfl, HM2, Bdrew hL _, k0⟩
              case measure => simp [intOf]; omega
        · have e : k = n := by omega
          subst e
          have HN2 := HO.out.next HP8.out
          rw [HN.out] at HN2
          have HON := Lib.hid HN2
          have hge : S ≤ passJ xss (inB set) S k := passJ_ge _ _ _ _
          have h256 := HN2.2.1
          have HF : Hid (m = false → passJ xss (inB set) (passJ xss (inB set) S k) k = passJ xss (inB set) S k) := fun h => by
            have := HM.out
            rw [h] at this
            have e2 : passJ xss (inB set) S k = S := by simpa using this
            rw [e2, e2]
          have HME := Lib.hid (more_meas (b := m) hge h256 (fun h => by
            have := HM.out
            rw [h] at this
            have e2 : passJ xss (inB set) S k ≠ S := by simpa using this
            omega))
          clear HN2
          go_wp2_with fail
          go_roundw
          case rel => exact ⟨_, m, rfl, rfl, h256, HON, HF, hL, k0⟩
          case measure => exact HME.out

end Go.Proofs.Ytlihnknlpbokiab
