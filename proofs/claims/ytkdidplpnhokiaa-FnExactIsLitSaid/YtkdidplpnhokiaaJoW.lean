/- Terminals that are joined: the program's. -/
import Derived.Test.YtkdidplpnhokiaaCts
import Derived.Test.YtkdidplpnhokiaaNetC
import Derived.Test.YtkdidplpnhokiaaJoWM
namespace Go.Proofs.Ytkdidplpnhokiaa.JW
open Go.Proofs.Ytkdidplpnhokiaa
open Go.RowKit
set_option linter.unusedVariables false

def b01 (b : Bool) : Int := if b then 1 else 0
theorem wrapI (x : Int) : IntKind.i64.wrap x = wrap64 x := (IntWalk.i64_left x).symm ▸ rfl

set_option maxRecDepth 100000 in
set_option maxHeartbeats 4000000 in
theorem joinedWith_mem (a : Option Addr) (n ca : Nat) (xss : List (List Int)) (closed pt : Int) (cl : Nat → Bool) (w : World) (hnn : xss.length = n) (hn : n ≤ 60) (p0 : 0 ≤ pt) (p1 : pt < 22)
    (ha : ∀ i, i < n → ∃ b, a = some ⟨b, 0, none⟩ ∧ ∀ j, j < 4 → w.cell? ⟨b, i * 4 + j, none⟩ = some (.int .i64 ((xss.getD i []).getD j 0))) (h8 : Pts22 xss)
    (hcl : ∀ (i : Nat) (w : World), i < n → Calls Try.prog 75 #[.int .i64 closed, .int .i64 (i : Int)] w fun e w' => e = .returned (.int .i64 (b01 (cl i))) ∧ w = w') :
    Calls Try.prog 120 #[.slice a n ca, .int .i64 closed, .int .i64 pt] w fun e w' => e = .returned (.int .i64 ((joinS xss cl pt.toNat : Nat) : Int)) ∧ Below w.heap.size w w' := by
  have Ha := Lib.hid ha
  have H8 : Hid (∀ i, i < n → (0 ≤ (xss.getD i []).getD 0 0 ∧ (xss.getD i []).getD 0 0 < 22) ∧ (0 ≤ (xss.getD i []).getD 1 0 ∧ (xss.getD i []).getD 1 0 < 22)) := fun i hi => h8 i (by omega)
  have HP8 := Lib.hid h8
  have HN := Lib.hid hnn
  have HC := Lib.hid hcl
  have hs : wrap64 (2 ^ pt.toNat) = ((2 ^ pt.toNat : Nat) : Int) := pow_walk _ (by omega)
  have HW : Hid (OnWay xss cl pt.toNat (2 ^ pt.toNat)) := OnWay.start (by omega)
  obtain ⟨s0, hs0⟩ : ∃ s0, (2 ^ pt.toNat : Nat) = s0 := ⟨_, rfl⟩
  rw [hs0] at hs HW
  have HS0 := Lib.hid hs
  clear ha h8 hnn hcl hs0 hs
  go_enter Try.func120, Try.ntmps120
  go_wp2_with fail
  go_loopw [7, 8] (fun s t wr => ∃ S T : Nat, s = .int .i64 (S : Int) ∧ t = .int .i64 (T : Int) ∧ S < 4194304 ∧ Hid (OnWay xss cl pt.toNat S) ∧ Hid (T = 0 ∨ passJ xss cl T n = S) ∧ Below w.heap.size w wr) (fun s t _ => 2 * (4194304 - (intOf s).toNat) + (if intOf s = intOf t then 0 else 1))
  case atStart => exact ⟨s0, 0, by rw [HS0.out], rfl, HW.out.2.1, HW, .inl rfl, Below.refl _ _⟩
  case round =>
    obtain ⟨S, T, rfl, rfl, hS, HO, HT, hL⟩ := hrel
    by_cases hST : S = T
    · have hd : ((S : Int) != (T : Int)) = false := by simp [hST]
      have HR : Hid (joinS xss cl pt.toNat = S) := by
        refine HO.out.done ?_
        rcases HT.out with h | h
        · have := HO.out.1; omega
        · rw [HN.out]; rw [← hST] at h; exact h
      clear hST
      go_wp2_with fail
      go_ret
      exact ⟨by rw [HR.out]; rfl, hL⟩
    · have hd : ((S : Int) != (T : Int)) = true := by simp; omega
      have HD : Hid (S ≠ T) := hST
      clear hST
      go_wp2_with fail
      obtain ⟨wo, hwo⟩ : ∃ wo : World, wo = wr := ⟨_, rfl⟩
      have HL : Hid (Below w.heap.size w wo) := by rw [hwo]; exact hL
      subst hwo
      clear hL
      go_loopw [7, 20] (fun s c wr => ∃ k : Nat, k ≤ n ∧ c = .int .i64 (k : Int) ∧ s = .int .i64 ((passJ xss cl S k : Nat) : Int) ∧ Below w.heap.size w wr) (fun _ c _ => n - (intOf c).toNat)
      case atStart => exact ⟨0, Nat.zero_le _, rfl, rfl, HL.out⟩
      case round =>
        obtain ⟨k, hk, rfl, rfl, hL⟩ := hrel
        by_cases hlt : k < n
        · obtain ⟨b, rfl, hcs⟩ := Ha.out k hlt
          have c0 := cell_later hL (hcs 0 (by omega))
          have c1 := cell_later hL (hcs 1 (by omega))
          have c2 := cell_later hL (hcs 2 (by omega))
          have c3 := cell_later hL (hcs 3 (by omega))
          clear hcs
          simp only [Nat.add_zero] at c0
          obtain ⟨q0, q1⟩ := H8.out k hlt
          have hi1 : (k : Int) < (n : Int) := by omega
          have hi0 : (0 : Int) ≤ (k : Int) := by omega
          have hz := hL.size
          have hPk : passJ xss cl S k < 4194304 := passJ_lt HP8.out cl hS (by rw [HN.out]; exact hk)
          have hPr : pairN xss k < 4194304 := pairN_lt HP8.out (by rw [HN.out]; exact hlt)
          have hp : bits .or .i64 (wrap64 (2 ^ ((xss.getD k []).getD 0 0).toNat)) (wrap64 (2 ^ ((xss.getD k []).getD 1 0).toNat)) = ((pairN xss k : Nat) : Int) := i64_pair q0 q1
          have HSt : Hid (passJ xss cl S (k + 1) = stepJ xss cl (passJ xss cl S k) k) := rfl
          cases hck : cl k
          · have HE : Hid (passJ xss cl S (k + 1) = passJ xss cl S k) := by unfold Hid; rw [HSt.out, stepJ_out hck]
            have HCk : Hid (∀ w : World, Calls Try.prog 75 #[.int .i64 closed, .int .i64 (k : Int)] w fun e w' => e = .returned (.int .i64 0) ∧ w = w') := fun w => by have := HC.out k w hlt; rw [hck] at this; exact this
            clear hck HSt
            generalize (xss.getD k []).getD 0 0 = x0 at *
            generalize (xss.getD k []).getD 1 0 = x1 at *
            generalize (xss.getD k []).getD 2 0 = x2 at *
            generalize (xss.getD k []).getD 3 0 = x3 at *
            have hm0 : min x0.toNat 64 = x0.toNat := by omega
            have hm1 : min x1.toNat 64 = x1.toNat := by omega
            have hw0 := wrapI (2 ^ x0.toNat)
            have hw1 := wrapI (2 ^ x1.toNat)
            have q00 := q0.1
            have q10 := q1.1
            generalize passJ xss cl S k = Q at *
            generalize pairN xss k = P at *
            clear q0 q1
            go_wp2_with fail
            go_quiet (fail)
            clear hw0 hw1 hm0 hm1
            go_wp2_with (go_at_call 75; (with_reducible refine (HCk.out _).mono ?_); rintro e w' ⟨rfl, rfl⟩)
            go_roundw
            case rel => exact ⟨k + 1, by omega, by go_num, by rw [HE.out], Bdrew (hL.alloc hz _) _⟩
            case measure => simp [intOf]; omega
          · have HCk : Hid (∀ w : World, Calls Try.prog 75 #[.int .i64 closed, .int .i64 (k : Int)] w fun e w' => e = .returned (.int .i64 1) ∧ w = w') := fun w => by have := HC.out k w hlt; rw [hck] at this; exact this
            by_cases hz0 : passJ xss cl S k &&& pairN xss k = 0
            · have HE : Hid (passJ xss cl S (k + 1) = passJ xss cl S k) := by unfold Hid; rw [HSt.out, stepJ_miss hz0]
              clear hck HSt
              generalize (xss.getD k []).getD 0 0 = x0 at *
              generalize (xss.getD k []).getD 1 0 = x1 at *
              generalize (xss.getD k []).getD 2 0 = x2 at *
              generalize (xss.getD k []).getD 3 0 = x3 at *
              have hm0 : min x0.toNat 64 = x0.toNat := by omega
              have hm1 : min x1.toNat 64 = x1.toNat := by omega
              have hw0 := wrapI (2 ^ x0.toNat)
              have hw1 := wrapI (2 ^ x1.toNat)
              have q00 := q0.1
              have q10 := q1.1
              generalize passJ xss cl S k = Q at *
              generalize pairN xss k = P at *
              have hd2 := and_no hPk hPr hz0
              clear q0 q1 hz0
              go_wp2_with fail
              go_quiet (fail)
              clear hw0 hw1 hm0 hm1
              go_wp2_with (go_at_call 75; (with_reducible refine (HCk.out _).mono ?_); rintro e w' ⟨rfl, rfl⟩)
              go_roundw
              case rel => exact ⟨k + 1, by omega, by go_num, by rw [HE.out], Bdrew (hL.alloc hz _) _⟩
              case measure => simp [intOf]; omega
            · have HE : Hid (passJ xss cl S (k + 1) = passJ xss cl S k ||| pairN xss k) := by unfold Hid; rw [HSt.out, stepJ_hit hck hz0]
              clear hck HSt
              generalize (xss.getD k []).getD 0 0 = x0 at *
              generalize (xss.getD k []).getD 1 0 = x1 at *
              generalize (xss.getD k []).getD 2 0 = x2 at *
              generalize (xss.getD k []).getD 3 0 = x3 at *
              have hm0 : min x0.toNat 64 = x0.toNat := by omega
              have hm1 : min x1.toNat 64 = x1.toNat := by omega
              have hw0 := wrapI (2 ^ x0.toNat)
              have hw1 := wrapI (2 ^ x1.toNat)
              have q00 := q0.1
              have q10 := q1.1
              generalize passJ xss cl S k = Q at *
              generalize pairN xss k = P at *
              have hd2 := and_yes hPk hPr hz0
              have HOR := Lib.hid (or_small hPk hPr)
              clear q0 q1 hz0
              go_wp2_with fail
              go_quiet (fail)
              clear hw0 hw1 hm0 hm1
              go_wp2_with (go_at_call 75; (with_reducible refine (HCk.out _).mono ?_); rintro e w' ⟨rfl, rfl⟩)
              go_roundw
              case rel => exact ⟨k + 1, by omega, by go_num, by rw [HE.out, ← HOR.out], Bdrew (hL.alloc hz _) _⟩
              case measure => simp [intOf]; omega
        · have e : k = n := by omega
          subst e
          have HN2 := HO.out.next HP8.out
          rw [HN.out] at HN2
          have HON := Lib.hid HN2
          have hge : S ≤ passJ xss cl S k := passJ_ge _ _ _ _
          have h4194304 := HN2.2.1
          have HME := Lib.hid (meas_lt hge h4194304 HD.out)
          clear HN2
          have HTT : Hid (S = 0 ∨ passJ xss cl S k = passJ xss cl S k) := .inr rfl
          go_wp2_with fail
          go_roundw
          case rel => exact ⟨_, S, rfl, rfl, h4194304, HON, HTT, hL⟩
          case measure => exact HME.out

theorem joinedWith_any (v : Value) (xss : List (List Int)) (closed pt : Int) (cl : Nat → Bool) (w : World) (ha : ReadsC w v xss) (hn : xss.length ≤ 60) (p0 : 0 ≤ pt) (p1 : pt < 22) (h8 : Pts22 xss)
    (hcl : ∀ (i : Nat) (w : World), i < xss.length → Calls Try.prog 75 #[.int .i64 closed, .int .i64 (i : Int)] w fun e w' => e = .returned (.int .i64 (b01 (cl i))) ∧ w = w') :
    Calls Try.prog 120 #[v, .int .i64 closed, .int .i64 pt] w fun e w' => e = .returned (.int .i64 ((joinS xss cl pt.toNat : Nat) : Int)) ∧ Below w.heap.size w w' := by
  obtain ⟨a, ca, rfl, _, ha⟩ := ha
  refine joinedWith_mem a xss.length ca xss closed pt cl w rfl hn p0 p1 (fun i hi => ?_) h8 hcl
  rcases ha with rfl | ⟨b, rfl, ha⟩
  · simp at hi
  · exact ⟨b, rfl, ha i hi⟩
/-- the contacts of a set, by bits -/
def inB (set : Int) (i : Nat) : Bool := decide (dig set.toNat i = 1)
theorem digitAt_inB {n : Nat} (hn : n ≤ 60) {set : Int} (h0 : 0 ≤ set) (h1 : set < 9223372036854775808) (i : Nat) (w : World) (hi : i < n) :
    Calls Try.prog 75 #[.int .i64 set, .int .i64 (i : Int)] w fun e w' => e = .returned (.int .i64 (b01 (inB set i))) ∧ w = w' := by
  have h := digitAt_any set (i : Int) w h0 h1 (by omega) (by omega)
  have e : digZ set (i : Int) = b01 (inB set i) := by
    unfold digZ inB b01
    have hl := dig_lt set.toNat i
    simp only [Int.toNat_natCast]
    by_cases hd : dig set.toNat i = 1
    · simp [hd]
    · have e : dig set.toNat i = 0 := by omega
      simp [e]
  rwa [e] at h

end Go.Proofs.Ytkdidplpnhokiaa.JW
