/- IsSelector: the program's. -/
import Derived.Test.YtkojdaafgbfioaaDoorSeM
import Derived.Test.YtkojdaafgbfioaaDoorAt
import Derived.Deep.RegionHeld3
import Derived.Deep.DeepCutAuto
import Derived.Deep.RegionWith
namespace Go.Proofs.YtkojdaafgbfioaaDoor
open Go.RowKit
set_option linter.unusedVariables false

theorem str_dot (s : ByteArray) (hs : s.size = 1) : (s.toList == [46]) = (byteAt s 0 == 46) := by
  have hl : s.toList = [s[0]] := by
    rw [Lib.toList_data]
    apply List.ext_getElem
    · show s.data.toList.length = 1
      rw [Array.length_toList]; exact hs
    · intro i h1 h2
      have : i = 0 := by simp at h2; omega
      subst this
      simp; rfl
  rw [hl, byteAt_eq s 0 (by omega)]
  have e : ((s[0].toNat : Int) == 46) = (s[0] == 46) := by
    rw [Bool.eq_iff_iff]
    simp only [beq_iff_eq]
    constructor
    · intro h; apply UInt8.toNat_inj.1; show s[0].toNat = 46; omega
    · intro h; rw [h]; rfl
  rw [e]; simp

theorem allInputs_any (n : Int) (w : World) (n1 : 1 ≤ n) (n5 : n ≤ 5) :
    Calls Tryd.prog 23 #[.int .i64 n] w fun e w' => e = .returned (.int .i64 ((2 ^ n.toNat - 1 : Nat) : Int)) ∧ w = w' := by
  have hb := rcZ_bd n1 n5
  have HR := Lib.hid (fun w => rowCount_any n w n1 n5)
  obtain ⟨R, hR⟩ : ∃ R : Int, rcZ n = R := ⟨_, rfl⟩
  have hR1 : Hid (((2 ^ n.toNat - 1 : Nat) : Int) = R - 1) := by unfold Hid; rw [← hR]; unfold rcZ; have := Nat.two_pow_pos n.toNat; omega
  rw [hR] at HR hb
  clear hR
  go_enter Tryd.func23, Tryd.ntmps23
  go_wp2_with ((go_at_call 19; (with_reducible refine (HR.out _).mono ?_); rintro e w' ⟨rfl, rfl⟩))
  go_ret
  exact ⟨by rw [hR1.out]; rfl, rfl⟩

end Go.Proofs.YtkojdaafgbfioaaDoor
