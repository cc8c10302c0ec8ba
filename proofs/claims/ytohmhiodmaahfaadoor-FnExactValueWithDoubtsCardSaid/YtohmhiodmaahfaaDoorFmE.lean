/- l04End, l04Is: where a formula ends: the model's. -/
import Derived.Test.YtohmhiodmaahfaaDoorFm
import Derived.Test.YtohmhiodmaahfaaDoorSplitM
import Derived.Test.YtohmhiodmaahfaaDoorBase
import Derived.LoopTactic
namespace Go.Proofs.YtohmhiodmaahfaaDoor
open Go.RowKit
set_option linter.unusedVariables false

/-- the place behind what is read, or -1 -/
def endZ (s : ByteArray) (m : Option (Int × List Fm)) (a : Nat) : Int := match rdF (byteAt s) s.size m a with | some (_, e) => (e : Int) | none => -1
theorem endZ_none {s : ByteArray} {m : Option (Int × List Fm)} {a : Nat} (h : rdF (byteAt s) s.size m a = none) : endZ s m a = -1 := by unfold endZ; rw [h]
theorem endZ_some {s : ByteArray} {m : Option (Int × List Fm)} {a e : Nat} {t : Fm} (h : rdF (byteAt s) s.size m a = some (t, e)) : endZ s m a = (e : Int) := by unfold endZ; rw [h]
theorem endZ_more {s : ByteArray} {a e : Nat} {c : Int} {acc : List Fm} {t : Fm} (ha : a < s.size) (h : rdF (byteAt s) s.size none a = some (t, e)) : endZ s (some (c, acc)) a = endZ s (some (c, acc ++ [t])) e := by
  unfold endZ; rw [rdF_more ha h]
/-- what holds at the head of the loop over the members of a bracket -/
def ERel (s : ByteArray) (a : Nat) (R op : Int) (c r : Value) : Prop := ∃ (k : Nat) (acc : List Fm), k ≤ s.size ∧ a < k ∧ acc.length ≤ k ∧ c = .int .i64 (k : Int) ∧ r = .int .i64 (acc.length : Int) ∧ Hid (R = endZ s (some (op, acc)) k)
theorem ret_int64 {a b : Int} (h : a = b) : Ending.returned (.int .i64 a) = .returned (.int .i64 b) := by rw [h]
theorem l04End_out (s : ByteArray) (a : Nat) (w : World) (hs : s.size ≤ 1048576) (ha : s.size ≤ a) (ha2 : a ≤ 1048576) :
    Calls Tryd.prog 60 #[.string s, .int .i64 (a : Int)] w fun e w' => e = .returned (.int .i64 (-1)) ∧ w = w' := by
  have h1 : (s.size : Int) ≤ (a : Int) := by omega
  go_enter Tryd.func60, Tryd.ntmps60
  go_wp2
  go_ret
  exact ⟨rfl, rfl⟩

set_option maxRecDepth 100000 in
set_option maxHeartbeats 2000000 in
theorem l04End_leafa (s : ByteArray) (a : Nat) (w : World) (hs : s.size ≤ 1048576) (hlt : a < s.size) (h1 : 97 ≤ (s[a].toNat : Int)) (h2 : (s[a].toNat : Int) ≤ 101) :
    Calls Tryd.prog 60 #[.string s, .int .i64 (a : Int)] w fun e w' => e = .returned (.int .i64 ((a + 1 : Nat) : Int)) ∧ w = w' := by
  have hnlt : ¬ (s.size : Int) ≤ (a : Int) := by omega
  have hwr : (a : Int) + 1 ≤ 9223372036854775807 := by omega
  have ge97 : decide ((97 : Int) ≤ (s[a].toNat : Int)) = true := decide_eq_true (by omega)
  have le101 : decide ((s[a].toNat : Int) ≤ (101 : Int)) = true := decide_eq_true (by omega)
  have hx : Hid ((a : Int) + 1 = ((a + 1 : Nat) : Int)) := by unfold Hid; omega
  clear h1 h2
  go_enter Tryd.func60, Tryd.ntmps60
  go_wp2
  go_ret
  exact ⟨ret_int64 hx.out, rfl⟩

set_option maxRecDepth 100000 in
set_option maxHeartbeats 2000000 in
theorem l04End_leafb (s : ByteArray) (a : Nat) (w : World) (hs : s.size ≤ 1048576) (hlt : a < s.size) (h1 : 65 ≤ (s[a].toNat : Int)) (h2 : (s[a].toNat : Int) ≤ 69) :
    Calls Tryd.prog 60 #[.string s, .int .i64 (a : Int)] w fun e w' => e = .returned (.int .i64 ((a + 1 : Nat) : Int)) ∧ w = w' := by
  have hnlt : ¬ (s.size : Int) ≤ (a : Int) := by omega
  have hwr : (a : Int) + 1 ≤ 9223372036854775807 := by omega
  have ge97 : decide ((97 : Int) ≤ (s[a].toNat : Int)) = false := decide_eq_false (by omega)
  have ge65 : decide ((65 : Int) ≤ (s[a].toNat : Int)) = true := decide_eq_true (by omega)
  have le69 : decide ((s[a].toNat : Int) ≤ (69 : Int)) = true := decide_eq_true (by omega)
  have hx : Hid ((a : Int) + 1 = ((a + 1 : Nat) : Int)) := by unfold Hid; omega
  clear h1 h2
  go_enter Tryd.func60, Tryd.ntmps60
  go_wp2
  go_ret
  exact ⟨ret_int64 hx.out, rfl⟩

set_option maxRecDepth 100000 in
set_option maxHeartbeats 2000000 in
theorem l04End_leaf0 (s : ByteArray) (a : Nat) (w : World) (hs : s.size ≤ 1048576) (hlt : a < s.size) (h1 : (s[a].toNat : Int) = 48) :
    Calls Tryd.prog 60 #[.string s, .int .i64 (a : Int)] w fun e w' => e = .returned (.int .i64 ((a + 1 : Nat) : Int)) ∧ w = w' := by
  have hnlt : ¬ (s.size : Int) ≤ (a : Int) := by omega
  have hwr : (a : Int) + 1 ≤ 9223372036854775807 := by omega
  have ge97 : decide ((97 : Int) ≤ (s[a].toNat : Int)) = false := decide_eq_false (by omega)
  have ge65 : decide ((65 : Int) ≤ (s[a].toNat : Int)) = false := decide_eq_false (by omega)
  have e48 : ((s[a].toNat : Int) == 48) = true := by simp; omega
  have hx : Hid ((a : Int) + 1 = ((a + 1 : Nat) : Int)) := by unfold Hid; omega
  clear h1
  go_enter Tryd.func60, Tryd.ntmps60
  go_wp2
  go_ret
  exact ⟨ret_int64 hx.out, rfl⟩

set_option maxRecDepth 100000 in
set_option maxHeartbeats 2000000 in
theorem l04End_leaf1 (s : ByteArray) (a : Nat) (w : World) (hs : s.size ≤ 1048576) (hlt : a < s.size) (h1 : (s[a].toNat : Int) = 49) :
    Calls Tryd.prog 60 #[.string s, .int .i64 (a : Int)] w fun e w' => e = .returned (.int .i64 ((a + 1 : Nat) : Int)) ∧ w = w' := by
  have hnlt : ¬ (s.size : Int) ≤ (a : Int) := by omega
  have hwr : (a : Int) + 1 ≤ 9223372036854775807 := by omega
  have ge97 : decide ((97 : Int) ≤ (s[a].toNat : Int)) = false := decide_eq_false (by omega)
  have ge65 : decide ((65 : Int) ≤ (s[a].toNat : Int)) = false := decide_eq_false (by omega)
  have e48 : ((s[a].toNat : Int) == 48) = false := by simp; omega
  have e49 : ((s[a].toNat : Int) == 49) = true := by simp; omega
  have hx : Hid ((a : Int) + 1 = ((a + 1 : Nat) : Int)) := by unfold Hid; omega
  clear h1
  go_enter Tryd.func60, Tryd.ntmps60
  go_wp2
  go_ret
  exact ⟨ret_int64 hx.out, rfl⟩

set_option maxRecDepth 100000 in
set_option maxHeartbeats 2000000 in
theorem l04End_nonea (s : ByteArray) (a : Nat) (w : World) (hs : s.size ≤ 1048576) (hlt : a < s.size) (hq : (s[a].toNat : Int) < 40) :
    Calls Tryd.prog 60 #[.string s, .int .i64 (a : Int)] w fun e w' => e = .returned (.int .i64 (-1)) ∧ w = w' := by
  have hnlt : ¬ (s.size : Int) ≤ (a : Int) := by omega
  have hwr : (a : Int) + 1 ≤ 9223372036854775807 := by omega
  have ge97 : decide ((97 : Int) ≤ (s[a].toNat : Int)) = false := decide_eq_false (by omega)
  have ge65 : decide ((65 : Int) ≤ (s[a].toNat : Int)) = false := decide_eq_false (by omega)
  have e48 : ((s[a].toNat : Int) == 48) = false := by simp; omega
  have e49 : ((s[a].toNat : Int) == 49) = false := by simp; omega
  have e91 : ((s[a].toNat : Int) == 91) = false := by simp; omega
  have n40 : ((s[a].toNat : Int) != 40) = true := by simp; omega
  clear hq
  go_enter Tryd.func60, Tryd.ntmps60
  go_wp2
  go_ret
  exact ⟨rfl, rfl⟩

set_option maxRecDepth 100000 in
set_option maxHeartbeats 2000000 in
theorem l04End_noneb (s : ByteArray) (a : Nat) (w : World) (hs : s.size ≤ 1048576) (hlt : a < s.size) (hq : 40 < (s[a].toNat : Int)) (hr : (s[a].toNat : Int) < 65) (h48 : (s[a].toNat : Int) ≠ 48) (h49 : (s[a].toNat : Int) ≠ 49) :
    Calls Tryd.prog 60 #[.string s, .int .i64 (a : Int)] w fun e w' => e = .returned (.int .i64 (-1)) ∧ w = w' := by
  have hnlt : ¬ (s.size : Int) ≤ (a : Int) := by omega
  have hwr : (a : Int) + 1 ≤ 9223372036854775807 := by omega
  have ge97 : decide ((97 : Int) ≤ (s[a].toNat : Int)) = false := decide_eq_false (by omega)
  have ge65 : decide ((65 : Int) ≤ (s[a].toNat : Int)) = false := decide_eq_false (by omega)
  have e48 : ((s[a].toNat : Int) == 48) = false := by simp; omega
  have e49 : ((s[a].toNat : Int) == 49) = false := by simp; omega
  have e91 : ((s[a].toNat : Int) == 91) = false := by simp; omega
  have n40 : ((s[a].toNat : Int) != 40) = true := by simp; omega
  clear hq hr h48 h49
  go_enter Tryd.func60, Tryd.ntmps60
  go_wp2
  go_ret
  exact ⟨rfl, rfl⟩

set_option maxRecDepth 100000 in
set_option maxHeartbeats 2000000 in
theorem l04End_nonec (s : ByteArray) (a : Nat) (w : World) (hs : s.size ≤ 1048576) (hlt : a < s.size) (hq : 69 < (s[a].toNat : Int)) (hr : (s[a].toNat : Int) < 97) (h91 : (s[a].toNat : Int) ≠ 91) :
    Calls Tryd.prog 60 #[.string s, .int .i64 (a : Int)] w fun e w' => e = .returned (.int .i64 (-1)) ∧ w = w' := by
  have hnlt : ¬ (s.size : Int) ≤ (a : Int) := by omega
  have hwr : (a : Int) + 1 ≤ 9223372036854775807 := by omega
  have ge97 : decide ((97 : Int) ≤ (s[a].toNat : Int)) = false := decide_eq_false (by omega)
  have ge65 : decide ((65 : Int) ≤ (s[a].toNat : Int)) = true := decide_eq_true (by omega)
  have le69 : decide ((s[a].toNat : Int) ≤ (69 : Int)) = false := decide_eq_false (by omega)
  have e48 : ((s[a].toNat : Int) == 48) = false := by simp; omega
  have e49 : ((s[a].toNat : Int) == 49) = false := by simp; omega
  have e91 : ((s[a].toNat : Int) == 91) = false := by simp; omega
  have n40 : ((s[a].toNat : Int) != 40) = true := by simp; omega
  clear hq hr h91
  go_enter Tryd.func60, Tryd.ntmps60
  go_wp2
  go_ret
  exact ⟨rfl, rfl⟩

set_option maxRecDepth 100000 in
set_option maxHeartbeats 2000000 in
theorem l04End_noned (s : ByteArray) (a : Nat) (w : World) (hs : s.size ≤ 1048576) (hlt : a < s.size) (hq : 101 < (s[a].toNat : Int)) :
    Calls Tryd.prog 60 #[.string s, .int .i64 (a : Int)] w fun e w' => e = .returned (.int .i64 (-1)) ∧ w = w' := by
  have hnlt : ¬ (s.size : Int) ≤ (a : Int) := by omega
  have hwr : (a : Int) + 1 ≤ 9223372036854775807 := by omega
  have ge97 : decide ((97 : Int) ≤ (s[a].toNat : Int)) = true := decide_eq_true (by omega)
  have le101 : decide ((s[a].toNat : Int) ≤ (101 : Int)) = false := decide_eq_false (by omega)
  have ge65 : decide ((65 : Int) ≤ (s[a].toNat : Int)) = true := decide_eq_true (by omega)
  have le69 : decide ((s[a].toNat : Int) ≤ (69 : Int)) = false := decide_eq_false (by omega)
  have e48 : ((s[a].toNat : Int) == 48) = false := by simp; omega
  have e49 : ((s[a].toNat : Int) == 49) = false := by simp; omega
  have e91 : ((s[a].toNat : Int) == 91) = false := by simp; omega
  have n40 : ((s[a].toNat : Int) != 40) = true := by simp; omega
  clear hq
  go_enter Tryd.func60, Tryd.ntmps60
  go_wp2
  go_ret
  exact ⟨rfl, rfl⟩

set_option maxRecDepth 100000 in
set_option maxHeartbeats 2000000 in
theorem l04End_openp (s : ByteArray) (a : Nat) (w : World) (hs : s.size ≤ 1048576) (hlt : a < s.size) (h1 : (s[a].toNat : Int) = 40) (ih : ∀ (k : Nat) (w : World), a < k → k ≤ s.size → Calls Tryd.prog 60 #[.string s, .int .i64 (k : Int)] w fun e w' => e = .returned (.int .i64 (endZ s none k)) ∧ w = w') :
    Calls Tryd.prog 60 #[.string s, .int .i64 (a : Int)] w fun e w' => e = .returned (.int .i64 (endZ s (some (40, [])) (a + 1))) ∧ w = w' := by
  have HCl : Hid (closeC 40 = 41) := by unfold Hid; rfl
  obtain ⟨R, hR⟩ : ∃ R, endZ s (some (40, [])) (a + 1) = R := ⟨_, rfl⟩
  rw [hR]
  have HLT : a + 1 ≤ s.size := hlt
  have HO : Hid (R = endZ s (some (40, [])) (a + 1)) := hR.symm
  have IH := Lib.hid ih
  have hnlt : ¬ (s.size : Int) ≤ (a : Int) := by omega
  have hwr : (a : Int) + 1 ≤ 9223372036854775807 := by omega
  have ge97 : decide ((97 : Int) ≤ (s[a].toNat : Int)) = false := decide_eq_false (by omega)
  have ge65 : decide ((65 : Int) ≤ (s[a].toNat : Int)) = false := decide_eq_false (by omega)
  have e48 : ((s[a].toNat : Int) == 48) = false := by simp; omega
  have e49 : ((s[a].toNat : Int) == 49) = false := by simp; omega
  have e91 : ((s[a].toNat : Int) == 91) = false := by simp; omega
  have n40 : ((s[a].toNat : Int) != 40) = false := by simp; omega
  clear hR h1 ih
  have ha1 : Hid ((a : Int) + 1 = ((a + 1 : Nat) : Int)) := by unfold Hid; omega
  go_enter Tryd.func60, Tryd.ntmps60
  go_wp2_with fail
  rw [ha1.out]
  clear ge97 ge65 e48 e49 e91 n40
  generalize (s[a].toNat : Int) = ca
  clear hlt
  go_loop [1, 7] (fun c r => ERel s a R 40 c r) (fun c _ => s.size - (intOf c).toNat)
  case atStart => exact ⟨a + 1, [], HLT, by omega, by simp, rfl, rfl, HO⟩
  case round =>
    obtain ⟨k, acc, hk, hak, hacc, rfl, rfl, HR⟩ := hrel
    clear HO
    by_cases hlt2 : k < s.size
    · have hbk := byteAt_eq s k hlt2
      by_cases hcl : byteAt s k = 41
      · have hd : ((s[k].toNat : Int) != 41) = false := by rw [← hbk, hcl]; rfl
        have hge : ¬ (s.size : Int) ≤ (k : Int) := by omega
        by_cases h2 : 2 ≤ acc.length
        · have hlt3 : ¬ (acc.length : Int) < 2 := by omega
          have HE : Hid (R = ((k + 1 : Nat) : Int)) := HR.out.trans (endZ_some (rdF_close hlt2 (hcl.trans HCl.out.symm) h2))
          have hk1 : Hid ((k : Int) + 1 = ((k + 1 : Nat) : Int)) := by unfold Hid; omega
          clear hbk hcl h2 HR
          go_wp2
          go_ret
          exact ⟨ret_int64 (hk1.out.trans HE.out.symm), rfl⟩
        · have hlt3 : (acc.length : Int) < 2 := by omega
          have HE : Hid (R = -1) := HR.out.trans (endZ_none (rdF_few (hcl.trans HCl.out.symm) h2))
          clear hbk hcl h2 HR
          go_wp2
          go_ret
          exact ⟨ret_int64 HE.out.symm, rfl⟩
      · have hd : ((s[k].toNat : Int) != 41) = true := by rw [← hbk]; simpa using hcl
        have hcl2 : byteAt s k ≠ closeC 40 := by rw [HCl.out]; exact hcl
        have HDD := Lib.hid hd
        cases hr : rdF (byteAt s) s.size none k with
        | none =>
          have HE : Hid (R = -1) := HR.out.trans (endZ_none (rdF_fail hr hcl2))
          have HZ : Hid (endZ s none k = -1) := endZ_none hr
          have HI := Lib.hid (IH.out k w hak hk)
          rw [HZ.out] at HI
          clear hbk hcl hcl2 hr HR HZ
          go_wp2_with (go_at_call 60; refine HI.out.mono ?_; rintro e w' ⟨rfl, rfl⟩)
          go_ret
          exact ⟨ret_int64 HE.out.symm, rfl⟩
        | some tr =>
          obtain ⟨t, e1⟩ := tr
          have hadv := rdF_adv _ _ _ _ _ _ hr
          have HE : Hid (R = endZ s (some (40, acc ++ [t])) e1) := HR.out.trans (endZ_more hlt2 hr)
          have HZ : Hid (endZ s none k = (e1 : Int)) := endZ_some hr
          have HI := Lib.hid (IH.out k w hak hk)
          rw [HZ.out] at HI
          have hn0 : ¬ (e1 : Int) < 0 := by omega
          have hl1 : Hid ((acc.length : Int) + 1 = ((acc ++ [t]).length : Int)) := by unfold Hid; simp
          have hl2 : Hid ((acc ++ [t]).length ≤ e1) := by unfold Hid; simp; omega
          have HM : Hid (s.size - e1 < s.size - k) := by unfold Hid; omega
          have hae : Hid (a < e1) := by unfold Hid; omega
          have ad2 : Hid (e1 ≤ s.size) := hadv.2
          have hsz9 : e1 ≤ 1048576 := by omega
          clear hbk hcl hcl2 hr HR HZ hadv hd
          obtain ⟨E1, hE1⟩ : ∃ x : Int, (e1 : Int) = x := ⟨_, rfl⟩
          have HE1 := Lib.hid hE1
          have hE0 : ¬ E1 < 0 := by omega
          rw [hE1] at HI
          clear hE1 hn0 hsz9
          have hd : ((s[k].toNat : Int) != 41) = true := HDD.out
          go_wp2_with fail
          refine HI.out.mono ?_
          rintro e w' ⟨rfl, rfl⟩
          have hacc2 : acc.length ≤ 1048576 := by omega
          clear hd HDD hacc hwr HI IH
          generalize (s[k].toNat : Int) = ck
          clear hlt2 hk hak
          go_wp2_with fail
          have hRel : ERel s a R 40 (.int .i64 E1) (.int .i64 ((acc.length : Int) + 1)) := ⟨e1, acc ++ [t], ad2.out, hae.out, hl2.out, by rw [HE1.out], by rw [hl1.out], HE⟩
          refine ⟨⟨trivial, ?_⟩, ?_⟩
          · (repeat (apply Exists.intro))
            exact ⟨hRel, rfl⟩
          · show s.size - (E1).toNat < s.size - ((k : Int)).toNat
            rw [← HE1.out]; exact HM.out
    · have HE : Hid (R = -1) := HR.out.trans (endZ_none (rdF_end (by omega)))
      have hge : (s.size : Int) ≤ (k : Int) := by omega
      have hge2 : ¬ (k : Int) < (s.size : Int) := by omega
      clear HR
      go_wp2
      go_ret
      exact ⟨ret_int64 HE.out.symm, rfl⟩

set_option maxRecDepth 100000 in
set_option maxHeartbeats 2000000 in
theorem l04End_openq (s : ByteArray) (a : Nat) (w : World) (hs : s.size ≤ 1048576) (hlt : a < s.size) (h1 : (s[a].toNat : Int) = 91) (ih : ∀ (k : Nat) (w : World), a < k → k ≤ s.size → Calls Tryd.prog 60 #[.string s, .int .i64 (k : Int)] w fun e w' => e = .returned (.int .i64 (endZ s none k)) ∧ w = w') :
    Calls Tryd.prog 60 #[.string s, .int .i64 (a : Int)] w fun e w' => e = .returned (.int .i64 (endZ s (some (91, [])) (a + 1))) ∧ w = w' := by
  have HCl : Hid (closeC 91 = 93) := by unfold Hid; rfl
  obtain ⟨R, hR⟩ : ∃ R, endZ s (some (91, [])) (a + 1) = R := ⟨_, rfl⟩
  rw [hR]
  have HLT : a + 1 ≤ s.size := hlt
  have HO : Hid (R = endZ s (some (91, [])) (a + 1)) := hR.symm
  have IH := Lib.hid ih
  have hnlt : ¬ (s.size : Int) ≤ (a : Int) := by omega
  have hwr : (a : Int) + 1 ≤ 9223372036854775807 := by omega
  have ge97 : decide ((97 : Int) ≤ (s[a].toNat : Int)) = false := decide_eq_false (by omega)
  have ge65 : decide ((65 : Int) ≤ (s[a].toNat : Int)) = true := decide_eq_true (by omega)
  have le69 : decide ((s[a].toNat : Int) ≤ (69 : Int)) = false := decide_eq_false (by omega)
  have e48 : ((s[a].toNat : Int) == 48) = false := by simp; omega
  have e49 : ((s[a].toNat : Int) == 49) = false := by simp; omega
  have e91 : ((s[a].toNat : Int) == 91) = true := by simp; omega
  clear hR h1 ih
  have ha1 : Hid ((a : Int) + 1 = ((a + 1 : Nat) : Int)) := by unfold Hid; omega
  go_enter Tryd.func60, Tryd.ntmps60
  go_wp2_with fail
  rw [ha1.out]
  clear ge97 ge65 le69 e48 e49 e91
  generalize (s[a].toNat : Int) = ca
  clear hlt
  go_loop [1, 7] (fun c r => ERel s a R 91 c r) (fun c _ => s.size - (intOf c).toNat)
  case atStart => exact ⟨a + 1, [], HLT, by omega, by simp, rfl, rfl, HO⟩
  case round =>
    obtain ⟨k, acc, hk, hak, hacc, rfl, rfl, HR⟩ := hrel
    clear HO
    by_cases hlt2 : k < s.size
    · have hbk := byteAt_eq s k hlt2
      by_cases hcl : byteAt s k = 93
      · have hd : ((s[k].toNat : Int) != 93) = false := by rw [← hbk, hcl]; rfl
        have hge : ¬ (s.size : Int) ≤ (k : Int) := by omega
        by_cases h2 : 2 ≤ acc.length
        · have hlt3 : ¬ (acc.length : Int) < 2 := by omega
          have HE : Hid (R = ((k + 1 : Nat) : Int)) := HR.out.trans (endZ_some (rdF_close hlt2 (hcl.trans HCl.out.symm) h2))
          have hk1 : Hid ((k : Int) + 1 = ((k + 1 : Nat) : Int)) := by unfold Hid; omega
          clear hbk hcl h2 HR
          go_wp2
          go_ret
          exact ⟨ret_int64 (hk1.out.trans HE.out.symm), rfl⟩
        · have hlt3 : (acc.length : Int) < 2 := by omega
          have HE : Hid (R = -1) := HR.out.trans (endZ_none (rdF_few (hcl.trans HCl.out.symm) h2))
          clear hbk hcl h2 HR
          go_wp2
          go_ret
          exact ⟨ret_int64 HE.out.symm, rfl⟩
      · have hd : ((s[k].toNat : Int) != 93) = true := by rw [← hbk]; simpa using hcl
        have hcl2 : byteAt s k ≠ closeC 91 := by rw [HCl.out]; exact hcl
        have HDD := Lib.hid hd
        cases hr : rdF (byteAt s) s.size none k with
        | none =>
          have HE : Hid (R = -1) := HR.out.trans (endZ_none (rdF_fail hr hcl2))
          have HZ : Hid (endZ s none k = -1) := endZ_none hr
          have HI := Lib.hid (IH.out k w hak hk)
          rw [HZ.out] at HI
          clear hbk hcl hcl2 hr HR HZ
          go_wp2_with (go_at_call 60; refine HI.out.mono ?_; rintro e w' ⟨rfl, rfl⟩)
          go_ret
          exact ⟨ret_int64 HE.out.symm, rfl⟩
        | some tr =>
          obtain ⟨t, e1⟩ := tr
          have hadv := rdF_adv _ _ _ _ _ _ hr
          have HE : Hid (R = endZ s (some (91, acc ++ [t])) e1) := HR.out.trans (endZ_more hlt2 hr)
          have HZ : Hid (endZ s none k = (e1 : Int)) := endZ_some hr
          have HI := Lib.hid (IH.out k w hak hk)
          rw [HZ.out] at HI
          have hn0 : ¬ (e1 : Int) < 0 := by omega
          have hl1 : Hid ((acc.length : Int) + 1 = ((acc ++ [t]).length : Int)) := by unfold Hid; simp
          have hl2 : Hid ((acc ++ [t]).length ≤ e1) := by unfold Hid; simp; omega
          have HM : Hid (s.size - e1 < s.size - k) := by unfold Hid; omega
          have hae : Hid (a < e1) := by unfold Hid; omega
          have ad2 : Hid (e1 ≤ s.size) := hadv.2
          have hsz9 : e1 ≤ 1048576 := by omega
          clear hbk hcl hcl2 hr HR HZ hadv hd
          obtain ⟨E1, hE1⟩ : ∃ x : Int, (e1 : Int) = x := ⟨_, rfl⟩
          have HE1 := Lib.hid hE1
          have hE0 : ¬ E1 < 0 := by omega
          rw [hE1] at HI
          clear hE1 hn0 hsz9
          have hd : ((s[k].toNat : Int) != 93) = true := HDD.out
          go_wp2_with fail
          refine HI.out.mono ?_
          rintro e w' ⟨rfl, rfl⟩
          have hacc2 : acc.length ≤ 1048576 := by omega
          clear hd HDD hacc hwr HI IH
          generalize (s[k].toNat : Int) = ck
          clear hlt2 hk hak
          go_wp2_with fail
          have hRel : ERel s a R 91 (.int .i64 E1) (.int .i64 ((acc.length : Int) + 1)) := ⟨e1, acc ++ [t], ad2.out, hae.out, hl2.out, by rw [HE1.out], by rw [hl1.out], HE⟩
          refine ⟨⟨trivial, ?_⟩, ?_⟩
          · (repeat (apply Exists.intro))
            exact ⟨hRel, rfl⟩
          · show s.size - (E1).toNat < s.size - ((k : Int)).toNat
            rw [← HE1.out]; exact HM.out
    · have HE : Hid (R = -1) := HR.out.trans (endZ_none (rdF_end (by omega)))
      have hge : (s.size : Int) ≤ (k : Int) := by omega
      have hge2 : ¬ (k : Int) < (s.size : Int) := by omega
      clear HR
      go_wp2
      go_ret
      exact ⟨ret_int64 HE.out.symm, rfl⟩

theorem l04End_any (s : ByteArray) (hs : s.size ≤ 1048576) : ∀ (N a : Nat) (w : World), s.size ≤ a + N → a ≤ s.size →
    Calls Tryd.prog 60 #[.string s, .int .i64 (a : Int)] w fun e w' => e = .returned (.int .i64 (endZ s none a)) ∧ w = w' := by
  intro N
  induction N with
  | zero =>
    intro a w hN ha
    rw [endZ_none (rdF_end (by omega))]
    exact l04End_out s a w hs (by omega) (by omega)
  | succ N ih =>
    intro a w hN ha
    by_cases hlt : a < s.size
    · have hb := byteAt_eq s a hlt
      by_cases hl : leafC (byteAt s a) = true
      · rw [endZ_some (rdF_leaf hlt hl)]
        unfold leafC at hl
        have hl2 := of_decide_eq_true hl
        rw [hb] at hl2
        rcases hl2 with ⟨h1, h2⟩ | ⟨h1, h2⟩ | h1 | h1
        · exact l04End_leafa s a w hs hlt h1 h2
        · exact l04End_leafb s a w hs hlt h1 h2
        · exact l04End_leaf0 s a w hs hlt h1
        · exact l04End_leaf1 s a w hs hlt h1
      · have hl' : leafC (byteAt s a) = false := by simpa using hl
        by_cases ho : openC (byteAt s a) = true
        · have hopen := rdF_open hlt ho
          have HO : endZ s none a = endZ s (some (byteAt s a, [])) (a + 1) := by unfold endZ; rw [hopen]
          unfold openC at ho
          have ho2 := of_decide_eq_true ho
          rcases ho2 with h1 | h1
          · rw [HO, h1]
            exact l04End_openp s a w hs hlt (hb.symm.trans h1) fun k w hk hk2 => ih k w (by omega) hk2
          · rw [HO, h1]
            exact l04End_openq s a w hs hlt (hb.symm.trans h1) fun k w hk hk2 => ih k w (by omega) hk2
        · have ho' : openC (byteAt s a) = false := by simpa using ho
          rw [endZ_none (rdF_none hl' ho')]
          have hx : ¬ ((97 ≤ (s[a].toNat : Int) ∧ (s[a].toNat : Int) ≤ 101) ∨ (65 ≤ (s[a].toNat : Int) ∧ (s[a].toNat : Int) ≤ 69) ∨ (s[a].toNat : Int) = 48 ∨ (s[a].toNat : Int) = 49) := by rw [← hb]; exact of_decide_eq_false hl'
          have hy : ¬ ((s[a].toNat : Int) = 40 ∨ (s[a].toNat : Int) = 91) := by rw [← hb]; exact of_decide_eq_false ho'
          rcases (show (s[a].toNat : Int) < 40 ∨ (40 < (s[a].toNat : Int) ∧ (s[a].toNat : Int) < 65) ∨ (69 < (s[a].toNat : Int) ∧ (s[a].toNat : Int) < 97) ∨ 101 < (s[a].toNat : Int) by omega) with hq | ⟨hq, hr⟩ | ⟨hq, hr⟩ | hq
          · exact l04End_nonea s a w hs hlt hq
          · exact l04End_noneb s a w hs hlt hq hr (fun h => hx (.inr (.inr (.inl h)))) (fun h => hx (.inr (.inr (.inr h))))
          · exact l04End_nonec s a w hs hlt hq hr (fun h => hy (.inr h))
          · exact l04End_noned s a w hs hlt hq
    · rw [endZ_none (rdF_end (by omega))]
      exact l04End_out s a w hs (by omega) (by omega)

end Go.Proofs.YtohmhiodmaahfaaDoor
