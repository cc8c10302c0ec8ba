/- Values with doubts: the model's l08Doubts. -/
import Derived.Test.YtohmhiodmaahfaaDoorVdM
import Derived.Test.YtohmhiodmaahfaaDoorFvS
namespace Go.Proofs.YtohmhiodmaahfaaDoor
open Go.RowKit
set_option linter.unusedVariables false

theorem str_zero (s : ByteArray) (c : Int) (hs : s.size = 1) (hb : byteAt s 0 = c) : (s.toList == [48]) = decide (c = 48) := by
  rw [Lib.toList_data, Bool.eq_iff_iff, decide_eq_true_iff, beq_iff_eq]
  constructor
  · intro h
    have e : s = ⟨#[48]⟩ := by
      cases s with
      | mk d => congr 1; exact Array.toList_inj.1 h
    rw [← hb, e]; rfl
  · rintro rfl
    have e : s = ⟨#[48]⟩ := by
      apply bytes_ext
      · rw [hs]; rfl
      · intro k hk
        have e : k = 0 := by omega
        subst e
        rw [hb]; rfl
    rw [e]
def accZ (c : Int) (g : Int → Bool) (ts : List Fm) : Bool := if c = 40 then andF g ts else orF g ts
theorem accZ_all {c : Int} {g : Int → Bool} {ms : List Fm} (ho : openC c = true) : accZ c g ms = valF g (.mk c ms) := by
  have := of_decide_eq_true (show decide (c = 40 ∨ c = 91) = true from ho)
  rcases this with rfl | rfl
  · rw [valF_and]; rfl
  · rw [valF_or]; rfl

set_option maxRecDepth 100000 in
set_option maxHeartbeats 4000000 in
theorem l08Doubts_any (q : ByteArray) (hq : q.size = 5) (hqs : ∀ i, i < 5 → byteAt q i = 48 ∨ byteAt q i = 49 ∨ byteAt q i = 63) : ∀ (N : Nat) (t : Fm) (w : World), wfF t → (txtF t).length ≤ N → (txtF t).length ≤ 1048576 →
    Calls Tryd.prog 29 #[.string (txtS t), .string q] w fun e w' => e = .returned (.tuple #[.bool (!valF (leafD q false) t), .bool (valF (leafD q true) t)]) ∧ Below w.heap.size w w' := by
  intro N
  induction N with
  | zero => intro t w _ h; have := txtF_pos t; omega
  | succ N ih =>
    intro t w hw hN hz
    obtain ⟨c, ms⟩ := t
    cases ho : openC c
    · obtain ⟨hl, rfl, hs1, hb0⟩ := txtS_leaf hw ho
      have HV : Hid (∀ g, valF g (.mk c []) = g c) := fun g => by
        unfold valF
        have := of_decide_eq_false (show decide (c = 40 ∨ c = 91) = false from ho)
        rw [if_neg (by omega), if_neg (by omega)]
      generalize txtS (.mk c []) = s at *
      have hp0 : 0 < s.size := by omega
      have hp1 : (0 : Int) < (s.size : Int) := by omega
      cases hlt : letC c
      · have HE := Lib.hid (str_one s c hs1 hb0)
        have HE0 := Lib.hid (str_zero s c hs1 hb0)
        have hs1' : ((s.size : Int) == 1) = true := by rw [hs1]; rfl
        have HC : Hid (c = 48 ∨ c = 49) := by
          have := leafC_eq c
          rw [hl, hlt] at this
          simp at this
          exact this
        have HS := Lib.hid (fun w => l04Sign_no c w hlt)
        have HR : Hid ((!leafD q false c) = decide (c = 48) ∧ leafD q true c = decide (c = 49)) := by
          rcases HC.out with h | h <;> (subst h; exact ⟨rfl, rfl⟩)
        have hb := byteAt_eq s 0 hp0
        rw [hb0] at hb
        subst hb
        clear hl hlt ho hb0 hw hN hz HC ih hs1
        go_enter Tryd.func29, Tryd.ntmps29
        go_wp2_with (go_at_call 61; refine (HS.out _).mono ?_; rintro e w' ⟨rfl, rfl⟩)
        go_ret2
        exact ⟨by rw [HV.out, HV.out, HR.out.1, HR.out.2, ← HE.out, ← HE0.out]; rfl, Below.refl _ _⟩
      · obtain ⟨i, hi⟩ : ∃ i, inpC c = i := ⟨_, rfl⟩
        obtain ⟨k, hk⟩ : ∃ k, kndC c = k := ⟨_, rfl⟩
        have hkb : k = 0 ∨ k = 1 := by rw [← hk]; unfold kndC; split <;> omega
        have HL0 := Lib.hid (leafD_at (s := q) (b := false) hlt hi hk)
        have HL1 := Lib.hid (leafD_at (s := q) (b := true) hlt hi hk)
        have hib := (letC_iff (byteAt_bd s 0).1 (c := byteAt s 0)).1 (by rw [hb0]; exact hlt)
        rw [hb0, hi] at hib
        have HS := Lib.hid (fun w => l04Sign_yes c w hlt hi hk)
        have hb := byteAt_eq s 0 hp0
        rw [hb0] at hb
        subst hb
        obtain ⟨I, rfl⟩ : ∃ I : Nat, i = (I : Int) := ⟨i.toNat, by omega⟩
        have hI : I < q.size := by omega
        have hI1 : (I : Int) < (q.size : Int) := by omega
        have hI0 : (0 : Int) ≤ (I : Int) := by omega
        have hsg := hqs I (by omega)
        rw [byteAt_eq q I hI] at hsg
        have HB : Hid (byteAt q (I : Int).toNat = (q[I].toNat : Int)) := by unfold Hid; rw [Int.toNat_natCast]; exact byteAt_eq q I hI
        clear hl hlt ho hb0 hw hN hz ih hs1 hi hk hib
        rcases hsg with h | h | h
        · have e1 : ((q[I].toNat : Int) == 63) = false := by rw [h]; rfl
          have e2 : IntKind.u8.wrap ((q[I].toNat : Int) - 48) = 0 := by rw [h]; rfl
          have HR : Hid (leafD q false (s[0].toNat : Int) = (0 != k) ∧ leafD q true (s[0].toNat : Int) = (0 != k)) := by
            rw [Hid, HL0.out, HL1.out, HB.out, h]; exact ⟨rfl, rfl⟩
          clear h
          rcases hkb with rfl | rfl
          · go_enter Tryd.func29, Tryd.ntmps29
            go_wp2_with (go_at_call 61; refine (HS.out _).mono ?_; rintro e w' ⟨rfl, rfl⟩)
            go_ret2
            exact ⟨by rw [HV.out, HV.out, HR.out.1, HR.out.2]; rfl, Below.refl _ _⟩
          · go_enter Tryd.func29, Tryd.ntmps29
            go_wp2_with (go_at_call 61; refine (HS.out _).mono ?_; rintro e w' ⟨rfl, rfl⟩)
            go_ret2
            exact ⟨by rw [HV.out, HV.out, HR.out.1, HR.out.2]; rfl, Below.refl _ _⟩
        · have e1 : ((q[I].toNat : Int) == 63) = false := by rw [h]; rfl
          have e2 : IntKind.u8.wrap ((q[I].toNat : Int) - 48) = 1 := by rw [h]; rfl
          have HR : Hid (leafD q false (s[0].toNat : Int) = (1 != k) ∧ leafD q true (s[0].toNat : Int) = (1 != k)) := by
            rw [Hid, HL0.out, HL1.out, HB.out, h]; exact ⟨rfl, rfl⟩
          clear h
          rcases hkb with rfl | rfl
          · go_enter Tryd.func29, Tryd.ntmps29
            go_wp2_with (go_at_call 61; refine (HS.out _).mono ?_; rintro e w' ⟨rfl, rfl⟩)
            go_ret2
            exact ⟨by rw [HV.out, HV.out, HR.out.1, HR.out.2]; rfl, Below.refl _ _⟩
          · go_enter Tryd.func29, Tryd.ntmps29
            go_wp2_with (go_at_call 61; refine (HS.out _).mono ?_; rintro e w' ⟨rfl, rfl⟩)
            go_ret2
            exact ⟨by rw [HV.out, HV.out, HR.out.1, HR.out.2]; rfl, Below.refl _ _⟩
        · have e1 : ((q[I].toNat : Int) == 63) = true := by rw [h]; rfl
          have HR : Hid (leafD q false (s[0].toNat : Int) = false ∧ leafD q true (s[0].toNat : Int) = true) := by
            rw [Hid, HL0.out, HL1.out, HB.out, h]; exact ⟨rfl, rfl⟩
          clear h
          go_enter Tryd.func29, Tryd.ntmps29
          go_wp2_with (go_at_call 61; refine (HS.out _).mono ?_; rintro e w' ⟨rfl, rfl⟩)
          go_ret2
          exact ⟨by rw [HV.out, HV.out, HR.out.1, HR.out.2]; rfl, Below.refl _ _⟩
    · obtain ⟨h2, hwl, ha, hsz, hb0⟩ := txtS_open hw ho
      have HP := Lib.hid (fun w => l04Parts_any hw ho (by rw [txtS_size]; exact hz) w)
      have hlc : letC c = false := by
        have := of_decide_eq_true (show decide (c = 40 ∨ c = 91) = true from ho)
        rcases this with rfl | rfl <;> rfl
      have HM : Hid (∀ k, k < ms.length → ∀ w, Calls Tryd.prog 29 #[.string (txtS (ms.getD k (.mk 0 []))), .string q] w fun e w' => e = .returned (.tuple #[.bool (!valF (leafD q false) (ms.getD k (.mk 0 []))), .bool (valF (leafD q true) (ms.getD k (.mk 0 [])))]) ∧ Below w.heap.size w w') := fun k hk w => by
        have := txt_member ho hk
        exact ih _ w (wfL_at hwl hk) (by omega) (by omega)
      have HVE : Hid (∀ g, accZ c g (ms.take ms.length) = valF g (.mk c ms)) := fun g => by rw [List.take_length]; exact accZ_all ho
      have HS := Lib.hid (fun w => l04Sign_no c w hlc)
      have hml : ms.length ≤ 1048576 := by
        have : ∀ (l : List Fm), l.length ≤ (txtL l).length := by
          intro l
          induction l with
          | nil => simp
          | cons t ts ih => have := txtF_pos t; simp [txtL]; omega
        have := this ms
        rw [txtS_size] at hsz
        omega
      have hnn : ((txtS (.mk c ms)).size : Int) ≠ 1 := by omega
      have hs1' : (((txtS (.mk c ms)).size : Int) == 1) = false := by simpa using hnn
      have hp0 : 0 < (txtS (.mk c ms)).size := by omega
      have hp1 : (0 : Int) < ((txtS (.mk c ms)).size : Int) := by omega
      have hcc := of_decide_eq_true (show decide (c = 40 ∨ c = 91) = true from ho)
      have HST : Hid (∀ k, k < ms.length → ∀ g, accZ c g (ms.take (k + 1)) = if c = 40 then (accZ c g (ms.take k) && valF g (ms.getD k (.mk 0 []))) else (accZ c g (ms.take k) || valF g (ms.getD k (.mk 0 [])))) := fun k hk g => by
        unfold accZ
        split
        · rw [andF_take hk (.mk 0 [])]
        · rw [orF_take hk (.mk 0 [])]
      generalize txtS (.mk c ms) = s at *
      obtain ⟨n, hn⟩ : ∃ n, ms.length = n := ⟨_, rfl⟩
      rw [hn] at hml HM HVE HST
      have hb := byteAt_eq s 0 hp0
      rw [hb0] at hb
      obtain ⟨ser, hser⟩ : ∃ b, decide (c = 40) = b := ⟨_, rfl⟩
      have hser2 : ((s[0].toNat : Int) == 40) = ser := by rw [← hser, ← hb]; rfl
      have HA0 : Hid (∀ g, accZ c g (ms.take 0) = ser) := fun g => by
        rw [← hser]; rcases hcc with rfl | rfl <;> rfl
      have HST2 : Hid (∀ k, k < n → ∀ g, accZ c g (ms.take (k + 1)) = if ser = true then (accZ c g (ms.take k) && valF g (ms.getD k (.mk 0 []))) else (accZ c g (ms.take k) || valF g (ms.getD k (.mk 0 [])))) := fun k hk g => by
        rw [HST.out k hk g, ← hser]
        by_cases e : c = 40
        · rw [if_pos e, if_pos (by rw [decide_eq_true e])]
        · rw [if_neg e, if_neg (by rw [decide_eq_false e]; decide)]
      rw [hb] at HS
      clear hser hlc hw hN hz ih ha hsz hb0 hwl h2 hnn ho hcc HST hb
      go_enter Tryd.func29, Tryd.ntmps29
      go_upto_region 9 with (go_at_call 61; refine (HS.out _).mono ?_; rintro e w' ⟨rfl, rfl⟩)
      go_cut [10, 11] (fun s8 s9 wx => OwnsS wx w.heap.size s8 (ms.map txtS) ∧ s9 = .bool ser ∧ Below w.heap.size w wx)
      case first =>
        go_region_held3 (fun _ => True) (exact trivial) ((go_at_call 62; (with_reducible refine (HP.out _).mono ?_); rintro e w1 ⟨u, rfl, ou, hb⟩; have hL := chain (B := w.heap.size) (a := w) (by go_grown) (Nat.le_refl _) hb))
        all_goals (go_wp2_with fail; go_meet; exact ⟨ou, rfl, hL⟩)
      case rest =>
      obtain ⟨ou, rfl, hL0⟩ := hcut
      obtain ⟨sa, scap, rfl, hcells⟩ := OwnsS.at ou
      have hcells' : Hid (∀ i, i < n → ∃ g, sa = some ⟨g, 0, none⟩ ∧ wc.cell? ⟨g, i, none⟩ = some (.string (txtS (ms.getD i (.mk 0 []))))) := fun i hi => by
        obtain ⟨g, hg, hc⟩ := hcells i (by simpa [hn] using hi)
        refine ⟨g, hg, hc.trans ?_⟩
        rw [List.getD_eq_getElem?_getD, List.getElem?_map, List.getD_eq_getElem?_getD, List.getElem?_eq_getElem (by omega)]; rfl
      rw [show (ms.map txtS).length = n by simp [hn]]
      clear hcells ou
      have hn63 : n ≤ 9223372036854775807 := by omega
      cases ser
      · have HSTX : Hid (∀ k, k < n → ∀ g, accZ c g (ms.take (k + 1)) = (accZ c g (ms.take k) || valF g (ms.getD k (.mk 0 [])))) := fun k hk g => by rw [HST2.out k hk g]; rfl
        clear HST2
        go_wp2_with fail
        go_loopw [12, 13, 14] (fun z o u wr => ∃ k : Nat, k ≤ n ∧ u = .int .i64 (k : Int) ∧ z = .bool (!accZ c (leafD q false) (ms.take k)) ∧ o = .bool (accZ c (leafD q true) (ms.take k)) ∧ Below w.heap.size w wr ∧ Below wc.heap.size wc wr) (fun _ _ u _ => n - (intOf u).toNat)
        case atStart => exact ⟨0, Nat.zero_le _, rfl, by rw [HA0.out]; rfl, by rw [HA0.out], hL0, Below.refl _ _⟩
        case round =>
          clear hL0
          obtain ⟨k, hk, rfl, rfl, rfl, hL, hLc⟩ := hrel
          by_cases hlt : k < n
          · obtain ⟨g, rfl, hc0⟩ := hcells'.out k hlt
            have hca := cell_later hLc hc0
            have hk1 : (k : Int) < (n : Int) := by omega
            have hk0 : (0 : Int) ≤ (k : Int) := by omega
            have HC := Lib.hid (HM.out k hlt)
            have HTL := Lib.hid (HSTX.out k hlt (leafD q false))
            have HTH := Lib.hid (HSTX.out k hlt (leafD q true))
            clear hc0
            generalize valF (leafD q false) (ms.getD k (.mk 0 [])) = l at *
            generalize valF (leafD q true) (ms.getD k (.mk 0 [])) = h at *
            generalize txtS (ms.getD k (.mk 0 [])) = tk at *
            generalize accZ c (leafD q false) (ms.take k) = a at *
            generalize accZ c (leafD q true) (ms.take k) = b at *
            cases a <;> cases b
            all_goals (
              go_wp2_with (go_at_call 29; (with_reducible refine (HC.out _).mono ?_); rintro e w1 ⟨rfl, hb⟩; replace hL := chain (B := w.heap.size) hL (Nat.le_refl _) hb; replace hLc := chain (B := wc.heap.size) hLc (Nat.le_refl _) hb)
              exact ⟨⟨k + 1, by omega, by go_num, by rw [HTL.out]; rfl, by rw [HTH.out]; rfl, hL, hLc⟩, by simp [intOf]; omega⟩)
          · have e : k = n := by omega
            have hkn : ¬ (k : Int) < (n : Int) := by omega
            rw [e, HVE.out, HVE.out]
            clear e
            go_wp2_with fail
            go_ret2
            exact ⟨rfl, hL⟩
      · have HSTX : Hid (∀ k, k < n → ∀ g, accZ c g (ms.take (k + 1)) = (accZ c g (ms.take k) && valF g (ms.getD k (.mk 0 [])))) := fun k hk g => by rw [HST2.out k hk g]; rfl
        clear HST2
        go_wp2_with fail
        go_loopw [12, 13, 14] (fun z o u wr => ∃ k : Nat, k ≤ n ∧ u = .int .i64 (k : Int) ∧ z = .bool (!accZ c (leafD q false) (ms.take k)) ∧ o = .bool (accZ c (leafD q true) (ms.take k)) ∧ Below w.heap.size w wr ∧ Below wc.heap.size wc wr) (fun _ _ u _ => n - (intOf u).toNat)
        case atStart => exact ⟨0, Nat.zero_le _, rfl, by rw [HA0.out]; rfl, by rw [HA0.out], hL0, Below.refl _ _⟩
        case round =>
          clear hL0
          obtain ⟨k, hk, rfl, rfl, rfl, hL, hLc⟩ := hrel
          by_cases hlt : k < n
          · obtain ⟨g, rfl, hc0⟩ := hcells'.out k hlt
            have hca := cell_later hLc hc0
            have hk1 : (k : Int) < (n : Int) := by omega
            have hk0 : (0 : Int) ≤ (k : Int) := by omega
            have HC := Lib.hid (HM.out k hlt)
            have HTL := Lib.hid (HSTX.out k hlt (leafD q false))
            have HTH := Lib.hid (HSTX.out k hlt (leafD q true))
            clear hc0
            generalize valF (leafD q false) (ms.getD k (.mk 0 [])) = l at *
            generalize valF (leafD q true) (ms.getD k (.mk 0 [])) = h at *
            generalize txtS (ms.getD k (.mk 0 [])) = tk at *
            generalize accZ c (leafD q false) (ms.take k) = a at *
            generalize accZ c (leafD q true) (ms.take k) = b at *
            cases a <;> cases b
            all_goals (
              go_wp2_with (go_at_call 29; (with_reducible refine (HC.out _).mono ?_); rintro e w1 ⟨rfl, hb⟩; replace hL := chain (B := w.heap.size) hL (Nat.le_refl _) hb; replace hLc := chain (B := wc.heap.size) hLc (Nat.le_refl _) hb)
              exact ⟨⟨k + 1, by omega, by go_num, by rw [HTL.out]; rfl, by rw [HTH.out]; rfl, hL, hLc⟩, by simp [intOf]; omega⟩)
          · have e : k = n := by omega
            have hkn : ¬ (k : Int) < (n : Int) := by omega
            rw [e, HVE.out, HVE.out]
            clear e
            go_wp2_with fail
            go_ret2
            exact ⟨rfl, hL⟩

end Go.Proofs.YtohmhiodmaahfaaDoor
