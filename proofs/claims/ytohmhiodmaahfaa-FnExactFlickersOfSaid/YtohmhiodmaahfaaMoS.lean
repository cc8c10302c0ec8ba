/- The value of a formula in a moment: the model's. -/
import Derived.Test.YtohmhiodmaahfaaFvS
import Derived.Test.YtohmhiodmaahfaaGapM
namespace Go.Proofs.Ytohmhiodmaahfaa
open Go.RowKit
set_option linter.unusedVariables false

theorem momV_dig {c row input : Int} {cl : Bool} (h : letC c = true) {i k : Int} (hi : inpC c = i) (hk : kndC c = k) : momV row input cl c = if i = input then cl else (digZ row i != k) := by
  have h2 := of_decide_eq_true (show decide ((97 ≤ c ∧ c ≤ 101) ∨ (65 ≤ c ∧ c ≤ 69)) = true from h)
  have h48 : ¬ c = 48 := by omega
  have h49 : ¬ c = 49 := by omega
  unfold momV
  rw [if_neg h48, if_neg h49, hi, hk]

set_option maxRecDepth 100000 in
set_option maxHeartbeats 2000000 in
theorem l08Moment_any (input : Int) (cl : Bool) (row : Int) (hr0 : 0 ≤ row) (hr1 : row ≤ 31) : ∀ (N : Nat) (t : Fm) (w : World), wfF t → (txtF t).length ≤ N → (txtF t).length ≤ 1048576 →
    Calls Try.prog 45 #[.string (txtS t), .int .i64 row, .int .i64 input, .bool cl] w fun e w' => e = .returned (.bool (valF (momV row input cl) t)) ∧ Below w.heap.size w w' := by
  intro N
  induction N with
  | zero => intro t w _ h; have := txtF_pos t; omega
  | succ N ih =>
    intro t w hw hN hz
    obtain ⟨c, ms⟩ := t
    cases ho : openC c
    · obtain ⟨hl, rfl, hs1, hb0⟩ := txtS_leaf hw ho
      have HV : Hid (valF (momV row input cl) (.mk c []) = momV row input cl c) := by
        unfold Hid valF
        have := of_decide_eq_false (show decide (c = 40 ∨ c = 91) = false from ho)
        rw [if_neg (by omega), if_neg (by omega)]
      generalize txtS (.mk c []) = s at *
      have hp0 : 0 < s.size := by omega
      have hp1 : (0 : Int) < (s.size : Int) := by omega
      cases hlt : letC c
      · have HE := Lib.hid (str_one s c hs1 hb0)
        have hs1' : ((s.size : Int) == 1) = true := by rw [hs1]; rfl
        have HC : Hid (c = 48 ∨ c = 49) := by
          have := leafC_eq c
          rw [hl, hlt] at this
          simp at this
          exact this
        have HS := Lib.hid (fun w => l04Sign_no c w hlt)
        have hb := byteAt_eq s 0 hp0
        rw [hb0] at hb
        subst hb
        have HR : Hid (momV row input cl (s[0].toNat : Int) = decide ((s[0].toNat : Int) = 49)) := by
          rcases HC.out with h | h <;> (unfold Hid momV; rw [h]; rfl)
        clear hl hlt ho hb0 hw hN hz HC ih hs1
        go_enter Try.func45, Try.ntmps45
        go_wp2_with (go_at_call 48; refine (HS.out _).mono ?_; rintro e w' ⟨rfl, rfl⟩)
        go_ret
        exact ⟨by rw [HV.out, HR.out, ← HE.out]; rfl, Below.refl _ _⟩
      · obtain ⟨i, hi⟩ : ∃ i, inpC c = i := ⟨_, rfl⟩
        obtain ⟨k, hk⟩ : ∃ k, kndC c = k := ⟨_, rfl⟩
        have HL := Lib.hid (momV_dig (row := row) (input := input) (cl := cl) hlt hi hk)
        have hib := (letC_iff (byteAt_bd s 0).1 (c := byteAt s 0)).1 (by rw [hb0]; exact hlt)
        rw [hb0, hi] at hib
        have HS := Lib.hid (fun w => l04Sign_yes c w hlt hi hk)
        have hb := byteAt_eq s 0 hp0
        rw [hb0] at hb
        subst hb
        have hd := digit_walk row i hr0 (by omega) hib.1
        have Hd := Lib.hid hd
        obtain ⟨hi0, hi5⟩ := hib
        clear hl hlt ho hb0 hw hN hz ih hs1 hd hi hk
        by_cases hii : i = input
        · have hq : (i == input) = true := by simpa using hii
          have HL2 : Hid (momV row input cl (s[0].toNat : Int) = cl) := HL.out.trans (if_pos hii)
          clear hii HL
          go_enter Try.func45, Try.ntmps45
          go_wp2_with (go_at_call 48; refine (HS.out _).mono ?_; rintro e w' ⟨rfl, rfl⟩)
          go_ret
          exact ⟨by rw [HV.out, HL2.out]; rfl, Below.refl _ _⟩
        · have hq : (i == input) = false := by simpa using hii
          have HL2 : Hid (momV row input cl (s[0].toNat : Int) = (digZ row i != k)) := HL.out.trans (if_neg hii)
          clear hii HL
          go_enter Try.func45, Try.ntmps45
          go_wp2_with (go_at_call 48; refine (HS.out _).mono ?_; rintro e w' ⟨rfl, rfl⟩)
          go_ret
          exact ⟨by rw [HV.out, HL2.out, ← Hd.out]; rfl, Below.refl _ _⟩
    · obtain ⟨h2, hwl, ha, hsz, hb0⟩ := txtS_open hw ho
      have HP := Lib.hid (fun w => l04Parts_any hw ho (by rw [txtS_size]; exact hz) w)
      have hlc : letC c = false := by
        have := of_decide_eq_true (show decide (c = 40 ∨ c = 91) = true from ho)
        rcases this with rfl | rfl <;> rfl
      have HM : Hid (∀ k, k < ms.length → ∀ w, Calls Try.prog 45 #[.string (txtS (ms.getD k (.mk 0 []))), .int .i64 row, .int .i64 input, .bool cl] w fun e w' => e = .returned (.bool (valF (momV row input cl) (ms.getD k (.mk 0 [])))) ∧ Below w.heap.size w w') := fun k hk w => by
        have := txt_member ho hk
        exact ih _ w (wfL_at hwl hk) (by omega) (by omega)
      obtain ⟨j, hj, hno, hyes⟩ := firstB (fun i => valF (momV row input cl) (ms.getD i (.mk 0 [])) != decide (c = 40)) ms.length
      have HV : Hid (valF (momV row input cl) (.mk c ms) = (decide (j = ms.length) == decide (c = 40))) := by
        have := of_decide_eq_true (show decide (c = 40 ∨ c = 91) = true from ho)
        rcases this with rfl | rfl
        · unfold Hid
          rw [valF_ser hj (fun i hi => by have := hno i hi; simpa using this) (fun h => by have := hyes h; simpa using this)]
          simp
        · unfold Hid
          rw [valF_par hj (fun i hi => by have := hno i hi; simpa using this) (fun h => by have := hyes h; simpa using this)]
          simp
      have HNO := Lib.hid hno
      have HYES := Lib.hid hyes
      have HS := Lib.hid (fun w => l04Sign_no c w hlc)
      have hml : ms.length ≤ 1048576 := by
        have : ∀ (l : List Fm), l.length ≤ (txtL l).length := by
          intro l
          induction l with
          | nil => simp
          | cons t ts ih => have := txtF_pos t; simp [txtL]; omega
        have := this ms
        rw [txtS_size] at hsz
        omega
      have hnn : ((txtS (.mk c ms)).size : Int) ≠ 1 := by omega
      have hs1' : (((txtS (.mk c ms)).size : Int) == 1) = false := by simpa using hnn
      have hp0 : 0 < (txtS (.mk c ms)).size := by omega
      have hp1 : (0 : Int) < ((txtS (.mk c ms)).size : Int) := by omega
      generalize txtS (.mk c ms) = s at *
      obtain ⟨n, hn⟩ : ∃ n, ms.length = n := ⟨_, rfl⟩
      obtain ⟨ser, hser⟩ : ∃ b, decide (c = 40) = b := ⟨_, rfl⟩
      rw [hser] at HNO HYES HV
      rw [hn] at HYES hml HM hj HV
      have hb := byteAt_eq s 0 hp0
      rw [hb0] at hb
      subst hb
      have hser2 : ((s[0].toNat : Int) == 40) = ser := by rw [← hser]; rfl
      clear hno hyes hser hlc hw hN hz ih ha hsz hb0 hwl h2 hnn ho
      go_enter Try.func45, Try.ntmps45
      go_upto_region 8 with (go_at_call 48; refine (HS.out _).mono ?_; rintro e w' ⟨rfl, rfl⟩)
      go_cut [12, 13] (fun s8 s9 wx => OwnsS wx w.heap.size s8 (ms.map txtS) ∧ s9 = .bool ser ∧ Below w.heap.size w wx)
      case first =>
        go_region_held3 (fun _ => True) (exact trivial) ((go_at_call 59; (with_reducible refine (HP.out _).mono ?_); rintro e w1 ⟨u, rfl, ou, hb⟩; have hL := chain (B := w.heap.size) (a := w) (by go_grown) (Nat.le_refl _) hb))
        all_goals (go_wp2_with fail; go_meet; exact ⟨ou, rfl, hL⟩)
      case rest =>
      obtain ⟨ou, rfl, hL0⟩ := hcut
      obtain ⟨sa, scap, rfl, hcells⟩ := OwnsS.at ou
      have hcells' : Hid (∀ i, i < n → ∃ g, sa = some ⟨g, 0, none⟩ ∧ wc.cell? ⟨g, i, none⟩ = some (.string (txtS (ms.getD i (.mk 0 []))))) := fun i hi => by
        obtain ⟨g, hg, hc⟩ := hcells i (by simpa [hn] using hi)
        refine ⟨g, hg, hc.trans ?_⟩
        rw [List.getD_eq_getElem?_getD, List.getElem?_map, List.getD_eq_getElem?_getD, List.getElem?_eq_getElem (by omega)]; rfl
      have hlen : ((ms.map txtS).length : Int) = (n : Int) := by simp [hn]
      rw [show (ms.map txtS).length = n by simp [hn]]
      clear hcells ou hlen
      have hn63 : n ≤ 9223372036854775807 := by omega
      go_wp2_with fail
      go_loopw [14] (fun c wr => ∃ k : Nat, k ≤ j ∧ c = .int .i64 (k : Int) ∧ Below w.heap.size w wr ∧ Below wc.heap.size wc wr) (fun c _ => n - (intOf c).toNat)
      case atStart => exact ⟨0, Nat.zero_le _, rfl, hL0, Below.refl _ _⟩
      case round =>
        clear hL0
        obtain ⟨k, hk, rfl, hL, hLc⟩ := hrel
        by_cases hlt : k < n
        · obtain ⟨g, rfl, hc0⟩ := hcells'.out k hlt
          have hca := cell_later hLc hc0
          have hk1 : (k : Int) < (n : Int) := by omega
          have hk0 : (0 : Int) ≤ (k : Int) := by omega
          have HC := Lib.hid (HM.out k hlt)
          by_cases hkj : k < j
          · have hx : (!(valF (momV row input cl) (ms.getD k (.mk 0 [])) == ser)) = false := HNO.out k hkj
            clear hc0
            generalize valF (momV row input cl) (ms.getD k (.mk 0 [])) = b at *
            generalize txtS (ms.getD k (.mk 0 [])) = tk at *
            go_wp2_with (go_at_call 45; (with_reducible refine (HC.out _).mono ?_); rintro e w1 ⟨rfl, hb⟩; have hL := chain (B := w.heap.size) hL (Nat.le_refl _) hb; have hLc := chain (B := wc.heap.size) hLc (Nat.le_refl _) hb)
            exact ⟨⟨k + 1, by omega, by go_num, hL, hLc⟩, by simp [intOf]; omega⟩
          · have e : k = j := by omega
            subst e
            have hx : (!(valF (momV row input cl) (ms.getD k (.mk 0 [])) == ser)) = true := HYES.out hlt
            have HV2 : Hid (valF (momV row input cl) (.mk (s[0].toNat : Int) ms) = !ser) := by
              unfold Hid; rw [HV.out, decide_eq_false (by omega)]; cases ser <;> rfl
            clear hc0
            generalize valF (momV row input cl) (ms.getD k (.mk 0 [])) = b at *
            generalize txtS (ms.getD k (.mk 0 [])) = tk at *
            go_wp2_with (go_at_call 45; (with_reducible refine (HC.out _).mono ?_); rintro e w1 ⟨rfl, hb⟩; have hL := chain (B := w.heap.size) hL (Nat.le_refl _) hb; have hLc := chain (B := wc.heap.size) hLc (Nat.le_refl _) hb)
            go_ret
            exact ⟨by rw [HV2.out]; rfl, hL⟩
        · have e : k = n := by omega
          have e2 : j = n := by omega
          have HV2 : Hid (valF (momV row input cl) (.mk (s[0].toNat : Int) ms) = ser) := by
            unfold Hid; rw [HV.out, e2, decide_eq_true rfl]; cases ser <;> rfl
          subst e
          clear e2
          go_wp2_with fail
          go_ret
          exact ⟨by rw [HV2.out]; rfl, hL⟩

end Go.Proofs.Ytohmhiodmaahfaa
