/- Which rows go together: the program's companyIn. -/
import Derived.Test.YtnlcnbkookmfaaaTogM
namespace Go.Proofs.Ytnlcnbkookmfaaa
open Go.RowKit
set_option linter.unusedVariables false

set_option maxRecDepth 100000 in
set_option maxHeartbeats 1000000 in
theorem companyIn_any (v : Value) (p : Int) (xss yss : List (List Int)) (w : World) (ha : ReadsH w v p xss yss) (hb : chaB p xss yss = true) :
    Calls Try.prog 65 #[v] w fun e w' => e = .returned (arrV (matZ (Tog xss yss xss.length p.toNat))) ∧ Below w.heap.size w w' := by
  obtain ⟨⟨n1, n8⟩, ⟨p1, p4⟩, -⟩ := chaB_out hb
  obtain ⟨M, rfl⟩ : ∃ M : Nat, p = (M : Int) := ⟨p.toNat, by omega⟩
  rw [Int.toNat_natCast]
  obtain ⟨a, ca, b', cb, rfl, h1, h2⟩ := ha
  have HRD : Hid (ReadsH w (.agg #[.int .i64 (M : Int), .slice a xss.length ca, .slice b' yss.length cb]) (M : Int) xss yss) := ⟨a, ca, b', cb, rfl, h1, h2⟩
  have HCU : Hid (∀ (K : Nat → Int) (g : Nat) (w' : World), (∀ i, 0 ≤ K i ∧ K i < 256) → Below w.heap.size w w' → w'.cell? ⟨g, 0, none⟩ = some (rule1 (M : Int) (.slice a xss.length ca) (.slice b' yss.length cb)) → w'.cell? ⟨g, 1, none⟩ = some (rule2 (M : Int) (.slice a xss.length ca) (.slice b' yss.length cb) K) →
      Calls Try.prog 100 #[.agg #[.int .i64 (M : Int), .slice a xss.length ca, .slice b' yss.length cb], .slice (some ⟨g, 0, none⟩) 2 2] w' fun e w'' => e = .returned (arrV (matZ (Und K xss yss xss.length M))) ∧ Below w'.heap.size w' w'') := fun K g w' hK hl r0 r1 => by
    have := companyUnder_any (M : Int) _ _ xss yss K g w' (HRD.out.keep hl) hb hK r0 r1
    rwa [Int.toNat_natCast] at this
  have HGD := Lib.hid (fun t => gt_down hb rfl rfl (n := xss.length) (M := M) t)
  have HGT := Lib.hid (fun t h a b => gt_tog hb rfl rfl (n := xss.length) (M := M) (t := t) h a b)
  have HG0 : Hid (∀ t, Gt xss yss xss.length M t 0 0) := fun t => tog_gt hb rfl rfl t 0 0 (tog_self hb rfl rfl (by omega))
  have HGZ := Lib.hid (gt_zero xss yss xss.length M)
  have HGS : Hid (∀ t, Gt xss yss xss.length M (t + 1) = Und (matZ (Gt xss yss xss.length M t)) xss yss xss.length M) := fun t => rfl
  obtain ⟨r0_, e0⟩ : ∃ r, matZ (Tog xss yss xss.length M) 0 = r := ⟨_, rfl⟩
  obtain ⟨r1_, e1⟩ : ∃ r, matZ (Tog xss yss xss.length M) 1 = r := ⟨_, rfl⟩
  obtain ⟨r2_, e2⟩ : ∃ r, matZ (Tog xss yss xss.length M) 2 = r := ⟨_, rfl⟩
  obtain ⟨r3_, e3⟩ : ∃ r, matZ (Tog xss yss xss.length M) 3 = r := ⟨_, rfl⟩
  obtain ⟨r4_, e4⟩ : ∃ r, matZ (Tog xss yss xss.length M) 4 = r := ⟨_, rfl⟩
  obtain ⟨r5_, e5⟩ : ∃ r, matZ (Tog xss yss xss.length M) 5 = r := ⟨_, rfl⟩
  obtain ⟨r6_, e6⟩ : ∃ r, matZ (Tog xss yss xss.length M) 6 = r := ⟨_, rfl⟩
  obtain ⟨r7_, e7⟩ : ∃ r, matZ (Tog xss yss xss.length M) 7 = r := ⟨_, rfl⟩
  rw [show arrV (matZ (Tog xss yss xss.length M)) = .agg #[.int .i64 r0_, .int .i64 r1_, .int .i64 r2_, .int .i64 r3_, .int .i64 r4_, .int .i64 r5_, .int .i64 r6_, .int .i64 r7_] by unfold arrV; rw [e0, e1, e2, e3, e4, e5, e6, e7]]
  have E0 : Hid (matZ (Tog xss yss xss.length M) 0 = r0_) := e0
  have E1 : Hid (matZ (Tog xss yss xss.length M) 1 = r1_) := e1
  have E2 : Hid (matZ (Tog xss yss xss.length M) 2 = r2_) := e2
  have E3 : Hid (matZ (Tog xss yss xss.length M) 3 = r3_) := e3
  have E4 : Hid (matZ (Tog xss yss xss.length M) 4 = r4_) := e4
  have E5 : Hid (matZ (Tog xss yss xss.length M) 5 = r5_) := e5
  have E6 : Hid (matZ (Tog xss yss xss.length M) 6 = r6_) := e6
  have E7 : Hid (matZ (Tog xss yss xss.length M) 7 = r7_) := e7
  clear e0 e1 e2 e3 e4 e5 e6 e7
  have h0 := ((C3.here w (.int .i64 (M : Int)) (.slice a xss.length ca) (.slice b' yss.length cb) 27).alloc (.cells (arrC fun _ => 0) 68)).alloc (.cells (arrC fun _ => 0) 68)
  have a1 := (Arr8.here (w.alloc (.cells #[.int .i64 (M : Int), .slice a xss.length ca, .slice b' yss.length cb] 27)) (fun _ => 0) 68).alloc (.cells (arrC fun _ => 0) 68)
  have a2 := Arr8.here ((w.alloc (.cells #[.int .i64 (M : Int), .slice a xss.length ca, .slice b' yss.length cb] 27)).alloc (.cells (arrC fun _ => 0) 68)) (fun _ => 0) 68
  simp only [World.size_alloc] at a1 a2
  have A2 : Hid (Arr8 ((((w.alloc (.cells #[.int .i64 (M : Int), .slice a xss.length ca, .slice b' yss.length cb] 27)).alloc (.cells (arrC fun _ => 0) 68))).alloc (.cells (arrC fun _ => 0) 68)) (w.heap.size + 1 + 1) (fun i => if i < 0 then 255 else 0)) := a2.congr fun i _ => by rw [if_neg (by omega)]
  have hrc : Hid (∀ w, Calls Try.prog 75 #[.int .i64 8] w fun e w' => e = .returned (.int .i64 256) ∧ w = w') := fun w => by
    go_enter Try.func75, Try.ntmps75
    go_wp2
    go_ret
    exact ⟨rfl, rfl⟩
  unfold arrC at h0 a1 A2
  clear a2 h1 h2 hb p1 p4 HRD
  generalize Gt xss yss xss.length M = GG at *
  generalize Tog xss yss xss.length M = TT at *
  generalize xss.length = n at *
  generalize yss.length = m at *
  go_enter Try.func65, Try.ntmps65
  go_wp2_with fail
  go_loopw [6] (fun c wr => ∃ k : Nat, k ≤ 8 ∧ c = .int .i64 (k : Int) ∧ Below w.heap.size w wr ∧ C3 wr w.heap.size (.int .i64 (M : Int)) (.slice a n ca) (.slice b' m cb) ∧ Hid (Arr8 wr (w.heap.size + 1) (fun _ => 0)) ∧ Hid (Arr8 wr (w.heap.size + 1 + 1) (fun i => if i < k then 255 else 0))) (fun c _ => 8 - (intOf c).toNat)
  case atStart => exact ⟨0, Nat.zero_le _, rfl, by go_grown, h0, a1, A2⟩
  case round =>
    clear h0 a1 A2
    obtain ⟨k, hk, rfl, hL, h0, a1, a2⟩ := hrel
    by_cases hkl : k < 8
    · have hk1 : (k : Int) < 8 := by omega
      have hk0 : (0 : Int) ≤ (k : Int) := by omega
      obtain ⟨c1, f1⟩ := a2.out.1 k hkl
      have a3 : Hid (Arr8 (wr.setCell ⟨w.heap.size + 1 + 1, k, none⟩ (.int .i64 255)) (w.heap.size + 1 + 1) (fun i => if i < k + 1 then 255 else 0)) := (a2.out.store hkl 255).congr fun i _ => by
        by_cases e : i = k
        · rw [if_pos e, if_pos (by omega)]
        · rw [if_neg e]
          by_cases e2 : i < k
          · rw [if_pos e2, if_pos (by omega)]
          · rw [if_neg e2, if_neg (by omega)]
      have hg := a2.out.2
      go_wp2_with ((go_at_call 75; (with_reducible refine (hrc.out _).mono ?_); rintro e w' ⟨rfl, rfl⟩))
      exact ⟨⟨k + 1, by omega, by go_num, by go_grown, h0.set _ _ _ (by omega), a1.out.set _ _ _ (by omega), a3.out⟩, by simp [intOf]; omega⟩
    · have hkn : ¬ (k : Int) < 8 := by omega
      have a3 : Hid (Arr8 wr (w.heap.size + 1 + 1) (matZ (GG 0))) := a2.out.congr fun i hi => by rw [if_pos (by omega), HGZ.out i hi]
      have a4 := (Arr8.here wr (fun _ => 0) 68)
      unfold arrC at a4
      have a4' := Lib.hid a4
      have hg := a3.out.2
      clear a2 a4
      go_wp2_with fail
      go_loopw [5] (fun c wr => ∃ (t : Nat) (A K : Nat → Int) (g : Nat), c = .pointer (some ⟨g, 0, none⟩) ∧ w.heap.size + 1 + 1 < g ∧ Below w.heap.size w wr ∧ C3 wr w.heap.size (.int .i64 (M : Int)) (.slice a n ca) (.slice b' m cb) ∧ Hid (Arr8 wr (w.heap.size + 1) (fun _ => 0)) ∧ Hid (Arr8 wr (w.heap.size + 1 + 1) A) ∧ Hid (Arr8 wr g K) ∧ Hid (A = matZ (GG t) ∧ ((t = 0 ∧ K = (fun _ => 0)) ∨ ∃ s, t = s + 1 ∧ K = matZ (GG s)))) (fun c wr => measW wr c)
      case atStart => exact ⟨0, _, _, wr.heap.size, rfl, hg, by go_grown, h0.alloc _, a1.out.alloc _, a3.out.alloc _, a4'.out, rfl, .inl ⟨rfl, rfl⟩⟩
      case round =>
        clear h0 hL a1 a3 a4' hg
        obtain ⟨t, A, K, g, rfl, hg, hL, h0, a1, a3, a4, hS⟩ := hrel
        obtain ⟨q0, q1, q2, q3, q4, q5, q6, q7⟩ := a3.out.cells
        obtain ⟨x0, x1, x2, x3, x4, x5, x6, x7⟩ := a4.out.cells
        have hz4 := a4.out.2
        have hz3 := a3.out.2
        cases he : eqA A K
        · have hne := neq_arr A K he
          unfold arrV at hne
          have HE := Lib.hid he
          have y0 := (a4.out.1 0 (by decide)).2
          have y1 := (a4.out.1 1 (by decide)).2
          have y2 := (a4.out.1 2 (by decide)).2
          have y3 := (a4.out.1 3 (by decide)).2
          have y4 := (a4.out.1 4 (by decide)).2
          have y5 := (a4.out.1 5 (by decide)).2
          have y6 := (a4.out.1 6 (by decide)).2
          have y7 := (a4.out.1 7 (by decide)).2
          clear he
          go_upto_region 10 with fail
          have hw : ((((((((wr.setCell ⟨g, 0, none⟩ (.int .i64 (A 0))).setCell ⟨g, 1, none⟩ (.int .i64 (A 1))).setCell ⟨g, 2, none⟩ (.int .i64 (A 2))).setCell ⟨g, 3, none⟩ (.int .i64 (A 3))).setCell ⟨g, 4, none⟩ (.int .i64 (A 4))).setCell ⟨g, 5, none⟩ (.int .i64 (A 5))).setCell ⟨g, 6, none⟩ (.int .i64 (A 6))).setCell ⟨g, 7, none⟩ (.int .i64 (A 7))) = put8 wr g A := rfl
          rw [hw]
          have HL2 : Hid (Below w.heap.size w (put8 wr g A) ∧ C3 (put8 wr g A) w.heap.size (.int .i64 (M : Int)) (.slice a n ca) (.slice b' m cb) ∧ Arr8 (put8 wr g A) (w.heap.size + 1) (fun _ => 0) ∧ Arr8 (put8 wr g A) (w.heap.size + 1 + 1) A ∧ Arr8 (put8 wr g A) g A) := ⟨below_put8 hL (by omega) A, h0.put8 A (by omega), a1.out.put8o A (by omega), a3.out.put8o A (by omega), a4.out.put8 A⟩
          have HME : Hid (sumW wr (.pointer (some ⟨g, 0, none⟩)) = sumA K) := sumW_arr a4.out
          have hMW : Hid (∀ x, measW wr (.pointer (some ⟨g, 0, none⟩)) = x → measW wr (.pointer (some ⟨g, 0, none⟩)) = x) := fun x h => h
          generalize put8 wr g A = wz at *
          clear q0 q1 q2 q3 q4 q5 q6 q7 x0 x1 x2 x3 x4 x5 x6 x7 y0 y1 y2 y3 y4 y5 y6 y7 hL h0 a1 a3 a4 hne hw
          obtain ⟨hL, h0, a1, a3, a4⟩ := HL2.out
          obtain ⟨q0, q1, q2, q3, q4, q5, q6, q7⟩ := a4.cells
          have HA3 := Lib.hid a3
          have HA1 := Lib.hid a1
          have HA4 := Lib.hid a4
          clear a1 a3 a4 HL2
          have HKB : Hid (∀ i, 0 ≤ A i ∧ A i < 256) := fun i => by rw [hS.out.1]; exact matZ_bd _ i
          go_wp2_with fail
          have r0 : (wz.alloc (.cells #[.iface 97 (.agg #[.int .i64 (M : Int), .slice a n ca, .slice b' m cb]), .iface 99 (.agg #[.int .i64 (M : Int), .slice a n ca, .slice b' m cb, .int .i64 (A 0), .int .i64 (A 1), .int .i64 (A 2), .int .i64 (A 3), .int .i64 (A 4), .int .i64 (A 5), .int .i64 (A 6), .int .i64 (A 7)])] 115)).cell? ⟨wz.heap.size, 0, none⟩ = some (rule1 (M : Int) (.slice a n ca) (.slice b' m cb)) := by rw [World.cell?_alloc_at _ _ _ _ rfl]; rfl
          have r1 : (wz.alloc (.cells #[.iface 97 (.agg #[.int .i64 (M : Int), .slice a n ca, .slice b' m cb]), .iface 99 (.agg #[.int .i64 (M : Int), .slice a n ca, .slice b' m cb, .int .i64 (A 0), .int .i64 (A 1), .int .i64 (A 2), .int .i64 (A 3), .int .i64 (A 4), .int .i64 (A 5), .int .i64 (A 6), .int .i64 (A 7)])] 115)).cell? ⟨wz.heap.size, 1, none⟩ = some (rule2 (M : Int) (.slice a n ca) (.slice b' m cb) A) := by rw [World.cell?_alloc_at _ _ _ _ rfl]; rfl
          have hLr := hL.alloc (B := w.heap.size) (by have := hL.size; omega) (.cells #[.iface 97 (.agg #[.int .i64 (M : Int), .slice a n ca, .slice b' m cb]), .iface 99 (.agg #[.int .i64 (M : Int), .slice a n ca, .slice b' m cb, .int .i64 (A 0), .int .i64 (A 1), .int .i64 (A 2), .int .i64 (A 3), .int .i64 (A 4), .int .i64 (A 5), .int .i64 (A 6), .int .i64 (A 7)])] 115)
          with_reducible refine (HCU.out A wz.heap.size _ HKB.out hLr r0 r1).mono ?_
          rintro e wu ⟨rfl, hb⟩
          have hL2 := chain (B := w.heap.size) (a := w) hLr (Nat.le_refl _) hb
          have hx := chain (B := wz.heap.size) (a := wz) (by go_grown) (Nat.le_refl _) hb
          replace h0 := h0.keep hx
          replace HA1 := Lib.hid (HA1.out.keep hx)
          replace HA3 := Lib.hid (HA3.out.keep hx)
          replace HA4 := Lib.hid (HA4.out.keep hx)
          have hzu := hx.size
          clear hb hx r0 r1 hL hLr q0 q1 q2 q3 q4 q5 q6 q7
          obtain ⟨A', hA'⟩ : ∃ A', matZ (Und A xss yss n M) = A' := ⟨_, rfl⟩
          have HSN : Hid (A' = matZ (GG (t + 1))) := by rw [Hid, ← hA', HGS.out, ← hS.out.1]
          rw [hA']
          clear hA'
          unfold arrV
          obtain ⟨q0, q1, q2, q3, q4, q5, q6, q7⟩ := HA3.out.cells
          have y0 := (HA3.out.1 0 (by decide)).2
          have y1 := (HA3.out.1 1 (by decide)).2
          have y2 := (HA3.out.1 2 (by decide)).2
          have y3 := (HA3.out.1 3 (by decide)).2
          have y4 := (HA3.out.1 4 (by decide)).2
          have y5 := (HA3.out.1 5 (by decide)).2
          have y6 := (HA3.out.1 6 (by decide)).2
          have y7 := (HA3.out.1 7 (by decide)).2
          go_upto_region 11 with fail
          have hw : ((((((((wu.setCell ⟨w.heap.size + 1 + 1, 0, none⟩ (.int .i64 (A' 0))).setCell ⟨w.heap.size + 1 + 1, 1, none⟩ (.int .i64 (A' 1))).setCell ⟨w.heap.size + 1 + 1, 2, none⟩ (.int .i64 (A' 2))).setCell ⟨w.heap.size + 1 + 1, 3, none⟩ (.int .i64 (A' 3))).setCell ⟨w.heap.size + 1 + 1, 4, none⟩ (.int .i64 (A' 4))).setCell ⟨w.heap.size + 1 + 1, 5, none⟩ (.int .i64 (A' 5))).setCell ⟨w.heap.size + 1 + 1, 6, none⟩ (.int .i64 (A' 6))).setCell ⟨w.heap.size + 1 + 1, 7, none⟩ (.int .i64 (A' 7))) = put8 wu (w.heap.size + 1 + 1) A' := rfl
          rw [hw]
          have hgu := HA4.out.2
          have HL2 : Hid (Below w.heap.size w (put8 wu (w.heap.size + 1 + 1) A') ∧ C3 (put8 wu (w.heap.size + 1 + 1) A') w.heap.size (.int .i64 (M : Int)) (.slice a n ca) (.slice b' m cb) ∧ Arr8 (put8 wu (w.heap.size + 1 + 1) A') (w.heap.size + 1) (fun _ => 0) ∧ Arr8 (put8 wu (w.heap.size + 1 + 1) A') (w.heap.size + 1 + 1) A' ∧ Arr8 (put8 wu (w.heap.size + 1 + 1) A') g A) := ⟨below_put8 hL2 (by omega) A', h0.put8 A' (by omega), HA1.out.put8o A' (by omega), HA3.out.put8 A', HA4.out.put8o A' (by omega)⟩
          generalize put8 wu (w.heap.size + 1 + 1) A' = wv at *
          clear q0 q1 q2 q3 q4 q5 q6 q7 y0 y1 y2 y3 y4 y5 y6 y7 hL2 h0 HA1 HA3 HA4 hw
          obtain ⟨hL, h0, a1, a3, a4⟩ := HL2.out
          obtain ⟨q0, q1, q2, q3, q4, q5, q6, q7⟩ := a4.cells
          have hzv := a3.2
          have HA1 := Lib.hid a1
          have HA3 := Lib.hid a3
          have HNW := Lib.hid (Arr8.here wv A 68)
          have HDEC : Hid (0 < sumA A ∧ sumA A < (if sumA K = 0 then 3000 else sumA K)) := by
            have hp : 0 < sumA A := by rw [hS.out.1]; exact sum_pos (HG0.out t)
            refine ⟨hp, ?_⟩
            rcases hS.out.2 with ⟨rfl, hK⟩ | ⟨s, rfl, hK⟩
            · rw [if_pos (by rw [hK]; rfl), hS.out.1]
              have := sum_le (GG 0); omega
            · have hlt : sumA A < sumA K := by
                rw [hS.out.1, hK]
                exact sum_lt (HGD.out s) (by rw [← hS.out.1, ← hK]; exact HE.out)
              rw [if_neg (by omega)]; exact hlt
          have HDM : Hid (∀ w' g', Arr8 w' g' A → measW w' (.pointer (some ⟨g', 0, none⟩)) < measW wr (.pointer (some ⟨g, 0, none⟩))) := fun w' g' h => by
            unfold measW
            rw [sumW_arr h, HME.out, if_neg (by have := HDEC.out.1; omega)]
            exact HDEC.out.2
          unfold arrC at HNW
          have hS' : Hid (A' = matZ (GG (t + 1)) ∧ ((t + 1 = 0 ∧ A = (fun _ => 0)) ∨ ∃ s, t + 1 = s + 1 ∧ A = matZ (GG s))) := ⟨HSN.out, .inr ⟨t, rfl, hS.out.1⟩⟩
          clear a1 a3 a4 HL2 HSN HME HDEC hS
          go_wp2_with fail
          exact ⟨⟨t + 1, A', A, wv.heap.size, rfl, by omega, hL.alloc (by omega) _, h0.alloc _, HA1.out.alloc _, HA3.out.alloc _, HNW.out, hS'⟩, HDM.out _ _ HNW.out⟩
        · have hne := neq_arr A K he
          unfold arrV at hne
          have a5 : Hid (Arr8 wr (w.heap.size + 1 + 1) (matZ TT)) := by
            rcases hS.out.2 with ⟨rfl, hK⟩ | ⟨s, rfl, hK⟩
            · have h1 := eqA_iff.1 he 0 (by decide)
              rw [hS.out.1, hK, HGZ.out 0 (by decide)] at h1
              cases h1
            · refine a3.out.congr fun i hi => ?_
              have hh : ∀ a b, a < 8 → b < 8 → (GG (s + 1) a b ↔ GG s a b) := fun a b h1 h2 => by
                have h3 := eqA_iff.1 he a h1
                rw [hS.out.1, hK] at h3
                unfold matZ at h3
                exact rowN_inj (by omega) h2
              rw [hS.out.1]
              exact matZ_congr fun j _ => HGT.out s hh i j
          clear q0 q1 q2 q3 q4 q5 q6 q7
          have hzz := a5.out.2
          have EA0 : Hid (A 0 = r0_) := by
            have h1 := (a3.out.1 0 (by decide)).1
            have h2 := (a5.out.1 0 (by decide)).1
            rw [h1, E0.out] at h2
            unfold Hid
            simpa using h2
          have EA1 : Hid (A 1 = r1_) := by
            have h1 := (a3.out.1 1 (by decide)).1
            have h2 := (a5.out.1 1 (by decide)).1
            rw [h1, E1.out] at h2
            unfold Hid
            simpa using h2
          have EA2 : Hid (A 2 = r2_) := by
            have h1 := (a3.out.1 2 (by decide)).1
            have h2 := (a5.out.1 2 (by decide)).1
            rw [h1, E2.out] at h2
            unfold Hid
            simpa using h2
          have EA3 : Hid (A 3 = r3_) := by
            have h1 := (a3.out.1 3 (by decide)).1
            have h2 := (a5.out.1 3 (by decide)).1
            rw [h1, E3.out] at h2
            unfold Hid
            simpa using h2
          have EA4 : Hid (A 4 = r4_) := by
            have h1 := (a3.out.1 4 (by decide)).1
            have h2 := (a5.out.1 4 (by decide)).1
            rw [h1, E4.out] at h2
            unfold Hid
            simpa using h2
          have EA5 : Hid (A 5 = r5_) := by
            have h1 := (a3.out.1 5 (by decide)).1
            have h2 := (a5.out.1 5 (by decide)).1
            rw [h1, E5.out] at h2
            unfold Hid
            simpa using h2
          have EA6 : Hid (A 6 = r6_) := by
            have h1 := (a3.out.1 6 (by decide)).1
            have h2 := (a5.out.1 6 (by decide)).1
            rw [h1, E6.out] at h2
            unfold Hid
            simpa using h2
          have EA7 : Hid (A 7 = r7_) := by
            have h1 := (a3.out.1 7 (by decide)).1
            have h2 := (a5.out.1 7 (by decide)).1
            rw [h1, E7.out] at h2
            unfold Hid
            simpa using h2
          clear x0 x1 x2 x3 x4 x5 x6 x7
          obtain ⟨x0, x1, x2, x3, x4, x5, x6, x7⟩ := a1.out.cells
          have y0 := (a1.out.1 0 (by decide)).2
          have y1 := (a1.out.1 1 (by decide)).2
          have y2 := (a1.out.1 2 (by decide)).2
          have y3 := (a1.out.1 3 (by decide)).2
          have y4 := (a1.out.1 4 (by decide)).2
          have y5 := (a1.out.1 5 (by decide)).2
          have y6 := (a1.out.1 6 (by decide)).2
          have y7 := (a1.out.1 7 (by decide)).2
          have HQ : Hid (eqA A K = true) := he
          obtain ⟨aa0, aa1, aa2, aa3, aa4, aa5, aa6, aa7⟩ := a3.out.cells
          obtain ⟨kk0, kk1, kk2, kk3, kk4, kk5, kk6, kk7⟩ := a4.out.cells
          clear he a5 a1 a3 a4
          go_upto_region 13 with fail
          go_wp2_with fail
          refine bodyPost_ret (v := .agg #[.int .i64 (A 0), .int .i64 (A 1), .int .i64 (A 2), .int .i64 (A 3), .int .i64 (A 4), .int .i64 (A 5), .int .i64 (A 6), .int .i64 (A 7)]) (by simp [results, Try.results65, go_sem, *]) rfl ?_
          exact ⟨by rw [EA0.out, EA1.out, EA2.out, EA3.out, EA4.out, EA5.out, EA6.out, EA7.out], by go_grown⟩

end Go.Proofs.Ytnlcnbkookmfaaa
