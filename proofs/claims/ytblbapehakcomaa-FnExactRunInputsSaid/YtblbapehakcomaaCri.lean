/- Goes, Only, SureM, Sure, IsCr in one text. -/
import Derived.Test.YtblbapehakcomaaEn
import Derived.WalkMore
namespace Go.Proofs.Ytblbapehakcomaa
open Go.RowKit
set_option linter.unusedVariables false

theorem look_ins (st : Nat → List Nat) (E : List Nat) (x : Nat) (h : ∀ y ∈ st x, y ∈ E) : look st E x = insS E x := by
  unfold look insS; rw [if_pos h]
theorem look_stay (st : Nat → List Nat) (E : List Nat) (x : Nat) (h : ¬ ∀ y ∈ st x, y ∈ E) : look st E x = E := by
  unfold look; rw [if_neg h]
theorem pass_snoc (st : Nat → List Nat) (l E : List Nat) (x : Nat) : pass st (l ++ [x]) E = look st (pass st l E) x := by
  unfold pass; rw [List.foldl_append]; rfl

/-- is there a way without end -/
def goesB (p : Int) (xs : List Int) (i : Int) (s : Nat) : Bool := decide ((passes (stepsN p xs i) (rchL p xs i s) (rchL p xs i s).length).length < (rchL p xs i s).length)

set_option maxRecDepth 100000 in
set_option maxHeartbeats 4000000 in
theorem goesRound_any (p i : Int) (s : Nat) (v vl : Value) (xs : List Int) (w : World) (ha : Reads w v xs) (hc : cirB p xs = true) (hi : inB i p = true) (hs : s < 2 ^ xs.length) (hl : ReadsQ w vl i (rchL p xs i s)) :
    Calls Try.prog 101 #[.agg #[.int .i64 p, v], vl] w fun e w' => e = .returned (.bool (goesB p xs i s)) ∧ Below w.heap.size w w' := by
  obtain ⟨⟨p1, p4⟩, ⟨n1, n4⟩, _, _⟩ := cirB_out hc
  have hM16 := pow_le16 n4
  have hib : (Lit.int .i64 i).wf = true := by
    have h1 := inB_out hi
    have h2 := rcZ_bd p1 (show p ≤ 5 by omega)
    exact wfSmall (by omega) (by omega)
  have hlen := rchL_len (p := p) (xs := xs) (i := i) hs
  have hlt := rchL_lt (p := p) (xs := xs) (i := i) hs
  obtain ⟨M, hM⟩ : ∃ M, 2 ^ xs.length = M := ⟨_, rfl⟩
  have HST := Lib.hid (fun (x : Nat) (hx : x < M) w' (h : Below w.heap.size w w') => singleSteps_any p i x v xs w' (ha.keep h) hc hi (by rw [hM]; exact hx))
  have HSLT : ∀ x, x < M → ∀ y ∈ stepsN p xs i x, y < M := fun x hx y hy => by rw [← hM]; exact stepsN_lt (by rw [hM]; exact hx) y hy
  have HG : Hid (goesB p xs i s = decide ((passes (stepsN p xs i) (rchL p xs i s) (rchL p xs i s).length).length < (rchL p xs i s).length)) := rfl
  have HSL : Hid (∀ x, (stepsN p xs i x).length ≤ 100) := fun x => by unfold stepsN; rw [List.length_map]; have := ch_len p i xs (x : Int); omega
  rw [hM] at hlen hlt hM16
  generalize rchL p xs i s = R at *
  generalize stepsN p xs i = st at *
  have HRM : Hid (∀ k, k < R.length → R.getD k 0 < M) := fun k hk => hlt _ (by rw [List.getD_eq_getElem?_getD, List.getElem?_eq_getElem hk]; exact List.getElem_mem hk)
  have HPS : Hid (∀ k (E : List Nat), k < R.length → pass st (R.take (k + 1)) E = look st (pass st (R.take k) E) (R.getD k 0)) := fun k E hk => by
    rw [List.take_succ_eq_append_getElem hk, pass_snoc]
    simp [List.getD_eq_getElem?_getD, hk]
  have HP0 : Hid (∀ E, pass st (R.take 0) E = E) := fun E => by simp [pass]
  have HPN : Hid (∀ t, pass st (R.take R.length) (passes st R t) = passes st R (t + 1)) := fun t => by rw [List.take_length]; rfl
  have HZ : Hid (passes st R 0 = []) := rfl
  have HLR := Lib.hid hl
  obtain ⟨a, ca, rfl, hm, _⟩ := ha
  obtain ⟨la, lc, rfl, hm2, _⟩ := hl
  have k0 := (C2.here w (.int .i64 p) (.slice a xs.length ca) 27).alloc (.map #[] 0)
  have HMS : Hid (MapS ((w.alloc (.cells #[.int .i64 p, .slice a xs.length ca] 27)).alloc (.map #[] 0)) (w.heap.size + 1) i (passes st R 0)) := by
    have h := MapS.made (w.alloc (.cells #[.int .i64 p, .slice a xs.length ca] 27)) i
    rw [World.size_alloc] at h; exact h
  clear hc hi hs hM hlt
  generalize xs.length = n at *
  go_enter Try.func101, Try.ntmps101
  have hmm := @run_makeMap Try.prog
  go_wp2_with fail
  clear hmm
  go_loopw [13] (fun c wr => ∃ t : Nat, t ≤ R.length ∧ c = .int .i64 (t : Int) ∧ Below w.heap.size w wr ∧ C2 wr w.heap.size (.int .i64 p) (.slice a n ca) ∧ Hid (MapS wr (w.heap.size + 1) i (passes st R t))) (fun c _ => R.length - (intOf c).toNat)
  case atStart => exact ⟨0, Nat.zero_le _, rfl, by go_grown, k0, HMS⟩
  case round =>
    clear k0 HMS
    obtain ⟨t, ht, rfl, hL, k0, hMS⟩ := hrel
    by_cases htl : t < R.length
    · have ht0 : (0 : Int) ≤ (t : Int) := by omega
      have ht1 : (t : Int) < (R.length : Int) := by omega
      go_wp2_with fail
      go_step3
      go_wp2_with fail
      go_step3
      go_wp2_with fail
      go_loopw [17] (fun c wy => ∃ k : Nat, k ≤ R.length ∧ c = .int .i64 (k : Int) ∧ Below w.heap.size w wy ∧ C2 wy w.heap.size (.int .i64 p) (.slice a n ca) ∧ Hid (MapS wy (w.heap.size + 1) i (pass st (R.take k) (passes st R t)))) (fun c _ => R.length - (intOf c).toNat)
      case atStart => exact ⟨0, Nat.zero_le _, rfl, hL, k0, by rw [HP0.out]; exact hMS⟩
      case round =>
        clear hL k0 hMS
        obtain ⟨k, hk, rfl, hL, k0, hMS⟩ := hrel
        by_cases hkl : k < R.length
        · obtain ⟨x, hx⟩ : ∃ x, R.getD k 0 = x := ⟨_, rfl⟩
          have hxM : x < M := by rw [← hx]; exact HRM.out k hkl
          have HN := Lib.hid (HPS.out k (passes st R t) hkl)
          rw [hx] at HN
          obtain ⟨la', lc', ev, _, hcv⟩ := HLR.out
          cases ev
          rcases hcv with h0 | ⟨g, rfl, hcv⟩
          · rw [h0] at hkl; simp at hkl
          obtain ⟨hc0_, hc1_⟩ := hcv k hkl
          have hc0 := cell_later hL hc0_
          have hc1 := cell_later hL hc1_
          rw [hx] at hc1
          have hk0 : (0 : Int) ≤ (k : Int) := by omega
          have hk1 : (k : Int) < (R.length : Int) := by omega
          have HSx := Lib.hid (HST.out x hxM)
          have hyl := HSL.out x
          have HYM : Hid (∀ y ∈ st x, y < M) := HSLT x hxM
          obtain ⟨j, hj, hno, hyes⟩ := firstB (fun q => !(decide ((st x).getD q 0 ∈ pass st (R.take k) (passes st R t)))) (st x).length
          have HIN : Hid (∀ q, q < j → (st x).getD q 0 ∈ pass st (R.take k) (passes st R t)) := fun q hq => by have := hno q hq; simpa using this
          have HOUT : Hid (j < (st x).length → (st x).getD j 0 ∉ pass st (R.take k) (passes st R t)) := fun h => by have := hyes h; simpa using this
          have HLK : Hid (¬ j < (st x).length → look st (pass st (R.take k) (passes st R t)) x = insS (pass st (R.take k) (passes st R t)) x) := fun h => look_ins _ _ _ fun y hy => by
            obtain ⟨q, hq, rfl⟩ := List.getElem_of_mem hy
            have := HIN.out q (by omega)
            rw [List.getD_eq_getElem?_getD, List.getElem?_eq_getElem hq] at this
            exact this
          have HLS : Hid (j < (st x).length → look st (pass st (R.take k) (passes st R t)) x = pass st (R.take k) (passes st R t)) := fun h => look_stay _ _ _ fun hall => by
            refine HOUT.out h (hall _ ?_)
            rw [List.getD_eq_getElem?_getD, List.getElem?_eq_getElem h]; exact List.getElem_mem h
          have hkz := k0.2.2.2.2
          have hmz := hMS.out.lt
          clear hcv hc0_ hc1_ hx hno hyes
          generalize pass st (R.take k) (passes st R t) = E at *
          generalize st x = ys at *
          go_wp2_with fail
          refine (HSx.out _ (by go_grown)).mono ?_
          rintro e w3 ⟨u, rfl, ou, hb⟩
          have hLy := chain (B := w.heap.size) (a := w) (by go_grown) (Nat.le_refl _) hb
          have ky := keepAt hb (k0.alloc _)
          have HMy := Lib.hid (mapSAt hb (hMS.out.alloc _))
          have kx7 := keepAt hb (C2.here wr (.int .i64 i) (.int .i64 (x : Int)) 68)
          have HOU := Lib.hid ou.reads
          obtain ⟨va, vc, rfl, _, _⟩ := ou.reads
          obtain ⟨b7, hb7⟩ : ∃ b7, wr.heap.size = b7 := ⟨_, rfl⟩
          rw [hb7] at kx7 ⊢
          clear hb ou hL k0 hMS hc0 hc1 hb7
          have hYz := hLy.size
          have hkz3 := ky.2.2.2.2
          have hk7 := kx7.2.2.2.2
          go_wp2_with fail
          go_loopw [25] (fun c wz => ∃ q : Nat, q ≤ j ∧ c = .int .i64 (q : Int) ∧ Below w3.heap.size w3 wz) (fun c _ => ys.length - (intOf c).toNat)
          case atStart => exact ⟨0, Nat.zero_le _, rfl, Below.refl _ _⟩
          case round =>
            obtain ⟨q, hq, rfl, hLz⟩ := hrel
            have hLw := hLy.trans (hLz.mono hYz)
            have HMz := Lib.hid (mapSAt hLz HMy.out)
            have kz := keepAt hLz ky
            have k7z := keepAt hLz kx7
            have hsz := hLz.size
            by_cases hql : q < ys.length
            · obtain ⟨y, hy⟩ : ∃ y, ys.getD q 0 = y := ⟨_, rfl⟩
              have hyM : y < M := by
                refine HYM.out y ?_
                rw [← hy, List.getD_eq_getElem?_getD, List.getElem?_eq_getElem hql]; exact List.getElem_mem hql
              obtain ⟨va', vc', ev, _, hcv⟩ := (HOU.out.keep hLz)
              cases ev
              rcases hcv with h0 | ⟨gv, rfl, hcv⟩
              · rw [h0] at hql; simp at hql
              obtain ⟨hd0, hd1⟩ := hcv q hql
              rw [hy] at hd1
              have hq0 : (0 : Int) ≤ (q : Int) := by omega
              have hq1 : (q : Int) < (ys.length : Int) := by omega
              have hlook := (HMz.out.alloc (.cells #[.int .i64 i, .int .i64 (y : Int)] 68)).look hib y (by omega)
              by_cases hqj : q < j
              · have hm := HIN.out q hqj
                rw [hy] at hm
                rw [decide_eq_true hm] at hlook
                clear hm hcv hy
                go_wp2_with fail
                exact ⟨⟨q + 1, by omega, by go_num, hLz.alloc hsz _⟩, by simp [intOf]; omega⟩
              · have e : q = j := by omega
                have hjl : j < ys.length := by omega
                have hm := HOUT.out hjl
                rw [← e, hy] at hm
                rw [decide_eq_false hm] at hlook
                have HE := Lib.hid (HLS.out hjl)
                clear hm hcv hy e
                go_wp2_with fail
                exact ⟨⟨k + 1, by omega, by go_num, hLw.alloc (by have := hLw.size; omega) _, kz.alloc _, by rw [HN.out, HE.out]; exact HMz.out.alloc _⟩, by simp [intOf]; omega⟩
            · have e : ¬ j < ys.length := by omega
              have HE := Lib.hid (HLK.out e)
              obtain ⟨w5, hrun5, hMS5, hg5⟩ := HMz.out.put hib x (by omega)
              have hqn : ¬ (q : Int) < (ys.length : Int) := by omega
              have k05 := C2.grown kz hg5 (by intro e; injection e with e; omega)
              have hL5 := hLw.grown hg5 (by have := kz.2.2.2.2; omega) (fun q e => by injection e with e; omega)
              have HMS5 := Lib.hid hMS5
              clear hg5 hMS5
              go_wp2_with fail
              exact ⟨⟨k + 1, by omega, by go_num, hL5, k05, by rw [HN.out, HE.out]; exact HMS5⟩, by simp [intOf]; omega⟩
        · have e : k = R.length := by omega
          rw [e, HPN.out] at hMS
          clear e
          have hkn : ¬ (k : Int) < (R.length : Int) := by omega
          go_wp2_with fail
          exact ⟨⟨t + 1, by omega, by go_num, hL, k0, hMS⟩, by simp [intOf]; omega⟩
    · have e : t = R.length := by omega
      rw [e] at hMS
      have htn : ¬ (t : Int) < (R.length : Int) := by omega
      have hlen2 := fun ty => hMS.out.len ty
      have HGG : Hid (goesB p xs i s = decide ((passes st R R.length).length < R.length)) := HG
      have hpl : (passes st R R.length).length ≤ 1000 := by
        have := List.Nodup.length_le_of_subset (passes_nodup st R R.length) (passes_sub st R R.length)
        omega
      generalize (passes st R R.length).length = m at *
      go_wp2_with fail
      go_ret
      exact ⟨by rw [HGG.out]; simp, hL⟩

/-- do all ways lead to one steady state -/
def sureB (p : Int) (xs : List Int) (i : Int) (s : Nat) : Bool := decide ((endsU p xs i s).length = 1) && !goesB p xs i s
def endZ (p : Int) (xs : List Int) (i : Int) (s : Nat) : Int := if sureB p xs i s = true then (intsN (endsU p xs i s)).getD 0 0 else 0
/-- is there a race, and is it critical -/
def criB (p : Int) (xs : List Int) (i : Int) (s : Nat) : Bool := decide (2 ≤ (chL p xs i (s : Int)).length) && !sureB p xs i s

set_option maxRecDepth 100000 in
set_option maxHeartbeats 2000000 in
theorem onlyEnd_any (p i : Int) (s : Nat) (v : Value) (xs : List Int) (w : World) (ha : Reads w v xs) (hc : cirB p xs = true) (hi : inB i p = true) (hs : s < 2 ^ xs.length) :
    Calls Try.prog 79 #[.agg #[.int .i64 p, v], .agg #[.int .i64 i, .int .i64 (s : Int)]] w fun e w' => e = .returned (.tuple #[.int .i64 (endZ p xs i s), .bool (sureB p xs i s)]) ∧ Below w.heap.size w w' := by
  have HA := Lib.hid (fun w' (h : Below w.heap.size w w') => reachedFrom_any p i s v xs w' (ha.keep h) hc hi hs)
  rw [show reach (stepsN p xs i) (2 ^ xs.length) s = rchL p xs i s from rfl] at HA
  have HEn := Lib.hid (fun w' (u : Value) (h : Below w.heap.size w w') (hu : ReadsQ w' u i (rchL p xs i s)) => endsAmong_any p i s v u xs w' (ha.keep h) hc hi hs hu)
  have HG := Lib.hid (fun w' (u : Value) (h : Below w.heap.size w w') (hu : ReadsQ w' u i (rchL p xs i s)) => goesRound_any p i s v u xs w' (ha.keep h) hc hi hs hu)
  rw [ends_asc hs] at HEn
  have HS : Hid (sureB p xs i s = (decide ((endsU p xs i s).length = 1) && !goesB p xs i s)) := rfl
  have HZ : Hid (endZ p xs i s = if sureB p xs i s = true then (intsN (endsU p xs i s)).getD 0 0 else 0) := rfl
  rw [← intsN_len (endsU p xs i s)] at HS
  have hl16 : (intsN (endsU p xs i s)).length ≤ 16 := by rw [intsN_len]; have := endsU_len p xs i s; have := pow_le16 (cirB_out hc).2.1.2; omega
  generalize goesB p xs i s = gb at *
  generalize sureB p xs i s = sb at *
  generalize endZ p xs i s = ez at *
  generalize rchL p xs i s = RR at *
  generalize intsN (endsU p xs i s) = E at *
  obtain ⟨a, ca, rfl, hm, ha'⟩ := ha
  have k0 : C2 ((w.alloc (.cells #[.int .i64 p, .slice a xs.length ca] 27)).alloc (.cells #[.int .i64 i, .int .i64 (s : Int)] 68)) (w.heap.size) (.int .i64 p) (.slice a xs.length ca) := by simpa using (C2.here w (.int .i64 p) (.slice a xs.length ca) 27).alloc (.cells #[.int .i64 i, .int .i64 (s : Int)] 68)
  have k1 : C2 ((w.alloc (.cells #[.int .i64 p, .slice a xs.length ca] 27)).alloc (.cells #[.int .i64 i, .int .i64 (s : Int)] 68)) (w.heap.size + 1) (.int .i64 i) (.int .i64 (s : Int)) := by simpa using C2.here (w.alloc (.cells #[.int .i64 p, .slice a xs.length ca] 27)) (.int .i64 i) (.int .i64 (s : Int)) 68
  clear ha' hc hi hs
  generalize xs.length = n at *
  go_enter Try.func79, Try.ntmps79
  go_wp2_with fail
  refine (HA.out _ (by go_grown)).mono ?_
  rintro e w1 ⟨u, rfl, ou, hb⟩
  have hL := chain (B := w.heap.size) (a := w) (by go_grown) (Nat.le_refl _) hb
  replace k0 := keepAt hb k0
  replace k1 := keepAt hb k1
  have HRQ := Lib.hid ou.reads
  obtain ⟨qa, qc, rfl, _, _⟩ := ou.reads
  clear hb ou
  go_wp2_with fail
  refine (HEn.out _ _ hL HRQ.out).mono ?_
  rintro e w2 ⟨u2, rfl, o2, hb⟩
  replace hL := chain (B := w.heap.size) (a := w) hL (Nat.le_refl _) hb
  replace k0 := keepAt hb k0
  replace k1 := keepAt hb k1
  replace HRQ := Lib.hid (HRQ.out.keep hb)
  obtain ⟨ea, ec, rfl, hem, hea⟩ := o2.reads
  clear hb
  by_cases h1 : E.length = 1
  · have h1I : ((E.length : Int) != 1) = false := by rw [h1]; rfl
    rcases hea with h0 | ⟨g, off, rfl, hcs⟩
    · rw [h0] at h1; simp at h1
    have hc0 := hcs 0 (by omega)
    rw [Nat.add_zero] at hc0
    clear hcs
    cases hgb : gb
    · have HSZ : Hid (sb = true ∧ ez = E.getD 0 0) := by
        have hsb : sb = true := by rw [HS.out, decide_eq_true h1, hgb]; rfl
        exact ⟨hsb, by rw [HZ.out, if_pos hsb]⟩
      rw [h1] at *
      clear h1 HS HZ
      go_wp2_with fail
      refine (HG.out _ _ hL HRQ.out).mono ?_
      rintro e w3 ⟨rfl, hb⟩
      rw [hgb]
      replace hL := chain (B := w.heap.size) (a := w) hL (Nat.le_refl _) hb
      replace hc0 := cell_later hb hc0
      clear hb hgb
      go_wp2_with fail
      go_ret2
      exact ⟨by rw [HSZ.out.1, HSZ.out.2]; rfl, hL⟩
    · have HSZ : Hid (sb = false ∧ ez = 0) := by
        have hsb : sb = false := by rw [HS.out, hgb]; simp
        exact ⟨hsb, by rw [HZ.out, hsb]; rfl⟩
      rw [h1] at *
      clear h1 HS HZ
      go_wp2_with fail
      refine (HG.out _ _ hL HRQ.out).mono ?_
      rintro e w3 ⟨rfl, hb⟩
      rw [hgb]
      replace hL := chain (B := w.heap.size) (a := w) hL (Nat.le_refl _) hb
      clear hb hgb
      go_wp2_with fail
      go_ret2
      exact ⟨by rw [HSZ.out.1, HSZ.out.2]; rfl, hL⟩
  · have h1I : ((E.length : Int) != 1) = true := by simp; omega
    have HSZ : Hid (sb = false ∧ ez = 0) := by
      have hsb : sb = false := by rw [HS.out, decide_eq_false h1]; rfl
      exact ⟨hsb, by rw [HZ.out, hsb]; rfl⟩
    clear HS HZ
    go_wp2_with fail
    go_ret2
    exact ⟨by rw [HSZ.out.1, HSZ.out.2]; rfl, hL⟩

set_option maxRecDepth 100000 in
set_option maxHeartbeats 2000000 in
theorem isCritical_any (p i : Int) (s : Nat) (v : Value) (xs : List Int) (w : World) (ha : Reads w v xs) (hc : cirB p xs = true) (hi : inB i p = true) (hs : s < 2 ^ xs.length) :
    Calls Try.prog 73 #[.agg #[.int .i64 p, v], .agg #[.int .i64 i, .int .i64 (s : Int)]] w fun e w' => e = .returned (.bool (criB p xs i s)) ∧ Below w.heap.size w w' := by
  have hin : inB (s : Int) xs.length = true := by unfold inB rcZ; rw [Int.toNat_natCast]; exact decide_eq_true (by omega)
  have HC := Lib.hid (fun w' (h : Below w.heap.size w w') => changingIn_any p i (s : Int) v xs w' (ha.keep h) hc hi hin)
  have HO := Lib.hid (fun w' (h : Below w.heap.size w w') => onlyEnd_any p i s v xs w' (ha.keep h) hc hi hs)
  have HB : Hid (criB p xs i s = (decide (2 ≤ (chL p xs i (s : Int)).length) && !sureB p xs i s)) := rfl
  have hl62 := ch_len p i xs (s : Int)
  generalize sureB p xs i s = sb at *
  generalize endZ p xs i s = ez at *
  generalize criB p xs i s = cb at *
  generalize chL p xs i (s : Int) = cs at *
  obtain ⟨a, ca, rfl, hm, ha'⟩ := ha
  have k0 : C2 ((w.alloc (.cells #[.int .i64 p, .slice a xs.length ca] 27)).alloc (.cells #[.int .i64 i, .int .i64 (s : Int)] 68)) (w.heap.size) (.int .i64 p) (.slice a xs.length ca) := by simpa using (C2.here w (.int .i64 p) (.slice a xs.length ca) 27).alloc (.cells #[.int .i64 i, .int .i64 (s : Int)] 68)
  have k1 : C2 ((w.alloc (.cells #[.int .i64 p, .slice a xs.length ca] 27)).alloc (.cells #[.int .i64 i, .int .i64 (s : Int)] 68)) (w.heap.size + 1) (.int .i64 i) (.int .i64 (s : Int)) := by simpa using C2.here (w.alloc (.cells #[.int .i64 p, .slice a xs.length ca] 27)) (.int .i64 i) (.int .i64 (s : Int)) 68
  clear ha' hin hc hi hs
  generalize xs.length = n at *
  go_enter Try.func73, Try.ntmps73
  go_wp2_with fail
  refine (HC.out _ (by go_grown)).mono ?_
  rintro e w1 ⟨u, rfl, ou, hb⟩
  have hL := chain (B := w.heap.size) (a := w) (by go_grown) (Nat.le_refl _) hb
  replace k0 := keepAt hb k0
  replace k1 := keepAt hb k1
  obtain ⟨qa, qc, rfl, _, _⟩ := ou.reads
  clear hb ou
  by_cases h2 : 2 ≤ cs.length
  · have h2I : ¬ (cs.length : Int) < 2 := by omega
    have HB2 : Hid (cb = !sb) := by rw [Hid, HB.out, decide_eq_true h2]; rfl
    clear HB h2
    go_wp2_with fail
    refine (HO.out _ hL).mono ?_
    rintro e w2 ⟨rfl, hb⟩
    replace hL := chain (B := w.heap.size) (a := w) hL (Nat.le_refl _) hb
    clear hb
    go_wp2_with fail
    go_ret
    exact ⟨by rw [HB2.out]; rfl, hL⟩
  · have h2I : (cs.length : Int) < 2 := by omega
    have HB2 : Hid (cb = false) := by rw [Hid, HB.out, decide_eq_false h2]; rfl
    clear HB h2
    go_wp2_with fail
    go_ret
    exact ⟨by rw [HB2.out]; rfl, hL⟩

def cntL (M : Nat) (L : List Nat) : Nat := ((List.range M).filter fun s => decide (s ∈ L)).length
theorem cntL_drop {M x : Nat} {L : List Nat} (hx : x < M) (h : x ∈ L) : cntL M (L.filter fun s => s != x) < cntL M L := by
  unfold cntL
  have e : (List.range M).filter (fun s => decide (s ∈ L.filter fun s => s != x)) = ((List.range M).filter fun s => decide (s ∈ L)).filter fun s => s != x := by
    rw [List.filter_filter]
    apply List.filter_congr
    intro s _
    by_cases h1 : s ∈ L
    · by_cases h2 : s = x <;> simp [h1, h2]
    · simp [h1]
  rw [e, List.length_filter_lt_length_iff_exists]
  exact ⟨x, by simp [hx, h], by simp⟩
def litB (w : World) (g s : Nat) : Bool := match w.cell? ⟨g, s, none⟩ with | some (.bool b) => b | _ => false
def cntW (w : World) (g M : Nat) : Nat := ((List.range M).filter fun s => litB w g s).length
theorem cntW_eq {w : World} {base g M : Nat} {L : List Nat} (h : Flags w base g M L) : cntW w g M = cntL M L := by
  unfold cntW cntL
  congr 1
  apply List.filter_congr
  intro s hs
  unfold litB
  rw [(h.cell (List.mem_range.1 hs)).1]
def boolN : Value → Nat
  | .bool true => 1
  | _ => 0

/-- all that is put away ends -/
def Left (st : Nat → List Nat) (R L : List Nat) : Prop := (∀ x ∈ L, x ∈ R) ∧ ∀ x ∈ R, x ∉ L → Ends st x
/-- from each there is a step to one that is left -/
def Onw (st : Nat → List Nat) (L : List Nat) : Prop := ∀ x ∈ L, ∃ y ∈ st x, y ∈ L
theorem Left.start (st : Nat → List Nat) (R : List Nat) : Left st R R := ⟨fun _ h => h, fun x h h2 => absurd h h2⟩
theorem Left.drop {st : Nat → List Nat} {R L : List Nat} {x : Nat} (h : Left st R L) (hcl : ∀ y ∈ st x, y ∈ R) (hst : ∀ y ∈ st x, y ∉ L) : Left st R (L.filter fun s => s != x) := by
  refine ⟨fun z hz => h.1 z (List.mem_filter.1 hz).1, fun z hz hn => ?_⟩
  by_cases e : z = x
  · subst e
    exact Ends.mk fun y hy => h.2 y (hcl y hy) (hst y hy)
  · exact h.2 z hz fun hzL => hn (List.mem_filter.2 ⟨hzL, by simp [e]⟩)
theorem left_end {st : Nat → List Nat} {R L : List Nat} (h : Left st R L) (hall : Onw st L) {s : Nat} (hs : s ∈ R) : s ∈ L ↔ ¬ Ends st s := by
  constructor
  · intro hL hE
    have : s ∈ L → False := by
      refine Acc.rec (motive := fun x _ => x ∈ L → False) ?_ hE
      intro z hz ih hzL
      obtain ⟨y, hy, hyL⟩ := hall z hzL
      exact ih y hy hyL
    exact this hL
  · intro hE
    exact Classical.byContradiction fun hn => hE (h.2 s hs hn)

def anyTo (ys L : List Nat) (q : Nat) : Bool := (ys.take q).any fun y => decide (y ∈ L)
theorem anyTo_zero (ys L : List Nat) : anyTo ys L 0 = false := rfl
theorem anyTo_succ {ys L : List Nat} {q : Nat} (h : q < ys.length) : anyTo ys L (q + 1) = (anyTo ys L q || decide (ys.getD q 0 ∈ L)) := by
  unfold anyTo
  rw [List.take_succ_eq_append_getElem h, List.any_append]
  simp [List.getD_eq_getElem?_getD, h]
theorem anyTo_all (ys L : List Nat) : anyTo ys L ys.length = true ↔ ∃ y ∈ ys, y ∈ L := by
  unfold anyTo
  rw [List.take_length, List.any_eq_true]
  simp

theorem rch_closed {p i : Int} {xs : List Int} {s : Nat} (hs : s < 2 ^ xs.length) : ∀ x ∈ rchL p xs i s, ∀ y ∈ stepsN p xs i x, y ∈ rchL p xs i s :=
  fun _ hx _ hy => reach_closed hs (fun _ hx _ hy => stepsN_lt hx _ hy) hx hy
theorem goesB_iff {p i : Int} {xs : List Int} {s : Nat} (hs : s < 2 ^ xs.length) : goesB p xs i s = true ↔ ¬ Ends (stepsN p xs i) s := by
  have h := passes_len (rchL_nodup p xs i s) (rch_closed (p := p) (i := i) hs)
  unfold goesB
  rw [decide_eq_true_iff]
  constructor
  · intro h1 hE
    exact h.2 (fun x hx => hE.all _ x hx) h1
  · intro hE
    refine Classical.byContradiction fun h1 => hE (h.1 h1 s (reach_start _ _ _))

set_option maxRecDepth 100000 in
set_option maxHeartbeats 4000000 in
theorem l06Sure_any (p i : Int) (s : Nat) (v : Value) (xs : List Int) (w : World) (ha : Reads w v xs) (hc : cirB p xs = true) (hi : inB i p = true) (hs : s < 2 ^ xs.length) :
    Calls Try.prog 76 #[.agg #[.int .i64 p, v], .int .i64 i, .int .i64 (s : Int)] w fun e w' => e = .returned (.bool (sureB p xs i s)) ∧ Below w.heap.size w w' := by
  obtain ⟨_, ⟨n1, n4⟩, _, _⟩ := cirB_out hc
  have hM16 := pow_le16 n4
  have HE := Lib.hid (fun w' (h : Below w.heap.size w w') => l06Ends_any p i s v xs w' (ha.keep h) hc hi hs)
  have HA := Lib.hid (fun w' (h : Below w.heap.size w w') => l06Reached_any p i s v xs w' (ha.keep h) hc hi hs)
  rw [show reach (stepsN p xs i) (2 ^ xs.length) s = rchL p xs i s from rfl] at HA
  have HS : Hid (sureB p xs i s = (decide ((endsU p xs i s).length = 1) && !goesB p xs i s)) := rfl
  rw [← intsN_len (endsU p xs i s)] at HS
  have hl16 : (intsN (endsU p xs i s)).length ≤ 16 := by rw [intsN_len]; have := endsU_len p xs i s; omega
  have HGo := Lib.hid (goesB_iff (p := p) (i := i) hs)
  have HRs : Hid (s ∈ rchL p xs i s) := reach_start _ _ _
  have HRc := Lib.hid (rch_closed (p := p) (i := i) hs)
  have HRl := Lib.hid (rchL_lt (p := p) (i := i) hs)
  obtain ⟨M, hM⟩ : ∃ M, 2 ^ xs.length = M := ⟨_, rfl⟩
  have HIn : ∀ x : Nat, x < M → inB (x : Int) xs.length = true := fun x hx => by
    unfold inB rcZ; rw [Int.toNat_natCast, hM]; exact decide_eq_true (by omega)
  have HST := Lib.hid (fun (x : Nat) (hx : x < M) w' (h : Below w.heap.size w w') => l06Change_any p i (x : Int) v xs w' (ha.keep h) hc hi (HIn x hx))
  have HSLT : Hid (∀ x, x < M → ∀ y ∈ stepsN p xs i x, y < M) := fun x hx y hy => by rw [← hM]; exact stepsN_lt (by rw [hM]; exact hx) y hy
  have HMem : Hid (∀ x, x < M → ∀ k, k < (chL p xs i (x : Int)).length → ∃ r : Nat, r < 4 ∧ (chL p xs i (x : Int)).getD k 0 = (r : Int) ∧ (stepsN p xs i x).getD k 0 = x ^^^ 2 ^ r) := fun x hx k hk => by
    have hmem : (chL p xs i (x : Int)).getD k 0 ∈ chL p xs i (x : Int) := by
      rw [List.getD_eq_getElem?_getD, List.getElem?_eq_getElem hk]; exact List.getElem_mem hk
    obtain ⟨r, hr, e⟩ := ch_mem (by rw [hM]; exact hx) hmem
    refine ⟨r, by omega, e, ?_⟩
    have e2 : (chL p xs i (x : Int))[k] = (r : Int) := by rw [List.getD_eq_getElem?_getD, List.getElem?_eq_getElem hk] at e; exact e
    simp [stepsN, List.getD_eq_getElem?_getD, hk, e2]
  have HCL : Hid (∀ x : Nat, (chL p xs i (x : Int)).length ≤ 62) := fun x => ch_len p i xs (x : Int)
  have HSL : Hid (∀ x : Nat, (stepsN p xs i x).length = (chL p xs i (x : Int)).length) := fun x => by simp [stepsN]
  rw [hM] at hs HA HRl hM16
  generalize rchL p xs i s = R at *
  generalize intsN (endsU p xs i s) = E at *
  generalize goesB p xs i s = gb at *
  generalize sureB p xs i s = sb at *
  obtain ⟨st, hst⟩ : ∃ st, stepsN p xs i = st := ⟨_, rfl⟩
  obtain ⟨ch, hch⟩ : ∃ ch : Nat → List Int, (fun x => chL p xs i ((x : Nat) : Int)) = ch := ⟨_, rfl⟩
  have hch' : ∀ x : Nat, chL p xs i (x : Int) = ch x := fun x => by rw [← hch]
  rw [hst] at HSLT HMem HSL HGo HRc
  simp only [hch'] at HST HMem HSL HCL
  obtain ⟨a, ca, rfl, hm, ha'⟩ := ha
  have k0 := C2.here w (.int .i64 p) (.slice a xs.length ca) 27
  clear ha' hc hi hM hst hch hch' HIn
  generalize xs.length = n at *
  go_enter Try.func76, Try.ntmps76
  go_wp2_with fail
  refine (HE.out _ (by go_grown)).mono ?_
  rintro e w1 ⟨u, rfl, ou, hb⟩
  have hL := chain (B := w.heap.size) (a := w) (by go_grown) (Nat.le_refl _) hb
  replace k0 := keepAt hb k0
  obtain ⟨ea, ec, rfl, _, _⟩ := ou.reads
  clear hb ou
  by_cases h1 : E.length = 1
  · have h1I : ((E.length : Int) != 1) = false := by rw [h1]; rfl
    have HSB : Hid (sb = !gb) := by rw [Hid, HS.out, decide_eq_true h1]; rfl
    rw [h1] at *
    clear h1 HS
    go_wp2_with fail
    refine (HA.out _ hL).mono ?_
    rintro e w2 ⟨gF, rfl, hF, hb⟩
    have hz1 := k0.2.2.2.2
    replace hL := chain (B := w.heap.size) (a := w) hL (Nat.le_refl _) hb
    replace k0 := keepAt hb k0
    have hbF := hF.lt
    have HF := Lib.hid hF
    obtain ⟨bF, hbF'⟩ : ∃ b, w1.heap.size = b := ⟨_, rfl⟩
    rw [hbF'] at HF hbF hz1
    clear hb hF hbF'
    go_wp2_with fail
    go_loopw [8] (fun c wr => ∃ (ch : Bool) (L : List Nat), c = .bool ch ∧ Below w.heap.size w wr ∧ C2 wr w.heap.size (.int .i64 p) (.slice a n ca) ∧ Hid (Flags wr bF gF M L) ∧ Hid (Left st R L) ∧ Hid (ch = false → Onw st L)) (fun c wr => 2 * cntW wr gF M + boolN c)
    case atStart => exact ⟨true, R, rfl, hL, k0, HF, Left.start _ _, fun h => by cases h⟩
    case round =>
      clear hL k0 HF
      obtain ⟨b, L, rfl, hL, k0, hFl, hLe, hAl⟩ := hrel
      have HC := Lib.hid (cntW_eq hFl.out)
      cases b
      · obtain ⟨hcF, hfF⟩ := hFl.out.cell hs
        have hg : decide (s ∈ L) = gb := by
          have h1 := left_end hLe.out (hAl.out rfl) HRs.out
          cases gb
          · exact decide_eq_false fun h => by have := HGo.out.2 (h1.1 h); cases this
          · exact decide_eq_true (h1.2 (HGo.out.1 rfl))
        rw [hg] at hcF
        clear hg
        have hs0 : (0 : Int) ≤ (s : Int) := by omega
        have hs1 : (s : Int) < (M : Int) := by omega
        go_wp2_with fail
        go_ret
        exact ⟨by rw [HSB.out]; rfl, hL⟩
      · go_wp2_with fail
        go_loopw [8, 9] (fun u c wy => ∃ (ch : Bool) (L' : List Nat) (k : Nat), k ≤ M ∧ c = .int .i64 (k : Int) ∧ u = .bool ch ∧ Below w.heap.size w wy ∧ C2 wy w.heap.size (.int .i64 p) (.slice a n ca) ∧ Hid (Flags wy bF gF M L') ∧ Hid (Left st R L') ∧ Hid (ch = false → L' = L ∧ ∀ x, x < k → x ∈ L → ∃ y ∈ st x, y ∈ L) ∧ Hid (ch = true → cntL M L' < cntL M L)) (fun _ c _ => M - (intOf c).toNat)
        case atStart => exact ⟨false, L, 0, Nat.zero_le _, rfl, rfl, hL, k0, hFl, hLe, fun _ => ⟨rfl, fun x hx => absurd hx (Nat.not_lt_zero x)⟩, fun h => by cases h⟩
        case round =>
          clear hL k0 hFl hLe hAl
          obtain ⟨cb, L', k, hk, rfl, rfl, hL, k0, hFl, hLe, hSame, hDn⟩ := hrel
          by_cases hkM : k < M
          · obtain ⟨hcF, hfF⟩ := hFl.out.cell hkM
            have hk0 : (0 : Int) ≤ (k : Int) := by omega
            have hk1 : (k : Int) < (M : Int) := by omega
            by_cases hmem : k ∈ L'
            · rw [decide_eq_true hmem] at hcF
              have HMm := Lib.hid hmem
              have HSk := Lib.hid (HST.out k hkM)
              have HME := Lib.hid (HMem.out k hkM)
              have HYL := Lib.hid (HSLT.out k hkM)
              have HSLk := Lib.hid (HSL.out k)
              have HCk := HCL.out k
              have HStk : Hid (∀ y ∈ st k, y ∈ R) := HRc.out k (hLe.out.1 k hmem)
              obtain ⟨ys, hys⟩ : ∃ ys, st k = ys := ⟨_, rfl⟩
              have HYS := Lib.hid hys
              rw [hys] at HME HYL HSLk HStk
              clear hmem hys
              generalize ch k = cs at *
              go_wp2_with fail
              refine (HSk.out _ hL).mono ?_
              rintro e w3 ⟨u, rfl, ou, hb⟩
              replace hL := chain (B := w.heap.size) (a := w) hL (Nat.le_refl _) hb
              replace k0 := keepAt hb k0
              replace hFl := Lib.hid (flagsAt hb hFl.out)
              have HOU := Lib.hid ou.reads
              obtain ⟨va, vc, rfl, _, _⟩ := ou.reads
              have K0 := Lib.hid k0
              have hz3 := hL.size
              clear hb ou hcF hfF k0
              go_wp2_with fail
              go_loopw [10, 12] (fun o c wz => ∃ q : Nat, q ≤ cs.length ∧ c = .int .i64 (q : Int) ∧ o = .bool (anyTo ys L' q) ∧ Below w3.heap.size w3 wz) (fun _ c _ => cs.length - (intOf c).toNat)
              case atStart => exact ⟨0, Nat.zero_le _, rfl, rfl, Below.refl _ _⟩
              case round =>
                obtain ⟨q, hq, rfl, rfl, hLz⟩ := hrel
                have hLw := hL.trans (hLz.mono hz3)
                have hFz := Lib.hid (flagsAt hLz hFl.out)
                by_cases hql : q < cs.length
                · obtain ⟨r, hr4, hcr, hyr⟩ := HME.out q hql
                  obtain ⟨y, hy⟩ : ∃ y, k ^^^ 2 ^ r = y := ⟨_, rfl⟩
                  have hqly : q < ys.length := by rw [HSLk.out]; exact hql
                  rw [hy] at hyr
                  have hyM : y < M := by
                    refine HYL.out y ?_
                    rw [← hyr, List.getD_eq_getElem?_getD, List.getElem?_eq_getElem hqly]; exact List.getElem_mem hqly
                  have HN := Lib.hid (anyTo_succ (L := L') hqly)
                  rw [hyr] at HN
                  obtain ⟨q1, hq1, hq2⟩ := xor_walk (s := k) (r := r) (by omega) hr4
                  rw [hy] at hq2
                  obtain ⟨va', vc', ev, _, hcv⟩ := HOU.out.keep hLz
                  cases ev
                  rcases hcv with h0 | ⟨gv, offv, rfl, hcv⟩
                  · rw [h0] at hql; simp at hql
                  have hd0 := hcv q hql
                  rw [hcr] at hd0
                  obtain ⟨hcF, hfF⟩ := hFz.out.cell hyM
                  have hq0 : (0 : Int) ≤ (q : Int) := by omega
                  have hq1' : (q : Int) < (cs.length : Int) := by omega
                  have hy0 : (0 : Int) ≤ (y : Int) := by omega
                  have hy1 : (y : Int) < (M : Int) := by omega
                  clear hcv hcr hyr hy
                  cases hat : anyTo ys L' q
                  · rw [hat] at HN
                    clear hat
                    go_wp2_with fail
                    exact ⟨⟨q + 1, by omega, by go_num, by rw [HN.out]; rfl, hLz⟩, by simp [intOf]; omega⟩
                  · rw [hat] at HN
                    clear hat
                    go_wp2_with fail
                    exact ⟨⟨q + 1, by omega, by go_num, by rw [HN.out]; rfl, hLz⟩, by simp [intOf]; omega⟩
                · have e : q = ys.length := by have := HSLk.out; omega
                  have hqn : ¬ (q : Int) < (cs.length : Int) := by omega
                  have kz := keepAt hLz K0.out
                  have hAll := Lib.hid (anyTo_all ys L')
                  rw [← e] at hAll
                  clear e
                  cases hat : anyTo ys L' q
                  · have HNo : Hid (∀ y ∈ ys, y ∉ L') := fun y hy h => by have := hAll.out.2 ⟨y, hy, h⟩; rw [hat] at this; cases this
                    clear hat hAll
                    obtain ⟨hcF, hfF⟩ := hFz.out.cell hkM
                    obtain ⟨hU, hUg⟩ := hFz.out.unput k
                    have HU := Lib.hid hU
                    have k05 := C2.grown kz hUg (by intro e; injection e with e; omega)
                    have hL5 := hLw.grown hUg (by have := kz.2.2.2.2; omega) (fun q e => by injection e with e; omega)
                    have HLe5 : Hid (Left st R (L'.filter fun x => x != k)) := hLe.out.drop (by rw [HYS.out]; exact HStk.out) (by rw [HYS.out]; exact HNo.out)
                    have HD5 : Hid (cntL M (L'.filter fun x => x != k) < cntL M L) := by
                      have h1 := cntL_drop hkM HMm.out
                      cases cb
                      · rw [(hSame.out rfl).1] at h1 ⊢; exact h1
                      · exact Nat.lt_trans h1 (hDn.out rfl)
                    clear hU hUg
                    go_wp2_with fail
                    exact ⟨⟨true, _, k + 1, by omega, by go_num, rfl, hL5, k05, HU, HLe5, (fun h => by cases h), (fun _ => HD5.out)⟩, by simp [intOf]; omega⟩
                  · have HYes : Hid (∃ y ∈ ys, y ∈ L') := hAll.out.1 hat
                    clear hat hAll
                    have HSame2 : Hid (cb = false → L' = L ∧ ∀ x, x < k + 1 → x ∈ L → ∃ y ∈ st x, y ∈ L) := fun h => by
                      obtain ⟨e, h2⟩ := hSame.out h
                      refine ⟨e, fun x hx hxL => ?_⟩
                      by_cases hxk : x = k
                      · rw [hxk, HYS.out, ← e]; exact HYes.out
                      · exact h2 x (by omega) hxL
                    go_wp2_with fail
                    exact ⟨⟨cb, L', k + 1, by omega, by go_num, rfl, hLw, kz, hFz, hLe, HSame2, hDn⟩, by simp [intOf]; omega⟩
            · rw [decide_eq_false hmem] at hcF
              have HSame2 : Hid (cb = false → L' = L ∧ ∀ x, x < k + 1 → x ∈ L → ∃ y ∈ st x, y ∈ L) := fun h => by
                obtain ⟨e, h2⟩ := hSame.out h
                refine ⟨e, fun x hx hxL => ?_⟩
                by_cases hxk : x = k
                · rw [hxk, ← e] at hxL; exact absurd hxL hmem
                · exact h2 x (by omega) hxL
              clear hmem
              go_wp2_with fail
              exact ⟨⟨cb, L', k + 1, by omega, by go_num, rfl, hL, k0, hFl, hLe, HSame2, hDn⟩, by simp [intOf]; omega⟩
          · have e : k = M := by omega
            have hkn : ¬ (k : Int) < (M : Int) := by omega
            have HO : Hid (cb = false → Onw st L') := fun h => by
              obtain ⟨e2, h2⟩ := hSame.out h
              intro x hx
              rw [e2] at hx ⊢
              refine h2 x ?_ hx
              rw [e]
              exact HRl.out x (hLe.out.1 x (by rw [e2]; exact hx))
            have HC2 := Lib.hid (cntW_eq hFl.out)
            have HDec : Hid (2 * cntL M L' + boolN (.bool cb) < 2 * cntL M L + 1) := by
              cases cb
              · rw [(hSame.out rfl).1]; show 2 * cntL M L + 0 < _; omega
              · have := hDn.out rfl; show 2 * cntL M L' + 1 < _; omega
            clear e
            go_wp2_with fail
            refine ⟨⟨cb, L', rfl, hL, k0, hFl, hLe, HO⟩, ?_⟩
            rw [HC.out, HC2.out]; exact HDec.out
  · have h1I : ((E.length : Int) != 1) = true := by simp; omega
    have HSB : Hid (sb = false) := by rw [Hid, HS.out, decide_eq_false h1]; rfl
    clear HS
    go_wp2_with fail
    go_ret
    exact ⟨by rw [HSB.out]; rfl, hL⟩

set_option maxRecDepth 100000 in
set_option maxHeartbeats 2000000 in
theorem l06Critical_any (p i : Int) (s : Nat) (v : Value) (xs : List Int) (w : World) (ha : Reads w v xs) (hc : cirB p xs = true) (hi : inB i p = true) (hs : s < 2 ^ xs.length) :
    Calls Try.prog 72 #[.agg #[.int .i64 p, v], .int .i64 i, .int .i64 (s : Int)] w fun e w' => e = .returned (.bool (criB p xs i s)) ∧ Below w.heap.size w w' := by
  have hin : inB (s : Int) xs.length = true := by unfold inB rcZ; rw [Int.toNat_natCast]; exact decide_eq_true (by omega)
  have HC := Lib.hid (fun w' (h : Below w.heap.size w w') => l06Change_any p i (s : Int) v xs w' (ha.keep h) hc hi hin)
  have HO := Lib.hid (fun w' (h : Below w.heap.size w w') => l06Sure_any p i s v xs w' (ha.keep h) hc hi hs)
  have HB : Hid (criB p xs i s = (decide (2 ≤ (chL p xs i (s : Int)).length) && !sureB p xs i s)) := rfl
  have hl62 := ch_len p i xs (s : Int)
  generalize sureB p xs i s = sb at *
  generalize criB p xs i s = cb at *
  generalize chL p xs i (s : Int) = cs at *
  obtain ⟨a, ca, rfl, hm, ha'⟩ := ha
  have k0 := C2.here w (.int .i64 p) (.slice a xs.length ca) 27
  clear ha' hin hc hi hs
  generalize xs.length = n at *
  go_enter Try.func72, Try.ntmps72
  go_wp2_with fail
  refine (HC.out _ (by go_grown)).mono ?_
  rintro e w1 ⟨u, rfl, ou, hb⟩
  have hL := chain (B := w.heap.size) (a := w) (by go_grown) (Nat.le_refl _) hb
  replace k0 := keepAt hb k0
  obtain ⟨qa, qc, rfl, _, _⟩ := ou.reads
  clear hb ou
  by_cases h2 : 2 ≤ cs.length
  · have h2I : (1 : Int) < (cs.length : Int) := by omega
    have HB2 : Hid (cb = !sb) := by rw [Hid, HB.out, decide_eq_true h2]; rfl
    clear HB h2
    go_wp2_with fail
    refine (HO.out _ hL).mono ?_
    rintro e w2 ⟨rfl, hb⟩
    replace hL := chain (B := w.heap.size) (a := w) hL (Nat.le_refl _) hb
    clear hb
    go_wp2_with fail
    go_ret
    exact ⟨by rw [HB2.out]; rfl, hL⟩
  · have h2I : ¬ (1 : Int) < (cs.length : Int) := by omega
    have HB2 : Hid (cb = false) := by rw [Hid, HB.out, decide_eq_false h2]; rfl
    clear HB h2
    go_wp2_with fail
    go_ret
    exact ⟨by rw [HB2.out]; rfl, hL⟩

def resIsCritical_0 (p : Int) (xs : List Int) (i s : Int) : Bool := if sitC p xs i s = 0 then criB p xs i s.toNat else false
def resIsCritical_1 (p : Int) (xs : List Int) (i s : Int) : Int := sitC p xs i s
theorem iIsCritical_any (p : Int) (v : Value) (xs : List Int) (i s : Int) (w : World) (ha : Reads w v xs) :
    Calls Try.prog 35 #[.agg #[.int .i64 p, v], .int .i64 i, .int .i64 s] w fun e w' => e = .returned (.tuple #[.bool (resIsCritical_0 p xs i s), .int .i64 (resIsCritical_1 p xs i s)]) ∧ Below w.heap.size w w' := by
  obtain ⟨c, hc⟩ : ∃ c, sitC p xs i s = c := ⟨_, rfl⟩
  have HE := Lib.hid (fun w' (h : Below w.heap.size w w') => situationError_any p i s v xs w' (ha.keep h) hc)
  by_cases h0 : c = 0
  · subst h0
    obtain ⟨h1, h2, h3⟩ := sitC_zero hc
    obtain ⟨S, rfl, hS⟩ := stateN h3
    have HA := Lib.hid (fun w' (h : Below w.heap.size w w') => isCritical_any p i S v xs w' (ha.keep h) h1 h2 hS)
    have HR : Hid (resIsCritical_0 p xs i S = criB p xs i S ∧ resIsCritical_1 p xs i S = 0) := ⟨by unfold resIsCritical_0; rw [if_pos hc, Int.toNat_natCast], hc⟩
    obtain ⟨a, ca, rfl, hm, _⟩ := ha
    have k0 := C2.here w (.int .i64 p) (.slice a xs.length ca) 27
    clear hc h1 h2 h3 hS
    generalize criB p xs i S = y at *
    generalize xs.length = n at *
    go_enter Try.func35, Try.ntmps35
    go_wp2_with (first | (go_at_call 60; (with_reducible refine (HE.out _ (by go_grown)).mono ?_); rintro e w' ⟨rfl, hb⟩; have hL := chain (B := w.heap.size) (a := w) (by go_grown) (Nat.le_refl _) hb; (first | replace k0 := keepAt hb k0 | replace k0 := keepAt hb (C2.alloc k0 _)); clear hb) | (go_at_call 73; (with_reducible refine (HA.out _ (by go_grown)).mono ?_); rintro e w' ⟨rfl, hb⟩; have hL := chain (B := w.heap.size) (a := w) (by go_grown) (Nat.le_refl _) hb; (first | replace k0 := keepAt hb k0 | replace k0 := keepAt hb (C2.alloc k0 _)); clear hb))
    go_ret2
    exact ⟨by rw [HR.out.1, HR.out.2]; rfl, hL⟩
  · have HR : Hid (resIsCritical_0 p xs i s = false ∧ resIsCritical_1 p xs i s = c) := ⟨by unfold resIsCritical_0; rw [if_neg (by rw [hc]; exact h0)], hc⟩
    have hne : (c != 0) = true := by simp [h0]
    obtain ⟨a, ca, rfl, hm, _⟩ := ha
    have k0 := C2.here w (.int .i64 p) (.slice a xs.length ca) 27
    clear hc h0
    generalize xs.length = n at *
    go_enter Try.func35, Try.ntmps35
    go_wp2_with ((go_at_call 60; (with_reducible refine (HE.out _ (by go_grown)).mono ?_); rintro e w' ⟨rfl, hb⟩; have hL := chain (B := w.heap.size) (a := w) (by go_grown) (Nat.le_refl _) hb; (first | replace k0 := keepAt hb k0 | replace k0 := keepAt hb (C2.alloc k0 _)); clear hb))
    go_ret2
    exact ⟨by rw [HR.out.1, HR.out.2]; rfl, hL⟩

theorem sIsCritical_any (p : Int) (v : Value) (xs : List Int) (i s : Int) (w : World) (ha : Reads w v xs) :
    Calls Try.prog 34 #[.agg #[.int .i64 p, v], .int .i64 i, .int .i64 s] w fun e w' => e = .returned (.tuple #[.bool (resIsCritical_0 p xs i s), .int .i64 (resIsCritical_1 p xs i s)]) ∧ Below w.heap.size w w' := by
  obtain ⟨c, hc⟩ : ∃ c, sitC p xs i s = c := ⟨_, rfl⟩
  have HE := Lib.hid (fun w' vs (h : Below w.heap.size w w') (hs : Reads w' vs [s]) => l06Code_any p i v vs xs [s] w' (ha.keep h) hs (c := c) (by rw [codeL_one]; exact hc))
  obtain ⟨a, ca, rfl, hm, ha'⟩ := ha
  have ha : Reads w (.slice a xs.length ca) xs := ⟨a, ca, rfl, hm, ha'⟩
  clear ha'
  have HO := Lib.hid (reads_one (w.alloc (.cells #[.int .i64 p, .slice a xs.length ca] 27)) s 2)
  have k0 := (C2.here w (.int .i64 p) (.slice a xs.length ca) 27).alloc (.cells #[.int .i64 s] 2)
  by_cases h0 : c = 0
  · subst h0
    obtain ⟨h1, h2, h3⟩ := sitC_zero hc
    obtain ⟨S, rfl, hS⟩ := stateN h3
    have HA := Lib.hid (fun w' (h : Below w.heap.size w w') => l06Critical_any p i S _ xs w' (ha.keep h) h1 h2 hS)
    have HR : Hid (resIsCritical_0 p xs i S = criB p xs i S ∧ resIsCritical_1 p xs i S = 0) := ⟨by unfold resIsCritical_0; rw [if_pos hc, Int.toNat_natCast], hc⟩
    clear hc h1 h2 h3 ha hS
    generalize criB p xs i S = y at *
    generalize xs.length = n at *
    go_enter Try.func34, Try.ntmps34
    go_wp2_with (first | (go_at_call 58; (with_reducible refine (HE.out _ _ (by go_grown) (by simpa using HO.out)).mono ?_); rintro e w' ⟨rfl, hb⟩; have hL := chain (B := w.heap.size) (a := w) (by go_grown) (Nat.le_refl _) hb; (first | replace k0 := keepAt hb k0 | replace k0 := keepAt hb (C2.alloc k0 _)); clear hb) | (go_at_call 72; (with_reducible refine (HA.out _ (by go_grown)).mono ?_); rintro e w' ⟨rfl, hb⟩; have hL := chain (B := w.heap.size) (a := w) (by go_grown) (Nat.le_refl _) hb; (first | replace k0 := keepAt hb k0 | replace k0 := keepAt hb (C2.alloc k0 _)); clear hb))
    go_ret2
    exact ⟨by rw [HR.out.1, HR.out.2]; rfl, hL⟩
  · have HR : Hid (resIsCritical_0 p xs i s = false ∧ resIsCritical_1 p xs i s = c) := ⟨by unfold resIsCritical_0; rw [if_neg (by rw [hc]; exact h0)], hc⟩
    have hne : (c != 0) = true := by simp [h0]
    clear hc h0 ha
    generalize xs.length = n at *
    go_enter Try.func34, Try.ntmps34
    go_wp2_with ((go_at_call 58; (with_reducible refine (HE.out _ _ (by go_grown) (by simpa using HO.out)).mono ?_); rintro e w' ⟨rfl, hb⟩; have hL := chain (B := w.heap.size) (a := w) (by go_grown) (Nat.le_refl _) hb; (first | replace k0 := keepAt hb k0 | replace k0 := keepAt hb (C2.alloc k0 _)); clear hb))
    go_ret2
    exact ⟨by rw [HR.out.1, HR.out.2]; rfl, hL⟩

end Go.Proofs.Ytblbapehakcomaa
