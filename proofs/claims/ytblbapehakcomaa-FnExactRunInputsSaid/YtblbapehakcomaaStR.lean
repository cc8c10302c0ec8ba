/- StatesReached: the program's and the model's. -/
import Derived.Test.YtblbapehakcomaaEndM
import Derived.Test.YtblbapehakcomaaCirL
namespace Go.Proofs.Ytblbapehakcomaa
open Go.RowKit
set_option linter.unusedVariables false

/-- what is reached -/
def rchL (p : Int) (xs : List Int) (i : Int) (s : Nat) : List Nat := reach (stepsN p xs i) (2 ^ xs.length) s
def resStatesReached_0 (p : Int) (xs : List Int) (i s : Int) : List Int := if sitC p xs i s = 0 then intsN (ups (2 ^ xs.length) fun x => decide (x ∈ rchL p xs i s.toNat)) else []
def resStatesReached_1 (p : Int) (xs : List Int) (i s : Int) : Int := sitC p xs i s
theorem pow_le16 {n : Nat} (h : n ≤ 4) : 2 ^ n ≤ 16 := Nat.pow_le_pow_right (by decide) h
theorem lenStatesReached_0 (p : Int) (xs : List Int) (i s : Int) : (resStatesReached_0 p xs i s).length ≤ 100000 := by
  unfold resStatesReached_0
  by_cases h : sitC p xs i s = 0
  · rw [if_pos h, intsN_len]
    have h1 := ups_len (2 ^ xs.length) fun x => decide (x ∈ rchL p xs i s.toNat)
    have h2 := pow_le16 (cirB_out (sitC_zero h).1).2.1.2
    omega
  · rw [if_neg h]; simp
/-- a state as a natural number -/
theorem stateN {s : Int} {n : Nat} (h : inB s n = true) : ∃ S : Nat, s = (S : Int) ∧ S < 2 ^ n := by
  obtain ⟨h0, h1⟩ := inB_out h
  obtain ⟨S, rfl⟩ := Int.eq_ofNat_of_zero_le h0
  refine ⟨S, rfl, ?_⟩
  unfold rcZ at h1
  rw [Int.toNat_natCast] at h1
  omega
theorem rchL_nodup (p : Int) (xs : List Int) (i : Int) (s : Nat) : (rchL p xs i s).Nodup := reach_nodup _ _ _
theorem rchL_lt {p : Int} {xs : List Int} {i : Int} {s : Nat} (hs : s < 2 ^ xs.length) : ∀ x ∈ rchL p xs i s, x < 2 ^ xs.length := reach_lt hs fun _ hx _ hy => stepsN_lt hx _ hy
theorem rchL_len {p : Int} {xs : List Int} {i : Int} {s : Nat} (hs : s < 2 ^ xs.length) : (rchL p xs i s).length ≤ 2 ^ xs.length := reach_len hs fun _ hx _ hy => stepsN_lt hx _ hy

theorem iStatesReached_any (p : Int) (v : Value) (xs : List Int) (i s : Int) (w : World) (ha : Reads w v xs) :
    Calls Try.prog 31 #[.agg #[.int .i64 p, v], .int .i64 i, .int .i64 s] w fun e w' => ∃ u, e = .returned (.tuple #[u, .int .i64 (resStatesReached_1 p xs i s)]) ∧ In w' w.heap.size w'.heap.size u (resStatesReached_0 p xs i s) ∧ Below w.heap.size w w' := by
  obtain ⟨c, hc⟩ : ∃ c, sitC p xs i s = c := ⟨_, rfl⟩
  have HE := Lib.hid (fun w' (h : Below w.heap.size w w') => situationError_any p i s v xs w' (ha.keep h) hc)
  by_cases h0 : c = 0
  · subst h0
    obtain ⟨h1, h2, h3⟩ := sitC_zero hc
    obtain ⟨S, rfl, hS⟩ := stateN h3
    have hM16 := pow_le16 (cirB_out h1).2.1.2
    have HA := Lib.hid (fun w' (h : Below w.heap.size w w') => reachedFrom_any p i S v xs w' (ha.keep h) h1 h2 hS)
    rw [show reach (stepsN p xs i) (2 ^ xs.length) S = rchL p xs i S from rfl] at HA
    have HSt := Lib.hid (fun (u : Value) (w' : World) (h : ReadsQ w' u i (rchL p xs i S)) => statesOf_any u i (rchL p xs i S) w' h (by have := rchL_len (p := p) (xs := xs) (i := i) hS; omega))
    have HR : Hid (resStatesReached_0 p xs i S = ascL (intsN (rchL p xs i S)) ∧ resStatesReached_1 p xs i S = 0) := by
      refine ⟨?_, hc⟩
      unfold resStatesReached_0
      rw [if_pos hc, Int.toNat_natCast]
      exact (asc_ups (rchL_nodup p xs i S) (fun x => ⟨fun h => ⟨rchL_lt hS x h, decide_eq_true h⟩, fun h => of_decide_eq_true h.2⟩)).symm
    obtain ⟨a, ca, rfl, hm, _⟩ := ha
    have k0 := C2.here w (.int .i64 p) (.slice a xs.length ca) 27
    clear hc h1 h2 h3
    generalize xs.length = n at *
    go_enter Try.func31, Try.ntmps31
    go_wp2_with ((go_at_call 60; (with_reducible refine (HE.out _ (by go_grown)).mono ?_); rintro e w' ⟨rfl, hb⟩; have hL := chain (B := w.heap.size) (a := w) (by go_grown) (Nat.le_refl _) hb; (first | replace k0 := keepAt hb k0 | replace k0 := keepAt hb (C2.alloc k0 _)); clear hb))
    refine (HA.out _ hL).mono ?_
    rintro e w2 ⟨u, rfl, ou, hb⟩
    have hs1 := hL.size
    have hL2 := chain (B := w.heap.size) (a := w) hL (Nat.le_refl _) hb
    have HOR := Lib.hid ou.reads
    obtain ⟨ua, uc, rfl, _, _⟩ := ou.reads
    clear hb ou
    go_wp2_with fail
    refine (HSt.out _ _ HOR.out).mono ?_
    rintro e w3 ⟨u3, rfl, o3, hb⟩
    have hs2 := hL2.size
    have hL3 := chain (B := w.heap.size) (a := w) hL2 (Nat.le_refl _) hb
    clear hb
    go_wp2_with fail
    go_ret2
    exact ⟨u3, by rw [HR.out.2]; rfl, by rw [HR.out.1]; exact In.of o3 hs2 (Nat.le_refl _), hL3⟩
  · have HR : Hid (resStatesReached_0 p xs i s = [] ∧ resStatesReached_1 p xs i s = c) := ⟨by unfold resStatesReached_0; rw [if_neg (by rw [hc]; exact h0)], hc⟩
    have hne : (c != 0) = true := by simp [h0]
    obtain ⟨a, ca, rfl, hm, _⟩ := ha
    have k0 := C2.here w (.int .i64 p) (.slice a xs.length ca) 27
    clear hc h0
    generalize xs.length = n at *
    go_enter Try.func31, Try.ntmps31
    go_wp2_with ((go_at_call 60; (with_reducible refine (HE.out _ (by go_grown)).mono ?_); rintro e w' ⟨rfl, hb⟩; have hL := chain (B := w.heap.size) (a := w) (by go_grown) (Nat.le_refl _) hb; (first | replace k0 := keepAt hb k0 | replace k0 := keepAt hb (C2.alloc k0 _)); clear hb))
    go_ret2
    exact ⟨_, by rw [HR.out.2]; rfl, by rw [HR.out.1]; exact inNil _ _ _, hL⟩

set_option maxRecDepth 100000 in
set_option maxHeartbeats 2000000 in
theorem sStatesReached_any (p : Int) (v : Value) (xs : List Int) (i s : Int) (w : World) (ha : Reads w v xs) :
    Calls Try.prog 30 #[.agg #[.int .i64 p, v], .int .i64 i, .int .i64 s] w fun e w' => ∃ u, e = .returned (.tuple #[u, .int .i64 (resStatesReached_1 p xs i s)]) ∧ Reads w' u (resStatesReached_0 p xs i s) ∧ Below w.heap.size w w' := by
  obtain ⟨j0, hj0_, jz0, jz1, jz2⟩ := info_parts info64
  obtain ⟨c, hc⟩ : ∃ c, sitC p xs i s = c := ⟨_, rfl⟩
  have HE := Lib.hid (fun w' vs (h : Below w.heap.size w w') (hs : Reads w' vs [s]) => l06Code_any p i v vs xs [s] w' (ha.keep h) hs (c := c) (by rw [codeL_one]; exact hc))
  obtain ⟨a, ca, rfl, hm, ha'⟩ := ha
  have ha : Reads w (.slice a xs.length ca) xs := ⟨a, ca, rfl, hm, ha'⟩
  clear ha'
  have HO := Lib.hid (reads_one (w.alloc (.cells #[.int .i64 p, .slice a xs.length ca] 27)) s 2)
  have k0 := (C2.here w (.int .i64 p) (.slice a xs.length ca) 27).alloc (.cells #[.int .i64 s] 2)
  by_cases h0 : c = 0
  · subst h0
    obtain ⟨h1, h2, h3⟩ := sitC_zero hc
    obtain ⟨S, rfl, hS⟩ := stateN h3
    have hM16 := pow_le16 (cirB_out h1).2.1.2
    have HA := Lib.hid (fun w' (h : Below w.heap.size w w') => l06Reached_any p i S _ xs w' (ha.keep h) h1 h2 hS)
    have HR : Hid (resStatesReached_0 p xs i S = intsN (ups (2 ^ xs.length) fun x => decide (x ∈ rchL p xs i S)) ∧ resStatesReached_1 p xs i S = 0) := by
      refine ⟨?_, hc⟩
      unfold resStatesReached_0
      rw [if_pos hc, Int.toNat_natCast]
    obtain ⟨RR, hRR⟩ : ∃ R, rchL p xs i S = R := ⟨_, rfl⟩
    rw [show reach (stepsN p xs i) (2 ^ xs.length) S = RR from hRR] at HA
    rw [hRR] at HR
    obtain ⟨M, hM⟩ : ∃ M, 2 ^ xs.length = M := ⟨_, rfl⟩
    rw [hM] at HA HR hM16
    have HU0 : Hid (intsN (ups 0 fun x => decide (x ∈ RR)) = []) := rfl
    clear hc h1 h2 h3 ha hRR hM hS
    generalize xs.length = n at *
    go_enter Try.func30, Try.ntmps30
    go_wp2_with ((go_at_call 58; (with_reducible refine (HE.out _ _ (by go_grown) (by simpa using HO.out)).mono ?_); rintro e w' ⟨rfl, hb⟩; have hL := chain (B := w.heap.size) (a := w) (by go_grown) (Nat.le_refl _) hb; (first | replace k0 := keepAt hb k0 | replace k0 := keepAt hb (C2.alloc k0 _)); clear hb))
    refine (HA.out _ hL).mono ?_
    rintro e w2 ⟨gF, rfl, hF, hb⟩
    have hs1 := hL.size
    have hL2 := chain (B := w.heap.size) (a := w) hL (Nat.le_refl _) hb
    have hFl := hF.lt
    have HF := Lib.hid hF
    have hz2 := hL2.size
    have HOO : Hid (Owns (w2.alloc (.cells #[] 2)) w2.heap.size (.slice (some ⟨w2.heap.size, 0, none⟩) 0 0) (intsN (ups 0 fun x => decide (x ∈ RR)))) := World.ownsRow_made (base := w2.heap.size) (e := 2) (size := 1) w2 #[] 0 (Nat.le_refl _) (by simp) rfl
    clear hb hF hL k0
    go_wp2_with fail
    go_loopw [10, 11] (fun u c wr => ∃ k : Nat, k ≤ M ∧ c = .int .i64 (k : Int) ∧ Below w2.heap.size w2 wr ∧ Owns wr w2.heap.size u (intsN (ups k fun x => decide (x ∈ RR)))) (fun _ c _ => M - (intOf c).toNat)
    case atStart => exact ⟨0, Nat.zero_le _, rfl, (Below.refl _ _).alloc (Nat.le_refl _) _, HOO.out⟩
    case round =>
      clear HOO
      obtain ⟨k, hk, rfl, hLr, oo⟩ := hrel
      by_cases hlt : k < M
      · obtain ⟨hcF, hfF⟩ := (HF.out.keep hLr).cell hlt
        have hk0 : (0 : Int) ≤ (k : Int) := by omega
        have hk1 : (k : Int) < (M : Int) := by omega
        have hzr := hLr.size
        have hl : (intsN (ups k fun x => decide (x ∈ RR))).length ≤ 16 := by rw [intsN_len]; have := ups_len k fun x => decide (x ∈ RR); omega
        by_cases hmem : k ∈ RR
        · have HN : Hid (intsN (ups (k + 1) fun x => decide (x ∈ RR)) = intsN (ups k fun x => decide (x ∈ RR)) ++ [(k : Int)]) := by rw [Hid, ups_hit (decide_eq_true hmem), intsN_snoc]
          rw [decide_eq_true hmem] at hcF
          clear hmem
          generalize intsN (ups k fun x => decide (x ∈ RR)) = ts at *
          have hfrom := oo.rowsFrom (B := w2.heap.size) (Nat.le_refl _)
          obtain ⟨ua, uc, rfl, _, _⟩ := oo.reads
          go_wp2_with (at_builtin; refine wpList_append_own _ rfl _ _ 22 rfl w2.heap.size 2 j0 (.int .i64 0) 1 8 Try.underlying22 hj0_ jz0 jz1 jz2 rfl (by decide) (.slice ua ts.length uc) ts.length (ts.map (Value.int .i64)) rfl (World.ownsRow.alloc oo _) ⟨wr.heap.size, 0, none⟩ 1 1 [.int .i64 (k : Int)] rfl rfl (cell_one_new _ _ _) (by simp [Value.oneCell']) (by unfold maxLen; omega) (by omega) (by simp; omega) ?_; intro v' w5 hown' hgrow hnil)
          exact ⟨⟨k + 1, by omega, by go_num, (hLr.alloc (by omega) _).grown hgrow (by simp; omega) hfrom, by rw [HN.out]; exact Owns.snoc hown'⟩, by simp [intOf]; omega⟩
        · have HN : Hid (intsN (ups (k + 1) fun x => decide (x ∈ RR)) = intsN (ups k fun x => decide (x ∈ RR))) := by rw [Hid, ups_miss (decide_eq_false hmem)]
          rw [decide_eq_false hmem] at hcF
          clear hmem
          go_wp2_with fail
          exact ⟨⟨k + 1, by omega, by go_num, hLr, by rw [HN.out]; exact oo⟩, by simp [intOf]; omega⟩
      · have e : k = M := by omega
        rw [e] at oo
        clear e
        have hkn : ¬ (k : Int) < (M : Int) := by omega
        go_wp2_with fail
        go_ret2
        exact ⟨_, by rw [HR.out.2]; rfl, by rw [HR.out.1]; exact oo.reads, hL2.trans (hLr.mono hz2)⟩
  · have HR : Hid (resStatesReached_0 p xs i s = [] ∧ resStatesReached_1 p xs i s = c) := ⟨by unfold resStatesReached_0; rw [if_neg (by rw [hc]; exact h0)], hc⟩
    have hne : (c != 0) = true := by simp [h0]
    clear hc h0 ha
    generalize xs.length = n at *
    go_enter Try.func30, Try.ntmps30
    go_wp2_with ((go_at_call 58; (with_reducible refine (HE.out _ _ (by go_grown) (by simpa using HO.out)).mono ?_); rintro e w' ⟨rfl, hb⟩; have hL := chain (B := w.heap.size) (a := w) (by go_grown) (Nat.le_refl _) hb; (first | replace k0 := keepAt hb k0 | replace k0 := keepAt hb (C2.alloc k0 _)); clear hb))
    go_ret2
    exact ⟨_, by rw [HR.out.2]; rfl, by rw [HR.out.1]; exact (inNil _ 0 0).reads, hL⟩

end Go.Proofs.Ytblbapehakcomaa
