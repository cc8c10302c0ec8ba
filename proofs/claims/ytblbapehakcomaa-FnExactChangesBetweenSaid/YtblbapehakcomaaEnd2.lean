/- EndsOf: the program's and the model's. -/
import Derived.Test.YtblbapehakcomaaEnds
namespace Go.Proofs.Ytblbapehakcomaa
open Go.RowKit
set_option linter.unusedVariables false

/-- is x reached, and steady -/
def endP (p : Int) (xs : List Int) (i : Int) (s : Nat) (x : Nat) : Bool := decide (x ∈ rchL p xs i s) && (aimZ p xs i (x : Int) == (x : Int))
def endsU (p : Int) (xs : List Int) (i : Int) (s : Nat) : List Nat := ups (2 ^ xs.length) (endP p xs i s)
theorem ends_asc {p : Int} {xs : List Int} {i : Int} {s : Nat} (hs : s < 2 ^ xs.length) : ascL (intsN (endsL p xs i s)) = intsN (endsU p xs i s) :=
  asc_ups (List.Nodup.sublist List.filter_sublist (rchL_nodup p xs i s)) fun x => by
    unfold endsL endP
    rw [List.mem_filter]
    simp only [Bool.and_eq_true, decide_eq_true_eq]
    exact ⟨fun h => ⟨rchL_lt hs x h.1, h⟩, fun h => h.2⟩
theorem endsU_len (p : Int) (xs : List Int) (i : Int) (s : Nat) : (endsU p xs i s).length ≤ 2 ^ xs.length := ups_len _ _
def resEndsOf_0 (p : Int) (xs : List Int) (i s : Int) : List Int := if sitC p xs i s = 0 then intsN (endsU p xs i s.toNat) else []
def resEndsOf_1 (p : Int) (xs : List Int) (i s : Int) : Int := sitC p xs i s
theorem lenEndsOf_0 (p : Int) (xs : List Int) (i s : Int) : (resEndsOf_0 p xs i s).length ≤ 100000 := by
  unfold resEndsOf_0
  by_cases h : sitC p xs i s = 0
  · rw [if_pos h, intsN_len]
    have h1 := endsU_len p xs i s.toNat
    have h2 := pow_le16 (cirB_out (sitC_zero h).1).2.1.2
    omega
  · rw [if_neg h]; simp

theorem iEndsOf_any (p : Int) (v : Value) (xs : List Int) (i s : Int) (w : World) (ha : Reads w v xs) :
    Calls Try.prog 33 #[.agg #[.int .i64 p, v], .int .i64 i, .int .i64 s] w fun e w' => ∃ u, e = .returned (.tuple #[u, .int .i64 (resEndsOf_1 p xs i s)]) ∧ In w' w.heap.size w'.heap.size u (resEndsOf_0 p xs i s) ∧ Below w.heap.size w w' := by
  obtain ⟨c, hc⟩ : ∃ c, sitC p xs i s = c := ⟨_, rfl⟩
  have HE := Lib.hid (fun w' (h : Below w.heap.size w w') => situationError_any p i s v xs w' (ha.keep h) hc)
  by_cases h0 : c = 0
  · subst h0
    obtain ⟨h1, h2, h3⟩ := sitC_zero hc
    obtain ⟨S, rfl, hS⟩ := stateN h3
    have HA := Lib.hid (fun w' (h : Below w.heap.size w w') => reachedFrom_any p i S v xs w' (ha.keep h) h1 h2 hS)
    rw [show reach (stepsN p xs i) (2 ^ xs.length) S = rchL p xs i S from rfl] at HA
    have HEn := Lib.hid (fun w' (u : Value) (h : Below w.heap.size w w') (hu : ReadsQ w' u i (rchL p xs i S)) => endsAmong_any p i S v u xs w' (ha.keep h) h1 h2 hS hu)
    have HR : Hid (resEndsOf_0 p xs i S = ascL (intsN (endsL p xs i S)) ∧ resEndsOf_1 p xs i S = 0) := by
      refine ⟨?_, hc⟩
      unfold resEndsOf_0
      rw [if_pos hc, Int.toNat_natCast, ends_asc hS]
    obtain ⟨a, ca, rfl, hm, _⟩ := ha
    have k0 := C2.here w (.int .i64 p) (.slice a xs.length ca) 27
    clear hc h1 h2 h3 hS
    generalize xs.length = n at *
    go_enter Try.func33, Try.ntmps33
    go_wp2_with ((go_at_call 60; (with_reducible refine (HE.out _ (by go_grown)).mono ?_); rintro e w' ⟨rfl, hb⟩; have hL := chain (B := w.heap.size) (a := w) (by go_grown) (Nat.le_refl _) hb; (first | replace k0 := keepAt hb k0 | replace k0 := keepAt hb (C2.alloc k0 _)); clear hb))
    go_region_held3 (fun w' => C2 w' w.heap.size (.int .i64 p) (.slice a n ca)) ((repeat' (first | (with_reducible assumption) | (with_reducible refine C2.drewU ?_) | (with_reducible refine C2.alloc ?_ _) | (with_reducible refine C2.set ?_ _ _ _ (by omega))))) (first | (go_at_call 69; (with_reducible refine (HA.out _ (by go_grown)).mono ?_); rintro e w2 ⟨u, rfl, ou, hb⟩; have hL := chain (B := w.heap.size) (a := w) (by go_grown) (Nat.le_refl _) hb; replace k0 := keepAt hb (show C2 _ w.heap.size (.int .i64 p) (.slice a n ca) from by (repeat' (first | (with_reducible assumption) | (with_reducible refine C2.drewU ?_) | (with_reducible refine C2.alloc ?_ _) | (with_reducible refine C2.set ?_ _ _ _ (by omega))))); have HOR := Lib.hid ou.reads; obtain ⟨ua, uc, rfl, _, _⟩ := ou.reads; clear hb ou) | (go_at_call 71; (with_reducible refine (HEn.out _ _ (by go_grown) (by exact HOR.out.keep (by go_grown))).mono ?_); rintro e w3 ⟨u3, rfl, o3, hb⟩; have hs2 := hL.size; have hL := chain (B := w.heap.size) (a := w) (by go_grown) (Nat.le_refl _) hb; replace k0 := keepAt hb (show C2 _ w.heap.size (.int .i64 p) (.slice a n ca) from by (repeat' (first | (with_reducible assumption) | (with_reducible refine C2.drewU ?_) | (with_reducible refine C2.alloc ?_ _) | (with_reducible refine C2.set ?_ _ _ _ (by omega))))); clear hb))
    all_goals (go_wp2_with fail)
    all_goals go_ret2
    all_goals (exact ⟨u3, by rw [HR.out.2]; rfl, by rw [HR.out.1]; exact In.of o3 hs2 (Nat.le_refl _), hL⟩)
  · have HR : Hid (resEndsOf_0 p xs i s = [] ∧ resEndsOf_1 p xs i s = c) := ⟨by unfold resEndsOf_0; rw [if_neg (by rw [hc]; exact h0)], hc⟩
    have hne : (c != 0) = true := by simp [h0]
    obtain ⟨a, ca, rfl, hm, _⟩ := ha
    have k0 := C2.here w (.int .i64 p) (.slice a xs.length ca) 27
    clear hc h0
    generalize xs.length = n at *
    go_enter Try.func33, Try.ntmps33
    go_wp2_with ((go_at_call 60; (with_reducible refine (HE.out _ (by go_grown)).mono ?_); rintro e w' ⟨rfl, hb⟩; have hL := chain (B := w.heap.size) (a := w) (by go_grown) (Nat.le_refl _) hb; (first | replace k0 := keepAt hb k0 | replace k0 := keepAt hb (C2.alloc k0 _)); clear hb))
    go_ret2
    exact ⟨_, by rw [HR.out.2]; rfl, by rw [HR.out.1]; exact inNil _ _ _, hL⟩

set_option maxRecDepth 100000 in
set_option maxHeartbeats 2000000 in
theorem l06Ends_any (p i : Int) (s : Nat) (v : Value) (xs : List Int) (w : World) (ha : Reads w v xs) (hc : cirB p xs = true) (hi : inB i p = true) (hs : s < 2 ^ xs.length) :
    Calls Try.prog 70 #[.agg #[.int .i64 p, v], .int .i64 i, .int .i64 (s : Int)] w fun e w' => ∃ u, e = .returned u ∧ Owns w' w.heap.size u (intsN (endsU p xs i s)) ∧ Below w.heap.size w w' := by
  obtain ⟨j0, hj0_, jz0, jz1, jz2⟩ := info_parts info64
  obtain ⟨_, ⟨n1, n4⟩, _, _⟩ := cirB_out hc
  have hM16 := pow_le16 n4
  have HA := Lib.hid (fun w' (h : Below w.heap.size w w') => l06Reached_any p i s v xs w' (ha.keep h) hc hi hs)
  rw [show reach (stepsN p xs i) (2 ^ xs.length) s = rchL p xs i s from rfl] at HA
  have HU : Hid (endsU p xs i s = ups (2 ^ xs.length) (endP p xs i s)) := rfl
  have HP : Hid (∀ x, endP p xs i s x = (decide (x ∈ rchL p xs i s) && (aimZ p xs i (x : Int) == (x : Int)))) := fun x => rfl
  generalize endP p xs i s = EP at *
  generalize rchL p xs i s = RR at *
  obtain ⟨M, hM⟩ : ∃ M, 2 ^ xs.length = M := ⟨_, rfl⟩
  have HIn : Hid (∀ k : Nat, k < M → inB (k : Int) xs.length = true) := fun k hk => by
    unfold inB rcZ; rw [Int.toNat_natCast, hM]; exact decide_eq_true (by omega)
  have HC : Hid (∀ w', Below w.heap.size w w' → Calls Try.prog 64 #[.agg #[.int .i64 p, v]] w' fun e w'' => e = .returned (.int .i64 (M : Int)) ∧ Below w'.heap.size w' w'') := fun w' h => by
    have := l06States_any p v xs w' (ha.keep h) n1 n4
    unfold rcZ at this; rw [Int.toNat_natCast, hM] at this; exact this
  have HAi := Lib.hid (fun (k : Nat) (hk : k < M) w' (h : Below w.heap.size w w') => l06Aim_any p i (k : Int) v xs w' (ha.keep h) hc hi (HIn.out k hk))
  rw [hM] at HA HU hM16
  have HU0 : Hid (intsN (ups 0 EP) = []) := rfl
  obtain ⟨a, ca, rfl, hm, ha'⟩ := ha
  have k0 := C2.here w (.int .i64 p) (.slice a xs.length ca) 27
  clear hc hi ha' hM hs
  generalize xs.length = n at *
  go_enter Try.func70, Try.ntmps70
  go_wp2_with fail
  refine (HA.out _ (by go_grown)).mono ?_
  rintro e w2 ⟨gF, rfl, hF, hb⟩
  have hL := chain (B := w.heap.size) (a := w) (by go_grown) (Nat.le_refl _) hb
  replace k0 := keepAt hb k0
  have hFl := hF.lt
  have HF := Lib.hid hF
  have hz2 := hL.size
  have HK := Lib.hid k0
  have HOO : Hid (Owns (w2.alloc (.cells #[] 2)) w2.heap.size (.slice (some ⟨w2.heap.size, 0, none⟩) 0 0) (intsN (ups 0 EP))) := World.ownsRow_made (base := w2.heap.size) (e := 2) (size := 1) w2 #[] 0 (Nat.le_refl _) (by simp) rfl
  clear hb hF k0
  go_wp2_with fail
  go_loopw [8, 9] (fun u c wr => ∃ k : Nat, k ≤ M ∧ c = .int .i64 (k : Int) ∧ Below w2.heap.size w2 wr ∧ Owns wr w2.heap.size u (intsN (ups k EP))) (fun _ c _ => M - (intOf c).toNat)
  case atStart => exact ⟨0, Nat.zero_le _, rfl, (Below.refl _ _).alloc (Nat.le_refl _) _, HOO.out⟩
  case round =>
    clear HOO
    obtain ⟨k, hk, rfl, hLr, oo⟩ := hrel
    have k0 := keepAt hLr HK.out
    have hLw := hL.trans (hLr.mono hz2)
    by_cases hlt : k < M
    · have hk0 : (0 : Int) ≤ (k : Int) := by omega
      have hk1 : (k : Int) < (M : Int) := by omega
      have HAk := Lib.hid (HAi.out k hlt)
      have hPk := HP.out k
      have hl : (intsN (ups k EP)).length ≤ 16 := by rw [intsN_len]; have := ups_len k EP; omega
      go_wp2_with fail
      refine (HC.out _ hLw).mono ?_
      rintro e w3 ⟨rfl, hb⟩
      replace hLr := chain (B := w2.heap.size) (a := w2) hLr (Nat.le_refl _) hb
      replace hLw := chain (B := w.heap.size) (a := w) hLw (Nat.le_refl _) hb
      replace k0 := keepAt hb k0
      replace oo := ownsKeepAt hb oo
      clear hb
      obtain ⟨hcF, hfF⟩ := (HF.out.keep hLr).cell hlt
      by_cases hmem : k ∈ RR
      · rw [decide_eq_true hmem] at hcF hPk
        clear hmem
        cases hq : (aimZ p xs i (k : Int) == (k : Int))
        · have HN : Hid (ups (k + 1) EP = ups k EP) := ups_miss (by rw [hPk, hq]; rfl)
          clear hPk
          go_wp2_with fail
          refine (HAk.out _ hLw).mono ?_
          rintro e w4 ⟨rfl, hb⟩
          replace hLr := chain (B := w2.heap.size) (a := w2) hLr (Nat.le_refl _) hb
          replace oo := ownsKeepAt hb oo
          clear hb
          go_wp2_with fail
          exact ⟨⟨k + 1, by omega, by go_num, hLr, by rw [HN.out]; exact oo⟩, by simp [intOf]; omega⟩
        · have HN : Hid (intsN (ups (k + 1) EP) = intsN (ups k EP) ++ [(k : Int)]) := by rw [Hid, ups_hit (by rw [hPk, hq]; rfl), intsN_snoc]
          clear hPk
          generalize intsN (ups k EP) = ts at *
          go_wp2_with fail
          refine (HAk.out _ hLw).mono ?_
          rintro e w4 ⟨rfl, hb⟩
          replace hLr := chain (B := w2.heap.size) (a := w2) hLr (Nat.le_refl _) hb
          replace oo := ownsKeepAt hb oo
          clear hb
          have hzr := hLr.size
          have hfrom := oo.rowsFrom (B := w2.heap.size) (Nat.le_refl _)
          obtain ⟨ua, uc, rfl, _, _⟩ := oo.reads
          go_wp2_with (at_builtin; refine wpList_append_own _ rfl _ _ 22 rfl w2.heap.size 2 j0 (.int .i64 0) 1 8 Try.underlying22 hj0_ jz0 jz1 jz2 rfl (by decide) (.slice ua ts.length uc) ts.length (ts.map (Value.int .i64)) rfl (World.ownsRow.alloc oo _) ⟨w4.heap.size, 0, none⟩ 1 1 [.int .i64 (k : Int)] rfl rfl (cell_one_new _ _ _) (by simp [Value.oneCell']) (by unfold maxLen; omega) (by omega) (by simp; omega) ?_; intro v' w5 hown' hgrow hnil)
          exact ⟨⟨k + 1, by omega, by go_num, (hLr.alloc (by omega) _).grown hgrow (by simp; omega) hfrom, by rw [HN.out]; exact Owns.snoc hown'⟩, by simp [intOf]; omega⟩
      · rw [decide_eq_false hmem] at hcF hPk
        have HN : Hid (ups (k + 1) EP = ups k EP) := ups_miss (by rw [hPk]; rfl)
        clear hmem hPk
        go_wp2_with fail
        exact ⟨⟨k + 1, by omega, by go_num, hLr, by rw [HN.out]; exact oo⟩, by simp [intOf]; omega⟩
    · have e : k = M := by omega
      rw [e, ← HU.out] at oo
      clear e
      have hkn : ¬ (k : Int) < (M : Int) := by omega
      go_wp2_with fail
      refine (HC.out _ hLw).mono ?_
      rintro e w3 ⟨rfl, hb⟩
      replace hLw := chain (B := w.heap.size) (a := w) hLw (Nat.le_refl _) hb
      replace oo := ownsKeepAt hb oo
      clear hb
      go_wp2_with fail
      go_ret
      exact ⟨_, rfl, oo.mono hz2, hLw⟩

theorem sEndsOf_any (p : Int) (v : Value) (xs : List Int) (i s : Int) (w : World) (ha : Reads w v xs) :
    Calls Try.prog 32 #[.agg #[.int .i64 p, v], .int .i64 i, .int .i64 s] w fun e w' => ∃ u, e = .returned (.tuple #[u, .int .i64 (resEndsOf_1 p xs i s)]) ∧ Reads w' u (resEndsOf_0 p xs i s) ∧ Below w.heap.size w w' := by
  obtain ⟨c, hc⟩ : ∃ c, sitC p xs i s = c := ⟨_, rfl⟩
  have HE := Lib.hid (fun w' vs (h : Below w.heap.size w w') (hs : Reads w' vs [s]) => l06Code_any p i v vs xs [s] w' (ha.keep h) hs (c := c) (by rw [codeL_one]; exact hc))
  obtain ⟨a, ca, rfl, hm, ha'⟩ := ha
  have ha : Reads w (.slice a xs.length ca) xs := ⟨a, ca, rfl, hm, ha'⟩
  clear ha'
  have HO := Lib.hid (reads_one (w.alloc (.cells #[.int .i64 p, .slice a xs.length ca] 27)) s 2)
  have k0 := (C2.here w (.int .i64 p) (.slice a xs.length ca) 27).alloc (.cells #[.int .i64 s] 2)
  by_cases h0 : c = 0
  · subst h0
    obtain ⟨h1, h2, h3⟩ := sitC_zero hc
    obtain ⟨S, rfl, hS⟩ := stateN h3
    have HA := Lib.hid (fun w' (h : Below w.heap.size w w') => l06Ends_any p i S _ xs w' (ha.keep h) h1 h2 hS)
    have HR : Hid (resEndsOf_0 p xs i S = intsN (endsU p xs i S) ∧ resEndsOf_1 p xs i S = 0) := by
      refine ⟨?_, hc⟩
      unfold resEndsOf_0
      rw [if_pos hc, Int.toNat_natCast]
    clear hc h1 h2 h3 ha hS
    generalize xs.length = n at *
    go_enter Try.func32, Try.ntmps32
    go_wp2_with ((go_at_call 58; (with_reducible refine (HE.out _ _ (by go_grown) (by simpa using HO.out)).mono ?_); rintro e w' ⟨rfl, hb⟩; have hL := chain (B := w.heap.size) (a := w) (by go_grown) (Nat.le_refl _) hb; (first | replace k0 := keepAt hb k0 | replace k0 := keepAt hb (C2.alloc k0 _)); clear hb))
    refine (HA.out _ hL).mono ?_
    rintro e w2 ⟨u, rfl, ou, hb⟩
    have hL2 := chain (B := w.heap.size) (a := w) hL (Nat.le_refl _) hb
    clear hb
    go_wp2_with fail
    go_ret2
    exact ⟨u, by rw [HR.out.2]; rfl, by rw [HR.out.1]; exact ou.reads, hL2⟩
  · have HR : Hid (resEndsOf_0 p xs i s = [] ∧ resEndsOf_1 p xs i s = c) := ⟨by unfold resEndsOf_0; rw [if_neg (by rw [hc]; exact h0)], hc⟩
    have hne : (c != 0) = true := by simp [h0]
    clear hc h0 ha
    generalize xs.length = n at *
    go_enter Try.func32, Try.ntmps32
    go_wp2_with ((go_at_call 58; (with_reducible refine (HE.out _ _ (by go_grown) (by simpa using HO.out)).mono ?_); rintro e w' ⟨rfl, hb⟩; have hL := chain (B := w.heap.size) (a := w) (by go_grown) (Nat.le_refl _) hb; (first | replace k0 := keepAt hb k0 | replace k0 := keepAt hb (C2.alloc k0 _)); clear hb))
    go_ret2
    exact ⟨_, by rw [HR.out.2]; rfl, by rw [HR.out.1]; exact (inNil _ 0 0).reads, hL⟩

end Go.Proofs.Ytblbapehakcomaa
