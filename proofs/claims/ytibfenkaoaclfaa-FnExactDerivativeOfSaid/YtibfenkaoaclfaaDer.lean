/- DerivativeOf: the program's and the model's. -/
import Derived.Test.YtibfenkaoaclfaaCo
import Derived.Test.YtibfenkaoaclfaaIn
import Derived.Test.YtibfenkaoaclfaaCopy
import Derived.Maps.AppendAt
namespace Go.Proofs.Ytibfenkaoaclfaa
open Go.RowKit
set_option linter.unusedVariables false

/-- the coefficients of the derivative, the first k of m of them -/
def derTo (xs : List Int) (m k : Nat) : List Int := listF m (fun i => if i < k then wrap64 (((i : Int) + 1) * xs.getD (i + 1) 0) else 0)
def derL (xs : List Int) : List Int := listF (max (xs.length - 1) 1) (fun i => wrap64 (((i : Int) + 1) * xs.getD (i + 1) 0))
def resDerivativeOf_0 (xs : List Int) : List Int := if coB 1000000 25 xs = true then derL xs else []
def resDerivativeOf_1 (xs : List Int) : Int := if coB 1000000 25 xs = true then 0 else 2
theorem lenDerivativeOf_0 (xs : List Int) : (resDerivativeOf_0 xs).length ≤ 100000 := by
  unfold resDerivativeOf_0
  split
  · rename_i h
    have := of_decide_eq_true (show decide (1 ≤ xs.length ∧ (xs.length : Int) ≤ 25 ∧ inM 1000000 xs) = true from h)
    unfold derL; rw [listF_len]; omega
  · simp
theorem derTo_len (xs : List Int) (m k : Nat) : (derTo xs m k).length = m := listF_len _ _
theorem derTo_zero (xs : List Int) (m : Nat) : derTo xs m 0 = List.replicate m 0 := by
  unfold derTo listF
  apply List.ext_getElem <;> simp
theorem derTo_set (xs : List Int) (m k : Nat) (h : k < m) : (derTo xs m (k + 1)).map (Value.int .i64) = ((derTo xs m k).map (Value.int .i64)).set k (.int .i64 (wrap64 (((k : Int) + 1) * xs.getD (k + 1) 0))) := by
  rw [← List.map_set]
  unfold derTo
  rw [listF_set _ _ _ _ h]
  congr 1
  refine listF_congr fun i hi => ?_
  by_cases e : i = k
  · subst e; rw [if_pos (by omega), if_pos rfl]
  · rw [if_neg e]
    by_cases h2 : i < k
    · rw [if_pos h2, if_pos (by omega)]
    · rw [if_neg h2, if_neg (by omega)]
theorem derTo_all (xs : List Int) (h : 1 ≤ xs.length) : derTo xs (max (xs.length - 1) 1) (xs.length - 1) = derL xs := by
  unfold derTo derL
  refine listF_congr fun i hi => ?_
  by_cases h2 : i < xs.length - 1
  · rw [if_pos h2]
  · rw [if_neg h2]
    have e : xs.getD (i + 1) 0 = 0 := by simp [List.getD_eq_getElem?_getD, List.getElem?_eq_none (by omega : xs.length ≤ i + 1)]
    rw [e, Int.mul_zero]; unfold wrap64; rfl
/-- .. and there is room for them -/
def ReadsF (w : World) (v : Value) (xs : List Int) : Prop := Reads w v xs ∧ ∀ a n c, v = .slice a n c → n ≤ c
theorem In.readsF {w : World} {lo hi : Nat} {v : Value} {xs : List Int} (h : In w lo hi v xs) : ReadsF w v xs := by
  refine ⟨h.reads, fun a n c e => ?_⟩
  rcases h.1.2 with ⟨rfl, _⟩ | ⟨g, cap, cur, rfl, _, _, hc, _⟩
  · cases e; exact Nat.le_refl _
  · cases e; exact hc
theorem coB_out {M most : Int} {xs : List Int} (h : coB M most xs = true) : 1 ≤ xs.length ∧ (xs.length : Int) ≤ most ∧ inM M xs := of_decide_eq_true h

set_option maxRecDepth 100000 in
set_option maxHeartbeats 2000000 in
theorem iDerivativeOf_any (v : Value) (xs : List Int) (w : World) (haf : ReadsF w v xs) :
    Calls Try.prog 12 #[v] w fun e w' => ∃ u, e = .returned (.tuple #[u, .int .i64 (resDerivativeOf_1 xs)]) ∧ In w' w.heap.size w'.heap.size u (resDerivativeOf_0 xs) ∧ Below w.heap.size w w' := by
  obtain ⟨ha, hcap⟩ := haf
  cases hc : coB 1000000 25 xs
  · have H0 : Hid (resDerivativeOf_0 xs = []) := if_neg (by rw [hc]; exact Bool.false_ne_true)
    have H1 : Hid (resDerivativeOf_1 xs = 2) := if_neg (by rw [hc]; exact Bool.false_ne_true)
    have HC := Lib.hid (areCo_any v xs 25 1000000 w ha (by decide) (by decide) hc)
    clear hc ha hcap
    go_enter Try.func12, Try.ntmps12
    go_wp2_with fail
    refine HC.out.mono ?_
    rintro e w1 ⟨rfl, hL⟩
    go_wp2_with fail
    go_ret2
    exact ⟨_, by rw [H1.out]; rfl, by rw [H0.out]; exact In.of (World.ownsRow_nil _ _ _ _ : Owns _ w.heap.size _ []) (Nat.le_refl _) (Nat.le_refl _), hL⟩
  · have H0 : Hid (resDerivativeOf_0 xs = derL xs) := if_pos hc
    have H1 : Hid (resDerivativeOf_1 xs = 0) := if_pos hc
    obtain ⟨n1, n25, _⟩ := coB_out hc
    have HC := Lib.hid (areCo_any v xs 25 1000000 w ha (by decide) (by decide) hc)
    obtain ⟨i0, hi, hz0, hz1, hz2⟩ := info_parts info64
    obtain ⟨a, ca, rfl, hm, ha'⟩ := ha
    obtain ⟨b, off, rfl, ha0⟩ : ∃ b off, a = some ⟨b, off, none⟩ ∧ ∀ i, i < xs.length → w.cell? ⟨b, off + i, none⟩ = some (.int .i64 (xs.getD i 0)) := by
      rcases ha' with rfl | h
      · simp at n1
      · exact h
    have Ha := Lib.hid ha0
    have hcap' : xs.length ≤ ca := hcap _ _ _ rfl
    unfold maxLen at hm
    obtain ⟨n, hn⟩ : ∃ n, xs.length = n + 1 := ⟨xs.length - 1, by omega⟩
    have HALL := Lib.hid (derTo_all xs n1)
    rw [hn] at Ha HC hm hcap' n1 n25 HALL ⊢
    clear hc ha' hcap ha0
    rcases Nat.eq_zero_or_pos n with rfl | hp
    · have HD0 : Hid (derL xs = [0]) := by rw [← HALL.out, derTo_zero]; rfl
      clear hm hn HALL Ha
      rcases Nat.eq_or_lt_of_le (show 1 ≤ ca by omega) with hc1 | hc1
      · obtain rfl : ca = 1 := hc1.symm
        go_enter Try.func12, Try.ntmps12
        go_wp2_with fail
        refine HC.out.mono ?_
        rintro e w1 ⟨rfl, hL⟩
        go_wp2_with (at_make; refine wpList_make_full _ rfl _ _ 22 rfl w.heap.size 2 i0 (.int .i64 0) 1 Try.underlying22 hi hz0 hz1 .i64 .i64 (1) (1) 1 rfl rfl rfl rfl (by rw [hz2]; omega) (by unfold maxLen; omega) hL.size ?_; intro w2 oo hg)
        have hL2 : Below w.heap.size w w2 := Below.grown hL hg hL.size (by simp)
        refine wp_loop_rounds 1 ?_
        rw [rounds_succ]
        go_wp2_with fail
        go_ret2
        refine ⟨_, by rw [H1.out]; rfl, ?_, hL2⟩
        rw [H0.out, HD0.out]
        exact In.of (base := w.heap.size) (by rw [made_zero] at oo; exact oo) (Nat.le_refl _) (Nat.le_refl _)
      · have hc2 : ¬ ca = 1 := by omega
        have hc3 : (1 : Int) < (ca : Int) := by omega
        go_enter Try.func12, Try.ntmps12
        go_wp2_with fail
        refine HC.out.mono ?_
        rintro e w1 ⟨rfl, hL⟩
        go_wp2_with (at_make; refine wpList_make_full _ rfl _ _ 22 rfl w.heap.size 2 i0 (.int .i64 0) 1 Try.underlying22 hi hz0 hz1 .i64 .i64 (1) (1) 1 rfl rfl rfl rfl (by rw [hz2]; omega) (by unfold maxLen; omega) hL.size ?_; intro w2 oo hg)
        have hL2 : Below w.heap.size w w2 := Below.grown hL hg hL.size (by simp)
        refine wp_loop_rounds 1 ?_
        rw [rounds_succ]
        go_wp2_with fail
        go_ret2
        refine ⟨_, by rw [H1.out]; rfl, ?_, hL2⟩
        rw [H0.out, HD0.out]
        exact In.of (base := w.heap.size) (by rw [made_zero] at oo; exact oo) (Nat.le_refl _) (Nat.le_refl _)
    · have hp1 : (1 : Int) ≤ (n : Int) := by omega
      have hc2 : ¬ ca = 1 := by omega
      have hc3 : (1 : Int) < (ca : Int) := by omega
      have hc4 : (n : Int) + 1 ≤ (ca : Int) := by omega
      have HALL2 : Hid (derTo xs n n = derL xs) := by rw [Hid, ← HALL.out, show max (n + 1 - 1) 1 = n by omega]; rfl
      clear hm hn HALL
      go_enter Try.func12, Try.ntmps12
      go_wp2_with fail
      refine HC.out.mono ?_
      rintro e w1 ⟨rfl, hL⟩
      go_wp2_with (at_make; refine wpList_make_full _ rfl _ _ 22 rfl w.heap.size 2 i0 (.int .i64 0) 1 Try.underlying22 hi hz0 hz1 .i64 .i64 ((n : Int)) ((n : Int)) n rfl rfl rfl rfl (by rw [hz2]; omega) (by unfold maxLen; omega) hL.size ?_; intro w2 oo hg)
      have hL2 : Below w.heap.size w w2 := Below.grown hL hg hL.size (by simp)
      have oo' : w2.ownsRow w.heap.size 2 1 (.slice (some ⟨w1.heap.size, 0, none⟩) n n) n ((derTo xs n 0).map (Value.int .i64)) := by
        rw [derTo_zero]; rw [made_zero] at oo; exact oo
      have hz1' := hL.size
      clear oo hg hi hz0 hz1 hz2 hL
      go_loopw [18] (fun c wr => ∃ k : Nat, k ≤ n ∧ c = .int .i64 (k : Int) ∧ Below w.heap.size w wr ∧ wr.ownsRow w.heap.size 2 1 (.slice (some ⟨w1.heap.size, 0, none⟩) n n) n ((derTo xs n k).map (Value.int .i64)))
        (fun c _ => n - (intOf c).toNat)
      case atStart => exact ⟨0, Nat.zero_le _, rfl, hL2, oo'⟩
      case round =>
        clear hL2 oo'
        obtain ⟨k, hk, rfl, hL, hO⟩ := hrel
        by_cases hlt : k < n
        · have hca := cell_later hL (Ha.out (k + 1) (by omega))
          rw [show off + (k + 1) = off + 1 + k by omega] at hca
          have hcell : ∃ u, wr.cell? ⟨w1.heap.size, k, none⟩ = some u := by
            rw [hO.cellAt k (by omega)]
            have hlen := hO.1
            exact ⟨_, List.getElem?_eq_getElem (by omega)⟩
          obtain ⟨u, hcell⟩ := hcell
          have hfr := hO.frozenAt k
          have hi1 : (k : Int) < (n : Int) := by omega
          have hi0 : (0 : Int) ≤ (k : Int) := by omega
          have HS := Lib.hid (hO.stored k (.int .i64 (wrap64 (((k : Int) + 1) * xs.getD (k + 1) 0))))
          have HCp := Lib.hid (derTo_set xs n k hlt)
          generalize xs.getD (k + 1) 0 = x at hca HS HCp
          clear hO
          go_wp2_with fail
          exact ⟨⟨k + 1, by omega, by go_num, hL.setCell (p := ⟨w1.heap.size, k, none⟩) hz1' _, by rw [HCp.out]; exact HS.out.1⟩, by simp [intOf]; omega⟩
        · have e : k = n := by omega
          subst e
          go_wp2_with fail
          go_ret2
          refine ⟨_, by rw [H1.out]; rfl, ?_, hL⟩
          rw [HALL2.out] at hO
          rw [H0.out]
          refine In.of (base := w.heap.size) ?_ (Nat.le_refl _) (Nat.le_refl _)
          have e : (derL xs).length = k := by rw [← HALL2.out, derTo_len]
          unfold Owns
          rw [e]; exact hO

/-- the coefficients so far -/
def derK (xs : List Int) (k : Nat) : List Int := listF k (fun i => wrap64 (((i : Int) + 1) * xs.getD (i + 1) 0))
theorem derK_snoc (xs : List Int) (k : Nat) : derK xs (k + 1) = derK xs k ++ [wrap64 (((k : Int) + 1) * xs.getD (k + 1) 0)] := by
  unfold derK listF; rw [List.range_succ, List.map_append]; rfl
theorem derK_len (xs : List Int) (k : Nat) : (derK xs k).length = k := listF_len _ _

set_option maxRecDepth 100000 in
set_option maxHeartbeats 2000000 in
theorem sDerivativeOf_any (v : Value) (xs : List Int) (w : World) (ha : ReadsF w v xs) :
    Calls Try.prog 10 #[v] w fun e w' => ∃ u, e = .returned (.tuple #[u, .int .i64 (resDerivativeOf_1 xs)]) ∧ Reads w' u (resDerivativeOf_0 xs) ∧ Below w.heap.size w w' := by
  replace ha := ha.1
  cases hc : coB 1000000 25 xs
  · have H0 : Hid (resDerivativeOf_0 xs = []) := if_neg (by rw [hc]; exact Bool.false_ne_true)
    have H1 : Hid (resDerivativeOf_1 xs = 2) := if_neg (by rw [hc]; exact Bool.false_ne_true)
    have HC := Lib.hid (l05List_any v xs 25 1000000 w ha (by decide) (by decide) hc)
    clear hc ha
    go_enter Try.func10, Try.ntmps10
    go_wp2_with fail
    refine HC.out.mono ?_
    rintro e w1 ⟨rfl, hL⟩
    go_wp2_with fail
    go_ret2
    exact ⟨_, by rw [H1.out]; rfl, by rw [H0.out]; exact Owns.reads (World.ownsRow_nil _ _ _ _ : Owns _ w.heap.size _ []), hL⟩
  · have H0 : Hid (resDerivativeOf_0 xs = derL xs) := if_pos hc
    have H1 : Hid (resDerivativeOf_1 xs = 0) := if_pos hc
    obtain ⟨n1, n25, _⟩ := coB_out hc
    have HC := Lib.hid (l05List_any v xs 25 1000000 w ha (by decide) (by decide) hc)
    obtain ⟨i0, hi, hz0, hz1, hz2⟩ := info_parts info64
    obtain ⟨a, ca, rfl, hm, ha'⟩ := ha
    obtain ⟨b, off, rfl, ha0⟩ : ∃ b off, a = some ⟨b, off, none⟩ ∧ ∀ i, i < xs.length → w.cell? ⟨b, off + i, none⟩ = some (.int .i64 (xs.getD i 0)) := by
      rcases ha' with rfl | h
      · simp at n1
      · exact h
    have Ha := Lib.hid ha0
    unfold maxLen at hm
    obtain ⟨n, hn⟩ : ∃ n, xs.length = n + 1 := ⟨xs.length - 1, by omega⟩
    have HALL : Hid (derL xs = if n = 0 then [0] else derK xs n) := by
      unfold Hid
      by_cases e : n = 0
      · rw [if_pos e, ← derTo_all xs n1, hn, e, derTo_zero]; rfl
      · rw [if_neg e]; unfold derL derK; rw [hn, show max (n + 1 - 1) 1 = n by omega]
    rw [hn] at Ha HC hm n1 n25 ⊢
    clear hc ha' ha0 hn
    go_enter Try.func10, Try.ntmps10
    go_wp2_with fail
    refine HC.out.mono ?_
    rintro e w1 ⟨rfl, hL⟩
    have hz1' := hL.size
    have oo : Owns (w1.alloc (.cells #[] 2)) w.heap.size (.slice (some ⟨w1.heap.size, 0, none⟩) 0 0) [] := Owns.mono (base := w1.heap.size) (World.ownsRow_made (base := w1.heap.size) (e := 2) (size := 1) w1 #[] 0 (by simp) (by simp) rfl) hz1'
    have hL2 : Below w.heap.size w (w1.alloc (.cells #[] 2)) := hL.alloc hz1' _
    clear hL
    go_wp2_with fail
    go_loopw [4, 5] (fun u c wr => ∃ k : Nat, k ≤ n ∧ c = .int .i64 ((k + 1 : Nat) : Int) ∧ Below w.heap.size w wr ∧ Owns wr w.heap.size u (derK xs k))
      (fun _ c _ => n + 1 - (intOf c).toNat)
    case atStart => exact ⟨0, Nat.zero_le _, rfl, hL2, oo⟩
    case round =>
      clear hL2 oo
      obtain ⟨k, hk, rfl, hL, oo⟩ := hrel
      by_cases hlt : k < n
      · have hca := cell_later hL (Ha.out (k + 1) (by omega))
        have hi1 : ((k + 1 : Nat) : Int) < ((n + 1 : Nat) : Int) := by omega
        have hi2 : (k : Int) < (n : Int) := by omega
        have hi0 : (0 : Int) ≤ ((k + 1 : Nat) : Int) := by omega
        have Hl := Lib.hid (derK_len xs k)
        have HS := Lib.hid (derK_snoc xs k)
        have hzw := hL.size
        generalize xs.getD (k + 1) 0 = x at hca HS
        go_wp2_with (at_builtin; refine wpList_append_own _ rfl _ _ 22 rfl w.heap.size 2 i0 (.int .i64 0) 1 8 Try.underlying22 hi hz0 hz1 hz2 rfl (by decide) _ _ _ rfl (World.ownsRow.alloc oo _) ⟨wr.heap.size, 0, none⟩ 1 1 [.int .i64 (wrap64 (((k : Int) + 1) * x))] rfl rfl (cell_one_new _ _ _) (by simp [Value.oneCell']) (by have := Hl.out; unfold maxLen; omega) (by have := Hl.out; omega) (by simp; omega) ?_; intro v' w2 hown' hgrow hnil)
        have hfrom := oo.rowsFrom (B := w.heap.size) (Nat.le_refl _)
        exact ⟨⟨k + 1, by omega, by go_num, (hL.alloc (by omega) _).grown hgrow (by simp; omega) hfrom, by rw [HS.out]; exact Owns.snoc hown'⟩, by simp [intOf]; omega⟩
      · have e : k = n := by omega
        subst e
        have hi1 : ¬ (k : Int) < (k : Int) := by omega
        have hl := derK_len xs k
        obtain ⟨a2, c2, hu, _, _⟩ := oo.reads
        rw [hl] at hu
        have Hl := Lib.hid hl
        clear hl
        subst hu
        have hzw := hL.size
        rcases Nat.eq_zero_or_pos k with rfl | hp
        · have HD : Hid (derL xs = [0]) := by have := HALL.out; rw [if_pos rfl] at this; exact this
          have oo2 : Owns wr w.heap.size (.slice a2 0 c2) [] := oo
          clear oo
          go_wp2_with (at_builtin; refine wpList_append_own _ rfl _ _ 22 rfl w.heap.size 2 i0 (.int .i64 0) 1 8 Try.underlying22 hi hz0 hz1 hz2 rfl (by decide) _ _ _ rfl (World.ownsRow.alloc oo2 _) ⟨wr.heap.size, 0, none⟩ 1 1 [.int .i64 0] rfl rfl (cell_one_new _ _ _) (by simp [Value.oneCell']) (by decide) (by decide) (by simp; omega) ?_; intro v' w2 hown' hgrow hnil)
          have hfrom := oo2.rowsFrom (B := w.heap.size) (Nat.le_refl _)
          go_ret2
          refine ⟨_, by rw [H1.out]; rfl, ?_, (hL.alloc (by omega) _).grown hgrow (by simp; omega) hfrom⟩
          rw [H0.out, HD.out]
          exact Owns.reads (Owns.snoc (xs := []) hown')
        · have hp1 : ((k : Int) == 0) = false := by simp; omega
          have HD : Hid (derL xs = derK xs k) := by have := HALL.out; rw [if_neg (by omega)] at this; exact this
          go_wp2_with fail
          go_ret2
          refine ⟨_, by rw [H1.out]; rfl, ?_, hL⟩
          rw [H0.out, HD.out]
          exact oo.reads

end Go.Proofs.Ytibfenkaoaclfaa
