/- Trees of closures: what the closure of a digit does. -/
import Derived.Test.YtbliibcfnfgdmaaTre
import Derived.Lib.AppendZeros
namespace Go.Proofs.Ytbliibcfnfgdmaa
open Go.RowKit
set_option linter.unusedVariables false

/-- what the closure of a digit reads: the letter, its place, the places and trees behind it, its input -/
def Caps (w : World) (bl bp bs bi bt gs gt : Nat) (d p p0 p1 : Nat) (v0 v1 : Value) : Prop :=
  w.cell? ⟨bl, 1, none⟩ = some (.int .i64 (maskN d : Int)) ∧ w.cell? ⟨bp, 0, none⟩ = some (.int .i64 (p : Int)) ∧ w.cell? ⟨bi, 0, none⟩ = some (.int .i64 (d : Int)) ∧
  w.cell? ⟨bs, 0, none⟩ = some (.slice (some ⟨gs, 0, none⟩) 2 2) ∧ w.cell? ⟨gs, 0, none⟩ = some (.int .i64 (p0 : Int)) ∧ w.cell? ⟨gs, 1, none⟩ = some (.int .i64 (p1 : Int)) ∧
  w.cell? ⟨bt, 0, none⟩ = some (.slice (some ⟨gt, 0, none⟩) 2 2) ∧ w.cell? ⟨gt, 0, none⟩ = some v0 ∧ w.cell? ⟨gt, 1, none⟩ = some v1
theorem Caps.keep {w w' : World} {bl bp bs bi bt gs gt d p p0 p1 : Nat} {v0 v1 : Value} (h : Caps w bl bp bs bi bt gs gt d p p0 p1 v0 v1) (hb : Below w.heap.size w w') : Caps w' bl bp bs bi bt gs gt d p p0 p1 v0 v1 := by
  obtain ⟨h1, h2, h3, h4, h5, h6, h7, h8, h9⟩ := h
  exact ⟨cell_later hb h1, cell_later hb h2, cell_later hb h3, cell_later hb h4, cell_later hb h5, cell_later hb h6, cell_later hb h7, cell_later hb h8, cell_later hb h9⟩
theorem Caps.agr {w w' : World} {B bl bp bs bi bt gs gt d p p0 p1 : Nat} {v0 v1 : Value} (h : Caps w bl bp bs bi bt gs gt d p p0 p1 v0 v1) (hb : Agr2 B w w') (k1 : B ≤ bl ∧ bl < w.heap.size) (k2 : B ≤ bp ∧ bp < w.heap.size) (k3 : B ≤ bi ∧ bi < w.heap.size) (k4 : B ≤ bs ∧ bs < w.heap.size) (k5 : B ≤ gs ∧ gs < w.heap.size) (k6 : B ≤ bt ∧ bt < w.heap.size) (k7 : B ≤ gt ∧ gt < w.heap.size) : Caps w' bl bp bs bi bt gs gt d p p0 p1 v0 v1 := by
  obtain ⟨h1, h2, h3, h4, h5, h6, h7, h8, h9⟩ := h
  exact ⟨hb.cell k1.1 h1 k1.2, hb.cell k2.1 h2 k2.2, hb.cell k3.1 h3 k3.2, hb.cell k4.1 h4 k4.2, hb.cell k5.1 h5 k5.2, hb.cell k5.1 h6 k5.2, hb.cell k6.1 h7 k6.2, hb.cell k7.1 h8 k7.2, hb.cell k7.1 h9 k7.2⟩

set_option maxRecDepth 100000 in
set_option maxHeartbeats 8000000 in
theorem treeClos_any (bl bp bs bi bt gs gt d p p0 p1 S : Nat) (v0 v1 : Value) (f0 f1 : Nat → List Br) (w : World) (hS : S < 4294967296)
    (hC : Caps w bl bp bs bi bt gs gt d p p0 p1 v0 v1) {B0 B1 : Nat} (h0 : TreeV w B0 v0 f0) (h1 : TreeV w B1 v1 f1) (l0 : ∀ T, (f0 T).length ≤ 100) (l1 : ∀ T, (f1 T).length ≤ 100) :
    Calls Try.prog 94 #[.int .i64 (S : Int), .pointer (some ⟨bl, 0, none⟩), .pointer (some ⟨bp, 0, none⟩), .pointer (some ⟨bs, 0, none⟩), .pointer (some ⟨bi, 0, none⟩), .pointer (some ⟨bt, 0, none⟩)] w
      fun e w' => ∃ q, e = .returned q ∧ OwnsE w' w.heap.size q (sideU f0 p p0 d 1 (loS S d) ++ sideU f1 p p1 d 0 (hiS S d)) ∧ Below w.heap.size w w' := by
  obtain ⟨i0, hi0, hz0, hz1, hz2⟩ := info_parts infoBr
  have HF := Lib.hid (fun w => forkLoads_any w)
  have HB := Lib.hid (fun w => breakLoad_any S d w hS)
  have HM := Lib.hid (fun w => makeLoad_any S d w hS)
  have HC := Lib.hid hC
  obtain ⟨F0, caps0, rfl, hF0, hT0⟩ := h0
  obtain ⟨F1, caps1, rfl, hF1, hT1'⟩ := h1
  have HT0 := Lib.hid hT0
  have HT1 := Lib.hid hT1'
  have L0 := Lib.hid l0
  have L1 := Lib.hid l1
  have hlo := Lib.hid (loS_lt hS d)
  have hhi := Lib.hid (hiS_lt hS d)
  have hE0 : ∀ (args : Array Value) (w : World), (callFunc 106 args).run Try.prog w = .ok (.enter 106 args) w := enters_of Try.func106 (by kernel_rfl) rfl
  have hE1 : ∀ (args : Array Value) (w : World), (callFunc 107 args).run Try.prog w = .ok (.enter 107 args) w := enters_of Try.func107 (by kernel_rfl) rfl
  obtain ⟨s0, hs0⟩ : ∃ s0, sideU f0 p p0 d 1 (loS S d) = s0 := ⟨_, rfl⟩
  obtain ⟨s1, hs1⟩ : ∃ s1, sideU f1 p p1 d 0 (hiS S d) = s1 := ⟨_, rfl⟩
  have HS0 : Hid ((loS S d = 0 → s0 = []) ∧ (loS S d ≠ 0 → s0 = ⟨p, p0, d, 1, loS S d⟩ :: f0 (loS S d))) := ⟨fun h => by rw [← hs0, sideU_none h], fun h => by rw [← hs0, sideU_some h]⟩
  have HS1 : Hid ((hiS S d = 0 → s1 = []) ∧ (hiS S d ≠ 0 → s1 = ⟨p, p1, d, 0, hiS S d⟩ :: f1 (hiS S d))) := ⟨fun h => by rw [← hs1, sideU_none h], fun h => by rw [← hs1, sideU_some h]⟩
  have hsl0 : s0.length ≤ 101 := by rw [← hs0]; unfold sideU; split <;> simp [l0]
  have HSL := Lib.hid hsl0
  rw [hs0, hs1]
  clear hC hT0 hT1' l0 l1 hs0 hs1 hS hsl0
  generalize loS S d = T0 at *
  generalize hiS S d = T1 at *
  go_enter Try.func94, Try.ntmps94
  go_wp2_with (go_at_call 95; (with_reducible refine (HF.out _).mono ?_); rintro e w1 ⟨g, rfl, hg0, hg1, hL⟩)
  have hz1' := hL.size
  go_loopw [8, 14] (fun r c wr => ∃ k : Nat, k ≤ 2 ∧ c = .int .i64 (k : Int) ∧ Below w1.heap.size w1 wr ∧ OwnsE wr w1.heap.size r (if k = 0 then [] else if k = 1 then s0 else s0 ++ s1)) (fun _ c _ => 2 - (intOf c).toNat)
  case atStart => exact ⟨0, by omega, rfl, Below.refl _ _, ownsENil _ _⟩
  case round =>
    obtain ⟨k, hk, rfl, hL1, ho⟩ := hrel
    have hC := HC.out.keep (hL.trans (hL1.mono hz1'))
    obtain ⟨c1, c2, c3, c4, c5, c6, c7, c8, c9⟩ := hC
    have hg0' := cell_later hL1 hg0
    have hg1' := cell_later hL1 hg1
    rcases (show k = 0 ∨ k = 1 ∨ k = 2 by omega) with rfl | rfl | rfl
    · obtain ⟨LL, hLL⟩ : ∃ LL : List Br, LL = [] := ⟨_, rfl⟩
      simp only [if_true] at ho
      rw [← hLL] at ho
      have HLL := Lib.hid hLL
      have HLn : Hid (LL.length ≤ 101) := by unfold Hid; rw [hLL]; simp
      clear hLL
      have HO := Lib.hid ho
      obtain ⟨ra, rc, rfl, hrl, _⟩ := ho.rd
      have hsz1 := hL1.size
      have hfrom := Lib.hid ho.from
      clear ho hrl
      by_cases hT : T0 = 0
      · have hT1 : ((T0 : Int) == 0) = true := by rw [beq_iff_eq]; omega
        have he := Lib.hid (HS0.out.1 hT)
        clear hT
        go_wp2_with (go_at_call 106; (with_reducible refine (HB.out _).mono ?_); rintro e w2 ⟨rfl, hb⟩; have hL2 := chain (B := w1.heap.size) (a := w1) (by go_grown) (Nat.le_refl _) hb)
        exact ⟨⟨0 + 1, by omega, by go_num, hL2, by rw [if_neg (by decide), if_pos rfl, he.out, ← HLL.out]; exact (HO.out.keep (by go_grown)).keep hb⟩, by simp [intOf]⟩
      · have hT1 : ((T0 : Int) == 0) = false := by rw [beq_eq_false_iff_ne]; omega
        have he := Lib.hid (HS0.out.2 hT)
        clear hT
        go_wp2_with (go_at_call 106; (with_reducible refine (HB.out _).mono ?_); rintro e w2 ⟨rfl, hb⟩; have hL2 := chain (B := w1.heap.size) (a := w1) (by go_grown) (Nat.le_refl _) hb; replace c2 := cell_later hb c2; replace c3 := cell_later hb c3; replace c4 := cell_later hb c4; replace c5 := cell_later hb c5; replace c6 := cell_later hb c6; have hz2' := hb.size; have HO2 := Lib.hid (HO.out.keep hb))
        have HB2 := Lib.hid hb
        clear hb
        go_cut [8] (fun v8 wx => ∃ gv cap2, v8 = .slice (some ⟨gv, 0, none⟩) (LL.length + 1) cap2 ∧ Hid (Below w1.heap.size w1 wx) ∧ Hid (OwnsE wx w1.heap.size v8 (LL ++ [⟨p, p0, d, 1, T0⟩])))
        case first =>
          go_region_law (refine step_append_lies _ (by rfl) _ _ 72 (by rfl) w1.heap.size 103 i0 (.agg #[.int .i64 0, .int .i64 0, .int .i64 0, .int .i64 0, .int .i64 0]) 5 40 Try.underlying72 hi0 hz0 hz1 hz2 (by rfl) (by decide) (.slice ra LL.length rc) LL.length (cellsE LL) (by rfl) (World.ownsRow.drew (World.ownsRow.alloc HO2.out _)) ⟨w2.heap.size, 0, none⟩ 1 1 [.int .i64 (p : Int), .int .i64 (p0 : Int), .int .i64 (d : Int), .int .i64 1, .int .i64 (T0 : Int)] (by rfl) (by rfl) (newBr w2 _ _ _ _ _ _) (by simp [Value.oneCell']) (by decide) (by have := HLn.out; unfold maxLen; omega) (by have := HLn.out; omega) (by simp; omega) (w2.heap.size + 1) (by simp) ?_; intro gv cap2 w3 hown hgrow_ hat hlt3; have hL3 := (hL2.alloc (by omega) (.cells #[.int .i64 (p : Int), .int .i64 (p0 : Int), .int .i64 (d : Int), .int .i64 1, .int .i64 (T0 : Int)] 103)).grown ⟨hgrow_.os, hgrow_.tape, hgrow_.output, hgrow_.size, hgrow_.block⟩ (by simp; omega) hfrom.out; have HO3 : Hid (OwnsE w3 w1.heap.size _ (LL ++ [⟨p, p0, d, 1, T0⟩])) := OwnsE.snoc hown; clear hown hgrow_ hat)
          all_goals (go_wp2_with fail; go_meet; exact ⟨_, _, rfl, hL3, HO3.out⟩)
        case rest =>
        obtain ⟨gv, cap2, rfl, hL3, HO3⟩ := hcut
        have hz3 := hL3.out.size
        have HB3 := Lib.hid (hL.trans (hL3.out.mono hz1'))
        obtain ⟨_, _, _, _, _, _, d7, d8, d9⟩ := HC.out.keep HB3.out
        clear c1 c2 c3 c4 c5 c6 c7 c8 c9
        generalize (Value.slice (some ⟨gv, 0, none⟩) (LL.length + 1) cap2) = v3 at *
        go_wp2_with (first | ((with_reducible refine (HT0.out T0 _ hlo.out (Agr2.of HB3.out)).mono ?_); rintro e w4 ⟨q, rfl, hq, hb4⟩; have HO4 := HO3.out.keep hb4; have hL4 := chain hL3.out (Nat.le_refl _) hb4; have hz4 := hb4.size; obtain ⟨v5, w5, hr5, hown5, hgr5, hat5⟩ := run_append_two (P := Try.prog) (w := w4) w1.heap.size wc.heap.size 72 72 103 i0 _ 5 40 Try.underlying72 hi0 hz0 hz1 hz2 (by rfl) (by decide) _ _ _ _ _ _ HO4 hq (cellsE_one _) (by have := HLn.out; have := L0.out T0; rw [List.length_append, List.length_singleton]; unfold maxLen; omega) (by have := HLn.out; have := L0.out T0; rw [List.length_append, List.length_singleton]; omega) (by omega); have hL5 := hL4.grown ⟨hgr5.os, hgr5.tape, hgr5.output, hgr5.size, hgr5.block⟩ (by omega) HO4.from; have HO5 := Lib.hid (OwnsE.joined hown5); clear hown5 hgr5 hat5 hq HO4 hb4) | (at_builtin; refine Lib.wpList_append_run _ rfl _ _ _ _ rfl _ _ rfl rfl _ _ hr5 ?_))
        exact ⟨⟨0 + 1, by omega, by go_num, hL5, by rw [if_neg (by decide), if_pos rfl, he.out]; have := HO5.out; rw [HLL.out] at this; exact this⟩, by simp [intOf]⟩
    · simp only [show ¬ (1 = 0) by decide, if_false, if_true] at ho
      have HO := Lib.hid ho
      obtain ⟨ra, rc, rfl, hrl, _⟩ := ho.rd
      have hsz1 := hL1.size
      have hfrom := Lib.hid ho.from
      clear ho hrl
      by_cases hT : T1 = 0
      · have hT1 : ((T1 : Int) == 0) = true := by rw [beq_iff_eq]; omega
        have he := Lib.hid (HS1.out.1 hT)
        clear hT
        go_wp2_with (go_at_call 107; (with_reducible refine (HM.out _).mono ?_); rintro e w2 ⟨rfl, hb⟩; have hL2 := chain (B := w1.heap.size) (a := w1) (by go_grown) (Nat.le_refl _) hb)
        exact ⟨⟨1 + 1, by omega, by go_num, hL2, by rw [if_neg (by decide), if_neg (by decide), he.out, List.append_nil]; exact (HO.out.keep (by go_grown)).keep hb⟩, by simp [intOf]⟩
      · have hT1 : ((T1 : Int) == 0) = false := by rw [beq_eq_false_iff_ne]; omega
        have he := Lib.hid (HS1.out.2 hT)
        clear hT
        go_wp2_with (go_at_call 107; (with_reducible refine (HM.out _).mono ?_); rintro e w2 ⟨rfl, hb⟩; have hL2 := chain (B := w1.heap.size) (a := w1) (by go_grown) (Nat.le_refl _) hb; replace c2 := cell_later hb c2; replace c3 := cell_later hb c3; replace c4 := cell_later hb c4; replace c5 := cell_later hb c5; replace c6 := cell_later hb c6; have hz2' := hb.size; have HO2 := Lib.hid (HO.out.keep hb))
        have HB2 := Lib.hid hb
        clear hb
        go_cut [8] (fun v8 wx => ∃ gv cap2, v8 = .slice (some ⟨gv, 0, none⟩) (s0.length + 1) cap2 ∧ Hid (Below w1.heap.size w1 wx) ∧ Hid (OwnsE wx w1.heap.size v8 (s0 ++ [⟨p, p1, d, 0, T1⟩])))
        case first =>
          go_region_law (refine step_append_lies _ (by rfl) _ _ 72 (by rfl) w1.heap.size 103 i0 (.agg #[.int .i64 0, .int .i64 0, .int .i64 0, .int .i64 0, .int .i64 0]) 5 40 Try.underlying72 hi0 hz0 hz1 hz2 (by rfl) (by decide) (.slice ra s0.length rc) s0.length (cellsE s0) (by rfl) (World.ownsRow.drew (World.ownsRow.alloc HO2.out _)) ⟨w2.heap.size, 0, none⟩ 1 1 [.int .i64 (p : Int), .int .i64 (p1 : Int), .int .i64 (d : Int), .int .i64 0, .int .i64 (T1 : Int)] (by rfl) (by rfl) (newBr w2 _ _ _ _ _ _) (by simp [Value.oneCell']) (by decide) (by have := HSL.out; unfold maxLen; omega) (by have := HSL.out; omega) (by simp; omega) (w2.heap.size + 1) (by simp) ?_; intro gv cap2 w3 hown hgrow_ hat hlt3; have hL3 := (hL2.alloc (by omega) (.cells #[.int .i64 (p : Int), .int .i64 (p1 : Int), .int .i64 (d : Int), .int .i64 0, .int .i64 (T1 : Int)] 103)).grown ⟨hgrow_.os, hgrow_.tape, hgrow_.output, hgrow_.size, hgrow_.block⟩ (by simp; omega) hfrom.out; have HO3 : Hid (OwnsE w3 w1.heap.size _ (s0 ++ [⟨p, p1, d, 0, T1⟩])) := OwnsE.snoc hown; clear hown hgrow_ hat)
          all_goals (go_wp2_with fail; go_meet; exact ⟨_, _, rfl, hL3, HO3.out⟩)
        case rest =>
        obtain ⟨gv, cap2, rfl, hL3, HO3⟩ := hcut
        have hz3 := hL3.out.size
        have HB3 := Lib.hid (hL.trans (hL3.out.mono hz1'))
        obtain ⟨_, _, _, _, _, _, d7, d8, d9⟩ := HC.out.keep HB3.out
        clear c1 c2 c3 c4 c5 c6 c7 c8 c9
        generalize (Value.slice (some ⟨gv, 0, none⟩) (s0.length + 1) cap2) = v3 at *
        go_wp2_with (first | ((with_reducible refine (HT1.out T1 _ hhi.out (Agr2.of HB3.out)).mono ?_); rintro e w4 ⟨q, rfl, hq, hb4⟩; have HO4 := HO3.out.keep hb4; have hL4 := chain hL3.out (Nat.le_refl _) hb4; have hz4 := hb4.size; obtain ⟨v5, w5, hr5, hown5, hgr5, hat5⟩ := run_append_two (P := Try.prog) (w := w4) w1.heap.size wc.heap.size 72 72 103 i0 _ 5 40 Try.underlying72 hi0 hz0 hz1 hz2 (by rfl) (by decide) _ _ _ _ _ _ HO4 hq (cellsE_one _) (by have := HSL.out; have := L1.out T1; rw [List.length_append, List.length_singleton]; unfold maxLen; omega) (by have := HSL.out; have := L1.out T1; rw [List.length_append, List.length_singleton]; omega) (by omega); have hL5 := hL4.grown ⟨hgr5.os, hgr5.tape, hgr5.output, hgr5.size, hgr5.block⟩ (by omega) HO4.from; have HO5 := Lib.hid (OwnsE.joined hown5); clear hown5 hgr5 hat5 hq HO4 hb4) | (at_builtin; refine Lib.wpList_append_run _ rfl _ _ _ _ rfl _ _ rfl rfl _ _ hr5 ?_))
        exact ⟨⟨1 + 1, by omega, by go_num, hL5, by rw [if_neg (by decide), if_neg (by decide), he.out]; have := HO5.out; rw [List.append_assoc] at this; exact this⟩, by simp [intOf]⟩
    · simp only [show ¬ (2 = 0) by decide, show ¬ (2 = 1) by decide, if_false] at ho
      go_wp2_with fail
      go_ret
      exact ⟨_, rfl, ho.monoB hz1', hL.trans (hL1.mono hz1')⟩

end Go.Proofs.Ytbliibcfnfgdmaa
