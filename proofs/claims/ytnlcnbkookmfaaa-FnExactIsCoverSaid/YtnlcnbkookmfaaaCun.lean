/- Which rows keep all rules together: the program's companyUnder. -/
import Derived.Test.YtnlcnbkookmfaaaAlw
import Derived.WalkMore
import Derived.Deep.RegionWith
namespace Go.Proofs.Ytnlcnbkookmfaaa
open Go.RowKit
set_option linter.unusedVariables false

/-- do two rows keep the rules -/
def Und (K : Nat → Int) (xss yss : List (List Int)) (n M a b : Nat) : Prop := a < n ∧ b < n ∧ ∀ c, c < M → out1 yss a b c = true ∧ fol1 K xss a b c = true
def UTo (K : Nat → Int) (xss yss : List (List Int)) (n M k j a b : Nat) : Prop := (a < k ∨ (a = k ∧ b < j)) ∧ Und K xss yss n M a b
theorem uTo_zero (K : Nat → Int) (xss yss : List (List Int)) (n M a b : Nat) : ¬ UTo K xss yss n M 0 0 a b := fun h => by have := h.1; omega
theorem uTo_all (K : Nat → Int) (xss yss : List (List Int)) (n M a b : Nat) : UTo K xss yss n M n 0 a b ↔ Und K xss yss n M a b :=
  ⟨fun h => h.2, fun h => ⟨.inl h.1, h⟩⟩
theorem uTo_row (K : Nat → Int) (xss yss : List (List Int)) (n M k a b : Nat) : UTo K xss yss n M k n a b ↔ UTo K xss yss n M (k + 1) 0 a b :=
  ⟨fun h => ⟨by have := h.1; omega, h.2⟩, fun h => ⟨by have := h.1; have := h.2.2.1; omega, h.2⟩⟩
theorem uTo_hit {K : Nat → Int} {xss yss : List (List Int)} {n M k j : Nat} (h : Und K xss yss n M k j) (a b : Nat) : (UTo K xss yss n M k j a b ∨ (a = k ∧ b = j)) ↔ UTo K xss yss n M k (j + 1) a b := by
  constructor
  · rintro (h1 | ⟨rfl, rfl⟩)
    · exact ⟨by have := h1.1; omega, h1.2⟩
    · exact ⟨by omega, h⟩
  · rintro ⟨h1, h2⟩
    by_cases e : a = k ∧ b = j
    · exact .inr e
    · exact .inl ⟨by omega, h2⟩
theorem uTo_miss {K : Nat → Int} {xss yss : List (List Int)} {n M k j : Nat} (h : ¬ Und K xss yss n M k j) (a b : Nat) : UTo K xss yss n M k j a b ↔ UTo K xss yss n M k (j + 1) a b := by
  constructor
  · rintro ⟨h1, h2⟩
    exact ⟨by omega, h2⟩
  · rintro ⟨h1, h2⟩
    refine ⟨?_, h2⟩
    by_cases e : a = k ∧ b = j
    · obtain ⟨rfl, rfl⟩ := e; exact absurd h2 h
    · omega

def rule1 (p : Int) (s1 s2 : Value) : Value := .iface 97 (.agg #[.int .i64 p, s1, s2])
def rule2 (p : Int) (s1 s2 : Value) (K : Nat → Int) : Value := .iface 99 (.agg #[.int .i64 p, s1, s2, .int .i64 (K 0), .int .i64 (K 1), .int .i64 (K 2), .int .i64 (K 3), .int .i64 (K 4), .int .i64 (K 5), .int .i64 (K 6), .int .i64 (K 7)])

set_option maxRecDepth 100000 in
set_option maxHeartbeats 1000000 in
theorem companyUnder_any (p : Int) (s1 s2 : Value) (xss yss : List (List Int)) (K : Nat → Int) (g : Nat) (w : World) (ha : ReadsH w (.agg #[.int .i64 p, s1, s2]) p xss yss) (hb : chaB p xss yss = true) (hK : ∀ i, 0 ≤ K i ∧ K i < 256)
    (r0 : w.cell? ⟨g, 0, none⟩ = some (rule1 p s1 s2)) (r1 : w.cell? ⟨g, 1, none⟩ = some (rule2 p s1 s2 K)) :
    Calls Try.prog 100 #[.agg #[.int .i64 p, s1, s2], .slice (some ⟨g, 0, none⟩) 2 2] w fun e w' => e = .returned (arrV (matZ (Und K xss yss xss.length p.toNat))) ∧ Below w.heap.size w w' := by
  have HRI := Lib.hid (fun w' (h : Below w.heap.size w w') => rowsIn_any _ p xss yss w' (ha.keep h))
  have HM1 := Lib.hid (fun (A B C : Nat) (hA : A < xss.length) (hB : B < xss.length) (hC : (C : Int) < p) w' (h : Below w.heap.size w w') => likeOutputs_any _ p xss yss A B C w' (ha.keep h) hb hA hB hC)
  have HM2 := Lib.hid (fun (A B C : Nat) (hA : A < xss.length) (hB : B < xss.length) (hC : (C : Int) < p) w' (h : Below w.heap.size w w') => likeFollowers_any p s1 s2 xss yss K A B C w' (ha.keep h) hb hK hA hB hC)
  obtain ⟨⟨n1, n8⟩, ⟨p1, p4⟩, -⟩ := chaB_out hb
  obtain ⟨M, rfl⟩ : ∃ M : Nat, p = (M : Int) := ⟨p.toNat, by omega⟩
  obtain ⟨a, ca, b', cb, e, _, _⟩ := ha
  simp only [Value.agg.injEq, Array.mk.injEq, List.cons.injEq, and_true, true_and] at e
  obtain ⟨rfl, rfl⟩ := e
  rw [Int.toNat_natCast]
  have hM4 : M ≤ 4 := by omega
  have h0 := ((C3.here w (.int .i64 (M : Int)) (.slice a xss.length ca) (.slice b' yss.length cb) 27).alloc (.cells (arrC fun _ => 0) 68)).alloc (.cells (arrC fun _ => 0) 68)
  have a1 := (Arr8.here (w.alloc (.cells #[.int .i64 (M : Int), .slice a xss.length ca, .slice b' yss.length cb] 27)) (fun _ => 0) 68).alloc (.cells (arrC fun _ => 0) 68)
  have a2 := Arr8.here ((w.alloc (.cells #[.int .i64 (M : Int), .slice a xss.length ca, .slice b' yss.length cb] 27)).alloc (.cells (arrC fun _ => 0) 68)) (fun _ => 0) 68
  simp only [World.size_alloc] at a1 a2
  have HZ : Hid (∀ i, i < 8 → (0 : Int) = matZ (UTo K xss yss xss.length M 0 0) i) := fun i _ => by
    unfold matZ; rw [rowN_congr (Q := fun _ => False) fun j _ => ⟨fun h => uTo_zero K xss yss xss.length M i j h, False.elim⟩, rowN_none]; rfl
  have A2 : Hid (Arr8 ((((w.alloc (.cells #[.int .i64 (M : Int), .slice a xss.length ca, .slice b' yss.length cb] 27)).alloc (.cells (arrC fun _ => 0) 68))).alloc (.cells (arrC fun _ => 0) 68)) (w.heap.size + 1 + 1) (matZ (UTo K xss yss xss.length M 0 0))) := a2.congr HZ.out
  have HALL : Hid (∀ i, matZ (UTo K xss yss xss.length M xss.length 0) i = matZ (Und K xss yss xss.length M) i) := fun i => matZ_congr fun j _ => uTo_all K xss yss xss.length M i j
  have HROW : Hid (∀ k i, matZ (UTo K xss yss xss.length M k xss.length) i = matZ (UTo K xss yss xss.length M (k + 1) 0) i) := fun k i => matZ_congr fun j _ => uTo_row K xss yss xss.length M k i j
  have HHIT : Hid (∀ k j, Und K xss yss xss.length M k j → ∀ i, matZ (fun a b => UTo K xss yss xss.length M k j a b ∨ (a = k ∧ b = j)) i = matZ (UTo K xss yss xss.length M k (j + 1)) i) := fun k j h i => matZ_congr fun b _ => uTo_hit h i b
  have HMISS : Hid (∀ k j, ¬ Und K xss yss xss.length M k j → ∀ i, matZ (UTo K xss yss xss.length M k j) i = matZ (UTo K xss yss xss.length M k (j + 1)) i) := fun k j h i => matZ_congr fun b _ => uTo_miss h i b
  have HUND : Hid (∀ a b, Und K xss yss xss.length M a b ↔ a < xss.length ∧ b < xss.length ∧ ∀ c, c < M → out1 yss a b c = true ∧ fol1 K xss a b c = true) := fun a b => Iff.rfl
  obtain ⟨r0_, e0⟩ : ∃ r, matZ (Und K xss yss xss.length M) 0 = r := ⟨_, rfl⟩
  obtain ⟨r1_, e1⟩ : ∃ r, matZ (Und K xss yss xss.length M) 1 = r := ⟨_, rfl⟩
  obtain ⟨r2_, e2⟩ : ∃ r, matZ (Und K xss yss xss.length M) 2 = r := ⟨_, rfl⟩
  obtain ⟨r3_, e3⟩ : ∃ r, matZ (Und K xss yss xss.length M) 3 = r := ⟨_, rfl⟩
  obtain ⟨r4_, e4⟩ : ∃ r, matZ (Und K xss yss xss.length M) 4 = r := ⟨_, rfl⟩
  obtain ⟨r5_, e5⟩ : ∃ r, matZ (Und K xss yss xss.length M) 5 = r := ⟨_, rfl⟩
  obtain ⟨r6_, e6⟩ : ∃ r, matZ (Und K xss yss xss.length M) 6 = r := ⟨_, rfl⟩
  obtain ⟨r7_, e7⟩ : ∃ r, matZ (Und K xss yss xss.length M) 7 = r := ⟨_, rfl⟩
  rw [show arrV (matZ (Und K xss yss xss.length M)) = .agg #[.int .i64 r0_, .int .i64 r1_, .int .i64 r2_, .int .i64 r3_, .int .i64 r4_, .int .i64 r5_, .int .i64 r6_, .int .i64 r7_] by unfold arrV; rw [e0, e1, e2, e3, e4, e5, e6, e7]]
  have E0 : Hid (matZ (Und K xss yss xss.length M) 0 = r0_) := e0
  have E1 : Hid (matZ (Und K xss yss xss.length M) 1 = r1_) := e1
  have E2 : Hid (matZ (Und K xss yss xss.length M) 2 = r2_) := e2
  have E3 : Hid (matZ (Und K xss yss xss.length M) 3 = r3_) := e3
  have E4 : Hid (matZ (Und K xss yss xss.length M) 4 = r4_) := e4
  have E5 : Hid (matZ (Und K xss yss xss.length M) 5 = r5_) := e5
  have E6 : Hid (matZ (Und K xss yss xss.length M) 6 = r6_) := e6
  have E7 : Hid (matZ (Und K xss yss xss.length M) 7 = r7_) := e7
  clear e0 e1 e2 e3 e4 e5 e6 e7
  clear hb HZ a2 hK p1 p4
  have R0 := Lib.hid r0
  have R1 := Lib.hid r1
  unfold arrC at h0 a1 A2
  generalize Und K xss yss xss.length M = UN at *
  generalize UTo K xss yss xss.length M = UT at *
  generalize hn : xss.length = n at *
  generalize yss.length = m at *
  clear hn r0 r1
  go_enter Try.func100, Try.ntmps100
  go_wp2_with (go_at_call 54; (with_reducible refine (HRI.out _ (by go_grown)).mono ?_); rintro e w' ⟨rfl, hb⟩; have hL := chain (B := w.heap.size) (a := w) (by go_grown) (Nat.le_refl _) hb; replace h0 := keepAt3 hb h0; replace a1 := Lib.hid (arr8At hb a1); replace A2 := Lib.hid (arr8At hb A2.out); clear hb)
  go_loopw [13] (fun c wr => ∃ k : Nat, k ≤ n ∧ c = .int .i64 (k : Int) ∧ Below w.heap.size w wr ∧ C3 wr w.heap.size (.int .i64 (M : Int)) (.slice a n ca) (.slice b' m cb) ∧ Hid (Arr8 wr (w.heap.size + 1) (fun _ => 0)) ∧ Hid (Arr8 wr (w.heap.size + 1 + 1) (matZ (UT k 0)))) (fun c _ => n - (intOf c).toNat)
  case atStart => exact ⟨0, Nat.zero_le _, rfl, hL, h0, a1, A2⟩
  case round =>
    clear hL h0 a1 A2
    obtain ⟨k, hk, rfl, hL, h0, a1, a2⟩ := hrel
    by_cases hkl : k < n
    · have hk1 : (k : Int) < (n : Int) := by omega
      have hk0 : (0 : Int) ≤ (k : Int) := by omega
      have hk8 : k < 8 := by omega
      have HROWk := Lib.hid (HROW.out k)
      go_wp2_with (go_at_call 54; (with_reducible refine (HRI.out _ (by go_grown)).mono ?_); rintro e w' ⟨rfl, hb⟩; replace hL := chain (B := w.heap.size) (a := w) hL (Nat.le_refl _) hb; replace h0 := keepAt3 hb h0; replace a1 := Lib.hid (arr8At hb a1.out); replace a2 := Lib.hid (arr8At hb a2.out); clear hb)
      go_step3
      go_wp2_with (go_at_call 54; (with_reducible refine (HRI.out _ (by go_grown)).mono ?_); rintro e w' ⟨rfl, hb⟩; replace hL := chain (B := w.heap.size) (a := w) hL (Nat.le_refl _) hb; replace h0 := keepAt3 hb h0; replace a1 := Lib.hid (arr8At hb a1.out); replace a2 := Lib.hid (arr8At hb a2.out); clear hb)
      go_step3
      go_wp2_with (go_at_call 54; (with_reducible refine (HRI.out _ (by go_grown)).mono ?_); rintro e w' ⟨rfl, hb⟩; replace hL := chain (B := w.heap.size) (a := w) hL (Nat.le_refl _) hb; replace h0 := keepAt3 hb h0; replace a1 := Lib.hid (arr8At hb a1.out); replace a2 := Lib.hid (arr8At hb a2.out); clear hb)
      go_loopw [18] (fun c wr => ∃ j : Nat, j ≤ n ∧ c = .int .i64 (j : Int) ∧ Below w.heap.size w wr ∧ C3 wr w.heap.size (.int .i64 (M : Int)) (.slice a n ca) (.slice b' m cb) ∧ Hid (Arr8 wr (w.heap.size + 1) (fun _ => 0)) ∧ Hid (Arr8 wr (w.heap.size + 1 + 1) (matZ (UT k j)))) (fun c _ => n - (intOf c).toNat)
      case atStart => exact ⟨0, Nat.zero_le _, rfl, hL, h0, a1, a2⟩
      case round =>
        clear hL h0 a1 a2
        obtain ⟨j, hj, rfl, hL, h0, a1, a2⟩ := hrel
        by_cases hjl : j < n
        · have hj1 : (j : Int) < (n : Int) := by omega
          have hj0 : (0 : Int) ≤ (j : Int) := by omega
          have HUk := Lib.hid (HUND.out k j)
          have HM1k := Lib.hid (fun C => HM1.out k j C hkl hjl)
          have HM2k := Lib.hid (fun C => HM2.out k j C hkl hjl)
          have HHk := Lib.hid (HHIT.out k j)
          have HMk := Lib.hid (HMISS.out k j)
          have hj8 : j < 8 := by omega
          go_wp2_with fail
          go_loopw [23] (fun c wr => ∃ i : Nat, i ≤ M ∧ c = .int .i64 (i : Int) ∧ Below w.heap.size w wr ∧ C3 wr w.heap.size (.int .i64 (M : Int)) (.slice a n ca) (.slice b' m cb) ∧ Hid (Arr8 wr (w.heap.size + 1) (fun _ => 0)) ∧ Hid (Arr8 wr (w.heap.size + 1 + 1) (matZ (UT k j))) ∧ Hid (∀ c, c < i → out1 yss k j c = true ∧ fol1 K xss k j c = true)) (fun c _ => M - (intOf c).toNat)
          case atStart => exact ⟨0, Nat.zero_le _, rfl, hL, h0, a1, a2, fun c hc => by omega⟩
          case round =>
            clear hL h0 a1 a2
            obtain ⟨i, hi, rfl, hL, h0, a1, a2, hS⟩ := hrel
            by_cases hil : i < M
            · have hi1 : (i : Int) < (M : Int) := by omega
              have hi0 : (0 : Int) ≤ (i : Int) := by omega
              have HO := Lib.hid (HM1k.out i hi1)
              have HFo := Lib.hid (HM2k.out i hi1)
              have HSN : Hid (out1 yss k j i = true → fol1 K xss k j i = true → ∀ c, c < i + 1 → out1 yss k j c = true ∧ fol1 K xss k j c = true) := fun h h' c hc => by
                rcases Nat.lt_or_ge c i with h2 | h2
                · exact hS.out c h2
                · have e : c = i := by omega
                  subst e; exact ⟨h, h'⟩
              have HNO : Hid (¬ (out1 yss k j i = true ∧ fol1 K xss k j i = true) → ¬ UN k j) := fun h hu => h ((HUk.out.1 hu).2.2 i hil)
              generalize out1 yss k j i = o1 at *
              generalize fol1 K xss k j i = o2 at *
              go_wp2_with fail
              go_loopw [28] (fun c wr => ∃ q : Nat, q ≤ 2 ∧ c = .int .i64 (q : Int) ∧ Below w.heap.size w wr ∧ C3 wr w.heap.size (.int .i64 (M : Int)) (.slice a n ca) (.slice b' m cb) ∧ Hid (Arr8 wr (w.heap.size + 1) (fun _ => 0)) ∧ Hid (Arr8 wr (w.heap.size + 1 + 1) (matZ (UT k j))) ∧ (1 ≤ q → o1 = true) ∧ (2 ≤ q → o2 = true)) (fun c _ => 2 - (intOf c).toNat)
              case atStart => exact ⟨0, Nat.zero_le _, rfl, hL, h0, a1, a2, fun h => by omega, fun h => by omega⟩
              case round =>
                clear hL h0 a1 a2
                obtain ⟨q, hq, rfl, hL, h0, a1, a2, t1, t2⟩ := hrel
                have hq3 : q = 0 ∨ q = 1 ∨ q = 2 := by omega
                rcases hq3 with rfl | rfl | rfl
                · have hc0 := cell_later hL R0.out
                  unfold rule1 at hc0
                  clear t1 t2
                  cases o1
                  · have hn' := Lib.hid (HMk.out (HNO.out (by simp)))
                    have a3 : Hid (Arr8 wr (w.heap.size + 1 + 1) (matZ (UT k (j + 1)))) := a2.out.congr fun i _ => hn'.out i
                    go_wp2_with fail
                    refine (HO.out _ hL).mono ?_
                    rintro e w2 ⟨rfl, hb⟩
                    replace hL := chain (B := w.heap.size) (a := w) hL (Nat.le_refl _) hb
                    replace h0 := keepAt3 hb h0
                    replace a1 := Lib.hid (arr8At hb a1.out)
                    replace a3 := Lib.hid (arr8At hb a3.out)
                    clear hb
                    go_wp2_with fail
                    exact ⟨⟨j + 1, by omega, by go_num, hL, h0, a1, a3⟩, by simp [intOf]; omega⟩
                  · go_wp2_with fail
                    refine (HO.out _ hL).mono ?_
                    rintro e w2 ⟨rfl, hb⟩
                    replace hL := chain (B := w.heap.size) (a := w) hL (Nat.le_refl _) hb
                    replace h0 := keepAt3 hb h0
                    replace a1 := Lib.hid (arr8At hb a1.out)
                    replace a2 := Lib.hid (arr8At hb a2.out)
                    clear hb
                    go_wp2_with fail
                    go_roundw
                    case rel => exact ⟨1, by omega, by go_num, hL, h0, a1, a2, fun _ => by first | rfl | trivial, fun h => by omega⟩
                    case measure => simp [intOf]
                · have hc0 := cell_later hL R1.out
                  unfold rule2 at hc0
                  have ho1 := t1 (by omega)
                  subst ho1
                  clear t1 t2
                  cases o2
                  · have hn' := Lib.hid (HMk.out (HNO.out (by simp)))
                    have a3 : Hid (Arr8 wr (w.heap.size + 1 + 1) (matZ (UT k (j + 1)))) := a2.out.congr fun i _ => hn'.out i
                    go_wp2_with fail
                    refine (HFo.out _ hL).mono ?_
                    rintro e w2 ⟨rfl, hb⟩
                    replace hL := chain (B := w.heap.size) (a := w) hL (Nat.le_refl _) hb
                    replace h0 := keepAt3 hb h0
                    replace a1 := Lib.hid (arr8At hb a1.out)
                    replace a3 := Lib.hid (arr8At hb a3.out)
                    clear hb
                    go_wp2_with fail
                    exact ⟨⟨j + 1, by omega, by go_num, hL, h0, a1, a3⟩, by simp [intOf]; omega⟩
                  · go_wp2_with fail
                    refine (HFo.out _ hL).mono ?_
                    rintro e w2 ⟨rfl, hb⟩
                    replace hL := chain (B := w.heap.size) (a := w) hL (Nat.le_refl _) hb
                    replace h0 := keepAt3 hb h0
                    replace a1 := Lib.hid (arr8At hb a1.out)
                    replace a2 := Lib.hid (arr8At hb a2.out)
                    clear hb
                    go_wp2_with fail
                    go_roundw
                    case rel => exact ⟨2, by omega, by go_num, hL, h0, a1, a2, fun _ => by first | rfl | trivial, fun _ => by first | rfl | trivial⟩
                    case measure => simp [intOf]
                · have ho1 := t1 (by omega)
                  have ho2 := t2 (by omega)
                  have HS' := Lib.hid (HSN.out ho1 ho2)
                  clear t1 t2
                  go_wp2_with fail
                  go_roundw
                  case rel => exact ⟨i + 1, by omega, by go_num, hL, h0, a1, a2, HS'⟩
                  case measure => simp [intOf]; omega
            · have e : i = M := by omega
              have hin : ¬ (i : Int) < (M : Int) := by omega
              have hu : UN k j := HUk.out.2 ⟨hkl, hjl, fun c hc => hS.out c (by omega)⟩
              have HH := Lib.hid (HHk.out hu)
              have hki1 : (k : Int) < 8 := by omega
              obtain ⟨c1, f1⟩ := a2.out.1 k hk8
              obtain ⟨V, hV⟩ : ∃ V, bits .or .i64 (matZ (UT k j) k) (IntKind.i64.wrap (2 ^ j)) = V := ⟨_, rfl⟩
              have HV : Hid (V = ((rowN (UT k j k) ||| 2 ^ j : Nat) : Int)) := by
                rw [Hid, ← hV, IntWalk.i64_left]
                exact or_walk (rowN (UT k j k)) j (by have := rowN_lt (UT k j k); omega) (by omega)
              have HA1 : Hid (∀ i, (if i = k then V else matZ (UT k j) i) = matZ (UT k (j + 1)) i) := fun i => by
                rw [HV.out, ← HH.out]; exact matZ_put _ hj8 i
              have a3 : Hid (Arr8 (wr.setCell ⟨w.heap.size + 1 + 1, k, none⟩ (.int .i64 V)) (w.heap.size + 1 + 1) (matZ (UT k (j + 1)))) := (a2.out.store hk8 V).congr fun i _ => HA1.out i
              have hg := a2.out.2
              generalize matZ (UT k j) k = S at *
              clear HV HA1 HH e hu
              go_wp2_with fail
              go_region_with fail
              all_goals go_wp2_with fail
              all_goals exact ⟨⟨j + 1, by omega, by go_num, by go_grown, h0.set _ _ _ (by omega), a1.out.set _ _ _ (by omega), a3.out⟩, by simp [intOf]; omega⟩
        · have e : j = n := by omega
          have hjn : ¬ (j : Int) < (n : Int) := by omega
          have a3 : Hid (Arr8 wr (w.heap.size + 1 + 1) (matZ (UT (k + 1) 0))) := a2.out.congr fun i _ => by rw [e]; exact HROWk.out i
          clear e a2
          go_wp2_with fail
          exact ⟨⟨k + 1, by omega, by go_num, hL, h0, a1, a3⟩, by simp [intOf]; omega⟩
    · have e : k = n := by omega
      have hkn : ¬ (k : Int) < (n : Int) := by omega
      have a3 : Hid (Arr8 wr (w.heap.size + 1 + 1) (matZ UN)) := a2.out.congr fun i _ => by rw [e]; exact HALL.out i
      obtain ⟨q0, q1, q2, q3, q4, q5, q6, q7⟩ := a3.out.cells
      rw [E0.out] at q0
      rw [E1.out] at q1
      rw [E2.out] at q2
      rw [E3.out] at q3
      rw [E4.out] at q4
      rw [E5.out] at q5
      rw [E6.out] at q6
      rw [E7.out] at q7
      have hg := a3.out.2
      obtain ⟨x0, x1, x2, x3, x4, x5, x6, x7⟩ := a1.out.cells
      have y0 := (a1.out.1 0 (by decide)).2
      have y1 := (a1.out.1 1 (by decide)).2
      have y2 := (a1.out.1 2 (by decide)).2
      have y3 := (a1.out.1 3 (by decide)).2
      have y4 := (a1.out.1 4 (by decide)).2
      have y5 := (a1.out.1 5 (by decide)).2
      have y6 := (a1.out.1 6 (by decide)).2
      have y7 := (a1.out.1 7 (by decide)).2
      clear e a2 a3 a1
      go_wp2_with fail
      refine bodyPost_ret (v := .agg #[.int .i64 r0_, .int .i64 r1_, .int .i64 r2_, .int .i64 r3_, .int .i64 r4_, .int .i64 r5_, .int .i64 r6_, .int .i64 r7_]) (by simp [results, Try.results100, go_sem, *]) rfl ?_
      exact ⟨rfl, by go_grown⟩

end Go.Proofs.Ytnlcnbkookmfaaa
