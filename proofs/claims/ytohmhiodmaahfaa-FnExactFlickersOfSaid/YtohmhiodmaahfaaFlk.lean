/- Flickers: one change, the program's. -/
import Derived.Test.YtohmhiodmaahfaaGap
namespace Go.Proofs.Ytohmhiodmaahfaa
open Go.RowKit
set_option linter.unusedVariables false

/-- what the first four cells of a block hold -/
abbrev C4 (w : World) (b : Nat) (x y z u : Value) : Prop := (w.cell? ⟨b, 0, none⟩ = some x ∧ w.cell? ⟨b, 1, none⟩ = some y ∧ w.cell? ⟨b, 2, none⟩ = some z ∧ w.cell? ⟨b, 3, none⟩ = some u) ∧ b < w.heap.size
theorem C4.here (w : World) (x y z u : Value) (t : TypeId) : C4 (w.alloc (.cells #[x, y, z, u] t)) w.heap.size x y z u :=
  ⟨⟨by rw [World.cell?_alloc_at _ _ _ _ rfl]; rfl, by rw [World.cell?_alloc_at _ _ _ _ rfl]; rfl, by rw [World.cell?_alloc_at _ _ _ _ rfl]; rfl, by rw [World.cell?_alloc_at _ _ _ _ rfl]; rfl⟩, by simp⟩
theorem C4.keep {w w' : World} {b : Nat} {x y z u : Value} (h : C4 w b x y z u) (hb : Below w.heap.size w w') : C4 w' b x y z u := by
  obtain ⟨⟨h0, h1, h2, h3⟩, hz⟩ := h
  have := hb.size
  exact ⟨⟨(hb.cell (p := ⟨b, 0, none⟩) hz).trans h0, (hb.cell (p := ⟨b, 1, none⟩) hz).trans h1, (hb.cell (p := ⟨b, 2, none⟩) hz).trans h2, (hb.cell (p := ⟨b, 3, none⟩) hz).trans h3⟩, by omega⟩
theorem keepAt4 {w w' : World} {b : Nat} {x y z u : Value} (hb : Below w.heap.size w w') (h : C4 w b x y z u) : C4 w' b x y z u := h.keep hb
theorem C4.alloc {w : World} {b : Nat} {x y z u : Value} (h : C4 w b x y z u) (o : Obj) : C4 (w.alloc o) b x y z u := h.keep ((Below.refl _ _).alloc (Nat.le_refl _) o)

/-- what the first two cells of a block hold -/
abbrev F2 (w : World) (b : Nat) (x y : Value) : Prop := (w.cell? ⟨b, 0, none⟩ = some x ∧ w.cell? ⟨b, 1, none⟩ = some y) ∧ b < w.heap.size
theorem F2.here (w : World) (x y : Value) (t : TypeId) : F2 (w.alloc (.cells #[x, y] t)) w.heap.size x y :=
  ⟨⟨by rw [World.cell?_alloc_at _ _ _ _ rfl]; rfl, by rw [World.cell?_alloc_at _ _ _ _ rfl]; rfl⟩, by simp⟩
theorem keepAt2 {w w' : World} {b : Nat} {x y : Value} (hb : Below w.heap.size w w') (h : F2 w b x y) : F2 w' b x y := by
  obtain ⟨⟨h0, h1⟩, hz⟩ := h
  have := hb.size
  exact ⟨⟨(hb.cell (p := ⟨b, 0, none⟩) hz).trans h0, (hb.cell (p := ⟨b, 1, none⟩) hz).trans h1⟩, by omega⟩

/-- the flicker of a change: its kind, and whether there is one; the values in the two rows, the gap and the bridge -/
def fl1 (lo hi ga : Int) : Bool := decide (ga = 0 ∧ lo ≠ 0 ∧ hi ≠ 0)
def fl2 (lo hi br : Int) : Bool := decide (br = 1 ∧ lo ≠ 1 ∧ hi ≠ 1)
def flk (lo hi ga br : Int) : Int × Bool := if fl1 lo hi ga = true then (0, true) else if fl2 lo hi br = true then (1, true) else (0, false)
theorem flk_one {lo hi ga : Int} (br : Int) (h : fl1 lo hi ga = true) : flk lo hi ga br = (0, true) := if_pos h
theorem flk_two {lo hi ga br : Int} (h : fl1 lo hi ga = false) (h2 : fl2 lo hi br = true) : flk lo hi ga br = (1, true) := by unfold flk; rw [if_neg (by rw [h]; decide), if_pos h2]
theorem flk_none {lo hi ga br : Int} (h : fl1 lo hi ga = false) (h2 : fl2 lo hi br = false) : flk lo hi ga br = (0, false) := by unfold flk; rw [if_neg (by rw [h]; decide), if_neg (by rw [h2]; decide)]

set_option maxRecDepth 100000 in
set_option maxHeartbeats 4000000 in
theorem flickerOf_of (A B C D : Value) (lo hi ga br : Int) (hl : lo = 0 ∨ lo = 1) (hh : hi = 0 ∨ hi = 1) (hg : ga = 0 ∨ ga = 1) (hb : br = 0 ∨ br = 1) (w : World)
    (h1 : ∀ wx, Below w.heap.size w wx → Calls Try.prog 63 #[.agg #[A, B, C, D]] wx fun e w' => e = .returned (.int .i64 lo) ∧ Below wx.heap.size wx w')
    (h2 : ∀ wx, Below w.heap.size w wx → Calls Try.prog 64 #[.agg #[A, B, C, D]] wx fun e w' => e = .returned (.int .i64 hi) ∧ Below wx.heap.size wx w')
    (h3 : ∀ wx, Below w.heap.size w wx → Calls Try.prog 27 #[.agg #[A, B, C, D]] wx fun e w' => e = .returned (.int .i64 ga) ∧ Below wx.heap.size wx w')
    (h4 : ∀ wx, Below w.heap.size w wx → Calls Try.prog 28 #[.agg #[A, B, C, D]] wx fun e w' => e = .returned (.int .i64 br) ∧ Below wx.heap.size wx w') :
    Calls Try.prog 58 #[.agg #[A, B, C, D]] w fun e w' => e = .returned (.tuple #[.int .i64 (flk lo hi ga br).1, .bool (flk lo hi ga br).2]) ∧ Below w.heap.size w w' := by
  have H1 := Lib.hid h1
  have H2 := Lib.hid h2
  have H3 := Lib.hid h3
  have H4 := Lib.hid h4
  have hE1 : ∀ (args : Array Value) (w : World), (callFunc 27 args).run Try.prog w = .ok (.enter 27 args) w := enters_of Try.func27 (by kernel_rfl) rfl
  have hE2 : ∀ (args : Array Value) (w : World), (callFunc 28 args).run Try.prog w = .ok (.enter 28 args) w := enters_of Try.func28 (by kernel_rfl) rfl
  have HL := Lib.hid hl
  have HH := Lib.hid hh
  have HG := Lib.hid hg
  have HB := Lib.hid hb
  clear h1 h2 h3 h4 hl hh hg hb
  go_enter Try.func58, Try.ntmps58
  go_wp2_with fail
  have hL : Below w.heap.size w ((w.alloc (.cells #[A, B, C, D] 48)).alloc (.cells #[.func (.func 27) #[] #[], .func (.func 28) #[] #[]] 42)) := ((Below.refl _ _).alloc (Nat.le_refl _) _).alloc (by simp) _
  have k4 := (C4.here w A B C D 48).alloc (.cells #[.func (.func 27) #[] #[], .func (.func 28) #[] #[]] 42)
  have kf : F2 ((w.alloc (.cells #[A, B, C, D] 48)).alloc (.cells #[.func (.func 27) #[] #[], .func (.func 28) #[] #[]] 42)) (w.heap.size + 1) (.func (.func 27) #[] #[]) (.func (.func 28) #[] #[]) := by simpa using F2.here (w.alloc (.cells #[A, B, C, D] 48)) (.func (.func 27) #[] #[]) (.func (.func 28) #[] #[]) 42
  go_loopw [9] (fun c wr => ∃ k : Nat, c = .int .i64 (k : Int) ∧ Hid (k = 0 ∨ (k = 1 ∧ fl1 lo hi ga = false) ∨ (k = 2 ∧ fl1 lo hi ga = false ∧ fl2 lo hi br = false)) ∧ Below w.heap.size w wr ∧ C4 wr w.heap.size A B C D ∧ F2 wr (w.heap.size + 1) (.func (.func 27) #[] #[]) (.func (.func 28) #[] #[])) (fun c _ => 2 - (intOf c).toNat)
  case atStart => exact ⟨0, rfl, .inl rfl, hL, k4, kf⟩
  case round =>
    clear hL k4 kf
    obtain ⟨k, rfl, HK, hL, k4, kf⟩ := hrel
    rcases HK.out with rfl | ⟨rfl, HF1⟩ | ⟨rfl, HF1, HF2⟩
    · clear HK
      rcases HG.out with rfl | rfl
      · rcases HL.out with rfl | rfl
        · have HN : Hid (fl1 0 hi 0 = false) := by unfold Hid fl1; simp
          go_wp2_with (first | (go_at_call 63; (with_reducible refine (H1.out _ (by first | exact hL | go_grown)).mono ?_); rintro e w1 ⟨rfl, hb⟩; replace hL := chain (B := w.heap.size) (a := w) (by go_grown) (Nat.le_refl _) hb; replace k4 := keepAt4 hb k4; replace kf := keepAt2 hb kf; clear hb) | (go_at_call 64; (with_reducible refine (H2.out _ (by first | exact hL | go_grown)).mono ?_); rintro e w1 ⟨rfl, hb⟩; replace hL := chain (B := w.heap.size) (a := w) (by go_grown) (Nat.le_refl _) hb; replace k4 := keepAt4 hb k4; replace kf := keepAt2 hb kf; clear hb) | (go_at_call 27; (with_reducible refine (H3.out _ (by first | exact hL | go_grown)).mono ?_); rintro e w1 ⟨rfl, hb⟩; replace hL := chain (B := w.heap.size) (a := w) (by go_grown) (Nat.le_refl _) hb; replace k4 := keepAt4 hb k4; replace kf := keepAt2 hb kf; clear hb) | (go_at_call 28; (with_reducible refine (H4.out _ (by first | exact hL | go_grown)).mono ?_); rintro e w1 ⟨rfl, hb⟩; replace hL := chain (B := w.heap.size) (a := w) (by go_grown) (Nat.le_refl _) hb; replace k4 := keepAt4 hb k4; replace kf := keepAt2 hb kf; clear hb))
          exact ⟨⟨1, by go_num, .inr (.inl ⟨rfl, HN.out⟩), hL, k4, kf⟩, by decide⟩
        · rcases HH.out with rfl | rfl
          · have HN : Hid (fl1 1 0 0 = false) := by unfold Hid fl1; simp
            go_wp2_with (first | (go_at_call 63; (with_reducible refine (H1.out _ (by first | exact hL | go_grown)).mono ?_); rintro e w1 ⟨rfl, hb⟩; replace hL := chain (B := w.heap.size) (a := w) (by go_grown) (Nat.le_refl _) hb; replace k4 := keepAt4 hb k4; replace kf := keepAt2 hb kf; clear hb) | (go_at_call 64; (with_reducible refine (H2.out _ (by first | exact hL | go_grown)).mono ?_); rintro e w1 ⟨rfl, hb⟩; replace hL := chain (B := w.heap.size) (a := w) (by go_grown) (Nat.le_refl _) hb; replace k4 := keepAt4 hb k4; replace kf := keepAt2 hb kf; clear hb) | (go_at_call 27; (with_reducible refine (H3.out _ (by first | exact hL | go_grown)).mono ?_); rintro e w1 ⟨rfl, hb⟩; replace hL := chain (B := w.heap.size) (a := w) (by go_grown) (Nat.le_refl _) hb; replace k4 := keepAt4 hb k4; replace kf := keepAt2 hb kf; clear hb) | (go_at_call 28; (with_reducible refine (H4.out _ (by first | exact hL | go_grown)).mono ?_); rintro e w1 ⟨rfl, hb⟩; replace hL := chain (B := w.heap.size) (a := w) (by go_grown) (Nat.le_refl _) hb; replace k4 := keepAt4 hb k4; replace kf := keepAt2 hb kf; clear hb))
            exact ⟨⟨1, by go_num, .inr (.inl ⟨rfl, HN.out⟩), hL, k4, kf⟩, by decide⟩
          · have HN : Hid (flk 1 1 0 br = (0, true)) := flk_one _ (by unfold fl1; simp)
            go_wp2_with (first | (go_at_call 63; (with_reducible refine (H1.out _ (by first | exact hL | go_grown)).mono ?_); rintro e w1 ⟨rfl, hb⟩; replace hL := chain (B := w.heap.size) (a := w) (by go_grown) (Nat.le_refl _) hb; replace k4 := keepAt4 hb k4; replace kf := keepAt2 hb kf; clear hb) | (go_at_call 64; (with_reducible refine (H2.out _ (by first | exact hL | go_grown)).mono ?_); rintro e w1 ⟨rfl, hb⟩; replace hL := chain (B := w.heap.size) (a := w) (by go_grown) (Nat.le_refl _) hb; replace k4 := keepAt4 hb k4; replace kf := keepAt2 hb kf; clear hb) | (go_at_call 27; (with_reducible refine (H3.out _ (by first | exact hL | go_grown)).mono ?_); rintro e w1 ⟨rfl, hb⟩; replace hL := chain (B := w.heap.size) (a := w) (by go_grown) (Nat.le_refl _) hb; replace k4 := keepAt4 hb k4; replace kf := keepAt2 hb kf; clear hb) | (go_at_call 28; (with_reducible refine (H4.out _ (by first | exact hL | go_grown)).mono ?_); rintro e w1 ⟨rfl, hb⟩; replace hL := chain (B := w.heap.size) (a := w) (by go_grown) (Nat.le_refl _) hb; replace k4 := keepAt4 hb k4; replace kf := keepAt2 hb kf; clear hb))
            go_ret2
            exact ⟨by rw [HN.out]; rfl, hL⟩
      · have HN : Hid (fl1 lo hi 1 = false) := by unfold Hid fl1; simp
        go_wp2_with (first | (go_at_call 63; (with_reducible refine (H1.out _ (by first | exact hL | go_grown)).mono ?_); rintro e w1 ⟨rfl, hb⟩; replace hL := chain (B := w.heap.size) (a := w) (by go_grown) (Nat.le_refl _) hb; replace k4 := keepAt4 hb k4; replace kf := keepAt2 hb kf; clear hb) | (go_at_call 64; (with_reducible refine (H2.out _ (by first | exact hL | go_grown)).mono ?_); rintro e w1 ⟨rfl, hb⟩; replace hL := chain (B := w.heap.size) (a := w) (by go_grown) (Nat.le_refl _) hb; replace k4 := keepAt4 hb k4; replace kf := keepAt2 hb kf; clear hb) | (go_at_call 27; (with_reducible refine (H3.out _ (by first | exact hL | go_grown)).mono ?_); rintro e w1 ⟨rfl, hb⟩; replace hL := chain (B := w.heap.size) (a := w) (by go_grown) (Nat.le_refl _) hb; replace k4 := keepAt4 hb k4; replace kf := keepAt2 hb kf; clear hb) | (go_at_call 28; (with_reducible refine (H4.out _ (by first | exact hL | go_grown)).mono ?_); rintro e w1 ⟨rfl, hb⟩; replace hL := chain (B := w.heap.size) (a := w) (by go_grown) (Nat.le_refl _) hb; replace k4 := keepAt4 hb k4; replace kf := keepAt2 hb kf; clear hb))
        exact ⟨⟨1, by go_num, .inr (.inl ⟨rfl, HN.out⟩), hL, k4, kf⟩, by decide⟩
    · replace HF1 := Lib.hid HF1
      clear HK
      rcases HB.out with rfl | rfl
      · have HN : Hid (fl2 lo hi 0 = false) := by unfold Hid fl2; simp
        go_wp2_with (first | (go_at_call 63; (with_reducible refine (H1.out _ (by first | exact hL | go_grown)).mono ?_); rintro e w1 ⟨rfl, hb⟩; replace hL := chain (B := w.heap.size) (a := w) (by go_grown) (Nat.le_refl _) hb; replace k4 := keepAt4 hb k4; replace kf := keepAt2 hb kf; clear hb) | (go_at_call 64; (with_reducible refine (H2.out _ (by first | exact hL | go_grown)).mono ?_); rintro e w1 ⟨rfl, hb⟩; replace hL := chain (B := w.heap.size) (a := w) (by go_grown) (Nat.le_refl _) hb; replace k4 := keepAt4 hb k4; replace kf := keepAt2 hb kf; clear hb) | (go_at_call 27; (with_reducible refine (H3.out _ (by first | exact hL | go_grown)).mono ?_); rintro e w1 ⟨rfl, hb⟩; replace hL := chain (B := w.heap.size) (a := w) (by go_grown) (Nat.le_refl _) hb; replace k4 := keepAt4 hb k4; replace kf := keepAt2 hb kf; clear hb) | (go_at_call 28; (with_reducible refine (H4.out _ (by first | exact hL | go_grown)).mono ?_); rintro e w1 ⟨rfl, hb⟩; replace hL := chain (B := w.heap.size) (a := w) (by go_grown) (Nat.le_refl _) hb; replace k4 := keepAt4 hb k4; replace kf := keepAt2 hb kf; clear hb))
        exact ⟨⟨2, by go_num, .inr (.inr ⟨rfl, HF1.out, HN.out⟩), hL, k4, kf⟩, by decide⟩
      · rcases HL.out with rfl | rfl
        · rcases HH.out with rfl | rfl
          · have HN : Hid (flk 0 0 ga 1 = (1, true)) := flk_two HF1.out (by unfold fl2; simp)
            go_wp2_with (first | (go_at_call 63; (with_reducible refine (H1.out _ (by first | exact hL | go_grown)).mono ?_); rintro e w1 ⟨rfl, hb⟩; replace hL := chain (B := w.heap.size) (a := w) (by go_grown) (Nat.le_refl _) hb; replace k4 := keepAt4 hb k4; replace kf := keepAt2 hb kf; clear hb) | (go_at_call 64; (with_reducible refine (H2.out _ (by first | exact hL | go_grown)).mono ?_); rintro e w1 ⟨rfl, hb⟩; replace hL := chain (B := w.heap.size) (a := w) (by go_grown) (Nat.le_refl _) hb; replace k4 := keepAt4 hb k4; replace kf := keepAt2 hb kf; clear hb) | (go_at_call 27; (with_reducible refine (H3.out _ (by first | exact hL | go_grown)).mono ?_); rintro e w1 ⟨rfl, hb⟩; replace hL := chain (B := w.heap.size) (a := w) (by go_grown) (Nat.le_refl _) hb; replace k4 := keepAt4 hb k4; replace kf := keepAt2 hb kf; clear hb) | (go_at_call 28; (with_reducible refine (H4.out _ (by first | exact hL | go_grown)).mono ?_); rintro e w1 ⟨rfl, hb⟩; replace hL := chain (B := w.heap.size) (a := w) (by go_grown) (Nat.le_refl _) hb; replace k4 := keepAt4 hb k4; replace kf := keepAt2 hb kf; clear hb))
            go_ret2
            exact ⟨by rw [HN.out]; rfl, hL⟩
          · have HN : Hid (fl2 0 1 1 = false) := by unfold Hid fl2; simp
            go_wp2_with (first | (go_at_call 63; (with_reducible refine (H1.out _ (by first | exact hL | go_grown)).mono ?_); rintro e w1 ⟨rfl, hb⟩; replace hL := chain (B := w.heap.size) (a := w) (by go_grown) (Nat.le_refl _) hb; replace k4 := keepAt4 hb k4; replace kf := keepAt2 hb kf; clear hb) | (go_at_call 64; (with_reducible refine (H2.out _ (by first | exact hL | go_grown)).mono ?_); rintro e w1 ⟨rfl, hb⟩; replace hL := chain (B := w.heap.size) (a := w) (by go_grown) (Nat.le_refl _) hb; replace k4 := keepAt4 hb k4; replace kf := keepAt2 hb kf; clear hb) | (go_at_call 27; (with_reducible refine (H3.out _ (by first | exact hL | go_grown)).mono ?_); rintro e w1 ⟨rfl, hb⟩; replace hL := chain (B := w.heap.size) (a := w) (by go_grown) (Nat.le_refl _) hb; replace k4 := keepAt4 hb k4; replace kf := keepAt2 hb kf; clear hb) | (go_at_call 28; (with_reducible refine (H4.out _ (by first | exact hL | go_grown)).mono ?_); rintro e w1 ⟨rfl, hb⟩; replace hL := chain (B := w.heap.size) (a := w) (by go_grown) (Nat.le_refl _) hb; replace k4 := keepAt4 hb k4; replace kf := keepAt2 hb kf; clear hb))
            exact ⟨⟨2, by go_num, .inr (.inr ⟨rfl, HF1.out, HN.out⟩), hL, k4, kf⟩, by decide⟩
        · have HN : Hid (fl2 1 hi 1 = false) := by unfold Hid fl2; simp
          go_wp2_with (first | (go_at_call 63; (with_reducible refine (H1.out _ (by first | exact hL | go_grown)).mono ?_); rintro e w1 ⟨rfl, hb⟩; replace hL := chain (B := w.heap.size) (a := w) (by go_grown) (Nat.le_refl _) hb; replace k4 := keepAt4 hb k4; replace kf := keepAt2 hb kf; clear hb) | (go_at_call 64; (with_reducible refine (H2.out _ (by first | exact hL | go_grown)).mono ?_); rintro e w1 ⟨rfl, hb⟩; replace hL := chain (B := w.heap.size) (a := w) (by go_grown) (Nat.le_refl _) hb; replace k4 := keepAt4 hb k4; replace kf := keepAt2 hb kf; clear hb) | (go_at_call 27; (with_reducible refine (H3.out _ (by first | exact hL | go_grown)).mono ?_); rintro e w1 ⟨rfl, hb⟩; replace hL := chain (B := w.heap.size) (a := w) (by go_grown) (Nat.le_refl _) hb; replace k4 := keepAt4 hb k4; replace kf := keepAt2 hb kf; clear hb) | (go_at_call 28; (with_reducible refine (H4.out _ (by first | exact hL | go_grown)).mono ?_); rintro e w1 ⟨rfl, hb⟩; replace hL := chain (B := w.heap.size) (a := w) (by go_grown) (Nat.le_refl _) hb; replace k4 := keepAt4 hb k4; replace kf := keepAt2 hb kf; clear hb))
          exact ⟨⟨2, by go_num, .inr (.inr ⟨rfl, HF1.out, HN.out⟩), hL, k4, kf⟩, by decide⟩
    · have HN : Hid (flk lo hi ga br = (0, false)) := flk_none HF1 HF2
      clear HK HF1 HF2
      go_wp2_with (first | (go_at_call 63; (with_reducible refine (H1.out _ (by first | exact hL | go_grown)).mono ?_); rintro e w1 ⟨rfl, hb⟩; replace hL := chain (B := w.heap.size) (a := w) (by go_grown) (Nat.le_refl _) hb; replace k4 := keepAt4 hb k4; replace kf := keepAt2 hb kf; clear hb) | (go_at_call 64; (with_reducible refine (H2.out _ (by first | exact hL | go_grown)).mono ?_); rintro e w1 ⟨rfl, hb⟩; replace hL := chain (B := w.heap.size) (a := w) (by go_grown) (Nat.le_refl _) hb; replace k4 := keepAt4 hb k4; replace kf := keepAt2 hb kf; clear hb) | (go_at_call 27; (with_reducible refine (H3.out _ (by first | exact hL | go_grown)).mono ?_); rintro e w1 ⟨rfl, hb⟩; replace hL := chain (B := w.heap.size) (a := w) (by go_grown) (Nat.le_refl _) hb; replace k4 := keepAt4 hb k4; replace kf := keepAt2 hb kf; clear hb) | (go_at_call 28; (with_reducible refine (H4.out _ (by first | exact hL | go_grown)).mono ?_); rintro e w1 ⟨rfl, hb⟩; replace hL := chain (B := w.heap.size) (a := w) (by go_grown) (Nat.le_refl _) hb; replace k4 := keepAt4 hb k4; replace kf := keepAt2 hb kf; clear hb))
      go_ret2
      exact ⟨by rw [HN.out]; rfl, hL⟩

end Go.Proofs.Ytohmhiodmaahfaa
