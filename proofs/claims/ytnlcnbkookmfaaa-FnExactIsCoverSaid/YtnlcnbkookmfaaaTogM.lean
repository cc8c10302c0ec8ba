/- Rows that go together: mathematics. -/
import Derived.Test.YtnlcnbkookmfaaaCun
namespace Go.Proofs.Ytnlcnbkookmfaaa
open Go.RowKit
set_option linter.unusedVariables false

/-- do two rows keep the rules where the rows that follow are told by R -/
def UndR (R : Nat → Nat → Prop) (xss yss : List (List Int)) (n M a b : Nat) : Prop :=
  a < n ∧ b < n ∧ ∀ c, c < M → out1 yss a b c = true ∧ (plZ xss a c = -1 ∨ plZ xss b c = -1 ∨ R (plZ xss a c).toNat (plZ xss b c).toNat)
/-- do two rows go together -/
def Tog (xss yss : List (List Int)) (n M a b : Nat) : Prop := ∃ R : Nat → Nat → Prop, (∀ x y, R x y → UndR R xss yss n M x y) ∧ R a b
/-- what the program knows behind t rounds -/
def Gt (xss yss : List (List Int)) (n M : Nat) : Nat → Nat → Nat → Prop
  | 0 => fun a b => a < 8 ∧ b < 8
  | t + 1 => Und (matZ (Gt xss yss n M t)) xss yss n M

theorem undR_mono {R S : Nat → Nat → Prop} {xss yss : List (List Int)} {n M : Nat} (h : ∀ x y, R x y → S x y) {a b : Nat} (hu : UndR R xss yss n M a b) : UndR S xss yss n M a b := by
  refine ⟨hu.1, hu.2.1, fun c hc => ⟨(hu.2.2 c hc).1, ?_⟩⟩
  rcases (hu.2.2 c hc).2 with h1 | h1 | h1
  · exact .inl h1
  · exact .inr (.inl h1)
  · exact .inr (.inr (h _ _ h1))
theorem tog_fix {xss yss : List (List Int)} {n M a b : Nat} (h : Tog xss yss n M a b) : UndR (Tog xss yss n M) xss yss n M a b := by
  obtain ⟨R, h1, h2⟩ := h
  exact undR_mono (fun x y hxy => ⟨R, h1, hxy⟩) (h1 a b h2)
theorem dig_mat {Q : Nat → Nat → Prop} {x y : Nat} (hy : y < 8) : digZ (matZ Q x) (y : Int) = 1 ↔ Q x y := by
  unfold digZ matZ
  rw [Int.toNat_natCast, Int.toNat_natCast, rowN_dig _ hy]
  cases e : bP (Q x y)
  · exact ⟨fun h => by simp at h, fun h => absurd h (bP_out e)⟩
  · exact ⟨fun _ => bP_iff.1 e, fun _ => rfl⟩
theorem und_iff {p : Int} {xss yss : List (List Int)} {n M : Nat} (hb : chaB p xss yss = true) (hn : xss.length = n) (hM : p = (M : Int)) (Q : Nat → Nat → Prop) (a b : Nat) : Und (matZ Q) xss yss n M a b ↔ UndR Q xss yss n M a b := by
  subst hn hM
  unfold Und UndR
  have hn8 := (chaB_out hb).1.2
  constructor
  · rintro ⟨h1, h2, h3⟩
    refine ⟨h1, h2, fun c hc => ⟨(h3 c hc).1, ?_⟩⟩
    have hf := (h3 c hc).2
    have b2 := nx_bd hb h2 (c := c) (by omega)
    unfold fol1 at hf
    rcases of_decide_eq_true hf with h4 | h4 | h4
    · exact .inl h4
    · exact .inr (.inl h4)
    · by_cases hz : plZ xss b c = -1
      · exact .inr (.inl hz)
      · right; right
        obtain ⟨Y, hY⟩ : ∃ Y : Nat, plZ xss b c = (Y : Int) := ⟨(plZ xss b c).toNat, by omega⟩
        rw [hY] at h4 b2 ⊢
        rw [Int.toNat_natCast]
        exact (dig_mat (by omega)).1 h4
  · rintro ⟨h1, h2, h3⟩
    refine ⟨h1, h2, fun c hc => ⟨(h3 c hc).1, ?_⟩⟩
    have b2 := nx_bd hb h2 (c := c) (by omega)
    unfold fol1
    refine decide_eq_true ?_
    rcases (h3 c hc).2 with h4 | h4 | h4
    · exact .inl h4
    · exact .inr (.inl h4)
    · by_cases hz : plZ xss b c = -1
      · exact .inr (.inl hz)
      · right; right
        obtain ⟨Y, hY⟩ : ∃ Y : Nat, plZ xss b c = (Y : Int) := ⟨(plZ xss b c).toNat, by omega⟩
        rw [hY] at h4 b2 ⊢
        rw [Int.toNat_natCast] at h4
        exact (dig_mat (by omega)).2 h4
theorem tog_gt {p : Int} {xss yss : List (List Int)} {n M : Nat} (hb : chaB p xss yss = true) (hn : xss.length = n) (hM : p = (M : Int)) (t : Nat) : ∀ a b, Tog xss yss n M a b → Gt xss yss n M t a b := by
  have hn8 := (chaB_out hb).1.2
  induction t with
  | zero => intro a b h; have := tog_fix h; exact ⟨by have := this.1; omega, by have := this.2.1; omega⟩
  | succ t ih => intro a b h; exact (und_iff hb hn hM _ a b).2 (undR_mono ih (tog_fix h))
theorem gt_tog {p : Int} {xss yss : List (List Int)} {n M : Nat} (hb : chaB p xss yss = true) (hn : xss.length = n) (hM : p = (M : Int)) {t : Nat} (h : ∀ a b, a < 8 → b < 8 → (Gt xss yss n M (t + 1) a b ↔ Gt xss yss n M t a b)) (a b : Nat) : Gt xss yss n M (t + 1) a b ↔ Tog xss yss n M a b := by
  have hn8 := (chaB_out hb).1.2
  refine ⟨fun h1 => ⟨Gt xss yss n M (t + 1), fun x y hxy => ?_, h1⟩, tog_gt hb hn hM _ a b⟩
  have hu := (und_iff hb hn hM _ x y).1 hxy
  refine ⟨hu.1, hu.2.1, fun c hc => ⟨(hu.2.2 c hc).1, ?_⟩⟩
  have b1 := nx_bd hb (r := x) (c := c) (by have := hu.1; omega) (by omega)
  have b2 := nx_bd hb (r := y) (c := c) (by have := hu.2.1; omega) (by omega)
  rcases (hu.2.2 c hc).2 with h4 | h4 | h4
  · exact .inl h4
  · exact .inr (.inl h4)
  · by_cases z1 : plZ xss x c = -1
    · exact .inl z1
    · by_cases z2 : plZ xss y c = -1
      · exact .inr (.inl z2)
      · right; right
        exact (h _ _ (by omega) (by omega)).2 h4
theorem tog_self {p : Int} {xss yss : List (List Int)} {n M : Nat} (hb : chaB p xss yss = true) (hn : xss.length = n) (hM : p = (M : Int)) {a : Nat} (ha : a < n) : Tog xss yss n M a a := by
  refine ⟨fun x y => x = y ∧ x < n, ?_, rfl, ha⟩
  rintro x y ⟨rfl, hx⟩
  refine ⟨hx, hx, fun c hc => ⟨by unfold out1; simp, ?_⟩⟩
  by_cases z : plZ xss x c = -1
  · exact .inl z
  · right; right
    have b1 := nx_bd hb (r := x) (c := c) (by omega) (by omega)
    exact ⟨rfl, by omega⟩
theorem gt_down {p : Int} {xss yss : List (List Int)} {n M : Nat} (hb : chaB p xss yss = true) (hn : xss.length = n) (hM : p = (M : Int)) (t : Nat) : ∀ a b, Gt xss yss n M (t + 1) a b → Gt xss yss n M t a b := by
  have hn8 := (chaB_out hb).1.2
  induction t with
  | zero => intro a b h; have := (und_iff hb hn hM _ a b).1 h; exact ⟨by have := this.1; omega, by have := this.2.1; omega⟩
  | succ t ih => intro a b h; exact (und_iff hb hn hM _ a b).2 (undR_mono ih ((und_iff hb hn hM _ a b).1 h))

/-- what the eight numbers add up to -/
def sumA (K : Nat → Int) : Nat := (K 0).toNat + (K 1).toNat + (K 2).toNat + (K 3).toNat + (K 4).toNat + (K 5).toNat + (K 6).toNat + (K 7).toNat
theorem rowN_le {P Q : Nat → Prop} (h : ∀ j, j < 8 → P j → Q j) : rowN P ≤ rowN Q := by
  have e : rowN P &&& rowN Q = rowN P := by
    refine Nat.eq_of_testBit_eq fun j => ?_
    rw [Nat.testBit_and, rowN_testBit, rowN_testBit]
    by_cases hj : j < 8
    · cases e : bP (P j)
      · simp
      · rw [bP_yes (h j hj (bP_iff.1 e))]; simp [hj]
    · simp [hj]
  rw [← e]; exact Nat.and_le_right
theorem matN (Q : Nat → Nat → Prop) (i : Nat) : (matZ Q i).toNat = rowN (Q i) := by unfold matZ; rw [Int.toNat_natCast]
theorem sum_lt {P Q : Nat → Nat → Prop} (h : ∀ i j, P i j → Q i j) (hne : eqA (matZ P) (matZ Q) = false) : sumA (matZ P) < sumA (matZ Q) := by
  unfold sumA
  simp only [matN]
  have l := fun i => rowN_le (P := P i) (Q := Q i) fun j _ => h i j
  have l0 := l 0; have l1 := l 1; have l2 := l 2; have l3 := l 3; have l4 := l 4; have l5 := l 5; have l6 := l 6; have l7 := l 7
  refine Classical.byContradiction fun hge => ?_
  have hh : eqA (matZ P) (matZ Q) = true := eqA_yes fun j hj => by
    have : j = 0 ∨ j = 1 ∨ j = 2 ∨ j = 3 ∨ j = 4 ∨ j = 5 ∨ j = 6 ∨ j = 7 := by omega
    unfold matZ
    rcases this with rfl | rfl | rfl | rfl | rfl | rfl | rfl | rfl <;> omega
  rw [hh] at hne; cases hne
theorem sum_pos {Q : Nat → Nat → Prop} (h : Q 0 0) : 0 < sumA (matZ Q) := by
  unfold sumA
  simp only [matN]
  have : 0 < rowN (Q 0) := by
    refine Nat.pos_of_ne_zero fun e => ?_
    have := congrArg (fun n => n.testBit 0) e
    simp only [rowN_testBit] at this
    rw [bP_yes h] at this
    simp at this
  omega
theorem sum_le (Q : Nat → Nat → Prop) : sumA (matZ Q) ≤ 2040 := by
  unfold sumA
  simp only [matN]
  have l := fun i => rowN_lt (Q i)
  have l0 := l 0; have l1 := l 1; have l2 := l 2; have l3 := l 3; have l4 := l 4; have l5 := l 5; have l6 := l 6; have l7 := l 7
  omega
theorem gt_zero (xss yss : List (List Int)) (n M : Nat) : ∀ i, i < 8 → matZ (Gt xss yss n M 0) i = 255 := fun i hi => by
  unfold matZ
  rw [rowN_congr (Q := fun _ => True) fun j hj => ⟨fun _ => trivial, fun _ => ⟨hi, hj⟩⟩, rowN_all]; rfl

/-- the sum of an array in memory -/
def cellI (w : World) (g i : Nat) : Nat := match w.cell? ⟨g, i, none⟩ with | some (.int _ x) => x.toNat | _ => 0
def sumW (w : World) : Value → Nat
  | .pointer (some ⟨g, _, _⟩) => cellI w g 0 + cellI w g 1 + cellI w g 2 + cellI w g 3 + cellI w g 4 + cellI w g 5 + cellI w g 6 + cellI w g 7
  | _ => 0
def measW (w : World) (v : Value) : Nat := if sumW w v = 0 then 3000 else sumW w v
theorem sumW_arr {w : World} {g : Nat} {K : Nat → Int} (h : Arr8 w g K) : sumW w (.pointer (some ⟨g, 0, none⟩)) = sumA K := by
  have e : ∀ i, i < 8 → cellI w g i = (K i).toNat := fun i hi => by unfold cellI; rw [(h.1 i hi).1]
  simp only [sumW, sumA]
  rw [e 0 (by decide), e 1 (by decide), e 2 (by decide), e 3 (by decide), e 4 (by decide), e 5 (by decide), e 6 (by decide), e 7 (by decide)]

/-- eight numbers laid into a block -/
def put8 (w : World) (g : Nat) (A : Nat → Int) : World :=
  (((((((w.setCell ⟨g, 0, none⟩ (.int .i64 (A 0))).setCell ⟨g, 1, none⟩ (.int .i64 (A 1))).setCell ⟨g, 2, none⟩ (.int .i64 (A 2))).setCell ⟨g, 3, none⟩ (.int .i64 (A 3))).setCell ⟨g, 4, none⟩ (.int .i64 (A 4))).setCell ⟨g, 5, none⟩ (.int .i64 (A 5))).setCell ⟨g, 6, none⟩ (.int .i64 (A 6))).setCell ⟨g, 7, none⟩ (.int .i64 (A 7))
theorem Arr8.put8 {w : World} {g : Nat} {K : Nat → Int} (h : Arr8 w g K) (A : Nat → Int) : Arr8 (put8 w g A) g A := by
  have h1 := (((((((h.store (k := 0) (by decide) (A 0)).store (k := 1) (by decide) (A 1)).store (k := 2) (by decide) (A 2)).store (k := 3) (by decide) (A 3)).store (k := 4) (by decide) (A 4)).store (k := 5) (by decide) (A 5)).store (k := 6) (by decide) (A 6)).store (k := 7) (by decide) (A 7)
  refine Arr8.congr h1 fun i hi => ?_
  have : i = 0 ∨ i = 1 ∨ i = 2 ∨ i = 3 ∨ i = 4 ∨ i = 5 ∨ i = 6 ∨ i = 7 := by omega
  rcases this with rfl | rfl | rfl | rfl | rfl | rfl | rfl | rfl <;> simp
theorem Arr8.put8o {w : World} {g b : Nat} {K : Nat → Int} (h : Arr8 w b K) (A : Nat → Int) (hg : b ≠ g) : Arr8 (Go.Proofs.Ytnlcnbkookmfaaa.put8 w g A) b K :=
  (((((((h.set _ _ _ hg).set _ _ _ hg).set _ _ _ hg).set _ _ _ hg).set _ _ _ hg).set _ _ _ hg).set _ _ _ hg).set _ _ _ hg
theorem C3.put8 {w : World} {g b : Nat} {x y z : Value} (h : C3 w b x y z) (A : Nat → Int) (hg : b ≠ g) : C3 (Go.Proofs.Ytnlcnbkookmfaaa.put8 w g A) b x y z :=
  (((((((h.set _ _ _ hg).set _ _ _ hg).set _ _ _ hg).set _ _ _ hg).set _ _ _ hg).set _ _ _ hg).set _ _ _ hg).set _ _ _ hg
theorem below_put8 {B : Nat} {a w : World} {g : Nat} (h : Below B a w) (hg : B ≤ g) (A : Nat → Int) : Below B a (put8 w g A) :=
  (((((((h.setCell hg _).setCell hg _).setCell hg _).setCell hg _).setCell hg _).setCell hg _).setCell hg _).setCell hg _
theorem size_put8 (w : World) (g : Nat) (A : Nat → Int) : (put8 w g A).heap.size = w.heap.size := by unfold put8; simp only [World.size_setCell]

end Go.Proofs.Ytnlcnbkookmfaaa
