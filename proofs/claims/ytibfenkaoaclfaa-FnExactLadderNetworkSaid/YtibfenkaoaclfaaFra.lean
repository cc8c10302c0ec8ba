/- Fractions in lowest terms, and values of polynomials at fractions: the program's and the model's. -/
import Derived.Test.YtibfenkaoaclfaaCo
namespace Go.Proofs.Ytibfenkaoaclfaa
open Go.RowKit
set_option linter.unusedVariables false

theorem isSize_b (x most : Int) (w : World) {b : Bool} (hb : decide (1 ≤ x ∧ x ≤ most) = b) :
    Calls Try.prog 47 #[.int .i64 x, .int .i64 most] w fun e w' => e = .returned (.bool b) ∧ w = w' := by
  by_cases h1 : 1 ≤ x
  · by_cases h2 : x ≤ most
    · have HB : Hid (b = true) := by rw [Hid, ← hb]; exact decide_eq_true ⟨h1, h2⟩
      clear hb
      go_enter Try.func47, Try.ntmps47
      go_wp2
      go_ret
      exact ⟨by rw [HB.out]; rfl, rfl⟩
    · have HB : Hid (b = false) := by rw [Hid, ← hb]; exact decide_eq_false fun h => h2 h.2
      clear hb
      go_enter Try.func47, Try.ntmps47
      go_wp2
      go_ret
      exact ⟨by rw [HB.out]; rfl, rfl⟩
  · have HB : Hid (b = false) := by rw [Hid, ← hb]; exact decide_eq_false fun h => h1 h.1
    clear hb
    go_enter Try.func47, Try.ntmps47
    go_wp2
    go_ret
    exact ⟨by rw [HB.out]; rfl, rfl⟩

/-- a fraction as told -/
def frB (a b : Int) : Bool := decide ((1 ≤ b ∧ b ≤ 100) ∧ -b ≤ a ∧ a ≤ b)
theorem frB_out {a b : Int} (h : frB a b = true) : 1 ≤ b ∧ b ≤ 100 ∧ -b ≤ a ∧ a ≤ b := by
  have := of_decide_eq_true (show decide ((1 ≤ b ∧ b ≤ 100) ∧ -b ≤ a ∧ a ≤ b) = true from h)
  omega
theorem isFraction_b (x y : Int) (w : World) {b : Bool} (hb : frB x y = b) :
    Calls Try.prog 39 #[.int .i64 x, .int .i64 y] w fun e w' => e = .returned (.bool b) ∧ w = w' := by
  by_cases h1 : 1 ≤ y ∧ y ≤ 100
  · have HS := Lib.hid (fun w => isSize_b y 100 w (decide_eq_true h1))
    obtain ⟨hy1, hy2⟩ := h1
    by_cases h2 : -y ≤ x
    · by_cases h3 : x ≤ y
      · have HB : Hid (b = true) := by rw [Hid, ← hb]; exact decide_eq_true ⟨⟨hy1, hy2⟩, h2, h3⟩
        clear hb
        go_enter Try.func39, Try.ntmps39
        go_wp2_with ((go_at_call 47; (with_reducible refine (HS.out _).mono ?_); rintro e w' ⟨rfl, rfl⟩))
        go_ret
        exact ⟨by rw [HB.out]; rfl, rfl⟩
      · have HB : Hid (b = false) := by rw [Hid, ← hb]; exact decide_eq_false fun h => h3 h.2.2
        clear hb
        go_enter Try.func39, Try.ntmps39
        go_wp2_with ((go_at_call 47; (with_reducible refine (HS.out _).mono ?_); rintro e w' ⟨rfl, rfl⟩))
        go_ret
        exact ⟨by rw [HB.out]; simp; omega, rfl⟩
    · have HB : Hid (b = false) := by rw [Hid, ← hb]; exact decide_eq_false fun h => h2 h.2.1
      clear hb
      go_enter Try.func39, Try.ntmps39
      go_wp2_with ((go_at_call 47; (with_reducible refine (HS.out _).mono ?_); rintro e w' ⟨rfl, rfl⟩))
      go_ret
      exact ⟨by rw [HB.out]; rfl, rfl⟩
  · have HS := Lib.hid (fun w => isSize_b y 100 w (decide_eq_false h1))
    have HB : Hid (b = false) := by rw [Hid, ← hb]; exact decide_eq_false fun h => h1 h.1
    clear hb h1
    go_enter Try.func39, Try.ntmps39
    go_wp2_with ((go_at_call 47; (with_reducible refine (HS.out _).mono ?_); rintro e w' ⟨rfl, rfl⟩))
    go_ret
    exact ⟨by rw [HB.out]; rfl, rfl⟩

/-! ### lowest terms -/
theorem tdiv_bd {x d B : Int} (hx : -B ≤ x ∧ x ≤ B) (hd : 1 ≤ d) : -B ≤ x.tdiv d ∧ x.tdiv d ≤ B := by
  have h : (x.tdiv d).natAbs ≤ x.natAbs := by
    rw [Int.natAbs_tdiv]; exact Nat.div_le_self _ _
  omega

set_option maxHeartbeats 1000000 in
theorem lowLoop_i (x y G : Int) (w : World) (hx : -60000000000000000 ≤ x ∧ x ≤ 60000000000000000) (hy : 1 ≤ y ∧ y ≤ 10000000000) (hG : gcdZ (absZ x) y = G) :
    Calls Try.prog 67 #[.int .i64 x, .int .i64 y] w fun e w' => e = .returned (.tuple #[.int .i64 (x.tdiv G), .int .i64 (y / G)]) ∧ Below w.heap.size w w' := by
  have hab := absZ_bd hx
  have HG : Hid (gcdZ y (absZ x) = G) := by rw [gcdZ_comm]; exact hG
  clear hG
  obtain ⟨hx1, hx2⟩ := hx
  obtain ⟨hy1, hy2⟩ := hy
  by_cases hneg : x < 0
  · rw [show absZ x = -x from if_pos hneg] at HG hab
    go_enter Try.func67, Try.ntmps67
    go_wp2_with fail
    go_loopw [6, 7] (fun sd sr wr => ∃ d r : Int, sd = .int .i64 d ∧ sr = .int .i64 r ∧ 0 ≤ d ∧ 0 ≤ r ∧ d ≤ 60000000000000000 ∧ r ≤ 60000000000000000 ∧ 1 ≤ d + r ∧ Hid (gcdZ d r = G) ∧ Below w.heap.size w wr) (fun sd sr _ => (intOf sr).toNat)
    case atStart => exact ⟨_, _, rfl, rfl, by omega, by omega, by omega, by omega, by omega, HG, Below.refl _ _⟩
    case round =>
      obtain ⟨d, r, rfl, rfl, hd0, hr0, hdb, hrb, hdr, HGr, hL⟩ := hrel
      by_cases hr : r = 0
      · subst hr
        have HE : Hid (d = G) := by have := HGr.out; rwa [gcdZ_zero hd0] at this
        have hq : (d == 0) = false := by simp; omega
        have hd1 : 1 ≤ d := by omega
        have hb1 := tdiv_bd (x := x) (B := 60000000000000000) ⟨by omega, by omega⟩ hd1
        have hb2 := tdiv_bd (x := y) (B := 60000000000000000) ⟨by omega, by omega⟩ hd1
        have hw1 : IntKind.i64.wrap (x.tdiv d) = x.tdiv d := IntWalk.i64_in _ (by omega)
        have hw2 : IntKind.i64.wrap (y.tdiv d) = y.tdiv d := IntWalk.i64_in _ (by omega)
        have HT : Hid (y.tdiv d = y / d) := Int.tdiv_eq_ediv_of_nonneg (by omega)
        clear hb1 hb2 HGr
        go_wp2_with fail
        go_quiet (fail)
        go_wp2_with fail
        go_ret2
        exact ⟨by rw [← HE.out, ← HT.out]; rfl, Bdrew hL _⟩
      · have hr1 : 1 ≤ r := by omega
        have hq : (r != 0) = true := by simp; omega
        have hq2 : (r == 0) = false := by simp; omega
        have hlt := Int.emod_lt_of_pos d (by omega : 0 < r)
        have hge := Int.emod_nonneg d (by omega : r ≠ 0)
        have HT : Hid (d.tmod r = d % r) := Int.tmod_eq_emod_of_nonneg hd0
        have hw1 : IntKind.i64.wrap (d.tmod r) = d.tmod r := by rw [HT.out]; exact IntWalk.i64_in _ (by omega)
        have HGn : Hid (gcdZ r (d % r) = G) := (gcdZ_step hd0 (by omega)).trans HGr.out
        clear HGr hr
        go_wp2_with fail
        go_quiet (fail)
        go_wp2_with fail
        exact ⟨⟨r, d % r, rfl, rfl, by omega, by omega, by omega, by omega, by omega, HGn, by first | exact Bdrew hL _ | exact hL⟩, by simp [intOf]; omega⟩
  · rw [show absZ x = x from if_neg hneg] at HG hab
    go_enter Try.func67, Try.ntmps67
    go_wp2_with fail
    go_loopw [6, 7] (fun sd sr wr => ∃ d r : Int, sd = .int .i64 d ∧ sr = .int .i64 r ∧ 0 ≤ d ∧ 0 ≤ r ∧ d ≤ 60000000000000000 ∧ r ≤ 60000000000000000 ∧ 1 ≤ d + r ∧ Hid (gcdZ d r = G) ∧ Below w.heap.size w wr) (fun sd sr _ => (intOf sr).toNat)
    case atStart => exact ⟨_, _, rfl, rfl, by omega, by omega, by omega, by omega, by omega, HG, Below.refl _ _⟩
    case round =>
      obtain ⟨d, r, rfl, rfl, hd0, hr0, hdb, hrb, hdr, HGr, hL⟩ := hrel
      by_cases hr : r = 0
      · subst hr
        have HE : Hid (d = G) := by have := HGr.out; rwa [gcdZ_zero hd0] at this
        have hq : (d == 0) = false := by simp; omega
        have hd1 : 1 ≤ d := by omega
        have hb1 := tdiv_bd (x := x) (B := 60000000000000000) ⟨by omega, by omega⟩ hd1
        have hb2 := tdiv_bd (x := y) (B := 60000000000000000) ⟨by omega, by omega⟩ hd1
        have hw1 : IntKind.i64.wrap (x.tdiv d) = x.tdiv d := IntWalk.i64_in _ (by omega)
        have hw2 : IntKind.i64.wrap (y.tdiv d) = y.tdiv d := IntWalk.i64_in _ (by omega)
        have HT : Hid (y.tdiv d = y / d) := Int.tdiv_eq_ediv_of_nonneg (by omega)
        clear hb1 hb2 HGr
        go_wp2_with fail
        go_quiet (fail)
        go_wp2_with fail
        go_ret2
        exact ⟨by rw [← HE.out, ← HT.out]; rfl, Bdrew hL _⟩
      · have hr1 : 1 ≤ r := by omega
        have hq : (r != 0) = true := by simp; omega
        have hq2 : (r == 0) = false := by simp; omega
        have hlt := Int.emod_lt_of_pos d (by omega : 0 < r)
        have hge := Int.emod_nonneg d (by omega : r ≠ 0)
        have HT : Hid (d.tmod r = d % r) := Int.tmod_eq_emod_of_nonneg hd0
        have hw1 : IntKind.i64.wrap (d.tmod r) = d.tmod r := by rw [HT.out]; exact IntWalk.i64_in _ (by omega)
        have HGn : Hid (gcdZ r (d % r) = G) := (gcdZ_step hd0 (by omega)).trans HGr.out
        clear HGr hr
        go_wp2_with fail
        go_quiet (fail)
        go_wp2_with fail
        exact ⟨⟨r, d % r, rfl, rfl, by omega, by omega, by omega, by omega, by omega, HGn, by first | exact Bdrew hL _ | exact hL⟩, by simp [intOf]; omega⟩

set_option maxHeartbeats 1000000 in
theorem lowLoop_s (x y G : Int) (w : World) (hx : -60000000000000000 ≤ x ∧ x ≤ 60000000000000000) (hy : 1 ≤ y ∧ y ≤ 10000000000) (hG : gcdZ (absZ x) y = G) :
    Calls Try.prog 62 #[.int .i64 x, .int .i64 y] w fun e w' => e = .returned (.tuple #[.int .i64 (x.tdiv G), .int .i64 (y / G)]) ∧ Below w.heap.size w w' := by
  have hab := absZ_bd hx
  have HG : Hid (gcdZ (absZ x) y = G) := hG
  clear hG
  obtain ⟨hx1, hx2⟩ := hx
  obtain ⟨hy1, hy2⟩ := hy
  by_cases hneg : x < 0
  · rw [show absZ x = -x from if_pos hneg] at HG hab
    go_enter Try.func62, Try.ntmps62
    go_wp2_with fail
    go_loopw [6, 7] (fun sd sr wr => ∃ d r : Int, sd = .int .i64 d ∧ sr = .int .i64 r ∧ 0 ≤ d ∧ 0 ≤ r ∧ d ≤ 60000000000000000 ∧ r ≤ 60000000000000000 ∧ 1 ≤ d + r ∧ Hid (gcdZ d r = G) ∧ Below w.heap.size w wr) (fun sd sr _ => (intOf sr).toNat)
    case atStart => exact ⟨_, _, rfl, rfl, by omega, by omega, by omega, by omega, by omega, HG, Below.refl _ _⟩
    case round =>
      obtain ⟨d, r, rfl, rfl, hd0, hr0, hdb, hrb, hdr, HGr, hL⟩ := hrel
      by_cases hr : r = 0
      · subst hr
        have HE : Hid (d = G) := by have := HGr.out; rwa [gcdZ_zero hd0] at this
        have hq : (d == 0) = false := by simp; omega
        have hd1 : 1 ≤ d := by omega
        have hb1 := tdiv_bd (x := x) (B := 60000000000000000) ⟨by omega, by omega⟩ hd1
        have hb2 := tdiv_bd (x := y) (B := 60000000000000000) ⟨by omega, by omega⟩ hd1
        have hw1 : IntKind.i64.wrap (x.tdiv d) = x.tdiv d := IntWalk.i64_in _ (by omega)
        have hw2 : IntKind.i64.wrap (y.tdiv d) = y.tdiv d := IntWalk.i64_in _ (by omega)
        have HT : Hid (y.tdiv d = y / d) := Int.tdiv_eq_ediv_of_nonneg (by omega)
        clear hb1 hb2 HGr
        go_wp2_with fail
        go_quiet (fail)
        go_wp2_with fail
        go_ret2
        exact ⟨by rw [← HE.out, ← HT.out]; rfl, Bdrew hL _⟩
      · have hr1 : 1 ≤ r := by omega
        have hq : (r != 0) = true := by simp; omega
        have hq2 : (r == 0) = false := by simp; omega
        have hlt := Int.emod_lt_of_pos d (by omega : 0 < r)
        have hge := Int.emod_nonneg d (by omega : r ≠ 0)
        have HT : Hid (d.tmod r = d % r) := Int.tmod_eq_emod_of_nonneg hd0
        have hw1 : IntKind.i64.wrap (d.tmod r) = d.tmod r := by rw [HT.out]; exact IntWalk.i64_in _ (by omega)
        have HGn : Hid (gcdZ r (d % r) = G) := (gcdZ_step hd0 (by omega)).trans HGr.out
        clear HGr hr
        go_wp2_with fail
        exact ⟨⟨r, d % r, rfl, rfl, by omega, by omega, by omega, by omega, by omega, HGn, by first | exact Bdrew hL _ | exact hL⟩, by simp [intOf]; omega⟩
  · rw [show absZ x = x from if_neg hneg] at HG hab
    go_enter Try.func62, Try.ntmps62
    go_wp2_with fail
    go_loopw [6, 7] (fun sd sr wr => ∃ d r : Int, sd = .int .i64 d ∧ sr = .int .i64 r ∧ 0 ≤ d ∧ 0 ≤ r ∧ d ≤ 60000000000000000 ∧ r ≤ 60000000000000000 ∧ 1 ≤ d + r ∧ Hid (gcdZ d r = G) ∧ Below w.heap.size w wr) (fun sd sr _ => (intOf sr).toNat)
    case atStart => exact ⟨_, _, rfl, rfl, by omega, by omega, by omega, by omega, by omega, HG, Below.refl _ _⟩
    case round =>
      obtain ⟨d, r, rfl, rfl, hd0, hr0, hdb, hrb, hdr, HGr, hL⟩ := hrel
      by_cases hr : r = 0
      · subst hr
        have HE : Hid (d = G) := by have := HGr.out; rwa [gcdZ_zero hd0] at this
        have hq : (d == 0) = false := by simp; omega
        have hd1 : 1 ≤ d := by omega
        have hb1 := tdiv_bd (x := x) (B := 60000000000000000) ⟨by omega, by omega⟩ hd1
        have hb2 := tdiv_bd (x := y) (B := 60000000000000000) ⟨by omega, by omega⟩ hd1
        have hw1 : IntKind.i64.wrap (x.tdiv d) = x.tdiv d := IntWalk.i64_in _ (by omega)
        have hw2 : IntKind.i64.wrap (y.tdiv d) = y.tdiv d := IntWalk.i64_in _ (by omega)
        have HT : Hid (y.tdiv d = y / d) := Int.tdiv_eq_ediv_of_nonneg (by omega)
        clear hb1 hb2 HGr
        go_wp2_with fail
        go_quiet (fail)
        go_wp2_with fail
        go_ret2
        exact ⟨by rw [← HE.out, ← HT.out]; rfl, Bdrew hL _⟩
      · have hr1 : 1 ≤ r := by omega
        have hq : (r != 0) = true := by simp; omega
        have hq2 : (r == 0) = false := by simp; omega
        have hlt := Int.emod_lt_of_pos d (by omega : 0 < r)
        have hge := Int.emod_nonneg d (by omega : r ≠ 0)
        have HT : Hid (d.tmod r = d % r) := Int.tmod_eq_emod_of_nonneg hd0
        have hw1 : IntKind.i64.wrap (d.tmod r) = d.tmod r := by rw [HT.out]; exact IntWalk.i64_in _ (by omega)
        have HGn : Hid (gcdZ r (d % r) = G) := (gcdZ_step hd0 (by omega)).trans HGr.out
        clear HGr hr
        go_wp2_with fail
        exact ⟨⟨r, d % r, rfl, rfl, by omega, by omega, by omega, by omega, by omega, HGn, by first | exact Bdrew hL _ | exact hL⟩, by simp [intOf]; omega⟩

theorem lowest_i (x y : Int) (w : World) (hx : -60000000000000000 ≤ x ∧ x ≤ 60000000000000000) (hy : 1 ≤ y ∧ y ≤ 10000000000) :
    Calls Try.prog 67 #[.int .i64 x, .int .i64 y] w fun e w' => e = .returned (.tuple #[.int .i64 (lowA x y), .int .i64 (lowB x y)]) ∧ Below w.heap.size w w' := lowLoop_i x y _ w hx hy rfl
theorem lowest_s (x y : Int) (w : World) (hx : -60000000000000000 ≤ x ∧ x ≤ 60000000000000000) (hy : 1 ≤ y ∧ y ≤ 10000000000) :
    Calls Try.prog 62 #[.int .i64 x, .int .i64 y] w fun e w' => e = .returned (.tuple #[.int .i64 (lowA x y), .int .i64 (lowB x y)]) ∧ Below w.heap.size w w' := lowLoop_s x y _ w hx hy rfl

end Go.Proofs.Ytibfenkaoaclfaa
