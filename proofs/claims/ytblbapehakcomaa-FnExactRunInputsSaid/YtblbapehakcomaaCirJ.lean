/- Circuits: the program's IsCircuit, aims and relays that will change. -/
import Derived.Test.YtblbapehakcomaaCirI
namespace Go.Proofs.Ytblbapehakcomaa
open Go.RowKit
set_option linter.unusedVariables false

theorem cir_contains {p : Int} {xs : List Int} (h1 : 1 ≤ p ∧ p ≤ 4) (h2 : 1 ≤ xs.length ∧ xs.length ≤ 4) (h3 : p + (xs.length : Int) ≤ 5) {b : Bool} (hb : cirB p xs = b) :
    decide (∃ i, i < xs.length ∧ (!(isTab (p + (xs.length : Int)) (xs.getD i 0))) = true) = !b := by
  subst hb
  by_cases h : Cir p xs
  · have e : cirB p xs = true := decide_eq_true h
    rw [e]
    refine decide_eq_false fun ⟨i, hi, hx⟩ => ?_
    have hh := h.2.2.2 i hi
    have : isTab (p + (xs.length : Int)) (xs.getD i 0) = true := isTab_true (by omega) (by omega) hh.1 hh.2
    rw [this] at hx; simp at hx
  · have e : cirB p xs = false := decide_eq_false h
    rw [e]
    refine decide_eq_true (Classical.byContradiction fun hno => h ⟨h1, h2, h3, fun i hi => ?_⟩)
    have : isTab (p + (xs.length : Int)) (xs.getD i 0) = true := by
      cases hh : isTab (p + (xs.length : Int)) (xs.getD i 0)
      · exact absurd ⟨i, hi, by rw [hh]; rfl⟩ hno
      · rfl
    have := isTab_out this
    exact ⟨this.2.2.1, this.2.2.2⟩

set_option maxRecDepth 100000 in
set_option maxHeartbeats 2000000 in
theorem isCircuit_any (p : Int) (v : Value) (xs : List Int) (w : World) (ha : Reads w v xs) {b : Bool} (hb : cirB p xs = b) :
    Calls Try.prog 18 #[.agg #[.int .i64 p, v]] w fun e w' => e = .returned (.bool b) ∧ Below w.heap.size w w' := by
  have HA := Lib.hid ha
  have HRC := Lib.hid (fun w' (h : Below w.heap.size w w') => relayCount_any p v xs w' (ha.keep h))
  obtain ⟨s1, hs1⟩ : ∃ s, decide (1 ≤ p ∧ p ≤ 4) = s := ⟨_, rfl⟩
  obtain ⟨s2, hs2⟩ : ∃ s, decide (1 ≤ (xs.length : Int) ∧ (xs.length : Int) ≤ 4) = s := ⟨_, rfl⟩
  have HS1 := Lib.hid (fun w => isSizeC p 4 w hs1)
  have HS2 := Lib.hid (fun w => isSizeC (xs.length : Int) 4 w hs2)
  have HCF : Hid (∀ (bn bm : Nat) (wx : World), s1 = true → s2 = true → p + (xs.length : Int) ≤ 5 → Below w.heap.size w wx → wx.cell? ⟨bn, 0, none⟩ = some (.int .i64 p) → wx.cell? ⟨bm, 0, none⟩ = some (.int .i64 (xs.length : Int)) → bn < wx.heap.size → bm < wx.heap.size →
      Calls Try.prog 57 #[v, .func (.func 55) #[] #[.pointer (some ⟨bn, 0, none⟩), .pointer (some ⟨bm, 0, none⟩)]] wx fun e w' => e = .returned (.bool (!b)) ∧ Below wx.heap.size wx w') := by
    intro bn bm wx h1 h2 h3 hbl c0 c1 z0 z1
    subst h1 h2
    have hp := of_decide_eq_true hs1
    have hm := of_decide_eq_true hs2
    refine containsFunc_any v xs _ _ (fun x => !(isTab (p + (xs.length : Int)) x)) wx (HA.out.keep hbl) (fun x wy hby => ?_) (enters_of Try.func55 (by kernel_rfl) rfl) (cir_contains hp (by omega) h3 hb)
    exact noTable_any p (xs.length : Int) x bn bm wy (by omega) (by omega) (cell_later hby c0) (cell_later hby c1)
  have HB : Hid (s1 = false ∨ s2 = false ∨ 5 < p + (xs.length : Int) → b = false) := by
    intro h
    rw [← hb]
    refine decide_eq_false fun hc => ?_
    obtain ⟨a1, a2, a3, _⟩ := hc
    rcases h with h | h | h
    · rw [← hs1] at h; exact of_decide_eq_false h a1
    · rw [← hs2] at h; exact of_decide_eq_false h (by omega)
    · omega
  have hbd : s1 = true → s2 = true → (1 ≤ p ∧ p ≤ 4) ∧ (1 ≤ (xs.length : Int) ∧ (xs.length : Int) ≤ 4) := fun h h' => ⟨of_decide_eq_true (hs1.trans h), of_decide_eq_true (hs2.trans h')⟩
  obtain ⟨a, ca, rfl, hm, _⟩ := ha
  have k0 := C2.here w (.int .i64 p) (.slice a xs.length ca) 27
  clear hb hs1 hs2
  generalize xs.length = n at *
  go_enter Try.func18, Try.ntmps18
  go_upto_region 1 with fail
  go_cut [3, 4] (fun s3 s4 wx => ∃ bn bm : Nat, s3 = .pointer (some ⟨bn, 0, none⟩) ∧ s4 = .pointer (some ⟨bm, 0, none⟩) ∧ Below w.heap.size w wx ∧ C2 wx w.heap.size (.int .i64 p) (.slice a n ca) ∧ U1 wx bn 0 (.int .i64 p) ∧ U1 wx bm 0 (.int .i64 (n : Int)))
  case first =>
    go_region_held3 (fun w' => C2 w' w.heap.size (.int .i64 p) (.slice a n ca)) ((repeat' (first | (with_reducible assumption) | (with_reducible refine C2.drewU ?_) | (with_reducible refine C2.alloc ?_ _) | (with_reducible refine C2.set ?_ _ _ _ (by omega))))) ((go_at_call 53; (with_reducible refine (HRC.out _ (by go_grown)).mono ?_); rintro e w1 ⟨rfl, hb⟩; have hz := hb.size; (repeat (first | rw [World.size_alloc] at hz | rw [World.size_drew] at hz | rw [World.size_setCell] at hz)); have hL := chain (B := w.heap.size) (a := w) (by go_grown) (Nat.le_refl _) hb; have kx := keepAt hb (show C2 _ w.heap.size (.int .i64 p) (.slice a n ca) from by (repeat' (first | (with_reducible assumption) | (with_reducible refine C2.drewU ?_) | (with_reducible refine C2.alloc ?_ _) | (with_reducible refine C2.set ?_ _ _ _ (by omega))))); clear k0; (first | (refine cutH (fun (kA : U1 w1 (w.heap.size + 1) 0 (.int .i64 0)) => ?_) ?_; rotate_left; focus (refine u1At hb ?_; (repeat' (first | (with_reducible assumption) | (with_reducible refine U1.drewU ?_) | (with_reducible refine U1.hereE (by first | (with_reducible rfl) | omega | (simp; done) | (simp; omega))) | (with_reducible refine U1.alloc ?_ _) | (with_reducible refine U1.fill ?_ _) | (with_reducible refine U1.set ?_ _ _ _ (by omega)) | (with_reducible exact U1e.of (by assumption)) | (with_reducible refine U1e.drewU ?_) | (with_reducible refine U1e.hereE (by first | (with_reducible rfl) | omega | (simp; done) | (simp; omega))) | (with_reducible refine U1e.alloc ?_ _) | (with_reducible refine U1e.set ?_ _ _ _ (by omega)))); done)) | skip); (first | (refine cutH (fun (kB : U1 w1 (w.heap.size + 1 + 1) 0 (.int .i64 0)) => ?_) ?_; rotate_left; focus (refine u1At hb ?_; (repeat' (first | (with_reducible assumption) | (with_reducible refine U1.drewU ?_) | (with_reducible refine U1.hereE (by first | (with_reducible rfl) | omega | (simp; done) | (simp; omega))) | (with_reducible refine U1.alloc ?_ _) | (with_reducible refine U1.fill ?_ _) | (with_reducible refine U1.set ?_ _ _ _ (by omega)) | (with_reducible exact U1e.of (by assumption)) | (with_reducible refine U1e.drewU ?_) | (with_reducible refine U1e.hereE (by first | (with_reducible rfl) | omega | (simp; done) | (simp; omega))) | (with_reducible refine U1e.alloc ?_ _) | (with_reducible refine U1e.set ?_ _ _ _ (by omega)))); done)) | skip); clear hb))
    all_goals (go_wp2_with fail; go_meet)
    all_goals (refine ⟨_, _, rfl, rfl, by go_grown, ?_, ?_, ?_⟩)
    all_goals (first | (show C2 _ _ _ _; (repeat' (first | (with_reducible assumption) | (with_reducible refine C2.drewU ?_) | (with_reducible refine C2.alloc ?_ _) | (with_reducible refine C2.set ?_ _ _ _ (by omega)))); done) | (show U1 _ _ _ _; (repeat' (first | (with_reducible assumption) | (with_reducible refine U1.drewU ?_) | (with_reducible refine U1.hereE (by first | (with_reducible rfl) | omega | (simp; done) | (simp; omega))) | (with_reducible refine U1.alloc ?_ _) | (with_reducible refine U1.fill ?_ _) | (with_reducible refine U1.set ?_ _ _ _ (by omega)) | (with_reducible exact U1e.of (by assumption)) | (with_reducible refine U1e.drewU ?_) | (with_reducible refine U1e.hereE (by first | (with_reducible rfl) | omega | (simp; done) | (simp; omega))) | (with_reducible refine U1e.alloc ?_ _) | (with_reducible refine U1e.set ?_ _ _ _ (by omega)))); done))
  case rest =>
  clear k0 HRC
  obtain ⟨bn, bm, rfl, rfl, hL, k0, un, um⟩ := hcut
  obtain ⟨cn, fn, zn⟩ := un
  obtain ⟨cm, fm, zm⟩ := um
  cases s1
  · have HB1 := Lib.hid (HB.out (.inl rfl))
    go_wp2_with (first | (go_at_call 54; (with_reducible refine (HS1.out _).mono ?_); rintro e w' ⟨rfl, rfl⟩))
    go_ret
    exact ⟨by rw [HB1.out]; rfl, by go_grown⟩
  · cases s2
    · have HB1 := Lib.hid (HB.out (.inr (.inl rfl)))
      go_wp2_with (first | (go_at_call 54; (with_reducible refine (HS1.out _).mono ?_); rintro e w' ⟨rfl, rfl⟩) | (go_at_call 54; (with_reducible refine (HS2.out _).mono ?_); rintro e w' ⟨rfl, rfl⟩))
      go_ret
      exact ⟨by rw [HB1.out]; rfl, by go_grown⟩
    · obtain ⟨⟨p1, p4⟩, ⟨n1, n4⟩⟩ := hbd rfl rfl
      clear hbd
      by_cases h5 : p + (n : Int) ≤ 5
      · have HC := Lib.hid (fun (wx : World) h c0 c1 z0 z1 => HCF.out bn bm wx rfl rfl h5 h c0 c1 z0 z1)
        go_wp2_with (first | (go_at_call 54; (with_reducible refine (HS1.out _).mono ?_); rintro e w' ⟨rfl, rfl⟩) | (go_at_call 54; (with_reducible refine (HS2.out _).mono ?_); rintro e w' ⟨rfl, rfl⟩) | (go_at_call 57; (with_reducible refine (HC.out _ (by go_grown) (by first | exact cn | assumption) (by first | exact cm | assumption) (by assumption) (by assumption)).mono ?_); rintro e w' ⟨rfl, hb⟩; have hL := chain (B := w.heap.size) (a := w) (by go_grown) (Nat.le_refl _) hb; clear hb))
        go_ret
        exact ⟨by simp, hL⟩
      · have HB1 := Lib.hid (HB.out (.inr (.inr (by omega))))
        go_wp2_with (first | (go_at_call 54; (with_reducible refine (HS1.out _).mono ?_); rintro e w' ⟨rfl, rfl⟩) | (go_at_call 54; (with_reducible refine (HS2.out _).mono ?_); rintro e w' ⟨rfl, rfl⟩))
        go_ret
        exact ⟨by rw [HB1.out]; rfl, by go_grown⟩

end Go.Proofs.Ytblbapehakcomaa
