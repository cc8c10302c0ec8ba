/- FaultsThatAgree: the program's. -/
import Derived.Test.YtkdidplpnhokiaaFaM
import Derived.Test.YtkdidplpnhokiaaLi
import Derived.Deep.RegionHeld3
import Derived.Deep.RegionWith
import Derived.BigQuiet
namespace Go.Proofs.Ytkdidplpnhokiaa
open Go.RowKit
set_option linter.unusedVariables false

set_option maxRecDepth 100000 in
set_option maxHeartbeats 1000000 in
theorem indexFuncRK_any (v : Value) (L : List (List Int)) (F : Nat) (caps : Array Value) (p : List Int → Bool) (j : Nat) (w : World) (ha : Reads2 w v L)
    (hj : j ≤ L.length) (hno : ∀ i, i < j → p (L.getD i []) = false) (hyes : j < L.length → p (L.getD j []) = true)
    (hf : ∀ (k : Nat) (u : Value) (wx : World), k < L.length → Below w.heap.size w wx → Reads wx u (L.getD k []) → Calls Try.prog F (#[u] ++ caps) wx fun e w' => e = .returned (.bool (p (L.getD k []))) ∧ Below wx.heap.size wx w')
    (hE : ∀ (args : Array Value) (w : World), (callFunc F args).run Try.prog w = .ok (.enter F args) w) {r : Int} (hr : (if j < L.length then (j : Int) else -1) = r) :
    Calls Try.prog 115 #[v, .func (.func F) #[] caps] w fun e w' => e = .returned (.int .i64 r) ∧ Below w.heap.size w w' := by
  have HA := Lib.hid ha
  obtain ⟨a, ca, rfl, hm, ha'⟩ := ha
  unfold maxLen at hm
  have Ha : Hid (∀ k, k < L.length → ∃ b off u, a = some ⟨b, off, none⟩ ∧ w.cell? ⟨b, off + k, none⟩ = some u ∧ Reads w u (L.getD k [])) := fun k hk => HA.out.cellW hk
  have Hf := Lib.hid hf
  have Hno := Lib.hid hno
  have Hyes := Lib.hid hyes
  have Hr := Lib.hid hr
  clear ha' hf hno hyes hr HA
  generalize hnn : L.length = n at *
  clear hnn
  go_enter Try.func115, Try.ntmps115
  go_wp2_with fail
  go_loopw [8] (fun c wr => ∃ k : Nat, k ≤ j ∧ c = .int .i64 (k : Int) ∧ Below w.heap.size w wr) (fun c _ => n - (intOf c).toNat)
  case atStart => exact ⟨0, Nat.zero_le _, rfl, Below.refl _ _⟩
  case round =>
    obtain ⟨k, hk, rfl, hL⟩ := hrel
    by_cases hlt : k < n
    · obtain ⟨b, off, u, rfl, hca0, hru⟩ := Ha.out k hlt
      have hca := cell_later hL hca0
      have HRU := Lib.hid hru
      have hi1 : (k : Int) < (n : Int) := by omega
      have hi0 : (0 : Int) ≤ (k : Int) := by omega
      by_cases hkj : k < j
      · have HC : Hid (∀ wx, Below w.heap.size w wx → Calls Try.prog F (#[u] ++ caps) wx fun e w' => e = .returned (.bool false) ∧ Below wx.heap.size wx w') := fun wx hb => by
          have := Hf.out k u wx hlt hb (HRU.out.keep hb)
          rwa [Hno.out k hkj] at this
        clear hca0 hru
        go_wp2_with ((with_reducible refine (HC.out _ (by first | exact hL | go_grown)).mono ?_); rintro e w' ⟨rfl, hb⟩; have hL := chain (B := w.heap.size) (a := w) hL (Nat.le_refl _) hb; clear hb)
        go_roundw
        case rel => exact ⟨k + 1, by omega, by go_num, hL⟩
        case measure => simp [intOf]; omega
      · have e : k = j := by omega
        subst e
        have HC : Hid (∀ wx, Below w.heap.size w wx → Calls Try.prog F (#[u] ++ caps) wx fun e w' => e = .returned (.bool true) ∧ Below wx.heap.size wx w') := fun wx hb => by
          have := Hf.out k u wx hlt hb (HRU.out.keep hb)
          rwa [Hyes.out hlt] at this
        have HR : Hid (r = (k : Int)) := by have := Hr.out; rw [if_pos hlt] at this; exact this.symm
        clear hca0 hru
        go_wp2_with ((with_reducible refine (HC.out _ (by first | exact hL | go_grown)).mono ?_); rintro e w' ⟨rfl, hb⟩; have hL := chain (B := w.heap.size) (a := w) hL (Nat.le_refl _) hb; clear hb)
        go_ret
        exact ⟨by rw [HR.out]; rfl, hL⟩
    · have HR : Hid (r = -1) := by have := Hr.out; rw [if_neg (by omega)] at this; exact this.symm
      go_wp2_with fail
      go_ret
      exact ⟨by rw [HR.out]; rfl, hL⟩

theorem containsFuncRK_any (v : Value) (L : List (List Int)) (F : Nat) (caps : Array Value) (p : List Int → Bool) (w : World) (ha : Reads2 w v L)
    (hf : ∀ (k : Nat) (u : Value) (wx : World), k < L.length → Below w.heap.size w wx → Reads wx u (L.getD k []) → Calls Try.prog F (#[u] ++ caps) wx fun e w' => e = .returned (.bool (p (L.getD k []))) ∧ Below wx.heap.size wx w')
    (hE : ∀ (args : Array Value) (w : World), (callFunc F args).run Try.prog w = .ok (.enter F args) w) {b : Bool} (hb : decide (∃ i, i < L.length ∧ p (L.getD i []) = true) = b) :
    Calls Try.prog 62 #[v, .func (.func F) #[] caps] w fun e w' => e = .returned (.bool b) ∧ Below w.heap.size w w' := by
  obtain ⟨j, hj, hno, hyes⟩ := firstB (fun i => p (L.getD i [])) L.length
  have hI : Hid (∀ {r : Int}, (if j < L.length then (j : Int) else -1) = r → Calls Try.prog 115 #[v, .func (.func F) #[] caps] w fun e w' => e = .returned (.int .i64 r) ∧ Below w.heap.size w w') :=
    fun h => indexFuncRK_any v L F caps p j w ha hj hno hyes hf hE h
  by_cases hlt : j < L.length
  · have hB : Hid (b = true) := by
      rw [Hid, ← hb]
      exact decide_eq_true ⟨j, hlt, hyes hlt⟩
    have HI := Lib.hid (hI.out (if_pos hlt))
    clear hb hI hf hno hyes ha hlt hE
    go_enter Try.func62, Try.ntmps62
    go_wp2_with fail
    refine HI.out.mono ?_
    rintro e w' ⟨rfl, hL⟩
    go_wp2_with fail
    go_ret
    exact ⟨by rw [hB.out]; simp, hL⟩
  · have hB : Hid (b = false) := by
      rw [Hid, ← hb]
      refine decide_eq_false fun ⟨i, hi, h⟩ => ?_
      have := hno i (by omega)
      rw [this] at h; cases h
    have HI := Lib.hid (hI.out (if_neg hlt))
    clear hb hI hf hno hyes ha hlt hE
    go_enter Try.func62, Try.ntmps62
    go_wp2_with fail
    refine HI.out.mono ?_
    rintro e w' ⟨rfl, hL⟩
    go_wp2_with fail
    go_ret
    exact ⟨by rw [hB.out]; rfl, hL⟩

/-- what a sight's two numbers have to keep -/
def SgIn (R x0 x1 : Int) : Prop := (0 ≤ x0 ∧ x0 < R) ∧ 0 ≤ x1 ∧ x1 < 2
instance (R x0 x1 : Int) : Decidable (SgIn R x0 x1) := by unfold SgIn; infer_instance

set_option maxRecDepth 100000 in
set_option maxHeartbeats 1000000 in
theorem noSight_two (b off c2 : Nat) (x0 x1 p R : Int) (xs : List Int) (yss : List (List Int)) (a b' : Option Addr) (ca cb bn : Nat) (w : World) (k0 : w.cell? ⟨b, off, none⟩ = some (.int .i64 x0)) (k1 : w.cell? ⟨b, off + 1, none⟩ = some (.int .i64 x1))
    (ha : ReadsW w (.agg #[.int .i64 p, .slice a xs.length ca, .slice b' yss.length cb]) p xs yss) (h0 : C3 w bn (.int .i64 p) (.slice a xs.length ca) (.slice b' yss.length cb)) (h1 : 1 ≤ xs.length) (h5 : xs.length ≤ 5) (hz : rcZ (xs.length : Int) = R) {t : Bool} (ht : (!(decide (SgIn R x0 x1))) = t) :
    Calls Try.prog 127 (#[.slice (some ⟨b, off, none⟩) 2 c2] ++ #[.pointer (some ⟨bn, 0, none⟩)]) w fun e w' => e = .returned (.bool t) ∧ Below w.heap.size w w' := by
  have HPC := Lib.hid (fun w' (h : Below w.heap.size w w') => positionCount_any _ p xs yss w' (ha.keep h) h1 h5 hz)
  have hL := Below.refl w.heap.size w
  clear ha hz h1 h5
  generalize xs.length = n at *
  generalize yss.length = m at *
  by_cases hx : 0 ≤ x0 ∧ x0 < R
  · have HB0 := Lib.hid (fun w => isBelow_yes x0 R w hx)
    by_cases hy : 0 ≤ x1 ∧ x1 < 2
    · have HB1 := Lib.hid (fun w => isBelow_yes x1 2 w hy)
      have HT : Hid (t = false) := by rw [Hid, ← ht, decide_eq_true (show SgIn R x0 x1 from ⟨hx, hy⟩)]; rfl
      clear ht hx hy
      go_enter Try.func127, Try.ntmps127
      go_wp2_with fail
      go_region_held3 (fun wx => C3 wx bn (.int .i64 p) (.slice a n ca) (.slice b' m cb) ∧ wx.cell? ⟨b, off, none⟩ = some (.int .i64 x0) ∧ wx.cell? ⟨b, off + 1, none⟩ = some (.int .i64 x1)) (exact ⟨h0, k0, k1⟩) (first | (go_at_call 89; (with_reducible refine (HB0.out _).mono ?_); rintro e w' ⟨rfl, rfl⟩) | (go_at_call 89; (with_reducible refine (HB1.out _).mono ?_); rintro e w' ⟨rfl, rfl⟩) | (go_at_call 100; (with_reducible refine (HPC.out _ (by first | exact hL | go_grown)).mono ?_); rintro e w' ⟨rfl, hb⟩; have hL := chain (B := w.heap.size) (a := w) (by first | exact hL | go_grown) (Nat.le_refl _) hb; replace h0 := keepAt3 hb h0; replace k0 := cell_later hb k0; replace k1 := cell_later hb k1; clear hb))
      all_goals go_wp2_with fail
      all_goals go_ret
      all_goals exact ⟨by rw [HT.out]; rfl, by first | exact hL | go_grown⟩
    · have HB1 := Lib.hid (fun w => isBelow_no x1 2 w hy)
      have HT : Hid (t = true) := by rw [Hid, ← ht, decide_eq_false (show ¬ SgIn R x0 x1 from fun h => hy h.2)]; rfl
      clear ht hx hy
      go_enter Try.func127, Try.ntmps127
      go_wp2_with fail
      go_region_held3 (fun wx => C3 wx bn (.int .i64 p) (.slice a n ca) (.slice b' m cb) ∧ wx.cell? ⟨b, off, none⟩ = some (.int .i64 x0) ∧ wx.cell? ⟨b, off + 1, none⟩ = some (.int .i64 x1)) (exact ⟨h0, k0, k1⟩) (first | (go_at_call 89; (with_reducible refine (HB0.out _).mono ?_); rintro e w' ⟨rfl, rfl⟩) | (go_at_call 89; (with_reducible refine (HB1.out _).mono ?_); rintro e w' ⟨rfl, rfl⟩) | (go_at_call 100; (with_reducible refine (HPC.out _ (by first | exact hL | go_grown)).mono ?_); rintro e w' ⟨rfl, hb⟩; have hL := chain (B := w.heap.size) (a := w) (by first | exact hL | go_grown) (Nat.le_refl _) hb; replace h0 := keepAt3 hb h0; replace k0 := cell_later hb k0; replace k1 := cell_later hb k1; clear hb))
      all_goals go_wp2_with fail
      all_goals go_ret
      all_goals exact ⟨by rw [HT.out]; rfl, by first | exact hL | go_grown⟩
  · have HB0 := Lib.hid (fun w => isBelow_no x0 R w hx)
    have HT : Hid (t = true) := by rw [Hid, ← ht, decide_eq_false (show ¬ SgIn R x0 x1 from fun h => hx h.1)]; rfl
    clear ht hx
    go_enter Try.func127, Try.ntmps127
    go_wp2_with fail
    first | (go_region_with (first | (go_at_call 89; (with_reducible refine (HB0.out _).mono ?_); rintro e w' ⟨rfl, rfl⟩) | (go_at_call 100; (with_reducible refine (HPC.out _ (by first | exact hL | go_grown)).mono ?_); rintro e w' ⟨rfl, hb⟩; have hL := chain (B := w.heap.size) (a := w) (by first | exact hL | go_grown) (Nat.le_refl _) hb; replace h0 := keepAt3 hb h0; replace k0 := cell_later hb k0; replace k1 := cell_later hb k1; clear hb))) | fail
    all_goals go_wp2_with fail
    all_goals go_ret
    all_goals exact ⟨by rw [HT.out]; rfl, by first | exact hL | go_grown⟩

theorem noSight_any (u : Value) (r : List Int) (p R : Int) (xs : List Int) (yss : List (List Int)) (a b' : Option Addr) (ca cb bn : Nat) (w : World) (hu : Reads w u r)
    (ha : ReadsW w (.agg #[.int .i64 p, .slice a xs.length ca, .slice b' yss.length cb]) p xs yss) (h0 : C3 w bn (.int .i64 p) (.slice a xs.length ca) (.slice b' yss.length cb)) (h1 : 1 ≤ xs.length) (h5 : xs.length ≤ 5) (hz : rcZ (xs.length : Int) = R) :
    Calls Try.prog 127 (#[u] ++ #[.pointer (some ⟨bn, 0, none⟩)]) w fun e w' => e = .returned (.bool (!(decide (SgOk R r)))) ∧ Below w.heap.size w w' := by
  by_cases hl : r.length = 2
  · obtain ⟨x0, x1, rfl⟩ : ∃ x0 x1, r = [x0, x1] := by
      match r, hl with
      | [x0, x1], _ => exact ⟨x0, x1, rfl⟩
    obtain ⟨a2, c2, rfl, hm, hr⟩ := hu
    rcases hr with h | ⟨b, off, rfl, hr⟩
    · cases h
    · exact noSight_two b off c2 x0 x1 p R xs yss a b' ca cb bn w (by simpa using hr 0 (by simp)) (by simpa using hr 1 (by simp)) ha h0 h1 h5 hz (congrArg Bool.not (decide_eq_decide.2 ⟨fun h => ⟨rfl, h⟩, fun h => h.2⟩))
  · have HT : Hid ((!(decide (SgOk R r))) = true) := by rw [Hid, decide_eq_false (show ¬ SgOk R r from fun h => hl h.1)]; rfl
    have hn : ((r.length : Int) != 2) = true := bne_iff_ne.2 (by omega)
    obtain ⟨a2, c2, rfl, hm, hr⟩ := hu
    generalize (!(decide (SgOk R r))) = t at *
    clear ha hr hl hz h1 h5
    generalize r.length = q at *
    go_enter Try.func127, Try.ntmps127
    go_wp2_with fail
    go_quiet (fail)
    go_wp2_with fail
    go_ret
    exact ⟨by rw [HT.out]; rfl, by first | exact Bdrew (Below.refl _ _) _ | exact Bdrew (Bdrew (Below.refl _ _) _) _⟩

theorem sights_contains (R : Int) (ss : List (List Int)) : decide (∃ i, i < ss.length ∧ (!(decide (SgOk R (ss.getD i [])))) = true) = !(decide (∀ i, i < ss.length → SgOk R (ss.getD i []))) := by
  by_cases h : ∀ i, i < ss.length → SgOk R (ss.getD i [])
  · rw [decide_eq_true h]
    exact decide_eq_false fun ⟨i, hi, hx⟩ => by rw [decide_eq_true (h i hi)] at hx; cases hx
  · rw [decide_eq_false h]
    refine decide_eq_true (Classical.byContradiction fun hno => h fun i hi => Classical.byContradiction fun hx => hno ⟨i, hi, ?_⟩)
    rw [decide_eq_false hx]; rfl

set_option maxRecDepth 100000 in
set_option maxHeartbeats 2000000 in
theorem sightsError_any (v v2 : Value) (p : Int) (xs : List Int) (yss ss : List (List Int)) (w : World) (ha : ReadsW w v p xs yss) (hs : Reads2 w v2 ss) {c : Int} (hc : sgC p xs yss ss = c) :
    Calls Try.prog 96 #[v, v2] w fun e w' => e = .returned (.int .i64 c) ∧ Below w.heap.size w w' := by
  obtain ⟨d, hd⟩ : ∃ d, wirB p xs yss = d := ⟨_, rfl⟩
  have HW := Lib.hid (fun w' (h : Below w.heap.size w w') => isWiring_any v p xs yss w' (ha.keep h) hd)
  have ha' := ha
  obtain ⟨a, ca, b', cb, rfl, _, _⟩ := ha
  have h0 := C3.here w (.int .i64 p) (.slice a xs.length ca) (.slice b' yss.length cb) 28
  obtain ⟨a3, cs, rfl, hm, hs0⟩ := id hs
  unfold maxLen at hm
  cases d
  · have HC : Hid (c = 1) := by rw [Hid, ← hc]; unfold sgC; rw [hd]; rfl
    clear hc hd ha' hs hs0
    generalize xs.length = n at *
    generalize yss.length = m at *
    generalize ss.length = l at *
    go_enter Try.func96, Try.ntmps96
    go_wp2_with ((go_at_call 18; (with_reducible refine (HW.out _ (by go_grown)).mono ?_); rintro e w' ⟨rfl, hb⟩; have hL := chain (B := w.heap.size) (a := w) (by go_grown) (Nat.le_refl _) hb; (first | replace h0 := keepAt3 hb h0 | replace h0 := keepAt3 hb (C3.alloc h0 _)); clear hb))
    go_ret
    exact ⟨by rw [HC.out]; rfl, hL⟩
  · have hw := wirB_out hd
    obtain ⟨h1, h5⟩ := hw.1.1
    obtain ⟨R, hz⟩ : ∃ z, rcZ (xs.length : Int) = z := ⟨_, rfl⟩
    by_cases hx : ss.length ≤ 32
    · obtain ⟨q, hq⟩ : ∃ q, decide (∀ i, i < ss.length → SgOk R (ss.getD i [])) = q := ⟨_, rfl⟩
      have HCF := Lib.hid (fun w' bn (hk : Below w.heap.size w w') (h : C3 w' bn (.int .i64 p) (.slice a xs.length ca) (.slice b' yss.length cb)) => containsFuncRW_any (.slice a3 ss.length cs) ss 127 #[.pointer (some ⟨bn, 0, none⟩)] (fun r => !(decide (SgOk R r))) w' (hs.keep hk) (fun u x wx hx hu => noSight_any u x p R xs yss a b' ca cb bn wx hu ((ha'.keep hk).keep hx) (h.keep hx) h1 h5 hz) (enters_of Try.func127 (by kernel_rfl) rfl) (sights_contains R ss))
      rw [hq] at HCF
      have hbig : ¬ (32 : Int) < (ss.length : Int) := by omega
      have HC : Hid (c = if q = true then 0 else 2) := by
        rw [Hid, ← hc]; unfold sgC
        rw [if_pos hd, hz]
        cases q
        · rw [if_neg (fun h : SgsOk R ss => of_decide_eq_false hq h.2)]; rfl
        · rw [if_pos (show SgsOk R ss from ⟨hx, of_decide_eq_true hq⟩)]; rfl
      clear hc hd ha' hw hz hx h1 h5 hs hq hs0
      generalize xs.length = n at *
      generalize yss.length = m at *
      generalize ss.length = l at *
      cases q
      · go_enter Try.func96, Try.ntmps96
        go_wp2_with (first | (go_at_call 18; (with_reducible refine (HW.out _ (by go_grown)).mono ?_); rintro e w' ⟨rfl, hb⟩; have hL := chain (B := w.heap.size) (a := w) (by go_grown) (Nat.le_refl _) hb; (first | replace h0 := keepAt3 hb h0 | replace h0 := keepAt3 hb (C3.alloc h0 _)); clear hb) | (go_at_call 62; (with_reducible refine (HCF.out _ _ hL h0).mono ?_); rintro e w1 ⟨rfl, hb⟩; replace hL := chain (B := w.heap.size) (a := w) hL (Nat.le_refl _) hb; replace h0 := keepAt3 hb h0; clear hb))
        go_ret
        exact ⟨by rw [HC.out]; rfl, hL⟩
      · go_enter Try.func96, Try.ntmps96
        go_wp2_with (first | (go_at_call 18; (with_reducible refine (HW.out _ (by go_grown)).mono ?_); rintro e w' ⟨rfl, hb⟩; have hL := chain (B := w.heap.size) (a := w) (by go_grown) (Nat.le_refl _) hb; (first | replace h0 := keepAt3 hb h0 | replace h0 := keepAt3 hb (C3.alloc h0 _)); clear hb) | (go_at_call 62; (with_reducible refine (HCF.out _ _ hL h0).mono ?_); rintro e w1 ⟨rfl, hb⟩; replace hL := chain (B := w.heap.size) (a := w) hL (Nat.le_refl _) hb; replace h0 := keepAt3 hb h0; clear hb))
        go_ret
        exact ⟨by rw [HC.out]; rfl, hL⟩
    · have hbig : (32 : Int) < (ss.length : Int) := by omega
      have HC : Hid (c = 2) := by rw [Hid, ← hc]; unfold sgC; rw [if_pos hd, if_neg (fun h : SgsOk _ ss => hx h.1)]
      clear hc hd ha' hw hz hx h1 h5 hs hs0
      generalize xs.length = n at *
      generalize yss.length = m at *
      generalize ss.length = l at *
      go_enter Try.func96, Try.ntmps96
      go_wp2_with ((go_at_call 18; (with_reducible refine (HW.out _ (by go_grown)).mono ?_); rintro e w' ⟨rfl, hb⟩; have hL := chain (B := w.heap.size) (a := w) (by go_grown) (Nat.le_refl _) hb; (first | replace h0 := keepAt3 hb h0 | replace h0 := keepAt3 hb (C3.alloc h0 _)); clear hb))
      go_ret
      exact ⟨by rw [HC.out]; rfl, hL⟩

set_option maxRecDepth 100000 in
theorem differs_two (b off c2 : Nat) (x0 x1 n z : Int) (bn : Nat) (w : World) (k0 : w.cell? ⟨b, off, none⟩ = some (.int .i64 x0)) (k1 : w.cell? ⟨b, off + 1, none⟩ = some (.int .i64 x1))
    (kt : C2 w bn (.int .i64 n) (.int .i64 z)) (z0 : 0 ≤ z) (z1 : z < 9223372036854775808) (y0 : 0 ≤ x0) (y6 : x0 ≤ 62) :
    Calls Try.prog 128 (#[.slice (some ⟨b, off, none⟩) 2 c2] ++ #[.pointer (some ⟨bn, 0, none⟩)]) w fun e w' => e = .returned (.bool (digZ z x0 != x1)) ∧ Below w.heap.size w w' := by
  have HV := Lib.hid (fun w => valueAt_any n z x0 w z0 z1 y0 y6)
  have hL := Below.refl w.heap.size w
  clear z0 z1 y0 y6
  go_enter Try.func128, Try.ntmps128
  go_wp2_with fail
  go_region_held3 (fun wx => C2 wx bn (.int .i64 n) (.int .i64 z) ∧ wx.cell? ⟨b, off, none⟩ = some (.int .i64 x0) ∧ wx.cell? ⟨b, off + 1, none⟩ = some (.int .i64 x1)) (exact ⟨kt, k0, k1⟩) ((go_at_call 129; (with_reducible refine (HV.out _).mono ?_); rintro e w' ⟨rfl, hb⟩; have hL := chain (B := w.heap.size) (a := w) (by first | exact hL | go_grown) (Nat.le_refl _) hb; replace kt := keepAt hb kt; replace k0 := cell_later hb k0; replace k1 := cell_later hb k1; clear hb))
  all_goals go_wp2_with fail
  all_goals go_ret
  all_goals exact ⟨rfl, by first | exact hL | go_grown⟩

theorem agrees_any (n z : Int) (v2 : Value) (ss : List (List Int)) (R : Int) (w : World) (hs : Reads2 w v2 ss) (hok : ∀ i, i < ss.length → SgOk R (ss.getD i [])) (hR : R ≤ 32) (z0 : 0 ≤ z) (z1 : z < 9223372036854775808) {q : Bool} (hq : agB z ss = q) :
    Calls Try.prog 97 #[.agg #[.int .i64 n, .int .i64 z], v2] w fun e w' => e = .returned (.bool q) ∧ Below w.heap.size w w' := by
  have hdf : ∀ (bn : Nat) (k : Nat) (u : Value) (wx : World), k < ss.length → C2 wx bn (.int .i64 n) (.int .i64 z) → Reads wx u (ss.getD k []) → Calls Try.prog 128 (#[u] ++ #[.pointer (some ⟨bn, 0, none⟩)]) wx fun e w' => e = .returned (.bool ((fun r : List Int => digZ z (r.getD 0 0) != r.getD 1 0) (ss.getD k []))) ∧ Below wx.heap.size wx w' := fun bn k u wx hk hc hu => by
    obtain ⟨hl, ⟨a0, a1⟩, _, _⟩ := hok k hk
    generalize ss.getD k [] = r at *
    obtain ⟨x0, x1, rfl⟩ : ∃ x0 x1, r = [x0, x1] := by
      match r, hl with
      | [x0, x1], _ => exact ⟨x0, x1, rfl⟩
    obtain ⟨a2, c2, rfl, hm, hr⟩ := hu
    rcases hr with h | ⟨b, off, rfl, hr⟩
    · cases h
    · simp only [List.getD_cons_zero] at a0 a1
      exact differs_two b off c2 x0 x1 n z bn wx (by simpa using hr 0 (by simp)) (by simpa using hr 1 (by simp)) hc z0 z1 a0 (by omega)
  have HCF := Lib.hid (fun w' bn (hk : Below w.heap.size w w') (h : C2 w' bn (.int .i64 n) (.int .i64 z)) => containsFuncRK_any v2 ss 128 #[.pointer (some ⟨bn, 0, none⟩)] (fun r => digZ z (r.getD 0 0) != r.getD 1 0) w' (hs.keep hk) (fun k u wx hkk hx hu => hdf bn k u wx hkk (h.keep hx) hu) (enters_of Try.func128 (by kernel_rfl) rfl) agB_out)
  rw [hq] at HCF
  have kt := C2.here w (.int .i64 n) (.int .i64 z) 44
  obtain ⟨a3, cs, rfl, hm, _⟩ := hs
  unfold maxLen at hm
  clear hdf hq hok
  generalize ss.length = l at *
  go_enter Try.func97, Try.ntmps97
  go_wp2_with (go_at_call 62; (with_reducible refine (HCF.out _ _ (by go_grown) kt).mono ?_); rintro e w1 ⟨rfl, hb⟩; have hL := chain (B := w.heap.size) (a := w) (by go_grown) (Nat.le_refl _) hb; clear hb)
  go_ret
  exact ⟨by cases q <;> rfl, hL⟩

end Go.Proofs.Ytkdidplpnhokiaa
