/- Slopes: the program's list. -/
import Derived.Test.YtgcdpbikeimelabSlo
import Derived.Deep.LoopGhost
namespace Go.Proofs.Ytgcdpbikeimelab
open Go.RowKit
set_option linter.unusedVariables false

/-- the list of slopes, done up to k -/
def sloMix (n v : Int) (k m : Nat) : List Int := sloTo n v k ++ List.replicate (m - k) 0
theorem sloMix_len (n v : Int) (k m : Nat) (h : k ≤ m) : (sloMix n v k m).length = m := by simp [sloMix, sloTo_len]; omega
theorem sloMix_set (n v : Int) (k m : Nat) (h : k < m) : (sloMix n v (k + 1) m).map (Value.int .i64) = ((sloMix n v k m).map (Value.int .i64)).set k (.int .i64 (slopeZ n v (k : Int))) := by
  unfold sloMix
  have e : m - k = (m - (k + 1)) + 1 := by omega
  rw [sloTo_succ, e, List.replicate_succ, ← List.map_set, List.set_append_right _ _ (by rw [sloTo_len]; omega), sloTo_len, Nat.sub_self, List.append_assoc]
  rfl
theorem made_zero (m : Nat) : (madeCells (Value.int .i64 0).cells (m * 1)).toList = (List.replicate m (0 : Int)).map (Value.int .i64) := by
  simp only [madeCells, Value.cells, Nat.mul_one]
  apply List.ext_getElem
  · simp
  · intro i h1 h2
    simp [Nat.mod_one]

theorem C2.drewI {w : World} {b : Nat} {x y : Value} (h : C2 w b x y) : C2 w.drew b x y := h
theorem C2.hereE {w : World} {b : Nat} {x y : Value} {t : TypeId} (e : b = w.heap.size) : C2 (w.alloc (.cells #[x, y] t)) b x y := by
  subst e; exact C2.here w x y t
/-- a box of two cells, whatever it holds -/
def C2e (w : World) (b : Nat) : Prop := ∃ x y, C2 w b x y
theorem C2e.of {w : World} {b : Nat} {x y : Value} (h : C2 w b x y) : C2e w b := ⟨x, y, h⟩
theorem C2e.alloc {w : World} {b : Nat} (h : C2e w b) (o : Obj) : C2e (w.alloc o) b := by
  obtain ⟨x, y, h⟩ := h; exact ⟨x, y, h.alloc o⟩
theorem C2e.set {w : World} {b : Nat} (h : C2e w b) (g i : Nat) (v : Value) (hg : b ≠ g) : C2e (w.setCell ⟨g, i, none⟩ v) b := by
  obtain ⟨x, y, h⟩ := h; exact ⟨x, y, h.set g i v hg⟩
theorem C2.fillE {w : World} {b : Nat} (h : C2e w b) (x' y' : Value) : C2 ((w.setCell ⟨b, 0, none⟩ x').setCell ⟨b, 1, none⟩ y') b x' y' := by
  obtain ⟨x, y, h⟩ := h; exact h.fill x' y'
theorem Owns.drewI {w : World} {base : Nat} {v : Value} {xs : List Int} (h : Owns w base v xs) : Owns w.drew base v xs := h
theorem Owns.allocI {w : World} {base : Nat} {v : Value} {xs : List Int} (h : Owns w base v xs) (o : Obj) : Owns (w.alloc o) base v xs := World.ownsRow.alloc h o
theorem Owns.setI {w : World} {base g : Nat} {cap n : Nat} {xs : List Int} (h : Owns w base (.slice (some ⟨g, 0, none⟩) n cap) xs) (p : Addr) (u : Value) (hp : g ≠ p.block) : Owns (w.setCell p u) base (.slice (some ⟨g, 0, none⟩) n cap) xs :=
  ownsRow_setCell_other h (by simpa [Value.ownBlock] using hp) u

set_option maxRecDepth 100000 in
set_option maxHeartbeats 4000000 in
theorem slopes_any (n v : Int) (w : World) (n1 : 1 ≤ n) (n5 : n ≤ 5) (h0 : 0 ≤ v) (hv : v < 9223372036854775808) :
    Calls Try.prog 44 #[.agg #[.int .i64 n, .int .i64 v]] w fun e w' => ∃ u, e = .returned u ∧ Owns w' w.heap.size u (sloTo n v n.toNat) ∧ Below w.heap.size w w' := by
  have k0 := C2.here w (.int .i64 n) (.int .i64 v) 27
  obtain ⟨i0, hi, hz0, hz1, hz2⟩ := info_parts info64
  go_enter Try.func44, Try.ntmps44
  go_wp2_with (at_make; (refine wpList_make_full _ rfl _ _ 24 rfl (w.heap.size + 1) 2 i0 (.int .i64 0) 1 Try.underlying24 hi hz0 hz1 .i64 .i64 n n n.toNat rfl rfl (by omega) (by omega) (by rw [hz2]; omega) (by unfold maxLen; omega) (by simp) ?_); intro w1 oo hg; replace k0 := k0.grown hg (by simp); have hL : Below w.heap.size w w1 := Below.grown ((Below.refl _ w).alloc (Nat.le_refl _) _) hg (by simp) (by simp))
  replace oo : Owns w1 (w.heap.size + 1) (.slice (some ⟨w.heap.size + 1, 0, none⟩) n.toNat n.toNat) (sloMix n v 0 n.toNat) := by
    unfold Owns
    rw [sloMix_len n v 0 n.toNat (Nat.zero_le _), made_zero] at *
    simpa [sloMix, sloTo] using oo
  clear hg hi hz0 hz1 hz2
  go_loopg [12] n.toNat (fun g c wr => ∃ k : Nat, (k : Int) + (g : Int) = n ∧ c = .int .i64 (k : Int) ∧ Below w.heap.size w wr ∧ C2 wr w.heap.size (.int .i64 n) (.int .i64 v) ∧ Owns wr (w.heap.size + 1) (.slice (some ⟨w.heap.size + 1, 0, none⟩) n.toNat n.toNat) (sloMix n v k n.toNat))
  case atStart => exact ⟨0, by omega, rfl, hL, k0, oo⟩
  case round =>
    clear k0 oo hL
    obtain ⟨k, hk, rfl, hL, k0, oo⟩ := hrel
    have z0 := k0.2.2.2.2
    have zo := (World.ownsRow.lt oo _ rfl).2
    by_cases hlt : (k : Int) < n
    · have Hk := Lib.hid hk
      clear hk
      have hzw := hL.size
      go_upto_region 5 with fail
      go_cut [5, 6] (fun s5 s6 wx => ∃ g5 g6 : Nat, s5 = .pointer (some ⟨g5, 0, none⟩) ∧ s6 = .pointer (some ⟨g6, 0, none⟩) ∧ C2 wx g5 (.int .i64 n) (.int .i64 (partVals n v (k : Int) 0)) ∧ C2 wx g6 (.int .i64 n) (.int .i64 (partVals n v (k : Int) 1)) ∧ Below w.heap.size w wx ∧ C2 wx w.heap.size (.int .i64 n) (.int .i64 v) ∧ Owns wx (w.heap.size + 1) (.slice (some ⟨w.heap.size + 1, 0, none⟩) n.toNat n.toNat) (sloMix n v k n.toNat))
      case first =>
        go_region_held3 (fun w' => C2 w' w.heap.size (.int .i64 n) (.int .i64 v))
          ((repeat' (first | (with_reducible assumption) | (with_reducible refine C2.drewI ?_) | (with_reducible refine C2.hereE (by first | (with_reducible rfl) | omega | (simp; done) | (simp; omega))) | (with_reducible refine C2.alloc ?_ _) | (with_reducible refine C2.fill ?_ _ _) | (with_reducible refine C2.set ?_ _ _ _ (by omega)))))
          (first | (go_at_call 42; (with_reducible refine (part_any n v _ 0 _ n1 n5 h0 hv (by omega) hlt (by omega) (by omega)).mono ?_); rintro e w' ⟨rfl, hb⟩; have hz := hb.size; (repeat (first | rw [World.size_alloc] at hz | rw [World.size_drew] at hz)); have hL := chain (B := w.heap.size) (a := w) (by go_grown) (Nat.le_refl _) hb; replace k0 := keepAt hb (show C2 _ w.heap.size (.int .i64 n) (.int .i64 v) from by (repeat' (first | (with_reducible assumption) | (with_reducible refine C2.drewI ?_) | (with_reducible refine C2.hereE (by first | (with_reducible rfl) | omega | (simp; done) | (simp; omega))) | (with_reducible refine C2.alloc ?_ _) | (with_reducible refine C2.fill ?_ _ _) | (with_reducible refine C2.set ?_ _ _ _ (by omega))))); replace oo := ownsKeepAt hb (show Owns _ (w.heap.size + 1) (.slice (some ⟨w.heap.size + 1, 0, none⟩) n.toNat n.toNat) (sloMix n v k n.toNat) from by (repeat' (first | (with_reducible assumption) | (with_reducible refine Owns.drewI ?_) | (with_reducible refine Owns.allocI ?_ _)))); (try (with_reducible have a1 := keepAt hb (C2.here _ _ _ _))); (try (with_reducible have a1 := keepAt hb (C2.hereD _ _ _ _))); (try (repeat (first | rw [World.size_alloc] at a1 | rw [World.size_drew] at a1))); (try (with_reducible have a2 := keepAt hb (C2.alloc (C2.here _ _ _ _) _))); (try (with_reducible have a2 := keepAt hb (C2.drewI (C2.alloc (C2.here _ _ _ _) _)))); (try (repeat (first | rw [World.size_alloc] at a2 | rw [World.size_drew] at a2))); clear hb) | (go_at_call 42; (with_reducible refine (part_any n v _ 1 _ n1 n5 h0 hv (by omega) hlt (by omega) (by omega)).mono ?_); rintro e w' ⟨rfl, hb⟩; have hz := hb.size; (repeat (first | rw [World.size_alloc] at hz | rw [World.size_drew] at hz)); have hL := chain (B := w.heap.size) (a := w) (by go_grown) (Nat.le_refl _) hb; replace k0 := keepAt hb (show C2 _ w.heap.size (.int .i64 n) (.int .i64 v) from by (repeat' (first | (with_reducible assumption) | (with_reducible refine C2.drewI ?_) | (with_reducible refine C2.hereE (by first | (with_reducible rfl) | omega | (simp; done) | (simp; omega))) | (with_reducible refine C2.alloc ?_ _) | (with_reducible refine C2.fill ?_ _ _) | (with_reducible refine C2.set ?_ _ _ _ (by omega))))); replace oo := ownsKeepAt hb (show Owns _ (w.heap.size + 1) (.slice (some ⟨w.heap.size + 1, 0, none⟩) n.toNat n.toNat) (sloMix n v k n.toNat) from by (repeat' (first | (with_reducible assumption) | (with_reducible refine Owns.drewI ?_) | (with_reducible refine Owns.allocI ?_ _)))); (try (first | (with_reducible replace a1 := keepAt hb a1) | (with_reducible replace a1 := keepAt hb (C2.alloc a1 _)))); (try (with_reducible replace a2 := keepAt hb a2)); (try (with_reducible have b1 := keepAt hb (C2.here _ _ _ _))); (try (repeat (first | rw [World.size_alloc] at b1 | rw [World.size_drew] at b1))); (try (with_reducible have b2 := keepAt hb (C2.alloc (C2.here _ _ _ _) _))); (try (repeat (first | rw [World.size_alloc] at b2 | rw [World.size_drew] at b2))); clear hb))
        all_goals (go_wp2_with fail)
        all_goals go_meet
        all_goals (refine ⟨_, _, rfl, rfl, ?_, ?_, ?_, ?_, ?_⟩)
        all_goals (first | (with_reducible assumption) | (show C2 _ _ _ _; (repeat' (first | (with_reducible assumption) | (with_reducible refine C2.drewI ?_) | (with_reducible refine C2.hereE (by first | (with_reducible rfl) | omega | (simp; done) | (simp; omega))) | (with_reducible refine C2.alloc ?_ _) | (with_reducible refine C2.fillE ?_ _ _) | (with_reducible refine C2.set ?_ _ _ _ (by omega)) | (with_reducible exact C2e.of (by assumption)) | (with_reducible refine C2e.alloc ?_ _) | (with_reducible refine C2e.set ?_ _ _ _ (by omega)))); done) | (show Below _ _ _; go_grown; done) | (show Owns _ _ _ _; (repeat' (first | (with_reducible assumption) | (with_reducible refine Owns.drewI ?_) | (with_reducible refine Owns.allocI ?_ _) | (with_reducible refine Owns.setI ?_ _ _ (by dsimp only; omega)))); done))
      case rest =>
        clear k0 oo hL
        obtain ⟨g5, g6, rfl, rfl, k5, k6, hL, k0, oo⟩ := hcut
        have hO : wc.ownsRow (w.heap.size + 1) 2 1 (.slice (some ⟨w.heap.size + 1, 0, none⟩) n.toNat n.toNat) n.toNat ((sloMix n v k n.toNat).map (Value.int .i64)) := by
          have h := oo
          unfold Owns at h
          rw [sloMix_len n v k n.toNat (by omega)] at h
          exact h
        have hcell : ∃ u, wc.cell? ⟨w.heap.size + 1, k, none⟩ = some u := by
          rw [hO.cellAt k (by omega)]
          have hlen := hO.1
          exact ⟨_, List.getElem?_eq_getElem (by omega)⟩
        obtain ⟨u, hcell⟩ := hcell
        have hfr := hO.frozenAt k
        have hnn : (n == n) = true := by simp
        have hi0 : (0 : Int) ≤ (k : Int) := by omega
        have hi1 : (k : Int) < ((n.toNat : Nat) : Int) := by omega
        have hK := Hk.out
        clear oo
        cases hq : (partVals n v (k : Int) 0 == partVals n v (k : Int) 1)
        · cases hr : (bits .andNot .i64 (partVals n v (k : Int) 0) (partVals n v (k : Int) 1) == 0)
          · cases hs : (bits .andNot .i64 (partVals n v (k : Int) 1) (partVals n v (k : Int) 0) == 0)
            · have HC := Lib.hid (sloMix_set n v k n.toNat (by omega))
              have hz : slopeZ n v (k : Int) = 2 := by unfold slopeZ; rw [hq, hr, hs]; rfl
              rw [hz] at HC
              have HS := Lib.hid (hO.stored k (.int .i64 (2)))
              clear hz hO
              go_wp2_with fail
              go_roundg (gk - 1)
              case measure => omega
              case rel =>
                refine ⟨k + 1, by omega, by go_num, hL.setCell (by simp) _, k0.set _ _ _ (by omega), ?_⟩
                unfold Owns
                rw [sloMix_len n v (k + 1) n.toNat (by omega), HC.out]
                exact HS.out.1
            · have HC := Lib.hid (sloMix_set n v k n.toNat (by omega))
              have hz : slopeZ n v (k : Int) = -1 := by unfold slopeZ; rw [hq, hr, hs]; rfl
              rw [hz] at HC
              have HS := Lib.hid (hO.stored k (.int .i64 (-1)))
              clear hz hO
              go_wp2_with fail
              go_roundg (gk - 1)
              case measure => omega
              case rel =>
                refine ⟨k + 1, by omega, by go_num, hL.setCell (by simp) _, k0.set _ _ _ (by omega), ?_⟩
                unfold Owns
                rw [sloMix_len n v (k + 1) n.toNat (by omega), HC.out]
                exact HS.out.1
          · have HC := Lib.hid (sloMix_set n v k n.toNat (by omega))
            have hz : slopeZ n v (k : Int) = 1 := by unfold slopeZ; rw [hq, hr]; rfl
            rw [hz] at HC
            have HS := Lib.hid (hO.stored k (.int .i64 (1)))
            clear hz hO
            go_wp2_with fail
            go_roundg (gk - 1)
            case measure => omega
            case rel =>
              refine ⟨k + 1, by omega, by go_num, hL.setCell (by simp) _, k0.set _ _ _ (by omega), ?_⟩
              unfold Owns
              rw [sloMix_len n v (k + 1) n.toNat (by omega), HC.out]
              exact HS.out.1
        · have HC := Lib.hid (sloMix_set n v k n.toNat (by omega))
          have hz : slopeZ n v (k : Int) = 0 := by unfold slopeZ; rw [hq]; rfl
          rw [hz] at HC
          have HS := Lib.hid (hO.stored k (.int .i64 (0)))
          clear hz hO
          go_wp2_with fail
          go_roundg (gk - 1)
          case measure => omega
          case rel =>
            refine ⟨k + 1, by omega, by go_num, hL.setCell (by simp) _, k0.set _ _ _ (by omega), ?_⟩
            unfold Owns
            rw [sloMix_len n v (k + 1) n.toNat (by omega), HC.out]
            exact HS.out.1
    · go_wp2_with fail
      go_ret
      have e : k = n.toNat := by omega
      refine ⟨_, rfl, ?_, hL⟩
      subst e
      have h := oo.mono (base' := w.heap.size) (by omega)
      unfold sloMix at h
      simpa using h

end Go.Proofs.Ytgcdpbikeimelab
