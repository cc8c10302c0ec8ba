/- FaultsThatAgree: the model's. -/
import Derived.Test.YtkdidplpnhokiaaFaI
import Derived.Test.YtkdidplpnhokiaaNw
namespace Go.Proofs.Ytkdidplpnhokiaa
open Go.RowKit
set_option linter.unusedVariables false

/-- a row of two numbers in memory -/
theorem sight_row {w : World} {a3 : Option Addr} {cs : Nat} {ss : List (List Int)} (h : Reads2 w (.slice a3 ss.length cs) ss) {j : Nat} (hj : j < ss.length) (h2 : (ss.getD j []).length = 2) :
    ∃ b off b2 off2 c2 x0 x1, a3 = some ⟨b, off, none⟩ ∧ w.cell? ⟨b, off + j, none⟩ = some (.slice (some ⟨b2, off2, none⟩) 2 c2) ∧ w.cell? ⟨b2, off2, none⟩ = some (.int .i64 x0) ∧ w.cell? ⟨b2, off2 + 1, none⟩ = some (.int .i64 x1) ∧ ss.getD j [] = [x0, x1] := by
  obtain ⟨b, off, u, rfl, hc, hu⟩ := h.cellW hj
  generalize ss.getD j [] = r at *
  obtain ⟨x0, x1, rfl⟩ : ∃ x0 x1, r = [x0, x1] := by
    match r, h2 with
    | [x0, x1], _ => exact ⟨x0, x1, rfl⟩
  obtain ⟨a2, c2, rfl, hm, hr⟩ := hu
  rcases hr with h | ⟨b2, off2, rfl, hr⟩
  · cases h
  · exact ⟨b, off, b2, off2, c2, x0, x1, rfl, hc, by simpa using hr 0 (by simp), by simpa using hr 1 (by simp), rfl⟩

set_option maxRecDepth 100000 in
set_option maxHeartbeats 4000000 in
theorem l10Sights_any (v v2 : Value) (p : Int) (xs : List Int) (yss ss : List (List Int)) (w : World) (ha : ReadsW w v p xs yss) (hs : Reads2 w v2 ss) {c : Int} (hc : sgC p xs yss ss = c) :
    Calls Try.prog 94 #[v, v2] w fun e w' => e = .returned (.int .i64 c) ∧ Below w.heap.size w w' := by
  obtain ⟨d, hd⟩ : ∃ d, wirB p xs yss = d := ⟨_, rfl⟩
  have HW := Lib.hid (fun w' (h : Below w.heap.size w w') => l10Is_any v p xs yss w' (ha.keep h) hd)
  have ha' := ha
  obtain ⟨a, ca, b', cb, rfl, _, _⟩ := ha
  have h0 := C3.here w (.int .i64 p) (.slice a xs.length ca) (.slice b' yss.length cb) 28
  obtain ⟨a3, cs, rfl, hm, hs0⟩ := id hs
  unfold maxLen at hm
  cases d
  · have HC : Hid (c = 1) := by rw [Hid, ← hc]; unfold sgC; rw [hd]; rfl
    clear hc hd ha' hs hs0
    generalize xs.length = n at *
    generalize yss.length = m at *
    generalize ss.length = l at *
    go_enter Try.func94, Try.ntmps94
    go_wp2_with ((go_at_call 56; (with_reducible refine (HW.out _ (by go_grown)).mono ?_); rintro e w' ⟨rfl, hb⟩; have hL := chain (B := w.heap.size) (a := w) (by go_grown) (Nat.le_refl _) hb; (first | replace h0 := keepAt3 hb h0 | replace h0 := keepAt3 hb (C3.alloc h0 _)); clear hb))
    go_ret
    exact ⟨by rw [HC.out]; rfl, hL⟩
  · have hw := wirB_out hd
    obtain ⟨R, hz⟩ : ∃ z, rcZ (xs.length : Int) = z := ⟨_, rfl⟩
    by_cases hx : ss.length ≤ 32
    · have hbig : ¬ (32 : Int) < (ss.length : Int) := by omega
      have HNO : Hid (∀ k, k < ss.length → ¬ SgOk R (ss.getD k []) → c = 2) := fun k hk h => by
        rw [← hc]; unfold sgC
        rw [if_pos hd, hz, if_neg (fun hh : SgsOk R ss => h (hh.2 k hk))]
      have HYES : Hid ((∀ k, k < ss.length → SgOk R (ss.getD k [])) → c = 0) := fun h => by
        rw [← hc]; unfold sgC
        rw [if_pos hd, hz, if_pos (show SgsOk R ss from ⟨hx, h⟩)]
      have HCO : Hid (∀ x, 0 ≤ x ∧ x < R → ∀ w', Below w.heap.size w w' → Calls Try.prog 72 #[.agg #[.int .i64 p, .slice a xs.length ca, .slice b' yss.length cb], .int .i64 x] w' fun e w'' => e = .returned (.int .i64 0) ∧ Below w'.heap.size w' w'') := fun x h w' hb =>
        l10Code_any _ p xs yss x w' (ha'.keep hb) (by unfold posC; rw [if_pos hd, hz, if_pos h])
      have HCN : Hid (∀ x, ¬ (0 ≤ x ∧ x < R) → ∀ w', Below w.heap.size w w' → Calls Try.prog 72 #[.agg #[.int .i64 p, .slice a xs.length ca, .slice b' yss.length cb], .int .i64 x] w' fun e w'' => e = .returned (.int .i64 2) ∧ Below w'.heap.size w' w'') := fun x h w' hb =>
        l10Code_any _ p xs yss x w' (ha'.keep hb) (by unfold posC; rw [if_pos hd, hz, if_neg h])
      have HS := Lib.hid hs
      clear hc hd ha' hw hz hs hs0
      generalize xs.length = n at *
      generalize yss.length = m at *
      go_enter Try.func94, Try.ntmps94
      go_wp2_with ((go_at_call 56; (with_reducible refine (HW.out _ (by go_grown)).mono ?_); rintro e w' ⟨rfl, hb⟩; have hL := chain (B := w.heap.size) (a := w) (by go_grown) (Nat.le_refl _) hb; (first | replace h0 := keepAt3 hb h0 | replace h0 := keepAt3 hb (C3.alloc h0 _)); clear hb))
      go_loopw [5] (fun c wr => ∃ k : Nat, k ≤ ss.length ∧ c = .int .i64 (k : Int) ∧ Below w.heap.size w wr ∧ C3 wr w.heap.size (.int .i64 p) (.slice a n ca) (.slice b' m cb) ∧ Hid (∀ j, j < k → SgOk R (ss.getD j []))) (fun c _ => ss.length - (intOf c).toNat)
      case atStart => exact ⟨0, Nat.zero_le _, rfl, hL, h0, fun j hj => by omega⟩
      case round =>
        clear hL h0
        obtain ⟨k, hk, rfl, hL, h0, HQ⟩ := hrel
        by_cases hlt : k < ss.length
        · have hi1 : (k : Int) < (ss.length : Int) := by omega
          have hi0' : (0 : Int) ≤ (k : Int) := by omega
          have hk63 : (k : Int) < 9223372036854775807 := by omega
          by_cases h2 : (ss.getD k []).length = 2
          · obtain ⟨b, off, b2, off2, c2, x0, x1, rfl, hcw, kw0, kw1, hrow⟩ := sight_row HS.out hlt h2
            have hcl := cell_later hL hcw
            have k0 := cell_later hL kw0
            have k1 := cell_later hL kw1
            clear hcw kw0 kw1
            by_cases hx : 0 ≤ x0 ∧ x0 < R
            · have HCK := Lib.hid (HCO.out x0 hx)
              by_cases hy : 0 ≤ x1 ∧ x1 ≤ 1
              · have HB := Lib.hid (fun w => l01In_yes x1 0 1 w hy)
                have HQ' : Hid (∀ j, j < k + 1 → SgOk R (ss.getD j [])) := fun j hj => by
                  by_cases e : j = k
                  · subst e; rw [hrow]; exact ⟨rfl, hx, by constructor <;> simp <;> omega⟩
                  · exact HQ.out j (by omega)
                clear hx hy hrow h2
                generalize ss.length = l at *
                go_wp2_with fail
                go_region_held3 (fun wx => C3 wx w.heap.size (.int .i64 p) (.slice a n ca) (.slice b' m cb) ∧ wx.cell? ⟨b, off + k, none⟩ = some (.slice (some ⟨b2, off2, none⟩) 2 c2) ∧ wx.cell? ⟨b2, off2, none⟩ = some (.int .i64 x0) ∧ wx.cell? ⟨b2, off2 + 1, none⟩ = some (.int .i64 x1)) (exact ⟨h0, hcl, k0, k1⟩) (first | (go_at_call 65; (with_reducible refine (HB.out _).mono ?_); rintro e w' ⟨rfl, rfl⟩) | (go_at_call 72; (with_reducible refine (HCK.out _ (by first | exact hL | go_grown)).mono ?_); rintro e w' ⟨rfl, hb⟩; have hL := chain (B := w.heap.size) (a := w) (by first | exact hL | go_grown) (Nat.le_refl _) hb; replace h0 := keepAt3 hb h0; replace hcl := cell_later hb hcl; replace k0 := cell_later hb k0; replace k1 := cell_later hb k1; clear hb))
                all_goals go_wp2_with fail
                all_goals exact ⟨⟨k + 1, by omega, by go_num, by first | exact hL | go_grown, h0, HQ'⟩, by simp [intOf]; omega⟩
              · have HB := Lib.hid (fun w => l01In_no x1 0 1 w hy)
                have HC := Lib.hid (HNO.out k hlt (fun h => hy (by rw [hrow] at h; obtain ⟨_, _, h3, h4⟩ := h; simp at h3 h4; omega)))
                clear hx hy hrow h2
                generalize ss.length = l at *
                go_wp2_with fail
                go_region_held3 (fun wx => C3 wx w.heap.size (.int .i64 p) (.slice a n ca) (.slice b' m cb) ∧ wx.cell? ⟨b, off + k, none⟩ = some (.slice (some ⟨b2, off2, none⟩) 2 c2) ∧ wx.cell? ⟨b2, off2, none⟩ = some (.int .i64 x0) ∧ wx.cell? ⟨b2, off2 + 1, none⟩ = some (.int .i64 x1)) (exact ⟨h0, hcl, k0, k1⟩) (first | (go_at_call 65; (with_reducible refine (HB.out _).mono ?_); rintro e w' ⟨rfl, rfl⟩) | (go_at_call 72; (with_reducible refine (HCK.out _ (by first | exact hL | go_grown)).mono ?_); rintro e w' ⟨rfl, hb⟩; have hL := chain (B := w.heap.size) (a := w) (by first | exact hL | go_grown) (Nat.le_refl _) hb; replace h0 := keepAt3 hb h0; replace hcl := cell_later hb hcl; replace k0 := cell_later hb k0; replace k1 := cell_later hb k1; clear hb))
                all_goals go_wp2_with fail
                all_goals go_ret
                all_goals exact ⟨by rw [HC.out]; rfl, by first | exact hL | go_grown⟩
            · have HCK := Lib.hid (HCN.out x0 hx)
              have HC := Lib.hid (HNO.out k hlt (fun h => hx (by rw [hrow] at h; exact h.2.1)))
              clear hx hrow h2
              generalize ss.length = l at *
              go_wp2_with fail
              first | (go_region_with ((go_at_call 72; (with_reducible refine (HCK.out _ (by first | exact hL | go_grown)).mono ?_); rintro e w' ⟨rfl, hb⟩; have hL := chain (B := w.heap.size) (a := w) (by first | exact hL | go_grown) (Nat.le_refl _) hb; replace h0 := keepAt3 hb h0; replace hcl := cell_later hb hcl; replace k0 := cell_later hb k0; replace k1 := cell_later hb k1; clear hb))) | fail
              all_goals (go_step; go_step; go_simp)
              all_goals go_wp2_with fail
              all_goals go_ret
              all_goals exact ⟨by rw [HC.out]; rfl, by first | exact hL | go_grown⟩
          · have HC := Lib.hid (HNO.out k hlt (fun h => h2 h.1))
            have hn : (((ss.getD k []).length : Int) != 2) = true := bne_iff_ne.2 (by omega)
            obtain ⟨b, off, u, rfl, hcw, hu⟩ := HS.out.cellW hlt
            obtain ⟨a2, c2, rfl, _, _⟩ := hu
            have hcl := cell_later hL hcw
            clear hcw h2
            generalize (ss.getD k []).length = q at *
            generalize ss.length = l at *
            go_wp2_with fail
            go_quiet (fail)
            go_wp2_with fail
            go_ret
            exact ⟨by rw [HC.out]; rfl, by first | exact hL | exact Bdrew hL _⟩
        · have HC := Lib.hid (HYES.out fun j hj => HQ.out j (by omega))
          have hge : ¬ (k : Int) < (ss.length : Int) := by omega
          generalize ss.length = l at *
          go_wp2_with fail
          go_ret
          exact ⟨by rw [HC.out]; rfl, hL⟩
    · have hbig : (32 : Int) < (ss.length : Int) := by omega
      have HC : Hid (c = 2) := by rw [Hid, ← hc]; unfold sgC; rw [if_pos hd, if_neg (fun h : SgsOk _ ss => hx h.1)]
      clear hc hd ha' hw hz hx hs hs0
      generalize xs.length = n at *
      generalize yss.length = m at *
      generalize ss.length = l at *
      go_enter Try.func94, Try.ntmps94
      go_wp2_with ((go_at_call 56; (with_reducible refine (HW.out _ (by go_grown)).mono ?_); rintro e w' ⟨rfl, hb⟩; have hL := chain (B := w.heap.size) (a := w) (by go_grown) (Nat.le_refl _) hb; (first | replace h0 := keepAt3 hb h0 | replace h0 := keepAt3 hb (C3.alloc h0 _)); clear hb))
      go_ret
      exact ⟨by rw [HC.out]; rfl, hL⟩

end Go.Proofs.Ytkdidplpnhokiaa
