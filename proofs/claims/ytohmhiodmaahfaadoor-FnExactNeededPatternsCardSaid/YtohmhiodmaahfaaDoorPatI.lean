/- Patterns: the program's covers, rowsUnder, isImplied, signsOf, isPattern. -/
import Derived.Test.YtohmhiodmaahfaaDoorPatM
import Derived.Test.YtohmhiodmaahfaaDoorRepL
import Derived.Test.YtohmhiodmaahfaaDoorAt
import Derived.Test.YtohmhiodmaahfaaDoorSplit
import Derived.Laws.Cover3
import Derived.Deep.RegionWith
namespace Go.Proofs.YtohmhiodmaahfaaDoor
open Go.RowKit
set_option linter.unusedVariables false

/-- the signs as an array -/
def patA (f : Nat → Int) : Value := .agg #[.int .u8 (f 0), .int .u8 (f 1), .int .u8 (f 2), .int .u8 (f 3), .int .u8 (f 4)]
def ByteF (f : Nat → Int) : Prop := ∀ i, 0 ≤ f i ∧ f i < 256
/-- what the first five cells of a block hold -/
abbrev C5 (w : World) (b : Nat) (x0 x1 x2 x3 x4 : Value) : Prop := (w.cell? ⟨b, 0, none⟩ = some x0 ∧ w.cell? ⟨b, 1, none⟩ = some x1 ∧ w.cell? ⟨b, 2, none⟩ = some x2 ∧ w.cell? ⟨b, 3, none⟩ = some x3 ∧ w.cell? ⟨b, 4, none⟩ = some x4) ∧ b < w.heap.size
theorem C5.here (w : World) (x0 x1 x2 x3 x4 : Value) (t : TypeId) : C5 (w.alloc (.cells #[x0, x1, x2, x3, x4] t)) w.heap.size x0 x1 x2 x3 x4 :=
  ⟨⟨by rw [World.cell?_alloc_at _ _ _ _ rfl]; rfl, by rw [World.cell?_alloc_at _ _ _ _ rfl]; rfl, by rw [World.cell?_alloc_at _ _ _ _ rfl]; rfl, by rw [World.cell?_alloc_at _ _ _ _ rfl]; rfl, by rw [World.cell?_alloc_at _ _ _ _ rfl]; rfl⟩, by simp⟩
theorem C5.keep {w w' : World} {b : Nat} {x0 x1 x2 x3 x4 : Value} (h : C5 w b x0 x1 x2 x3 x4) (hb : Below w.heap.size w w') : C5 w' b x0 x1 x2 x3 x4 := by
  obtain ⟨⟨h0, h1, h2, h3, h4⟩, hz⟩ := h
  have := hb.size
  exact ⟨⟨(hb.cell (p := ⟨b, 0, none⟩) hz).trans h0, (hb.cell (p := ⟨b, 1, none⟩) hz).trans h1, (hb.cell (p := ⟨b, 2, none⟩) hz).trans h2, (hb.cell (p := ⟨b, 3, none⟩) hz).trans h3, (hb.cell (p := ⟨b, 4, none⟩) hz).trans h4⟩, by omega⟩
theorem keepAt5 {w w' : World} {b : Nat} {x0 x1 x2 x3 x4 : Value} (hb : Below w.heap.size w w') (h : C5 w b x0 x1 x2 x3 x4) : C5 w' b x0 x1 x2 x3 x4 := h.keep hb
theorem C5.alloc {w : World} {b : Nat} {x0 x1 x2 x3 x4 : Value} (h : C5 w b x0 x1 x2 x3 x4) (o : Obj) : C5 (w.alloc o) b x0 x1 x2 x3 x4 := h.keep ((Below.refl _ _).alloc (Nat.le_refl _) o)

set_option maxRecDepth 100000 in
set_option maxHeartbeats 4000000 in
theorem covers_any (f : Nat → Int) (hf : ByteF f) (row : Int) (w : World) (r0 : 0 ≤ row) (r1 : row ≤ 31) :
    Calls Tryd.prog 74 #[patA f, .int .i64 row] w fun e w' => e = .returned (.bool (covF f row)) ∧ Below w.heap.size w w' := by
  have HI := Lib.hid (fun h => covF_iff (f := f) (row := row).2 h)
  have HN := Lib.hid (fun (j : Nat) (hj : j < 5) (h : okS f row j = false) => covF_no hj h)
  have HG := Lib.hid (fun (k : Int) (w : World) (h0 : 0 ≤ k) (h1 : k ≤ 62) => digitAt_any row k w r0 (by omega) h0 h1)
  have HO : Hid (∀ i, okS f row i = decide (f i = 45 ∨ f i - 48 = digZ row (i : Int))) := fun i => rfl
  unfold patA
  obtain ⟨x0, hx0⟩ : ∃ x, f 0 = x := ⟨_, rfl⟩
  obtain ⟨x1, hx1⟩ : ∃ x, f 1 = x := ⟨_, rfl⟩
  obtain ⟨x2, hx2⟩ : ∃ x, f 2 = x := ⟨_, rfl⟩
  obtain ⟨x3, hx3⟩ : ∃ x, f 3 = x := ⟨_, rfl⟩
  obtain ⟨x4, hx4⟩ : ∃ x, f 4 = x := ⟨_, rfl⟩
  have bx0 := hf 0
  rw [hx0] at bx0
  have bx1 := hf 1
  rw [hx1] at bx1
  have bx2 := hf 2
  rw [hx2] at bx2
  have bx3 := hf 3
  rw [hx3] at bx3
  have bx4 := hf 4
  rw [hx4] at bx4
  rw [hx0, hx1, hx2, hx3, hx4]
  have Ho0 : Hid (okS f row 0 = decide (x0 = 45 ∨ x0 - 48 = digZ row (0 : Nat))) := by rw [Hid, HO.out, hx0]
  have Ho1 : Hid (okS f row 1 = decide (x1 = 45 ∨ x1 - 48 = digZ row (1 : Nat))) := by rw [Hid, HO.out, hx1]
  have Ho2 : Hid (okS f row 2 = decide (x2 = 45 ∨ x2 - 48 = digZ row (2 : Nat))) := by rw [Hid, HO.out, hx2]
  have Ho3 : Hid (okS f row 3 = decide (x3 = 45 ∨ x3 - 48 = digZ row (3 : Nat))) := by rw [Hid, HO.out, hx3]
  have Ho4 : Hid (okS f row 4 = decide (x4 = 45 ∨ x4 - 48 = digZ row (4 : Nat))) := by rw [Hid, HO.out, hx4]
  clear hx0 hx1 hx2 hx3 hx4 hf HO
  have hi0 : ∀ w : World, (Instr.index 62 (.agg #[.int .u8 x0, .int .u8 x1, .int .u8 x2, .int .u8 x3, .int .u8 x4]) (.int .i64 0)).run Tryd.prog w = .ok (.int .u8 x0) w := fun _ => by kernel_rfl
  have hi1 : ∀ w : World, (Instr.index 62 (.agg #[.int .u8 x0, .int .u8 x1, .int .u8 x2, .int .u8 x3, .int .u8 x4]) (.int .i64 1)).run Tryd.prog w = .ok (.int .u8 x1) w := fun _ => by kernel_rfl
  have hi2 : ∀ w : World, (Instr.index 62 (.agg #[.int .u8 x0, .int .u8 x1, .int .u8 x2, .int .u8 x3, .int .u8 x4]) (.int .i64 2)).run Tryd.prog w = .ok (.int .u8 x2) w := fun _ => by kernel_rfl
  have hi3 : ∀ w : World, (Instr.index 62 (.agg #[.int .u8 x0, .int .u8 x1, .int .u8 x2, .int .u8 x3, .int .u8 x4]) (.int .i64 3)).run Tryd.prog w = .ok (.int .u8 x3) w := fun _ => by kernel_rfl
  have hi4 : ∀ w : World, (Instr.index 62 (.agg #[.int .u8 x0, .int .u8 x1, .int .u8 x2, .int .u8 x3, .int .u8 x4]) (.int .i64 4)).run Tryd.prog w = .ok (.int .u8 x4) w := fun _ => by kernel_rfl
  go_enter Tryd.func74, Tryd.ntmps74
  go_wp2_with fail
  go_loopw [8] (fun c wr => ∃ k : Nat, k ≤ 5 ∧ c = .int .i64 (k : Int) ∧ Hid (∀ i, i < k → okS f row i = true) ∧ Below w.heap.size w wr) (fun c _ => 5 - (intOf c).toNat)
  case atStart => exact ⟨0, by omega, rfl, fun i hi => absurd hi (by omega), by go_grown⟩
  case round =>
    obtain ⟨k, hk, rfl, HA, hL⟩ := hrel
    rcases (show k = 0 ∨ k = 1 ∨ k = 2 ∨ k = 3 ∨ k = 4 ∨ k = 5 by omega) with rfl | rfl | rfl | rfl | rfl | rfl
    · have HD := Lib.hid (fun w => HG.out (0 : Nat) w (by omega) (by omega))
      have hdb := digZ_bd row (0 : Nat)
      have HS : Hid (okS f row 0 = true → ∀ i, i < 0 + 1 → okS f row i = true) := fun h i hi => by
        by_cases e : i = 0
        · subst e; exact h
        · exact HA.out i (by omega)
      have HNo := Lib.hid (HN.out 0 (by omega))
      have HOk := Ho0
      clear HI HN HG HA Ho0 Ho1 Ho2 Ho3 Ho4
      generalize digZ row (0 : Nat) = d at *
      by_cases h45 : x0 = 45
      · have HT := Lib.hid (HS.out (by rw [HOk.out]; exact decide_eq_true (.inl h45)))
        subst h45
        clear HS HNo HOk
        go_wp2_with fail
        exact ⟨⟨1, by omega, by go_num, HT.out, hL⟩, by decide⟩
      · have hq : (x0 != 45) = true := by simpa using h45
        by_cases hd : x0 - 48 = d
        · have HT := Lib.hid (HS.out (by rw [HOk.out]; exact decide_eq_true (.inr hd)))
          have hq2 : (x0 - 48 != d) = false := by simpa using hd
          clear HS HNo HOk hd
          go_wp2_with (go_at_call 72; refine (HD.out _).mono ?_; rintro e w' ⟨rfl, rfl⟩)
          exact ⟨⟨1, by omega, by go_num, HT.out, hL⟩, by decide⟩
        · have HT := Lib.hid (HNo.out (by rw [HOk.out]; exact decide_eq_false (fun h => by rcases h with h | h; exact h45 h; exact hd h)))
          have hq2 : (x0 - 48 != d) = true := by simpa using hd
          clear HS HNo HOk hd
          go_wp2_with (go_at_call 72; refine (HD.out _).mono ?_; rintro e w' ⟨rfl, rfl⟩)
          go_ret
          exact ⟨by rw [HT.out]; rfl, hL⟩
    · have HD := Lib.hid (fun w => HG.out (1 : Nat) w (by omega) (by omega))
      have hdb := digZ_bd row (1 : Nat)
      have HS : Hid (okS f row 1 = true → ∀ i, i < 1 + 1 → okS f row i = true) := fun h i hi => by
        by_cases e : i = 1
        · subst e; exact h
        · exact HA.out i (by omega)
      have HNo := Lib.hid (HN.out 1 (by omega))
      have HOk := Ho1
      clear HI HN HG HA Ho0 Ho1 Ho2 Ho3 Ho4
      generalize digZ row (1 : Nat) = d at *
      by_cases h45 : x1 = 45
      · have HT := Lib.hid (HS.out (by rw [HOk.out]; exact decide_eq_true (.inl h45)))
        subst h45
        clear HS HNo HOk
        go_wp2_with fail
        exact ⟨⟨2, by omega, by go_num, HT.out, hL⟩, by decide⟩
      · have hq : (x1 != 45) = true := by simpa using h45
        by_cases hd : x1 - 48 = d
        · have HT := Lib.hid (HS.out (by rw [HOk.out]; exact decide_eq_true (.inr hd)))
          have hq2 : (x1 - 48 != d) = false := by simpa using hd
          clear HS HNo HOk hd
          go_wp2_with (go_at_call 72; refine (HD.out _).mono ?_; rintro e w' ⟨rfl, rfl⟩)
          exact ⟨⟨2, by omega, by go_num, HT.out, hL⟩, by decide⟩
        · have HT := Lib.hid (HNo.out (by rw [HOk.out]; exact decide_eq_false (fun h => by rcases h with h | h; exact h45 h; exact hd h)))
          have hq2 : (x1 - 48 != d) = true := by simpa using hd
          clear HS HNo HOk hd
          go_wp2_with (go_at_call 72; refine (HD.out _).mono ?_; rintro e w' ⟨rfl, rfl⟩)
          go_ret
          exact ⟨by rw [HT.out]; rfl, hL⟩
    · have HD := Lib.hid (fun w => HG.out (2 : Nat) w (by omega) (by omega))
      have hdb := digZ_bd row (2 : Nat)
      have HS : Hid (okS f row 2 = true → ∀ i, i < 2 + 1 → okS f row i = true) := fun h i hi => by
        by_cases e : i = 2
        · subst e; exact h
        · exact HA.out i (by omega)
      have HNo := Lib.hid (HN.out 2 (by omega))
      have HOk := Ho2
      clear HI HN HG HA Ho0 Ho1 Ho2 Ho3 Ho4
      generalize digZ row (2 : Nat) = d at *
      by_cases h45 : x2 = 45
      · have HT := Lib.hid (HS.out (by rw [HOk.out]; exact decide_eq_true (.inl h45)))
        subst h45
        clear HS HNo HOk
        go_wp2_with fail
        exact ⟨⟨3, by omega, by go_num, HT.out, hL⟩, by decide⟩
      · have hq : (x2 != 45) = true := by simpa using h45
        by_cases hd : x2 - 48 = d
        · have HT := Lib.hid (HS.out (by rw [HOk.out]; exact decide_eq_true (.inr hd)))
          have hq2 : (x2 - 48 != d) = false := by simpa using hd
          clear HS HNo HOk hd
          go_wp2_with (go_at_call 72; refine (HD.out _).mono ?_; rintro e w' ⟨rfl, rfl⟩)
          exact ⟨⟨3, by omega, by go_num, HT.out, hL⟩, by decide⟩
        · have HT := Lib.hid (HNo.out (by rw [HOk.out]; exact decide_eq_false (fun h => by rcases h with h | h; exact h45 h; exact hd h)))
          have hq2 : (x2 - 48 != d) = true := by simpa using hd
          clear HS HNo HOk hd
          go_wp2_with (go_at_call 72; refine (HD.out _).mono ?_; rintro e w' ⟨rfl, rfl⟩)
          go_ret
          exact ⟨by rw [HT.out]; rfl, hL⟩
    · have HD := Lib.hid (fun w => HG.out (3 : Nat) w (by omega) (by omega))
      have hdb := digZ_bd row (3 : Nat)
      have HS : Hid (okS f row 3 = true → ∀ i, i < 3 + 1 → okS f row i = true) := fun h i hi => by
        by_cases e : i = 3
        · subst e; exact h
        · exact HA.out i (by omega)
      have HNo := Lib.hid (HN.out 3 (by omega))
      have HOk := Ho3
      clear HI HN HG HA Ho0 Ho1 Ho2 Ho3 Ho4
      generalize digZ row (3 : Nat) = d at *
      by_cases h45 : x3 = 45
      · have HT := Lib.hid (HS.out (by rw [HOk.out]; exact decide_eq_true (.inl h45)))
        subst h45
        clear HS HNo HOk
        go_wp2_with fail
        exact ⟨⟨4, by omega, by go_num, HT.out, hL⟩, by decide⟩
      · have hq : (x3 != 45) = true := by simpa using h45
        by_cases hd : x3 - 48 = d
        · have HT := Lib.hid (HS.out (by rw [HOk.out]; exact decide_eq_true (.inr hd)))
          have hq2 : (x3 - 48 != d) = false := by simpa using hd
          clear HS HNo HOk hd
          go_wp2_with (go_at_call 72; refine (HD.out _).mono ?_; rintro e w' ⟨rfl, rfl⟩)
          exact ⟨⟨4, by omega, by go_num, HT.out, hL⟩, by decide⟩
        · have HT := Lib.hid (HNo.out (by rw [HOk.out]; exact decide_eq_false (fun h => by rcases h with h | h; exact h45 h; exact hd h)))
          have hq2 : (x3 - 48 != d) = true := by simpa using hd
          clear HS HNo HOk hd
          go_wp2_with (go_at_call 72; refine (HD.out _).mono ?_; rintro e w' ⟨rfl, rfl⟩)
          go_ret
          exact ⟨by rw [HT.out]; rfl, hL⟩
    · have HD := Lib.hid (fun w => HG.out (4 : Nat) w (by omega) (by omega))
      have hdb := digZ_bd row (4 : Nat)
      have HS : Hid (okS f row 4 = true → ∀ i, i < 4 + 1 → okS f row i = true) := fun h i hi => by
        by_cases e : i = 4
        · subst e; exact h
        · exact HA.out i (by omega)
      have HNo := Lib.hid (HN.out 4 (by omega))
      have HOk := Ho4
      clear HI HN HG HA Ho0 Ho1 Ho2 Ho3 Ho4
      generalize digZ row (4 : Nat) = d at *
      by_cases h45 : x4 = 45
      · have HT := Lib.hid (HS.out (by rw [HOk.out]; exact decide_eq_true (.inl h45)))
        subst h45
        clear HS HNo HOk
        go_wp2_with fail
        exact ⟨⟨5, by omega, by go_num, HT.out, hL⟩, by decide⟩
      · have hq : (x4 != 45) = true := by simpa using h45
        by_cases hd : x4 - 48 = d
        · have HT := Lib.hid (HS.out (by rw [HOk.out]; exact decide_eq_true (.inr hd)))
          have hq2 : (x4 - 48 != d) = false := by simpa using hd
          clear HS HNo HOk hd
          go_wp2_with (go_at_call 72; refine (HD.out _).mono ?_; rintro e w' ⟨rfl, rfl⟩)
          exact ⟨⟨5, by omega, by go_num, HT.out, hL⟩, by decide⟩
        · have HT := Lib.hid (HNo.out (by rw [HOk.out]; exact decide_eq_false (fun h => by rcases h with h | h; exact h45 h; exact hd h)))
          have hq2 : (x4 - 48 != d) = true := by simpa using hd
          clear HS HNo HOk hd
          go_wp2_with (go_at_call 72; refine (HD.out _).mono ?_; rintro e w' ⟨rfl, rfl⟩)
          go_ret
          exact ⟨by rw [HT.out]; rfl, hL⟩
    · have HT := Lib.hid (HI.out HA.out)
      clear HI HN HG HA
      go_wp2_with fail
      go_ret
      exact ⟨by rw [HT.out]; rfl, hL⟩

end Go.Proofs.YtohmhiodmaahfaaDoor
