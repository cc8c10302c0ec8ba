/- TableOfWeights: the program's. -/
import Derived.Test.YtkbgboooidfloaaWgM
import Derived.Test.YtkbgboooidfloaaClone
import Derived.Test.YtkbgboooidfloaaAt
import Derived.Test.YtkbgboooidfloaaCoF
import Derived.Deep.RegionWith
namespace Go.Proofs.Ytkbgboooidfloaa
open Go.RowKit
set_option linter.unusedVariables false

/-- a list as an array of five -/
def wArr (xs : List Int) : Value := .agg #[.int .i64 (xs.getD 0 0), .int .i64 (xs.getD 1 0), .int .i64 (xs.getD 2 0), .int .i64 (xs.getD 3 0), .int .i64 (xs.getD 4 0)]

theorem padded_at {xs : List Int} {j : Nat} (hj : j < 5) : ((xs.map (Value.int .i64)) ++ List.replicate 5 (Value.int .i64 0))[j]? = some (.int .i64 (xs.getD j 0)) := by
  rcases Nat.lt_or_ge j xs.length with h | h
  · rw [List.getElem?_append_left (by simpa using h)]
    simp [List.getD_eq_getElem?_getD, h]
  · rw [List.getElem?_append_right (by simpa using h)]
    rw [List.length_map, List.getElem?_replicate, if_pos (by omega), List.getD_eq_getElem?_getD, List.getElem?_eq_none h]
    rfl

set_option maxRecDepth 100000 in
set_option maxHeartbeats 2000000 in
theorem weightsOf_any (v : Value) (xs : List Int) (w : World) (ha : Reads w v xs) (h1 : 1 ≤ xs.length) (h5 : xs.length ≤ 5) :
    Calls Try.prog 63 #[v] w fun e w' => e = .returned (wArr xs) ∧ Below w.heap.size w w' := by
  obtain ⟨i0, hi, hz0, hz1, hz2⟩ := info_parts info64
  obtain ⟨a, ca, rfl, hm, ha'⟩ := ha
  rcases ha' with rfl | ⟨b, off, rfl, hc⟩
  · simp at h1
  generalize hwe : w.alloc (.cells #[.int .i64 0, .int .i64 0, .int .i64 0, .int .i64 0, .int .i64 0] 77) = w0
  have hwz : w0.heap.size = w.heap.size + 1 := by rw [← hwe, World.size_alloc]
  have hL0 : Below w.heap.size w w0 := by rw [← hwe]; exact (Below.refl _ _).alloc (Nat.le_refl _) _
  have HC := Lib.hid (clone_any b off xs.length ca xs w0 rfl (by omega) (fun i hi => cell_later hL0 (hc i hi)))
  have HP := Lib.hid (fun j (hj : j < 5) => padded_at (xs := xs) hj)
  have HA := Lib.hid (fun (w1 : World) (u : Value) (hu : Owns w1 w0.heap.size u xs) => run_append_own_zeros (P := Try.prog) w1 w0.heap.size 41 3 41 2 i0 .i64 .i64 .i64 Try.underlying41 Try.underlying3 hi hz0 hz1 hz2 u xs.length _ hu h1 (by omega) 5 (by decide) (by decide))
  go_enter Try.func63, Try.ntmps63
  go_wp2_with fail
  refine HC.out.mono ?_
  rintro e w1 ⟨u, rfl, hu, hb1⟩
  obtain ⟨v2, w2, hr2, hown2, hgrow2⟩ := HA.out w1 u hu hb1.size
  have hfrom := hu.rowsFrom (Nat.le_refl _)
  have hL2 : Below w.heap.size w w2 := (hL0.trans (hb1.mono (by omega))).grown hgrow2 (by have := hb1.size; omega) (fun k e => by have := hfrom k e; omega)
  have hu2 : ∃ g cap, v2 = .slice (some ⟨g, 0, none⟩) (xs.length + 5) cap ∧ ∀ j, j < 5 → w2.cell? ⟨g, j, none⟩ = some (.int .i64 (xs.getD j 0)) := by
    have hown := hown2
    rcases hown2.2 with ⟨_, h⟩ | ⟨g, cap, cur, rfl, _⟩
    · omega
    · refine ⟨g, cap, rfl, fun j hj => ?_⟩
      have := hown.cells (g := g) rfl j _ (HP.out j hj)
      rwa [addr_add, Nat.zero_add] at this
  obtain ⟨g, cap, rfl, hcs⟩ := hu2
  have h0c := hcs 0 (by omega)
  have h1c := hcs 1 (by omega)
  have h2c := hcs 2 (by omega)
  have h3c := hcs 3 (by omega)
  have h4c := hcs 4 (by omega)
  have hH : w2.heap[w.heap.size]? = some (.cells #[.int .i64 0, .int .i64 0, .int .i64 0, .int .i64 0, .int .i64 0] 77 (0, 0)) := by
    rw [hgrow2.block w.heap.size (by have := hb1.size; omega) (fun e => by have := hfrom _ e.symm; omega), hb1.block w.heap.size (by omega), ← hwe]
    exact heap_alloc_new w _
  have c0 : w2.cell? ⟨w.heap.size, 0, none⟩ = some (.int .i64 0) := by simp [World.cell?, hH]
  have c1 : w2.cell? ⟨w.heap.size, 1, none⟩ = some (.int .i64 0) := by simp [World.cell?, hH]
  have c2 : w2.cell? ⟨w.heap.size, 2, none⟩ = some (.int .i64 0) := by simp [World.cell?, hH]
  have c3 : w2.cell? ⟨w.heap.size, 3, none⟩ = some (.int .i64 0) := by simp [World.cell?, hH]
  have c4 : w2.cell? ⟨w.heap.size, 4, none⟩ = some (.int .i64 0) := by simp [World.cell?, hH]
  have f0 : w2.frozen? ⟨w.heap.size, 0, none⟩ = false := by simp [World.frozen?, hH]
  have f1 : w2.frozen? ⟨w.heap.size, 1, none⟩ = false := by simp [World.frozen?, hH]
  have f2 : w2.frozen? ⟨w.heap.size, 2, none⟩ = false := by simp [World.frozen?, hH]
  have f3 : w2.frozen? ⟨w.heap.size, 3, none⟩ = false := by simp [World.frozen?, hH]
  have f4 : w2.frozen? ⟨w.heap.size, 4, none⟩ = false := by simp [World.frozen?, hH]
  have hArr : (Instr.arrayAt 77 (.slice (some ⟨g, 0, none⟩) (xs.length + 5) cap)).run Try.prog w2 = .ok (.pointer (some ⟨g, 0, none⟩)) w2 := by
    have : ¬ (xs.length + 5 < 5) := by omega
    simp [Instr.arrayAt, run_underlying Try.underlying77]; omega
  have hR : Hid (wArr xs = .agg #[.int .i64 (xs.getD 0 0), .int .i64 (xs.getD 1 0), .int .i64 (xs.getD 2 0), .int .i64 (xs.getD 3 0), .int .i64 (xs.getD 4 0)]) := rfl
  clear hcs HP HA HC hown2 hH hc hwe
  generalize xs.getD 0 0 = x0 at *
  generalize xs.getD 1 0 = x1 at *
  generalize xs.getD 2 0 = x2 at *
  generalize xs.getD 3 0 = x3 at *
  generalize xs.getD 4 0 = x4 at *
  go_wp2_with (at_builtin; refine Lib.wpList_append_run _ rfl _ _ _ _ rfl _ _ rfl rfl _ _ hr2 ?_; clear hr2 hgrow2)
  refine bodyPost_ret (v := .agg #[.int .i64 x0, .int .i64 x1, .int .i64 x2, .int .i64 x3, .int .i64 x4]) (by simp [results, Try.results63, go_sem, *]) rfl ?_
  exact ⟨by rw [hR.out], by go_grown⟩

theorem mulZ_bd {x d : Int} (hx : 0 ≤ x ∧ x ≤ 10) (hd : 0 ≤ d ∧ d ≤ 1) : 0 ≤ x * d ∧ x * d ≤ 10 := by
  have e : d = 0 ∨ d = 1 := by omega
  rcases e with rfl | rfl <;> omega

set_option maxRecDepth 100000 in
set_option maxHeartbeats 4000000 in
theorem weightOfRow_any (xs : List Int) (r : Int) (w : World) (hx : ∀ i, 0 ≤ xs.getD i 0 ∧ xs.getD i 0 ≤ 10) (r0 : 0 ≤ r) (r1 : r < 32) :
    Calls Try.prog 86 #[wArr xs, .int .i64 r] w fun e w' => e = .returned (.int .i64 (wsum xs r 5)) ∧ Below w.heap.size w w' := by
  have HX := Lib.hid hx
  have HB := Lib.hid (fun k => wsum_bd hx r k)
  have HS := Lib.hid (fun k => wsum_succ xs r k)
  have HG := Lib.hid (fun (k : Int) (w : World) (h0 : 0 ≤ k) (h1 : k ≤ 62) => digitAt_any r k w r0 (by omega) h0 h1)
  have hW0 : wsum xs r 0 = 0 := rfl
  unfold wArr
  obtain ⟨x0, hx0⟩ : ∃ x, xs.getD 0 0 = x := ⟨_, rfl⟩
  obtain ⟨x1, hx1⟩ : ∃ x, xs.getD 1 0 = x := ⟨_, rfl⟩
  obtain ⟨x2, hx2⟩ : ∃ x, xs.getD 2 0 = x := ⟨_, rfl⟩
  obtain ⟨x3, hx3⟩ : ∃ x, xs.getD 3 0 = x := ⟨_, rfl⟩
  obtain ⟨x4, hx4⟩ : ∃ x, xs.getD 4 0 = x := ⟨_, rfl⟩
  rw [hx0, hx1, hx2, hx3, hx4]
  have Hx0 := Lib.hid hx0
  have Hx1 := Lib.hid hx1
  have Hx2 := Lib.hid hx2
  have Hx3 := Lib.hid hx3
  have Hx4 := Lib.hid hx4
  clear hx0 hx1 hx2 hx3 hx4
  have hi0 : ∀ w : World, (Instr.index 77 (.agg #[.int .i64 x0, .int .i64 x1, .int .i64 x2, .int .i64 x3, .int .i64 x4]) (.int .i64 0)).run Try.prog w = .ok (.int .i64 x0) w := fun _ => by kernel_rfl
  have hi1 : ∀ w : World, (Instr.index 77 (.agg #[.int .i64 x0, .int .i64 x1, .int .i64 x2, .int .i64 x3, .int .i64 x4]) (.int .i64 1)).run Try.prog w = .ok (.int .i64 x1) w := fun _ => by kernel_rfl
  have hi2 : ∀ w : World, (Instr.index 77 (.agg #[.int .i64 x0, .int .i64 x1, .int .i64 x2, .int .i64 x3, .int .i64 x4]) (.int .i64 2)).run Try.prog w = .ok (.int .i64 x2) w := fun _ => by kernel_rfl
  have hi3 : ∀ w : World, (Instr.index 77 (.agg #[.int .i64 x0, .int .i64 x1, .int .i64 x2, .int .i64 x3, .int .i64 x4]) (.int .i64 3)).run Try.prog w = .ok (.int .i64 x3) w := fun _ => by kernel_rfl
  have hi4 : ∀ w : World, (Instr.index 77 (.agg #[.int .i64 x0, .int .i64 x1, .int .i64 x2, .int .i64 x3, .int .i64 x4]) (.int .i64 4)).run Try.prog w = .ok (.int .i64 x4) w := fun _ => by kernel_rfl
  clear hx
  go_enter Try.func86, Try.ntmps86
  go_wp2_with fail
  go_loopw [5, 9] (fun s c wr => ∃ k : Nat, k ≤ 5 ∧ c = .int .i64 (k : Int) ∧ s = .int .i64 (wsum xs r k) ∧ Below w.heap.size w wr)
    (fun _ c _ => 5 - (intOf c).toNat)
  case atStart => exact ⟨0, by omega, rfl, by rw [hW0], by go_grown⟩
  case round =>
    clear hW0
    obtain ⟨k, hk, rfl, rfl, hL⟩ := hrel
    by_cases hlt : k < 5
    · have hb := HB.out k
      have hd := digZ_bd r (k : Int)
      have hm := mulZ_bd (HX.out k) hd
      have hs := HS.out k
      have hxk := HX.out k
      have HD := Lib.hid (fun w => HG.out (k : Int) w (by omega) (by omega))
      generalize wsum xs r k = S at *
      generalize digZ r (k : Int) = d at *
      generalize hP : xs.getD k 0 * d = p at *
      have hk5 : k = 0 ∨ k = 1 ∨ k = 2 ∨ k = 3 ∨ k = 4 := by omega
      rcases hk5 with rfl | rfl | rfl | rfl | rfl
      · rw [Hx0.out] at hP hxk
        clear HX HB HS HG
        subst hP
        go_wp2_with (go_at_call 73; refine (HD.out _).mono ?_; rintro e w' ⟨rfl, rfl⟩)
        exact ⟨⟨1, by omega, rfl, by rw [hs], hL⟩, by simp [intOf]⟩
      · rw [Hx1.out] at hP hxk
        clear HX HB HS HG
        subst hP
        go_wp2_with (go_at_call 73; refine (HD.out _).mono ?_; rintro e w' ⟨rfl, rfl⟩)
        exact ⟨⟨2, by omega, rfl, by rw [hs], hL⟩, by simp [intOf]⟩
      · rw [Hx2.out] at hP hxk
        clear HX HB HS HG
        subst hP
        go_wp2_with (go_at_call 73; refine (HD.out _).mono ?_; rintro e w' ⟨rfl, rfl⟩)
        exact ⟨⟨3, by omega, rfl, by rw [hs], hL⟩, by simp [intOf]⟩
      · rw [Hx3.out] at hP hxk
        clear HX HB HS HG
        subst hP
        go_wp2_with (go_at_call 73; refine (HD.out _).mono ?_; rintro e w' ⟨rfl, rfl⟩)
        exact ⟨⟨4, by omega, rfl, by rw [hs], hL⟩, by simp [intOf]⟩
      · rw [Hx4.out] at hP hxk
        clear HX HB HS HG
        subst hP
        go_wp2_with (go_at_call 73; refine (HD.out _).mono ?_; rintro e w' ⟨rfl, rfl⟩)
        exact ⟨⟨5, by omega, rfl, by rw [hs], hL⟩, by simp [intOf]⟩
    · have e : k = 5 := by omega
      subst e
      go_wp2_with fail
      go_ret
      exact ⟨rfl, hL⟩

/-- the block b is o -/
def Blk (w : World) (b : Nat) (o : Obj) : Prop := w.heap[b]? = some o
theorem Blk.lt {w : World} {b : Nat} {o : Obj} (h : Blk w b o) : b < w.heap.size := by
  rcases Nat.lt_or_ge b w.heap.size with h' | h'
  · exact h'
  · unfold Blk at h; rw [Array.getElem?_eq_none h'] at h; cases h
theorem Blk.keep {w w' : World} {b : Nat} {o : Obj} (h : Blk w b o) (hb : Below w.heap.size w w') : Blk w' b o := (hb.block b h.lt).trans h
theorem Blk.set {w : World} {b : Nat} {o : Obj} (h : Blk w b o) (a : Addr) (u : Value) (hne : b ≠ a.block) : Blk (w.setCell a u) b o := (Below.heap_setCell w a u b hne).trans h
theorem blkAt {w w' : World} {B b : Nat} {o : Obj} (hb : Below B w w') (hB : w.heap.size ≤ B) (h : Blk w b o) : Blk w' b o := h.keep (hb.mono hB)
theorem Blk.drew {w : World} {b : Nat} {o : Obj} (h : Blk w b o) : Blk w.drew b o := h
theorem Blk.drewN {w : World} {b : Nat} {o : Obj} (h : Blk w b o) (n : Nat) : Blk (w.drewN n) b o := h
theorem Blk.cell {w : World} {b : Nat} {cs : Array Value} {t : TypeId} {f : Nat × Nat} (h : Blk w b (.cells cs t f)) (i : Nat) (x : Value) (hx : cs[i]? = some x) : w.cell? ⟨b, i, none⟩ = some x := by
  unfold Blk at h; simp [World.cell?, h, hx]
def arrObj (x0 x1 x2 x3 x4 : Int) : Obj := .cells #[.int .i64 x0, .int .i64 x1, .int .i64 x2, .int .i64 x3, .int .i64 x4] 77 (0, 0)

set_option maxRecDepth 100000 in
set_option maxHeartbeats 4000000 in
theorem weighedTable_any (xs : List Int) (b : Int) (w : World) (h1 : 1 ≤ xs.length) (h5 : xs.length ≤ 5) (hx : ∀ i, 0 ≤ xs.getD i 0 ∧ xs.getD i 0 ≤ 10) (b0 : 0 ≤ b) (b1 : b ≤ 100) :
    Calls Try.prog 62 #[.int .i64 (xs.length : Int), wArr xs, .int .i64 b] w fun e w' => e = .returned (.agg #[.int .i64 (xs.length : Int), .int .i64 (wTo xs b (2 ^ xs.length))]) ∧ Below w.heap.size w w' := by
  have HR : ∀ w, Calls Try.prog 43 #[.int .i64 (xs.length : Int)] w fun e w' => e = .returned (.int .i64 ((2 ^ xs.length : Nat) : Int)) ∧ w = w' := fun w => by
    have := rowCount_any (xs.length : Int) w (by omega) (by omega)
    unfold rcZ at this
    rw [Int.toNat_natCast] at this
    exact this
  have hp5 : 2 ^ xs.length ≤ 32 := Nat.pow_le_pow_right (n := 2) (by decide) h5
  have HW := fun (r : Int) (w : World) (r0 : 0 ≤ r) (r1 : r < 32) => weightOfRow_any xs r w hx r0 r1
  have HB := fun r => wsum_bd hx r 5
  have HE := fun r => wsum_more (xs := xs) r 5 h5
  have HS1 := fun (k : Nat) (hk : k < 32) => wTo_one (xs := xs) (b := b) hk
  have HS0 := fun (k : Nat) => wTo_zero (xs := xs) (b := b) (k := k)
  have hT0 : wTo xs b 0 = 0 := rfl
  simp only [← HE] at HS1 HS0
  clear HE
  unfold wArr at *
  generalize hM : 2 ^ xs.length = M at *
  clear hM
  generalize xs.length = N at *
  generalize xs.getD 0 0 = x0 at *
  generalize xs.getD 1 0 = x1 at *
  generalize xs.getD 2 0 = x2 at *
  generalize xs.getD 3 0 = x3 at *
  generalize xs.getD 4 0 = x4 at *
  clear hx
  replace HR := Lib.hid HR
  replace HW := Lib.hid HW
  replace HB := Lib.hid HB
  replace HS1 := Lib.hid HS1
  replace HS0 := Lib.hid HS0
  go_enter Try.func62, Try.ntmps62
  go_wp2_with fail
  refine (HR.out _).mono ?_
  rintro e w1 ⟨rfl, rfl⟩
  have kb : Blk (((w.alloc (arrObj x0 x1 x2 x3 x4)).alloc (.cells #[.int .i64 0, .int .i64 0] 30)).alloc (.cells #[.int .i64 (N : Int), .int .i64 0] 30)) w.heap.size (arrObj x0 x1 x2 x3 x4) := by
    have h : Blk (w.alloc (arrObj x0 x1 x2 x3 x4)) w.heap.size (arrObj x0 x1 x2 x3 x4) := heap_alloc_new w _
    exact (h.keep ((Below.refl _ _).alloc (Nat.le_refl _) _)).keep ((Below.refl _ _).alloc (Nat.le_refl _) _)
  have k1 : C2 (((w.alloc (arrObj x0 x1 x2 x3 x4)).alloc (.cells #[.int .i64 0, .int .i64 0] 30)).alloc (.cells #[.int .i64 (N : Int), .int .i64 0] 30)) (w.heap.size + 1) (.int .i64 0) (.int .i64 0) := by
    have h := (C2.here (w.alloc (arrObj x0 x1 x2 x3 x4)) (.int .i64 0) (.int .i64 0) 30).alloc (.cells #[.int .i64 (N : Int), .int .i64 0] 30)
    rwa [World.size_alloc] at h
  have k2 : C2 (((w.alloc (arrObj x0 x1 x2 x3 x4)).alloc (.cells #[.int .i64 0, .int .i64 0] 30)).alloc (.cells #[.int .i64 (N : Int), .int .i64 0] 30)) (w.heap.size + 1 + 1) (.int .i64 (N : Int)) (.int .i64 0) := by
    have h := C2.here ((w.alloc (arrObj x0 x1 x2 x3 x4)).alloc (.cells #[.int .i64 0, .int .i64 0] 30)) (.int .i64 (N : Int)) (.int .i64 0) 30
    rwa [World.size_alloc, World.size_alloc] at h
  have hL : Below w.heap.size w (((w.alloc (arrObj x0 x1 x2 x3 x4)).alloc (.cells #[.int .i64 0, .int .i64 0] 30)).alloc (.cells #[.int .i64 (N : Int), .int .i64 0] 30)) := (((Below.refl _ _).alloc (Nat.le_refl _) _).alloc (by simp) _).alloc (by simp; omega) _
  go_wp2_with fail
  go_loopw [13] (fun c wr => ∃ k : Nat, k ≤ M ∧ c = .int .i64 (k : Int) ∧ Below w.heap.size w wr ∧ Blk wr w.heap.size (arrObj x0 x1 x2 x3 x4) ∧ C2 wr (w.heap.size + 1) (.int .i64 0) (.int .i64 0) ∧ C2 wr (w.heap.size + 1 + 1) (.int .i64 (N : Int)) (.int .i64 (wTo xs b k))) (fun c _ => M - (intOf c).toNat)
  case atStart => exact ⟨0, Nat.zero_le _, rfl, hL, kb, k1, by rw [hT0]; exact k2⟩
  case round =>
    clear hL kb k1 k2 hT0
    obtain ⟨k, hk, rfl, hL, kb, k1, k2⟩ := hrel
    by_cases hlt : k < M
    · have hj1 : (k : Int) < (M : Int) := by omega
      have hSb := HB.out (k : Int)
      have HC := Lib.hid (fun w => HW.out (k : Int) w (by omega) (by omega))
      have d0 := kb.cell 0 _ rfl
      have d1 := kb.cell 1 _ rfl
      have d2 := kb.cell 2 _ rfl
      have d3 := kb.cell 3 _ rfl
      have d4 := kb.cell 4 _ rfl
      by_cases hge : b ≤ wsum xs (k : Int) 5
      · have Hs := Lib.hid (HS1.out k (by omega) hge)
        clear HS1 HS0 HB HW
        generalize wsum xs (k : Int) 5 = S at *
        go_wp2_with (go_at_call 86; (with_reducible refine (HC.out _).mono ?_); rintro e w3 ⟨rfl, hb⟩; replace hL := chain (B := w.heap.size) (a := w) hL (Nat.le_refl _) hb; replace kb := kb.keep hb; replace k1 := keepAt hb k1; replace k2 := keepAt hb k2; clear hb d0 d1 d2 d3 d4)
        go_region_with fail
        all_goals (go_wp2_with fail)
        all_goals (try rw [wrapW])
        all_goals (rw [Hs.out]; exact ⟨⟨k + 1, by omega, by go_num, (by first | exact hL.setCell (p := ⟨w.heap.size + 1 + 1, 1, none⟩) (show w.heap.size ≤ w.heap.size + 1 + 1 by omega) _ | exact (hL.setCell (p := ⟨w.heap.size + 1 + 1, 1, none⟩) (show w.heap.size ≤ w.heap.size + 1 + 1 by omega) _).drew | exact (hL.drew).setCell (p := ⟨w.heap.size + 1 + 1, 1, none⟩) (show w.heap.size ≤ w.heap.size + 1 + 1 by omega) _), kb.set _ _ (show w.heap.size ≠ w.heap.size + 1 + 1 by omega), k1.set _ _ _ (by omega), k2.put1 _⟩, by simp [intOf]; omega⟩)
      · have Hs := Lib.hid (HS0.out k (by omega))
        clear HS1 HS0 HB HW
        generalize wsum xs (k : Int) 5 = S at *
        go_wp2_with (go_at_call 86; (with_reducible refine (HC.out _).mono ?_); rintro e w3 ⟨rfl, hb⟩; replace hL := chain (B := w.heap.size) (a := w) hL (Nat.le_refl _) hb; replace kb := kb.keep hb; replace k1 := keepAt hb k1; replace k2 := keepAt hb k2; clear hb d0 d1 d2 d3 d4)
        exact ⟨⟨k + 1, by omega, by go_num, hL, kb, k1, by rw [Hs.out]; exact k2⟩, by simp [intOf]; omega⟩
    · have e : k = M := by omega
      rw [e] at k2
      clear e
      have hkn : ¬ (k : Int) < (M : Int) := by omega
      go_wp2_with fail
      refine bodyPost_ret (v := .agg #[.int .i64 (N : Int), .int .i64 (wTo xs b M)]) (by simp [results, Try.results62, go_sem, *]) rfl ?_
      exact ⟨rfl, by go_grown⟩

end Go.Proofs.Ytkbgboooidfloaa
