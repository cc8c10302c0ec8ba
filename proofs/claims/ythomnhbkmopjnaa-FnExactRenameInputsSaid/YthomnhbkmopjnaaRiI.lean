/- RenameInputs: the program's. -/
import Derived.Test.YthomnhbkmopjnaaOrm
import Derived.Test.YthomnhbkmopjnaaRnq
namespace Go.Proofs.Ythomnhbkmopjnaa
open Go.RowKit
set_option linter.unusedVariables false

set_option maxRecDepth 100000 in
set_option maxHeartbeats 4000000 in
theorem renClos_any (k N : Nat) (ps : List Int) (v : Value) (bp : Nat) (w : World) (n5 : N ≤ 5) (hk : k < 32) (hl : ps.length = N) (hb : ∀ a, a < N → 0 ≤ ps.getD a 0 ∧ ps.getD a 0 < 5) (hc : w.cell? ⟨bp, 0, none⟩ = some v) (ha : Reads w v ps) :
    Calls Try.prog 26 #[.int .i64 (k : Int), .pointer (some ⟨bp, 0, none⟩)] w fun e w' => e = .returned (.int .i64 (rowR ps k N)) ∧ Below w.heap.size w w' := by
  obtain ⟨a, ca, rfl, hm, ha'⟩ := ha
  have Ha : Hid (∀ i, i < N → ∃ b off, a = some ⟨b, off, none⟩ ∧ w.cell? ⟨b, off + i, none⟩ = some (.int .i64 (ps.getD i 0))) := by
    rcases ha' with rfl | ⟨b, off, rfl, ha'⟩
    · intro i hi; simp at hl; omega
    · intro i hi; exact ⟨b, off, rfl, ha' i (by omega)⟩
  have Hb := Lib.hid hb
  rw [hl] at hc
  clear hl hm ha' hb
  have hR0 : rowR ps k 0 = 0 := rfl
  go_enter Try.func26, Try.ntmps26
  go_wp2_with fail
  go_loopw [4, 9] (fun r c wr => ∃ i : Nat, i ≤ N ∧ c = .int .i64 (i : Int) ∧ r = .int .i64 (rowR ps k i) ∧ Below w.heap.size w wr) (fun _ c _ => N - (intOf c).toNat)
  case atStart => exact ⟨0, Nat.zero_le _, rfl, by rw [hR0], Below.refl _ _⟩
  case round =>
    clear hR0
    obtain ⟨i, hi, rfl, rfl, hL⟩ := hrel
    by_cases hli : i < N
    · obtain ⟨b, off, rfl, hc0⟩ := Ha.out i hli
      have hca := cell_later hL hc0
      have hbd := Hb.out i hli
      have hi1 : (i : Int) < (N : Int) := by omega
      have hi0 : (0 : Int) ≤ (i : Int) := by omega
      have Hs := Lib.hid (rowR_step (ps := ps) (k := k) (i := i) rfl hbd.1 (by omega))
      have HD := Lib.hid (fun w => digitAt_any (k : Int) (ps.getD i 0) w (by omega) (by omega) hbd.1 (by omega))
      obtain ⟨b0, b1⟩ := hbd
      clear hc0
      generalize ps.getD i 0 = x at *
      go_wp2_with ((go_at_call 27; (with_reducible refine (HD.out _).mono ?_); rintro e w' ⟨rfl, rfl⟩))
      rw [Hs.out]
      exact ⟨⟨i + 1, by omega, by go_num, rfl, hL⟩, by simp [intOf]; omega⟩
    · have e : i = N := by omega
      have hin : ¬ (i : Int) < (N : Int) := by omega
      rw [e]
      clear e
      go_wp2_with fail
      go_ret
      exact ⟨rfl, hL⟩

set_option maxRecDepth 100000 in
set_option maxHeartbeats 4000000 in
theorem renamed_any (v : Int) (N : Nat) (vp : Value) (ps : List Int) (w : World) (n1 : 1 ≤ N) (n5 : N ≤ 5) (h0 : 0 ≤ v) (hv : v < 9223372036854775808) (hp : Reads w vp ps) (hl : ps.length = N) (hb : ∀ a, a < N → 0 ≤ ps.getD a 0 ∧ ps.getD a 0 < 5) :
    Calls Try.prog 15 #[.agg #[.int .i64 (N : Int), .int .i64 v], vp] w fun e w' => e = .returned (.agg #[.int .i64 (N : Int), .int .i64 (renTo v ps N (2 ^ N))]) ∧ Below w.heap.size w w' := by
  have Hp := Lib.hid hp
  obtain ⟨a, ca, rfl, hm, _⟩ := hp
  have k0 : C2 (((w.alloc (.cells #[.int .i64 (N : Int), .int .i64 v] 25)).alloc (.cells #[.slice a ps.length ca] 24)).alloc (.cells #[.int .i64 0, .int .i64 0] 25)) w.heap.size (.int .i64 (N : Int)) (.int .i64 v) := ((C2.here w _ _ _).alloc _).alloc _
  have c1 : (((w.alloc (.cells #[.int .i64 (N : Int), .int .i64 v] 25)).alloc (.cells #[.slice a ps.length ca] 24)).alloc (.cells #[.int .i64 0, .int .i64 0] 25)).cell? ⟨w.heap.size + 1, 0, none⟩ = some (.slice a ps.length ca) := by
    rw [World.cell?_alloc_past _ _ _ (by simp), World.cell?_alloc_at _ _ _ _ (by simp)]; rfl
  have k2 := C2.here ((w.alloc (.cells #[.int .i64 (N : Int), .int .i64 v] 25)).alloc (.cells #[.slice a ps.length ca] 24)) (.int .i64 0) (.int .i64 0) 25
  simp only [World.size_alloc] at k2
  have hL0 : Below w.heap.size w (((w.alloc (.cells #[.int .i64 (N : Int), .int .i64 v] 25)).alloc (.cells #[.slice a ps.length ca] 24)).alloc (.cells #[.int .i64 0, .int .i64 0] 25)) := by go_grown
  have HR := Lib.hid (Hp.out.keep hL0)
  have h32 := pow5 n5
  have HT := Lib.hid (fun (wx : World) => tableFrom_any (N : Int) v (N : Int) 26 #[.pointer (some ⟨w.heap.size + 1, 0, none⟩)] (fun j => (rowR ps j N).toNat) wx h0 hv (by omega) (by omega))
  have HB := Lib.hid hb
  have HLn := Lib.hid hl
  clear hb hl Hp
  go_enter Try.func15, Try.ntmps15
  go_wp2_with fail
  refine (HT.out _ ?_ ?_ (enters_of Try.func26 (by kernel_rfl) rfl)).mono ?_
  · intro k wx hk hb
    rw [Int.toNat_natCast] at hk
    refine (renClos_any k N ps _ _ wx n5 (by omega) HLn.out HB.out (cell_later hb c1) (HR.out.keep hb)).mono ?_
    rintro e w' ⟨rfl, hb'⟩
    exact ⟨by rw [Int.toNat_of_nonneg (rowR_bd n5).1], hb'⟩
  · intro k hk
    have := (rowR_bd (ps := ps) (k := k) n5).2
    have := (rowR_bd (ps := ps) (k := k) n5).1
    omega
  rintro e w1 ⟨rfl, hb⟩
  have hL := chain (B := w.heap.size) (a := w) hL0 (Nat.le_refl _) hb
  replace k2 := keepAt hb k2
  clear hb hL0 HT
  go_wp2_with fail
  refine bodyPost_ret (v := .agg #[.int .i64 (N : Int), .int .i64 (buildZ (fun j => dig v.toNat (rowR ps j N).toNat) (2 ^ (N : Int).toNat))]) (by simp [results, Try.results15, go_sem, *]) rfl ?_
  exact ⟨by rw [Int.toNat_natCast]; rfl, by go_grown⟩

/-- what RenameInputs gives -/
def renOk (n v : Int) (ps : List Int) : Bool := isTab n v && ordB ps n.toNat
def resRenameInputs_0n (n v : Int) (ps : List Int) : Int := if renOk n v ps = true then n else 0
def resRenameInputs_0m (n v : Int) (ps : List Int) : Int := if renOk n v ps = true then renTo v ps n.toNat (2 ^ n.toNat) else 0
def resRenameInputs_1 (n v : Int) (ps : List Int) : Int := if isTab n v = true then (if ordB ps n.toNat = true then 0 else 2) else 1
theorem resRen_no {n v : Int} {ps : List Int} (h : isTab n v = false) : resRenameInputs_0n n v ps = 0 ∧ resRenameInputs_0m n v ps = 0 ∧ resRenameInputs_1 n v ps = 1 := by
  have h2 : ¬ renOk n v ps = true := by unfold renOk; rw [h]; simp
  unfold resRenameInputs_0n resRenameInputs_0m resRenameInputs_1
  rw [if_neg h2, if_neg h2, if_neg (by rw [h]; decide)]; exact ⟨rfl, rfl, rfl⟩
theorem resRen_not {n v : Int} {ps : List Int} (h : isTab n v = true) (ho : ordB ps n.toNat = false) : resRenameInputs_0n n v ps = 0 ∧ resRenameInputs_0m n v ps = 0 ∧ resRenameInputs_1 n v ps = 2 := by
  have h2 : ¬ renOk n v ps = true := by unfold renOk; rw [ho]; simp
  unfold resRenameInputs_0n resRenameInputs_0m resRenameInputs_1
  rw [if_neg h2, if_neg h2, if_pos h, if_neg (by rw [ho]; decide)]; exact ⟨rfl, rfl, rfl⟩
theorem resRen_yes {n v : Int} {ps : List Int} (h : isTab n v = true) (ho : ordB ps n.toNat = true) : resRenameInputs_0n n v ps = n ∧ resRenameInputs_0m n v ps = renTo v ps n.toNat (2 ^ n.toNat) ∧ resRenameInputs_1 n v ps = 0 := by
  have h2 : renOk n v ps = true := by unfold renOk; rw [h, ho]; rfl
  unfold resRenameInputs_0n resRenameInputs_0m resRenameInputs_1
  rw [if_pos h2, if_pos h2, if_pos h, if_pos ho]; exact ⟨rfl, rfl, rfl⟩
theorem ord_bd {ps : List Int} {N : Nat} (n5 : N ≤ 5) (h : ordB ps N = true) : ps.length = N ∧ ∀ a, a < N → 0 ≤ ps.getD a 0 ∧ ps.getD a 0 < 5 := by
  obtain ⟨h1, h2, _⟩ := (ordB_iff ps N).1 h
  refine ⟨h1, fun a ha => ?_⟩
  have := h2 _ (getD_mem (show a < ps.length by omega))
  omega

set_option maxRecDepth 100000 in
set_option maxHeartbeats 4000000 in
theorem iRenameInputs_any (n v : Int) (vp : Value) (ps : List Int) (w : World) (ha : Reads w vp ps) :
    Calls Try.prog 7 #[.agg #[.int .i64 n, .int .i64 v], vp] w fun e w' => e = .returned (.tuple #[.agg #[.int .i64 (resRenameInputs_0n n v ps), .int .i64 (resRenameInputs_0m n v ps)], .int .i64 (resRenameInputs_1 n v ps)]) ∧ Below w.heap.size w w' := by
  have k0 : C2 ((w.alloc (.cells #[.int .i64 n, .int .i64 v] 25)).alloc (.cells #[.int .i64 0, .int .i64 0] 25)) (w.heap.size) (.int .i64 n) (.int .i64 v) := by simpa using (C2.here w (.int .i64 n) (.int .i64 v) 25).alloc (.cells #[.int .i64 0, .int .i64 0] 25)
  have k1 : C2 ((w.alloc (.cells #[.int .i64 n, .int .i64 v] 25)).alloc (.cells #[.int .i64 0, .int .i64 0] 25)) (w.heap.size + 1) (.int .i64 0) (.int .i64 0) := by simpa using C2.here (w.alloc (.cells #[.int .i64 n, .int .i64 v] 25)) (.int .i64 0) (.int .i64 0) 25
  have HR := Lib.hid ha
  obtain ⟨va, vc, rfl, hm, _⟩ := ha
  cases ht : isTab n v
  · have hr := Lib.hid (resRen_no (ps := ps) ht)
    have Ht := Lib.hid ht
    clear ht
    go_enter Try.func7, Try.ntmps7
    go_wp2_with (first | (go_at_call 13; (with_reducible refine (isTable_b _ _ _ Ht.out).mono ?_); rintro e w' ⟨rfl, hb⟩; have hL := chain (B := w.heap.size) (a := w) (by go_grown) (Nat.le_refl _) hb; (first | replace k0 := keepAt hb k0 | replace k0 := keepAt hb (C2.alloc k0 _)); (first | replace k1 := keepAt hb k1 | replace k1 := keepAt hb (C2.alloc k1 _)); clear hb))
    refine bodyPost_ret (v := .tuple #[.agg #[.int .i64 0, .int .i64 0], .int .i64 1]) (by simp [results, Try.results7, go_sem, *]) rfl ?_
    exact ⟨by rw [hr.out.1, hr.out.2.1, hr.out.2.2], by go_grown⟩
  · obtain ⟨n1, n5, h0, hv⟩ := tab_bd ht
    obtain ⟨N, rfl⟩ : ∃ N : Nat, n = (N : Int) := ⟨n.toNat, by omega⟩
    have HO := Lib.hid (fun v w (h : Reads w v ps) => isOrder_any v ps N w h (by omega))
    cases ho : ordB ps N
    · have hr := Lib.hid (resRen_not (v := v) (ps := ps) ht (by rw [Int.toNat_natCast]; exact ho))
      have Ht := Lib.hid ht
      rw [ho] at HO
      clear ht ho
      go_enter Try.func7, Try.ntmps7
      go_wp2_with (first | (go_at_call 13; (with_reducible refine (isTable_b _ _ _ Ht.out).mono ?_); rintro e w' ⟨rfl, hb⟩; have hL := chain (B := w.heap.size) (a := w) (by go_grown) (Nat.le_refl _) hb; (first | replace k0 := keepAt hb k0 | replace k0 := keepAt hb (C2.alloc k0 _)); (first | replace k1 := keepAt hb k1 | replace k1 := keepAt hb (C2.alloc k1 _)); clear hb) | (go_at_call 14; (refine (HO.out _ _ (HR.out.keep (by first | exact hL | go_grown))).mono ?_); rintro e w2 ⟨rfl, hb⟩; replace hL := chain (B := w.heap.size) (a := w) (by first | exact hL | go_grown) (Nat.le_refl _) hb; replace k0 := keepAt hb k0; replace k1 := keepAt hb k1; clear hb))
      refine bodyPost_ret (v := .tuple #[.agg #[.int .i64 0, .int .i64 0], .int .i64 2]) (by simp [results, Try.results7, go_sem, *]) rfl ?_
      exact ⟨by rw [hr.out.1, hr.out.2.1, hr.out.2.2], by go_grown⟩
    · have hr := Lib.hid (resRen_yes (v := v) (ps := ps) ht (by rw [Int.toNat_natCast]; exact ho))
      have Ht := Lib.hid ht
      obtain ⟨hl, hb⟩ := ord_bd (by omega) ho
      have HRn := Lib.hid (fun u w (h : Reads w u ps) => renamed_any v N u ps w (by omega) (by omega) h0 hv h hl hb)
      rw [ho] at HO
      clear ht ho hl hb
      rw [Int.toNat_natCast] at hr
      generalize renTo v ps N (2 ^ N) = R at *
      go_enter Try.func7, Try.ntmps7
      go_wp2_with (first | (go_at_call 13; (with_reducible refine (isTable_b _ _ _ Ht.out).mono ?_); rintro e w' ⟨rfl, hb⟩; have hL := chain (B := w.heap.size) (a := w) (by go_grown) (Nat.le_refl _) hb; (first | replace k0 := keepAt hb k0 | replace k0 := keepAt hb (C2.alloc k0 _)); (first | replace k1 := keepAt hb k1 | replace k1 := keepAt hb (C2.alloc k1 _)); clear hb) | (go_at_call 14; (refine (HO.out _ _ (HR.out.keep (by first | exact hL | go_grown))).mono ?_); rintro e w2 ⟨rfl, hb⟩; replace hL := chain (B := w.heap.size) (a := w) (by first | exact hL | go_grown) (Nat.le_refl _) hb; replace k0 := keepAt hb k0; replace k1 := keepAt hb k1; clear hb) | (go_at_call 15; (refine (HRn.out _ _ (HR.out.keep (by first | exact hL | go_grown))).mono ?_); rintro e w3 ⟨rfl, hb⟩; replace hL := chain (B := w.heap.size) (a := w) (by first | exact hL | go_grown) (Nat.le_refl _) hb; replace k0 := keepAt hb k0; replace k1 := keepAt hb k1; clear hb))
      refine bodyPost_ret (v := .tuple #[.agg #[.int .i64 (N : Int), .int .i64 R], .int .i64 0]) (by simp [results, Try.results7, go_sem, *]) rfl ?_
      exact ⟨by rw [hr.out.1, hr.out.2.1, hr.out.2.2], by go_grown⟩

set_option maxRecDepth 100000 in
set_option maxHeartbeats 4000000 in
theorem sRenameInputs_any (n v : Int) (vp : Value) (ps : List Int) (w : World) (ha : Reads w vp ps) :
    Calls Try.prog 4 #[.agg #[.int .i64 n, .int .i64 v], vp] w fun e w' => e = .returned (.tuple #[.agg #[.int .i64 (resRenameInputs_0n n v ps), .int .i64 (resRenameInputs_0m n v ps)], .int .i64 (resRenameInputs_1 n v ps)]) ∧ Below w.heap.size w w' := by
  have k0 : C2 ((w.alloc (.cells #[.int .i64 n, .int .i64 v] 25)).alloc (.cells #[.int .i64 0, .int .i64 0] 25)) (w.heap.size) (.int .i64 n) (.int .i64 v) := by simpa using (C2.here w (.int .i64 n) (.int .i64 v) 25).alloc (.cells #[.int .i64 0, .int .i64 0] 25)
  have k1 : C2 ((w.alloc (.cells #[.int .i64 n, .int .i64 v] 25)).alloc (.cells #[.int .i64 0, .int .i64 0] 25)) (w.heap.size + 1) (.int .i64 0) (.int .i64 0) := by simpa using C2.here (w.alloc (.cells #[.int .i64 n, .int .i64 v] 25)) (.int .i64 0) (.int .i64 0) 25
  have HR := Lib.hid ha
  obtain ⟨va, vc, rfl, hm, _⟩ := ha
  cases ht : isTab n v
  · have hr := Lib.hid (resRen_no (ps := ps) ht)
    have Ht := Lib.hid ht
    clear ht
    go_enter Try.func4, Try.ntmps4
    go_wp2_with (first | (go_at_call 10; (with_reducible refine (l01Is_b _ _ _ Ht.out).mono ?_); rintro e w' ⟨rfl, hb⟩; have hL := chain (B := w.heap.size) (a := w) (by go_grown) (Nat.le_refl _) hb; (first | replace k0 := keepAt hb k0 | replace k0 := keepAt hb (C2.alloc k0 _)); (first | replace k1 := keepAt hb k1 | replace k1 := keepAt hb (C2.alloc k1 _)); clear hb))
    refine bodyPost_ret (v := .tuple #[.agg #[.int .i64 0, .int .i64 0], .int .i64 1]) (by simp [results, Try.results4, go_sem, *]) rfl ?_
    exact ⟨by rw [hr.out.1, hr.out.2.1, hr.out.2.2], by go_grown⟩
  · obtain ⟨n1, n5, h0, hv⟩ := tab_bd ht
    obtain ⟨N, rfl⟩ : ∃ N : Nat, n = (N : Int) := ⟨n.toNat, by omega⟩
    have HO := Lib.hid (fun v w (h : Reads w v ps) => l01Order_any N v ps w h (by omega))
    cases ho : ordB ps N
    · have hr := Lib.hid (resRen_not (v := v) (ps := ps) ht (by rw [Int.toNat_natCast]; exact ho))
      have Ht := Lib.hid ht
      rw [ho] at HO
      clear ht ho
      go_enter Try.func4, Try.ntmps4
      go_wp2_with (first | (go_at_call 10; (with_reducible refine (l01Is_b _ _ _ Ht.out).mono ?_); rintro e w' ⟨rfl, hb⟩; have hL := chain (B := w.heap.size) (a := w) (by go_grown) (Nat.le_refl _) hb; (first | replace k0 := keepAt hb k0 | replace k0 := keepAt hb (C2.alloc k0 _)); (first | replace k1 := keepAt hb k1 | replace k1 := keepAt hb (C2.alloc k1 _)); clear hb) | (go_at_call 11; (refine (HO.out _ _ (HR.out.keep (by first | exact hL | go_grown))).mono ?_); rintro e w2 ⟨rfl, hb⟩; replace hL := chain (B := w.heap.size) (a := w) (by first | exact hL | go_grown) (Nat.le_refl _) hb; replace k0 := keepAt hb k0; replace k1 := keepAt hb k1; clear hb))
      refine bodyPost_ret (v := .tuple #[.agg #[.int .i64 0, .int .i64 0], .int .i64 2]) (by simp [results, Try.results4, go_sem, *]) rfl ?_
      exact ⟨by rw [hr.out.1, hr.out.2.1, hr.out.2.2], by go_grown⟩
    · have hr := Lib.hid (resRen_yes (v := v) (ps := ps) ht (by rw [Int.toNat_natCast]; exact ho))
      have Ht := Lib.hid ht
      obtain ⟨hl, hb⟩ := ord_bd (by omega) ho
      have HRn := Lib.hid (fun u w (h : Reads w u ps) => l01Renamed_any v N u ps w (by omega) (by omega) h0 hv h hl hb)
      rw [ho] at HO
      clear ht ho hl hb
      rw [Int.toNat_natCast] at hr
      generalize renTo v ps N (2 ^ N) = R at *
      go_enter Try.func4, Try.ntmps4
      go_wp2_with (first | (go_at_call 10; (with_reducible refine (l01Is_b _ _ _ Ht.out).mono ?_); rintro e w' ⟨rfl, hb⟩; have hL := chain (B := w.heap.size) (a := w) (by go_grown) (Nat.le_refl _) hb; (first | replace k0 := keepAt hb k0 | replace k0 := keepAt hb (C2.alloc k0 _)); (first | replace k1 := keepAt hb k1 | replace k1 := keepAt hb (C2.alloc k1 _)); clear hb) | (go_at_call 11; (refine (HO.out _ _ (HR.out.keep (by first | exact hL | go_grown))).mono ?_); rintro e w2 ⟨rfl, hb⟩; replace hL := chain (B := w.heap.size) (a := w) (by first | exact hL | go_grown) (Nat.le_refl _) hb; replace k0 := keepAt hb k0; replace k1 := keepAt hb k1; clear hb) | (go_at_call 12; (refine (HRn.out _ _ (HR.out.keep (by first | exact hL | go_grown))).mono ?_); rintro e w3 ⟨rfl, hb⟩; replace hL := chain (B := w.heap.size) (a := w) (by first | exact hL | go_grown) (Nat.le_refl _) hb; replace k0 := keepAt hb k0; replace k1 := keepAt hb k1; clear hb))
      refine bodyPost_ret (v := .tuple #[.agg #[.int .i64 (N : Int), .int .i64 R], .int .i64 0]) (by simp [results, Try.results4, go_sem, *]) rfl ?_
      exact ⟨by rw [hr.out.1, hr.out.2.1, hr.out.2.2], by go_grown⟩

end Go.Proofs.Ythomnhbkmopjnaa
