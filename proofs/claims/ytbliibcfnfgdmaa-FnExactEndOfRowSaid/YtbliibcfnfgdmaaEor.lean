/- EndOfRow: both contracts. -/
import Derived.Test.YtbliibcfnfgdmaaEnd
import Derived.Test.YtbliibcfnfgdmaaCtn
namespace Go.Proofs.Ytbliibcfnfgdmaa
open Go.RowKit
set_option linter.unusedVariables false

/-- each row that agrees with what is told so far is at an end -/
theorem rowsU_has : ∀ (m L : Nat) (u : ByteArray) (base r : Nat), SelU m L u → L < 32 → pcN L = m → base < 32 → r < 32 → (∀ i, i < 5 → dig L i = 1 → dig base i = 0) → (∀ i, i < 5 → dig L i = 0 → dig r i = dig base i) → (r : Int) ∈ rowsU m u base := by
  intro m
  induction m with
  | zero =>
    intro L u base r hu hL hp hb hr _ h2
    have e := (pc_zero hL).2 hp
    subst e
    have : r = base := dig_ext (k := 5) hr hb fun i hi => h2 i hi (by unfold dig; simp)
    subst this
    exact List.mem_singleton.2 rfl
  | succ m ih =>
    intro L u base r hu hL hp hb hr h1 h2
    obtain ⟨⟨_, _, hd, _⟩, hbit, hlo, hhi⟩ := hu.fork
    obtain ⟨h3, h4, h5⟩ := sub_dig hL hd hbit
    have hpc := pc_less hL hd hbit
    rw [rowsU, List.mem_append]
    have hr2 := dig_lt r (dgt u 0)
    by_cases hc : dig r (dgt u 0) = 0
    · left
      refine ih _ _ base r hlo h3 (by omega) hb hr (fun i hi hz => ?_) (fun i hi hz => ?_)
      · by_cases e : i = dgt u 0
        · subst e; rw [h4] at hz; omega
        · exact h1 i hi (by rw [← h5 i hi e]; exact hz)
      · by_cases e : i = dgt u 0
        · subst e; rw [hc, h1 _ hi hbit]
        · exact h2 i hi (by rw [← h5 i hi e]; exact hz)
    · right
      refine ih _ _ (base ||| 2 ^ dgt u 0) r hhi h3 (by omega) (or_lt32 hb hd) hr (fun i hi hz => ?_) (fun i hi hz => ?_)
      · rw [or_dig]
        by_cases e : i = dgt u 0
        · subst e; rw [h4] at hz; omega
        · rw [if_neg e]; exact h1 i hi (by rw [← h5 i hi e]; exact hz)
      · rw [or_dig]
        by_cases e : i = dgt u 0
        · subst e; rw [if_pos rfl]; omega
        · rw [if_neg e]; exact h2 i hi (by rw [← h5 i hi e]; exact hz)
theorem rows_all {n : Nat} {W : ByteArray} (n1 : 1 ≤ n) (n5 : n ≤ 5) (hW : SelU n (2 ^ n - 1) W) {r : Nat} (hr : r < 2 ^ n) : (r : Int) ∈ rowsU n W 0 := by
  have h32 := pow5' n5
  have hp := Nat.two_pow_pos n
  refine rowsU_has n (2 ^ n - 1) W 0 r hW (by omega) (pc_full ⟨n, by omega⟩) (by decide) (by omega) (fun i _ _ => by unfold dig; simp) (fun i hi hz => ?_)
  rcases Nat.lt_or_ge i n with h | h
  · rw [dig_full h] at hz; omega
  · have : dig r i = 0 := by
      unfold dig
      rw [Nat.div_eq_of_lt (Nat.lt_of_lt_of_le hr (Nat.pow_le_pow_right (by decide) h))]
    rw [this]; unfold dig; simp

/-- the place of a number in a list -/
def idxF (xs : List Int) (x : Int) : Nat := xs.findIdx fun y => x == y
theorem idxF_lt {xs : List Int} {x : Int} (h : x ∈ xs) : idxF xs x < xs.length := List.findIdx_lt_length_of_exists ⟨x, h, by simp⟩
theorem idxF_no {xs : List Int} {x : Int} {i : Nat} (h : i < idxF xs x) : (x == xs.getD i 0) = false := by
  have hl : i < xs.length := Nat.lt_of_lt_of_le h List.findIdx_le_length
  rw [List.getD_eq_getElem?_getD, List.getElem?_eq_getElem hl]
  have := List.not_of_lt_findIdx h
  simpa using this
theorem idxF_yes {xs : List Int} {x : Int} (h : idxF xs x < xs.length) : (x == xs.getD (idxF xs x) 0) = true := by
  rw [List.getD_eq_getElem?_getD, List.getElem?_eq_getElem h]
  exact List.findIdx_getElem (w := h)

def eorB (n : Int) (s : ByteArray) (row : Int) : Bool := isSel n s && decide (0 ≤ row ∧ row < ((2 ^ n.toNat : Nat) : Int))
def resEndOfRow_0 (n : Int) (s : ByteArray) (row : Int) : Int := if eorB n s row = true then (idxF (rowsU n.toNat s 0) row : Int) else 0
def resEndOfRow_1 (n : Int) (s : ByteArray) (row : Int) : Int := if eorB n s row = true then 0 else 2
theorem resEor_in {n : Int} {s : ByteArray} {row : Int} (h : eorB n s row = true) : resEndOfRow_0 n s row = (idxF (rowsU n.toNat s 0) row : Int) ∧ resEndOfRow_1 n s row = 0 := ⟨if_pos h, if_pos h⟩
theorem resEor_out {n : Int} {s : ByteArray} {row : Int} (h : eorB n s row = false) : resEndOfRow_0 n s row = 0 ∧ resEndOfRow_1 n s row = 2 := ⟨if_neg (by rw [h]; decide), if_neg (by rw [h]; decide)⟩

set_option maxRecDepth 100000 in
set_option maxHeartbeats 1000000 in
theorem iEndOfRow_any (n : Int) (s : ByteArray) (hs : s.size ≤ 1048576) (row : Int) (w : World) :
    Calls Try.prog 27 #[.int .i64 n, .string s, .int .i64 row] w fun e w' => e = .returned (.tuple #[.int .i64 (resEndOfRow_0 n s row), .int .i64 (resEndOfRow_1 n s row)]) ∧ Below w.heap.size w w' := by
  have HI := Lib.hid (fun w => iIsSelector_any n s hs w)
  cases h : isSel n s
  · have he : eorB n s row = false := by unfold eorB; rw [h]; rfl
    rw [(resEor_out he).1, (resEor_out he).2]
    rw [h] at HI
    clear h he
    go_enter Try.func27, Try.ntmps27
    go_wp2_with (go_at_call 22; (with_reducible refine (HI.out _).mono ?_); rintro e w1 ⟨rfl, hL⟩)
    go_ret2
    exact ⟨rfl, hL⟩
  · obtain ⟨⟨n1, n5⟩, hS⟩ := isSel_out h
    obtain ⟨N, rfl⟩ : ∃ N : Nat, n = (N : Int) := ⟨n.toNat, by omega⟩
    have HR : Hid (∀ w, Calls Try.prog 51 #[.int .i64 (N : Int)] w fun e w' => e = .returned (.int .i64 ((2 ^ N : Nat) : Int)) ∧ w = w') := fun w => by
      have := rowCount_any (N : Int) w n1 n5; unfold rcZ at this; rwa [Int.toNat_natCast] at this
    by_cases hr : 0 ≤ row ∧ row < ((2 ^ N : Nat) : Int)
    · have he : eorB (N : Int) s row = true := by unfold eorB; rw [h, Int.toNat_natCast, decide_eq_true hr]; rfl
      rw [(resEor_in he).1, (resEor_in he).2]
      rw [h] at HI
      rw [Int.toNat_natCast] at hS ⊢
      have HB := Lib.hid (fun w => isBelow_yes row ((2 ^ N : Nat) : Int) w hr)
      have HE := Lib.hid (fun w => rowsOfEnds_any N s w (by omega) (by omega) hS)
      have hmem : row ∈ rowsU N s 0 := by
        have := rows_all (by omega) (by omega) hS (r := row.toNat) (by omega)
        rwa [Int.toNat_of_nonneg hr.1] at this
      have hlt := idxF_lt hmem
      generalize rowsU N s 0 = xs at *
      have HX := Lib.hid (fun (v : Value) (w : World) (ha : Reads w v xs) => index_any v xs row (idxF xs row) w ha (Nat.le_of_lt hlt) (fun i hi => idxF_no hi) (fun h => idxF_yes h) (r := (idxF xs row : Int)) (if_pos hlt))
      generalize ((2 ^ N : Nat) : Int) = R at *
      generalize (idxF xs row : Int) = J at *
      clear h he hS hr hmem hlt
      go_enter Try.func27, Try.ntmps27
      go_wp2_with (first | (go_at_call 22; (with_reducible refine (HI.out _).mono ?_); rintro e w1 ⟨rfl, hL⟩) | (go_at_call 51; (with_reducible refine (HR.out _).mono ?_); rintro e w' ⟨rfl, rfl⟩) | (go_at_call 58; (with_reducible refine (HB.out _).mono ?_); rintro e w' ⟨rfl, rfl⟩))
      refine (HE.out _).mono ?_
      rintro e w2 ⟨u, rfl, ho, hb⟩
      replace hL := chain (B := w.heap.size) (a := w) hL (Nat.le_refl _) hb
      clear hb
      have hR := Lib.hid ho.reads
      obtain ⟨_, _, rfl, _⟩ := ho.reads
      clear ho
      go_wp2_with (go_at_call 59; (with_reducible refine (HX.out _ _ hR.out).mono ?_); rintro e w3 ⟨rfl, rfl⟩)
      go_ret2
      exact ⟨rfl, hL⟩
    · have he : eorB (N : Int) s row = false := by unfold eorB; rw [Int.toNat_natCast, decide_eq_false hr]; simp
      rw [(resEor_out he).1, (resEor_out he).2]
      rw [h] at HI
      have HB := Lib.hid (fun w => isBelow_no row ((2 ^ N : Nat) : Int) w hr)
      generalize ((2 ^ N : Nat) : Int) = R at *
      clear h he hS hr
      go_enter Try.func27, Try.ntmps27
      go_wp2_with (first | (go_at_call 22; (with_reducible refine (HI.out _).mono ?_); rintro e w1 ⟨rfl, hL⟩) | (go_at_call 51; (with_reducible refine (HR.out _).mono ?_); rintro e w' ⟨rfl, rfl⟩) | (go_at_call 58; (with_reducible refine (HB.out _).mono ?_); rintro e w' ⟨rfl, rfl⟩))
      go_ret2
      exact ⟨rfl, hL⟩

set_option maxRecDepth 100000 in
set_option maxHeartbeats 1000000 in
theorem sEndOfRow_any (n : Int) (s : ByteArray) (hs : s.size ≤ 1048576) (row : Int) (w : World) :
    Calls Try.prog 26 #[.int .i64 n, .string s, .int .i64 row] w fun e w' => e = .returned (.tuple #[.int .i64 (resEndOfRow_0 n s row), .int .i64 (resEndOfRow_1 n s row)]) ∧ Below w.heap.size w w' := by
  have HI := Lib.hid (fun w => l09Is_any n s w hs)
  cases h : isSel n s
  · have he : eorB n s row = false := by unfold eorB; rw [h]; rfl
    rw [(resEor_out he).1, (resEor_out he).2]
    rw [h] at HI
    clear h he
    go_enter Try.func26, Try.ntmps26
    go_wp2_with (go_at_call 49; (with_reducible refine (HI.out _).mono ?_); rintro e w1 ⟨rfl, hL⟩)
    go_ret2
    exact ⟨rfl, hL⟩
  · obtain ⟨⟨n1, n5⟩, hS⟩ := isSel_out h
    obtain ⟨N, rfl⟩ : ∃ N : Nat, n = (N : Int) := ⟨n.toNat, by omega⟩
    have HR : Hid (∀ w, Calls Try.prog 57 #[.int .i64 (N : Int)] w fun e w' => e = .returned (.int .i64 ((2 ^ N : Nat) : Int)) ∧ w = w') := fun w => by
      have := l01Rows_any (N : Int) w n1 n5; unfold rcZ at this; rwa [Int.toNat_natCast] at this
    have hp5 : ((2 ^ N : Nat) : Int) ≤ 32 := by have := pow5' (n := N) (by omega); omega
    have hp1 : (1 : Int) ≤ ((2 ^ N : Nat) : Int) := by have := Nat.two_pow_pos N; omega
    by_cases hr : 0 ≤ row ∧ row < ((2 ^ N : Nat) : Int)
    · have he : eorB (N : Int) s row = true := by unfold eorB; rw [h, Int.toNat_natCast, decide_eq_true hr]; rfl
      rw [(resEor_in he).1, (resEor_in he).2]
      rw [h] at HI
      rw [Int.toNat_natCast] at hS ⊢
      have HB := Lib.hid (fun w => l01In_yes row 0 (((2 ^ N : Nat) : Int) - 1) w (by omega))
      have HE := Lib.hid (fun w => l09Rows_any N _ 0 s w hS (by omega) (by decide))
      have hmem : row ∈ rowsU N s 0 := by
        have := rows_all (by omega) (by omega) hS (r := row.toNat) (by omega)
        rwa [Int.toNat_of_nonneg hr.1] at this
      have hlt := idxF_lt hmem
      have hlen := rowsU_len N s 0
      have hpN := pow5' (n := N) (by omega)
      generalize rowsU N s 0 = xs at *
      have HNo := Lib.hid (fun i (h : i < idxF xs row) => idxF_no h)
      have HYes := Lib.hid (idxF_yes hlt)
      obtain ⟨j, hj⟩ : ∃ j, idxF xs row = j := ⟨_, rfl⟩
      rw [hj] at HNo HYes hlt ⊢
      have hx32 : xs.length ≤ 32 := by omega
      generalize ((2 ^ N : Nat) : Int) = R at *
      clear h he hS hr hmem hlen hpN hj
      go_enter Try.func26, Try.ntmps26
      go_wp2_with (first | (go_at_call 49; (with_reducible refine (HI.out _).mono ?_); rintro e w1 ⟨rfl, hL⟩) | (go_at_call 57; (with_reducible refine (HR.out _).mono ?_); rintro e w' ⟨rfl, rfl⟩) | (go_at_call 56; (with_reducible refine (HB.out _).mono ?_); rintro e w' ⟨rfl, rfl⟩))
      refine (HE.out _).mono ?_
      rintro e w2 ⟨u, rfl, ho, hb⟩
      replace hL := chain (B := w.heap.size) (a := w) hL (Nat.le_refl _) hb
      clear hb
      obtain ⟨a, ca, rfl, hm, ha'⟩ := ho.reads
      have Ha : Hid (∀ i, i < xs.length → ∃ b off, a = some ⟨b, off, none⟩ ∧ w2.cell? ⟨b, off + i, none⟩ = some (.int .i64 (xs.getD i 0))) := by
        rcases ha' with rfl | ⟨b, off, rfl, ha'⟩
        · intro i hi; simp at hi
        · intro i hi; exact ⟨b, off, rfl, ha' i hi⟩
      clear ho ha' hm
      generalize hnn : xs.length = M at *
      clear hnn
      go_wp2_with fail
      go_loop [26] (fun c => ∃ k : Nat, k ≤ j ∧ c = .int .i64 (k : Int)) (fun c => M - (intOf c).toNat)
      case atStart => exact ⟨0, Nat.zero_le _, rfl⟩
      case round =>
        obtain ⟨k, hk, rfl⟩ := hrel
        have hkM : k < M := by omega
        obtain ⟨b, off, rfl, hca⟩ := Ha.out k hkM
        have hi1 : (k : Int) < (M : Int) := by omega
        have hi0 : (0 : Int) ≤ (k : Int) := by omega
        by_cases hkj : k < j
        · have hd : (xs.getD k 0 == row) = false := by
            have := HNo.out k hkj
            rw [beq_eq_false_iff_ne] at this ⊢; omega
          generalize xs.getD k 0 = y at *
          go_wp2_with fail
          go_round
          case rel => exact ⟨k + 1, by omega, by go_num⟩
          case measure => simp [intOf]; omega
        · have e : k = j := by omega
          subst e
          have hd : (xs.getD k 0 == row) = true := by
            have := HYes.out
            rw [beq_iff_eq] at this ⊢; omega
          generalize xs.getD k 0 = y at *
          go_wp2_with fail
          go_ret2
          exact ⟨rfl, hL⟩
    · have he : eorB (N : Int) s row = false := by unfold eorB; rw [Int.toNat_natCast, decide_eq_false hr]; simp
      rw [(resEor_out he).1, (resEor_out he).2]
      rw [h] at HI
      have HB := Lib.hid (fun w => l01In_no row 0 (((2 ^ N : Nat) : Int) - 1) w (by omega))
      generalize ((2 ^ N : Nat) : Int) = R at *
      clear h he hS hr
      go_enter Try.func26, Try.ntmps26
      go_wp2_with (first | (go_at_call 49; (with_reducible refine (HI.out _).mono ?_); rintro e w1 ⟨rfl, hL⟩) | (go_at_call 57; (with_reducible refine (HR.out _).mono ?_); rintro e w' ⟨rfl, rfl⟩) | (go_at_call 56; (with_reducible refine (HB.out _).mono ?_); rintro e w' ⟨rfl, rfl⟩))
      go_ret2
      exact ⟨rfl, hL⟩

end Go.Proofs.Ytbliibcfnfgdmaa
