/- RowsOfEnds: the model's l09Rows. -/
import Derived.Test.YtbliibcfnfgdmaaBrM
import Derived.Test.YtbliibcfnfgdmaaApp2
import Derived.Test.YtbliibcfnfgdmaaSeS
import Derived.Deep.RegionHeld3
import Derived.Deep.RegionWith
namespace Go.Proofs.Ytbliibcfnfgdmaa
open Go.RowKit
set_option linter.unusedVariables false

set_option maxRecDepth 100000 in
set_option maxHeartbeats 1000000 in
theorem l09Sides_any (u : ByteArray) (m : Nat) (w : World) (h : u.size = lenT (m + 1)) (hm : m ≤ 5) :
    Calls Try.prog 88 #[.string u] w fun e w' => e = .returned (.tuple #[.string (loU m u), .string (hiU m u)]) ∧ Below w.heap.size w w' := by
  have hl := lenT_le hm
  rw [lenT_succ] at h
  have HL : Hid (loU m u = u.extract 1 (1 + lenT m)) := rfl
  have HH : Hid (hiU m u = u.extract (1 + lenT m) u.size) := rfl
  have hd : (u.size : Int).tdiv 2 = (lenT m : Int) := by
    rw [Int.tdiv_eq_ediv_of_nonneg (by omega)]; omega
  have hsz : lenT m + 1 ≤ u.size := by omega
  generalize lenT m = q at *
  have HS := Lib.hid h
  clear h
  go_enter Try.func88, Try.ntmps88
  go_wp2_with fail
  go_quiet (fail)
  go_wp2
  go_ret2
  exact ⟨by rw [HL.out, HH.out]; rfl, Bdrew (Below.refl _ _) _⟩

theorem ownsOne1 (w : World) (x : Int) : Owns (w.alloc (.cells #[.int .i64 x] 2)) w.heap.size (.slice (some ⟨w.heap.size, 0, none⟩) 1 1) [x] :=
  ⟨rfl, .inr ⟨w.heap.size, 1, _, rfl, Nat.le_refl _, heap_alloc_new w _, Nat.le_refl _, by decide, rfl, rfl⟩⟩

theorem or_lt32 {row d : Nat} (h : row < 32) (hd : d < 5) : row ||| 2 ^ d < 32 := Nat.or_lt_two_pow (n := 5) h (Nat.pow_lt_pow_right (by decide) hd)

set_option maxRecDepth 100000 in
set_option maxHeartbeats 4000000 in
theorem l09Rows_any : ∀ (m L row : Nat) (u : ByteArray) (w : World), SelU m L u → m ≤ 5 → row < 32 →
    Calls Try.prog 54 #[.string u, .int .i64 (row : Int)] w fun e w' => ∃ q, e = .returned q ∧ Owns w' w.heap.size q (rowsU m u row) ∧ Below w.heap.size w w' := by
  intro m
  induction m with
  | zero =>
    intro L row u w hu hm hr
    have e := hu.leaf
    subst e
    clear hu
    have HZ : Hid (rowsU 0 ⟨#[46]⟩ row = [(row : Int)]) := rfl
    rw [HZ.out]
    go_enter Try.func54, Try.ntmps54
    go_wp2
    go_ret
    exact ⟨_, rfl, ownsOne1 w (row : Int), by go_grown⟩
  | succ m ih =>
    intro L row u w hu hm hr
    obtain ⟨i0, hi0, hz0, hz1, hz2⟩ := info_parts info64
    obtain ⟨⟨b0, b1, hd, hde⟩, hbit, hlo, hhi⟩ := hu.fork
    have hsz : 0 < u.size := by rw [hu.1]; exact lenT_pos _
    have hby := byteAt_eq u 0 hsz
    have hlp := lenT_pos m
    have hne : (u.toList == [46]) = false := by
      have h2 : u.size = u.toList.length := by rw [Lib.toList_data, Array.length_toList]; rfl
      cases hx : (u.toList == [46])
      · rfl
      · have h3 : u.toList = [46] := by simpa using hx
        have h4 : u.size = 1 := by rw [h2, h3]; rfl
        have h5 := hu.1
        rw [lenT_succ] at h5; omega
    have HS := Lib.hid (fun w => l09Sides_any u m w hu.1 (by omega))
    obtain ⟨d, hdd⟩ : ∃ d, dgt u 0 = d := ⟨_, rfl⟩
    rw [hdd] at hde hd
    have hw8 : ((u[0].toNat : Int) - 48) = (d : Int) := by
      rw [hde, ← hby]
    have HL := Lib.hid (fun w => ih _ row (loU m u) w hlo (by omega) hr)
    have hor : bits .or .i64 (row : Int) (IntKind.i64.wrap ((2 : Int) ^ d)) = ((row ||| 2 ^ d : Nat) : Int) := by
      have h1 : (2 : Nat) ^ d ≤ 2 ^ 4 := Nat.pow_le_pow_right (by decide) (by omega)
      have e : ((2 : Int) ^ d) = ((2 ^ d : Nat) : Int) := by simp
      rw [e, wrap_i64_nat _ (by omega), i64_or _ _ (by omega) (by omega)]
    have HH := Lib.hid (fun w => ih _ (row ||| 2 ^ d) (hiU m u) w hhi (by omega) (or_lt32 hr hd))
    have HV : Hid (rowsU (m + 1) u row = rowsU m (loU m u) row ++ rowsU m (hiU m u) (row ||| 2 ^ d)) := by rw [← hdd]; rfl
    have HN0 := Lib.hid (rowsU_len m (loU m u) row)
    have HN1 := Lib.hid (rowsU_len m (hiU m u) (row ||| 2 ^ d))
    have HP : Hid (2 ^ m ≤ 32) := pow5' (by omega)
    rw [HV.out]
    generalize rowsU m (loU m u) row = xs at *
    generalize rowsU m (hiU m u) (row ||| 2 ^ d) = ys at *
    generalize loU m u = lo at *
    generalize hiU m u = hi at *
    have hraw : bits .or .i64 (row : Int) (IntKind.i64.wrap ((2 : Int) ^ min (IntKind.u64.wrap (IntKind.u8.wrap ((u[0].toNat : Int) - 48))).toNat 64)) = ((row ||| 2 ^ d : Nat) : Int) := by
      rw [← hor, IntWalk.u8_in _ (by omega), IntWalk.u64_in _ (by omega), show min ((u[0].toNat : Int) - 48).toNat 64 = d by omega]
    rw [← hraw] at HH
    have Hw8 := Lib.hid hw8
    clear HV hdd hde hby b0 b1 hbit hlo hhi hu ih hlp hor hraw hw8
    go_enter Try.func54, Try.ntmps54
    go_wp2_with (go_at_call 88; (with_reducible refine (HS.out _).mono ?_); rintro e w1 ⟨rfl, hL⟩)
    go_region_held3 (fun w' => True) (trivial) ((first | (go_at_call 54; (first | ((with_reducible refine (HL.out _).mono ?_); rintro e w2 ⟨q0, rfl, hq0, hb⟩; have hz2' := hb.size; have hL2 := chain (B := w.heap.size) (a := w) (by first | exact hL | go_grown) (Nat.le_refl _) hb; have HQ0 := Lib.hid (hq0.mono hL.size); clear hb hq0) | ((with_reducible refine (HH.out _).mono ?_); rintro e w3 ⟨q1, rfl, hq1, hb⟩; have hz3' := hb.size; have hL3 := chain (B := w.heap.size) (a := w) (by first | exact hL2 | go_grown) (Nat.le_refl _) hb; have HQ0' := Lib.hid (HQ0.out.keep (by first | exact hb | go_grown)); have HQ1 := Lib.hid hq1; clear hb hq1))) | (refine step_append_two (by rfl) _ _ 22 (by rfl) w.heap.size w2.heap.size 2 i0 (.int .i64 0) 1 8 Try.underlying22 hi0 hz0 hz1 hz2 (by rfl) (by decide) q0 q1 _ _ _ _ (by rfl) (by rfl) HQ0'.out HQ1.out (by intro x hx; obtain ⟨y, _, rfl⟩ := List.mem_map.1 hx; rfl) (by have := HN0.out; have := HN1.out; have := HP.out; unfold maxLen; omega) (by have := HN0.out; have := HN1.out; have := HP.out; omega) (by have := hL3.size; omega) ?_; intro v4 w4 hown hgr _; have hL4 := hL3.grown ⟨hgr.os, hgr.tape, hgr.output, hgr.size, hgr.block⟩ (by have := hL3.size; omega) (HQ0'.out.rowsFrom (B := w.heap.size) (Nat.le_refl _)); have HO4 : Hid (Owns w4 w.heap.size v4 (xs ++ ys)) := (by unfold Hid Owns; rw [List.length_append, List.map_append]; exact hown); clear hown hgr)))
    all_goals (go_wp2_with fail; go_ret; exact ⟨_, rfl, HO4.out, hL4⟩)

end Go.Proofs.Ytbliibcfnfgdmaa
