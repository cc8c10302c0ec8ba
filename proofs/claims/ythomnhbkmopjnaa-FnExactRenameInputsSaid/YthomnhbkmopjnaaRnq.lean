/- l01Renamed: the model's (parts of XSPart, XRnM, XRn). -/
import Derived.Test.YthomnhbkmopjnaaTf
import Derived.Test.YthomnhbkmopjnaaSl
import Derived.Deep.RegionWith
import Derived.Deep.RegionHeld3
import Derived.Shelf.Abstract
namespace Go.Proofs.Ythomnhbkmopjnaa
open Go.RowKit
set_option linter.unusedVariables false

theorem wrapW (x : Int) : IntKind.i64.wrap x = wrap64 x := IntWalk.i64_left x
theorem u64_in {x : Int} (h0 : 0 ≤ x) (h1 : x ≤ 63) : IntKind.u64.wrap x = x := IntWalk.u64_in _ (by omega)

/-- one row more, the row as a number of Go -/
theorem build_stepZ (v : Int) (f : Nat → Nat) (k : Nat) (r : Int) (hk : k < 32) (hr : 0 ≤ r) (e : f k = r.toNat) :
    bits .or .i64 (buildZ (fun j => dig v.toNat (f j)) k) (wrap64 (digZ v r * 2 ^ k)) = buildZ (fun j => dig v.toNat (f j)) (k + 1) := by
  have h := build_step v f k hk
  rw [e, Int.toNat_of_nonneg hr] at h
  exact h
theorem pow5 {N : Nat} (h : N ≤ 5) : 2 ^ N ≤ 32 := Nat.pow_le_pow_right (by decide) h
/-- the row that a row comes from when the inputs are renamed by a list: its first i digits -/
def rowR (ps : List Int) (k i : Nat) : Int := buildZ (fun a => dig (k : Int).toNat (ps.getD a 0).toNat) i
theorem rowR_step {ps : List Int} {k i : Nat} {x : Int} (hx : ps.getD i 0 = x) (h0 : 0 ≤ x) (hi : i < 32) : bits .or .i64 (rowR ps k i) (wrap64 (digZ (k : Int) x * 2 ^ i)) = rowR ps k (i + 1) :=
  build_stepZ (k : Int) (fun a => (ps.getD a 0).toNat) i x hi h0 (by rw [hx])
theorem rowR_bd {ps : List Int} {k N : Nat} (hN : N ≤ 5) : 0 ≤ rowR ps k N ∧ rowR ps k N ≤ 62 := by
  unfold rowR buildZ
  have h := build_lt (fun a => dig (k : Int).toNat (ps.getD a 0).toNat) N
  have := pow5 hN
  omega
/-- the values with the inputs renamed, in the first k rows -/
def renTo (v : Int) (ps : List Int) (N k : Nat) : Int := buildZ (fun r => dig v.toNat (rowR ps r N).toNat) k
theorem renTo_step (v : Int) {ps : List Int} {N k : Nat} (hN : N ≤ 5) (hk : k < 32) : bits .or .i64 (renTo v ps N k) (wrap64 (digZ v (rowR ps k N) * 2 ^ k)) = renTo v ps N (k + 1) :=
  build_stepZ v (fun r => (rowR ps r N).toNat) k (rowR ps k N) hk (rowR_bd hN).1 rfl

set_option maxRecDepth 100000 in
set_option maxHeartbeats 4000000 in
theorem l01Renamed_any (v : Int) (N : Nat) (vp : Value) (ps : List Int) (w : World) (n1 : 1 ≤ N) (n5 : N ≤ 5) (h0 : 0 ≤ v) (hv : v < 9223372036854775808) (hp : Reads w vp ps) (hl : ps.length = N) (hb : ∀ a, a < N → 0 ≤ ps.getD a 0 ∧ ps.getD a 0 < 5) :
    Calls Try.prog 12 #[.agg #[.int .i64 (N : Int), .int .i64 v], vp] w fun e w' => e = .returned (.agg #[.int .i64 (N : Int), .int .i64 (renTo v ps N (2 ^ N))]) ∧ Below w.heap.size w w' := by
  have k0 : C2 (((w.alloc (.cells #[.int .i64 (N : Int), .int .i64 v] 25)).alloc (.cells #[.int .i64 0, .int .i64 0] 25)).alloc (.cells #[.int .i64 (N : Int), .int .i64 0] 25)) (w.heap.size) (.int .i64 (N : Int)) (.int .i64 v) := by simpa using ((C2.here w (.int .i64 (N : Int)) (.int .i64 v) 25).alloc (.cells #[.int .i64 0, .int .i64 0] 25)).alloc (.cells #[.int .i64 (N : Int), .int .i64 0] 25)
  have k1 : C2 (((w.alloc (.cells #[.int .i64 (N : Int), .int .i64 v] 25)).alloc (.cells #[.int .i64 0, .int .i64 0] 25)).alloc (.cells #[.int .i64 (N : Int), .int .i64 0] 25)) (w.heap.size + 1) (.int .i64 0) (.int .i64 0) := by simpa using (C2.here (w.alloc (.cells #[.int .i64 (N : Int), .int .i64 v] 25)) (.int .i64 0) (.int .i64 0) 25).alloc (.cells #[.int .i64 (N : Int), .int .i64 0] 25)
  have k2 : C2 (((w.alloc (.cells #[.int .i64 (N : Int), .int .i64 v] 25)).alloc (.cells #[.int .i64 0, .int .i64 0] 25)).alloc (.cells #[.int .i64 (N : Int), .int .i64 0] 25)) (w.heap.size + 1 + 1) (.int .i64 (N : Int)) (.int .i64 0) := by simpa using C2.here ((w.alloc (.cells #[.int .i64 (N : Int), .int .i64 v] 25)).alloc (.cells #[.int .i64 0, .int .i64 0] 25)) (.int .i64 (N : Int)) (.int .i64 0) 25
  obtain ⟨a, ca, rfl, hm, ha'⟩ := hp
  have h32 := pow5 n5
  have Ha : Hid (∀ i, i < N → ∃ b off, a = some ⟨b, off, none⟩ ∧ w.cell? ⟨b, off + i, none⟩ = some (.int .i64 (ps.getD i 0))) := by
    rcases ha' with rfl | ⟨b, off, rfl, ha'⟩
    · intro i hi; simp at hl; omega
    · intro i hi; exact ⟨b, off, rfl, ha' i (by omega)⟩
  have Hb := Lib.hid hb
  have HR : Hid (∀ w, Calls Try.prog 18 #[.int .i64 (N : Int)] w fun e w' => e = .returned (.int .i64 ((2 ^ N : Nat) : Int)) ∧ w = w') := fun w => by
    have := l01Rows_any (N : Int) w (by omega) (by omega)
    unfold rcZ at this
    rw [Int.toNat_natCast] at this
    exact this
  rw [hl]
  obtain ⟨M, hM⟩ : ∃ M, 2 ^ N = M := ⟨_, rfl⟩
  rw [hM] at HR h32 ⊢
  clear hl hm ha' hb hM
  have hT0 : renTo v ps N 0 = 0 := rfl
  go_enter Try.func12, Try.ntmps12
  go_wp2_with fail
  go_loopw [6] (fun c wr => ∃ k : Nat, k ≤ M ∧ c = .int .i64 (k : Int) ∧ Below w.heap.size w wr ∧ C2 wr w.heap.size (.int .i64 (N : Int)) (.int .i64 v) ∧ C2 wr (w.heap.size + 1) (.int .i64 0) (.int .i64 0) ∧ C2 wr (w.heap.size + 1 + 1) (.int .i64 (N : Int)) (.int .i64 (renTo v ps N k))) (fun c _ => M - (intOf c).toNat)
  case atStart => exact ⟨0, Nat.zero_le _, rfl, by go_grown, k0, k1, by rw [hT0]; exact k2⟩
  case round =>
    clear k0 k1 k2 hT0
    obtain ⟨k, hk, rfl, hL, k0, k1, k2⟩ := hrel
    by_cases hlk : k < M
    · have hj1 : (k : Int) < (M : Int) := by omega
      have hLo := hL
      have koo := k0
      have k1o := k1
      have k2o := k2
      clear hL k0 k1 k2
      obtain ⟨wo, hwo⟩ : ∃ wo : World, wo = wr := ⟨_, rfl⟩
      subst hwo
      have hR0 : rowR ps k 0 = 0 := rfl
      go_wp2_with ((go_at_call 18; (with_reducible refine (HR.out _).mono ?_); rintro e w' ⟨rfl, rfl⟩))
      go_loopw [7, 8] (fun r c wr => ∃ i : Nat, i ≤ N ∧ c = .int .i64 (i : Int) ∧ r = .int .i64 (rowR ps k i) ∧ Below w.heap.size w wr ∧ C2 wr w.heap.size (.int .i64 (N : Int)) (.int .i64 v) ∧ C2 wr (w.heap.size + 1) (.int .i64 0) (.int .i64 0) ∧ C2 wr (w.heap.size + 1 + 1) (.int .i64 (N : Int)) (.int .i64 (renTo v ps N k))) (fun _ c _ => N - (intOf c).toNat)
      case atStart => exact ⟨0, Nat.zero_le _, rfl, by rw [hR0], hLo, koo, k1o, k2o⟩
      case round =>
        clear hLo koo k1o k2o hR0
        obtain ⟨i, hi, rfl, rfl, hL, k0, k1, k2⟩ := hrel
        by_cases hli : i < N
        · obtain ⟨b, off, rfl, hc0⟩ := Ha.out i hli
          have hca := cell_later hL hc0
          have hbd := Hb.out i hli
          have hi1 : (i : Int) < (N : Int) := by omega
          have hi0 : (0 : Int) ≤ (i : Int) := by omega
          have Hs := Lib.hid (rowR_step (ps := ps) (k := k) (i := i) rfl hbd.1 (by omega))
          have Hd := Lib.hid (digit_walk (k : Int) (ps.getD i 0) (by omega) (by omega) hbd.1)
          obtain ⟨b0, b1⟩ := hbd
          clear hc0
          generalize ps.getD i 0 = x at *
          go_wp2_with fail
          rw [Hd.out, Hs.out]
          exact ⟨⟨i + 1, by omega, by go_num, rfl, hL, k0, k1, k2⟩, by simp [intOf]; omega⟩
        · have e : i = N := by omega
          rw [e]
          clear e
          have hin : ¬ (i : Int) < (N : Int) := by omega
          have hxb := rowR_bd (ps := ps) (k := k) n5
          have HA := Lib.hid (fun w => l01At_any (N : Int) v (rowR ps k N) w h0 hv hxb.1 hxb.2)
          have Hs := Lib.hid (renTo_step v (ps := ps) (k := k) n5 (by omega))
          have hkz : 0 ≤ (k : Int) ∧ (k : Int) ≤ 63 := by omega
          have hm2 : min k 64 = k := by omega
          clear hxb
          generalize rowR ps k N = x at *
          go_wp2_with fail
          have hu2 := u64_in (x := (k : Int)) hkz.1 hkz.2
          go_region_with ((go_at_call 19; (with_reducible refine (HA.out _).mono ?_); rintro e w' ⟨rfl, hb⟩; have hL := chain (B := w.heap.size) (a := w) (by go_grown) (Nat.le_refl _) hb; (first | replace k0 := keepAt hb k0 | replace k0 := keepAt hb (C2.alloc k0 _)); (first | replace k1 := keepAt hb k1 | replace k1 := keepAt hb (C2.alloc k1 _)); (first | replace k2 := keepAt hb k2 | replace k2 := keepAt hb (C2.alloc k2 _)); clear hb))
          all_goals (clear hu2 hm2 hkz)
          all_goals (go_wp2_with fail)
          all_goals (try rw [wrapW])
          all_goals (rw [Hs.out]; exact ⟨⟨k + 1, by omega, by go_num, (by first | exact hL | go_grown : Below w.heap.size w _).setCell (p := ⟨w.heap.size + 1 + 1, 1, none⟩) (show w.heap.size ≤ w.heap.size + 1 + 1 by omega) _, k0.set _ _ _ (by omega), k1.set _ _ _ (by omega), k2.put1 _⟩, by simp [intOf]; omega⟩)
    · have e : k = M := by omega
      rw [e] at k2
      clear e
      have hkn : ¬ (k : Int) < (M : Int) := by omega
      go_wp2_with ((go_at_call 18; (with_reducible refine (HR.out _).mono ?_); rintro e w' ⟨rfl, rfl⟩))
      refine bodyPost_ret (v := .agg #[.int .i64 (N : Int), .int .i64 (renTo v ps N M)]) (by simp [results, Try.results12, go_sem, *]) rfl ?_
      exact ⟨rfl, by go_grown⟩

end Go.Proofs.Ythomnhbkmopjnaa
