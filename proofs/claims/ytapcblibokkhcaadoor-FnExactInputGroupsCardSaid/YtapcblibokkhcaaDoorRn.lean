/- l01Renamed and l03Alike: the model's. -/
import Derived.Test.YtapcblibokkhcaaDoorRnM
import Derived.Test.YtapcblibokkhcaaDoorSyS
import Derived.Test.YtapcblibokkhcaaDoorGrp
import Derived.Deep.RegionWith
import Derived.Deep.RegionHeld3
namespace Go.Proofs.YtapcblibokkhcaaDoor
open Go.RowKit
set_option linter.unusedVariables false

set_option maxRecDepth 100000 in
set_option maxHeartbeats 4000000 in
theorem l01Renamed_any (v : Int) (N : Nat) (vp : Value) (ps : List Int) (w : World) (n1 : 1 ≤ N) (n5 : N ≤ 5) (h0 : 0 ≤ v) (hv : v < 9223372036854775808) (hp : Reads w vp ps) (hl : ps.length = N) (hb : ∀ a, a < N → 0 ≤ ps.getD a 0 ∧ ps.getD a 0 < 5) :
    Calls Tryd.prog 57 #[.agg #[.int .i64 (N : Int), .int .i64 v], vp] w fun e w' => e = .returned (.agg #[.int .i64 (N : Int), .int .i64 (renTo v ps N (2 ^ N))]) ∧ Below w.heap.size w w' := by
  have k0 : C2 (((w.alloc (.cells #[.int .i64 (N : Int), .int .i64 v] 26)).alloc (.cells #[.int .i64 0, .int .i64 0] 26)).alloc (.cells #[.int .i64 (N : Int), .int .i64 0] 26)) (w.heap.size) (.int .i64 (N : Int)) (.int .i64 v) := by simpa using ((C2.here w (.int .i64 (N : Int)) (.int .i64 v) 26).alloc (.cells #[.int .i64 0, .int .i64 0] 26)).alloc (.cells #[.int .i64 (N : Int), .int .i64 0] 26)
  have k1 : C2 (((w.alloc (.cells #[.int .i64 (N : Int), .int .i64 v] 26)).alloc (.cells #[.int .i64 0, .int .i64 0] 26)).alloc (.cells #[.int .i64 (N : Int), .int .i64 0] 26)) (w.heap.size + 1) (.int .i64 0) (.int .i64 0) := by simpa using (C2.here (w.alloc (.cells #[.int .i64 (N : Int), .int .i64 v] 26)) (.int .i64 0) (.int .i64 0) 26).alloc (.cells #[.int .i64 (N : Int), .int .i64 0] 26)
  have k2 : C2 (((w.alloc (.cells #[.int .i64 (N : Int), .int .i64 v] 26)).alloc (.cells #[.int .i64 0, .int .i64 0] 26)).alloc (.cells #[.int .i64 (N : Int), .int .i64 0] 26)) (w.heap.size + 1 + 1) (.int .i64 (N : Int)) (.int .i64 0) := by simpa using C2.here ((w.alloc (.cells #[.int .i64 (N : Int), .int .i64 v] 26)).alloc (.cells #[.int .i64 0, .int .i64 0] 26)) (.int .i64 (N : Int)) (.int .i64 0) 26
  obtain ⟨a, ca, rfl, hm, ha'⟩ := hp
  have h32 := pow5 n5
  have Ha : Hid (∀ i, i < N → ∃ b off, a = some ⟨b, off, none⟩ ∧ w.cell? ⟨b, off + i, none⟩ = some (.int .i64 (ps.getD i 0))) := by
    rcases ha' with rfl | ⟨b, off, rfl, ha'⟩
    · intro i hi; simp at hl; omega
    · intro i hi; exact ⟨b, off, rfl, ha' i (by omega)⟩
  have Hb := Lib.hid hb
  have HR : Hid (∀ w, Calls Tryd.prog 42 #[.int .i64 (N : Int)] w fun e w' => e = .returned (.int .i64 ((2 ^ N : Nat) : Int)) ∧ w = w') := fun w => by
    have := l01Rows_any (N : Int) w (by omega) (by omega)
    unfold rcZ at this
    rw [Int.toNat_natCast] at this
    exact this
  rw [hl]
  obtain ⟨M, hM⟩ : ∃ M, 2 ^ N = M := ⟨_, rfl⟩
  rw [hM] at HR h32 ⊢
  clear hl hm ha' hb hM
  have hT0 : renTo v ps N 0 = 0 := rfl
  go_enter Tryd.func57, Tryd.ntmps57
  go_wp2_with fail
  go_loopw [6] (fun c wr => ∃ k : Nat, k ≤ M ∧ c = .int .i64 (k : Int) ∧ Below w.heap.size w wr ∧ C2 wr w.heap.size (.int .i64 (N : Int)) (.int .i64 v) ∧ C2 wr (w.heap.size + 1) (.int .i64 0) (.int .i64 0) ∧ C2 wr (w.heap.size + 1 + 1) (.int .i64 (N : Int)) (.int .i64 (renTo v ps N k))) (fun c _ => M - (intOf c).toNat)
  case atStart => exact ⟨0, Nat.zero_le _, rfl, by go_grown, k0, k1, by rw [hT0]; exact k2⟩
  case round =>
    clear k0 k1 k2 hT0
    obtain ⟨k, hk, rfl, hL, k0, k1, k2⟩ := hrel
    by_cases hlk : k < M
    · have hj1 : (k : Int) < (M : Int) := by omega
      have hLo := hL
      have koo := k0
      have k1o := k1
      have k2o := k2
      clear hL k0 k1 k2
      obtain ⟨wo, hwo⟩ : ∃ wo : World, wo = wr := ⟨_, rfl⟩
      subst hwo
      have hR0 : rowR ps k 0 = 0 := rfl
      go_wp2_with ((go_at_call 42; (with_reducible refine (HR.out _).mono ?_); rintro e w' ⟨rfl, rfl⟩))
      go_loopw [7, 8] (fun r c wr => ∃ i : Nat, i ≤ N ∧ c = .int .i64 (i : Int) ∧ r = .int .i64 (rowR ps k i) ∧ Below w.heap.size w wr ∧ C2 wr w.heap.size (.int .i64 (N : Int)) (.int .i64 v) ∧ C2 wr (w.heap.size + 1) (.int .i64 0) (.int .i64 0) ∧ C2 wr (w.heap.size + 1 + 1) (.int .i64 (N : Int)) (.int .i64 (renTo v ps N k))) (fun _ c _ => N - (intOf c).toNat)
      case atStart => exact ⟨0, Nat.zero_le _, rfl, by rw [hR0], hLo, koo, k1o, k2o⟩
      case round =>
        clear hLo koo k1o k2o hR0
        obtain ⟨i, hi, rfl, rfl, hL, k0, k1, k2⟩ := hrel
        by_cases hli : i < N
        · obtain ⟨b, off, rfl, hc0⟩ := Ha.out i hli
          have hca := cell_later hL hc0
          have hbd := Hb.out i hli
          have hi1 : (i : Int) < (N : Int) := by omega
          have hi0 : (0 : Int) ≤ (i : Int) := by omega
          have Hs := Lib.hid (rowR_step (ps := ps) (k := k) (i := i) rfl hbd.1 (by omega))
          have Hd := Lib.hid (digit_walk (k : Int) (ps.getD i 0) (by omega) (by omega) hbd.1)
          obtain ⟨b0, b1⟩ := hbd
          clear hc0
          generalize ps.getD i 0 = x at *
          go_wp2_with fail
          rw [Hd.out, Hs.out]
          exact ⟨⟨i + 1, by omega, by go_num, rfl, hL, k0, k1, k2⟩, by simp [intOf]; omega⟩
        · have e : i = N := by omega
          rw [e]
          clear e
          have hin : ¬ (i : Int) < (N : Int) := by omega
          have hxb := rowR_bd (ps := ps) (k := k) n5
          have HA := Lib.hid (fun w => l01At_any (N : Int) v (rowR ps k N) w h0 hv hxb.1 hxb.2)
          have Hs := Lib.hid (renTo_step v (ps := ps) (k := k) n5 (by omega))
          have hkz : 0 ≤ (k : Int) ∧ (k : Int) ≤ 63 := by omega
          have hm2 : min k 64 = k := by omega
          clear hxb
          generalize rowR ps k N = x at *
          go_wp2_with fail
          have hu2 := u64_in (x := (k : Int)) hkz.1 hkz.2
          go_region_with ((go_at_call 43; (with_reducible refine (HA.out _).mono ?_); rintro e w' ⟨rfl, hb⟩; have hL := chain (B := w.heap.size) (a := w) (by go_grown) (Nat.le_refl _) hb; (first | replace k0 := keepAt hb k0 | replace k0 := keepAt hb (C2.alloc k0 _)); (first | replace k1 := keepAt hb k1 | replace k1 := keepAt hb (C2.alloc k1 _)); (first | replace k2 := keepAt hb k2 | replace k2 := keepAt hb (C2.alloc k2 _)); clear hb))
          all_goals (clear hu2 hm2 hkz)
          all_goals (go_wp2_with fail)
          all_goals (try rw [wrapW])
          all_goals (rw [Hs.out]; exact ⟨⟨k + 1, by omega, by go_num, (by first | exact hL | go_grown : Below w.heap.size w _).setCell (p := ⟨w.heap.size + 1 + 1, 1, none⟩) (show w.heap.size ≤ w.heap.size + 1 + 1 by omega) _, k0.set _ _ _ (by omega), k1.set _ _ _ (by omega), k2.put1 _⟩, by simp [intOf]; omega⟩)
    · have e : k = M := by omega
      rw [e] at k2
      clear e
      have hkn : ¬ (k : Int) < (M : Int) := by omega
      go_wp2_with ((go_at_call 42; (with_reducible refine (HR.out _).mono ?_); rintro e w' ⟨rfl, rfl⟩))
      refine bodyPost_ret (v := .agg #[.int .i64 (N : Int), .int .i64 (renTo v ps N M)]) (by simp [results, Tryd.results57, go_sem, *]) rfl ?_
      exact ⟨rfl, by go_grown⟩

theorem Reads.drew1 {w : World} {v : Value} {xs : List Int} (h : Reads w v xs) : Reads w.drew v xs := h
theorem iota_snoc (k : Nat) : iota 0 (k + 1) = iota 0 k ++ [(k : Int)] := by simp [iota, List.range_succ]

set_option maxRecDepth 100000 in
set_option maxHeartbeats 4000000 in
theorem l03Alike_any (v : Int) (N i j : Nat) (w : World) (n1 : 1 ≤ N) (n5 : N ≤ 5) (h0 : 0 ≤ v) (hv : v < 9223372036854775808) (hv2 : v.toNat < 2 ^ 2 ^ N) (hi : i < N) (hj : j < N) {b : Bool} (hb : alB v N i j = b) :
    Calls Tryd.prog 38 #[.agg #[.int .i64 (N : Int), .int .i64 v], .int .i64 (i : Int), .int .i64 (j : Int)] w fun e w' => e = .returned (.bool b) ∧ Below w.heap.size w w' := by
  obtain ⟨i0, hi_, hz0, hz1, hz2⟩ := info_parts info64
  have k0 := (C2.here w (.int .i64 (N : Int)) (.int .i64 v) 26).alloc (.cells #[] 2)
  have oo : Owns ((w.alloc (.cells #[.int .i64 (N : Int), .int .i64 v] 26)).alloc (.cells #[] 2)) (w.heap.size + 1) (.slice (some ⟨w.heap.size + 1, 0, none⟩) 0 0) (iota 0 0) := by
    have h := World.ownsRow_made (base := w.heap.size + 1) (e := 2) (size := 1) (w.alloc (.cells #[.int .i64 (N : Int), .int .i64 v] 26)) #[] 0 (by simp) (by simp) rfl
    rw [World.size_alloc] at h
    exact h
  have HREN := Lib.hid (fun (vp : Value) (wx : World) (hp : Reads wx vp (swL N i j)) => l01Renamed_any v N vp (swL N i j) wx n1 n5 h0 hv hp (swL_len N i j) (fun a ha => swL_at ⟨N, by omega⟩ ⟨i, by omega⟩ ⟨j, by omega⟩ ⟨a, by omega⟩ hi hj ha))
  have HEQ : Hid ((renTo v (swL N i j) N (2 ^ N) == v) = b) := by
    rw [Hid, ← hb]
    unfold alB
    rw [Bool.eq_iff_iff, beq_iff_eq, decide_eq_true_iff]
    exact ren_alike n5 hi hj h0 hv2
  have hnn : ((N : Int) == (N : Int)) = true := by simp
  have hI1 : (i : Int) < (N : Int) := by omega
  have hI0 : (0 : Int) ≤ (i : Int) := by omega
  have hJ1 : (j : Int) < (N : Int) := by omega
  have hJ0 : (0 : Int) ≤ (j : Int) := by omega
  generalize renTo v (swL N i j) N (2 ^ N) = Y at *
  clear hb
  go_enter Tryd.func38, Tryd.ntmps38
  go_wp2_with fail
  go_loopw [7, 8] (fun u c wr => ∃ k : Nat, k ≤ N ∧ c = .int .i64 (k : Int) ∧ Below w.heap.size w wr ∧ C2 wr w.heap.size (.int .i64 (N : Int)) (.int .i64 v) ∧ Owns wr (w.heap.size + 1) u (iota 0 k)) (fun _ c _ => N - (intOf c).toNat)
  case atStart => exact ⟨0, Nat.zero_le _, rfl, by go_grown, k0, oo⟩
  case round =>
    clear k0 oo
    obtain ⟨k, hk, rfl, hL, k0, oo⟩ := hrel
    have hz := k0.2.2.2.2
    by_cases hlt : k < N
    · have hk1 : (k : Int) < (N : Int) := by omega
      have Hn := Lib.hid (iota_snoc k)
      have Hl := Lib.hid (iota_len 0 k)
      go_wp2_with (at_builtin; refine wpList_append_own _ rfl _ _ 31 rfl (w.heap.size + 1) 2 i0 (.int .i64 0) 1 8 Tryd.underlying31 hi_ hz0 hz1 hz2 rfl (by decide) _ _ _ rfl (World.ownsRow.alloc oo _) ⟨wr.heap.size, 0, none⟩ 1 1 [.int .i64 (k : Int)] rfl rfl (cell_one_new _ _ _) (by simp [Value.oneCell']) (by have := Hl.out; unfold maxLen; omega) (by have := Hl.out; omega) (by simp; omega) ?_; intro v' w5 hown' hgrow hnil)
      have hfrom := oo.rowsFrom (B := w.heap.size) (by omega)
      have hsep := oo.notBlock (b := w.heap.size) (by omega)
      exact ⟨⟨k + 1, by omega, by go_num, (hL.alloc (by omega) _).grown hgrow (by simp; omega) hfrom, (k0.alloc _).grown hgrow hsep, by rw [Hn.out]; exact Owns.snoc hown'⟩, by simp [intOf]; omega⟩
    · have e : k = N := by omega
      rw [e] at oo
      clear e
      have hkn : ¬ (k : Int) < (N : Int) := by omega
      obtain ⟨g, cap, rfl, _⟩ := oo.first (by rw [iota_len]; exact n1)
      have hgw := (World.ownsRow.lt oo g rfl).1
      rw [iota_len] at oo ⊢
      have c1 := ownsM_cell oo (iota_len 0 N) i hi
      have o2 := ownsM_store oo (iota_len 0 N) i (j : Int)
      have l2 : ((iota 0 N).set i (j : Int)).length = N := by rw [List.length_set, iota_len]
      have c2 := ownsM_cell o2 l2 j hj
      have o3 := ownsM_store o2 l2 j (i : Int)
      have O3 : Hid (Owns ((wr.setCell ⟨g, i, none⟩ (.int .i64 (j : Int))).setCell ⟨g, j, none⟩ (.int .i64 (i : Int))) (w.heap.size + 1) (.slice (some ⟨g, 0, none⟩) N cap) (swL N i j)) := o3
      have HL2 := Lib.hid ((hL.setCell (p := ⟨g, i, none⟩) (show w.heap.size ≤ g by omega) (.int .i64 (j : Int))).setCell (p := ⟨g, j, none⟩) (show w.heap.size ≤ g by omega) (.int .i64 (i : Int)))
      have HK2 := Lib.hid ((k0.set g i (.int .i64 (j : Int)) (by omega)).set g j (.int .i64 (i : Int)) (by omega))
      obtain ⟨ci, fi⟩ := c1
      obtain ⟨cj, fj⟩ := c2
      have fj2 : wr.frozen? ⟨g, j, none⟩ = false := by rw [World.frozen?_setCell] at fj; exact fj
      clear o2 o3 l2 oo hk hlt
      go_upto_region 8 with fail
      clear hL k0 ci fi cj fj fj2
      generalize (wr.setCell ⟨g, i, none⟩ (.int .i64 (j : Int))).setCell ⟨g, j, none⟩ (.int .i64 (i : Int)) = w4 at *
      have hL := HL2.out
      have k0 := HK2.out
      go_cut [6] (fun s6 wx => s6 = .bool (Y == v) ∧ Below w.heap.size w wx)
      case first =>
        cases b
        all_goals
          have hYv := HEQ.out
          go_region_held3 (fun wx => C2 wx w.heap.size (.int .i64 (N : Int)) (.int .i64 v)) (exact k0) ((go_at_call 57; (with_reducible refine (HREN.out _ _ (by first | exact Reads.drew1 O3.out.reads | exact O3.out.reads)).mono ?_); rintro e w5 ⟨rfl, hb⟩; have hL := chain (B := w.heap.size) (a := w) (by first | exact hL | go_grown) (Nat.le_refl _) hb; replace k0 := keepAt hb (show C2 _ w.heap.size (.int .i64 (N : Int)) (.int .i64 v) from k0); clear hb))
          all_goals (go_wp2_with fail; go_meet; exact ⟨by rw [hYv], hL⟩)
      case rest =>
      obtain ⟨rfl, hL5⟩ := hcut
      go_wp2_with fail
      go_ret
      exact ⟨by rw [← HEQ.out]; rfl, hL5⟩

end Go.Proofs.YtapcblibokkhcaaDoor
