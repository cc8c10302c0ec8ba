/- DecidingRows: the model's. -/
import Derived.Test.YtibfenkaoaclfaaDec
import Derived.Deep.RegionHeld3
namespace Go.Proofs.Ytibfenkaoaclfaa
open Go.RowKit
set_option linter.unusedVariables false

theorem u64_of {i : Nat} (h : i ≤ 4) : IntKind.u64.wrap (i : Int) = (i : Int) := by
  have : ∀ i : Fin 5, IntKind.u64.wrap (i.val : Int) = (i.val : Int) := by decide +kernel
  exact this ⟨i, by omega⟩

theorem decAt_same (v : Int) (M N i k : Nat) (h : difZ v i k = 0) : listF N (decAt v M i (k + 1)) = listF N (decAt v M i k) := by
  refine listF_congr fun a _ => ?_
  unfold decAt
  split
  · rfl
  · split
    · simp only [decCnt]; omega
    · rfl

set_option maxRecDepth 100000 in
set_option maxHeartbeats 4000000 in
theorem sDecidingRows_any (n v : Int) (w : World) :
    Calls Try.prog 27 #[.agg #[.int .i64 n, .int .i64 v]] w fun e w' => ∃ u, e = .returned (.tuple #[u, .int .i64 (resDecidingRows_1 n v)]) ∧ Reads w' u (resDecidingRows_0 n v) ∧ Below w.heap.size w w' := by
  have k0 := C2.here w (.int .i64 n) (.int .i64 v) 45
  by_cases ht : isTab n v = true
  · obtain ⟨n1, n5, h0, hv⟩ := tab_bd ht
    have H0 : Hid (resDecidingRows_0 n v = decL v n.toNat) := if_pos ht
    have H1 : Hid (resDecidingRows_1 n v = 0) := if_pos ht
    have Ht := Lib.hid ht
    obtain ⟨i0, hi, hz0, hz1, hz2⟩ := info_parts info64
    clear ht
    have hr := rcZ_bd n1 n5
    have Hr : Hid (rcZ n = ((2 ^ n.toNat : Nat) : Int)) := rfl
    obtain ⟨N, rfl⟩ := Int.eq_ofNat_of_zero_le (show 0 ≤ n by omega)
    rw [Int.toNat_natCast] at Hr H0
    go_enter Try.func27, Try.ntmps27
    go_wp2_with (first | (go_at_call 54; (with_reducible refine (l01Is_b _ _ _ Ht.out).mono ?_); rintro e w' ⟨rfl, hb⟩; have hL := chain (B := w.heap.size) (a := w) (by go_grown) (Nat.le_refl _) hb; (first | replace k0 := keepAt hb k0 | replace k0 := keepAt hb (C2.alloc k0 _)); clear hb) | (at_make; refine wpList_make_full _ rfl _ _ 22 rfl w.heap.size 2 i0 (.int .i64 0) 1 Try.underlying22 hi hz0 hz1 .i64 .i64 (N : Int) (N : Int) N rfl rfl rfl rfl (by rw [hz2]; omega) (by unfold maxLen; omega) hL.size ?_; intro w2 oo hgr; have k1 := C2.grown k0 hgr (by simp); have hL2 := Below.grown hL hgr hL.size (by simp); have hGs := k0.2.2.2.2; clear k0 hL))
    have oo' : Owns w2 w.heap.size (.slice (some ⟨w'.heap.size, 0, none⟩) N N) (listF N (decAt v (2 ^ N) 0 0)) := by
      rw [decAt_zero]; unfold Owns; rw [List.length_replicate]; rw [made_zero] at oo; exact oo
    have kb : C2 w2 w.heap.size (.int .i64 (N : Int)) (.int .i64 v) := k1
    generalize w'.heap.size = G at *
    clear oo hgr hi hz0 hz1 hz2 k1
    go_loopw [5] (fun c wr => ∃ i : Nat, i ≤ N ∧ c = .int .i64 (i : Int) ∧ Below w.heap.size w wr ∧ C2 wr w.heap.size (.int .i64 (N : Int)) (.int .i64 v) ∧ Owns wr w.heap.size (.slice (some ⟨G, 0, none⟩) N N) (listF N (decAt v (2 ^ N) i 0)) ∧ w.heap.size < G) (fun c _ => N - (intOf c).toNat)
    case atStart => exact ⟨0, Nat.zero_le _, rfl, hL2, kb, oo', hGs⟩
    case round =>
      clear hL2 oo' kb hGs
      obtain ⟨i, hi, rfl, hL, kb, oo, hG⟩ := hrel
      by_cases hlt : i < N
      · have hi1 : (i : Int) < (N : Int) := by omega
        have hi0 : (0 : Int) ≤ (i : Int) := by omega
        obtain ⟨wo, hwo⟩ : ∃ wo : World, wo = wr := ⟨_, rfl⟩
        subst hwo
        go_wp2_with fail
        go_loopw [6] (fun c wr => ∃ k : Nat, (k : Int) ≤ rcZ (N : Int) ∧ c = .int .i64 (k : Int) ∧ Below w.heap.size w wr ∧ C2 wr w.heap.size (.int .i64 (N : Int)) (.int .i64 v) ∧ Owns wr w.heap.size (.slice (some ⟨G, 0, none⟩) N N) (listF N (decAt v (2 ^ N) i k))) (fun c _ => (rcZ (N : Int) - intOf c).toNat)
        case atStart => exact ⟨0, by omega, rfl, hL, kb, oo⟩
        case round =>
          clear hL kb oo
          obtain ⟨k, hk, rfl, hL, kb, oo⟩ := hrel
          by_cases hlk : (k : Int) < rcZ (N : Int)
          · have hk2 : k < 2 ^ N := by have := Hr.out; omega
            have hk32 : k < 32 := by omega
            have hfb := flipR_bd (by omega : N ≤ 5) hlt hk2
            have hf62 : 0 ≤ flipR (i : Int) (k : Int) ∧ flipR (i : Int) (k : Int) ≤ 62 := by have := Hr.out; omega
            have HFB : Hid (0 ≤ bits .xor .i64 (k : Int) (2 ^ i) ∧ bits .xor .i64 (k : Int) (2 ^ i) ≤ 62) := hf62
            have hm : min i 64 = i := by omega
            have HK : Hid (0 ≤ (k : Int) ∧ (k : Int) ≤ 62) := by unfold Hid; omega
            have HLN : Hid ((listF N (decAt v (2 ^ N) i k)).length = N) := listF_len _ _
            have HST := Lib.hid (decAt_step v (2 ^ N) N i k hlt)
            have hbd := decCnt_bd v i k
            have hcc := ownsN_cell oo HLN.out i hlt
            rw [listF_get _ _ _ hlt, decAt_at] at hcc
            have c1 : C1 wr G i (.int .i64 (decCnt v i k)) := ⟨hcc.1, hcc.2, (World.ownsRow.lt oo G rfl).2⟩
            have HCB : Hid (0 ≤ decCnt v i k ∧ decCnt v i k ≤ 32) := by unfold Hid; omega
            by_cases hd : digZ v (k : Int) = digZ v (bits .xor .i64 (k : Int) (2 ^ i))
            · have hdq : (digZ v (k : Int) != digZ v (bits .xor .i64 (k : Int) (2 ^ i))) = false := by simp [hd]
              have HD := Lib.hid (decAt_same v (2 ^ N) N i k (if_pos hd))
              clear hfb hf62 hcc hk2 hbd hd
              go_upto_region 10 with ((go_at_call 55; (with_reducible refine (l01Rows_any _ _ n1 n5).mono ?_); rintro e w' ⟨rfl, rfl⟩))
              have hwp := two_wrap (i := i) (by omega)
              have hu := u64_of (i := i) (by omega)
              go_region_held3 (fun wx => C2 wx w.heap.size (.int .i64 (N : Int)) (.int .i64 v)) (exact kb) ((go_at_call 56; (with_reducible refine (l01At_any _ _ _ _ h0 hv (by first | exact HK.out.1 | exact HFB.out.1) (by first | exact HK.out.2 | exact HFB.out.2)).mono ?_); rintro e w' ⟨rfl, hb⟩; have hL := chain (B := w.heap.size) (a := w) (by first | exact hL | go_grown) (Nat.le_refl _) hb; replace kb := keepAt hb kb; replace c1 := c1At hb c1; replace oo := ownsKeepAt hb oo; clear hb))
              clear hwp hu
              go_wp2_with fail
              exact ⟨⟨k + 1, by omega, by go_num, (by first | exact hL | go_grown : Below w.heap.size w _), kb, by rw [HD.out]; exact oo⟩, by simp [intOf]; omega⟩
            · have hdq : (digZ v (k : Int) != digZ v (bits .xor .i64 (k : Int) (2 ^ i))) = true := by simp [hd]
              have hd1 : difZ v i k = 1 := if_neg hd
              rw [hd1] at HST
              obtain ⟨hcb1, hcb2⟩ := HCB.out
              clear hfb hf62 hcc hk2 hbd hd hd1
              go_upto_region 10 with ((go_at_call 55; (with_reducible refine (l01Rows_any _ _ n1 n5).mono ?_); rintro e w' ⟨rfl, rfl⟩))
              have hwp := two_wrap (i := i) (by omega)
              have hu := u64_of (i := i) (by omega)
              go_region_held3 (fun wx => C2 wx w.heap.size (.int .i64 (N : Int)) (.int .i64 v)) (exact kb) ((go_at_call 56; (with_reducible refine (l01At_any _ _ _ _ h0 hv (by first | exact HK.out.1 | exact HFB.out.1) (by first | exact HK.out.2 | exact HFB.out.2)).mono ?_); rintro e w' ⟨rfl, hb⟩; have hL := chain (B := w.heap.size) (a := w) (by first | exact hL | go_grown) (Nat.le_refl _) hb; replace kb := keepAt hb kb; replace c1 := c1At hb c1; replace oo := ownsKeepAt hb oo; clear hb))
              clear hwp hu
              generalize decCnt v i k = cN at *
              go_wp2_with fail
              exact ⟨⟨k + 1, by omega, by go_num, (by first | exact hL | go_grown : Below w.heap.size w _).setCell (p := ⟨G, i, none⟩) (Nat.le_of_lt hG) _, kb.set _ _ _ (by omega), by rw [← HST.out]; exact ownsN_store oo HLN.out i _⟩, by simp [intOf]; omega⟩
          · have e : k = 2 ^ N := by have := Hr.out; omega
            rw [e, decAt_next] at oo
            clear e
            go_wp2_with ((go_at_call 55; (with_reducible refine (l01Rows_any _ _ n1 n5).mono ?_); rintro e w' ⟨rfl, rfl⟩))
            exact ⟨⟨i + 1, by omega, by go_num, hL, kb, oo, hG⟩, by simp [intOf]; omega⟩
      · have e : i = N := by omega
        subst e
        rw [decAt_all] at oo
        have HOO := Lib.hid oo
        clear oo
        go_wp2_with fail
        go_ret2
        refine ⟨_, by rw [H1.out]; rfl, ?_, hL⟩
        rw [H0.out]
        exact HOO.out.reads
  · have H0 : Hid (resDecidingRows_0 n v = []) := if_neg ht
    have H1 : Hid (resDecidingRows_1 n v = 1) := if_neg ht
    have Ht : Hid (isTab n v = false) := by unfold Hid; simpa using ht
    clear ht
    go_enter Try.func27, Try.ntmps27
    go_wp2_with (first | (go_at_call 54; (with_reducible refine (l01Is_b _ _ _ Ht.out).mono ?_); rintro e w' ⟨rfl, hb⟩; have hL := chain (B := w.heap.size) (a := w) (by go_grown) (Nat.le_refl _) hb; (first | replace k0 := keepAt hb k0 | replace k0 := keepAt hb (C2.alloc k0 _)); clear hb))
    go_ret2
    exact ⟨_, by rw [H1.out]; rfl, by rw [H0.out]; exact Owns.reads (World.ownsRow_nil _ _ _ _ : Owns _ w.heap.size _ []), hL⟩

end Go.Proofs.Ytibfenkaoaclfaa
