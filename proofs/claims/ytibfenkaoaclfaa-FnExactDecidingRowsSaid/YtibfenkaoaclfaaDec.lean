/- DecidingRows: plain numbers, and the program's. -/
import Derived.Test.YtibfenkaoaclfaaLadS
import Derived.Test.YtibfenkaoaclfaaAt
namespace Go.Proofs.Ytibfenkaoaclfaa
open Go.RowKit
set_option linter.unusedVariables false

/-- the row with the other value for the input i -/
def flipR (i k : Int) : Int := bits .xor .i64 k (2 ^ i.toNat)
theorem two_wrap {i : Nat} (h : i ≤ 4) : IntKind.i64.wrap (2 ^ i) = (2 : Int) ^ i := by
  have : ∀ i : Fin 5, IntKind.i64.wrap (2 ^ i.val) = (2 : Int) ^ i.val := by decide +kernel
  exact this ⟨i, by omega⟩
theorem two_wrap' {i : Nat} (h : i ≤ 4) : wrap64 (2 ^ i) = (2 : Int) ^ i := by rw [← IntWalk.i64_left]; exact two_wrap h
theorem flipR_fin : ∀ (n : Fin 6) (i : Fin 5) (k : Fin 32), i.val < n.val → k.val < 2 ^ n.val → 0 ≤ flipR (i.val : Int) (k.val : Int) ∧ flipR (i.val : Int) (k.val : Int) < ((2 ^ n.val : Nat) : Int) := by
  decide +kernel
theorem flipR_bd {N i k : Nat} (n5 : N ≤ 5) (in_ : i < N) (hk : k < 2 ^ N) : 0 ≤ flipR (i : Int) (k : Int) ∧ flipR (i : Int) (k : Int) < ((2 ^ N : Nat) : Int) := by
  have h32 : 2 ^ N ≤ 2 ^ 5 := Nat.pow_le_pow_right (by decide) n5
  exact flipR_fin ⟨N, by omega⟩ ⟨i, by omega⟩ ⟨k, by omega⟩ in_ hk
/-- does the input i decide in the row k -/
def difZ (v : Int) (i k : Nat) : Int := if digZ v (k : Int) = digZ v (flipR (i : Int) (k : Int)) then 0 else 1
theorem dig01 (v k : Int) : digZ v k = 0 ∨ digZ v k = 1 := by have := digZ_bd v k; omega
theorem difZ_xor (v : Int) (i k : Nat) : bits .xor .i64 (digZ v (k : Int)) (digZ v (flipR (i : Int) (k : Int))) = difZ v i k := by
  unfold difZ
  rcases dig01 v (k : Int) with h | h <;> rcases dig01 v (flipR (i : Int) (k : Int)) with h2 | h2 <;> rw [h, h2] <;> decide +kernel
def decCnt (v : Int) (i : Nat) : Nat → Int
  | 0 => 0
  | k + 1 => decCnt v i k + difZ v i k
theorem difZ_bd (v : Int) (i k : Nat) : 0 ≤ difZ v i k ∧ difZ v i k ≤ 1 := by unfold difZ; split <;> omega
theorem decCnt_bd (v : Int) (i k : Nat) : 0 ≤ decCnt v i k ∧ decCnt v i k ≤ (k : Int) := by
  induction k with
  | zero => exact ⟨Int.le_refl _, Int.le_refl _⟩
  | succ k ih => have := difZ_bd v i k; simp only [decCnt]; omega
/-- the counts as the loops have them: all of the inputs below i, the first k rows of the input i -/
def decAt (v : Int) (M i k : Nat) : Nat → Int := fun a => if a < i then decCnt v a M else if a = i then decCnt v i k else 0
theorem decAt_zero (v : Int) (M N : Nat) : listF N (decAt v M 0 0) = List.replicate N 0 := by
  unfold listF decAt
  apply List.ext_getElem
  · simp
  · intro a h1 h2
    simp
    intro h; subst h; rfl
theorem decAt_at (v : Int) (M i k : Nat) : decAt v M i k i = decCnt v i k := by unfold decAt; rw [if_neg (by omega), if_pos rfl]
theorem decAt_step (v : Int) (M N i k : Nat) (hi : i < N) : (listF N (decAt v M i k)).set i (decCnt v i k + difZ v i k) = listF N (decAt v M i (k + 1)) := by
  rw [listF_set _ _ _ _ hi]
  refine listF_congr fun a ha => ?_
  unfold decAt
  by_cases h : a = i
  · subst h; simp only [if_true]; rw [if_neg (by omega)]; rfl
  · simp only [h, if_false]
theorem decAt_next (v : Int) (M N i : Nat) : listF N (decAt v M i M) = listF N (decAt v M (i + 1) 0) := by
  refine listF_congr fun a ha => ?_
  unfold decAt
  by_cases h : a < i
  · rw [if_pos h, if_pos (by omega)]
  · by_cases h2 : a = i
    · subst h2; rw [if_neg h, if_pos rfl, if_pos (by omega)]
    · rw [if_neg h, if_neg h2, if_neg (by omega)]
      split
      · rfl
      · rfl
def decL (v : Int) (N : Nat) : List Int := listF N (fun a => decCnt v a (2 ^ N))
theorem decAt_all (v : Int) (N : Nat) : listF N (decAt v (2 ^ N) N 0) = decL v N := by
  refine listF_congr fun a ha => ?_
  unfold decAt; rw [if_pos ha]
def resDecidingRows_0 (n v : Int) : List Int := if isTab n v = true then decL v n.toNat else []
def resDecidingRows_1 (n v : Int) : Int := if isTab n v = true then 0 else 1
theorem lenDecidingRows_0 (n v : Int) : (resDecidingRows_0 n v).length ≤ 100000 := by
  unfold resDecidingRows_0
  split
  · rename_i h
    have := isTab_out h
    unfold decL; rw [listF_len]; omega
  · simp

/-- one cell of a row: what it holds, and that it may be written -/
abbrev C1 (w : World) (b o : Nat) (x : Value) : Prop := w.cell? ⟨b, o, none⟩ = some x ∧ w.frozen? ⟨b, o, none⟩ = false ∧ b < w.heap.size
theorem c1At {w w' : World} {b o : Nat} {x : Value} (hb : Below w.heap.size w w') (h : C1 w b o x) : C1 w' b o x := by
  obtain ⟨h0, f0, hz⟩ := h
  have := hb.size
  exact ⟨(hb.cell (p := ⟨b, o, none⟩) hz).trans h0, (hb.frozen (p := ⟨b, o, none⟩) hz).trans f0, by omega⟩

set_option maxRecDepth 100000 in
set_option maxHeartbeats 4000000 in
theorem iDecidingRows_any (n v : Int) (w : World) :
    Calls Try.prog 29 #[.agg #[.int .i64 n, .int .i64 v]] w fun e w' => ∃ u, e = .returned (.tuple #[u, .int .i64 (resDecidingRows_1 n v)]) ∧ In w' w.heap.size w'.heap.size u (resDecidingRows_0 n v) ∧ Below w.heap.size w w' := by
  have k0 := C2.here w (.int .i64 n) (.int .i64 v) 45
  by_cases ht : isTab n v = true
  · obtain ⟨n1, n5, h0, hv⟩ := tab_bd ht
    have H0 : Hid (resDecidingRows_0 n v = decL v n.toNat) := if_pos ht
    have H1 : Hid (resDecidingRows_1 n v = 0) := if_pos ht
    have Ht := Lib.hid ht
    obtain ⟨i0, hi, hz0, hz1, hz2⟩ := info_parts info64
    clear ht
    have hr := rcZ_bd n1 n5
    have Hr : Hid (rcZ n = ((2 ^ n.toNat : Nat) : Int)) := rfl
    obtain ⟨N, rfl⟩ := Int.eq_ofNat_of_zero_le (show 0 ≤ n by omega)
    rw [Int.toNat_natCast] at Hr H0
    go_enter Try.func29, Try.ntmps29
    go_wp2_with (first | (go_at_call 57; (with_reducible refine (isTable_b _ _ _ Ht.out).mono ?_); rintro e w' ⟨rfl, hb⟩; have hL := chain (B := w.heap.size) (a := w) (by go_grown) (Nat.le_refl _) hb; (first | replace k0 := keepAt hb k0 | replace k0 := keepAt hb (C2.alloc k0 _)); clear hb) | (at_make; refine wpList_make_full _ rfl _ _ 22 rfl w.heap.size 2 i0 (.int .i64 0) 1 Try.underlying22 hi hz0 hz1 .i64 .i64 (N : Int) (N : Int) N rfl rfl rfl rfl (by rw [hz2]; omega) (by unfold maxLen; omega) hL.size ?_; intro w2 oo hgr; have k1 := C2.grown k0 hgr (by simp); have hL2 := Below.grown hL hgr hL.size (by simp); have hGs := k0.2.2.2.2; clear k0 hL))
    have oo' : Owns w2 w.heap.size (.slice (some ⟨w'.heap.size, 0, none⟩) N N) (listF N (decAt v (2 ^ N) 0 0)) := by
      rw [decAt_zero]; unfold Owns; rw [List.length_replicate]; rw [made_zero] at oo; exact oo
    have kb : C2 w2 w.heap.size (.int .i64 (N : Int)) (.int .i64 v) := k1
    generalize w'.heap.size = G at *
    clear oo hgr hi hz0 hz1 hz2 k1
    go_loopw [15] (fun c wr => ∃ i : Nat, i ≤ N ∧ c = .int .i64 (i : Int) ∧ Below w.heap.size w wr ∧ C2 wr w.heap.size (.int .i64 (N : Int)) (.int .i64 v) ∧ Owns wr w.heap.size (.slice (some ⟨G, 0, none⟩) N N) (listF N (decAt v (2 ^ N) i 0)) ∧ w.heap.size < G) (fun c _ => N - (intOf c).toNat)
    case atStart => exact ⟨0, Nat.zero_le _, rfl, hL2, kb, oo', hGs⟩
    case round =>
      clear hL2 oo' kb hGs
      obtain ⟨i, hi, rfl, hL, kb, oo, hG⟩ := hrel
      by_cases hlt : i < N
      · have hi1 : (i : Int) < (N : Int) := by omega
        have hi0 : (0 : Int) ≤ (i : Int) := by omega
        obtain ⟨wo, hwo⟩ : ∃ wo : World, wo = wr := ⟨_, rfl⟩
        subst hwo
        go_wp2_with ((go_at_call 58; (with_reducible refine (rowCount_any _ _ n1 n5).mono ?_); rintro e w' ⟨rfl, rfl⟩))
        go_loopw [21] (fun c wr => ∃ k : Nat, (k : Int) ≤ rcZ (N : Int) ∧ c = .int .i64 (k : Int) ∧ Below w.heap.size w wr ∧ C2 wr w.heap.size (.int .i64 (N : Int)) (.int .i64 v) ∧ Owns wr w.heap.size (.slice (some ⟨G, 0, none⟩) N N) (listF N (decAt v (2 ^ N) i k))) (fun c _ => (rcZ (N : Int) - intOf c).toNat)
        case atStart => exact ⟨0, by omega, rfl, hL, kb, oo⟩
        case round =>
          clear hL kb oo
          obtain ⟨k, hk, rfl, hL, kb, oo⟩ := hrel
          by_cases hlk : (k : Int) < rcZ (N : Int)
          · have hk2 : k < 2 ^ N := by have := Hr.out; omega
            have hk32 : k < 32 := by omega
            have hfb := flipR_bd (by omega : N ≤ 5) hlt hk2
            have hf62 : 0 ≤ flipR (i : Int) (k : Int) ∧ flipR (i : Int) (k : Int) ≤ 62 := by have := Hr.out; omega
            have HFB : Hid (0 ≤ bits .xor .i64 (k : Int) (2 ^ i) ∧ bits .xor .i64 (k : Int) (2 ^ i) ≤ 62) := hf62
            have hl := listF_len N (decAt v (2 ^ N) i k)
            have hcc := ownsN_cell oo hl i hlt
            rw [listF_get _ _ _ hlt, decAt_at] at hcc
            have c1 : C1 wr G i (.int .i64 (decCnt v i k)) := ⟨hcc.1, hcc.2, (World.ownsRow.lt oo G rfl).2⟩
            have HX : Hid (bits .xor .i64 (digZ v (k : Int)) (digZ v (bits .xor .i64 (k : Int) (2 ^ i))) = difZ v i k) := difZ_xor v i k
            have HST := Lib.hid (decAt_step v (2 ^ N) N i k hlt)
            have hbd := decCnt_bd v i k
            have hdb := difZ_bd v i k
            have HSUM : Hid (IntKind.i64.wrap (decCnt v i k + difZ v i k) = decCnt v i k + difZ v i k) := IntWalk.i64_in _ (by omega)
            have HLN : Hid ((listF N (decAt v (2 ^ N) i k)).length = N) := listF_len _ _
            have hm : min i 64 = i := by omega
            have HK : Hid (0 ≤ (k : Int) ∧ (k : Int) ≤ 62) := by unfold Hid; omega
            clear hfb hf62 hl hcc hk2 hdb hbd
            go_upto_region 10 with fail
            have hwp := two_wrap (i := i) (by omega)
            go_region_with ((go_at_call 59; (with_reducible refine (valueAt_any _ _ _ _ h0 hv (by first | exact HK.out.1 | exact HFB.out.1) (by first | exact HK.out.2 | exact HFB.out.2)).mono ?_); rintro e w' ⟨rfl, hb⟩; have hL := chain (B := w.heap.size) (a := w) (by first | exact hL | go_grown) (Nat.le_refl _) hb; replace kb := keepAt hb kb; replace c1 := c1At hb c1; replace oo := ownsKeepAt hb oo; clear hb))
            all_goals (rw [HX.out, HSUM.out])
            all_goals (clear hwp)
            all_goals (go_wp2_with fail)
            all_goals (exact ⟨⟨k + 1, by omega, by go_num, (by first | exact hL | go_grown : Below w.heap.size w _).setCell (p := ⟨G, i, none⟩) (Nat.le_of_lt hG) _, kb.set _ _ _ (by omega), by rw [← HST.out]; exact ownsN_store oo HLN.out i _⟩, by simp [intOf]; omega⟩)
          · have e : k = 2 ^ N := by have := Hr.out; omega
            rw [e, decAt_next] at oo
            clear e
            go_wp2_with fail
            exact ⟨⟨i + 1, by omega, by go_num, hL, kb, oo, hG⟩, by simp [intOf]; omega⟩
      · have e : i = N := by omega
        subst e
        rw [decAt_all] at oo
        have HOO := Lib.hid oo
        have hlen : (decL v i).length = i := listF_len _ _
        clear oo
        go_wp2_with fail
        go_ret2
        refine ⟨_, by rw [H1.out]; rfl, ?_, hL⟩
        rw [H0.out]
        exact In.of HOO.out (Nat.le_refl _) (Nat.le_refl _)
  · have H0 : Hid (resDecidingRows_0 n v = []) := if_neg ht
    have H1 : Hid (resDecidingRows_1 n v = 1) := if_neg ht
    have Ht : Hid (isTab n v = false) := by unfold Hid; simpa using ht
    clear ht
    go_enter Try.func29, Try.ntmps29
    go_wp2_with (first | (go_at_call 57; (with_reducible refine (isTable_b _ _ _ Ht.out).mono ?_); rintro e w' ⟨rfl, hb⟩; have hL := chain (B := w.heap.size) (a := w) (by go_grown) (Nat.le_refl _) hb; (first | replace k0 := keepAt hb k0 | replace k0 := keepAt hb (C2.alloc k0 _)); clear hb))
    go_ret2
    exact ⟨_, by rw [H1.out]; rfl, by rw [H0.out]; exact In.of (World.ownsRow_nil _ _ _ _ : Owns _ w.heap.size _ []) (Nat.le_refl _) (Nat.le_refl _), hL⟩

end Go.Proofs.Ytibfenkaoaclfaa
