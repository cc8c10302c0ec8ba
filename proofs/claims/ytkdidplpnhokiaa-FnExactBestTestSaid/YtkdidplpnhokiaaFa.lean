/- FaultsThatAgree: the program's. -/
import Derived.Test.YtkdidplpnhokiaaFaI
import Derived.Test.YtkdidplpnhokiaaNw
namespace Go.Proofs.Ytkdidplpnhokiaa
open Go.RowKit
set_option linter.unusedVariables false

theorem tabI_bd {xs : List Int} (h5 : xs.length ≤ 5) (yss : List (List Int)) (k : Nat) : 0 ≤ tabI xs yss k ∧ tabI xs yss k < 9223372036854775808 := by
  have := tabN_bd xs yss ((2 ^ k : Nat)).testBit (pow_le32 h5)
  unfold tabI tabZ
  omega
theorem rc32 {n : Nat} (h : n ≤ 5) : rcZ (n : Int) ≤ 32 := by
  unfold rcZ
  rw [Int.toNat_natCast]
  have := pow_le32 h
  omega

set_option maxRecDepth 100000 in
set_option maxHeartbeats 2000000 in
theorem iFaultsThatAgree_any (v : Value) (p : Int) (xs : List Int) (yss : List (List Int)) (v2 : Value) (ss : List (List Int)) (w : World) (ha : ReadsW w v p xs yss) (hs : Reads2 w v2 ss) :
    Calls Try.prog 45 #[v, v2] w fun e w' => ∃ u, e = .returned (.tuple #[u, .int .i64 (resFaultsThatAgree_1 p xs yss ss)]) ∧ In w' w.heap.size w'.heap.size u (resFaultsThatAgree_0 p xs yss ss) ∧ Below w.heap.size w w' := by
  unfold resFaultsThatAgree_0 resFaultsThatAgree_1
  obtain ⟨i0, hi, hz0, hz1, hz2⟩ := info_parts info64
  obtain ⟨c, hc⟩ : ∃ c, sgC p xs yss ss = c := ⟨_, rfl⟩
  have HP := Lib.hid (fun w' (h : Below w.heap.size w w') => sightsError_any v v2 p xs yss ss w' (ha.keep h) (hs.keep h) hc)
  have ha' := ha
  obtain ⟨a, ca, b', cb, rfl, _, _⟩ := ha
  have h0 := C3.here w (.int .i64 p) (.slice a xs.length ca) (.slice b' yss.length cb) 28
  rw [hc]
  by_cases h : c = 0
  · subst h
    obtain ⟨hw', hok⟩ := sgC_zero hc
    have hw := hw'.weak
    have h5 := hw.1.1.2
    have HF := Lib.hid (fun w' (h : Below w.heap.size w w') => faultTables_any _ p xs yss w' (ha'.keep h) hw)
    have HAG : Hid (∀ k q w', agI xs yss ss k = q → Below w.heap.size w w' → Calls Try.prog 97 #[.agg #[.int .i64 (xs.length : Int), .int .i64 (tabI xs yss k)], v2] w' fun e w'' => e = .returned (.bool q) ∧ Below w'.heap.size w' w'') := fun k q w' hq hb =>
      agrees_any _ _ v2 ss (rcZ (xs.length : Int)) w' (hs.keep hb) hok.2 (rc32 h5) (tabI_bd h5 yss k).1 (tabI_bd h5 yss k).2 hq
    rw [if_pos rfl]
    have HH : Hid (∀ k, agI xs yss ss k = true → pickL (agI xs yss ss) (k + 1) = pickL (agI xs yss ss) k ++ [(k : Int)]) := fun k h => pick_hit h
    have HM : Hid (∀ k, agI xs yss ss k = false → pickL (agI xs yss ss) (k + 1) = pickL (agI xs yss ss) k) := fun k h => pick_miss h
    have HLEN : Hid (∀ k, k ≤ yss.length → (pickL (agI xs yss ss) k).length ≤ 16) := fun k hk => by have := pick_len (agI xs yss ss) k; have := hw.2.2.1; omega
    have HP0 : Hid (pickL (agI xs yss ss) 0 = []) := rfl
    have h16 : Hid (yss.length ≤ 16) := hw.2.2.1
    clear hc ha' hw hw' hok h5 hs
    generalize tabI xs yss = f at *
    generalize agI xs yss ss = AG at *
    generalize pickL AG = PL at *
    generalize xs.length = n at *
    generalize yss.length = m at *
    go_enter Try.func45, Try.ntmps45
    go_wp2_with ((go_at_call 96; (with_reducible refine (HP.out _ (by go_grown)).mono ?_); rintro e w' ⟨rfl, hb⟩; have hL := chain (B := w.heap.size) (a := w) (by go_grown) (Nat.le_refl _) hb; (first | replace h0 := keepAt3 hb h0 | replace h0 := keepAt3 hb (C3.alloc h0 _)); clear hb))
    refine (HF.out _ hL).mono ?_
    rintro e w4 ⟨g, rfl, ho, hb⟩
    have hL4 := chain (B := w.heap.size) (a := w) hL (Nat.le_refl _) hb
    obtain ⟨_, _, e1, HRT⟩ := ho.reads
    simp only [Value.slice.injEq, Option.some.injEq, Addr.mk.injEq] at e1
    obtain ⟨⟨rfl, _⟩, _, rfl⟩ := e1
    have HR := Lib.hid HRT
    have HGG : Hid (g < w4.heap.size) := by
      have := World.ownsRow.lt ho g rfl
      unfold Hid
      omega
    clear ho hb h0 hL HRT
    go_wp2_with fail
    go_loopw [7, 19] (fun u c wr => ∃ k : Nat, k ≤ m ∧ c = .int .i64 (k : Int) ∧ Below w.heap.size w wr ∧ g < wr.heap.size ∧ Hid (∀ i, i < m → wr.cell? ⟨g, i * 2, none⟩ = some (.int .i64 (n : Int)) ∧ wr.cell? ⟨g, i * 2 + 1, none⟩ = some (.int .i64 (f i))) ∧ Hid (u.ownBlock ≠ some g) ∧ Hid (Owns wr w.heap.size u (PL k))) (fun _ c _ => m - (intOf c).toNat)
    case atStart => exact ⟨0, Nat.zero_le _, rfl, hL4, HGG.out, HR, by simp [Hid, Value.ownBlock], by rw [HP0.out]; exact World.ownsRow_nil _ _ _ _⟩
    case round =>
      clear hL4 HR
      obtain ⟨k, hk, rfl, hL, hgz, HR, HNE, HO⟩ := hrel
      by_cases hlt : k < m
      · obtain ⟨c0, c1⟩ := HR.out k hlt
        have hi1 : (k : Int) < (m : Int) := by omega
        have hi0' : (0 : Int) ≤ (k : Int) := by omega
        have hk63 : (k : Int) < 9223372036854775807 := by have := h16.out; omega
        have HLK := Lib.hid (HLEN.out k hk)
        have hzz := hL.size
        have HO1 := Lib.hid (World.ownsRow.alloc HO.out (.cells #[.int .i64 (n : Int), .int .i64 (f k)] 44))
        have HR1 : Hid (∀ i, i < m → (wr.alloc (.cells #[.int .i64 (n : Int), .int .i64 (f k)] 44)).cell? ⟨g, i * 2, none⟩ = some (.int .i64 (n : Int)) ∧ (wr.alloc (.cells #[.int .i64 (n : Int), .int .i64 (f k)] 44)).cell? ⟨g, i * 2 + 1, none⟩ = some (.int .i64 (f i))) := fun i hi => ⟨cell_later ((Below.refl _ _).alloc (Nat.le_refl _) _) (HR.out i hi).1, cell_later ((Below.refl _ _).alloc (Nat.le_refl _) _) (HR.out i hi).2⟩
        have hL1 := hL.alloc hzz (.cells #[.int .i64 (n : Int), .int .i64 (f k)] 44)
        cases hq : AG k
        · have HC := Lib.hid (fun w' (h : Below w.heap.size w w') => HAG.out k _ w' hq h)
          have HN := Lib.hid (HM.out k hq)
          clear hq
          go_wp2_with (go_at_call 97; (with_reducible refine (HC.out _ hL1).mono ?_); rintro e w5 ⟨rfl, hb⟩; have hL5 := chain (B := w.heap.size) (a := w) hL1 (Nat.le_refl _) hb; have HO5 := Lib.hid (rowLater HO1.out hb); have HR5 := Lib.hid (fun i hi => And.intro (cell_later hb (HR1.out i hi).1) (cell_later hb (HR1.out i hi).2)); have hg5 : g < w5.heap.size := (by have := hb.size; simp at this; omega); clear hb)
          exact ⟨⟨k + 1, by omega, by go_num, hL5, hg5, HR5, HNE, by rw [HN.out]; exact HO5⟩, by simp [intOf]; omega⟩
        · have HC := Lib.hid (fun w' (h : Below w.heap.size w w') => HAG.out k _ w' hq h)
          have HN := Lib.hid (HH.out k hq)
          clear hq
          go_wp2_with (first | (go_at_call 97; (with_reducible refine (HC.out _ hL1).mono ?_); rintro e w5 ⟨rfl, hb⟩; have hL5 := chain (B := w.heap.size) (a := w) hL1 (Nat.le_refl _) hb; have HO5 := Lib.hid (rowLater HO1.out hb); have HR5 := Lib.hid (fun i hi => And.intro (cell_later hb (HR1.out i hi).1) (cell_later hb (HR1.out i hi).2)); have hg5 : g < w5.heap.size := (by have := hb.size; simp at this; omega); have hz5 := hL5.size; clear hb) | (at_builtin; refine wpList_append_own_at _ rfl _ _ 22 rfl w.heap.size 2 i0 (.int .i64 0) 1 8 Try.underlying22 hi hz0 hz1 hz2 rfl (by decide) u7 _ _ rfl (World.ownsRow.alloc HO5.out _) ⟨w5.heap.size, 0, none⟩ 1 1 [.int .i64 (k : Int)] rfl rfl (cell_one_new _ _ _) (by simp [Value.oneCell']) (by have := HLK.out; unfold maxLen; omega) (by have := HLK.out; omega) (by simp; omega) ?_; intro v' w6 hown hgrow hnil hat; have hnew : v'.ownBlock = u7.ownBlock ∨ v'.ownBlock = some (w5.heap.size + 1) := (by simpa using hat); have hG1 := (Below.refl w5.heap.size w5).alloc (Nat.le_refl _) (.cells #[.int .i64 (k : Int)] 2); have HR6 : Hid (∀ i, i < m → w6.cell? ⟨g, i * 2, none⟩ = some (.int .i64 (n : Int)) ∧ w6.cell? ⟨g, i * 2 + 1, none⟩ = some (.int .i64 (f i))) := (fun i hi => ⟨(World.cell?_of_block (hgrow.block g (by simp; omega) (Ne.symm HNE.out))).trans (cell_later hG1 (HR5.out i hi).1), (World.cell?_of_block (hgrow.block g (by simp; omega) (Ne.symm HNE.out))).trans (cell_later hG1 (HR5.out i hi).2)⟩); have HNE1 : Hid (v'.ownBlock ≠ some g) := fun e => hnew.elim (fun e2 => HNE.out (by rw [← e2]; exact e)) (fun e2 => by rw [e2] at e; simp at e; omega); have hL6 := (hL5.alloc hz5 _).grown hgrow (by simp; omega) (fun q e => (World.ownsRow.lt HO5.out q e).1); have HO6 := Lib.hid (Owns.snoc hown); have hg6 : g < w6.heap.size := (by have := hgrow.size; simp at this; omega); clear hown hgrow hnil hat hG1 hnew))
          rw [← HN.out] at HO6
          exact ⟨⟨k + 1, by omega, by go_num, hL6, hg6, HR6, HNE1, HO6⟩, by simp [intOf]; omega⟩
      · have e : k = m := by omega
        rw [e] at HO
        have hge : ¬ (k : Int) < (m : Int) := by omega
        clear e
        go_wp2_with fail
        go_ret2
        exact ⟨_, rfl, In.of HO.out (Nat.le_refl _) (Nat.le_refl _), hL⟩
  · rw [if_neg h]
    have hne : (c != 0) = true := by simpa using h
    clear hc ha' h hs
    generalize xs.length = n at *
    generalize yss.length = m at *
    go_enter Try.func45, Try.ntmps45
    go_wp2_with ((go_at_call 96; (with_reducible refine (HP.out _ (by go_grown)).mono ?_); rintro e w' ⟨rfl, hb⟩; have hL := chain (B := w.heap.size) (a := w) (by go_grown) (Nat.le_refl _) hb; (first | replace h0 := keepAt3 hb h0 | replace h0 := keepAt3 hb (C3.alloc h0 _)); clear hb))
    go_ret2
    exact ⟨_, rfl, In.of (World.ownsRow_nil _ _ _ _ : Owns _ w.heap.size _ []) (Nat.le_refl _) (Nat.le_refl _), hL⟩

end Go.Proofs.Ytkdidplpnhokiaa
