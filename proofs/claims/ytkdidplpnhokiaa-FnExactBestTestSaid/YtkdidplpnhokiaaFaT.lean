/- FaultsThatAgree: the model's faults, and the whole. -/
import Derived.Test.YtkdidplpnhokiaaFaS
import Derived.Test.YtkdidplpnhokiaaFa
namespace Go.Proofs.Ytkdidplpnhokiaa
open Go.RowKit
set_option linter.unusedVariables false

set_option maxRecDepth 100000 in
set_option maxHeartbeats 4000000 in
theorem l10Agree_any (v v2 : Value) (p : Int) (xs : List Int) (yss ss : List (List Int)) (w : World) (ha : ReadsW w v p xs yss) (hs : Reads2 w v2 ss) (hw : WirW p xs yss) (hok : SgsOk (rcZ (xs.length : Int)) ss) :
    Calls Try.prog 95 #[v, v2] w fun e w' => ∃ u, e = .returned u ∧ Owns w' w.heap.size u (pickL (agI xs yss ss) yss.length) ∧ Below w.heap.size w w' := by
  obtain ⟨i0, hi, hz0, hz1, hz2⟩ := info_parts info64
  have ha' := ha
  obtain ⟨a, ca, b', cb, rfl, _, _⟩ := ha
  have h5 := hw.1.1.2
  have HWO : Hid (∀ k, k < yss.length → ∀ w', Below w.heap.size w w' → Calls Try.prog 91 #[.agg #[.int .i64 p, .slice a xs.length ca, .slice b' yss.length cb], .int .i64 (k : Int)] w' fun e w'' => ∃ ua uc ub ud mm, e = .returned (.agg #[.int .i64 p, .slice ua xs.length uc, .slice ub mm ud]) ∧ ReadsW w'' (.agg #[.int .i64 p, .slice ua xs.length uc, .slice ub mm ud]) p xs (yss.eraseIdx k) ∧ Below w'.heap.size w' w'') := fun k hk w' h => by
    refine (l10Without_any _ p xs yss k w' (ha'.keep h) hw hk).mono ?_
    rintro e w'' ⟨u, rfl, hf, hb⟩
    have hr := hf.reads
    obtain ⟨ua, uc, ub, ud, rfl, _, _⟩ := id hr
    exact ⟨ua, uc, ub, ud, _, rfl, hr, hb⟩
  have HST : Hid (∀ k j x0 x1, k < yss.length → j < ss.length → ss.getD j [] = [x0, x1] → ∃ bl, (∀ w' u, ReadsW w' u p xs (yss.eraseIdx k) → Calls Try.prog 73 #[u, .int .i64 x0] w' fun e w'' => e = .returned (.bool bl) ∧ Below w'.heap.size w' w'') ∧ (agTo (tabI xs yss k) ss j = true → agTo (tabI xs yss k) ss (j + 1) = (bl == (x1 == 1)))) := fun k j x0 x1 hk hj hr => by
    have ho := hok.2 j hj
    have hag := ag_lit (xs := xs) (yss := yss) (ss := ss) (k := j) hk ho
    rw [hr] at ho hag
    obtain ⟨_, ⟨a0, a1⟩, _, _⟩ := ho
    simp only [List.getD_cons_zero] at a0 a1
    have := rc32 h5
    refine ⟨litB xs (yss.eraseIdx k) x0, fun w' u h => l10Lit_any u p xs _ x0 w' h (hw.erase hk) a0 (by omega) rfl, fun h => ?_⟩
    rw [agTo_step h, ← hag]
    rfl
  have HEND : Hid (∀ k j, k < yss.length → j ≤ ss.length → ∀ q, agTo (tabI xs yss k) ss j = q → (j = ss.length ∨ q = false) → agI xs yss ss k = q) := fun k j hk hj q hq h => by
    rcases h with rfl | rfl
    · exact hq
    · exact agTo_no hq hj
  have HA0 : Hid (∀ k, agTo (tabI xs yss k) ss 0 = true) := fun k => agTo_zero _ _
  have HH : Hid (∀ k, agI xs yss ss k = true → pickL (agI xs yss ss) (k + 1) = pickL (agI xs yss ss) k ++ [(k : Int)]) := fun k h => pick_hit h
  have HM : Hid (∀ k, agI xs yss ss k = false → pickL (agI xs yss ss) (k + 1) = pickL (agI xs yss ss) k) := fun k h => pick_miss h
  have HLEN : Hid (∀ k, k ≤ yss.length → (pickL (agI xs yss ss) k).length ≤ 16) := fun k hk => by have := pick_len (agI xs yss ss) k; have := hw.2.2.1; omega
  have HP0 : Hid (pickL (agI xs yss ss) 0 = []) := rfl
  have h16 : Hid (yss.length ≤ 16) := hw.2.2.1
  have h32 : Hid (ss.length ≤ 32) := hok.1
  obtain ⟨a3, cs, rfl, hm, _⟩ := id hs
  unfold maxLen at hm
  have HROW : Hid (∀ j, j < ss.length → ∃ b off b2 off2 c2 x0 x1, a3 = some ⟨b, off, none⟩ ∧ w.cell? ⟨b, off + j, none⟩ = some (.slice (some ⟨b2, off2, none⟩) 2 c2) ∧ w.cell? ⟨b2, off2, none⟩ = some (.int .i64 x0) ∧ w.cell? ⟨b2, off2 + 1, none⟩ = some (.int .i64 x1) ∧ ss.getD j [] = [x0, x1]) := fun j hj => sight_row hs hj (hok.2 j hj).1
  clear ha' hw hok h5 hs
  generalize hll' : ss.length = l at *
  clear hll'
  have h0 := (C3.here w (.int .i64 p) (.slice a xs.length ca) (.slice b' yss.length cb) 28).alloc (.cells #[] 2)
  have ho := ownsMadeN (w.alloc (.cells #[.int .i64 p, .slice a xs.length ca, .slice b' yss.length cb] 28)) w.heap.size (by simp)
  rw [World.size_alloc] at ho
  rw [← HP0.out] at ho
  have hL : Below w.heap.size w ((w.alloc (.cells #[.int .i64 p, .slice a xs.length ca, .slice b' yss.length cb] 28)).alloc (.cells #[] 2)) := by go_grown
  generalize hff : tabI xs yss = f at *
  generalize agI xs yss ss = AG at *
  generalize pickL AG = PL at *
  clear hff
  generalize hnn' : xs.length = n at *
  clear hnn'
  generalize hmm' : yss.length = m at *
  clear hmm'
  go_enter Try.func95, Try.ntmps95
  go_wp2_with fail
  have HO0 := Lib.hid ho
  clear ho
  go_loopw [5, 6] (fun u c wr => ∃ k : Nat, k ≤ m ∧ c = .int .i64 (k : Int) ∧ Below w.heap.size w wr ∧ C3 wr w.heap.size (.int .i64 p) (.slice a n ca) (.slice b' m cb) ∧ Hid (u.ownBlock ≠ some w.heap.size) ∧ Hid (Owns wr w.heap.size u (PL k))) (fun _ c _ => m - (intOf c).toNat)
  case atStart => exact ⟨0, Nat.zero_le _, rfl, hL, h0, by simp [Hid, Value.ownBlock], HO0⟩
  case round =>
    clear hL h0 HO0
    obtain ⟨k, hk, rfl, hL, h0, HNE, HO⟩ := hrel
    by_cases hlt : k < m
    · have hi1 : (k : Int) < (m : Int) := by omega
      have hi0' : (0 : Int) ≤ (k : Int) := by omega
      have hk63 : (k : Int) < 9223372036854775807 := by have := h16.out; omega
      have HLK := Lib.hid (HLEN.out k hk)
      have HWK := Lib.hid (HWO.out k hlt)
      go_wp2_with fail
      refine (HWK.out _ hL).mono ?_
      rintro e w5 ⟨ua, uc, ub, ud, mm, rfl, hru, hb⟩
      have hL5 := chain (B := w.heap.size) (a := w) hL (Nat.le_refl _) hb
      have h05 := keepAt3 hb h0
      have HO5 := Lib.hid (rowLater HO.out hb)
      have hz5 := hL5.size
      have g0 := C3.here w5 (.int .i64 p) (.slice ua n uc) (.slice ub mm ud) 28
      have hL6 := hL5.alloc hz5 (.cells #[.int .i64 p, .slice ua n uc, .slice ub mm ud] 28)
      have h06 := h05.alloc (.cells #[.int .i64 p, .slice ua n uc, .slice ub mm ud] 28)
      have HO6 := Lib.hid (World.ownsRow.alloc HO5.out (.cells #[.int .i64 p, .slice ua n uc, .slice ub mm ud] 28))
      have HRU := Lib.hid (hru.keep ((Below.refl _ _).alloc (Nat.le_refl _) (.cells #[.int .i64 p, .slice ua n uc, .slice ub mm ud] 28)))
      have HEK := Lib.hid (HEND.out k)
      have HAK := Lib.hid (HA0.out k)
      have HSK := Lib.hid (HST.out k)
      clear hL h0 HO hb hru hL5 h05 HO5 HWK
      obtain ⟨G, hG⟩ : ∃ G, w5.heap.size = G := ⟨_, rfl⟩
      rw [hG] at g0
      go_wp2_with fail
      generalize hwt : (w5.alloc (.cells #[.int .i64 p, .slice ua n uc, .slice ub mm ud] 28)) = wt at *
      clear hwt
      go_loopw [8, 9] (fun gd c wr => ∃ j : Nat, j ≤ l ∧ c = .int .i64 (j : Int) ∧ gd = .bool (agTo (f k) ss j) ∧ Below w.heap.size w wr ∧ C3 wr w.heap.size (.int .i64 p) (.slice a n ca) (.slice b' m cb) ∧ C3 wr G (.int .i64 p) (.slice ua n uc) (.slice ub mm ud) ∧ Hid (ReadsW wr (.agg #[.int .i64 p, .slice ua n uc, .slice ub mm ud]) p xs (yss.eraseIdx k)) ∧ Hid (Owns wr w.heap.size u5 (PL k))) (fun _ c _ => l - (intOf c).toNat)
      case atStart => exact ⟨0, Nat.zero_le _, rfl, by rw [HAK.out], hL6, h06, g0, HRU, HO6⟩
      case round =>
        clear hL6 h06 g0 HRU HO6
        obtain ⟨j, hj, rfl, rfl, hL, h0, g0, HRU, HO⟩ := hrel
        by_cases hjl : j < l
        · obtain ⟨q, hq⟩ : ∃ q, agTo (f k) ss j = q := ⟨_, rfl⟩
          have hj1 : (j : Int) < (l : Int) := by omega
          have hj0 : (0 : Int) ≤ (j : Int) := by omega
          have hj63 : (j : Int) < 9223372036854775807 := by have := h32.out; omega
          rw [hq]
          cases q
          · have HE := Lib.hid (HEK.out j hlt hj _ hq (.inr rfl))
            have HN := Lib.hid (HM.out k HE.out)
            clear hq
            go_wp2_with fail
            exact ⟨⟨k + 1, by omega, by go_num, hL, h0, HNE, by rw [HN.out]; exact HO⟩, by simp [intOf]; omega⟩
          · obtain ⟨b, off, b2, off2, c2, x0, x1, rfl, hcw, kw0, kw1, hrow⟩ := HROW.out j hjl
            have hcl := cell_later hL hcw
            have k0 := cell_later hL kw0
            have k1 := cell_later hL kw1
            obtain ⟨bl, hLI, hst⟩ := HSK.out j x0 x1 hlt hjl hrow
            have HLI := Lib.hid hLI
            have HE := Lib.hid (hst hq)
            clear hcw kw0 kw1 hLI hst hq hrow
            go_wp2_with fail
            go_region_held3 (fun wx => C3 wx G (.int .i64 p) (.slice ua n uc) (.slice ub mm ud) ∧ wx.cell? ⟨b, off + j, none⟩ = some (.slice (some ⟨b2, off2, none⟩) 2 c2) ∧ wx.cell? ⟨b2, off2, none⟩ = some (.int .i64 x0) ∧ wx.cell? ⟨b2, off2 + 1, none⟩ = some (.int .i64 x1)) (exact ⟨g0, hcl, k0, k1⟩) ((go_at_call 73; (with_reducible refine (HLI.out _ _ (by first | exact HRU.out | exact HRU.out.keep (by go_grown))).mono ?_); rintro e w' ⟨rfl, hb⟩; have hL := chain (B := w.heap.size) (a := w) (by first | exact hL | go_grown) (Nat.le_refl _) hb; replace h0 := keepAt3 hb h0; replace g0 := keepAt3 hb g0; replace hcl := cell_later hb hcl; replace k0 := cell_later hb k0; replace k1 := cell_later hb k1; replace HRU := Lib.hid (HRU.out.keep (chain (B := wr.heap.size) (a := wr) (by go_grown) (Nat.le_refl _) hb)); replace HO := Lib.hid (rowLater HO.out (chain (B := wr.heap.size) (a := wr) (by go_grown) (Nat.le_refl _) hb)); clear hb))
            all_goals go_wp2_with fail
            all_goals exact ⟨⟨j + 1, by omega, by go_num, by rw [HE.out], by first | exact hL | go_grown, h0, g0, HRU, HO⟩, by simp [intOf]; omega⟩
        · have hge : ¬ (j : Int) < (l : Int) := by omega
          have e : j = l := by omega
          obtain ⟨q, hq⟩ : ∃ q, agTo (f k) ss j = q := ⟨_, rfl⟩
          have HE := Lib.hid (HEK.out j hlt hj _ hq (.inl e))
          rw [hq]
          clear hq e
          have hzz := hL.size
          cases q
          · have HN := Lib.hid (HM.out k HE.out)
            go_wp2_with fail
            exact ⟨⟨k + 1, by omega, by go_num, hL, h0, HNE, by rw [HN.out]; exact HO⟩, by simp [intOf]; omega⟩
          · have HN := Lib.hid (HH.out k HE.out)
            go_wp2_with (at_builtin; refine wpList_append_own_at _ rfl _ _ 22 rfl w.heap.size 2 i0 (.int .i64 0) 1 8 Try.underlying22 hi hz0 hz1 hz2 rfl (by decide) u5 _ _ rfl (World.ownsRow.alloc HO.out _) ⟨wr.heap.size, 0, none⟩ 1 1 [.int .i64 (k : Int)] rfl rfl (cell_one_new _ _ _) (by simp [Value.oneCell']) (by have := HLK.out; unfold maxLen; omega) (by have := HLK.out; omega) (by simp; omega) ?_; intro v' w7 hown hgrow hnil hat; have hnew : v'.ownBlock = u5.ownBlock ∨ v'.ownBlock = some (wr.heap.size + 1) := (by simpa using hat); have hkw : w.heap.size < wr.heap.size := h0.2.2; have h01 := (h0.alloc (.cells #[.int .i64 (k : Int)] 2)).grown hgrow HNE.out; have HNE1 : Hid (v'.ownBlock ≠ some w.heap.size) := (fun e => hnew.elim (fun e2 => HNE.out (by rw [← e2]; exact e)) (fun e2 => by rw [e2] at e; simp at e; omega)); have hL1 := (hL.alloc hzz _).grown hgrow (by simp; omega) (fun q e => (World.ownsRow.lt HO.out q e).1); have HO2 := Lib.hid (Owns.snoc hown); clear hown hgrow hnil hat hnew)
            rw [← HN.out] at HO2
            exact ⟨⟨k + 1, by omega, by go_num, hL1, h01, HNE1, HO2⟩, by simp [intOf]; omega⟩
    · have e : k = m := by omega
      rw [e] at HO
      have hge : ¬ (k : Int) < (m : Int) := by omega
      clear e
      go_wp2_with fail
      go_ret
      exact ⟨_, rfl, HO.out, hL⟩

set_option maxRecDepth 100000 in
set_option maxHeartbeats 2000000 in
theorem sFaultsThatAgree_any (v : Value) (p : Int) (xs : List Int) (yss : List (List Int)) (v2 : Value) (ss : List (List Int)) (w : World) (ha : ReadsW w v p xs yss) (hs : Reads2 w v2 ss) :
    Calls Try.prog 43 #[v, v2] w fun e w' => ∃ u, e = .returned (.tuple #[u, .int .i64 (resFaultsThatAgree_1 p xs yss ss)]) ∧ Reads w' u (resFaultsThatAgree_0 p xs yss ss) ∧ Below w.heap.size w w' := by
  unfold resFaultsThatAgree_0 resFaultsThatAgree_1
  obtain ⟨c, hc⟩ : ∃ c, sgC p xs yss ss = c := ⟨_, rfl⟩
  have HP := Lib.hid (fun w' (h : Below w.heap.size w w') => l10Sights_any v v2 p xs yss ss w' (ha.keep h) (hs.keep h) hc)
  have ha' := ha
  obtain ⟨a, ca, b', cb, rfl, _, _⟩ := ha
  have h0 := C3.here w (.int .i64 p) (.slice a xs.length ca) (.slice b' yss.length cb) 28
  rw [hc]
  by_cases h : c = 0
  · subst h
    obtain ⟨hw', hok⟩ := sgC_zero hc
    have HA := Lib.hid (fun w' (h : Below w.heap.size w w') => l10Agree_any _ v2 p xs yss ss w' (ha'.keep h) (hs.keep h) hw'.weak hok)
    rw [if_pos rfl]
    clear hc ha' hw' hok hs
    generalize pickL (agI xs yss ss) yss.length = PL at *
    generalize xs.length = n at *
    generalize yss.length = m at *
    go_enter Try.func43, Try.ntmps43
    go_wp2_with ((go_at_call 94; (with_reducible refine (HP.out _ (by go_grown)).mono ?_); rintro e w' ⟨rfl, hb⟩; have hL := chain (B := w.heap.size) (a := w) (by go_grown) (Nat.le_refl _) hb; (first | replace h0 := keepAt3 hb h0 | replace h0 := keepAt3 hb (C3.alloc h0 _)); clear hb))
    refine (HA.out _ hL).mono ?_
    rintro e w4 ⟨u, rfl, ho, hb⟩
    have hL4 := chain (B := w.heap.size) (a := w) hL (Nat.le_refl _) hb
    have HO := Lib.hid ho
    clear ho hb hL h0
    go_wp2_with fail
    go_ret2
    exact ⟨_, rfl, HO.out.reads, hL4⟩
  · rw [if_neg h]
    have hne : (c != 0) = true := by simpa using h
    clear hc ha' h hs
    generalize xs.length = n at *
    generalize yss.length = m at *
    go_enter Try.func43, Try.ntmps43
    go_wp2_with ((go_at_call 94; (with_reducible refine (HP.out _ (by go_grown)).mono ?_); rintro e w' ⟨rfl, hb⟩; have hL := chain (B := w.heap.size) (a := w) (by go_grown) (Nat.le_refl _) hb; (first | replace h0 := keepAt3 hb h0 | replace h0 := keepAt3 hb (C3.alloc h0 _)); clear hb))
    go_ret2
    exact ⟨_, rfl, Owns.reads (base := w.heap.size) (World.ownsRow_nil _ _ _ _), hL⟩

end Go.Proofs.Ytkdidplpnhokiaa
