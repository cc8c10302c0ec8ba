/- NeededWires: the program's and the model's. -/
import Derived.Test.YtkdidplpnhokiaaNwM
import Derived.Test.YtkdidplpnhokiaaWoS
import Derived.Deep.RegionHeld3
import Derived.Deep.RegionWith
namespace Go.Proofs.Ytkdidplpnhokiaa
open Go.RowKit
set_option linter.unusedVariables false

/-- one number more in a list of the call's own, other blocks left -/
theorem ownsMadeN (w : World) (B : Nat) (hB : B ≤ w.heap.size) : Owns (w.alloc (.cells #[] 2)) B (.slice (some ⟨w.heap.size, 0, none⟩) 0 0) [] :=
  World.ownsRow_made (base := B) (e := 2) (size := 1) w #[] 0 hB (by simp) rfl

set_option maxRecDepth 100000 in
set_option maxHeartbeats 2000000 in
theorem iNeededWires_any (v : Value) (p : Int) (xs : List Int) (yss : List (List Int)) (w : World) (ha : ReadsW w v p xs yss) :
    Calls Try.prog 41 #[v] w fun e w' => ∃ u, e = .returned (.tuple #[u, .int .i64 (resNeededWires_1 p xs yss)]) ∧ In w' w.heap.size w'.heap.size u (resNeededWires_0 p xs yss) ∧ Below w.heap.size w w' := by
  unfold resNeededWires_0 resNeededWires_1
  obtain ⟨i0, hi, hz0, hz1, hz2⟩ := info_parts info64
  obtain ⟨d, hd⟩ : ∃ d, wirB p xs yss = d := ⟨_, rfl⟩
  have HW := Lib.hid (fun w' (h : Below w.heap.size w w') => isWiring_any v p xs yss w' (ha.keep h) hd)
  have ha' := ha
  obtain ⟨a, ca, b', cb, rfl, _, _⟩ := ha
  have h0 := C3.here w (.int .i64 p) (.slice a xs.length ca) (.slice b' yss.length cb) 28
  rw [hd]
  cases d
  · clear hd ha'
    rw [if_neg (by simp), if_neg (by simp)]
    generalize xs.length = n at *
    generalize yss.length = m at *
    go_enter Try.func41, Try.ntmps41
    go_wp2_with ((go_at_call 18; (with_reducible refine (HW.out _ (by go_grown)).mono ?_); rintro e w' ⟨rfl, hb⟩; have hL := chain (B := w.heap.size) (a := w) (by go_grown) (Nat.le_refl _) hb; (first | replace h0 := keepAt3 hb h0 | replace h0 := keepAt3 hb (C3.alloc h0 _)); clear hb))
    go_ret2
    exact ⟨_, rfl, In.of (World.ownsRow_nil _ _ _ _ : Owns _ w.heap.size _ []) (Nat.le_refl _) (Nat.le_refl _), hL⟩
  · have hw := (wirB_out hd).weak
    obtain ⟨z, hz⟩ : ∃ z, tabZ xs yss (fun _ => false) = z := ⟨_, rfl⟩
    have HT := Lib.hid (fun w' (h : Below w.heap.size w w') => tableWithout_zero _ p xs yss w' (ha'.keep h) hw hz)
    have HF := Lib.hid (fun w' (h : Below w.heap.size w w') => faultTables_any _ p xs yss w' (ha'.keep h) hw)
    rw [if_pos rfl, if_pos rfl]
    have HH : Hid (∀ k, ¬ tabI xs yss k = z → pickL (needB xs yss) (k + 1) = pickL (needB xs yss) k ++ [(k : Int)]) := fun k h => pick_hit (by unfold needB; rw [hz]; exact decide_eq_true h)
    have HM : Hid (∀ k, tabI xs yss k = z → pickL (needB xs yss) (k + 1) = pickL (needB xs yss) k) := fun k h => pick_miss (by unfold needB; rw [hz]; exact decide_eq_false fun hh => hh h)
    have HLEN : Hid (∀ k, k ≤ yss.length → (pickL (needB xs yss) k).length ≤ 16) := fun k hk => by have := pick_len (needB xs yss) k; have := hw.2.2.1; omega
    have HP0 : Hid (pickL (needB xs yss) 0 = []) := rfl
    have h16 : Hid (yss.length ≤ 16) := hw.2.2.1
    clear hd ha' hw hz
    generalize tabI xs yss = f at *
    generalize pickL (needB xs yss) = PL at *
    generalize xs.length = n at *
    generalize yss.length = m at *
    go_enter Try.func41, Try.ntmps41
    go_wp2_with ((go_at_call 18; (with_reducible refine (HW.out _ (by go_grown)).mono ?_); rintro e w' ⟨rfl, hb⟩; have hL := chain (B := w.heap.size) (a := w) (by go_grown) (Nat.le_refl _) hb; (first | replace h0 := keepAt3 hb h0 | replace h0 := keepAt3 hb (C3.alloc h0 _)); clear hb))
    refine (HT.out _ hL).mono ?_
    rintro e w3 ⟨rfl, hb⟩
    replace hL := chain (B := w.heap.size) (a := w) hL (Nat.le_refl _) hb
    replace h0 := keepAt3 hb h0
    clear hb
    have kt := C2.here w3 (.int .i64 (n : Int)) (.int .i64 z) 44
    have hLt := hL.alloc hL.size (.cells #[.int .i64 (n : Int), .int .i64 z] 44)
    have h0t := h0.alloc (.cells #[.int .i64 (n : Int), .int .i64 z] 44)
    obtain ⟨gt, hgt⟩ : ∃ g, w3.heap.size = g := ⟨_, rfl⟩
    have HG : Hid (w.heap.size ≤ gt) := by have := hL.size; unfold Hid; omega
    rw [hgt] at kt
    go_wp2_with fail
    refine (HF.out _ hLt).mono ?_
    rintro e w4 ⟨g, rfl, ho, hb⟩
    have hL4 := chain (B := w.heap.size) (a := w) hLt (Nat.le_refl _) hb
    have kt4 := keepAt hb kt
    obtain ⟨_, _, e1, HRT⟩ := ho.reads
    simp only [Value.slice.injEq, Option.some.injEq, Addr.mk.injEq] at e1
    obtain ⟨⟨rfl, _⟩, _, rfl⟩ := e1
    have HR := Lib.hid HRT
    have HGG : Hid (gt < g ∧ g < w4.heap.size) := by
      have := World.ownsRow.lt ho g rfl
      simp at this
      unfold Hid
      omega
    clear ho hb h0 h0t hL hLt kt HRT
    go_wp2_with fail
    clear hgt
    go_loopw [5, 16] (fun u c wr => ∃ k : Nat, k ≤ m ∧ c = .int .i64 (k : Int) ∧ Below w.heap.size w wr ∧ C2 wr gt (.int .i64 (n : Int)) (.int .i64 z) ∧ g < wr.heap.size ∧ Hid (∀ i, i < m → wr.cell? ⟨g, i * 2, none⟩ = some (.int .i64 (n : Int)) ∧ wr.cell? ⟨g, i * 2 + 1, none⟩ = some (.int .i64 (f i))) ∧ Hid (u.ownBlock ≠ some g ∧ u.ownBlock ≠ some gt) ∧ Hid (Owns wr w.heap.size u (PL k))) (fun _ c _ => m - (intOf c).toNat)
    case atStart => exact ⟨0, Nat.zero_le _, rfl, hL4, kt4, HGG.out.2, HR, ⟨by simp [Value.ownBlock], by simp [Value.ownBlock]⟩, by rw [HP0.out]; exact World.ownsRow_nil _ _ _ _⟩
    case round =>
      clear hL4 kt4 HR
      obtain ⟨k, hk, rfl, hL, kt, hgz, HR, HNE, HO⟩ := hrel
      by_cases hlt : k < m
      · obtain ⟨c0, c1⟩ := HR.out k hlt
        have hi1 : (k : Int) < (m : Int) := by omega
        have hi0' : (0 : Int) ≤ (k : Int) := by omega
        have hk63 : (k : Int) < 9223372036854775807 := by have := h16.out; omega
        have hnn : ((n : Int) == (n : Int)) = true := by simp
        have HLK := Lib.hid (HLEN.out k hk)
        have hzz := hL.size
        by_cases hq : f k = z
        · have he : (f k == z) = true := by simp [hq]
          have HN := Lib.hid (HM.out k hq)
          clear hq
          go_wp2_with fail
          have HO1 := Lib.hid (World.ownsRow.alloc HO.out (.cells #[.int .i64 (n : Int), .int .i64 (f k)] 44))
          exact ⟨⟨k + 1, by omega, by go_num, by go_grown, kt.alloc _, by simp; omega, fun i hi => ⟨cell_later ((Below.refl _ _).alloc (Nat.le_refl _) _) (HR.out i hi).1, cell_later ((Below.refl _ _).alloc (Nat.le_refl _) _) (HR.out i hi).2⟩, HNE, by rw [HN.out]; exact HO1⟩, by simp [intOf]; omega⟩
        · have he : (f k == z) = false := by simp [hq]
          have HN := Lib.hid (HH.out k hq)
          have HO1 := Lib.hid (World.ownsRow.alloc HO.out (.cells #[.int .i64 (n : Int), .int .i64 (f k)] 44))
          clear hq
          go_wp2_with (at_builtin; refine wpList_append_own_at _ rfl _ _ 22 rfl w.heap.size 2 i0 (.int .i64 0) 1 8 Try.underlying22 hi hz0 hz1 hz2 rfl (by decide) u5 _ _ rfl (World.ownsRow.alloc HO1.out _) ⟨wr.heap.size + 1, 0, none⟩ 1 1 [.int .i64 (k : Int)] rfl rfl (by have h := cell_one_new (wr.alloc (.cells #[.int .i64 (n : Int), .int .i64 (f k)] 44)) (.int .i64 (k : Int)) 2; rw [World.size_alloc] at h; exact h) (by simp [Value.oneCell']) (by have := HLK.out; unfold maxLen; omega) (by have := HLK.out; omega) (by simp; omega) ?_; intro v' w1 hown hgrow hnil hat; have hnew : v'.ownBlock = u5.ownBlock ∨ v'.ownBlock = some (wr.heap.size + 2) := (by simpa using hat); have hkg : gt < wr.heap.size := kt.2.2.2.2; have kt1 := ((kt.alloc (.cells #[.int .i64 (n : Int), .int .i64 (f k)] 44)).alloc (.cells #[.int .i64 (k : Int)] 2)).grown hgrow HNE.out.2; have hG1 := ((Below.refl wr.heap.size wr).alloc (Nat.le_refl _) (.cells #[.int .i64 (n : Int), .int .i64 (f k)] 44)).alloc (by simp) (.cells #[.int .i64 (k : Int)] 2); have HR1 : Hid (∀ i, i < m → w1.cell? ⟨g, i * 2, none⟩ = some (.int .i64 (n : Int)) ∧ w1.cell? ⟨g, i * 2 + 1, none⟩ = some (.int .i64 (f i))) := (fun i hi => ⟨(World.cell?_of_block (hgrow.block g (by simp; omega) (Ne.symm HNE.out.1))).trans (cell_later hG1 (HR.out i hi).1), (World.cell?_of_block (hgrow.block g (by simp; omega) (Ne.symm HNE.out.1))).trans (cell_later hG1 (HR.out i hi).2)⟩); have HNE1 : Hid (v'.ownBlock ≠ some g ∧ v'.ownBlock ≠ some gt) := ⟨fun e => hnew.elim (fun e2 => HNE.out.1 (by rw [← e2]; exact e)) (fun e2 => by rw [e2] at e; simp at e; omega), fun e => hnew.elim (fun e2 => HNE.out.2 (by rw [← e2]; exact e)) (fun e2 => by rw [e2] at e; simp at e; omega)⟩; have hL1 := ((hL.alloc hzz _).alloc (by simp; omega) _).grown hgrow (by simp; omega) (fun q e => (World.ownsRow.lt HO.out q e).1); have HO2 := Lib.hid (Owns.snoc hown); have hg1 : g < w1.heap.size := (by have := hgrow.size; simp at this; omega); clear hown hgrow hnil hat hG1 hnew)
          rw [← HN.out] at HO2
          exact ⟨⟨k + 1, by omega, by go_num, hL1, kt1, hg1, HR1, HNE1, HO2⟩, by simp [intOf]; omega⟩
      · have e : k = m := by omega
        rw [e] at HO
        have hge : ¬ (k : Int) < (m : Int) := by omega
        clear e
        go_wp2_with fail
        go_ret2
        exact ⟨_, rfl, In.of HO.out (Nat.le_refl _) (Nat.le_refl _), hL⟩

set_option maxRecDepth 100000 in
set_option maxHeartbeats 2000000 in
theorem sNeededWires_any (v : Value) (p : Int) (xs : List Int) (yss : List (List Int)) (w : World) (ha : ReadsW w v p xs yss) :
    Calls Try.prog 40 #[v] w fun e w' => ∃ u, e = .returned (.tuple #[u, .int .i64 (resNeededWires_1 p xs yss)]) ∧ Reads w' u (resNeededWires_0 p xs yss) ∧ Below w.heap.size w w' := by
  unfold resNeededWires_0 resNeededWires_1
  obtain ⟨i0, hi, hz0, hz1, hz2⟩ := info_parts info64
  obtain ⟨d, hd⟩ : ∃ d, wirB p xs yss = d := ⟨_, rfl⟩
  have HW := Lib.hid (fun w' (h : Below w.heap.size w w') => l10Is_any v p xs yss w' (ha.keep h) hd)
  have ha' := ha
  obtain ⟨a, ca, b', cb, rfl, _, _⟩ := ha
  have h0 := C3.here w (.int .i64 p) (.slice a xs.length ca) (.slice b' yss.length cb) 28
  rw [hd]
  cases d
  · clear hd ha'
    rw [if_neg (by simp), if_neg (by simp)]
    generalize xs.length = n at *
    generalize yss.length = m at *
    go_enter Try.func40, Try.ntmps40
    go_wp2_with ((go_at_call 56; (with_reducible refine (HW.out _ (by go_grown)).mono ?_); rintro e w' ⟨rfl, hb⟩; have hL := chain (B := w.heap.size) (a := w) (by go_grown) (Nat.le_refl _) hb; (first | replace h0 := keepAt3 hb h0 | replace h0 := keepAt3 hb (C3.alloc h0 _)); clear hb))
    go_ret2
    exact ⟨_, rfl, Owns.reads (base := w.heap.size) (World.ownsRow_nil _ _ _ _), hL⟩
  · have hw := (wirB_out hd).weak
    obtain ⟨z, hz⟩ : ∃ z, tabZ xs yss (fun _ => false) = z := ⟨_, rfl⟩
    have HT := Lib.hid (fun w' (h : Below w.heap.size w w') => l10Table_any _ p xs yss w' (ha'.keep h) hw hz)
    have HWO : Hid (∀ k, k < yss.length → ∀ w', Below w.heap.size w w' → Calls Try.prog 91 #[.agg #[.int .i64 p, .slice a xs.length ca, .slice b' yss.length cb], .int .i64 (k : Int)] w' fun e w'' => ∃ u, e = .returned u ∧ ReadsW w'' u p xs (yss.eraseIdx k) ∧ Below w'.heap.size w' w'') := fun k hk w' h => by
      refine (l10Without_any _ p xs yss k w' (ha'.keep h) hw hk).mono ?_
      rintro e w'' ⟨u, rfl, hf, hb⟩
      exact ⟨u, rfl, hf.reads, hb⟩
    have HTK : Hid (∀ k, k < yss.length → ∀ w' u, ReadsW w' u p xs (yss.eraseIdx k) → Calls Try.prog 81 #[u] w' fun e w'' => e = .returned (.agg #[.int .i64 (xs.length : Int), .int .i64 (tabI xs yss k)]) ∧ Below w'.heap.size w' w'') := fun k hk w' u h => l10Table_any u p xs _ w' h (hw.erase hk) (tabI_erase xs hk)
    rw [if_pos rfl, if_pos rfl]
    have HH : Hid (∀ k, ¬ tabI xs yss k = z → pickL (needB xs yss) (k + 1) = pickL (needB xs yss) k ++ [(k : Int)]) := fun k h => pick_hit (by unfold needB; rw [hz]; exact decide_eq_true h)
    have HM : Hid (∀ k, tabI xs yss k = z → pickL (needB xs yss) (k + 1) = pickL (needB xs yss) k) := fun k h => pick_miss (by unfold needB; rw [hz]; exact decide_eq_false fun hh => hh h)
    have HLEN : Hid (∀ k, k ≤ yss.length → (pickL (needB xs yss) k).length ≤ 16) := fun k hk => by have := pick_len (needB xs yss) k; have := hw.2.2.1; omega
    have HP0 : Hid (pickL (needB xs yss) 0 = []) := rfl
    have h16 : Hid (yss.length ≤ 16) := hw.2.2.1
    have HER : Hid (∀ w' u k, ReadsW w' u p xs (yss.eraseIdx k) → ∀ w'', Below w'.heap.size w' w'' → ReadsW w'' u p xs (yss.eraseIdx k)) := fun w' u k h w'' hb => h.keep hb
    clear hd ha' hw hz
    generalize tabI xs yss = f at *
    generalize pickL (needB xs yss) = PL at *
    generalize hnn' : xs.length = n at *
    clear hnn'
    generalize hmm' : yss.length = m at *
    clear hmm'
    go_enter Try.func40, Try.ntmps40
    go_wp2_with ((go_at_call 56; (with_reducible refine (HW.out _ (by go_grown)).mono ?_); rintro e w' ⟨rfl, hb⟩; have hL := chain (B := w.heap.size) (a := w) (by go_grown) (Nat.le_refl _) hb; (first | replace h0 := keepAt3 hb h0 | replace h0 := keepAt3 hb (C3.alloc h0 _)); clear hb))
    refine (HT.out _ hL).mono ?_
    rintro e w3 ⟨rfl, hb⟩
    replace hL := chain (B := w.heap.size) (a := w) hL (Nat.le_refl _) hb
    replace h0 := keepAt3 hb h0
    clear hb
    have hs3 := hL.size
    have HGW : Hid (w.heap.size < w3.heap.size) := h0.2.2
    have kt := C2.here (w3.alloc (.cells #[] 2)) (.int .i64 (n : Int)) (.int .i64 z) 44
    have ho := World.ownsRow.alloc (ownsMadeN w3 w.heap.size hs3) (.cells #[.int .i64 (n : Int), .int .i64 z] 44)
    have hLt := (hL.alloc hs3 (.cells #[] 2)).alloc (by simp; omega) (.cells #[.int .i64 (n : Int), .int .i64 z] 44)
    have h0t := (h0.alloc (.cells #[] 2)).alloc (.cells #[.int .i64 (n : Int), .int .i64 z] 44)
    have HO0 : Hid (Owns ((w3.alloc (.cells #[] 2)).alloc (.cells #[.int .i64 (n : Int), .int .i64 z] 44)) w.heap.size (.slice (some ⟨w3.heap.size, 0, none⟩) 0 0) (PL 0)) := by rw [HP0.out]; exact ho
    clear h0 hL ho
    go_wp2_with fail
    rw [World.size_alloc] at kt
    generalize hwt : ((w3.alloc (.cells #[] 2)).alloc (.cells #[.int .i64 (n : Int), .int .i64 z] 44)) = wt at *
    generalize hgt : w3.heap.size = gt at *
    clear hwt hgt
    go_loopw [5, 6] (fun u c wr => ∃ k : Nat, k ≤ m ∧ c = .int .i64 (k : Int) ∧ Below w.heap.size w wr ∧ C3 wr w.heap.size (.int .i64 p) (.slice a n ca) (.slice b' m cb) ∧ C2 wr (gt + 1) (.int .i64 (n : Int)) (.int .i64 z) ∧ Hid (u.ownBlock ≠ some (gt + 1) ∧ u.ownBlock ≠ some w.heap.size) ∧ Hid (Owns wr w.heap.size u (PL k))) (fun _ c _ => m - (intOf c).toNat)
    case atStart => exact ⟨0, Nat.zero_le _, rfl, hLt, h0t, kt, ⟨by simp [Value.ownBlock], by have := HGW.out; simp [Value.ownBlock]; omega⟩, HO0⟩
    case round =>
      clear hLt kt HO0 h0t
      obtain ⟨k, hk, rfl, hL, h0, kt, HNE, HO⟩ := hrel
      by_cases hlt : k < m
      · have hi1 : (k : Int) < (m : Int) := by omega
        have hi0' : (0 : Int) ≤ (k : Int) := by omega
        have hk63 : (k : Int) < 9223372036854775807 := by have := h16.out; omega
        have hnn : ((n : Int) == (n : Int)) = true := by simp
        have HLK := Lib.hid (HLEN.out k hk)
        have HWK := Lib.hid (HWO.out k hlt)
        have HTN := Lib.hid (HTK.out k hlt)
        by_cases hq : f k = z
        · have he : (f k == z) = true := by simp [hq]
          have HN := Lib.hid (HM.out k hq)
          clear hq
          go_wp2_with fail
          go_region_with (first | (go_at_call 91; (with_reducible refine (HWK.out _ (by first | exact hL | go_grown)).mono ?_); rintro e w5 ⟨u2, rfl, hru, hb⟩; have HRU := Lib.hid hru; have HB1 := Lib.hid (chain (B := wr.heap.size) (a := wr) (by go_grown) (Nat.le_refl _) hb); replace hL := chain (B := w.heap.size) (a := w) (by first | exact hL | go_grown) (Nat.le_refl _) hb; replace h0 := keepAt3 hb h0; replace kt := keepAt hb kt; clear hb hru) | (go_at_call 81; (with_reducible refine (HTN.out _ _ (by first | exact HRU.out | exact HRU.out.keep (by go_grown))).mono ?_); rintro e w6 ⟨rfl, hb⟩; have HO6 := Lib.hid (rowLater (rowLater HO.out HB1.out) hb); replace hL := chain (B := w.heap.size) (a := w) (by first | exact hL | go_grown) (Nat.le_refl _) hb; replace h0 := keepAt3 hb h0; replace kt := keepAt hb kt; clear hb))
          all_goals (go_step; go_step; go_simp)
          all_goals go_wp2_with fail
          all_goals exact ⟨⟨k + 1, by omega, by go_num, by first | exact hL | go_grown, h0, kt, HNE, by rw [HN.out]; exact HO6⟩, by simp [intOf]; omega⟩
        · have he : (f k == z) = false := by simp [hq]
          have HN := Lib.hid (HH.out k hq)
          clear hq
          go_wp2_with fail
          go_region_with (first | (go_at_call 91; (with_reducible refine (HWK.out _ (by first | exact hL | go_grown)).mono ?_); rintro e w5 ⟨u2, rfl, hru, hb⟩; have HRU := Lib.hid hru; have HB1 := Lib.hid (chain (B := wr.heap.size) (a := wr) (by go_grown) (Nat.le_refl _) hb); replace hL := chain (B := w.heap.size) (a := w) (by first | exact hL | go_grown) (Nat.le_refl _) hb; replace h0 := keepAt3 hb h0; replace kt := keepAt hb kt; clear hb hru) | (go_at_call 81; (with_reducible refine (HTN.out _ _ (by first | exact HRU.out | exact HRU.out.keep (by go_grown))).mono ?_); rintro e w6 ⟨rfl, hb⟩; have HO6 := Lib.hid (rowLater (rowLater HO.out HB1.out) hb); replace hL := chain (B := w.heap.size) (a := w) (by first | exact hL | go_grown) (Nat.le_refl _) hb; replace h0 := keepAt3 hb h0; replace kt := keepAt hb kt; clear hb))
          all_goals (go_step; go_step; go_simp)
          all_goals
           have hzz := hL.size
           go_wp2_with (at_builtin; refine wpList_append_own_at _ rfl _ _ 22 rfl w.heap.size 2 i0 (.int .i64 0) 1 8 Try.underlying22 hi hz0 hz1 hz2 rfl (by decide) u5 _ _ rfl (World.ownsRow.alloc HO6.out _) ⟨w6.heap.size, 0, none⟩ 1 1 [.int .i64 (k : Int)] rfl rfl (cell_one_new _ _ _) (by simp [Value.oneCell']) (by have := HLK.out; unfold maxLen; omega) (by have := HLK.out; omega) (by simp; omega) ?_; intro v' w7 hown hgrow hnil hat; have hnew : v'.ownBlock = u5.ownBlock ∨ v'.ownBlock = some (w6.heap.size + 1) := (by simpa using hat); have hkg : gt + 1 < w6.heap.size := kt.2.2.2.2; have hkw : w.heap.size < w6.heap.size := h0.2.2; have kt1 := (kt.alloc (.cells #[.int .i64 (k : Int)] 2)).grown hgrow HNE.out.1; have h01 := (h0.alloc (.cells #[.int .i64 (k : Int)] 2)).grown hgrow HNE.out.2; have HNE1 : Hid (v'.ownBlock ≠ some (gt + 1) ∧ v'.ownBlock ≠ some w.heap.size) := ⟨fun e => hnew.elim (fun e2 => HNE.out.1 (by rw [← e2]; exact e)) (fun e2 => by rw [e2] at e; simp at e; omega), fun e => hnew.elim (fun e2 => HNE.out.2 (by rw [← e2]; exact e)) (fun e2 => by rw [e2] at e; simp at e; omega)⟩; have hL1 := (hL.alloc hzz _).grown hgrow (by simp; omega) (fun q e => (World.ownsRow.lt HO6.out q e).1); have HO2 := Lib.hid (Owns.snoc hown); clear hown hgrow hnil hat hnew)
           rw [← HN.out] at HO2
           exact ⟨⟨k + 1, by omega, by go_num, hL1, h01, kt1, HNE1, HO2⟩, by simp [intOf]; omega⟩
      · have e : k = m := by omega
        rw [e] at HO
        have hge : ¬ (k : Int) < (m : Int) := by omega
        clear e
        go_wp2_with fail
        go_ret2
        exact ⟨_, rfl, HO.out.reads, hL⟩

end Go.Proofs.Ytkdidplpnhokiaa
