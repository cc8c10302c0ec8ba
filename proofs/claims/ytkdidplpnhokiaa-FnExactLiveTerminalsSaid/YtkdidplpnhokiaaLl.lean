/- LiveTerminals: the program's and the model's. -/
import Derived.Test.YtkdidplpnhokiaaLi
import Derived.Test.YtkdidplpnhokiaaSets
namespace Go.Proofs.Ytkdidplpnhokiaa
open Go.RowKit
set_option linter.unusedVariables false

/-- the live terminals, ascending -/
noncomputable def liveL (xs : List Int) (yss : List (List Int)) (pos : Int) : List Int := onesTo ((liveN (wirE xs yss (fun _ => false) pos) 0 : Nat) : Int) 62
theorem onesTo_congr {v v' : Int} {k : Nat} (h : ∀ j, j < k → (dig v.toNat j = 1 ↔ dig v'.toNat j = 1)) : onesTo v k = onesTo v' k := by
  unfold onesTo
  congr 1
  apply List.filter_congr
  intro j hj
  have := h j (List.mem_range.1 hj)
  by_cases e : dig v.toNat j = 1
  · rw [e, this.1 e]
  · have e' : ¬ dig v'.toNat j = 1 := fun x => e (this.2 x)
    rw [beq_eq_false_iff_ne.2 e, beq_eq_false_iff_ne.2 e']
/-- terminals beyond p are not led to -/
theorem live_lt {p : Int} {xs : List Int} {yss : List (List Int)} (h : WirW p xs yss) (pos : Int) {t : Nat} (hl : Live (wirE xs yss (fun _ => false) pos) 0 t) : (t : Int) < p := by
  have hp := h.p22
  refine hl (fun t => (t : Int) < p) (by show ((0 : Nat) : Int) < p; omega) ?_
  rintro a b (⟨i, hi, _, rfl, rfl⟩ | ⟨i, hi, r, hr, rfl, rfl⟩)
  · have := h.2.2.2 i hi
    unfold WOk at this
    omega
  · have h1 := pairs_bd (h.1.2 i hi) (dig_lt _ _) hr
    have h2 := term_in h.1 hi
    have h3 := termZ_bd h.1 (k := i) (by omega)
    rw [h.2.1]
    omega
/-- the live ones among the first k, as the model gathers them -/
noncomputable def liveTo (xs : List Int) (yss : List (List Int)) (pos : Int) (k : Nat) : List Int := onesTo ((liveN (wirE xs yss (fun _ => false) pos) 0 : Nat) : Int) k
theorem liveTo_end {p : Int} {xs : List Int} {yss : List (List Int)} (h : WirW p xs yss) (pos : Int) {T : Nat} (hT : p = (T : Int)) : liveTo xs yss pos T = liveL xs yss pos := by
  have hp := h.p22
  unfold liveTo liveL
  have hz : ((liveN (wirE xs yss (fun _ => false) pos) 0 : Nat) : Int) / 2 ^ T = 0 := by
    rw [div_nat (by omega), Int.toNat_natCast, Nat.div_eq_of_lt]
    · rfl
    · refine Nat.lt_of_not_le fun hge => ?_
      have hlt := liveN_lt (wirE xs yss (fun _ => false) pos) 0
      obtain ⟨i, hi, hb⟩ := Nat.exists_ge_and_testBit_of_ge_two_pow hge
      have hi22 : i < 22 := by
        refine Nat.lt_of_not_le fun h22 => ?_
        have := Nat.testBit_lt_two_pow (Nat.lt_of_lt_of_le hlt (Nat.pow_le_pow_right (n := 2) (by decide) h22))
        rw [this] at hb; cases hb
      have hd : dig (liveN (wirE xs yss (fun _ => false) pos) 0) i = 1 := by rw [dig_testBit, hb]; rfl
      have := live_lt h pos ((liveN_dig _ _ hi22).1 hd)
      omega
  exact onesTo_rest (by omega) (by omega) hz
theorem liveTo_hit {xs : List Int} {yss : List (List Int)} {pos : Int} {k : Nat} (hk : k < 22) (h : bP (Live (wirE xs yss (fun _ => false) pos) 0 k) = true) : liveTo xs yss pos (k + 1) = liveTo xs yss pos k ++ [(k : Int)] :=
  onesTo_hit _ _ (by rw [Int.toNat_natCast]; exact (liveN_dig _ _ hk).2 (bP_iff.1 h))
theorem liveTo_miss {xs : List Int} {yss : List (List Int)} {pos : Int} {k : Nat} (hk : k < 22) (h : bP (Live (wirE xs yss (fun _ => false) pos) 0 k) = false) : liveTo xs yss pos (k + 1) = liveTo xs yss pos k :=
  onesTo_miss _ _ (by rw [Int.toNat_natCast]; exact fun e => bP_out h ((liveN_dig _ _ hk).1 e))

theorem ownsMadeL (w : World) (B : Nat) (hB : B ≤ w.heap.size) : Owns (w.alloc (.cells #[] 2)) B (.slice (some ⟨w.heap.size, 0, none⟩) 0 0) [] :=
  World.ownsRow_made (base := B) (e := 2) (size := 1) w #[] 0 hB (by simp) rfl
noncomputable def resLiveTerminals_0 (p : Int) (xs : List Int) (yss : List (List Int)) (x : Int) : List Int := if posC p xs yss x = 0 then liveL xs yss x else []
def resLiveTerminals_1 (p : Int) (xs : List Int) (yss : List (List Int)) (x : Int) : Int := posC p xs yss x
theorem lenLiveTerminals_0 (p : Int) (xs : List Int) (yss : List (List Int)) (x : Int) : (resLiveTerminals_0 p xs yss x).length ≤ 100000 := by
  unfold resLiveTerminals_0
  split
  · have := onesTo_len ((liveN (wirE xs yss (fun _ => false) x) 0 : Nat) : Int) 62
    unfold liveL; omega
  · simp

set_option maxRecDepth 100000 in
set_option maxHeartbeats 1000000 in
theorem iLiveTerminals_any (v : Value) (p : Int) (xs : List Int) (yss : List (List Int)) (x : Int) (w : World) (ha : ReadsW w v p xs yss) :
    Calls Try.prog 27 #[v, .int .i64 x] w fun e w' => ∃ u, e = .returned (.tuple #[u, .int .i64 (resLiveTerminals_1 p xs yss x)]) ∧ In w' w.heap.size w'.heap.size u (resLiveTerminals_0 p xs yss x) ∧ Below w.heap.size w w' := by
  unfold resLiveTerminals_0 resLiveTerminals_1
  obtain ⟨c, hc⟩ : ∃ c, posC p xs yss x = c := ⟨_, rfl⟩
  have HP := Lib.hid (fun w' (h : Below w.heap.size w w') => positionsError_any v p xs yss x w' (ha.keep h) hc)
  have ha' := ha
  obtain ⟨a, ca, b', cb, rfl, _, _⟩ := ha
  have h0 := C3.here w (.int .i64 p) (.slice a xs.length ca) (.slice b' yss.length cb) 28
  rw [hc]
  by_cases h : c = 0
  · subst h
    obtain ⟨hw, x0, x1, x32⟩ := posC_zero hc
    rw [if_pos rfl]
    obtain ⟨z, hz⟩ : ∃ z, liveN (wirE xs yss (fun _ => false) x) 0 = z := ⟨_, rfl⟩
    have hzb := liveN_lt (wirE xs yss (fun _ => false) x) 0
    rw [hz] at hzb
    have HLE := Lib.hid (fun w' (h : Below w.heap.size w w') => leadsOf_any _ p xs yss w' (ha'.keep h) hw.1 hw.weak.two hw.2.2.1)
    have HLT := Lib.hid (fun w' u (h : ReadsC w' u (leadsL xs yss)) => liveTerminals_zero u xs yss x w' h hw.1 hw.weak.w22 hw.2.2.1 x0 x32 hz)
    have HM := Lib.hid (fun w' => membersOf_any (z : Int) w' (by omega) (by omega))
    have HE : Hid (onesTo (z : Int) 62 = liveL xs yss x) := by unfold Hid liveL; rw [hz]
    clear hc ha' hw x0 x1 x32 hz hzb
    rw [HE.out] at HM
    generalize (z : Int) = zz at *
    generalize liveL xs yss x = LL at *
    generalize xs.length = n at *
    generalize yss.length = m at *
    go_enter Try.func27, Try.ntmps27
    go_wp2_with ((go_at_call 74; (with_reducible refine (HP.out _ (by go_grown)).mono ?_); rintro e w' ⟨rfl, hb⟩; have hL := chain (B := w.heap.size) (a := w) (by go_grown) (Nat.le_refl _) hb; (first | replace h0 := keepAt3 hb h0 | replace h0 := keepAt3 hb (C3.alloc h0 _)); clear hb))
    refine (HLE.out _ hL).mono ?_
    rintro e w2 ⟨u, rfl, hu, hb⟩
    have hL2 := chain (B := w.heap.size) (a := w) hL (Nat.le_refl _) hb
    have HU := Lib.hid hu.reads
    clear hu hb hL
    go_wp2_with fail
    refine (HLT.out _ _ HU.out).mono ?_
    rintro e w3 ⟨rfl, hb⟩
    have hL3 := chain (B := w.heap.size) (a := w) hL2 (Nat.le_refl _) hb
    clear hb
    go_wp2_with fail
    refine (HM.out _).mono ?_
    rintro e w4 ⟨u, rfl, hu, hb⟩
    have hL4 := chain (B := w.heap.size) (a := w) hL3 (Nat.le_refl _) hb
    have hz3 := hL3.size
    clear hb
    go_wp2_with fail
    go_ret2
    exact ⟨_, rfl, In.of hu hz3 (Nat.le_refl _), hL4⟩
  · rw [if_neg h]
    have hne : (c != 0) = true := by simpa using h
    clear hc ha' h
    generalize xs.length = n at *
    generalize yss.length = m at *
    go_enter Try.func27, Try.ntmps27
    go_wp2_with ((go_at_call 74; (with_reducible refine (HP.out _ (by go_grown)).mono ?_); rintro e w' ⟨rfl, hb⟩; have hL := chain (B := w.heap.size) (a := w) (by go_grown) (Nat.le_refl _) hb; (first | replace h0 := keepAt3 hb h0 | replace h0 := keepAt3 hb (C3.alloc h0 _)); clear hb))
    go_ret2
    exact ⟨_, rfl, In.of (World.ownsRow_nil _ _ _ _ : Owns _ w.heap.size _ []) (Nat.le_refl _) (Nat.le_refl _), hL⟩

set_option maxRecDepth 100000 in
set_option maxHeartbeats 2000000 in
theorem sLiveTerminals_any (v : Value) (p : Int) (xs : List Int) (yss : List (List Int)) (x : Int) (w : World) (ha : ReadsW w v p xs yss) :
    Calls Try.prog 26 #[v, .int .i64 x] w fun e w' => ∃ u, e = .returned (.tuple #[u, .int .i64 (resLiveTerminals_1 p xs yss x)]) ∧ Reads w' u (resLiveTerminals_0 p xs yss x) ∧ Below w.heap.size w w' := by
  unfold resLiveTerminals_0 resLiveTerminals_1
  obtain ⟨i0, hi, hz0, hz1, hz2⟩ := info_parts info64
  obtain ⟨c, hc⟩ : ∃ c, posC p xs yss x = c := ⟨_, rfl⟩
  have HP := Lib.hid (fun w' (h : Below w.heap.size w w') => l10Code_any v p xs yss x w' (ha.keep h) hc)
  have ha' := ha
  obtain ⟨a, ca, b', cb, rfl, _, _⟩ := ha
  have h0 := C3.here w (.int .i64 p) (.slice a xs.length ca) (.slice b' yss.length cb) 28
  rw [hc]
  by_cases h : c = 0
  · subst h
    obtain ⟨hw, x0, x1, x32⟩ := posC_zero hc
    rw [if_pos rfl]
    have HLN := Lib.hid (fun w' (h : Below w.heap.size w w') => l10Links_any _ p xs yss x w' (ha'.keep h) hw.1 hw.weak.two hw.2.2.1 x0 x32)
    obtain ⟨hp5, hp22⟩ := hw.weak.p22
    obtain ⟨T, hT⟩ := Int.eq_ofNat_of_zero_le (show 0 ≤ p by omega)
    have HLV : Hid (∀ (w' : World) (u : Value), Reads2 w' u (linksL xs yss x) → Calls Try.prog 78 #[.int .i64 p, u, .int .i64 0] w' fun e w'' => ∃ g, e = .returned (.slice (some ⟨g, 0, none⟩) T T) ∧ (w'.heap.size ≤ g ∧ ∀ t, t < T → w''.cell? ⟨g, t, none⟩ = some (.bool (bP (Live (wirE xs yss (fun _ => false) x) 0 t)))) ∧ Below w'.heap.size w' w'') := fun w' u h => by
      have := l10Live_any T 0 u (linksL xs yss x) w' h (by rw [← hT]; exact links_bd hw.weak x) (by omega) (by omega)
      rw [hT]
      refine this.mono ?_
      rintro e w'' ⟨g, he, hf, hbl⟩
      refine ⟨g, he, ⟨(World.ownsRow.lt hf g rfl).1, fun t ht => ?_⟩, hbl⟩
      rw [(hf.cell ht).1, links_lit]
    have HEND : Hid (liveTo xs yss x T = liveL xs yss x) := liveTo_end hw.weak x hT
    have HH : Hid (∀ k, k < T → bP (Live (wirE xs yss (fun _ => false) x) 0 k) = true → liveTo xs yss x (k + 1) = liveTo xs yss x k ++ [(k : Int)]) := fun k hk h => liveTo_hit (by omega) h
    have HMI : Hid (∀ k, k < T → bP (Live (wirE xs yss (fun _ => false) x) 0 k) = false → liveTo xs yss x (k + 1) = liveTo xs yss x k) := fun k hk h => liveTo_miss (by omega) h
    have HLEN : Hid (∀ k, k ≤ T → (liveTo xs yss x k).length ≤ 22) := fun k hk => by have := onesTo_len ((liveN (wirE xs yss (fun _ => false) x) 0 : Nat) : Int) k; unfold liveTo; omega
    have HT22 : T ≤ 22 := by omega
    have HT5 : 5 ≤ T := by omega
    clear hc ha' hw x0 x1 x32 hT hp5 hp22
    generalize liveL xs yss x = LL at *
    generalize xs.length = n at *
    generalize yss.length = m at *
    go_enter Try.func26, Try.ntmps26
    go_wp2_with ((go_at_call 72; (with_reducible refine (HP.out _ (by go_grown)).mono ?_); rintro e w' ⟨rfl, hb⟩; have hL := chain (B := w.heap.size) (a := w) (by go_grown) (Nat.le_refl _) hb; (first | replace h0 := keepAt3 hb h0 | replace h0 := keepAt3 hb (C3.alloc h0 _)); clear hb))
    have hz0' := hL.size
    go_cut [7, 8] (fun fl ol wx => ∃ g ov, fl = .slice (some ⟨g, 0, none⟩) T T ∧ ov = ol ∧ (∀ t, t < T → wx.cell? ⟨g, t, none⟩ = some (.bool (bP (Live (wirE xs yss (fun _ => false) x) 0 t)))) ∧ Owns wx w.heap.size ov [] ∧ ov.ownBlock ≠ some g ∧ g < wx.heap.size ∧ Below w.heap.size w wx)
    case first =>
      go_region_held3 (fun w' => C3 w' w.heap.size (.int .i64 p) (.slice a n ca) (.slice b' m cb))
        ((repeat' (first | (with_reducible assumption) | (with_reducible refine C3.drewU ?_) | (with_reducible refine C3.alloc ?_ _))))
        (first | (go_at_call 79; (with_reducible refine (HLN.out _ (by first | exact hL | go_grown)).mono ?_); rintro e wa ⟨u, rfl, hu, hb⟩; have hL2 := chain (B := w.heap.size) (a := w) (by go_grown) (Nat.le_refl _) hb; replace h0 := keepAt3 hb (show C3 _ w.heap.size (.int .i64 p) (.slice a n ca) (.slice b' m cb) from by (repeat' (first | (with_reducible assumption) | (with_reducible refine C3.drewU ?_) | (with_reducible refine C3.alloc ?_ _)))); have HU := Lib.hid hu; have hB2 := hb; clear hb hu) | (go_at_call 78; (with_reducible refine (HLV.out _ _ (HU.out.keep (by go_grown))).mono ?_); rintro e wb ⟨g, rfl, ⟨hg0, hc⟩, hb⟩; have hL3 := chain (B := w.heap.size) (a := w) (by go_grown) (Nat.le_refl _) hb; replace h0 := keepAt3 hb (show C3 _ w.heap.size (.int .i64 p) (.slice a n ca) (.slice b' m cb) from by (repeat' (first | (with_reducible assumption) | (with_reducible refine C3.drewU ?_) | (with_reducible refine C3.alloc ?_ _)))); have hB3 := hb; clear hb))
      all_goals go_wp2_with fail
      all_goals go_meet
      · have hz := hL3.size
        have ho := ownsMadeL wb w.heap.size hz
        exact ⟨g, _, rfl, rfl, fun t ht => cell_later ((Below.refl _ _).alloc (Nat.le_refl _) _) (hc t ht), ho, fun e => by have e2 := World.block_lt_of_cell? _ _ (hc 0 (by omega)); simp [Value.ownBlock] at e; simp only at e2; omega, by have e2 := World.block_lt_of_cell? _ _ (hc 0 (by omega)); simp only at e2; simp; omega, by go_grown⟩
      · have hz := hL2.size
        have ho := (ownsMadeL wa w.heap.size hz).keep hB3
        exact ⟨g, _, rfl, rfl, hc, ho, fun e => by simp [Value.ownBlock] at e; simp at hg0; omega, by have e2 := World.block_lt_of_cell? _ _ (hc 0 (by omega)); simpa using e2, hL3⟩
      · have hz := hL.size
        have h1 : Owns (w'.alloc (.cells #[] 2)).drew w.heap.size (.slice (some ⟨w'.heap.size, 0, none⟩) 0 0) [] := ownsMadeL w' w.heap.size hz
        have ho := (h1.keep hB2).keep hB3
        have hzz := hB2.size
        exact ⟨g, _, rfl, rfl, hc, ho, fun e => by simp [Value.ownBlock] at e; simp at hzz; omega, by have e2 := World.block_lt_of_cell? _ _ (hc 0 (by omega)); simpa using e2, hL3⟩
    case rest =>
      obtain ⟨g, ov, rfl, rfl, hc, ho, hne, hgz, hL⟩ := hcut
      have HC := Lib.hid hc
      have HO : Hid (Owns wc w.heap.size ov (liveTo xs yss x 0)) := ho
      have HNE : Hid (ov.ownBlock ≠ some g) := hne
      clear hc ho hne
      go_wp2_with fail
      go_loopw [8, 9] (fun u c wr => ∃ k : Nat, k ≤ T ∧ c = .int .i64 (k : Int) ∧ Below w.heap.size w wr ∧ g < wr.heap.size ∧ Hid (∀ t, t < T → wr.cell? ⟨g, t, none⟩ = some (.bool (bP (Live (wirE xs yss (fun _ => false) x) 0 t)))) ∧ Hid (u.ownBlock ≠ some g) ∧ Hid (Owns wr w.heap.size u (liveTo xs yss x k))) (fun _ c _ => T - (intOf c).toNat)
      case atStart => exact ⟨0, Nat.zero_le _, rfl, hL, hgz, HC, HNE, HO⟩
      case round =>
        clear hL hgz HC HNE HO
        obtain ⟨k, hk, rfl, hL, hgz, HC, HNE, HO⟩ := hrel
        by_cases hlt : k < T
        · have hca := HC.out k hlt
          have hi1 : (k : Int) < (T : Int) := by omega
          have hi0' : (0 : Int) ≤ (k : Int) := by omega
          have HLK := Lib.hid (HLEN.out k hk)
          cases hb : bP (Live (wirE xs yss (fun _ => false) x) 0 k)
          · have HN := Lib.hid (HMI.out k hlt hb)
            rw [hb] at hca
            clear hb
            go_wp2_with fail
            exact ⟨⟨k + 1, by omega, by go_num, hL, hgz, HC, HNE, by rw [HN.out]; exact HO⟩, by simp [intOf]; omega⟩
          · have HN := Lib.hid (HH.out k hlt hb)
            rw [hb] at hca
            clear hb
            have hzz := hL.size
            go_wp2_with (at_builtin; refine wpList_append_own_at _ rfl _ _ 22 rfl w.heap.size 2 i0 (.int .i64 0) 1 8 Try.underlying22 hi hz0 hz1 hz2 rfl (by decide) u8 _ _ rfl (World.ownsRow.alloc HO.out _) ⟨wr.heap.size, 0, none⟩ 1 1 [.int .i64 (k : Int)] rfl rfl (cell_one_new _ _ _) (by simp [Value.oneCell']) (by have := HLK.out; unfold maxLen; omega) (by have := HLK.out; omega) (by simp; omega) ?_; intro v' w1 hown hgrow hnil hat; have hG1 := (Below.refl wr.heap.size wr).alloc (Nat.le_refl _) (.cells #[.int .i64 (k : Int)] 2); have HC1 : Hid (∀ t, t < T → w1.cell? ⟨g, t, none⟩ = some (.bool (bP (Live (wirE xs yss (fun _ => false) x) 0 t)))) := (fun t ht => by rw [← cell_later hG1 (HC.out t ht)]; exact World.cell?_of_block (hgrow.block g (by simp; omega) (Ne.symm HNE.out))); have HNE1 : Hid (v'.ownBlock ≠ some g) := (fun e => hat.elim (fun e2 => HNE.out (by rw [← e2]; exact e)) (fun e2 => by rw [e2] at e; simp at e; omega)); have hL1 := (hL.alloc hzz _).grown hgrow (by simp; omega) (fun q e => (World.ownsRow.lt HO.out q e).1); have HO1 := Lib.hid (Owns.snoc hown); have hg1 : g < w1.heap.size := (by have := hgrow.size; simp at this; omega); clear hown hgrow hnil hat hG1)
            rw [← HN.out] at HO1
            exact ⟨⟨k + 1, by omega, by go_num, hL1, hg1, HC1, HNE1, HO1⟩, by simp [intOf]; omega⟩
        · have e : k = T := by omega
          rw [e, HEND.out] at HO
          have hge : ¬ (k : Int) < (T : Int) := by omega
          clear e
          go_wp2_with fail
          go_ret2
          exact ⟨_, rfl, HO.out.reads, hL⟩
  · rw [if_neg h]
    have hne : (c != 0) = true := by simpa using h
    clear hc ha' h
    generalize xs.length = n at *
    generalize yss.length = m at *
    go_enter Try.func26, Try.ntmps26
    go_wp2_with ((go_at_call 72; (with_reducible refine (HP.out _ (by go_grown)).mono ?_); rintro e w' ⟨rfl, hb⟩; have hL := chain (B := w.heap.size) (a := w) (by go_grown) (Nat.le_refl _) hb; (first | replace h0 := keepAt3 hb h0 | replace h0 := keepAt3 hb (C3.alloc h0 _)); clear hb))
    go_ret2
    exact ⟨_, rfl, Owns.reads (base := w.heap.size) (World.ownsRow_nil _ _ _ _), hL⟩

end Go.Proofs.Ytkdidplpnhokiaa
