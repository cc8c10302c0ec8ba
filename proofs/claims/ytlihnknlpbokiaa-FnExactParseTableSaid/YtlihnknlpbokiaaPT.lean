/- ParseTable: what both give; the model's. -/
import Derived.Test.YtlihnknlpbokiaaSplit
import Derived.Test.YtlihnknlpbokiaaTBM
namespace Go.Proofs.Ytlihnknlpbokiaa
open Go.RowKit
set_option linter.unusedVariables false

/-- the inputs that a text tells of -/
def ptN (s : ByteArray) : Int := byteAt s 0 - 48
/-- the text of a table -/
def PT (s : ByteArray) : Prop := (1 ≤ ptN s ∧ ptN s ≤ 5) ∧ byteAt s 1 = 58 ∧ s.size = 2 + 2 ^ (ptN s).toNat ∧ ∀ i, i < s.size - 2 → byteAt s (2 + i) = 48 ∨ byteAt s (2 + i) = 49
instance (s : ByteArray) : Decidable (PT s) := by unfold PT; infer_instance
/-- the value in a row that a text tells -/
def ptF (s : ByteArray) (i : Nat) : Nat := (byteAt s (2 + i) - 48).toNat
def ptRes (s : ByteArray) : Value := if PT s then .tuple #[.agg #[.int .i64 (ptN s), .int .i64 (buildZ (ptF s) (2 ^ (ptN s).toNat))], .int .i64 0] else .tuple #[.agg #[.int .i64 0, .int .i64 0], .int .i64 6]
def ptRead (s : ByteArray) : Value := if PT s then .tuple #[.agg #[.int .i64 (ptN s), .int .i64 (buildZ (ptF s) (2 ^ (ptN s).toNat))], .bool true] else .tuple #[.agg #[.int .i64 0, .int .i64 0], .bool false]
theorem ptRes_cases (s : ByteArray) : ∃ a b c : Int, ptRes s = .tuple #[.agg #[.int .i64 a, .int .i64 b], .int .i64 c] := by
  unfold ptRes; split <;> exact ⟨_, _, _, rfl⟩
theorem PT.one {s : ByteArray} (h : PT s) : ∀ i, i < s.size → i ≠ 1 → byteAt s i ≠ 58 := by
  obtain ⟨⟨h1, h5⟩, hc, hs, hd⟩ := h
  intro i hi hne
  unfold ptN at h1 h5
  rcases Nat.lt_or_ge i 2 with h | h
  · have : i = 0 := by omega
    subst this; omega
  · have := hd (i - 2) (by omega)
    rw [show 2 + (i - 2) = i by omega] at this
    omega
theorem PT.size {s : ByteArray} (h : PT s) : 2 < s.size := by
  have := h.2.2.1
  have h2 := Nat.pow_pos (n := (ptN s).toNat) (show 0 < 2 by decide)
  omega
theorem PT.parts {s : ByteArray} (h : PT s) : parts s 58 = [s.extract 0 1, s.extract 2 s.size] := by
  have hz := h.size
  unfold Go.Proofs.Ytlihnknlpbokiaa.parts
  rw [cutTo_one (j := 1) (by omega) h.2.1 h.one]
  rfl
/-- what is known of two parts whose first is a number of 1 to 5 -/
theorem pt_two {s : ByteArray} (h : (parts s 58).length = 2) : ∃ t0 t1, parts s 58 = [t0, t1] ∧ t0.size ≤ s.size ∧ t1.size ≤ s.size ∧ (∀ n, 1 ≤ n → n ≤ 5 → decN t0 = n → ptN s = n ∧ byteAt s 1 = 58 ∧ s.size = t1.size + 2 ∧ ∀ i, i < t1.size → byteAt t1 i = byteAt s (2 + i)) ∧ (¬ (1 ≤ decN t0 ∧ decN t0 ≤ 5) → ¬ PT s) := by
  obtain ⟨j, hj, hc, hn, he⟩ := parts_two h
  refine ⟨_, _, he, by rw [extract_size _ _ _ (by omega)]; omega, by rw [extract_size _ _ _ (by omega)]; omega, ?_, ?_⟩
  · intro n h1 h5 hdec
    obtain ⟨a, b⟩ := decN_small (s := s.extract 0 j) (by omega) (by omega)
    rw [extract_size _ _ _ (by omega)] at a
    have e : j = 1 := by omega
    subst e
    rw [byteAt_extract _ _ _ _ (by omega) (by omega), hdec] at b
    simp only [Nat.add_zero] at b
    refine ⟨by unfold ptN; omega, hc, ?_, fun i hi => ?_⟩
    · rw [extract_size _ _ _ (by omega)]; omega
    · rw [extract_size _ _ _ (by omega)] at hi
      rw [byteAt_extract _ _ _ _ (by omega) (by omega)]
  · intro hno hp
    apply hno
    have e : j = 1 := by
      rcases Nat.lt_or_ge j 1 with h1 | h1
      · exact absurd hc (hp.one j hj (by omega))
      · rcases Nat.lt_or_ge 1 j with h2 | h2
        · exact absurd hc (hp.one j hj (by omega))
        · omega
    subst e
    have hpn := hp.1
    unfold ptN at hpn
    have hb : byteAt (s.extract 0 1) 0 = byteAt s 0 := by rw [byteAt_extract _ _ _ _ (by omega) (by omega)]
    have hs : (s.extract 0 1).size = 1 := by rw [extract_size _ _ _ (by omega)]
    rw [decN_one hs (by omega), hb]
    exact hpn

theorem OwnsS.cellAt {w : World} {base : Nat} {v : Value} {t0 t1 : ByteArray} (h : OwnsS w base v [t0, t1]) : ∃ g cap, v = .slice (some ⟨g, 0, none⟩) 2 cap ∧ w.cell? ⟨g, 0, none⟩ = some (.string t0) ∧ w.cell? ⟨g, 1, none⟩ = some (.string t1) ∧ base ≤ g ∧ g < w.heap.size := by
  have h' := h
  rcases h.2 with ⟨_, hn⟩ | ⟨g, cap, cur, rfl, hb, hg, _⟩
  · simp at hn
  · unfold OwnsS at h'
    refine ⟨g, cap, rfl, ?_, ?_, hb, ?_⟩
    · rw [h'.cellAt 0 (by simp)]; rfl
    · rw [h'.cellAt 1 (by simp)]; rfl
    · exact (World.ownsRow.lt h' g rfl).2

theorem cellSet {w : World} {g i b j : Nat} {v x : Value} (h : w.cell? ⟨g, i, none⟩ = some x) (hg : g ≠ b) : (w.setCell ⟨b, j, none⟩ v).cell? ⟨g, i, none⟩ = some x :=
  (World.cell?_of_block (w := w) (Below.heap_setCell w ⟨b, j, none⟩ v g hg)).trans h

set_option maxRecDepth 100000 in
set_option maxHeartbeats 4000000 in
theorem l01Read_any (s : ByteArray) (w : World) (hs : s.size ≤ 1048576) :
    Calls Try.prog 98 #[.string s] w fun e w' => e = .returned (ptRead s) ∧ Below w.heap.size w w' := by
  have HSZ := Lib.hid hs
  have H58 : Hid ((0 : Int) ≤ 58 ∧ (58 : Int) < 256) := by unfold Hid; omega
  have k0 := C2.here w (.int .i64 0) (.int .i64 0) 41
  by_cases h2 : (parts s 58).length = 2
  · obtain ⟨t0, t1, hpt, z0, z1, hgood, hno⟩ := pt_two h2
    have HPT := Lib.hid hpt
    have HZ0 : Hid (t0.size ≤ 1048576) := by unfold Hid; omega
    have hz1 : t1.size ≤ 9223372036854775807 := by omega
    by_cases hin : 1 ≤ decN t0 ∧ decN t0 ≤ 5
    · obtain ⟨d, hd⟩ : ∃ d, decN t0 = d := ⟨_, rfl⟩
      rw [hd] at hin
      obtain ⟨d1, d5⟩ := hin
      have HD := Lib.hid hd
      have HIN : Hid (1 ≤ d ∧ d ≤ 5) := ⟨d1, d5⟩
      obtain ⟨g1, g2, g3, g4⟩ := hgood d d1 d5 hd
      have hrc := rcZ_bd d1 d5
      have HRC : Hid (rcZ d = ((2 ^ d.toNat : Nat) : Int)) := rfl
      by_cases hlen : (t1.size : Int) = rcZ d
      · have hlen' : t1.size = 2 ^ d.toNat := by have := HRC.out; omega
        obtain ⟨j, hj, hok, hbad⟩ := firstBad (fun i => byteAt t1 i = 48 ∨ byteAt t1 i = 49) t1.size
        have HB : Hid (j < t1.size → ptRead s = .tuple #[.agg #[.int .i64 0, .int .i64 0], .bool false]) := fun h => by
          unfold ptRead; rw [if_neg (fun hp => hbad h (by have := hp.2.2.2 j (by omega); rw [g4 j h]; exact this))]
        have HG : Hid (j = t1.size → ptRead s = .tuple #[.agg #[.int .i64 d, .int .i64 (buildZ (ptF s) t1.size)], .bool true]) := fun h => by
          unfold ptRead; rw [if_pos ⟨by rw [g1]; exact ⟨d1, d5⟩, g2, by rw [g1]; omega, fun i hi => by have := hok i (by omega); rw [g4 i (by omega)] at this; exact this⟩, g1, hlen']
        have Hok := Lib.hid hok
        have Hbad := Lib.hid hbad
        have HF : Hid (∀ i, i < t1.size → ptF s i = (byteAt t1 i - 48).toNat) := fun i hi => by unfold ptF; rw [g4 i hi]
        have hne : ((t1.size : Int) != rcZ d) = false := by simp [hlen]
        have hne2 : ((t1.size : Int) == rcZ d) = true := by simp [hlen]
        have ht32 : t1.size ≤ 32 := by omega
        clear hd hgood hno hok hbad hpt g1 g2 g3 g4 hlen' z0 z1 h2
        go_enter Try.func98, Try.ntmps98
        go_wp2_with fail
        refine (l01Split_any s 58 _ HSZ.out H58.out.1 H58.out.2).mono ?_
        rintro e w1 ⟨u, rfl, ou, hb⟩
        rw [HPT.out] at ou
        have hL := chain (B := w.heap.size) (a := w) (by go_grown) (Nat.le_refl _) hb
        replace k0 := keepAt hb k0
        have hz := hb.size
        rw [World.size_alloc] at hz
        obtain ⟨g, cap, rfl, ce0, ce1, hg0, hg1⟩ := ou.cellAt
        rw [World.size_alloc] at hg0
        clear hb ou
        go_wp2_with fail
        refine (l01Number_any t0 _ HZ0.out).mono ?_
        rintro e w2 ⟨rfl, rfl⟩
        rw [HD.out]
        have kt := C2.here w1 (.int .i64 d) (.int .i64 (buildZ (ptF s) 0)) 41
        replace k0 := k0.alloc (.cells #[.int .i64 d, .int .i64 (buildZ (ptF s) 0)] 41)
        have HLA : Hid (Below w.heap.size w (w1.alloc (.cells #[.int .i64 d, .int .i64 (buildZ (ptF s) 0)] 41))) := hL.alloc (by omega) _
        have e0 : w1.alloc (.cells #[.int .i64 d, .int .i64 (buildZ (ptF s) 0)] 41) = w1.alloc (.cells #[.int .i64 d, .int .i64 0] 41) := rfl
        have hce0 := cell_later ((Below.refl w1.heap.size w1).alloc (Nat.le_refl _) (.cells #[.int .i64 d, .int .i64 0] 41)) ce0
        have hce1 := cell_later ((Below.refl w1.heap.size w1).alloc (Nat.le_refl _) (.cells #[.int .i64 d, .int .i64 0] 41)) ce1
        rw [e0] at kt k0 HLA
        have HGB : Hid (w.heap.size ≠ w1.heap.size ∧ w.heap.size ≤ w1.heap.size ∧ g ≠ w1.heap.size) := ⟨by omega, by omega, by omega⟩
        clear e0 hL ce0 ce1 hg0 hg1 hz
        go_wp2_with fail
        go_quiet ((first | (go_at_call 117; exact quiet1 (l01Rows_any _ _ d1 d5)) | (go_at_call 87; exact quiet1 (l01In_yes _ _ _ _ HIN.out))))
        go_wp2_with fail
        go_loopw [6] (fun c wr => ∃ k : Nat, k ≤ j ∧ c = .int .i64 (k : Int) ∧ Below w.heap.size w wr ∧ wr.cell? ⟨g, 0, none⟩ = some (.string t0) ∧ wr.cell? ⟨g, 1, none⟩ = some (.string t1) ∧ C2 wr w.heap.size (.int .i64 0) (.int .i64 0) ∧ C2 wr w1.heap.size (.int .i64 d) (.int .i64 (buildZ (ptF s) k))) (fun c _ => t1.size - (intOf c).toNat)
        case atStart => exact ⟨0, Nat.zero_le _, rfl, Bdrew HLA.out _, hce0, hce1, k0, kt⟩
        case round =>
          clear k0 kt hce0 hce1
          obtain ⟨k, hk, rfl, hL, ce0, ce1, k0, kt⟩ := hrel
          by_cases hlt : k < t1.size
          · have hby := byteAt_eq t1 k hlt
            have hi1 : (k : Int) < (t1.size : Int) := by omega
            have hi0 : (0 : Int) ≤ (k : Int) := by omega
            by_cases hbit : byteAt t1 k = 48 ∨ byteAt t1 k = 49
            · have hkj : k < j := by
                rcases Nat.lt_or_ge k j with h1 | h1
                · exact h1
                · have e : k = j := by omega
                  subst e
                  exact absurd hbit (Hbad.out hlt)
              have hFk : ptF s k = (byteAt t1 k - 48).toNat := HF.out k hlt
              have Hs := Lib.hid (build_stepG (ptF s) k (by omega) (by omega))
              have Hv : Hid ((ptF s k : Int) = byteAt t1 k - 48) := by unfold Hid; omega
              rw [Hv.out] at Hs
              rw [hby] at hbit Hs
              have hsplit : ((t1[k].toNat : Int) != 48) = false ∨ (((t1[k].toNat : Int) != 48) = true ∧ ((t1[k].toNat : Int) != 49) = false) := by
                rcases hbit with h | h
                · left; simp [h]
                · right; simp [h]
              have hk64 := IntWalk.u64_in (k : Int) (by omega)
              have hkm : min k 64 = k := by omega
              have hbd : 48 ≤ (t1[k].toNat : Int) ∧ (t1[k].toNat : Int) ≤ 49 := by omega
              obtain ⟨b0, b1⟩ := hbd
              have hu8 : IntKind.u8.wrap ((t1[k].toNat : Int) - 48) = (t1[k].toNat : Int) - 48 := IntWalk.u8_in _ (by omega)
              have hi64 : IntKind.i64.wrap ((t1[k].toNat : Int) - 48) = (t1[k].toNat : Int) - 48 := IntWalk.i64_in _ (by omega)
              have hwr := wrapI' (((t1[k].toNat : Int) - 48) * 2 ^ k)
              clear hbit hby Hv hFk
              rcases hsplit with hs1 | ⟨hs1, hs2⟩
              all_goals
                go_wp2_with fail
                go_region
                all_goals (go_wp2_with fail)
                all_goals (have hwz := HGB.out.2.1; exact ⟨⟨k + 1, by omega, by go_num, by go_grown, cellSet ce0 HGB.out.2.2, cellSet ce1 HGB.out.2.2, k0.set _ _ _ HGB.out.1, by rw [← Hs.out]; exact kt.put1 _⟩, by simp [intOf]; omega⟩)
            · have hr : Hid (ptRead s = .tuple #[.agg #[.int .i64 0, .int .i64 0], .bool false]) := HB.out (by
                rcases Nat.lt_or_ge k j with h1 | h1
                · exact absurd (Hok.out k h1) hbit
                · omega)
              rw [hby] at hbit
              have hs1 : ((t1[k].toNat : Int) != 48) = true := by rw [bne_iff_ne]; exact fun h => hbit (.inl h)
              have hs2 : ((t1[k].toNat : Int) != 49) = true := by rw [bne_iff_ne]; exact fun h => hbit (.inr h)
              clear hbit hby
              go_wp2_with fail
              refine bodyPost_ret (v := .tuple #[.agg #[.int .i64 0, .int .i64 0], .bool false]) (by simp [results, Try.results98, go_sem, *]) rfl ?_
              exact ⟨by rw [hr.out], by go_grown⟩
          · have hr : Hid (ptRead s = .tuple #[.agg #[.int .i64 d, .int .i64 (buildZ (ptF s) t1.size)], .bool true]) := HG.out (by omega)
            have hke : k = t1.size := by omega
            rw [hke] at kt
            have hge : ¬ (k : Int) < (t1.size : Int) := by omega
            clear hj hk hlt hke
            go_wp2_with fail
            refine bodyPost_ret (v := .tuple #[.agg #[.int .i64 d, .int .i64 (buildZ (ptF s) t1.size)], .bool true]) (by simp [results, Try.results98, go_sem, *]) rfl ?_
            exact ⟨by rw [hr.out], by go_grown⟩
      · have hr : Hid (ptRead s = .tuple #[.agg #[.int .i64 0, .int .i64 0], .bool false]) := by
          unfold Hid ptRead; rw [if_neg (fun hp => hlen (by have := hp.2.2.1; rw [g1] at this; have := HRC.out; omega))]
        have hne : ((t1.size : Int) != rcZ d) = true := by rw [bne_iff_ne]; exact hlen
        have hne2 : ((t1.size : Int) == rcZ d) = false := by rw [beq_eq_false_iff_ne]; exact hlen
        clear hd hgood hno hpt g1 g2 g3 g4 z0 z1 h2 hlen
        go_enter Try.func98, Try.ntmps98
        go_wp2_with fail
        refine (l01Split_any s 58 _ HSZ.out H58.out.1 H58.out.2).mono ?_
        rintro e w1 ⟨u, rfl, ou, hb⟩
        rw [HPT.out] at ou
        have hL := chain (B := w.heap.size) (a := w) (by go_grown) (Nat.le_refl _) hb
        replace k0 := keepAt hb k0
        have hz := hb.size
        rw [World.size_alloc] at hz
        obtain ⟨g, cap, rfl, ce0, ce1, hg0, hg1⟩ := ou.cellAt
        rw [World.size_alloc] at hg0
        clear hb ou
        go_wp2_with fail
        refine (l01Number_any t0 _ HZ0.out).mono ?_
        rintro e w2 ⟨rfl, rfl⟩
        rw [HD.out]
        have kt := C2.here w1 (.int .i64 d) (.int .i64 0) 41
        replace k0 := k0.alloc (.cells #[.int .i64 d, .int .i64 0] 41)
        have HLA : Hid (Below w.heap.size w (w1.alloc (.cells #[.int .i64 d, .int .i64 0] 41))) := hL.alloc (by omega) _
        have hce0 := cell_later ((Below.refl w1.heap.size w1).alloc (Nat.le_refl _) (.cells #[.int .i64 d, .int .i64 0] 41)) ce0
        have hce1 := cell_later ((Below.refl w1.heap.size w1).alloc (Nat.le_refl _) (.cells #[.int .i64 d, .int .i64 0] 41)) ce1
        clear hL ce0 ce1 hg0 hg1 hz
        go_wp2_with fail
        go_quiet ((first | (go_at_call 117; exact quiet1 (l01Rows_any _ _ d1 d5)) | (go_at_call 87; exact quiet1 (l01In_yes _ _ _ _ HIN.out))))
        have HLB := Lib.hid (Bdrew HLA.out)
        go_wp2_with fail
        refine bodyPost_ret (v := .tuple #[.agg #[.int .i64 0, .int .i64 0], .bool false]) (by simp [results, Try.results98, go_sem, *]) rfl ?_
        exact ⟨by rw [hr.out], by have := HLB.out 0; have hq := HLA.out; exact (Below.setCell (Below.setCell (Bdrew hq _) (p := ⟨w.heap.size, 0, none⟩) (Nat.le_refl _) _) (p := ⟨w.heap.size, 1, none⟩) (Nat.le_refl _) _)⟩
    · obtain ⟨d, hd⟩ : ∃ d, decN t0 = d := ⟨_, rfl⟩
      have hr : Hid (ptRead s = .tuple #[.agg #[.int .i64 0, .int .i64 0], .bool false]) := by unfold Hid ptRead; rw [if_neg (hno hin)]
      rw [hd] at hin
      have HD := Lib.hid hd
      have HIN := Lib.hid hin
      clear hd hgood hno hpt z0 z1 h2 hin
      go_enter Try.func98, Try.ntmps98
      go_wp2_with fail
      refine (l01Split_any s 58 _ HSZ.out H58.out.1 H58.out.2).mono ?_
      rintro e w1 ⟨u, rfl, ou, hb⟩
      rw [HPT.out] at ou
      have hL := chain (B := w.heap.size) (a := w) (by go_grown) (Nat.le_refl _) hb
      replace k0 := keepAt hb k0
      have hz := hb.size
      rw [World.size_alloc] at hz
      obtain ⟨g, cap, rfl, ce0, ce1, hg0, hg1⟩ := ou.cellAt
      rw [World.size_alloc] at hg0
      clear hb ou
      go_wp2_with fail
      refine (l01Number_any t0 _ HZ0.out).mono ?_
      rintro e w2 ⟨rfl, rfl⟩
      rw [HD.out]
      have kt := C2.here w1 (.int .i64 d) (.int .i64 0) 41
      replace k0 := k0.alloc (.cells #[.int .i64 d, .int .i64 0] 41)
      have HLA : Hid (Below w.heap.size w (w1.alloc (.cells #[.int .i64 d, .int .i64 0] 41))) := hL.alloc (by omega) _
      have hce0 := cell_later ((Below.refl w1.heap.size w1).alloc (Nat.le_refl _) (.cells #[.int .i64 d, .int .i64 0] 41)) ce0
      have hce1 := cell_later ((Below.refl w1.heap.size w1).alloc (Nat.le_refl _) (.cells #[.int .i64 d, .int .i64 0] 41)) ce1
      clear hL ce0 ce1 hg0 hg1 hz
      go_wp2_with fail
      go_quiet ((go_at_call 87; exact quiet1 (l01In_no _ _ _ _ HIN.out)))
      go_wp2_with fail
      refine bodyPost_ret (v := .tuple #[.agg #[.int .i64 0, .int .i64 0], .bool false]) (by simp [results, Try.results98, go_sem, *]) rfl ?_
      exact ⟨by rw [hr.out], by have hq := HLA.out; exact (Below.setCell (Below.setCell (Bdrew hq _) (p := ⟨w.heap.size, 0, none⟩) (Nat.le_refl _) _) (p := ⟨w.heap.size, 1, none⟩) (Nat.le_refl _) _)⟩
  · have hr : Hid (ptRead s = .tuple #[.agg #[.int .i64 0, .int .i64 0], .bool false]) := by
      unfold Hid ptRead; rw [if_neg (fun hp => h2 (by rw [hp.parts]; rfl))]
    have hd : (((parts s 58).length : Int) != 2) = true := by rw [bne_iff_ne]; omega
    have hd2 : (((parts s 58).length : Int) == 2) = false := by rw [beq_eq_false_iff_ne]; omega
    generalize hpp : parts s 58 = l at *
    have HPP := Lib.hid hpp
    clear h2 hpp
    go_enter Try.func98, Try.ntmps98
    go_wp2_with fail
    refine (l01Split_any s 58 _ HSZ.out H58.out.1 H58.out.2).mono ?_
    rintro e w1 ⟨u, rfl, ou, hb⟩
    rw [HPP.out] at ou
    have hL := chain (B := w.heap.size) (a := w) (by go_grown) (Nat.le_refl _) hb
    replace k0 := keepAt hb k0
    clear hb
    have hu : ∃ a cap, u = .slice a l.length cap := by
      rcases ou.2 with ⟨rfl, hn⟩ | ⟨g, cap, cur, rfl, _⟩
      · exact ⟨_, 0, by rw [hn]⟩
      · exact ⟨_, _, rfl⟩
    obtain ⟨ua, uc, rfl⟩ := hu
    clear ou
    go_wp2_with fail
    refine bodyPost_ret (v := .tuple #[.agg #[.int .i64 0, .int .i64 0], .bool false]) (by simp [results, Try.results98, go_sem, *]) rfl ?_
    exact ⟨by rw [hr.out], by go_grown⟩

end Go.Proofs.Ytlihnknlpbokiaa
