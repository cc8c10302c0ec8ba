/- ParseTable of both; the walk of FnExactParseTable. -/
import Derived.Test.YtlihnknlpbokiaaPT
namespace Go.Proofs.Ytlihnknlpbokiaa
open Go.RowKit
set_option linter.unusedVariables false

theorem ptRead_cases (s : ByteArray) : (PT s ∧ ptRead s = .tuple #[.agg #[.int .i64 (ptN s), .int .i64 (buildZ (ptF s) (2 ^ (ptN s).toNat))], .bool true] ∧ ptRes s = .tuple #[.agg #[.int .i64 (ptN s), .int .i64 (buildZ (ptF s) (2 ^ (ptN s).toNat))], .int .i64 0]) ∨ (¬ PT s ∧ ptRead s = .tuple #[.agg #[.int .i64 0, .int .i64 0], .bool false] ∧ ptRes s = .tuple #[.agg #[.int .i64 0, .int .i64 0], .int .i64 6]) := by
  unfold ptRead ptRes
  by_cases h : PT s
  · left; rw [if_pos h, if_pos h]; exact ⟨h, rfl, rfl⟩
  · right; rw [if_neg h, if_neg h]; exact ⟨h, rfl, rfl⟩

set_option maxHeartbeats 1000000 in
theorem sParseTable_any (s : ByteArray) (w : World) (hs : s.size ≤ 1048576) :
    Calls Try.prog 47 #[.string s] w fun e w' => e = .returned (ptRes s) ∧ Below w.heap.size w w' := by
  have HSZ := Lib.hid hs
  have k0 := C2.here w (.int .i64 0) (.int .i64 0) 41
  rcases ptRead_cases s with ⟨_, h1, h2⟩ | ⟨_, h1, h2⟩
  · have D : Hid (∀ w, Calls Try.prog 98 #[.string s] w fun e w' => e = .returned (.tuple #[.agg #[.int .i64 (ptN s), .int .i64 (buildZ (ptF s) (2 ^ (ptN s).toNat))], .bool true]) ∧ Below w.heap.size w w') := fun w => h1 ▸ l01Read_any s w HSZ.out
    have hr := Lib.hid h2
    clear h1 h2
    generalize buildZ (ptF s) (2 ^ (ptN s).toNat) = vv at *
    generalize ptN s = nn at *
    go_enter Try.func47, Try.ntmps47
    go_wp2_with (go_at_call 98; (with_reducible refine (D.out _).mono ?_); rintro e w' ⟨rfl, hb⟩; have hL := chain (B := w.heap.size) (a := w) (by go_grown) (Nat.le_refl _) hb; have hzl := hL.size; replace k0 := (keepAt hb k0).alloc (.cells #[.int .i64 nn, .int .i64 vv] 41); have k1 := C2.here w' (.int .i64 nn) (.int .i64 vv) 41; clear hb)
    refine bodyPost_ret (v := .tuple #[.agg #[.int .i64 nn, .int .i64 vv], .int .i64 0]) (by simp [results, Try.results47, go_sem, *]) rfl ?_
    exact ⟨by rw [hr.out], by go_grown⟩
  · have D : Hid (∀ w, Calls Try.prog 98 #[.string s] w fun e w' => e = .returned (.tuple #[.agg #[.int .i64 0, .int .i64 0], .bool false]) ∧ Below w.heap.size w w') := fun w => h1 ▸ l01Read_any s w HSZ.out
    have hr := Lib.hid h2
    clear h1 h2
    go_enter Try.func47, Try.ntmps47
    go_wp2_with (go_at_call 98; (with_reducible refine (D.out _).mono ?_); rintro e w' ⟨rfl, hb⟩; have hL := chain (B := w.heap.size) (a := w) (by go_grown) (Nat.le_refl _) hb; have hzl := hL.size; replace k0 := (keepAt hb k0).alloc (.cells #[.int .i64 0, .int .i64 0] 41); have k1 := C2.here w' (.int .i64 0) (.int .i64 0) 41; clear hb)
    refine bodyPost_ret (v := .tuple #[.agg #[.int .i64 0, .int .i64 0], .int .i64 6]) (by simp [results, Try.results47, go_sem, *]) rfl ?_
    exact ⟨by rw [hr.out], by go_grown⟩

set_option maxRecDepth 100000 in
set_option maxHeartbeats 4000000 in
theorem iParseTable_any (s : ByteArray) (w : World) (hs : s.size ≤ 1048576) :
    Calls Try.prog 48 #[.string s] w fun e w' => e = .returned (ptRes s) ∧ Below w.heap.size w w' := by
  have k0 := C2.here w (.int .i64 0) (.int .i64 0) 41
  have hb63 : s.size ≤ 9223372036854775807 := by omega
  by_cases h2 : s.size < 2
  · have hr : Hid (ptRes s = .tuple #[.agg #[.int .i64 0, .int .i64 0], .int .i64 6]) := by unfold Hid ptRes; rw [if_neg (fun hp => by have := hp.size; omega)]
    have hd : (s.size : Int) < 2 := by omega
    go_enter Try.func48, Try.ntmps48
    go_wp2_with fail
    refine bodyPost_ret (v := .tuple #[.agg #[.int .i64 0, .int .i64 0], .int .i64 6]) (by simp [results, Try.results48, go_sem, *]) rfl ?_
    exact ⟨by rw [hr.out], by go_grown⟩
  · have hd : ¬ (s.size : Int) < 2 := by omega
    have hp0 : 0 < s.size := by omega
    have hp1 : 1 < s.size := by omega
    by_cases hcol : byteAt s 1 = 58
    · have hc1 : ((s[1].toNat : Int) != 58) = false := by rw [← byteAt_eq s 1 hp1, hcol]; rfl
      have hc2 : ((s[1].toNat : Int) == 58) = true := by rw [← byteAt_eq s 1 hp1, hcol]; rfl
      obtain ⟨d, hdn⟩ : ∃ d, ptN s = d := ⟨_, rfl⟩
      have hpn : (s[0].toNat : Int) - 48 = d := by rw [← hdn]; unfold ptN; rw [byteAt_eq s 0 hp0]
      have hdb : -48 ≤ d ∧ d < 256 := by have := byteAt_bd s 0; unfold ptN at hdn; omega
      obtain ⟨v, hv⟩ : ∃ v, s.extract 2 s.size = v := ⟨_, rfl⟩
      have hvs : v.size = s.size - 2 := by rw [← hv, extract_size _ _ _ (by omega)]
      have hvb : ∀ i, i < v.size → byteAt v i = byteAt s (2 + i) := fun i hi => by rw [← hv, byteAt_extract _ _ _ _ (by omega) (by omega)]
      have HVS := Lib.hid hvs
      by_cases hin : 1 ≤ d ∧ d ≤ 5
      · have HIN := Lib.hid hin
        obtain ⟨d1, d5⟩ := hin
        have hrc := rcZ_bd d1 d5
        have HRC : Hid (rcZ d = ((2 ^ d.toNat : Nat) : Int)) := rfl
        by_cases hlen : (v.size : Int) = rcZ d
        · have hlen' : v.size = 2 ^ d.toNat := by have := HRC.out; omega
          obtain ⟨j, hj, hok, hbad⟩ := firstBad (fun i => byteAt v i = 48 ∨ byteAt v i = 49) v.size
          have HB : Hid (j < v.size → ptRes s = .tuple #[.agg #[.int .i64 0, .int .i64 0], .int .i64 6]) := fun h => by
            unfold ptRes; rw [if_neg (fun hp => hbad h (by have := hp.2.2.2 j (by omega); rw [hvb j h]; exact this))]
          have HG : Hid (j = v.size → ptRes s = .tuple #[.agg #[.int .i64 d, .int .i64 (buildZ (ptF s) v.size)], .int .i64 0]) := fun h => by
            unfold ptRes; rw [if_pos ⟨by rw [hdn]; exact ⟨d1, d5⟩, hcol, by rw [hdn]; omega, fun i hi => by have := hok i (by omega); rw [hvb i (by omega)] at this; exact this⟩, hdn, hlen']
          have Hok := Lib.hid hok
          have Hbad := Lib.hid hbad
          have HF : Hid (∀ i, i < v.size → ptF s i = (byteAt v i - 48).toNat) := fun i hi => by unfold ptF; rw [hvb i hi]
          have hne : ((v.size : Int) != rcZ d) = false := by simp [hlen]
          have hne2 : ((v.size : Int) == rcZ d) = true := by simp [hlen]
          have ht32 : v.size ≤ 32 := by omega
          have hv63 : v.size ≤ 9223372036854775807 := by omega
          clear hok hbad hvb hvs hlen' hcol hdn
          have k1 := C2.here (w.alloc (.cells #[.int .i64 0, .int .i64 0] 41)) (.int .i64 d) (.int .i64 0) 41
          rw [World.size_alloc] at k1
          replace k0 := k0.alloc (.cells #[.int .i64 d, .int .i64 0] 41)
          go_enter Try.func48, Try.ntmps48
          go_wp2_with (first | (go_at_call 71; (with_reducible refine (isInputCount_yes _ _ d1 d5).mono ?_); rintro e w' ⟨rfl, rfl⟩) | (go_at_call 73; (with_reducible refine (rowCount_any _ _ d1 d5).mono ?_); rintro e w' ⟨rfl, rfl⟩))
          go_loopw [38] (fun c wr => ∃ k : Nat, k ≤ j ∧ c = .int .i64 (k : Int) ∧ Below w.heap.size w wr ∧ C2 wr w.heap.size (.int .i64 0) (.int .i64 0) ∧ C2 wr (w.heap.size + 1) (.int .i64 d) (.int .i64 (buildZ (ptF s) k))) (fun c _ => v.size - (intOf c).toNat)
          case atStart => exact ⟨0, Nat.zero_le _, rfl, by go_grown, k0, k1⟩
          case round =>
            clear k0 k1
            obtain ⟨k, hk, rfl, hL, k0, k1⟩ := hrel
            by_cases hlt : k < v.size
            · have hby := byteAt_eq v k hlt
              have hi1 : (k : Int) < (v.size : Int) := by omega
              have hi0 : (0 : Int) ≤ (k : Int) := by omega
              by_cases hbit : byteAt v k = 48 ∨ byteAt v k = 49
              · have hkj : k < j := by
                  rcases Nat.lt_or_ge k j with h1 | h1
                  · exact h1
                  · have e : k = j := by omega
                    subst e
                    exact absurd hbit (Hbad.out hlt)
                have hFk : ptF s k = (byteAt v k - 48).toNat := HF.out k hlt
                have Hs := Lib.hid (build_stepG (ptF s) k (by omega) (by omega))
                have Hv : Hid ((ptF s k : Int) = byteAt v k - 48) := by unfold Hid; omega
                rw [Hv.out] at Hs
                rw [hby] at hbit Hs
                have hsplit : ((v[k].toNat : Int) != 48) = false ∨ (((v[k].toNat : Int) != 48) = true ∧ ((v[k].toNat : Int) != 49) = false) := by
                  rcases hbit with h | h
                  · left; simp [h]
                  · right; simp [h]
                have hkm : min k 64 = k := by omega
                have hbd : 48 ≤ (v[k].toNat : Int) ∧ (v[k].toNat : Int) ≤ 49 := by omega
                obtain ⟨b0, b1⟩ := hbd
                have hu8 : IntKind.u8.wrap ((v[k].toNat : Int) - 48) = (v[k].toNat : Int) - 48 := IntWalk.u8_in _ (by omega)
                have hi64 : IntKind.i64.wrap ((v[k].toNat : Int) - 48) = (v[k].toNat : Int) - 48 := IntWalk.i64_in _ (by omega)
                have hwr := wrapI' (((v[k].toNat : Int) - 48) * 2 ^ k)
                clear hbit hby Hv hFk
                rcases hsplit with hs1 | ⟨hs1, hs2⟩
                all_goals
                  go_wp2_with fail
                  go_region
                  all_goals (go_wp2_with fail)
                  all_goals (exact ⟨⟨k + 1, by omega, by go_num, by go_grown, k0.set _ _ _ (by omega), by rw [← Hs.out]; exact k1.put1 _⟩, by simp [intOf]; omega⟩)
              · have hr : Hid (ptRes s = .tuple #[.agg #[.int .i64 0, .int .i64 0], .int .i64 6]) := HB.out (by
                  rcases Nat.lt_or_ge k j with h1 | h1
                  · exact absurd (Hok.out k h1) hbit
                  · omega)
                rw [hby] at hbit
                have hs1 : ((v[k].toNat : Int) != 48) = true := by rw [bne_iff_ne]; exact fun h => hbit (.inl h)
                have hs2 : ((v[k].toNat : Int) != 49) = true := by rw [bne_iff_ne]; exact fun h => hbit (.inr h)
                clear hbit hby
                go_wp2_with fail
                refine bodyPost_ret (v := .tuple #[.agg #[.int .i64 0, .int .i64 0], .int .i64 6]) (by simp [results, Try.results48, go_sem, *]) rfl ?_
                exact ⟨by rw [hr.out], by go_grown⟩
            · have hr : Hid (ptRes s = .tuple #[.agg #[.int .i64 d, .int .i64 (buildZ (ptF s) v.size)], .int .i64 0]) := HG.out (by omega)
              have hke : k = v.size := by omega
              rw [hke] at k1
              have hge : ¬ (k : Int) < (v.size : Int) := by omega
              clear hj hk hlt hke
              go_wp2_with fail
              refine bodyPost_ret (v := .tuple #[.agg #[.int .i64 d, .int .i64 (buildZ (ptF s) v.size)], .int .i64 0]) (by simp [results, Try.results48, go_sem, *]) rfl ?_
              exact ⟨by rw [hr.out], by go_grown⟩
        · have hr : Hid (ptRes s = .tuple #[.agg #[.int .i64 0, .int .i64 0], .int .i64 6]) := by
            unfold Hid ptRes; rw [if_neg (fun hp => hlen (by have := hp.2.2.1; rw [hdn] at this; have := HRC.out; omega))]
          have hne : ((v.size : Int) != rcZ d) = true := by rw [bne_iff_ne]; exact hlen
          have hne2 : ((v.size : Int) == rcZ d) = false := by rw [beq_eq_false_iff_ne]; exact hlen
          have k1 := C2.here (w.alloc (.cells #[.int .i64 0, .int .i64 0] 41)) (.int .i64 d) (.int .i64 0) 41
          rw [World.size_alloc] at k1
          replace k0 := k0.alloc (.cells #[.int .i64 d, .int .i64 0] 41)
          clear hvb hvs hcol hdn hlen
          go_enter Try.func48, Try.ntmps48
          go_wp2_with (first | (go_at_call 71; (with_reducible refine (isInputCount_yes _ _ d1 d5).mono ?_); rintro e w' ⟨rfl, rfl⟩) | (go_at_call 73; (with_reducible refine (rowCount_any _ _ d1 d5).mono ?_); rintro e w' ⟨rfl, rfl⟩))
          refine bodyPost_ret (v := .tuple #[.agg #[.int .i64 0, .int .i64 0], .int .i64 6]) (by simp [results, Try.results48, go_sem, *]) rfl ?_
          exact ⟨by rw [hr.out], by go_grown⟩
      · have hr : Hid (ptRes s = .tuple #[.agg #[.int .i64 0, .int .i64 0], .int .i64 6]) := by
          unfold Hid ptRes; rw [if_neg (fun hp => hin (by rw [← hdn]; exact hp.1))]
        have HIN : Hid (d < 1 ∨ 5 < d) := by unfold Hid; omega
        have k1 := C2.here (w.alloc (.cells #[.int .i64 0, .int .i64 0] 41)) (.int .i64 d) (.int .i64 0) 41
        rw [World.size_alloc] at k1
        replace k0 := k0.alloc (.cells #[.int .i64 d, .int .i64 0] 41)
        clear hvb hvs hcol hdn hin
        go_enter Try.func48, Try.ntmps48
        go_wp2_with (first | (go_at_call 71; (with_reducible refine (isInputCount_no _ _ HIN.out).mono ?_); rintro e w' ⟨rfl, rfl⟩))
        refine bodyPost_ret (v := .tuple #[.agg #[.int .i64 0, .int .i64 0], .int .i64 6]) (by simp [results, Try.results48, go_sem, *]) rfl ?_
        exact ⟨by rw [hr.out], by go_grown⟩
    · have hr : Hid (ptRes s = .tuple #[.agg #[.int .i64 0, .int .i64 0], .int .i64 6]) := by unfold Hid ptRes; rw [if_neg (fun hp => hcol hp.2.1)]
      have hc1 : ((s[1].toNat : Int) != 58) = true := by rw [← byteAt_eq s 1 hp1, bne_iff_ne]; exact hcol
      have hc2 : ((s[1].toNat : Int) == 58) = false := by rw [← byteAt_eq s 1 hp1, beq_eq_false_iff_ne]; exact hcol
      clear hcol
      go_enter Try.func48, Try.ntmps48
      go_wp2_with fail
      refine bodyPost_ret (v := .tuple #[.agg #[.int .i64 0, .int .i64 0], .int .i64 6]) (by simp [results, Try.results48, go_sem, *]) rfl ?_
      exact ⟨by rw [hr.out], by go_grown⟩

set_option maxRecDepth 100000 in
set_option maxHeartbeats 2000000 in
theorem walkFnExactParseTable (s : ByteArray) (hs0 : s.size ≤ 9223372036854775807) (w : World) :
    Calls Try.prog 7 #[.string s] w fun e w' => e = .returned (.bool true) ∧ Below w.heap.size w w' := by
  by_cases hbig : 1048576 < s.size
  · have hb1 : (1048576 : Int) < (s.size : Int) := by omega
    go_enter Try.func7, Try.ntmps7
    go_wp2_with fail
    go_ret
    exact ⟨rfl, Below.refl _ _⟩
  · have hb1 : ¬ (1048576 : Int) < (s.size : Int) := by omega
    obtain ⟨ra, rb, rc, habc⟩ := ptRes_cases s
    have D1 : Hid (∀ (w : World), Calls Try.prog 48 #[.string s] w fun e w' => e = .returned (.tuple #[.agg #[.int .i64 ra, .int .i64 rb], .int .i64 rc]) ∧ Below w.heap.size w w') := fun w => habc ▸ iParseTable_any s w (by omega)
    have D2 : Hid (∀ (w : World), Calls Try.prog 47 #[.string s] w fun e w' => e = .returned (.tuple #[.agg #[.int .i64 ra, .int .i64 rb], .int .i64 rc]) ∧ Below w.heap.size w w') := fun w => habc ▸ sParseTable_any s w (by omega)
    clear habc
    go_enter Try.func7, Try.ntmps7
    go_wp2_with fail
    refine (D2.out _).mono ?_
    rintro e w1 ⟨rfl, hb⟩
    have hL := chain (B := w.heap.size) (a := w) (by go_grown) (Nat.le_refl _) hb
    have hz1 := hL.size
    clear hb
    have kw := C2.here w1 (.int .i64 ra) (.int .i64 rb) 41
    go_wp2_with fail
    refine (D1.out _).mono ?_
    rintro e w2 ⟨rfl, hb⟩
    have hL := chain (B := w.heap.size) (a := w) (by go_grown) (Nat.le_refl _) hb
    have hz2 := hL.size
    replace kw := (keepAt hb kw).alloc (.cells #[.int .i64 ra, .int .i64 rb] 41)
    have kg := C2.here w2 (.int .i64 ra) (.int .i64 rb) 41
    clear hb
    go_wp2_with fail
    refine (eqTable_same _ _ _).mono ?_
    rintro e w3 ⟨rfl, hb⟩
    have hL := chain (B := w.heap.size) (a := w) (by go_grown) (Nat.le_refl _) hb
    clear hb kw kg
    go_wp2_with fail
    go_ret
    exact ⟨rfl, hL⟩

end Go.Proofs.Ytlihnknlpbokiaa
