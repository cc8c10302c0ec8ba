/- Texts cut at a byte; numbers in decimal: the model's. -/
import Derived.Test.YtlihnknlpbokiaaSplitM
import Derived.Test.YtlihnknlpbokiaaNetM
import Derived.Test.YtlihnknlpbokiaaOwn
namespace Go.Proofs.Ytlihnknlpbokiaa
open Go.RowKit
set_option linter.unusedVariables false

theorem infoStr : (Try.prog.info? 9).map (fun i => (i.zero, i.size, i.bytes)) = some (some (.string ByteArray.empty), 1, 16) := by kernel_rfl
/-- the slice v lies in a block of its own, from block base on, and has the texts l -/
def OwnsS (w : World) (base : Nat) (v : Value) (l : List ByteArray) : Prop := w.ownsRow base 9 1 v l.length (l.map Value.string)
theorem OwnsS.snoc {w : World} {base : Nat} {v : Value} {l : List ByteArray} {x : ByteArray} (h : w.ownsRow base 9 1 v (l.length + 1) (l.map Value.string ++ [.string x])) : OwnsS w base v (l ++ [x]) := by
  unfold OwnsS
  rw [List.length_append, List.length_singleton, List.map_append]
  exact h

set_option maxRecDepth 100000 in
set_option maxHeartbeats 2000000 in
theorem l01Split_any (s : ByteArray) (c : Int) (w : World) (hs : s.size ≤ 1048576) (hc0 : 0 ≤ c) (hc1 : c < 256) :
    Calls Try.prog 127 #[.string s, .int .u8 c] w fun e w' => ∃ u, e = .returned u ∧ OwnsS w' w.heap.size u (parts s c) ∧ Below w.heap.size w w' := by
  obtain ⟨i0, hi, hz0, hz1, hz2⟩ := info_parts infoStr
  have oo : OwnsS (w.alloc (.cells #[] 9)) w.heap.size (.slice (some ⟨w.heap.size, 0, none⟩) 0 0) (cutTo s c 0).1 :=
    World.ownsRow_made (base := w.heap.size) (e := 9) (size := 1) w #[] 0 (by simp) (by simp) rfl
  have HP : Hid (parts s c = (cutTo s c s.size).1 ++ [s.extract (cutTo s c s.size).2 s.size]) := rfl
  have hb63 : s.size ≤ 9223372036854775807 := by omega
  go_enter Try.func127, Try.ntmps127
  go_wp2_with fail
  go_loopw [5, 6, 7] (fun u a c' wr => ∃ (k at_ : Nat), k ≤ s.size ∧ c' = .int .i64 (k : Int) ∧ a = .int .i64 (at_ : Int) ∧ Hid ((cutTo s c k).2 = at_) ∧ at_ ≤ k ∧ Below w.heap.size w wr ∧ OwnsS wr w.heap.size u (cutTo s c k).1) (fun _ _ c' _ => s.size - (intOf c').toNat)
  case atStart => exact ⟨0, 0, Nat.zero_le _, rfl, rfl, rfl, Nat.le_refl _, by go_grown, oo⟩
  case round =>
    clear oo
    obtain ⟨k, at_, hk, rfl, rfl, HA, hat, hL, oo⟩ := hrel
    by_cases hlt : k < s.size
    · have hle := (cutTo_le s c k).2
      by_cases hb : byteAt s k = c
      · have hd : ((s[k].toNat : Int) == c) = true := by rw [← byteAt_eq s k hlt, hb]; simp
        have Hn : Hid ((cutTo s c (k + 1)).1 = (cutTo s c k).1 ++ [s.extract at_ k]) := by unfold Hid; simp only [cutTo]; rw [if_pos hb, ← HA.out]
        have Hn2 : Hid ((cutTo s c (k + 1)).2 = k + 1) := by unfold Hid; simp only [cutTo]; rw [if_pos hb]
        have hz' := hL.size
        have hfrom := World.ownsRow.lt oo
        clear hb
        go_wp2_with (at_builtin; refine wpList_append_own _ rfl _ _ 136 rfl w.heap.size 9 i0 (.string ByteArray.empty) 1 16 Try.underlying136 hi hz0 hz1 hz2 rfl (by decide) _ _ _ rfl (World.ownsRow.alloc oo _) ⟨wr.heap.size, 0, none⟩ 1 1 [.string (s.extract at_ k)] rfl rfl (cell_one_new _ _ _) (by simp [Value.oneCell']) (by unfold maxLen; omega) (by omega) (by simp; omega) ?_; intro v' w1 hown' hgrow hnil)
        exact ⟨⟨k + 1, k + 1, by omega, by go_num, by go_num, Hn2, Nat.le_refl _, (hL.alloc (by omega) _).grown hgrow (by simp; omega) (fun b e => (hfrom b e).1), by rw [Hn.out]; exact OwnsS.snoc hown'⟩, by simp [intOf]; omega⟩
      · have hd : ((s[k].toNat : Int) == c) = false := by rw [← byteAt_eq s k hlt]; simpa using hb
        have Hn : Hid (cutTo s c (k + 1) = cutTo s c k) := by unfold Hid; simp only [cutTo]; rw [if_neg hb]
        clear hb
        go_wp2_with fail
        exact ⟨⟨k + 1, at_, by omega, by go_num, rfl, by unfold Hid; rw [Hn.out]; exact HA.out, by omega, hL, by rw [Hn.out]; exact oo⟩, by simp [intOf]; omega⟩
    · have e : k = s.size := by omega
      subst e
      have hle := (cutTo_le s c s.size).2
      have hz' := hL.size
      have hfrom := World.ownsRow.lt oo
      go_wp2_with (at_builtin; refine wpList_append_own _ rfl _ _ 136 rfl w.heap.size 9 i0 (.string ByteArray.empty) 1 16 Try.underlying136 hi hz0 hz1 hz2 rfl (by decide) _ _ _ rfl (World.ownsRow.alloc oo _) ⟨wr.heap.size, 0, none⟩ 1 1 [.string (s.extract at_ s.size)] rfl rfl (cell_one_new _ _ _) (by simp [Value.oneCell']) (by unfold maxLen; omega) (by omega) (by simp; omega) ?_; intro v' w1 hown' hgrow hnil)
      go_ret
      refine ⟨_, rfl, ?_, (hL.alloc (by omega) _).grown hgrow (by simp; omega) (fun b e => (hfrom b e).1)⟩
      rw [HP.out, HA.out]
      exact OwnsS.snoc hown'

theorem b10 (k : Nat) (h : k ≤ 9) : (10 : Int) ^ k ≤ 1000000000 := by
  have : (10 : Nat) ^ k ≤ 10 ^ 9 := Nat.pow_le_pow_right (by decide) h
  have e : ((10 : Int) ^ k) = ((10 ^ k : Nat) : Int) := by simp
  rw [e]; omega

set_option maxRecDepth 100000 in
set_option maxHeartbeats 2000000 in
theorem l01Number_any (s : ByteArray) (w : World) (hs : s.size ≤ 1048576) :
    Calls Try.prog 128 #[.string s] w fun e w' => e = .returned (.int .i64 (decN s)) ∧ w = w' := by
  have hb63 : s.size ≤ 9223372036854775807 := by omega
  by_cases h0 : s.size = 0
  · have hr : Hid (decN s = -1) := by unfold Hid decN; rw [if_neg (fun h => h.1.1 h0)]
    have hd : ((s.size : Int) == 0) = true := by simp [h0]
    clear h0
    go_enter Try.func128, Try.ntmps128
    go_wp2_with fail
    go_ret
    exact ⟨by rw [hr.out]; rfl, rfl⟩
  · have hd0 : ((s.size : Int) == 0) = false := by rw [beq_eq_false_iff_ne]; omega
    by_cases h9 : 9 < s.size
    · have hr : Hid (decN s = -1) := by unfold Hid decN; rw [if_neg (fun h => by have := h.1.2.1; omega)]
      have hd9 : (9 : Int) < (s.size : Int) := by omega
      go_enter Try.func128, Try.ntmps128
      go_wp2_with fail
      go_ret
      exact ⟨by rw [hr.out]; rfl, rfl⟩
    · have hd9 : ¬ (9 : Int) < (s.size : Int) := by omega
      have hp0 : 0 < s.size := Nat.pos_of_ne_zero h0
      by_cases hl : 1 < s.size ∧ byteAt s 0 = 48
      · have hr : Hid (decN s = -1) := by unfold Hid decN; rw [if_neg (fun h => h.1.2.2 hl)]
        have hd1 : (1 : Int) < (s.size : Int) := by omega
        have hdb : ((s[0].toNat : Int) == 48) = true := by rw [← byteAt_eq s 0 hp0, hl.2]; rfl
        clear hl
        go_enter Try.func128, Try.ntmps128
        go_wp2_with fail
        go_ret
        exact ⟨by rw [hr.out]; rfl, rfl⟩
      · have hlead : (¬ (1 : Int) < (s.size : Int)) ∨ ((1 : Int) < (s.size : Int) ∧ ((s[0].toNat : Int) == 48) = false) := by
          by_cases h1 : 1 < s.size
          · right; refine ⟨by omega, ?_⟩
            rw [← byteAt_eq s 0 hp0]
            simpa using fun e => hl ⟨h1, e⟩
          · left; omega
        obtain ⟨j, hj, hok, hbad⟩ := firstBad (fun i => 48 ≤ byteAt s i ∧ byteAt s i ≤ 57) s.size
        have HB : Hid (j < s.size → decN s = -1) := fun h => by unfold decN; rw [if_neg (fun hh => hbad h (hh.2 j h))]
        have HG : Hid (j = s.size → decN s = decTo s s.size) := fun h => by unfold decN; rw [if_pos ⟨⟨h0, by omega, hl⟩, by subst h; exact hok⟩]
        have Hok := Lib.hid hok
        have Hbad := Lib.hid hbad
        clear hok hbad hl h0
        rcases hlead with hlead | ⟨hl1, hl2⟩
        all_goals
          go_enter Try.func128, Try.ntmps128
          go_wp2_with fail
          go_loop [3, 4] (fun n i => ∃ (k : Nat) (m : Int), k ≤ j ∧ i = .int .i64 (k : Int) ∧ n = .int .i64 m ∧ 0 ≤ m ∧ m ≤ 1000000000 ∧ Hid (m = decTo s k)) (fun _ i => s.size - (intOf i).toNat)
          case atStart => exact ⟨0, 0, Nat.zero_le _, rfl, rfl, by omega, by omega, rfl⟩
          case round =>
            obtain ⟨k, m, hk, rfl, rfl, m0, m1, HM⟩ := hrel
            by_cases hlt : k < s.size
            · have hby := byteAt_eq s k hlt
              by_cases hin : 48 ≤ byteAt s k ∧ byteAt s k ≤ 57
              · have hkj : k < j := by
                  rcases Nat.lt_or_ge k j with h1 | h1
                  · exact h1
                  · have e : k = j := by omega
                    subst e
                    exact absurd hin (Hbad.out hlt)
                have hbd := decTo_bd (s := s) (k := k + 1) fun i hi => Hok.out i (by omega)
                have h10 := b10 (k + 1) (by omega)
                have HS : Hid (m * 10 + (byteAt s k - 48) = decTo s (k + 1)) := by unfold Hid; rw [HM.out]; rfl
                have hv : 0 ≤ m * 10 + (byteAt s k - 48) ∧ m * 10 + (byteAt s k - 48) ≤ 1000000000 := by have := HS.out; omega
                rw [hby] at hin hv HS
                clear hby hbd h10
                obtain ⟨i1, i2⟩ := hin
                obtain ⟨v1, v2⟩ := hv
                generalize hsb : (s[k].toNat : Int) = bb at *
                go_wp2_with fail
                go_round
                case rel => exact ⟨k + 1, _, by omega, by go_num, rfl, v1, v2, HS⟩
                case measure => simp [intOf]; omega
              · have hr : Hid (decN s = -1) := HB.out (by
                  rcases Nat.lt_or_ge k j with h1 | h1
                  · exact absurd (Hok.out k h1) hin
                  · omega)
                rw [hby] at hin
                clear hby
                by_cases hlow : (s[k].toNat : Int) < 48
                · clear hin
                  go_wp2_with fail
                  go_ret
                  exact ⟨by rw [hr.out]; rfl, rfl⟩
                · have hhi : (57 : Int) < (s[k].toNat : Int) := by omega
                  clear hin
                  go_wp2_with fail
                  go_ret
                  exact ⟨by rw [hr.out]; rfl, rfl⟩
            · have hr : Hid (decN s = m) := by unfold Hid; rw [HG.out (by omega), HM.out]; congr 1; omega
              go_wp2_with fail
              go_ret
              exact ⟨by rw [hr.out]; rfl, rfl⟩

end Go.Proofs.Ytlihnknlpbokiaa
