/- Sets of small numbers, told by bits, as lists: the program's and the model's. -/
import Derived.Test.YtkdidplpnhokiaaOwn
import Derived.Test.YtkdidplpnhokiaaSetsM
namespace Go.Proofs.Ytkdidplpnhokiaa
open Go.RowKit
set_option linter.unusedVariables false

set_option maxRecDepth 100000 in
set_option maxHeartbeats 1000000 in
theorem membersOf_any (s : Int) (w : World) (h0 : 0 ≤ s) (hs : s < 4611686018427387904) :
    Calls Try.prog 80 #[.int .i64 s] w fun e w' => ∃ u, e = .returned u ∧ Owns w' w.heap.size u (onesTo s 62) ∧ Below w.heap.size w w' := by
  obtain ⟨i0, hi, hz0, hz1, hz2⟩ := info_parts info64
  have Hs := Lib.hid hs
  clear hs
  have hx : s < 9223372036854775808 := by have := Hs.out; omega
  go_enter Try.func80, Try.ntmps80
  go_wp2_with fail
  go_loopw [3, 4] (fun u c wr => ∃ k : Nat, k ≤ 62 ∧ c = .int .i64 (k : Int) ∧ Below w.heap.size w wr ∧ Owns wr w.heap.size u (onesTo s k)) (fun _ c _ => (62 - intOf c).toNat)
  case atStart => exact ⟨0, by omega, rfl, Below.refl _ _, World.ownsRow_nil _ _ _ _⟩
  case round =>
    obtain ⟨k, hk, rfl, hL, oo⟩ := hrel
    by_cases hne : s / 2 ^ k = 0
    · have hd : (s / 2 ^ k != 0) = false := by simp [hne]
      have HE : Hid (onesTo s k = onesTo s 62) := onesTo_rest h0 hk hne
      clear hne
      go_wp2_with fail
      go_ret
      exact ⟨_, rfl, by rw [← HE.out]; exact oo, hL⟩
    · have hlt : k < 62 := by
        rcases Nat.lt_or_ge k 62 with h | h
        · exact h
        · exact absurd (div_big h0 Hs.out h) hne
      have hd : (s / 2 ^ k != 0) = true := by simp [hne]
      clear hne
      by_cases hb : dig s.toNat k = 1
      · have hd1 : (digZ s (k : Int) == 1) = true := by simp [digZ, hb]
        have Hn := Lib.hid (onesTo_hit s k hb)
        have Hl := Lib.hid (onesTo_len s k)
        clear hb
        go_wp2_with (first | (go_at_call 75; (with_reducible refine (digitAt_any _ _ _ h0 hx (by omega) (by omega)).mono ?_); rintro e w' ⟨rfl, rfl⟩) | (at_builtin; refine wpList_append_own _ rfl _ _ 22 rfl w.heap.size 2 i0 (.int .i64 0) 1 8 Try.underlying22 hi hz0 hz1 hz2 rfl (by decide) _ _ _ rfl (World.ownsRow.alloc oo _) ⟨wr.heap.size, 0, none⟩ 1 1 [.int .i64 (k : Int)] rfl rfl (cell_one_new _ _ _) (by simp [Value.oneCell']) (by have := Hl.out; unfold maxLen; omega) (by have := Hl.out; omega) (by have := hL.size; simp; omega) ?_; intro v' w1 hown' hgrow hnil))
        have hz' := hL.size
        have hfrom := oo.rowsFrom (B := w.heap.size) (by omega)
        exact ⟨⟨k + 1, by omega, by go_num, (hL.alloc (by omega) _).grown hgrow (by simp; omega) hfrom, by rw [Hn.out]; exact Owns.snoc hown'⟩, by simp [intOf]; omega⟩
      · have hd1 : (digZ s (k : Int) == 1) = false := by
          have := dig_lt s.toNat k
          have e : dig s.toNat k = 0 := by omega
          simp [digZ, e]
        have Hn := Lib.hid (onesTo_miss s k hb)
        clear hb
        go_wp2_with (first | (go_at_call 75; (with_reducible refine (digitAt_any _ _ _ h0 hx (by omega) (by omega)).mono ?_); rintro e w' ⟨rfl, rfl⟩))
        exact ⟨⟨k + 1, by omega, by go_num, hL, by rw [Hn.out]; exact oo⟩, by simp [intOf]; omega⟩

end Go.Proofs.Ytkdidplpnhokiaa
