/- RowsOfEnds: the program's. -/
import Derived.Test.YtbliibcfnfgdmaaTr3
import Derived.Test.YtbliibcfnfgdmaaSets
import Derived.Test.YtbliibcfnfgdmaaSl
import Derived.Test.YtbliibcfnfgdmaaIn
namespace Go.Proofs.Ytbliibcfnfgdmaa
open Go.RowKit
set_option linter.unusedVariables false

theorem allRows_nat (n : Nat) (w : World) (n1 : 1 ≤ n) (n5 : n ≤ 5) :
    Calls Try.prog 89 #[.int .i64 (n : Int)] w fun e w' => e = .returned (.int .i64 ((2 ^ 2 ^ n - 1 : Nat) : Int)) ∧ w = w' := by
  have := allRows_any (n : Int) w (by omega) (by omega)
  unfold fullZ at this
  rwa [Int.toNat_natCast] at this
theorem endRows_len (W : ByteArray) (b : Br) : (endRows W b).length ≤ 62 := by
  unfold endRows; split
  · exact onesTo_len _ _
  · simp
theorem flat_len (W : ByteArray) : ∀ l : List Br, (l.flatMap (endRows W)).length ≤ l.length * 62
  | [] => by simp
  | b :: l => by
    rw [List.flatMap_cons, List.length_append, List.length_cons, Nat.succ_mul]
    have := flat_len W l
    have := endRows_len W b
    omega

set_option maxRecDepth 100000 in
set_option maxHeartbeats 4000000 in
theorem rowsOfEnds_any (n : Nat) (W : ByteArray) (w : World) (n1 : 1 ≤ n) (n5 : n ≤ 5) (hW : SelU n (2 ^ n - 1) W) :
    Calls Try.prog 55 #[.int .i64 (n : Int), .string W] w fun e w' => ∃ q, e = .returned q ∧ Owns w' w.heap.size q (rowsU n W 0) ∧ Below w.heap.size w w' := by
  obtain ⟨i0, hi0, hz0, hz1, hz2⟩ := info_parts info64
  have hlT := lenT_le n5
  have hS : 2 ^ 2 ^ n - 1 < 4294967296 := by
    have h32 := pow5' n5
    have : 2 ^ 2 ^ n ≤ 2 ^ 32 := Nat.pow_le_pow_right (by decide) h32
    omega
  have HT := Lib.hid (fun w => treeAt_any n (2 ^ n - 1) 0 W w hW n5 (by omega))
  have HR := Lib.hid (fun w => allRows_nat n w n1 n5)
  have HEnd := Lib.hid (ends_all n1 n5 hW)
  have hmem := brU_mem n (p := 0) hW hS
  have hlen := brU_len n W 0 (2 ^ 2 ^ n - 1)
  have hWs : W.size = lenT n := hW.1
  rw [← HEnd.out]
  generalize hbr : brU n W 0 (2 ^ 2 ^ n - 1) = l at *
  have HM : Hid (∀ (k : Nat) (b : Br), l[k]? = some b → b.to < W.size ∧ b.rs < 4294967296) := fun k b hb => by
    have := hmem b (List.mem_of_getElem? hb)
    omega
  have HBr : Hid (brU n W 0 (2 ^ 2 ^ n - 1) = l) := hbr
  have HSlt := Lib.hid hS
  have hl63 : l.length ≤ 63 := by omega
  have HFl : Hid (∀ k, ((l.take k).flatMap (endRows W)).length ≤ 4000) := fun k => by
    have := flat_len W (l.take k)
    have h2 : (l.take k).length ≤ l.length := by rw [List.length_take]; omega
    have : (l.take k).length * 62 ≤ 63 * 62 := Nat.mul_le_mul_right _ (by omega)
    omega
  have HSt : Hid (∀ (k : Nat) (b : Br), l[k]? = some b → (l.take (k + 1)).flatMap (endRows W) = (l.take k).flatMap (endRows W) ++ endRows W b) := fun k b hb => by
    rw [List.take_add_one, hb, List.flatMap_append]; simp
  have H00 : Hid ((l.take 0).flatMap (endRows W) = []) := by unfold Hid; simp
  have HAll : Hid ((l.take l.length).flatMap (endRows W) = l.flatMap (endRows W)) := by unfold Hid; rw [List.take_length]
  obtain ⟨T, hT⟩ : ∃ T : Nat, 2 ^ 2 ^ n - 1 = T := ⟨_, rfl⟩
  rw [hT] at HR HBr HSlt
  clear hbr hmem hlen hS hT hW hWs hlT HEnd
  go_enter Try.func55, Try.ntmps55
  go_wp2_with fail
  refine (HT.out _).mono ?_
  rintro e w1 ⟨v, rfl, ⟨F, caps, rfl, hF, hcall⟩, hL⟩
  have HC := Lib.hid (hcall T w1 HSlt.out (Agr2.refl _ _))
  clear hcall
  go_wp2_with (first | (go_at_call 89; (with_reducible refine (HR.out _).mono ?_); rintro e w' ⟨rfl, rfl⟩) | ((with_reducible refine HC.out.mono ?_); rintro e w2 ⟨q, rfl, hq, hb⟩; rw [HBr.out] at hq; have hz2' := hb.size; have HQ := Lib.hid hq.rd; obtain ⟨qa, qc, rfl, _, _⟩ := hq.rd; replace hL := chain (B := w.heap.size) (a := w) hL (Nat.le_refl _) hb; clear hb hq))
  have hz0' := hL.size
  have hs0 : w.heap.size ≤ w2.heap.size := hz0'
  go_loopw [5, 14] (fun r c wr => ∃ k : Nat, k ≤ l.length ∧ c = .int .i64 (k : Int) ∧ Below w2.heap.size w2 wr ∧ Owns wr w2.heap.size r ((l.take k).flatMap (endRows W))) (fun _ c _ => l.length - (intOf c).toNat)
  case atStart => exact ⟨0, Nat.zero_le _, rfl, Below.refl _ _, by rw [H00.out]; exact World.ownsRow_nil _ _ _ _⟩
  case round =>
    obtain ⟨k, hk, rfl, hL1, oo⟩ := hrel
    have hsz1 := hL1.size
    by_cases hlt : k < l.length
    · obtain ⟨_, _, he, _, hcs⟩ := HQ.out
      obtain ⟨g, b, hqa, hb, hc⟩ := hcs k hlt
      injection he with he1 he2 he3
      subst he1
      subst hqa
      have c0 := cell_later hL1 (hc 0 _ rfl)
      have c1 := cell_later hL1 (hc 1 _ rfl)
      have c2 := cell_later hL1 (hc 2 _ rfl)
      have c3 := cell_later hL1 (hc 3 _ rfl)
      have c4 := cell_later hL1 (hc 4 _ rfl)
      rw [Nat.add_zero] at c0
      obtain ⟨hto, hrs⟩ := HM.out k b hb
      have Hn := Lib.hid (HSt.out k b hb)
      have HFk := Lib.hid (HFl.out k)
      have hb1 := byteAt_eq W b.to hto
      have HMe := Lib.hid (fun w => membersOf_any ((b.rs : Nat) : Int) w (by omega) (by omega))
      have hEy : byteAt W b.to = 46 → endRows W b = onesTo (b.rs : Int) 62 := fun h => by unfold endRows; rw [if_pos h]
      have hEn : byteAt W b.to ≠ 46 → endRows W b = [] := fun h => by unfold endRows; rw [if_neg h]
      have HEl := Lib.hid (onesTo_len ((b.rs : Nat) : Int) 62)
      generalize (l.take k).flatMap (endRows W) = xs at *
      have hi1 : (k : Int) < (l.length : Int) := by omega
      have hi0' : (0 : Int) ≤ (k : Int) := by omega
      generalize b.fr = bf at *
      generalize b.to = bto at *
      generalize b.inp = bi at *
      generalize b.kd = bk at *
      generalize b.rs = br at *
      clear hc he2 he3 hb hrs
      by_cases h46 : byteAt W bto = 46
      · have hE := hEy h46
        rw [hE] at Hn
        rw [hb1] at h46
        have hq : ((W[bto].toNat : Int) == 46) = true := by rw [beq_iff_eq]; exact h46
        have HO := Lib.hid oo
        have hfrom := Lib.hid (oo.rowsFrom (B := w2.heap.size) (Nat.le_refl _))
        obtain ⟨ra, rc, rfl, _, _⟩ := oo.reads
        clear hE hEy hEn h46 hb1 oo
        go_wp2_with fail
        refine (HMe.out _).mono ?_
        rintro e w3 ⟨u, rfl, hu, hb3⟩
        have hx := chain (B := wr.heap.size) (a := wr) (by go_grown) (Nat.le_refl _) hb3
        have hL3 := hL1.trans (hx.mono hsz1)
        have hz3 := hL3.size
        have HO3 := HO.out.keep hx
        generalize onesTo (br : Int) 62 = ys at *
        obtain ⟨v4, w4, hr4, hown4, hgr4, _⟩ := run_append_two (P := Try.prog) (w := w3) w2.heap.size _ 22 22 2 i0 _ 1 8 Try.underlying22 hi0 hz0 hz1 hz2 (by rfl) (by decide) _ _ _ _ _ _ HO3 hu (by intro x hx; obtain ⟨y, _, rfl⟩ := List.mem_map.1 hx; rfl) (by have := HFk.out; have := HEl.out; unfold maxLen; omega) (by have := HFk.out; have := HEl.out; omega) (by omega)
        have hL4 := hL3.grown ⟨hgr4.os, hgr4.tape, hgr4.output, hgr4.size, hgr4.block⟩ (by omega) (HO3.rowsFrom (B := w2.heap.size) (Nat.le_refl _))
        have HO4 : Hid (Owns w4 w2.heap.size v4 (xs ++ ys)) := by
          unfold Hid Owns
          rw [List.length_append, List.map_append]
          exact hown4
        clear hown4 hgr4 hu hb3 HO3
        go_wp2_with (at_builtin; refine Lib.wpList_append_run _ rfl _ _ _ _ rfl _ _ rfl rfl _ _ hr4 ?_)
        exact ⟨⟨k + 1, by omega, by go_num, hL4, by rw [Hn.out]; exact HO4.out⟩, by simp [intOf]; omega⟩
      · have hE := hEn h46
        rw [hE, List.append_nil] at Hn
        rw [hb1] at h46
        have hq : ((W[bto].toNat : Int) == 46) = false := by rw [beq_eq_false_iff_ne]; exact h46
        have HO := Lib.hid oo
        obtain ⟨ra, rc, rfl, _, _⟩ := oo.reads
        clear hE hEy hEn h46 hb1 oo
        go_wp2_with fail
        exact ⟨⟨k + 1, by omega, by go_num, by go_grown, by rw [Hn.out]; exact HO.out.keep (by go_grown)⟩, by simp [intOf]; omega⟩
    · have e : k = l.length := by omega
      rw [e, HAll.out] at oo
      clear e
      have hin : ¬ (k : Int) < (l.length : Int) := by omega
      go_wp2_with fail
      go_ret
      exact ⟨_, rfl, oo.mono hs0, hL.trans (hL1.mono hs0)⟩

end Go.Proofs.Ytbliibcfnfgdmaa
