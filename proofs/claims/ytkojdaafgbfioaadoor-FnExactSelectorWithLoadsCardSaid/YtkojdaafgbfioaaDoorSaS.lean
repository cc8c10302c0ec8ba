/- All selectors: the model's l09All. -/
import Derived.Test.YtkojdaafgbfioaaDoorSaP
import Derived.Test.YtkojdaafgbfioaaDoorSeS
import Derived.Deep.RegionHeld3
import Derived.Deep.RegionWith
import Derived.Deep.AppendLies
import Derived.Deep.RegionLaw
namespace Go.Proofs.YtkojdaafgbfioaaDoor
open Go.RowKit
set_option linter.unusedVariables false

abbrev K1 (w : World) (b o : Nat) (x : Value) : Prop := w.cell? ⟨b, o, none⟩ = some x ∧ b < w.heap.size
theorem K1.keep {w w' : World} {b o : Nat} {x : Value} (h : K1 w b o x) (hb : Below w.heap.size w w') : K1 w' b o x :=
  ⟨cell_later hb h.1, by have := hb.size; have := h.2; omega⟩
theorem K1.alloc {w : World} {b o : Nat} {x : Value} (h : K1 w b o x) (ob : Obj) : K1 (w.alloc ob) b o x := h.keep ((Below.refl _ _).alloc (Nat.le_refl _) ob)
theorem K1.drewU {w : World} {b o : Nat} {x : Value} (h : K1 w b o x) : K1 w.drew b o x := h
theorem K1.grown {w w' : World} {b o : Nat} {x : Value} {row : Option Nat} (h : K1 w b o x) (hg : w.grownBy w' row) (hr : row ≠ some b) : K1 w' b o x := by
  obtain ⟨h0, hz⟩ := h
  have e := hg.block b hz (Ne.symm hr)
  have := hg.size
  exact ⟨(World.cell?_of_block (w := w) e).trans h0, by omega⟩
theorem oneS0 (w : World) (s : ByteArray) : (w.alloc (.cells #[.string s] 9)).ownsRow 0 9 1 (.slice (some ⟨w.heap.size, 0, none⟩) 1 1) 1 [.string s] := OwnsS.monoB (oneS w s) (Nat.zero_le _)
theorem OwnsS.k1 {w : World} {base : Nat} {g n cap : Nat} {l : List ByteArray} (h : OwnsS w base (.slice (some ⟨g, 0, none⟩) n cap) l) {i : Nat} (hi : i < l.length) : K1 w g i (.string (l.getD i ByteArray.empty)) := by
  refine ⟨?_, (OwnsS.lt h g rfl).2⟩
  obtain ⟨a, c, e, hc⟩ := h.rd
  obtain ⟨g', e', hc⟩ := hc i hi
  injection e with e1 e2 e3
  rw [e'] at e1
  injection e1 with e1
  injection e1 with e1
  subst e1
  exact hc

set_option maxRecDepth 100000 in
set_option maxHeartbeats 8000000 in
theorem l09All_any : ∀ (m L : Nat) (w : World), L < 32 → pcN L = m → m ≤ 4 →
    Calls Tryd.prog 14 #[.int .i64 (L : Int)] w fun e w' => ∃ q, e = .returned q ∧ OwnsS w' w.heap.size q (selL m L) ∧ Below w.heap.size w w' := by
  intro m
  induction m with
  | zero =>
    intro L w hL hp hm
    have h0 := (pc_zero hL).2 hp
    subst h0
    have HZ : Hid (selL 0 0 = [⟨#[46]⟩]) := rfl
    rw [HZ.out]
    go_enter Tryd.func14, Tryd.ntmps14
    go_wp2
    go_ret
    exact ⟨_, rfl, oneS w _, by go_grown⟩
  | succ m ih =>
    intro L w hL hp hm
    obtain ⟨i0, hi0, hz0, hz1, hz2''⟩ := info_parts infoStr
    have hne : ((L : Int) == 0) = false := by
      rw [beq_eq_false_iff_ne]
      intro h
      have h2 : L = 0 := by omega
      rw [(pc_zero hL).1 h2] at hp; omega
    have HIH := Lib.hid ih
    have HIn : Hid (∀ j : Nat, j < 5 → dig L j = 1 → L - 2 ^ j < 32 ∧ pcN (L - 2 ^ j) = m ∧ bits .andNot .i64 (L : Int) (wrap64 (2 ^ j)) = ((L - 2 ^ j : Nat) : Int)) := fun j hj hd => by
      have := pc_less hL hj hd
      exact ⟨(sub_dig hL hj hd).1, by omega, out_walk hL hj hd⟩
    have HBit : Hid (∀ j : Nat, j < 5 → bits .and .i64 ((L : Int) / 2 ^ j) 1 = ((dig L j : Nat) : Int)) := fun j hj => bit_one hL hj
    have HHit : Hid (∀ j : Nat, dig L j = 1 → (onesTo (L : Int) (j + 1)).flatMap (stepL m L) = (onesTo (L : Int) j).flatMap (stepL m L) ++ stepL m L (j : Int)) := fun j hd => by
      rw [onesTo_hit _ _ (by rw [Int.toNat_natCast]; exact hd), List.flatMap_append]; simp
    have HMiss : Hid (∀ j : Nat, dig L j ≠ 1 → onesTo (L : Int) (j + 1) = onesTo (L : Int) j) := fun j hd => onesTo_miss _ _ (by rw [Int.toNat_natCast]; exact hd)
    have HAll : Hid ((onesTo (L : Int) 5).flatMap (stepL m L) = selL (m + 1) L) := by unfold Hid; rw [ones_five hL]; rfl
    have H00 : Hid ((onesTo (L : Int) 0).flatMap (stepL m L) = []) := rfl
    have HTk : Hid (∀ k, ((onesTo (L : Int) k).flatMap (stepL m L)).length ≤ k * 144) := fun k => by
      have h1 := flat_le (stepL m L) 144 (onesTo (L : Int) k) (fun x hx => by
        obtain ⟨j, _, rfl, hd⟩ := ones_mem hx
        rw [Int.toNat_natCast] at hd
        have hj : j < 5 := by
          rcases Nat.lt_or_ge j 5 with h | h
          · exact h
          · unfold dig at hd
            rw [Nat.div_eq_of_lt (Nat.lt_of_lt_of_le hL (Nat.pow_le_pow_right (n := 2) (by decide) h))] at hd; omega
        have h2 := HIn.out j hj hd
        rw [stepL_len, Int.toNat_natCast, selL_len m h2.1 h2.2.1]
        have := cntS_le3 (m := m) (by omega)
        exact Nat.mul_le_mul this this)
      have := Nat.mul_le_mul_right 144 (onesTo_len (L : Int) k)
      omega
    have oo0 : OwnsS (w.alloc (.cells #[] 9)) w.heap.size (.slice (some ⟨w.heap.size, 0, none⟩) 0 0) [] :=
      World.ownsRow_made (base := w.heap.size) (e := 9) (size := 1) w #[] 0 (by simp) (by simp) rfl
    clear hp hL ih
    go_enter Tryd.func14, Tryd.ntmps14
    go_wp2_with fail
    go_loopw [3, 4] (fun r c wr => ∃ k : Nat, k ≤ 5 ∧ c = .int .i64 (k : Int) ∧ Below w.heap.size w wr ∧ OwnsS wr w.heap.size r ((onesTo (L : Int) k).flatMap (stepL m L))) (fun _ c _ => 5 - (intOf c).toNat)
    case atStart => exact ⟨0, by omega, rfl, by go_grown, by rw [H00.out]; exact oo0⟩
    case round =>
      clear oo0
      obtain ⟨k, hk, rfl, hL, oo⟩ := hrel
      by_cases hlt : k < 5
      · obtain ⟨K, hK⟩ : ∃ K : Int, (k : Int) = K := ⟨_, rfl⟩
        have hKn : K.toNat = k := by omega
        have hK0 : 0 ≤ K := by omega
        have hK5 : K < 5 := by omega
        have hu64 : IntKind.u64.wrap K = K := IntWalk.u64_in _ (by omega)
        have HBk : Hid (bits .and .i64 ((L : Int) / 2 ^ K.toNat) 1 = ((dig L k : Nat) : Int)) := by rw [hKn]; exact HBit.out k hlt
        obtain ⟨LI, hLI⟩ : ∃ LI : Int, (L : Int) = LI := ⟨_, rfl⟩
        have HLI : Hid (LI = (L : Int)) := hLI.symm
        by_cases hd : dig L k = 1
        · obtain ⟨hl32, hpc, hout⟩ := HIn.out k hlt hd
          have hB0 : (bits .and .i64 (LI / 2 ^ K.toNat) 1 == 0) = false := by rw [← hLI, HBk.out, hd]; rfl
          have HC := Lib.hid (fun w => HIH.out (L - 2 ^ k) w hl32 hpc (by omega))
          rw [← hout] at HC
          have hKn2 : wrap64 ((2 : Int) ^ k) = wrap64 ((2 : Int) ^ K.toNat) := by rw [hKn]
          rw [hKn2, hLI] at HC
          have Hn := Lib.hid (HHit.out k hd)
          have hst : stepL m L (k : Int) = joinT (joinT [digT (k : Int)] (selL m (L - 2 ^ k))) (selL m (L - 2 ^ k)) := by unfold stepL; rw [Int.toNat_natCast]
          have hbl : (selL m (L - 2 ^ k)).length ≤ 12 := by rw [selL_len m hl32 hpc]; exact cntS_le3 (by omega)
          have hbs : ∀ u ∈ selL m (L - 2 ^ k), u.size ≤ 31 := fun u hu => by
            rw [(selL_sel m hl32 hpc u hu).1]
            have : 2 ^ (m + 1) ≤ 2 ^ 4 := Nat.pow_le_pow_right (by decide) (by omega)
            unfold lenT; omega
          rw [hst] at Hn
          have hb1 : 1 ≤ (selL m (L - 2 ^ k)).length := by
            rw [selL_len m hl32 hpc]
            rcases (show m = 0 ∨ m = 1 ∨ m = 2 ∨ m = 3 by omega) with rfl | rfl | rfl | rfl <;> decide
          generalize selL m (L - 2 ^ k) = B at *
          have HTkk := Lib.hid (HTk.out k)
          generalize (onesTo (L : Int) k).flatMap (stepL m L) = J at *
          have HF := Lib.hid (fun w => l01Dec_any K w (by omega) (by omega))
          have hsd : strZ [48 + K] = digT (k : Int) := by rw [← hK]; rfl
          rw [hsd] at HF
          have hdz := digT_size (k : Int)
          have HFm : Hid (joinT [digT (k : Int)] B = B.map (fun t => digT (k : Int) ++ t)) := by unfold Hid joinT; simp
          rw [HFm.out] at Hn
          generalize digT (k : Int) = dj at *
          have HBs : Hid (∀ i, i < B.length → (B.getD i ByteArray.empty).size ≤ 31) := fun i hi => by
            rw [List.getD_eq_getElem?_getD, List.getElem?_eq_getElem hi]; exact hbs _ (List.getElem_mem hi)
          obtain ⟨Fl, hFl⟩ : ∃ Fl, B.map (fun t => dj ++ t) = Fl := ⟨_, rfl⟩
          have hFlen : Fl.length = B.length := by rw [← hFl, List.length_map]
          have HFg : Hid (∀ a, a < B.length → Fl.getD a ByteArray.empty = dj ++ B.getD a ByteArray.empty) := fun a ha => by
            rw [← hFl, List.getD_eq_getElem?_getD, List.getD_eq_getElem?_getD, List.getElem?_map, List.getElem?_eq_getElem ha]; rfl
          rw [hFl] at Hn
          have HA0 : Hid (J ++ joinT (Fl.take 0) B = J) := by unfold Hid joinT; simp
          have HAE : Hid (J ++ joinT (Fl.take B.length) B = J ++ joinT Fl B) := by unfold Hid; rw [← hFlen, List.take_length]
          have HB0' : Hid (∀ a, J ++ joinT (Fl.take a) B ++ (B.take 0).map (fun t => Fl.getD a ByteArray.empty ++ t) = J ++ joinT (Fl.take a) B) := fun a => by simp
          have HBE : Hid (∀ a, a < B.length → J ++ joinT (Fl.take a) B ++ (B.take B.length).map (fun t => Fl.getD a ByteArray.empty ++ t) = J ++ joinT (Fl.take (a + 1)) B) := fun a ha => by
            rw [joinT_take (by omega), List.take_length, List.append_assoc]
          have HBS : Hid (∀ a b, a < B.length → b < B.length → J ++ joinT (Fl.take a) B ++ (B.take (b + 1)).map (fun t => Fl.getD a ByteArray.empty ++ t) = (J ++ joinT (Fl.take a) B ++ (B.take b).map (fun t => Fl.getD a ByteArray.empty ++ t)) ++ [dj ++ B.getD a ByteArray.empty ++ B.getD b ByteArray.empty]) := fun a b ha hb => by
            rw [List.take_add_one, List.getElem?_eq_getElem hb, List.map_append, HFg.out a ha, List.getD_eq_getElem?_getD (l := B) (i := b), List.getElem?_eq_getElem hb, List.append_assoc]; simp
          have HLe : Hid (∀ a b, a ≤ B.length → b ≤ B.length → (J ++ joinT (Fl.take a) B ++ (B.take b).map (fun t => Fl.getD a ByteArray.empty ++ t)).length ≤ 1100) := fun a b ha hb => by
            rw [List.length_append, List.length_append, joinT_len, List.length_take, List.length_map, List.length_take]
            have h1 : min a Fl.length * B.length ≤ 12 * 12 := Nat.mul_le_mul (by omega) hbl
            have := HTkk.out
            omega
          rw [hK]
          have hrr : Hid (K + 1 = ((k + 1 : Nat) : Int)) := by unfold Hid; omega
          have HO := Lib.hid oo
          have hzr := hL.size
          obtain ⟨N, hN⟩ : ∃ N, B.length = N := ⟨_, rfl⟩
          have HN := Lib.hid hN
          rw [hN] at hb1 hbl HAE HBE HBS HLe HFg HBs
          clear HBk hd hKn hKn2 hFl hFlen hbs hst hl32 hpc hout oo hK HFg hN
          rw [hLI]
          go_wp2_with fail
          refine (HC.out _).mono ?_
          rintro e w2 ⟨qb, rfl, hqb, hb2⟩
          have hL2 := chain (B := w.heap.size) (a := w) hL (Nat.le_refl _) hb2
          have hz2 := hb2.size
          obtain ⟨g, cap, hqe, hgr⟩ : ∃ g cap, qb = .slice (some ⟨g, 0, none⟩) N cap ∧ wr.heap.size ≤ g := by
            rcases hqb.2 with ⟨_, hn⟩ | ⟨g, cap, cur, e, hg, _⟩
            · rw [HN.out] at hn; omega
            · exact ⟨g, cap, by rw [e, HN.out], hg⟩
          subst hqe
          have HQ2 := Lib.hid (hqb.monoB (Nat.zero_le _))
          have HO2 := Lib.hid (HO.out.keep hb2)
          have hsep : Hid (∀ q, (u3 : Value).ownBlock = some q → q ≠ g) := fun q e => by
            have := (OwnsS.lt HO.out q e).2; omega
          clear hqb hb2
          go_wp2_with fail
          have hSt : OwnsS w2 w.heap.size u3 (J ++ joinT (Fl.take 0) B) := by rw [HA0.out]; exact HO2.out
          go_loopw [3, 6] (fun r c wx => ∃ a : Nat, a ≤ N ∧ c = .int .i64 (a : Int) ∧ Below w.heap.size w wx ∧ OwnsS wx w.heap.size r (J ++ joinT (Fl.take a) B) ∧ Hid (OwnsS wx 0 (.slice (some ⟨g, 0, none⟩) N cap) B) ∧ Hid (∀ q, r.ownBlock = some q → q ≠ g)) (fun _ c _ => N - (intOf c).toNat)
          case atStart => exact ⟨0, Nat.zero_le _, rfl, hL2, hSt, HQ2, hsep⟩
          case round =>
            clear hSt hL2 HQ2 hsep HO2 HO hL hz2 hzr
            obtain ⟨a, ha, rfl, hL, oo, HQ, HSp⟩ := hrel
            by_cases hal : a < N
            · have ha1 : (a : Int) < (N : Int) := by omega
              have ha0 : (0 : Int) ≤ (a : Int) := by omega
              have hSt : OwnsS wr w.heap.size u3 (J ++ joinT (Fl.take a) B ++ (B.take 0).map (fun t => Fl.getD a ByteArray.empty ++ t)) := by rw [HB0'.out]; exact oo
              go_wp2_with fail
              go_loopw [3, 7] (fun r c wy => ∃ b : Nat, b ≤ N ∧ c = .int .i64 (b : Int) ∧ Below w.heap.size w wy ∧ OwnsS wy w.heap.size r (J ++ joinT (Fl.take a) B ++ (B.take b).map (fun t => Fl.getD a ByteArray.empty ++ t)) ∧ Hid (OwnsS wy 0 (.slice (some ⟨g, 0, none⟩) N cap) B) ∧ Hid (∀ q, r.ownBlock = some q → q ≠ g)) (fun _ c _ => N - (intOf c).toNat)
              case atStart => exact ⟨0, Nat.zero_le _, rfl, hL, hSt, HQ, HSp⟩
              case round =>
                clear hSt hL HQ HSp oo
                obtain ⟨b, hb, rfl, hL, oo, HQ, HSp⟩ := hrel
                by_cases hbl' : b < N
                · have hb1' : (b : Int) < (N : Int) := by omega
                  have hb0 : (0 : Int) ≤ (b : Int) := by omega
                  have HSS := Lib.hid (HBS.out a b hal hbl')
                  have HLl := Lib.hid (HLe.out a b ha hb)
                  have hka := OwnsS.k1 HQ.out (i := a) (by rw [HN.out]; exact hal)
                  have hkb := OwnsS.k1 HQ.out (i := b) (by rw [HN.out]; exact hbl')
                  have hza := HBs.out a hal
                  have hzb := HBs.out b hbl'
                  generalize J ++ joinT (Fl.take a) B ++ (B.take b).map (fun t => Fl.getD a ByteArray.empty ++ t) = X at *
                  generalize B.getD a ByteArray.empty = Ba at *
                  generalize B.getD b ByteArray.empty = Bb at *
                  have hcat4 : ¬ 9223372036854775807 < 1 + Ba.size := by omega
                  have hcat5 : ¬ 9223372036854775807 < 1 + Ba.size + Bb.size := by omega
                  have hcat1 : ¬ 9223372036854775807 < dj.size + Ba.size := by omega
                  have hcat2 : ¬ 9223372036854775807 < dj.size + Ba.size + Bb.size := by omega
                  have hcat3 : ¬ 9223372036854775807 < (dj ++ Ba).size + Bb.size := by rw [ByteArray.size_append]; omega
                  have HO := Lib.hid oo
                  have hzw := hL.size
                  have HKA := Lib.hid hka
                  have HKB := Lib.hid hkb
                  have hLx : Below wr.heap.size wr wr := Below.refl _ _
                  clear oo
                  go_wp2_with fail
                  have c1 := HKA.out.1
                  have c2 := HKB.out.1
                  go_region_law (first | (refine step_append_lies _ (by rfl) _ _ 33 (by rfl) w.heap.size 9 i0 (.string ByteArray.empty) 1 16 Tryd.underlying33 hi0 hz0 hz1 hz2'' (by rfl) (by decide) u3 X.length (X.map Value.string) (by rfl) (World.ownsRow.alloc HO3.out _) ⟨w3.heap.size, 0, none⟩ 1 1 [.string (dj ++ Ba ++ Bb)] (by rfl) (by rfl) (cell_one_new _ _ _) (by simp [Value.oneCell']) (by decide) (by have := HLl.out; unfold maxLen; omega) (by have := HLl.out; omega) (by have := HX3.out.size; simp; omega) (w3.heap.size + 1) (by simp) ?_; intro gv cap2 w5 hown hgr hat5 hlt5; have HOWN := Lib.hid hown; have HGR := Lib.hid hgr; have HAT := Lib.hid hat5; clear hown hgr hat5) | (go_simp; go_at_call 30; (with_reducible refine (HF.out _).mono ?_); rintro e w3 ⟨rfl, hb3⟩; have hx3 := chain (B := wr.heap.size) (a := wr) (by go_grown) (Nat.le_refl _) hb3; have kx1 := K1.keep HKA.out hx3; have kx2 := K1.keep HKB.out hx3; have c1 := kx1.1; have c2 := kx2.1; have HX3 := Lib.hid hx3; have HO3 : Hid (w3.ownsRow w.heap.size 9 1 u3 X.length (X.map Value.string)) := HO.out.keep hx3; clear hb3))
                  all_goals
                      have hL3 := hL.trans (HX3.out.mono hzw)
                      have hz3 := hL3.size
                      have hzx := HX3.out.size
                      have hgz := kx1.2
                      have HL5 : Hid (Below w.heap.size w w5) := (hL3.alloc hz3 (.cells #[.string (dj ++ Ba ++ Bb)] 9)).grown ⟨HGR.out.os, HGR.out.tape, HGR.out.output, HGR.out.size, HGR.out.block⟩ (by simp; omega) (OwnsS.from HO.out)
                      have HO5 : Hid (OwnsS w5 w.heap.size _ (X ++ [dj ++ Ba ++ Bb])) := OwnsS.snoc HOWN.out
                      have HQ5 : Hid (OwnsS w5 0 (.slice (some ⟨g, 0, none⟩) N cap) B) := World.ownsRow.kept (World.ownsRow.alloc (HQ.out.keep HX3.out) _) HGR.out (.inr fun e => HSp.out g e.symm rfl)
                      have hgvg : gv ≠ g := by
                        rcases HAT.out with h | h
                        · exact HSp.out gv h
                        · omega
                      clear HOWN HGR HAT kx1 kx2 HX3 HO3 c1 c2
                      go_wp2_with fail
                      have HSp5 : Hid (∀ q, (Value.slice (some ⟨gv, 0, none⟩) (X.length + 1) cap2).ownBlock = some q → q ≠ g) := fun q e => by
                        have e2 : gv = q := by simpa [Value.ownBlock] using e
                        rw [← e2]; exact hgvg
                      exact ⟨⟨b + 1, by omega, by go_num, HL5.out, by rw [HSS.out]; exact HO5.out, HQ5, HSp5⟩, by simp [intOf]; omega⟩
                · have e : b = N := by omega
                  rw [e, HBE.out a hal] at oo
                  have hin : ¬ (b : Int) < (N : Int) := by omega
                  have HOf := Lib.hid oo
                  clear e oo
                  go_wp2_with fail
                  exact ⟨⟨a + 1, by omega, by go_num, hL, HOf.out, HQ, HSp⟩, by simp [intOf]; omega⟩
            · have e : a = N := by omega
              rw [e, HAE.out] at oo
              have hin : ¬ (a : Int) < (N : Int) := by omega
              have HOf := Lib.hid oo
              clear e oo HQ HSp
              go_wp2_with fail
              exact ⟨⟨k + 1, by omega, by rw [hrr.out], hL, by rw [HLI.out, Hn.out]; exact HOf.out⟩, by simp [intOf]; have := hrr.out; omega⟩
        · have hB0 : (bits .and .i64 (LI / 2 ^ K.toNat) 1 == 0) = true := by
            have h2 := dig_lt L k
            rw [← hLI, HBk.out, show dig L k = 0 by omega]; rfl
          have Hn := Lib.hid (HMiss.out k hd)
          have HO := Lib.hid oo
          have hrr : Hid (K + 1 = ((k + 1 : Nat) : Int)) := by unfold Hid; omega
          rw [hK, hLI]
          clear HBk hd hK hKn oo
          go_wp2_with fail
          exact ⟨⟨k + 1, by omega, by rw [hrr.out], hL, by rw [HLI.out, Hn.out]; exact HO.out⟩, by simp [intOf]; have := hrr.out; omega⟩
      · have e : k = 5 := by omega
        rw [e, HAll.out] at oo
        rw [e]
        clear e
        go_wp2_with fail
        go_ret
        exact ⟨_, rfl, oo, hL⟩

end Go.Proofs.YtkojdaafgbfioaaDoor
