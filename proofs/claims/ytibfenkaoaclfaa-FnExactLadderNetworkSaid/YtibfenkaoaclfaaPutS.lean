/- PutInto: the model's. -/
import Derived.Test.YtibfenkaoaclfaaPutI
namespace Go.Proofs.Ytibfenkaoaclfaa
open Go.RowKit
set_option linter.unusedVariables false

theorem Owns.form {w : World} {base : Nat} {v : Value} {xs : List Int} (h : Owns w base v xs) (h1 : 1 ≤ xs.length) : ∃ b cap, v = .slice (some ⟨b, 0, none⟩) xs.length cap ∧ base ≤ b ∧ b < w.heap.size := by
  have h' := h
  rcases h.2 with ⟨_, h0⟩ | ⟨b, cap, cur, rfl, hb, _⟩
  · omega
  · exact ⟨b, cap, rfl, hb, (World.ownsRow.lt h' b rfl).2⟩
theorem Owns.cell {w : World} {base b cap : Nat} {xs : List Int} (h : Owns w base (.slice (some ⟨b, 0, none⟩) xs.length cap) xs) (k : Nat) (hk : k < xs.length) : w.cell? ⟨b, k, none⟩ = some (.int .i64 (xs.getD k 0)) ∧ w.frozen? ⟨b, k, none⟩ = false := by
  refine ⟨?_, World.ownsRow.frozenAt h k⟩
  have := World.ownsRow.cellAt h k (by omega)
  rw [this]
  simp [hk, List.getD_eq_getElem?_getD]
theorem Owns.store {w : World} {base b cap : Nat} {xs : List Int} (h : Owns w base (.slice (some ⟨b, 0, none⟩) xs.length cap) xs) (k : Nat) (x : Int) : Owns (w.setCell ⟨b, k, none⟩ (.int .i64 x)) base (.slice (some ⟨b, 0, none⟩) xs.length cap) (xs.set k x) := by
  have := (World.ownsRow.stored h k (.int .i64 x)).1
  rw [← List.map_set] at this
  unfold Owns
  rw [List.length_set]
  exact this
/-- the number c added to the first coefficient -/
theorem addFirst (c : Int) (p : List Int) (hp : 1 ≤ p.length) : (W p).set 0 (wrap64 ((W p).getD 0 0 + c)) = W (plusL [c] p) := by
  have e : W p = listF p.length (fun k => wrap64 (cf p k)) := by rw [← W_listF, listF_cf]
  rw [W_get p 0 hp, e, listF_set _ _ _ _ hp]
  unfold plusL
  rw [W_listF, show max [c].length p.length = p.length by simp; omega]
  refine listF_congr fun k hk => ?_
  by_cases h : k = 0
  · subst h; rw [if_pos rfl, wrap_wrap_add, cf_one]; unfold cstF; rw [if_pos rfl, Int.add_comm]
  · rw [if_neg h, cf_one]; unfold cstF; rw [if_neg h, Int.zero_add]
theorem horner_drop (g xs : List Int) (i : Nat) (h : i + 1 < xs.length) : horner g (xs.drop i) = plusL [xs.getD i 0] (timesL (horner g (xs.drop (i + 1))) g) := by
  rw [List.drop_eq_getElem_cons (by omega : i < xs.length)]
  rw [List.drop_eq_getElem_cons h, horner]
  simp [List.getD_eq_getElem?_getD, List.getElem?_eq_getElem (by omega : i < xs.length)]
theorem horner_last (g xs : List Int) (h : 1 ≤ xs.length) : horner g (xs.drop (xs.length - 1)) = [xs.getD (xs.length - 1) 0] := by
  rw [List.drop_eq_getElem_cons (by omega : xs.length - 1 < xs.length), show xs.length - 1 + 1 = xs.length by omega, List.drop_length, horner]
  simp [List.getD_eq_getElem?_getD, List.getElem?_eq_getElem (by omega : xs.length - 1 < xs.length)]
theorem horner_small {g xs : List Int} (hg : 1 ≤ g.length) (hg2 : g.length ≤ 6) (hx : 1 ≤ xs.length) (hx2 : xs.length ≤ 6) : 1 ≤ (horner g xs).length ∧ (horner g xs).length ≤ 100 := by
  rw [horner_len g hg xs hx]
  have : (g.length - 1) * (xs.length - 1) ≤ 5 * 5 := Nat.mul_le_mul (by omega) (by omega)
  omega

set_option maxRecDepth 100000 in
set_option maxHeartbeats 4000000 in
theorem sPutInto_any (va : Value) (xs : List Int) (vb : Value) (g : List Int) (w : World) (ha : Reads w va xs) (hb : Reads w vb g) :
    Calls Try.prog 18 #[va, vb] w fun e w' => ∃ u, e = .returned (.tuple #[u, .int .i64 (resPutInto_1 xs g)]) ∧ Reads w' u (resPutInto_0 xs g) ∧ Below w.heap.size w w' := by
  have HB := Lib.hid hb
  cases hc : coB 100 6 xs
  · obtain ⟨r0, r1⟩ := put_no (xs := xs) (g := g) (by unfold putOk; rw [hc]; rfl)
    rw [r0, r1]
    have HC := Lib.hid (l05List_any va xs 6 100 w ha (by decide) (by decide) hc)
    clear hc ha hb r0 r1
    go_enter Try.func18, Try.ntmps18
    go_wp2_with fail
    refine HC.out.mono ?_
    rintro e w1 ⟨rfl, hL⟩
    go_wp2_with fail
    go_ret2
    exact ⟨_, rfl, Owns.reads (World.ownsRow_nil _ _ _ _ : Owns _ w.heap.size _ []), hL⟩
  · have HC := Lib.hid (l05List_any va xs 6 100 w ha (by decide) (by decide) hc)
    cases hd : coB 100 6 g
    · obtain ⟨r0, r1⟩ := put_no (xs := xs) (g := g) (by unfold putOk; rw [hc, hd]; rfl)
      rw [r0, r1]
      have HD := Lib.hid (fun w h => l05List_any vb g 6 100 w h (by decide) (by decide) hd)
      clear hc ha hb r0 r1 hd
      go_enter Try.func18, Try.ntmps18
      go_wp2_with fail
      refine HC.out.mono ?_
      rintro e w1 ⟨rfl, hL⟩
      go_wp2_with fail
      refine (HD.out _ (HB.out.keep hL)).mono ?_
      rintro e w2 ⟨rfl, hb⟩
      have hL2 := chain (B := w.heap.size) (a := w) hL (Nat.le_refl _) hb
      go_wp2_with fail
      go_ret2
      exact ⟨_, rfl, Owns.reads (World.ownsRow_nil _ _ _ _ : Owns _ w.heap.size _ []), hL2⟩
    · have HD := Lib.hid (fun w h => l05List_any vb g 6 100 w h (by decide) (by decide) hd)
      obtain ⟨n1, n6, hx⟩ := co6 hc
      obtain ⟨m1, m6, hy⟩ := co6 hd
      have hok : putOk xs g = true := by unfold putOk; rw [hc, hd]; rfl
      have HOK := Lib.hid hok
      have HX := Lib.hid hx
      have HG : Hid (W g = g) := W_small hy (by decide)
      have HPL : Hid (W (horner g xs) = putL xs g) := by unfold Hid putL; rw [put_horner xs g n1 m1]
      have hs0 := horner_small m1 m6 n1 n6
      have HLL : Hid ((putL xs g).length ≤ 100 ∧ 1 ≤ (putL xs g).length) := by rw [← HPL.out, W_len]; exact ⟨hs0.2, hs0.1⟩
      obtain ⟨aa, ca, rfl, hm, ha'⟩ := ha
      obtain ⟨ba, oa, rfl, ha0⟩ : ∃ b off, aa = some ⟨b, off, none⟩ ∧ ∀ i, i < xs.length → w.cell? ⟨b, off + i, none⟩ = some (.int .i64 (xs.getD i 0)) := by
        rcases ha' with rfl | h
        · simp at n1
        · exact h
      have Ha := Lib.hid ha0
      obtain ⟨n, hn⟩ : ∃ n, xs.length = n + 1 := ⟨xs.length - 1, by omega⟩
      have HN := Lib.hid hn
      have HLast : Hid (horner g (xs.drop n) = [xs.getD n 0]) := by have := horner_last g xs n1; rw [hn] at this; exact this
      rw [hn] at Ha HC n1 n6 ⊢
      have hbn := HX.out n (by omega)
      have HWn : Hid (wrap64 (xs.getD n 0) = xs.getD n 0) := IntWalk.wrap64_in _ (by omega)
      have hw1 : IntKind.i64.wrap ((n : Int) + 1 - 1) = (n : Int) := by rw [IntWalk.i64_in _ (by omega)]; omega
      clear hc hd hb hm ha' ha0 hx hy hok hn hs0 hbn
      go_enter Try.func18, Try.ntmps18
      go_wp2_with fail
      refine HC.out.mono ?_
      rintro e w1 ⟨rfl, hL⟩
      go_wp2_with fail
      refine (HD.out _ (HB.out.keep hL)).mono ?_
      rintro e w2 ⟨rfl, hb⟩
      have hL2 := chain (B := w.heap.size) (a := w) hL (Nat.le_refl _) hb
      have hz2 := hL2.size
      have o1 := (owns_one w2 2 (xs.getD n 0) HWn.out).mono hz2
      rw [← HLast.out] at o1
      have hL3 : Below w.heap.size w (w2.alloc (.cells #[.int .i64 (xs.getD n 0)] 2)) := hL2.alloc hz2 _
      have hcn := cell_later hL2 (Ha.out n (by omega))
      have hi0 : (0 : Int) ≤ (n : Int) := by omega
      have hi1 : (n : Int) < (n : Int) + 1 := by omega
      clear hL hb hL2 HWn
      generalize xs.getD n 0 = xn at *
      go_wp2_with fail
      go_loopw [6, 7] (fun u c wr => ∃ J : Int, -1 ≤ J ∧ J < (n : Int) ∧ c = .int .i64 J ∧ Below w.heap.size w wr ∧ Owns wr w.heap.size u (W (horner g (xs.drop (J + 1).toNat)))) (fun _ c _ => (intOf c + 1).toNat)
      case atStart =>
        refine ⟨(n : Int) + 1 - 2, by omega, by omega, rfl, hL3, ?_⟩
        rw [show ((n : Int) + 1 - 2 + 1).toNat = n by omega]
        exact o1
      case round =>
        clear hL3 o1 hz2 hcn
        obtain ⟨J, hJ0, hJ1, rfl, hL, oo⟩ := hrel
        by_cases hJ : 0 ≤ J
        · obtain ⟨i, rfl⟩ := Int.eq_ofNat_of_zero_le hJ
          rw [show ((i : Int) + 1).toNat = i + 1 by omega] at oo
          have hin : i < n := by omega
          have hlen : (xs.drop (i + 1)).length = n - i := by rw [List.length_drop, HN.out]; omega
          have hHs := horner_small (g := g) (xs := xs.drop (i + 1)) m1 m6 (by omega) (by omega)
          have HH : Hid (horner g (xs.drop i) = plusL [xs.getD i 0] (timesL (horner g (xs.drop (i + 1))) g)) := horner_drop g xs i (by have := HN.out; omega)
          have hB2 := HB.out.keep hL
          rw [← HG.out] at hB2
          have HB2 := Lib.hid hB2
          have HOO := Lib.hid oo
          have hz := hL.size
          clear hB2 oo hlen
          generalize horner g (xs.drop (i + 1)) = H at *
          have hpl : 1 ≤ (timesL H g).length := by rw [timesL_len]; omega
          have HPLn : Hid ((timesL H g).length ≤ 1000) := by unfold Hid; rw [timesL_len]; omega
          go_wp2_with fail
          refine (l05Times_any _ _ H g _ HOO.out.reads HB2.out hHs.1 (by omega) m1 (by omega)).mono ?_
          rintro e w3 ⟨u3, rfl, o3, hb3⟩
          have hL3 := chain (B := w.heap.size) (a := w) hL (Nat.le_refl _) hb3
          obtain ⟨b3, c3, rfl, hb3b, _⟩ := o3.form (by rw [W_len]; exact hpl)
          have hcc := o3.cell 0 (by rw [W_len]; exact hpl)
          obtain ⟨hc0, hf0⟩ := hcc
          have hca := cell_later hL3 (Ha.out i (by omega))
          have HST := Lib.hid (Owns.store (World.ownsRow.drew o3) 0 (wrap64 ((W (timesL H g)).getD 0 0 + xs.getD i 0)))
          have HAF := Lib.hid (addFirst (xs.getD i 0) (timesL H g) hpl)
          have h01 : (0 : Int) < ((W (timesL H g)).length : Int) := by rw [W_len]; omega
          have h01n : 0 < (W (timesL H g)).length := by rw [W_len]; omega
          have hi2 : (i : Int) < (n : Int) + 1 := by omega
          have hi3 : (0 : Int) ≤ (i : Int) := by omega
          have hbw : w.heap.size ≤ b3 := Nat.le_trans hz hb3b
          clear o3 hb3 hL HOO HB2 hpl hHs
          generalize (W (timesL H g)).getD 0 0 = p0 at *
          generalize xs.getD i 0 = x at *
          generalize (W (timesL H g)).length = L at *
          go_upto_region 8 with fail
          go_still_tail 10, (by kernel_rfl)
          change wpList _ _ _ _ _ w3.drew
          go_wp2_with fail
          refine ⟨⟨(i : Int) - 1, by omega, by omega, rfl, ?_, ?_⟩, ?_⟩
          · exact (show Below w.heap.size w w3.drew from Bdrew hL3 1).setCell (p := ⟨b3, 0, none⟩) hbw _
          · rw [show ((i : Int) - 1 + 1).toNat = i by omega, HH.out, ← HAF.out]
            exact HST.out.mono hz
          · simp [intOf]
        · obtain rfl : J = -1 := by omega
          rw [show ((-1 : Int) + 1).toNat = 0 by rfl, List.drop_zero, HPL.out] at oo
          obtain ⟨b4, c4, rfl, hb4, _⟩ := oo.form HLL.out.2
          have HOO := Lib.hid oo
          obtain ⟨hLn, hL1⟩ := HLL.out
          obtain ⟨j, hj, hno, hyes⟩ := firstB (fun i => farB 1000000000000 ((putL xs g).getD i 0)) (putL xs g).length
          have HCELL : Hid (∀ i, i < (putL xs g).length → wr.cell? ⟨b4, i, none⟩ = some (.int .i64 ((putL xs g).getD i 0))) := fun i hi => (HOO.out.cell i hi).1
          have HNO : Hid (∀ i, i < j → -1000000000000 ≤ (putL xs g).getD i 0 ∧ (putL xs g).getD i 0 ≤ 1000000000000) := fun i hi => by
            have := of_decide_eq_false (show decide ((putL xs g).getD i 0 < -1000000000000 ∨ 1000000000000 < (putL xs g).getD i 0) = false from hno i hi)
            omega
          have HYES : Hid (j < (putL xs g).length → ¬ (-1000000000000 ≤ (putL xs g).getD j 0 ∧ (putL xs g).getD j 0 ≤ 1000000000000)) := fun h => by
            have := of_decide_eq_true (show decide ((putL xs g).getD j 0 < -1000000000000 ∨ 1000000000000 < (putL xs g).getD j 0) = true from hyes h)
            omega
          have HRES : Hid ((j < (putL xs g).length → resPutInto_0 xs g = [] ∧ resPutInto_1 xs g = 3) ∧ (¬ j < (putL xs g).length → resPutInto_0 xs g = putL xs g ∧ resPutInto_1 xs g = 0)) := by
            refine ⟨fun h => put_limit HOK.out (decide_eq_false fun hh => ?_), fun h => put_yes HOK.out (decide_eq_true ⟨hL1, Int.le_refl _, ?_⟩)⟩
            · exact HYES.out h (hh.2.2 j h)
            · intro i hi; exact HNO.out i (by omega)
          clear oo hno hyes
          generalize hLL : (putL xs g).length = L at *
          have HLE := Lib.hid hLL
          clear hLL
          go_wp2_with fail
          go_loop [46] (fun c => ∃ k : Nat, k ≤ j ∧ c = .int .i64 (k : Int)) (fun c => L - (intOf c).toNat)
          case atStart => exact ⟨0, Nat.zero_le _, rfl⟩
          case round =>
            obtain ⟨k, hk, rfl⟩ := hrel
            by_cases hlt : k < L
            · have hca := HCELL.out k hlt
              have hi1 : (k : Int) < (L : Int) := by omega
              have hi0 : (0 : Int) ≤ (k : Int) := by omega
              by_cases hkj : k < j
              · have HK := Lib.hid (HNO.out k hkj)
                generalize (putL xs g).getD k 0 = x at *
                go_wp2_with ((go_at_call 37; (with_reducible refine (l01In_yes _ _ _ _ HK.out).mono ?_); rintro e w' ⟨rfl, rfl⟩))
                exact ⟨⟨k + 1, by omega, by go_num⟩, by simp [intOf]; omega⟩
              · have e : k = j := by omega
                subst e
                have HK := Lib.hid (HYES.out hlt)
                obtain ⟨r0, r1⟩ := HRES.out.1 hlt
                have HR0 := Lib.hid r0
                have HR1 := Lib.hid r1
                clear r0 r1
                generalize (putL xs g).getD k 0 = x at *
                go_wp2_with ((go_at_call 37; (with_reducible refine (l01In_no _ _ _ _ HK.out).mono ?_); rintro e w' ⟨rfl, rfl⟩))
                go_ret2
                refine ⟨.slice none 0 0, by rw [HR1.out]; rfl, ?_, hL⟩
                rw [HR0.out]
                exact Owns.reads (World.ownsRow_nil _ _ _ _ : Owns _ w.heap.size _ [])
            · obtain ⟨r0, r1⟩ := HRES.out.2 (by omega)
              have HR0 := Lib.hid r0
              have HR1 := Lib.hid r1
              clear r0 r1
              go_wp2_with fail
              go_ret2
              refine ⟨_, by rw [HR1.out]; rfl, ?_, hL⟩
              rw [HR0.out]
              have := HOO.out.reads
              exact this

end Go.Proofs.Ytibfenkaoaclfaa
