/- All selectors: the program's selectorsOf. -/
import Derived.Test.YtkojdaafgbfioaaDoorJt9
import Derived.Test.YtkojdaafgbfioaaDoorApp2
import Derived.Test.YtkojdaafgbfioaaDoorSts
import Derived.Test.YtkojdaafgbfioaaDoorSets
import Derived.Test.YtkojdaafgbfioaaDoorSl
import Derived.Lib.AppendZeros
namespace Go.Proofs.YtkojdaafgbfioaaDoor
open Go.RowKit
set_option linter.unusedVariables false

theorem oneS (w : World) (s : ByteArray) : OwnsS (w.alloc (.cells #[.string s] 9)) w.heap.size (.slice (some ⟨w.heap.size, 0, none⟩) 1 1) [s] :=
  ⟨rfl, .inr ⟨w.heap.size, 1, _, rfl, Nat.le_refl _, heap_alloc_new w _, Nat.le_refl _, by decide, rfl, rfl⟩⟩
theorem flat_take {α β : Type} (f : α → List β) (l : List α) (k : Nat) (x : α) (h : l[k]? = some x) : (l.take (k + 1)).flatMap f = (l.take k).flatMap f ++ f x := by
  rw [List.take_add_one, h, List.flatMap_append]; simp
theorem flat_le {α β : Type} (f : α → List β) (c : Nat) : ∀ (l : List α), (∀ x ∈ l, (f x).length ≤ c) → (l.flatMap f).length ≤ l.length * c
  | [], _ => by simp
  | a :: l, h => by
    rw [List.flatMap_cons, List.length_append, List.length_cons, Nat.succ_mul]
    have := h a List.mem_cons_self
    have := flat_le f c l fun x hx => h x (List.mem_cons_of_mem _ hx)
    omega

set_option maxRecDepth 100000 in
set_option maxHeartbeats 4000000 in
theorem selectorsOf_any : ∀ (m L : Nat) (w : World), L < 32 → pcN L = m → m ≤ 4 →
    Calls Tryd.prog 22 #[.int .i64 (L : Int)] w fun e w' => ∃ q, e = .returned q ∧ OwnsS w' w.heap.size q (selL m L) ∧ Below w.heap.size w w' := by
  intro m
  induction m with
  | zero =>
    intro L w hL hp hm
    have h0 := (pc_zero hL).2 hp
    subst h0
    have HZ : Hid (selL 0 0 = [⟨#[46]⟩]) := rfl
    rw [HZ.out]
    go_enter Tryd.func22, Tryd.ntmps22
    go_wp2
    go_ret
    exact ⟨_, rfl, oneS w _, by go_grown⟩
  | succ m ih =>
    intro L w hL hp hm
    obtain ⟨i0, hi0, hz0, hz1, hz2''⟩ := info_parts infoStr
    have hne : ((L : Int) == 0) = false := by
      rw [beq_eq_false_iff_ne]
      intro h
      have h2 : L = 0 := by omega
      rw [(pc_zero hL).1 h2] at hp; omega
    have HM := Lib.hid (fun w => membersOf_any (L : Int) w (by omega) (by omega))
    have HEl : Hid (∀ (k : Nat) (x : Int), (onesTo (L : Int) 62)[k]? = some x → ∃ j : Nat, x = (j : Int) ∧ j < 5 ∧ dig L j = 1) := fun k x hk => by
      obtain ⟨j, h1, h2, h3⟩ := ones_small hL (List.mem_of_getElem? hk)
      exact ⟨j, h2, h1, h3⟩
    have HIn : Hid (∀ j : Nat, j < 5 → dig L j = 1 → L - 2 ^ j < 32 ∧ pcN (L - 2 ^ j) = m ∧ bits .andNot .i64 (L : Int) (wrap64 (2 ^ j)) = ((L - 2 ^ j : Nat) : Int)) := fun j hj hd => by
      have := pc_less hL hj hd
      exact ⟨(sub_dig hL hj hd).1, by omega, out_walk hL hj hd⟩
    have HLen : Hid ((onesTo (L : Int) 62).length = m + 1) := by unfold Hid; rw [ones_count ⟨L, hL⟩]; exact hp
    have HSt := Lib.hid (fun (k : Nat) (x : Int) (h : (onesTo (L : Int) 62)[k]? = some x) => flat_take (stepL m L) (onesTo (L : Int) 62) k x h)
    have HAll : Hid (((onesTo (L : Int) 62).take (onesTo (L : Int) 62).length).flatMap (stepL m L) = selL (m + 1) L) := by unfold Hid; rw [List.take_length]; rfl
    have H00 : Hid (((onesTo (L : Int) 62).take 0).flatMap (stepL m L) = []) := by unfold Hid; simp
    have HTk : Hid (∀ k, (((onesTo (L : Int) 62).take k).flatMap (stepL m L)).length ≤ 1000) := fun k => by
      have h1 := flat_le (stepL m L) 144 ((onesTo (L : Int) 62).take k) (fun x hx => by
        obtain ⟨j, hj, rfl, hd⟩ := ones_small hL (List.mem_of_mem_take hx)
        have h2 := HIn.out j hj hd
        rw [stepL_len, Int.toNat_natCast, selL_len m h2.1 h2.2.1]
        have := cntS_le3 (m := m) (by omega)
        exact Nat.mul_le_mul this this)
      have h3 : ((onesTo (L : Int) 62).take k).length ≤ m + 1 := by rw [List.length_take, HLen.out]; omega
      have := Nat.mul_le_mul_right 144 h3
      omega
    generalize onesTo (L : Int) 62 = xs at *
    obtain ⟨M, hM⟩ : ∃ M, xs.length = M := ⟨_, rfl⟩
    rw [hM] at HAll HLen
    have HMl := Lib.hid hM
    clear hM hp hL
    go_enter Tryd.func22, Tryd.ntmps22
    go_wp2_with fail
    refine (HM.out _).mono ?_
    rintro e w1 ⟨u, rfl, hu, hL1⟩
    have HU := Lib.hid (fun wx (hb : Below w1.heap.size w1 wx) => hu.reads.keep hb)
    obtain ⟨ua, uc, rfl, _, _⟩ := hu.reads
    rw [HMl.out]
    have hz1' := hL1.size
    clear hu
    have HIH := Lib.hid ih
    have hM5 : M ≤ 5 := by have := HLen.out; omega
    clear ih
    go_wp2_with fail
    go_loopw [3, 14] (fun r c wr => ∃ k : Nat, k ≤ M ∧ c = .int .i64 (k : Int) ∧ Below w1.heap.size w1 wr ∧ OwnsS wr w1.heap.size r ((xs.take k).flatMap (stepL m L))) (fun _ c _ => M - (intOf c).toNat)
    case atStart => exact ⟨0, Nat.zero_le _, rfl, Below.refl _ _, by rw [H00.out]; exact World.ownsRow_nil _ _ _ _⟩
    case round =>
      obtain ⟨k, hk, rfl, hL, oo⟩ := hrel
      by_cases hlt : k < M
      · obtain ⟨ua', uc', ev, _, hcv⟩ := HU.out wr hL
        injection ev with ev1 ev2 ev3
        subst ev1
        have hkl : k < xs.length := by rw [HMl.out]; exact hlt
        rcases hcv with hnil | ⟨gl, offl, rfl, hcv⟩
        · rw [hnil] at hkl; simp at hkl
        have hc0 := hcv k hkl
        have hget : xs[k]? = some (xs.getD k 0) := by rw [List.getD_eq_getElem?_getD, List.getElem?_eq_getElem hkl]; rfl
        obtain ⟨j, hj, hj5, hd⟩ := HEl.out k _ hget
        have Hn := Lib.hid (HSt.out k _ hget)
        obtain ⟨hl32, hpc, hout⟩ := HIn.out j hj5 hd
        rw [hj] at hc0 Hn
        have HC := Lib.hid (fun w => HIH.out (L - 2 ^ j) w hl32 hpc (by omega))
        rw [← hout] at HC
        have HF := Lib.hid (fun w => format_any j w hj5)
        have hst : stepL m L (j : Int) = joinT (joinT [digT (j : Int)] (selL m (L - 2 ^ j))) (selL m (L - 2 ^ j)) := by unfold stepL; rw [Int.toNat_natCast]
        have hbl : (selL m (L - 2 ^ j)).length ≤ 12 := by rw [selL_len m hl32 hpc]; exact cntS_le3 (by omega)
        have hbs : ∀ u ∈ selL m (L - 2 ^ j), u.size ≤ 31 := fun u hu => by
          rw [(selL_sel m hl32 hpc u hu).1]
          have : 2 ^ (m + 1) ≤ 2 ^ 4 := Nat.pow_le_pow_right (by decide) (by omega)
          unfold lenT; omega
        rw [hst] at Hn
        generalize selL m (L - 2 ^ j) = B at *
        have hfl : (joinT [digT (j : Int)] B).length ≤ 12 := by rw [joinT_len]; simpa using hbl
        have hfs : ∀ u ∈ joinT [digT (j : Int)] B, u.size ≤ 32 := fun u hu => by
          obtain ⟨s, hs, t, ht, rfl⟩ := joinT_mem hu
          have : s = digT (j : Int) := by simpa using hs
          rw [this, ByteArray.size_append, digT_size]
          have := hbs t ht; omega
        have getM : ∀ (l : List ByteArray) (c : Nat), (∀ u ∈ l, u.size ≤ c) → ∀ i, i < l.length → (l.getD i ByteArray.empty).size ≤ c := fun l c h i hi => by
          rw [List.getD_eq_getElem?_getD, List.getElem?_eq_getElem hi]; exact h _ (List.getElem_mem hi)
        have hds : ∀ u ∈ [digT (j : Int)], u.size ≤ 1000 := fun u hu => by
          have e : u = digT (j : Int) := by simpa using hu
          rw [e, digT_size]; omega
        have HJ1 := Lib.hid (fun (u v : Value) (w : World) (hu : RdS w u [digT (j : Int)]) (hv : RdS w v B) => joinedTexts_any u v [digT (j : Int)] B w hu hv (by simp) (by omega) (by simp; omega) (getM _ 1000 hds) (getM _ 1000 (fun u hu => by have := hbs u hu; omega)))
        have HJ2 := Lib.hid (fun (u v : Value) (w : World) (hu : RdS w u (joinT [digT (j : Int)] B)) (hv : RdS w v B) => joinedTexts_any u v (joinT [digT (j : Int)] B) B w hu hv (by omega) (by omega) (by have := Nat.mul_le_mul hfl hbl; omega) (getM _ 1000 (fun u hu => by have := hfs u hu; omega)) (getM _ 1000 (fun u hu => by have := hbs u hu; omega)))
        have HJl : Hid ((joinT (joinT [digT (j : Int)] B) B).length ≤ 144) := by unfold Hid; rw [joinT_len]; exact Nat.mul_le_mul hfl hbl
        have HTkk := Lib.hid (HTk.out k)
        generalize (xs.take k).flatMap (stepL m L) = J at *
        have hi1 : (k : Int) < (M : Int) := by omega
        have hi0' : (0 : Int) ≤ (k : Int) := by omega
        have hj0 : (0 : Int) ≤ (j : Int) := by omega
        have HO := Lib.hid oo
        have hs1 := hL.size
        have hsd : strZ [48 + (j : Int)] = digT (j : Int) := rfl
        rw [hsd] at HF
        generalize joinT [digT (j : Int)] B = Fs at *
        generalize joinT Fs B = Rs at *
        generalize (digT (j : Int)) = dj at *
        have e1 := hj
        clear hcv hget hj hd hout hst hbl hbs hfl hfs getM hds hsd e1 hl32 hpc oo ev2 ev3
        go_wp2_with fail
        refine (HC.out _).mono ?_
        rintro e w2 ⟨qb, rfl, hqb, hb2⟩
        have hz2 := hb2.size
        have hB2 := hqb.rd
        go_wp2_with (go_at_call 34; (with_reducible refine (HF.out _).mono ?_); rintro e w3 ⟨rfl, rfl⟩)
        have hA2 : Below w2.heap.size w2 (w2.alloc (.cells #[.string dj] 9)) := (Below.refl _ _).alloc (Nat.le_refl _) _
        refine (HJ1.out _ _ _ (oneS w2 dj).rd (hB2.keep hA2)).mono ?_
        rintro e w3 ⟨qf, rfl, hqf, hb3⟩
        have hx3 := chain (B := w2.heap.size) (a := w2) hA2 (Nat.le_refl _) hb3
        have hB3 := hB2.keep hx3
        have hF3 := hqf.rd
        clear hqf hb3 hqb
        go_wp2_with fail
        refine (HJ2.out _ _ _ hF3 hB3).mono ?_
        rintro e w4 ⟨qr, rfl, hqr, hb4⟩
        have hx4 := chain (B := w2.heap.size) (a := w2) hx3 (Nat.le_refl _) hb4
        have hy4 := chain (B := wr.heap.size) (a := wr) hb2 (Nat.le_refl _) hx4
        have hL4 := hL.trans (hy4.mono hs1)
        have HO4 := HO.out.keep hy4
        have hz4 := hL4.size
        obtain ⟨v5, w5, hr5, hown5, hgr5, _⟩ := run_append_two (P := Tryd.prog) (w := w4) w1.heap.size _ 33 33 9 i0 _ 1 16 Tryd.underlying33 hi0 hz0 hz1 hz2'' (by rfl) (by decide) _ _ _ _ _ _ HO4 hqr (by intro x hx; obtain ⟨y, _, rfl⟩ := List.mem_map.1 hx; rfl) (by have := HTkk.out; have := HJl.out; unfold maxLen; omega) (by have := HTkk.out; have := HJl.out; omega) (by omega)
        have hL5 := hL4.grown ⟨hgr5.os, hgr5.tape, hgr5.output, hgr5.size, hgr5.block⟩ (by omega) HO4.from
        have HO5 : Hid (OwnsS w5 w1.heap.size v5 (J ++ Rs)) := by
          unfold Hid OwnsS
          rw [List.length_append, List.map_append]
          exact hown5
        clear hown5 hgr5 hqr hb4 HO4 hB2 hB3 hF3 hx3 hx4 hy4
        go_wp2_with (at_builtin; refine Lib.wpList_append_run _ rfl _ _ _ _ rfl _ _ rfl rfl _ _ hr5 ?_)
        exact ⟨⟨k + 1, by omega, by go_num, hL5, by rw [Hn.out]; exact HO5.out⟩, by simp [intOf]; omega⟩
      · have e : k = M := by omega
        rw [e, HAll.out] at oo
        have hin : ¬ (k : Int) < (M : Int) := by omega
        clear e
        go_wp2_with fail
        go_ret
        exact ⟨_, rfl, oo.monoB hz1', hL1.trans (hL.mono hz1')⟩

end Go.Proofs.YtkojdaafgbfioaaDoor
