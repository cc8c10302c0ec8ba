/- Sums of polynomials in memory, and 1 less a polynomial. -/
import Derived.Test.YtibfenkaoaclfaaPolT
import Derived.Laws.CopyOwn
namespace Go.Proofs.Ytibfenkaoaclfaa
open Go.RowKit
set_option linter.unusedVariables false

theorem size64 : (Try.prog.info? 2).map (fun i => i.size) = some 1 := by kernel_rfl
theorem rowWhole {w : World} {base g N : Nat} {e : TypeId} {xs : List Value} (h : w.ownsRow base e 1 (.slice (some ⟨g, 0, none⟩) N N) N xs) : w.heap[g]? = some (.cells xs.toArray e (0, 0)) ∧ base ≤ g ∧ xs.length = N ∧ N ≤ maxLen := by
  have hl : xs.length = N := by simpa using h.1
  rcases h.2 with ⟨h0, _⟩ | ⟨g2, cap, cur, hv, hb, hg, h1, h2, h3, h4⟩
  · cases h0
  · simp only [Value.slice.injEq, Option.some.injEq, Addr.mk.injEq, and_true, true_and] at hv
    obtain ⟨rfl, rfl⟩ := hv
    have e1 : cur.toList = xs := by
      rw [← h4, Nat.mul_one, List.take_of_length_le (by simp; omega)]
    refine ⟨?_, hb, hl, h2⟩
    rw [hg, ← e1]
theorem rowOf {w : World} {base g N : Nat} {e : TypeId} {xs : List Value} (hg : w.heap[g]? = some (.cells xs.toArray e (0, 0))) (hb : base ≤ g) (hl : xs.length = N) (hm : N ≤ maxLen) : w.ownsRow base e 1 (.slice (some ⟨g, 0, none⟩) N N) N xs :=
  ⟨by omega, .inr ⟨g, N, xs.toArray, rfl, hb, hg, Nat.le_refl _, hm, by simpa using hl, by rw [Nat.mul_one]; exact List.take_of_length_le (by simp; omega)⟩⟩

/-- the first j members of the second one added -/
def addTo (F G : Nat → Int) (j : Nat) : Nat → Int := fun k => if k < j then F k + G k else F k
theorem addTo_step (F G : Nat → Int) (j : Nat) : (fun k => if k = j then F j + G j else addTo F G j k) = addTo F G (j + 1) := by
  funext k
  unfold addTo
  by_cases h : k = j
  · subst h; rw [if_pos rfl, if_pos (by omega)]
  · rw [if_neg h]
    by_cases h2 : k < j
    · rw [if_pos h2, if_pos (by omega)]
    · rw [if_neg h2, if_neg (by omega)]
theorem addTo_at (F G : Nat → Int) (j : Nat) : addTo F G j j = F j := by unfold addTo; rw [if_neg (by omega)]
theorem addTo_all (f g : List Int) (M : Nat) (hM : max f.length g.length = M) : listF M (addTo (cf f) (cf g) g.length) = plusL f g := by
  unfold plusL
  rw [hM]
  refine listF_congr fun k hk => ?_
  unfold addTo
  by_cases h : k < g.length
  · rw [if_pos h]
  · rw [if_neg h, cf_beyond g k (by omega)]; omega
theorem splice_copy (f : List Int) (M : Nat) (h : f.length ≤ M) : splice ((List.replicate M (0 : Int)).map (Value.int .i64)) 0 ((W f).map (Value.int .i64)) = (W (listF M (cf f))).map (Value.int .i64) := by
  unfold splice
  rw [List.take_zero, List.nil_append, Nat.zero_add, List.length_map, W_len, ← List.map_drop, ← List.map_append]
  congr 1
  apply List.ext_getElem
  · simp [W_len, listF_len]; omega
  · intro i h1 h2
    rw [W_len, listF_len] at h2
    rw [List.getElem_append]
    by_cases e : i < f.length
    · rw [dif_pos (by rw [W_len]; exact e)]
      simp [W, listF, cf, List.getD_eq_getElem?_getD, e]
    · rw [dif_neg (by rw [W_len]; exact e)]
      simp [W, listF, cf, List.getD_eq_getElem?_getD, List.getElem?_eq_none (by omega : f.length ≤ i)]
      unfold wrap64; rfl

set_option maxRecDepth 100000 in
set_option maxHeartbeats 2000000 in
theorem plus_any (va vb : Value) (f g : List Int) (w : World) (ha : Reads w va (W f)) (hb : Reads w vb (W g)) (hf : 1 ≤ f.length) (hf2 : f.length ≤ 10000) (hg : 1 ≤ g.length) (hg2 : g.length ≤ 10000) :
    Calls Try.prog 44 #[va, vb] w fun e w' => ∃ u, e = .returned u ∧ Owns w' w.heap.size u (W (plusL f g)) ∧ Below w.heap.size w w' := by
  obtain ⟨i0, hi, hz0, hz1, hz2⟩ := info_parts info64
  obtain ⟨aa, ca, rfl, _, ha'⟩ := ha
  obtain ⟨ab, cb, rfl, _, hb'⟩ := hb
  obtain ⟨ba, oa, rfl, ha0⟩ : ∃ b off, aa = some ⟨b, off, none⟩ ∧ ∀ i, i < f.length → w.cell? ⟨b, off + i, none⟩ = some (.int .i64 (wrap64 (cf f i))) := by
    rcases ha' with h | ⟨b, off, e, h⟩
    · have := W_len f; rw [h] at this; simp at this; omega
    · exact ⟨b, off, e, fun i hi => by rw [h i (by rw [W_len]; exact hi), W_get f i hi]⟩
  obtain ⟨bb, ob, rfl, hb0⟩ : ∃ b off, ab = some ⟨b, off, none⟩ ∧ ∀ i, i < g.length → w.cell? ⟨b, off + i, none⟩ = some (.int .i64 (wrap64 (cf g i))) := by
    rcases hb' with h | ⟨b, off, e, h⟩
    · have := W_len g; rw [h] at this; simp at this; omega
    · exact ⟨b, off, e, fun i hi => by rw [h i (by rw [W_len]; exact hi), W_get g i hi]⟩
  rw [W_len, W_len]
  have Hb := Lib.hid hb0
  obtain ⟨M, hM⟩ : ∃ M, max f.length g.length = M := ⟨_, rfl⟩
  have HT := Lib.hid (addTo_all f g M hM)
  have HSp := Lib.hid (splice_copy f M (by omega))
  obtain ⟨cs, hcs⟩ : ∃ cs, (W f).map (Value.int .i64) = cs := ⟨_, rfl⟩
  have HCl : Hid (cs.length = f.length) := by rw [Hid, ← hcs, List.length_map, W_len]
  have HC1 : Hid (∀ v ∈ cs, v.oneCell' = true) := by
    rw [← hcs]; intro v hv
    obtain ⟨x, _, rfl⟩ := List.mem_map.1 hv
    rfl
  have HCc : Hid (∀ j v, cs[j]? = some v → w.cell? ⟨ba, oa + j, none⟩ = some v) := by
    rw [← hcs]; intro j v hv
    have hj : j < f.length := by
      rcases Nat.lt_or_ge j f.length with h | h
      · exact h
      · rw [List.getElem?_eq_none (by simp [W_len]; omega)] at hv; cases hv
    rw [ha0 j hj]
    rw [List.getElem?_map, List.getElem?_eq_getElem (by rw [W_len]; exact hj)] at hv
    simp only [Option.map_some, Option.some.injEq] at hv
    rw [← hv]
    have := W_get f j hj
    rw [List.getD_eq_getElem?_getD, List.getElem?_eq_getElem (by rw [W_len]; exact hj)] at this
    rw [← this]; rfl
  rw [hcs] at HSp
  clear ha' hb' ha0 hb0 hcs
  generalize cf f = F at *
  generalize cf g = G at *
  generalize plusL f g = T at *
  generalize f.length = n at *
  generalize g.length = m at *
  have hM1 : M ≤ 10000 := by omega
  have HM : Hid (n ≤ M ∧ m ≤ M) := by unfold Hid; omega
  have HMM := Lib.hid hM
  clear hM
  by_cases hnm : n < m
  · have hMm : M = m := by have := HMM.out; omega
    have hnm1 : (n : Int) < (m : Int) := by omega
    subst hMm
    have HMin : Hid (cs.length = Nat.min n M) := by rw [Hid, HCl.out]; exact (Nat.min_eq_left (by omega)).symm
    clear HMM
    go_enter Try.func44, Try.ntmps44
    go_wp2_with (first | (at_make; refine wpList_make_full _ rfl _ _ 57 rfl w.heap.size 2 i0 (.int .i64 0) 1 Try.underlying57 hi hz0 hz1 .i64 .i64 (M : Int) (M : Int) M rfl rfl rfl rfl (by rw [hz2]; omega) (by unfold maxLen; omega) (Nat.le_refl _) ?_; intro w1 oo hgr; rw [made_zero] at oo; have HW := Lib.hid (rowWhole oo); have hL1 := Below.grown (Below.refl _ w) hgr (Nat.le_refl _) (by simp); clear oo hgr) | ((with_reducible show wpList _ _ _ _ _ _); refine wpList_copy_splice (o := ⟨some 16, _, _, _, _, _⟩) rfl (.tmp 14) (.tmp 15) 57 57 rfl 2 Try.underlying57 size64 (some ⟨w.heap.size, 0, none⟩) (some ⟨ba, oa, none⟩) M M n ca rfl rfl w.heap.size 0 ((List.replicate M (0 : Int)).map (Value.int .i64)) 2 HW.out.1 cs HMin.out (fun _ => ⟨rfl, _, rfl, fun j v hv => by rw [Addr.add_lit]; exact cell_later hL1 (HCc.out j v hv)⟩) (by rw [HCl.out, List.length_map, List.length_replicate]; omega) HC1.out w.heap.size w hL1 (Nat.le_refl _) ?_; intro w2 hg2 hb2; rw [HSp.out] at hg2))
    have oo' : w2.ownsRow w.heap.size 2 1 (.slice (some ⟨w.heap.size, 0, none⟩) M M) M ((W (listF M (addTo F G 0))).map (Value.int .i64)) := by
      refine rowOf (e := 2) ?_ (Nat.le_refl _) (by rw [List.length_map, W_len, listF_len]) (by unfold maxLen; omega)
      exact hg2.out
    clear hL1 HW hg2
    go_loopw [19] (fun c wr => ∃ j : Nat, j ≤ M ∧ c = .int .i64 (j : Int) ∧ Below w.heap.size w wr ∧ wr.ownsRow w.heap.size 2 1 (.slice (some ⟨w.heap.size, 0, none⟩) M M) M ((W (listF M (addTo F G j))).map (Value.int .i64)))
      (fun c _ => M - (intOf c).toNat)
    case atStart => exact ⟨0, Nat.zero_le _, rfl, hb2, oo'⟩
    case round =>
      clear hb2 oo'
      obtain ⟨j, hj, rfl, hL, hO⟩ := hrel
      by_cases hlj : j < M
      · have hcb := cell_later hL (Hb.out j hlj)
        have hjM : j < M := by omega
        have hcp := rowCellW hO j hjM
        rw [addTo_at] at hcp
        have hfr := hO.frozenAt j
        have hj1 : (j : Int) < (M : Int) := by omega
        have hj2 : (j : Int) < (M : Int) := by omega
        have hj0 : (0 : Int) ≤ (j : Int) := by omega
        have HS := Lib.hid (hO.stored j (.int .i64 (wrap64 (F j + G j))))
        have HSet := Lib.hid ((setW M (addTo F G j) j (F j + G j) hjM).trans (by rw [addTo_step]))
        have HV : Hid (wrap64 (wrap64 (F j) + wrap64 (G j)) = wrap64 (F j + G j)) := by unfold Hid; rw [wrap_wrap_add, wrap_add_wrap]
        generalize F j = p at *
        generalize G j = y at *
        clear hO
        go_wp2_with fail
        rw [HV.out]
        exact ⟨⟨j + 1, by omega, by go_num, hL.setCell (Nat.le_refl _) _, by rw [← HSet.out]; exact HS.out.1⟩, by simp [intOf]; omega⟩
      · have e : j = M := by omega
        have HTl : Hid ((W T).length = M) := by rw [Hid, W_len, ← HT.out, listF_len]
        subst e
        go_wp2_with fail
        go_ret
        refine ⟨_, rfl, ?_, hL⟩
        rw [HT.out] at hO
        unfold Owns
        rw [HTl.out]; exact hO
  · have hMm : M = n := by have := HMM.out; omega
    have hnm1 : (m : Int) ≤ (n : Int) := by omega
    have hnm2 : ¬ (n : Int) < (m : Int) := by omega
    subst hMm
    have HMin : Hid (cs.length = Nat.min M M) := by rw [Hid, HCl.out]; exact (Nat.min_eq_left (by omega)).symm
    clear HMM
    go_enter Try.func44, Try.ntmps44
    go_wp2_with (first | (at_make; refine wpList_make_full _ rfl _ _ 57 rfl w.heap.size 2 i0 (.int .i64 0) 1 Try.underlying57 hi hz0 hz1 .i64 .i64 (M : Int) (M : Int) M rfl rfl rfl rfl (by rw [hz2]; omega) (by unfold maxLen; omega) (Nat.le_refl _) ?_; intro w1 oo hgr; rw [made_zero] at oo; have HW := Lib.hid (rowWhole oo); have hL1 := Below.grown (Below.refl _ w) hgr (Nat.le_refl _) (by simp); clear oo hgr) | ((with_reducible show wpList _ _ _ _ _ _); refine wpList_copy_splice (o := ⟨some 16, _, _, _, _, _⟩) rfl (.tmp 14) (.tmp 15) 57 57 rfl 2 Try.underlying57 size64 (some ⟨w.heap.size, 0, none⟩) (some ⟨ba, oa, none⟩) M M M ca rfl rfl w.heap.size 0 ((List.replicate M (0 : Int)).map (Value.int .i64)) 2 HW.out.1 cs HMin.out (fun _ => ⟨rfl, _, rfl, fun j v hv => by rw [Addr.add_lit]; exact cell_later hL1 (HCc.out j v hv)⟩) (by rw [HCl.out, List.length_map, List.length_replicate]; omega) HC1.out w.heap.size w hL1 (Nat.le_refl _) ?_; intro w2 hg2 hb2; rw [HSp.out] at hg2))
    have oo' : w2.ownsRow w.heap.size 2 1 (.slice (some ⟨w.heap.size, 0, none⟩) M M) M ((W (listF M (addTo F G 0))).map (Value.int .i64)) := by
      refine rowOf (e := 2) ?_ (Nat.le_refl _) (by rw [List.length_map, W_len, listF_len]) (by unfold maxLen; omega)
      exact hg2.out
    clear hL1 HW hg2
    go_loopw [19] (fun c wr => ∃ j : Nat, j ≤ m ∧ c = .int .i64 (j : Int) ∧ Below w.heap.size w wr ∧ wr.ownsRow w.heap.size 2 1 (.slice (some ⟨w.heap.size, 0, none⟩) M M) M ((W (listF M (addTo F G j))).map (Value.int .i64)))
      (fun c _ => m - (intOf c).toNat)
    case atStart => exact ⟨0, Nat.zero_le _, rfl, hb2, oo'⟩
    case round =>
      clear hb2 oo'
      obtain ⟨j, hj, rfl, hL, hO⟩ := hrel
      by_cases hlj : j < m
      · have hcb := cell_later hL (Hb.out j hlj)
        have hjM : j < M := by omega
        have hcp := rowCellW hO j hjM
        rw [addTo_at] at hcp
        have hfr := hO.frozenAt j
        have hj1 : (j : Int) < (m : Int) := by omega
        have hj2 : (j : Int) < (M : Int) := by omega
        have hj0 : (0 : Int) ≤ (j : Int) := by omega
        have HS := Lib.hid (hO.stored j (.int .i64 (wrap64 (F j + G j))))
        have HSet := Lib.hid ((setW M (addTo F G j) j (F j + G j) hjM).trans (by rw [addTo_step]))
        have HV : Hid (wrap64 (wrap64 (F j) + wrap64 (G j)) = wrap64 (F j + G j)) := by unfold Hid; rw [wrap_wrap_add, wrap_add_wrap]
        generalize F j = p at *
        generalize G j = y at *
        clear hO
        go_wp2_with fail
        rw [HV.out]
        exact ⟨⟨j + 1, by omega, by go_num, hL.setCell (Nat.le_refl _) _, by rw [← HSet.out]; exact HS.out.1⟩, by simp [intOf]; omega⟩
      · have e : j = m := by omega
        have HTl : Hid ((W T).length = M) := by rw [Hid, W_len, ← HT.out, listF_len]
        subst e
        go_wp2_with fail
        go_ret
        refine ⟨_, rfl, ?_, hL⟩
        rw [HT.out] at hO
        unfold Owns
        rw [HTl.out]; exact hO

end Go.Proofs.Ytibfenkaoaclfaa
