/- Polynomials in memory: sums, products, powers: the program's and the model's. -/
import Derived.Test.YtibfenkaoaclfaaCopy
import Derived.Test.YtibfenkaoaclfaaPolA
import Derived.Test.YtibfenkaoaclfaaIn
import Derived.StillTailTactics
namespace Go.Proofs.Ytibfenkaoaclfaa
open Go.RowKit
set_option linter.unusedVariables false

theorem rowCellW {w : World} {base g N : Nat} {P : Nat → Int} (h : w.ownsRow base 2 1 (.slice (some ⟨g, 0, none⟩) N N) N ((W (listF N P)).map (Value.int .i64))) (k : Nat) (hk : k < N) : w.cell? ⟨g, k, none⟩ = some (.int .i64 (wrap64 (P k))) := by
  rw [h.cellAt k (by omega)]
  simp [W, listF, hk]
theorem setW (N : Nat) (P : Nat → Int) (k : Nat) (v : Int) (hk : k < N) : ((W (listF N P)).map (Value.int .i64)).set k (.int .i64 (wrap64 v)) = (W (listF N (fun i => if i = k then v else P i))).map (Value.int .i64) := by
  rw [← List.map_set]
  unfold W
  rw [← List.map_set, listF_set N P k v hk]
theorem stepW (p a b : Int) : wrap64 (wrap64 p + wrap64 (wrap64 a * wrap64 b)) = wrap64 (p + a * b) := by
  rw [wrap_wrap_add, wrap_add_wrap]
  exact wrap_congr_add rfl (by rw [wrap_mul_left, wrap_mul_right])
theorem W_get (xs : List Int) (i : Nat) (h : i < xs.length) : (W xs).getD i 0 = wrap64 (cf xs i) := by
  rw [← cf_W]; rfl
theorem listF_zero (N : Nat) : (W (listF N (fun _ => 0))).map (Value.int .i64) = (List.replicate N (0 : Int)).map (Value.int .i64) := by
  congr 1
  unfold W listF
  apply List.ext_getElem
  · simp
  · intro i h1 h2
    simp
    unfold wrap64; rfl
theorem partF_succ_list (N : Nat) (f g : Nat → Int) (i j : Nat) : listF N (fun k => if k = i + j then partF f g i j (i + j) + f i * g j else partF f g i j k) = listF N (partF f g i (j + 1)) := by
  rw [partF_step]

set_option maxRecDepth 100000 in
set_option maxHeartbeats 2000000 in
theorem times_any (va vb : Value) (f g : List Int) (w : World) (ha : Reads w va (W f)) (hb : Reads w vb (W g)) (hf : 1 ≤ f.length) (hf2 : f.length ≤ 10000) (hg : 1 ≤ g.length) (hg2 : g.length ≤ 10000) :
    Calls Try.prog 43 #[va, vb] w fun e w' => ∃ u, e = .returned u ∧ Owns w' w.heap.size u (W (timesL f g)) ∧ Below w.heap.size w w' := by
  obtain ⟨i0, hi, hz0, hz1, hz2⟩ := info_parts info64
  obtain ⟨aa, ca, rfl, _, ha'⟩ := ha
  obtain ⟨ab, cb, rfl, _, hb'⟩ := hb
  obtain ⟨ba, oa, rfl, ha0⟩ : ∃ b off, aa = some ⟨b, off, none⟩ ∧ ∀ i, i < f.length → w.cell? ⟨b, off + i, none⟩ = some (.int .i64 (wrap64 (cf f i))) := by
    rcases ha' with h | ⟨b, off, e, h⟩
    · have := W_len f; rw [h] at this; simp at this; omega
    · exact ⟨b, off, e, fun i hi => by rw [h i (by rw [W_len]; exact hi), W_get f i hi]⟩
  obtain ⟨bb, ob, rfl, hb0⟩ : ∃ b off, ab = some ⟨b, off, none⟩ ∧ ∀ i, i < g.length → w.cell? ⟨b, off + i, none⟩ = some (.int .i64 (wrap64 (cf g i))) := by
    rcases hb' with h | ⟨b, off, e, h⟩
    · have := W_len g; rw [h] at this; simp at this; omega
    · exact ⟨b, off, e, fun i hi => by rw [h i (by rw [W_len]; exact hi), W_get g i hi]⟩
  rw [W_len, W_len]
  have Ha := Lib.hid ha0
  have Hb := Lib.hid hb0
  have HF : Hid (∀ j, f.length ≤ j → cf f j = 0) := fun j hj => cf_beyond f j hj
  have HG : Hid (∀ j, g.length ≤ j → cf g j = 0) := fun j hj => cf_beyond g j hj
  have HT : Hid (timesL f g = listF (f.length + g.length - 1) (rowsF (cf f) (cf g) f.length)) := by
    unfold Hid timesL
    exact listF_congr fun k _ => (rowsF_all _ _ _ _ fun j hj => cf_beyond f j hj).symm
  clear ha' hb' ha0 hb0
  generalize cf f = F at *
  generalize cf g = G at *
  generalize timesL f g = T at *
  generalize f.length = n at *
  generalize g.length = m at *
  obtain ⟨N, hN⟩ : ∃ N, n + m - 1 = N := ⟨_, rfl⟩
  have hNe : (n : Int) + (m : Int) - 1 = (N : Int) := by omega
  have HN := Lib.hid hN
  rw [hN] at HT
  have hN1 : N ≤ 20000 := by omega
  clear hN
  go_enter Try.func43, Try.ntmps43
  go_wp2_with (at_make; refine wpList_make_full _ rfl _ _ 57 rfl w.heap.size 2 i0 (.int .i64 0) 1 Try.underlying57 hi hz0 hz1 .i64 .i64 (N : Int) (N : Int) N rfl rfl rfl rfl (by rw [hz2]; omega) (by unfold maxLen; omega) (Nat.le_refl _) ?_; intro w1 oo hgr)
  have hL1 : Below w.heap.size w w1 := Below.grown (Below.refl _ w) hgr (Nat.le_refl _) (by simp)
  have oo' : w1.ownsRow w.heap.size 2 1 (.slice (some ⟨w.heap.size, 0, none⟩) N N) N ((W (listF N (rowsF F G 0))).map (Value.int .i64)) := by
    rw [made_zero, ← listF_zero] at oo; exact oo
  clear oo hgr hi hz0 hz1 hz2 hNe
  go_loopw [19] (fun c wr => ∃ i : Nat, i ≤ n ∧ c = .int .i64 (i : Int) ∧ Below w.heap.size w wr ∧ wr.ownsRow w.heap.size 2 1 (.slice (some ⟨w.heap.size, 0, none⟩) N N) N ((W (listF N (rowsF F G i))).map (Value.int .i64)))
    (fun c _ => n - (intOf c).toNat)
  case atStart => exact ⟨0, Nat.zero_le _, rfl, hL1, oo'⟩
  case round =>
    clear hL1 oo'
    obtain ⟨i, hi, rfl, hL, hO⟩ := hrel
    by_cases hlt : i < n
    · have hca := cell_later hL (Ha.out i hlt)
      have hi1 : (i : Int) < (n : Int) := by omega
      have hi0 : (0 : Int) ≤ (i : Int) := by omega
      rw [← partF_start] at hO
      have hLo := hL
      have hOo := hO
      clear hL hO
      generalize hx : F i = x at hca
      have HX := Lib.hid hx
      clear hx
      obtain ⟨wo, hwo⟩ : ∃ wo : World, wo = wr := ⟨_, rfl⟩
      subst hwo
      go_wp2_with fail
      go_loopw [26] (fun c wr => ∃ j : Nat, j ≤ m ∧ c = .int .i64 (j : Int) ∧ Below w.heap.size w wr ∧ wr.ownsRow w.heap.size 2 1 (.slice (some ⟨w.heap.size, 0, none⟩) N N) N ((W (listF N (partF F G i j))).map (Value.int .i64)))
        (fun c _ => m - (intOf c).toNat)
      case atStart => exact ⟨0, Nat.zero_le _, rfl, hLo, hOo⟩
      case round =>
        clear hLo hOo hca
        obtain ⟨j, hj, rfl, hL, hO⟩ := hrel
        by_cases hlj : j < m
        · have hcb := cell_later hL (Hb.out j hlj)
          have hij : i + j < N := by have := HN.out; omega
          have hcp := rowCellW hO (i + j) hij
          have hfr := hO.frozenAt (i + j)
          have hj1 : (j : Int) < (m : Int) := by omega
          have hj0 : (0 : Int) ≤ (j : Int) := by omega
          have hij1 : (i : Int) + (j : Int) < (N : Int) := by omega
          have hij0 : ((i : Int) + (j : Int)).toNat = i + j := by omega
          have HS := Lib.hid (hO.stored (i + j) (.int .i64 (wrap64 (partF F G i j (i + j) + F i * G j))))
          have HSet := Lib.hid ((setW N (partF F G i j) (i + j) (partF F G i j (i + j) + F i * G j) hij).trans (by rw [partF_succ_list]))
          have HV := Lib.hid (stepW (partF F G i j (i + j)) (F i) (G j))
          rw [HX.out] at HV HS HSet
          generalize partF F G i j (i + j) = p at *
          generalize G j = y at *
          clear hO
          go_wp2_with fail
          rw [HV.out]
          exact ⟨⟨j + 1, by omega, by go_num, hL.setCell (Nat.le_refl _) _, by rw [← HSet.out]; exact HS.out.1⟩, by simp [intOf]; omega⟩
        · have e : j = m := by omega
          subst e
          rw [partF_all F G i j HG.out] at hO
          go_wp2_with fail
          exact ⟨⟨i + 1, by omega, by go_num, hL, hO⟩, by simp [intOf]; omega⟩
    · have e : i = n := by omega
      subst e
      go_wp2_with fail
      go_ret
      refine ⟨_, rfl, ?_, hL⟩
      rw [← HT.out] at hO
      unfold Owns
      rw [W_len, HT.out, listF_len]
      rw [HT.out] at hO
      exact hO

set_option maxRecDepth 100000 in
set_option maxHeartbeats 2000000 in
theorem l05Times_any (va vb : Value) (f g : List Int) (w : World) (ha : Reads w va (W f)) (hb : Reads w vb (W g)) (hf : 1 ≤ f.length) (hf2 : f.length ≤ 10000) (hg : 1 ≤ g.length) (hg2 : g.length ≤ 10000) :
    Calls Try.prog 41 #[va, vb] w fun e w' => ∃ u, e = .returned u ∧ Owns w' w.heap.size u (W (timesL f g)) ∧ Below w.heap.size w w' := by
  obtain ⟨i0, hi, hz0, hz1, hz2⟩ := info_parts info64
  obtain ⟨aa, ca, rfl, _, ha'⟩ := ha
  obtain ⟨ab, cb, rfl, _, hb'⟩ := hb
  obtain ⟨ba, oa, rfl, ha0⟩ : ∃ b off, aa = some ⟨b, off, none⟩ ∧ ∀ i, i < f.length → w.cell? ⟨b, off + i, none⟩ = some (.int .i64 (wrap64 (cf f i))) := by
    rcases ha' with h | ⟨b, off, e, h⟩
    · have := W_len f; rw [h] at this; simp at this; omega
    · exact ⟨b, off, e, fun i hi => by rw [h i (by rw [W_len]; exact hi), W_get f i hi]⟩
  obtain ⟨bb, ob, rfl, hb0⟩ : ∃ b off, ab = some ⟨b, off, none⟩ ∧ ∀ i, i < g.length → w.cell? ⟨b, off + i, none⟩ = some (.int .i64 (wrap64 (cf g i))) := by
    rcases hb' with h | ⟨b, off, e, h⟩
    · have := W_len g; rw [h] at this; simp at this; omega
    · exact ⟨b, off, e, fun i hi => by rw [h i (by rw [W_len]; exact hi), W_get g i hi]⟩
  rw [W_len, W_len]
  have Ha := Lib.hid ha0
  have Hb := Lib.hid hb0
  have HF : Hid (∀ j, f.length ≤ j → cf f j = 0) := fun j hj => cf_beyond f j hj
  have HG : Hid (∀ j, g.length ≤ j → cf g j = 0) := fun j hj => cf_beyond g j hj
  have HT : Hid (timesL f g = listF (f.length + g.length - 1) (rowsF (cf f) (cf g) f.length)) := by
    unfold Hid timesL
    exact listF_congr fun k _ => (rowsF_all _ _ _ _ fun j hj => cf_beyond f j hj).symm
  clear ha' hb' ha0 hb0
  generalize cf f = F at *
  generalize cf g = G at *
  generalize timesL f g = T at *
  generalize f.length = n at *
  generalize g.length = m at *
  obtain ⟨N, hN⟩ : ∃ N, n + m - 1 = N := ⟨_, rfl⟩
  have hNe : (n : Int) + (m : Int) - 1 = (N : Int) := by omega
  have HN := Lib.hid hN
  rw [hN] at HT
  have hN1 : N ≤ 20000 := by omega
  clear hN
  go_enter Try.func41, Try.ntmps41
  go_wp2_with (at_make; refine wpList_make_full _ rfl _ _ 22 rfl w.heap.size 2 i0 (.int .i64 0) 1 Try.underlying22 hi hz0 hz1 .i64 .i64 (N : Int) (N : Int) N rfl rfl rfl rfl (by rw [hz2]; omega) (by unfold maxLen; omega) (Nat.le_refl _) ?_; intro w1 oo hgr)
  have hL1 : Below w.heap.size w w1 := Below.grown (Below.refl _ w) hgr (Nat.le_refl _) (by simp)
  have oo' : w1.ownsRow w.heap.size 2 1 (.slice (some ⟨w.heap.size, 0, none⟩) N N) N ((W (listF N (rowsF F G 0))).map (Value.int .i64)) := by
    rw [made_zero, ← listF_zero] at oo; exact oo
  clear oo hgr hi hz0 hz1 hz2 hNe
  go_loopw [6] (fun c wr => ∃ i : Nat, i ≤ n ∧ c = .int .i64 (i : Int) ∧ Below w.heap.size w wr ∧ wr.ownsRow w.heap.size 2 1 (.slice (some ⟨w.heap.size, 0, none⟩) N N) N ((W (listF N (rowsF F G i))).map (Value.int .i64)))
    (fun c _ => n - (intOf c).toNat)
  case atStart => exact ⟨0, Nat.zero_le _, rfl, hL1, oo'⟩
  case round =>
    clear hL1 oo'
    obtain ⟨i, hi, rfl, hL, hO⟩ := hrel
    by_cases hlt : i < n
    · have hca := cell_later hL (Ha.out i hlt)
      have hi1 : (i : Int) < (n : Int) := by omega
      have hi0 : (0 : Int) ≤ (i : Int) := by omega
      rw [← partF_start] at hO
      have hLo := hL
      have hOo := hO
      clear hL hO
      generalize hx : F i = x at hca
      have HX := Lib.hid hx
      clear hx
      obtain ⟨wo, hwo⟩ : ∃ wo : World, wo = wr := ⟨_, rfl⟩
      subst hwo
      go_wp2_with fail
      go_loopw [7] (fun c wr => ∃ j : Nat, j ≤ m ∧ c = .int .i64 (j : Int) ∧ Below w.heap.size w wr ∧ wr.ownsRow w.heap.size 2 1 (.slice (some ⟨w.heap.size, 0, none⟩) N N) N ((W (listF N (partF F G i j))).map (Value.int .i64)))
        (fun c _ => m - (intOf c).toNat)
      case atStart => exact ⟨0, Nat.zero_le _, rfl, hLo, hOo⟩
      case round =>
        clear hLo hOo
        obtain ⟨j, hj, rfl, hL, hO⟩ := hrel
        by_cases hlj : j < m
        · have hcb := cell_later hL (Hb.out j hlj)
          have hca := cell_later hL (Ha.out i hlt)
          rw [HX.out] at hca
          have hwr : IntKind.i64.wrap ((i : Int) + (j : Int)) = (i : Int) + (j : Int) := IntWalk.i64_in _ (by omega)
          have hij2 : (0 : Int) ≤ (i : Int) + (j : Int) := by omega
          have hij : i + j < N := by have := HN.out; omega
          have hcp := rowCellW hO (i + j) hij
          have hfr := hO.frozenAt (i + j)
          have hj1 : (j : Int) < (m : Int) := by omega
          have hj0 : (0 : Int) ≤ (j : Int) := by omega
          have hij1 : (i : Int) + (j : Int) < (N : Int) := by omega
          have hij0 : ((i : Int) + (j : Int)).toNat = i + j := by omega
          have HS := Lib.hid ((World.ownsRow.drew hO).stored (i + j) (.int .i64 (wrap64 (partF F G i j (i + j) + F i * G j))))
          have HSet := Lib.hid ((setW N (partF F G i j) (i + j) (partF F G i j (i + j) + F i * G j) hij).trans (by rw [partF_succ_list]))
          have HV := Lib.hid (stepW (partF F G i j (i + j)) (F i) (G j))
          rw [HX.out] at HV HS HSet
          generalize partF F G i j (i + j) = p at *
          generalize G j = y at *
          clear hO
          go_wp2_with fail
          go_still_tail 17, (by kernel_rfl)
          change wpList _ _ _ _ _ wr.drew
          go_wp2_with fail
          rw [HV.out]
          exact ⟨⟨j + 1, by omega, by go_num, (show Below w.heap.size w wr.drew from Bdrew hL 1).setCell (Nat.le_refl _) _, by rw [← HSet.out]; exact HS.out.1⟩, by simp [intOf]; omega⟩
        · have e : j = m := by omega
          subst e
          rw [partF_all F G i j HG.out] at hO
          go_wp2_with fail
          exact ⟨⟨i + 1, by omega, by go_num, hL, hO⟩, by simp [intOf]; omega⟩
    · have e : i = n := by omega
      subst e
      go_wp2_with fail
      go_ret
      refine ⟨_, rfl, ?_, hL⟩
      rw [← HT.out] at hO
      unfold Owns
      rw [W_len, HT.out, listF_len]
      rw [HT.out] at hO
      exact hO

end Go.Proofs.Ytibfenkaoaclfaa
