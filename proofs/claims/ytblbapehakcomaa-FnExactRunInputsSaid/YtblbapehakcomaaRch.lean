/- reachedFrom: the program's. -/
import Derived.Test.YtblbapehakcomaaQ
namespace Go.Proofs.Ytblbapehakcomaa
open Go.RowKit
set_option linter.unusedVariables false

theorem OwnsQ.grown {w w' : World} {base : Nat} {v : Value} {i : Int} {ss : List Nat} {row : Option Nat} (h : OwnsQ w base v i ss) (hg : w.grownBy w' row) (hne : ∀ k, v.ownBlock = some k → row ≠ some k) : OwnsQ w' base v i ss :=
  rowSame h fun k _ e => hg.block k (World.ownsRow.lt h k e).2 (Ne.symm (hne k e))
theorem OwnsQ.alloc {w : World} {base : Nat} {v : Value} {i : Int} {ss : List Nat} (h : OwnsQ w base v i ss) (o : Obj) : OwnsQ (w.alloc o) base v i ss := h.keep ((Below.refl _ _).alloc (Nat.le_refl _) o)
theorem OwnsQ.drewU {w : World} {base : Nat} {v : Value} {i : Int} {ss : List Nat} (h : OwnsQ w base v i ss) : OwnsQ w.drew base v i ss := h
theorem ownsQOne (w : World) (i : Int) (s : Nat) (base : Nat) (hb : base ≤ w.heap.size) : OwnsQ (w.alloc (.cells #[.int .i64 i, .int .i64 (s : Int)] 68)) base (.slice (some ⟨w.heap.size, 0, none⟩) 1 1) i [s] :=
  ⟨by simp [cellsQ], .inr ⟨w.heap.size, 1, #[.int .i64 i, .int .i64 (s : Int)], rfl, hb, heap_alloc_new w _, Nat.le_refl _, by simp [maxLen], by simp, by simp [cellsQ]⟩⟩

set_option maxRecDepth 100000 in
set_option maxHeartbeats 4000000 in
theorem reachedFrom_any (p i : Int) (s : Nat) (v : Value) (xs : List Int) (w : World) (ha : Reads w v xs) (hc : cirB p xs = true) (hi : inB i p = true) (hs : s < 2 ^ xs.length) :
    Calls Try.prog 69 #[.agg #[.int .i64 p, v], .agg #[.int .i64 i, .int .i64 (s : Int)]] w fun e w' => ∃ u, e = .returned u ∧ OwnsQ w' w.heap.size u i (reach (stepsN p xs i) (2 ^ xs.length) s) ∧ Below w.heap.size w w' := by
  obtain ⟨i0, hi0, hz0, hz1, hz2⟩ := info_parts infoSit
  obtain ⟨⟨p1, p4⟩, ⟨n1, n4⟩, _, _⟩ := cirB_out hc
  have hs16 : s < 16 := Nat.lt_of_lt_of_le hs (Nat.pow_le_pow_right (by decide) n4)
  obtain ⟨M, hM⟩ : ∃ M, 2 ^ xs.length = M := ⟨_, rfl⟩
  have hM16 : M ≤ 16 := by rw [← hM]; exact Nat.pow_le_pow_right (by decide) n4
  have hib : (Lit.int .i64 i).wf = true := by
    have h1 := inB_out hi
    have h2 := rcZ_bd p1 (show p ≤ 5 by omega)
    exact wfSmall (by omega) (by omega)
  have HST := Lib.hid (fun (x : Nat) (hx : x < M) w' (h : Below w.heap.size w w') => singleSteps_any p i x v xs w' (ha.keep h) hc hi (by rw [hM]; exact hx))
  have HSLT : ∀ x, x < M → ∀ y ∈ stepsN p xs i x, y < M := fun x hx y hy => by rw [← hM]; exact stepsN_lt (by rw [hM]; exact hx) y hy
  rw [hM] at hs ⊢
  obtain ⟨st, hst⟩ : ∃ st, stepsN p xs i = st := ⟨_, rfl⟩
  rw [hst] at HST HSLT ⊢
  have HSL : Hid (∀ x, (st x).length ≤ 100) := fun x => by rw [← hst]; unfold stepsN; rw [List.length_map]; have := ch_len p i xs (x : Int); omega
  have HLT := Lib.hid (fun k => bfs_lt hs HSLT k)
  have HLEN := Lib.hid (fun k => bfs_len hs HSLT k)
  have HEND : Hid (∀ k, (bfs st s k).length ≤ k → k ≤ M → bfs st s k = reach st M s) := fun k h1 h2 => reach_end hs HSLT h1 h2
  have HB0 : Hid (bfs st s 0 = [s]) := rfl
  obtain ⟨a, ca, rfl, hm, ha'⟩ := ha
  have k0 : C2 ((w.alloc (.cells #[.int .i64 p, .slice a xs.length ca] 27)).alloc (.cells #[.int .i64 i, .int .i64 (s : Int)] 68)) (w.heap.size) (.int .i64 p) (.slice a xs.length ca) := by simpa using (C2.here w (.int .i64 p) (.slice a xs.length ca) 27).alloc (.cells #[.int .i64 i, .int .i64 (s : Int)] 68)
  have k1 : C2 ((w.alloc (.cells #[.int .i64 p, .slice a xs.length ca] 27)).alloc (.cells #[.int .i64 i, .int .i64 (s : Int)] 68)) (w.heap.size + 1) (.int .i64 i) (.int .i64 (s : Int)) := by simpa using C2.here (w.alloc (.cells #[.int .i64 p, .slice a xs.length ca] 27)) (.int .i64 i) (.int .i64 (s : Int)) 68
  clear ha' hc hi hs hM hst
  generalize xs.length = n at *
  obtain ⟨w1, hrun1, HM1, hg1⟩ := (MapS.made ((w.alloc (.cells #[.int .i64 p, .slice a n ca] 27)).alloc (.cells #[.int .i64 i, .int .i64 (s : Int)] 68)) i).put hib s (by omega)
  rw [show ((w.alloc (.cells #[.int .i64 p, .slice a n ca] 27)).alloc (.cells #[.int .i64 i, .int .i64 (s : Int)] 68)).heap.size = w.heap.size + 1 + 1 by simp] at hrun1 HM1 hg1
  have HMS := Lib.hid HM1
  have k0' := C2.grown (k0.alloc (.map #[] 0)) hg1 (by intro e; injection e with e; omega)
  have k1' := C2.grown (k1.alloc (.map #[] 0)) hg1 (by intro e; injection e with e; omega)
  have hL1 : Below w.heap.size w w1 := ((((Below.refl w.heap.size w).alloc (Nat.le_refl _) _).alloc (by simp) _).alloc (by simp; omega) _).grown hg1 (by simp; omega) (fun k e => by cases e; omega)
  have hsz1 : w.heap.size + 3 ≤ w1.heap.size := by have := hg1.size; simp at this; omega
  clear k0 k1 HM1 hg1
  go_enter Try.func69, Try.ntmps69
  have hmm := @run_makeMap Try.prog
  go_wp2_with fail
  clear hrun1 hmm
  have HOO := Lib.hid (ownsQOne w1 i s (w.heap.size + 3) hsz1)
  go_loopw [6, 7] (fun u c wr => ∃ k : Nat, k ≤ M ∧ c = .int .i64 (k : Int) ∧ Below w.heap.size w wr ∧ C2 wr w.heap.size (.int .i64 p) (.slice a n ca) ∧ Hid (MapS wr (w.heap.size + 1 + 1) i (bfs st s k)) ∧ Hid (OwnsQ wr (w.heap.size + 3) u i (bfs st s k))) (fun _ c _ => M - (intOf c).toNat)
  case atStart => exact ⟨0, Nat.zero_le _, rfl, by go_grown, k0'.alloc _, HMS.out.alloc _, HOO.out⟩
  case round =>
    clear hL1 k0' k1' HMS HOO hsz1
    obtain ⟨k, hk, rfl, hL, k0, hMS, hOO⟩ := hrel
    have hlenM := HLEN.out k
    obtain ⟨ua, uc, rfl, hum, hua⟩ := hOO.out.reads
    by_cases hlt : k < (bfs st s k).length
    · have hkM : k < M := by omega
      obtain ⟨x, hx⟩ : ∃ x, (bfs st s k).getD k 0 = x := ⟨_, rfl⟩
      have hxM : x < M := by
        refine HLT.out k x ?_
        rw [← hx, List.getD_eq_getElem?_getD, List.getElem?_eq_getElem hlt]; exact List.getElem_mem hlt
      rcases hua with h0 | ⟨g, rfl, hcs⟩
      · rw [h0] at hlt; simp at hlt
      obtain ⟨hc0, hc1⟩ := hcs k hlt
      rw [hx] at hc1
      have hgz : w.heap.size + 3 ≤ g ∧ g < wr.heap.size := World.ownsRow.lt hOO.out g rfl
      have HNext : Hid (bfs st s (k + 1) = visit (bfs st s k) (st x)) := by
        show bfs st s (k + 1) = _
        simp only [bfs]; rw [if_pos hlt, hx]
      have HSx := Lib.hid (HST.out x hxM)
      have HY4 : Hid ((st x).length ≤ 100) := HSL.out x
      have HVL : Hid (∀ j, (visit (bfs st s k) ((st x).take j)).length ≤ M ∧ ∀ y ∈ visit (bfs st s k) ((st x).take j), y < M) := fun j => by
        have hlt' : ∀ y ∈ visit (bfs st s k) ((st x).take j), y < M := fun y hy => by
          rcases (visit_mem _ _ _).1 hy with h | h
          · exact HLT.out k y h
          · exact HSLT x hxM y (List.mem_of_mem_take h)
        exact ⟨nodup_len (visit_nodup _ _ (bfs_nodup st s k)) hlt', hlt'⟩
      have HYL : Hid (∀ y ∈ st x, y < M) := fun y hy => HSLT x hxM y hy
      have HV0 : Hid (visit (bfs st s k) ((st x).take 0) = bfs st s k) := by unfold Hid; simp [visit]
      have HVN : Hid (visit (bfs st s k) ((st x).take (st x).length) = visit (bfs st s k) (st x)) := by unfold Hid; rw [List.take_length]
      have HVS : Hid (∀ j (hj : j < (st x).length), visit (bfs st s k) ((st x).take (j + 1)) = if (st x).getD j 0 ∈ visit (bfs st s k) ((st x).take j) then visit (bfs st s k) ((st x).take j) else visit (bfs st s k) ((st x).take j) ++ [(st x).getD j 0]) := fun j hj => by
        rw [List.take_succ_eq_append_getElem hj, visit_snoc]
        simp [List.getD_eq_getElem?_getD, hj]
      have hi0' : (0 : Int) ≤ (k : Int) := by omega
      have HH := Lib.hid hum
      clear hum hx hcs
      generalize st x = ys at *
      generalize bfs st s k = Q at *
      have hi1 : (k : Int) < (Q.length : Int) := by omega
      go_wp2_with fail
      have hmb := hMS.out.lt
      go_region_held3 (fun w' => C2 w' w.heap.size (.int .i64 p) (.slice a n ca) ∧ w'.cell? ⟨g, k * 2, none⟩ = some (.int .i64 i) ∧ w'.cell? ⟨g, k * 2 + 1, none⟩ = some (.int .i64 (x : Int))) ((refine ⟨?_, ?_, ?_⟩ <;> first | ((repeat' (first | (with_reducible assumption) | (with_reducible refine C2.drewU ?_) | (with_reducible refine C2.alloc ?_ _) | (with_reducible refine C2.set ?_ _ _ _ (by omega)))); done) | assumption)) ((go_at_call 97; (with_reducible refine (HSx.out _ (by go_grown)).mono ?_); rintro e w2 ⟨u, rfl, ou, hb⟩; have hL := chain (B := w.heap.size) (a := w) (by go_grown) (Nat.le_refl _) hb; replace k0 := keepAt hb (show C2 _ w.heap.size (.int .i64 p) (.slice a n ca) from by (repeat' (first | (with_reducible assumption) | (with_reducible refine C2.drewU ?_) | (with_reducible refine C2.alloc ?_ _) | (with_reducible refine C2.set ?_ _ _ _ (by omega))))); replace hc0 := cell_later hb (by first | exact hc0 | assumption); replace hc1 := cell_later hb (by first | exact hc1 | assumption); replace hMS := Lib.hid (mapSAt hb hMS.out.drewU); replace hOO := Lib.hid (ownsQAt hb hOO.out.drewU); have hzz := hb.size; obtain ⟨va, vc, rfl, hvm, _⟩ := ou.reads; have OU := Lib.hid ou; clear hb ou))
      go_wp2_with fail
      have hz3 := k0.2.2.2.2
      obtain ⟨zlo, hzlo⟩ : ∃ z, wr.drew.heap.size = z := ⟨_, rfl⟩
      obtain ⟨zhi, hzhi⟩ : ∃ z, w2.heap.size = z := ⟨_, rfl⟩
      have hyl : ys.length ≤ 100 := HY4.out
      have HBV : Hid (∀ q, (Value.slice va ys.length vc).ownBlock = some q → zlo ≤ q ∧ q < zhi) := by rw [← hzlo, ← hzhi]; exact World.ownsRow.lt OU.out
      rw [hzlo] at OU
      have HBU : Hid (∀ q, (Value.slice (some ⟨g, 0, none⟩) Q.length uc).ownBlock = some q → ¬ (zlo ≤ q ∧ q < zhi)) := fun q e => by
        have e1 : g = q := by simpa [Value.ownBlock] using e
        have : wr.drew.heap.size = wr.heap.size := rfl
        omega
      have hzh : zhi ≤ w2.heap.size := by omega
      have hmz : w.heap.size + 1 + 1 < zlo := by have : wr.drew.heap.size = wr.heap.size := rfl; omega
      clear hzlo hzhi
      clear hc0 hc1 hlt hi0' hi1 hk hgz

      go_loopw [6, 28] (fun u c wy => ∃ j : Nat, j ≤ ys.length ∧ c = .int .i64 (j : Int) ∧ Below w.heap.size w wy ∧ C2 wy w.heap.size (.int .i64 p) (.slice a n ca) ∧ Hid (MapS wy (w.heap.size + 1 + 1) i (visit Q (ys.take j))) ∧ Hid (OwnsQ wy (w.heap.size + 3) u i (visit Q (ys.take j))) ∧ Hid (OwnsQ wy zlo (.slice va ys.length vc) i ys) ∧ Hid (∀ q, u.ownBlock = some q → ¬ (zlo ≤ q ∧ q < zhi)) ∧ zhi ≤ wy.heap.size) (fun _ c _ => ys.length - (intOf c).toNat)
      case atStart => exact ⟨0, Nat.zero_le _, rfl, hL, k0, by rw [HV0.out]; exact hMS, by rw [HV0.out]; exact hOO, OU, HBU, hzh⟩
      case round =>
        clear hL k0 hMS hOO OU HBU hz3 hzh
        obtain ⟨j, hj, rfl, hL, k0, hMS, hOO, OU, HBU, hzy⟩ := hrel
        have hz3 := k0.2.2.2.2
        have hmb := hMS.out.lt
        have hVl := (HVL.out j).1
        obtain ⟨ua, uc2, rfl, hum, _⟩ := hOO.out.reads
        by_cases hlj : j < ys.length
        · obtain ⟨y, hy⟩ : ∃ y, ys.getD j 0 = y := ⟨_, rfl⟩
          have hyM : y < M := by
            refine HYL.out y ?_
            rw [← hy, List.getD_eq_getElem?_getD, List.getElem?_eq_getElem hlj]; exact List.getElem_mem hlj
          obtain ⟨va', vc', ev, hvm', hcv⟩ := OU.out.reads
          cases ev
          rcases hcv with h0 | ⟨gv, rfl, hcv⟩
          · rw [h0] at hlj; simp at hlj
          obtain ⟨hd0, hd1⟩ := hcv j hlj
          rw [hy] at hd1
          have HN := Lib.hid (HVS.out j hlj)
          rw [hy] at HN
          have HUM := Lib.hid hum
          have HVM := Lib.hid hvm'
          have hj0 : (0 : Int) ≤ (j : Int) := by omega
          have hj1 : (j : Int) < (ys.length : Int) := by omega
          clear hcv hum hvm' hy
          generalize visit Q (ys.take j) = R at *
          have hlook := (hMS.out.alloc (.cells #[.int .i64 i, .int .i64 (y : Int)] 68)).look hib y (by omega)
          have hfrom := Lib.hid (hOO.out.rowsFrom (B := w.heap.size) (by omega))
          have hsep := Lib.hid (hOO.out.notBlock (b := w.heap.size) (by omega))
          have hsepm := Lib.hid (hOO.out.notBlock (b := w.heap.size + 1 + 1) (by omega))
          by_cases hmem : y ∈ R
          · rw [decide_eq_true hmem] at hlook
            have HN2 : Hid (visit Q (ys.take (j + 1)) = R) := by rw [Hid, HN.out, if_pos hmem]
            clear hmem
            go_wp2_with fail
            clear hlook
            exact ⟨⟨j + 1, by omega, by go_num, by go_grown, k0.alloc _, by rw [HN2.out]; exact hMS.out.alloc _, by rw [HN2.out]; exact hOO.out.alloc _, OU.out.alloc _, HBU, by simp; omega⟩, by simp [intOf]; omega⟩
          · rw [decide_eq_false hmem] at hlook
            have HN2 : Hid (visit Q (ys.take (j + 1)) = R ++ [y]) := by rw [Hid, HN.out, if_neg hmem]
            obtain ⟨w5, hrun5, hMS5, hg5⟩ := (hMS.out.alloc (.cells #[.int .i64 i, .int .i64 (y : Int)] 68)).put hib y (by omega)
            rw [show insS R y = R ++ [y] from if_neg hmem] at hMS5
            clear hmem
            have HOO5 := Lib.hid ((hOO.out.alloc (.cells #[.int .i64 i, .int .i64 (y : Int)] 68)).grown hg5 (fun q e e2 => by injection e2 with e2; exact hsepm.out (by rw [e, e2])))
            have OU5 := Lib.hid ((OU.out.alloc (.cells #[.int .i64 i, .int .i64 (y : Int)] 68)).grown hg5 (fun q e e2 => by injection e2 with e2; have := HBV.out q e; omega))
            have k05 := C2.grown (k0.alloc (.cells #[.int .i64 i, .int .i64 (y : Int)] 68)) hg5 (by intro e; injection e with e; omega)
            have kb5 := C2.grown (C2.here wr (.int .i64 i) (.int .i64 (y : Int)) 68) hg5 (by intro e; injection e with e; omega)
            have hL5 := (hL.alloc (by omega) (.cells #[.int .i64 i, .int .i64 (y : Int)] 68)).grown hg5 (by simp; omega) (fun q e => by injection e with e; omega)
            have hzy5 : zhi ≤ w5.heap.size ∧ wr.heap.size + 1 ≤ w5.heap.size := by have := hg5.size; simp at this; omega
            have HMS5 := Lib.hid hMS5
            clear hg5 hMS5
            have hVl5 : R.length ≤ 16 := by omega
            have hsz5 := k05.2.2.2.2
            have hRl := hOO.out.1
            go_wp2_with (at_builtin; refine wpList_append_own_at _ rfl _ _ 76 rfl (w.heap.size + 3) 68 i0 (.agg #[.int .i64 0, .int .i64 0]) 2 16 Try.underlying76 hi0 hz0 hz1 hz2 rfl (by decide) (.slice ua R.length uc2) R.length (cellsQ i R) rfl (World.ownsRow.alloc HOO5.out _) ⟨w5.heap.size, 0, none⟩ 1 1 [.int .i64 i, .int .i64 (y : Int)] rfl rfl (newQ w5 i (y : Int)) (by simp [Value.oneCell']) (by unfold maxLen; omega) (by omega) (by simp; omega) ?_; intro v' w6 hown' hgrow hnil hat)
            clear hrun5 hlook
            have HO6 := Lib.hid (OwnsQ.snoc hown')
            have hfr6 : ∀ q, (Value.slice ua R.length uc2).ownBlock = some q → w.heap.size ≤ q := hfrom.out
            refine ⟨⟨j + 1, by omega, by go_num, (hL5.alloc (by omega) _).grown hgrow (by simp; omega) hfr6, (k05.alloc _).grown hgrow hsep.out, ?_, by rw [HN2.out]; exact HO6, ?_, ?_, ?_⟩, by simp [intOf]; omega⟩
            · rw [HN2.out]; exact (HMS5.out.alloc _).grown hgrow (Ne.symm hsepm.out)
            · exact (OU5.out.alloc _).grown hgrow (fun q e e2 => by have h1 := HBV.out q e; have h2 := HBU.out q e2; omega)
            · intro q e
              rcases hat with h | h
              · exact HBU.out q (by rw [← h]; exact e)
              · rw [h] at e; injection e with e; simp at e; omega
            · have := hgrow.size; simp at this; omega
        · have e : j = ys.length := by omega
          have HV : visit Q (ys.take j) = bfs st s (k + 1) := by rw [e, HVN.out, ← HNext.out]
          rw [HV] at hMS hOO ⊢
          clear HV
          have hjn : ¬ (j : Int) < (ys.length : Int) := by omega
          go_wp2_with fail
          exact ⟨⟨k + 1, by omega, by go_num, hL, k0, hMS, hOO⟩, by simp [intOf]; omega⟩
    · have hR := HEND.out k (by omega) (by omega)
      rw [hR] at hOO
      have hlk : ¬ (k : Int) < ((bfs st s k).length : Int) := by omega
      rw [hR] at hlk hum ⊢
      clear hR hua hlt hlenM
      obtain ⟨RR, hRR⟩ : ∃ R, reach st M s = R := ⟨_, rfl⟩
      rw [hRR] at hlk hum hOO ⊢
      have HRR := Lib.hid hRR
      clear hRR
      go_wp2_with fail
      go_ret
      exact ⟨_, rfl, by rw [HRR.out]; exact hOO.out.mono (Nat.le_add_right _ _), hL⟩

end Go.Proofs.Ytblbapehakcomaa
