/- The terminals of switches, as parts of one list. -/
import Derived.Test.YtkdidplpnhokiaaWiI
import Derived.Maps.AppendAt
namespace Go.Proofs.Ytkdidplpnhokiaa
open Go.RowKit
set_option linter.unusedVariables false

/-- the terminals of the switch i -/
def partL (xs : List Int) (i : Nat) : List Int := iota (termZ xs i) (xs.getD i 0).toNat
def partsL (xs : List Int) : List (List Int) := (List.range xs.length).map (partL xs)
theorem iota_getD (q : Int) {n i : Nat} (h : i < n) : (iota q n).getD i 0 = q + (i : Int) := by
  simp [iota, List.getD_eq_getElem?_getD, h]
theorem partsL_len (xs : List Int) : (partsL xs).length = xs.length := by simp [partsL]
theorem partsL_getD (xs : List Int) {i : Nat} (h : i < xs.length) : (partsL xs).getD i [] = partL xs i := by
  simp [partsL, List.getD_eq_getElem?_getD, h]

/-- the cells of a list that is filled with its numbers, the first k so far -/
def fillC (n k : Nat) : List Value := (List.range n).map fun i => .int .i64 (if i < k then (i : Int) else 0)
theorem fillC_step (n k : Nat) (hk : k < n) : (fillC n k).set k (.int .i64 (k : Int)) = fillC n (k + 1) := by
  unfold fillC
  apply List.ext_getElem
  · simp
  · intro i h1 h2
    simp only [List.getElem_set, List.getElem_map, List.getElem_range]
    by_cases e : k = i
    · subst e; rw [if_pos rfl, if_pos (by omega)]
    · rw [if_neg e]
      by_cases h : i < k
      · rw [if_pos h, if_pos (by omega)]
      · rw [if_neg h, if_neg (by omega)]
theorem fillC_zero (n : Nat) : (madeCells (Value.int .i64 0).cells (n * 1)).toList = fillC n 0 := by
  unfold fillC
  simp only [madeCells, Value.cells, Nat.mul_one]
  apply List.ext_getElem
  · simp
  · intro i h1 h2
    simp [Nat.mod_one]
/-- the value of the part i of the list in block g -/
def partV (g : Nat) (xs : List Int) (i : Nat) : Value := .slice (some ⟨g, (termZ xs i).toNat, none⟩) (xs.getD i 0).toNat (xs.getD i 0).toNat

set_option maxRecDepth 100000 in
set_option maxHeartbeats 2000000 in
theorem terminalsOf_any (v : Value) (xs : List Int) (w : World) (ha : Reads w v xs) (hs : SwOk xs) :
    Calls Try.prog 70 #[v] w fun e w' => ∃ u, e = .returned u ∧ Reads2 w' u (partsL xs) ∧ Below w.heap.size w w' := by
  obtain ⟨i0, hi, hz0, hz1, hz2⟩ := info_parts info64
  obtain ⟨i1, hj, hy0, hy1, hy2⟩ := info_parts infoRow
  obtain ⟨z, hz⟩ : ∃ z, termZ xs xs.length = z := ⟨_, rfl⟩
  have HTC := Lib.hid (terminalCount_any v xs w ha hs hz)
  have HA := Lib.hid ha
  obtain ⟨a, ca, rfl, hm, _⟩ := ha
  unfold maxLen at hm
  have Ha : Hid (∀ k, k < xs.length → ∃ b off, a = some ⟨b, off, none⟩ ∧ w.cell? ⟨b, off + k, none⟩ = some (.int .i64 (xs.getD k 0))) := fun k hk => HA.out.cellW hk
  have hzb := termZ_bd hs (Nat.le_refl _)
  have h5 := hs.1.2
  rw [hz] at hzb
  have hZ : 2 ≤ z ∧ z ≤ 22 := by omega
  obtain ⟨Z, rfl⟩ := Int.eq_ofNat_of_zero_le (show 0 ≤ z by omega)
  have hZ1 : Z ≤ 22 := by omega
  have HBD : Hid (∀ k, k ≤ xs.length → 2 + 3 * (k : Int) ≤ termZ xs k ∧ termZ xs k ≤ 2 + 4 * (k : Int)) := fun k hk => termZ_bd hs hk
  have HIN : Hid (∀ k, k < xs.length → termZ xs k + xs.getD k 0 ≤ (Z : Int)) := fun k hk => by rw [← hz]; exact term_in hs hk
  have HST : Hid (∀ k, termZ xs (k + 1) = termZ xs k + xs.getD k 0) := fun k => rfl
  have HGD : Hid (∀ k, k < xs.length → xs.getD k 0 = 3 ∨ xs.getD k 0 = 4) := hs.2
  have HPL : Hid (∀ (w' : World) (u : Value) (g B : Nat), w'.ownsRow B 22 1 u xs.length ((List.range xs.length).map (partV g xs)) → (∀ i, i < Z → w'.cell? ⟨g, i, none⟩ = some (.int .i64 (i : Int))) → Reads2 w' u (partsL xs)) := by
    intro w' u g B ho hc
    have ho' := ho
    rcases ho.2 with ⟨_, hn⟩ | ⟨g', cap, cur, rfl, hb, hg, hcc, hmm, hss, ht⟩
    · have := hs.1.1; omega
    · have el := partsL_len xs
      refine ⟨_, cap, by rw [el], by omega, .inr ⟨g', 0, rfl, fun i hi => ⟨partV g xs i, ?_, ?_⟩⟩⟩
      · rw [Nat.zero_add, ho'.cellAt i (by omega)]
        simp [show i < xs.length by omega]
      · have hi' : i < xs.length := by omega
        rw [partsL_getD xs hi']
        obtain ⟨b0, b1⟩ := HBD.out i (by omega)
        have b2 := HIN.out i hi'
        have b3 := HGD.out i hi'
        refine ⟨_, (xs.getD i 0).toNat, by unfold partL; rw [iota_len]; rfl, by unfold partL; rw [iota_len]; unfold maxLen; omega, .inr ⟨g, _, rfl, fun j hj => ?_⟩⟩
        unfold partL at hj ⊢
        rw [iota_len] at hj
        rw [iota_getD _ hj, hc _ (by omega)]
        congr 2
        omega
  clear HA hs hz hzb hZ
  have hn0 : xs.length ≤ 5 := h5
  clear h5
  generalize hnn : xs.length = n at *
  clear hnn
  go_enter Try.func70, Try.ntmps70
  go_wp2_with (first | (go_at_call 59; (with_reducible refine (HTC.out).mono ?_); rintro e w' ⟨rfl, rfl⟩) | (at_make; refine wpList_make_full _ rfl _ _ 22 rfl w.heap.size 2 i0 (.int .i64 0) 1 Try.underlying22 hi hz0 hz1 .i64 .i64 (Z : Int) (Z : Int) Z rfl rfl rfl rfl (by rw [hz2]; omega) (by unfold maxLen; omega) (Nat.le_refl _) ?_; intro w1 oo hg; have hL : Below w.heap.size w w1 := Below.grown (Below.refl _ w) hg (Nat.le_refl _) (by simp)))
  rw [fillC_zero Z] at oo
  clear hg
  go_loopw [15] (fun c wr => ∃ k : Nat, k ≤ Z ∧ c = .int .i64 (k : Int) ∧ Below w.heap.size w wr ∧ wr.ownsRow w.heap.size 2 1 (.slice (some ⟨w.heap.size, 0, none⟩) Z Z) Z (fillC Z k)) (fun c _ => Z - (intOf c).toNat)
  case atStart => exact ⟨0, Nat.zero_le _, rfl, hL, oo⟩
  case round =>
    clear hL oo
    obtain ⟨k, hk, rfl, hL, oo⟩ := hrel
    by_cases hlt : k < Z
    · have hi1 : (k : Int) < (Z : Int) := by omega
      have hi0 : (0 : Int) ≤ (k : Int) := by omega
      obtain ⟨u0, o0⟩ : ∃ u, wr.cell? ⟨w.heap.size, k, none⟩ = some u := by
        rw [oo.cellAt k (by omega)]
        have := oo.1
        exact ⟨_, List.getElem?_eq_getElem (by omega)⟩
      have f0 := oo.frozenAt k
      have HS := Lib.hid (oo.stored k (.int .i64 (k : Int))).1
      rw [fillC_step Z k hlt] at HS
      clear oo
      go_wp2_with fail
      go_roundw
      case rel => exact ⟨k + 1, by omega, by go_num, hL.setCell (Nat.le_refl _) _, HS.out⟩
      case measure => simp [intOf]; omega
    · have e : k = Z := by omega
      subst e
      have HC : Hid (∀ (w' : World), Below wr.heap.size wr w' → ∀ i, i < k → w'.cell? ⟨w.heap.size, i, none⟩ = some (.int .i64 (i : Int))) := fun w' hb i hi => by
        refine cell_later hb ?_
        rw [oo.cellAt i (by omega)]
        simp [fillC, hi]
      have HG : Hid (w.heap.size < wr.heap.size) := (World.ownsRow.lt oo _ rfl).2
      obtain ⟨wo, hwo⟩ : ∃ wo : World, wo = wr := ⟨_, rfl⟩
      have HLo : Hid (Below w.heap.size w wo) := by rw [hwo]; exact hL
      subst hwo
      clear oo hL hlt
      go_wp2_with fail
      go_loopw [5, 6, 25] (fun u f c wr => ∃ (k' : Nat) (t : Int), k' ≤ n ∧ c = .int .i64 (k' : Int) ∧ f = .int .i64 t ∧ Hid (t = termZ xs k') ∧ Below wo.heap.size wo wr ∧ wr.ownsRow wo.heap.size 22 1 u k' ((List.range k').map (partV w.heap.size xs))) (fun _ _ c _ => n - (intOf c).toNat)
      case atStart => exact ⟨0, 2, Nat.zero_le _, rfl, rfl, rfl, Below.refl _ _, World.ownsRow_nil _ _ _ _⟩
      case round =>
        obtain ⟨k', t, hk', rfl, rfl, HT, hL, oo⟩ := hrel
        by_cases hlt : k' < n
        · obtain ⟨b, off, rfl, hca0⟩ := Ha.out k' hlt
          have hca := cell_later hL (cell_later HLo.out hca0)
          have hi1 : (k' : Int) < (n : Int) := by omega
          have hi0 : (0 : Int) ≤ (k' : Int) := by omega
          have HT' : Hid (t + xs.getD k' 0 = termZ xs (k' + 1)) := by unfold Hid; rw [HST.out k', ← HT.out]
          have HPV : Hid (.slice (some ⟨w.heap.size, t.toNat, none⟩) ((t + xs.getD k' 0).toNat - t.toNat) ((t + xs.getD k' 0).toNat - t.toNat) = partV w.heap.size xs k') := by
            have e : (t + xs.getD k' 0).toNat - t.toNat = (xs.getD k' 0).toNat := by
              have := HBD.out k' hk'
              have := HGD.out k' hlt
              have := HT.out
              omega
            unfold Hid partV; rw [← HT.out, e]
          have HRG : Hid ((List.range (k' + 1)).map (partV w.heap.size xs) = (List.range k').map (partV w.heap.size xs) ++ [partV w.heap.size xs k']) := by unfold Hid; rw [List.range_succ, List.map_append]; rfl
          have hb1 := HBD.out k' hk'
          have hb2 := HIN.out k' hlt
          have hb3 := HGD.out k' hlt
          rw [← HT.out] at hb1 hb2
          have ht0 : 0 ≤ t := by omega
          have ht22 : t ≤ 22 := by omega
          generalize xs.getD k' 0 = x at *
          have hne : ¬ (t + x).toNat = t.toNat := by omega
          have hx0 : 0 ≤ x := by omega
          have hx4 : x ≤ 4 := by omega
          have hsum : t + x ≤ (k : Int) := by omega
          have hle : t ≤ t + x := by omega
          have hdiff : (t + x - t).toNat = x.toNat := by omega
          have hdiff2 : t + x - t = x := by omega
          clear hb1 hb2 hb3 hca0
          go_wp2_with (at_builtin; refine wpList_append_own_at _ rfl _ _ 23 rfl wo.heap.size 22 i1 (.slice none 0 0) 1 24 Try.underlying23 hj hy0 hy1 hy2 rfl (by decide) _ k' ((List.range k').map (partV w.heap.size xs)) rfl (World.ownsRow.alloc oo _) ⟨_, 0, none⟩ 1 1 [.slice (some ⟨w.heap.size, t.toNat, none⟩) ((t + x).toNat - t.toNat) ((t + x).toNat - t.toNat)] rfl rfl (cell_one_new _ _ _) (by simp [Value.oneCell']) (by unfold maxLen; omega) (by omega) (by have := hL.size; simp; omega) ?_; intro v1 w2 hown1 hgrow1 hnil1 hat1; rw [HPV.out, ← HRG.out] at hown1; have HO2 := Lib.hid hown1; have hL2 := (hL.alloc hL.size _).grown hgrow1 (by have := hL.size; simp; omega) (fun q e => (World.ownsRow.lt oo q e).1); clear hown1 hgrow1 hnil1 hat1)
          exact ⟨⟨k' + 1, t + x, by omega, by go_num, rfl, HT', hL2, HO2.out⟩, by simp [intOf]; omega⟩
        · have e : k' = n := by omega
          subst e
          have HR := Lib.hid (HPL.out _ _ _ _ oo (HC.out _ (hL.mono (Nat.le_refl _))))
          have hLL := chain (B := w.heap.size) (a := w) HLo.out (Nat.le_refl _) hL
          clear oo
          go_wp2_with fail
          go_ret
          exact ⟨_, rfl, HR.out, hLL⟩

end Go.Proofs.Ytkdidplpnhokiaa
