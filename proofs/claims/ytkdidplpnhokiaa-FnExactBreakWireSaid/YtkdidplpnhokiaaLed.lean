/- Te, Swc, Le in one text. -/
import Derived.Test.YtkdidplpnhokiaaWis
import Derived.Maps.AppendAt
import Derived.Test.YtkdidplpnhokiaaCts
import Derived.Deep.AppendLies
import Derived.Deep.RegionLaw
import Derived.BigRegion
import Derived.Deep.RegionWith
import Derived.Test.YtkdidplpnhokiaaApp2
import Derived.Lib.AppendZeros
namespace Go.Proofs.Ytkdidplpnhokiaa
open Go.RowKit
set_option linter.unusedVariables false

/-- the terminals of the switch i -/
def partL (xs : List Int) (i : Nat) : List Int := iota (termZ xs i) (xs.getD i 0).toNat
def partsL (xs : List Int) : List (List Int) := (List.range xs.length).map (partL xs)
theorem iota_getD (q : Int) {n i : Nat} (h : i < n) : (iota q n).getD i 0 = q + (i : Int) := by
  simp [iota, List.getD_eq_getElem?_getD, h]
theorem partsL_len (xs : List Int) : (partsL xs).length = xs.length := by simp [partsL]
theorem partsL_getD (xs : List Int) {i : Nat} (h : i < xs.length) : (partsL xs).getD i [] = partL xs i := by
  simp [partsL, List.getD_eq_getElem?_getD, h]

/-- the cells of a list that is filled with its numbers, the first k so far -/
def fillC (n k : Nat) : List Value := (List.range n).map fun i => .int .i64 (if i < k then (i : Int) else 0)
theorem fillC_step (n k : Nat) (hk : k < n) : (fillC n k).set k (.int .i64 (k : Int)) = fillC n (k + 1) := by
  unfold fillC
  apply List.ext_getElem
  · simp
  · intro i h1 h2
    simp only [List.getElem_set, List.getElem_map, List.getElem_range]
    by_cases e : k = i
    · subst e; rw [if_pos rfl, if_pos (by omega)]
    · rw [if_neg e]
      by_cases h : i < k
      · rw [if_pos h, if_pos (by omega)]
      · rw [if_neg h, if_neg (by omega)]
theorem fillC_zero (n : Nat) : (madeCells (Value.int .i64 0).cells (n * 1)).toList = fillC n 0 := by
  unfold fillC
  simp only [madeCells, Value.cells, Nat.mul_one]
  apply List.ext_getElem
  · simp
  · intro i h1 h2
    simp [Nat.mod_one]
/-- the value of the part i of the list in block g -/
def partV (g : Nat) (xs : List Int) (i : Nat) : Value := .slice (some ⟨g, (termZ xs i).toNat, none⟩) (xs.getD i 0).toNat (xs.getD i 0).toNat

set_option maxRecDepth 100000 in
set_option maxHeartbeats 2000000 in
theorem terminalsOf_any (v : Value) (xs : List Int) (w : World) (ha : Reads w v xs) (hs : SwOk xs) :
    Calls Try.prog 70 #[v] w fun e w' => ∃ u, e = .returned u ∧ Reads2 w' u (partsL xs) ∧ Below w.heap.size w w' := by
  obtain ⟨i0, hi, hz0, hz1, hz2⟩ := info_parts info64
  obtain ⟨i1, hj, hy0, hy1, hy2⟩ := info_parts infoRow
  obtain ⟨z, hz⟩ : ∃ z, termZ xs xs.length = z := ⟨_, rfl⟩
  have HTC := Lib.hid (terminalCount_any v xs w ha hs hz)
  have HA := Lib.hid ha
  obtain ⟨a, ca, rfl, hm, _⟩ := ha
  unfold maxLen at hm
  have Ha : Hid (∀ k, k < xs.length → ∃ b off, a = some ⟨b, off, none⟩ ∧ w.cell? ⟨b, off + k, none⟩ = some (.int .i64 (xs.getD k 0))) := fun k hk => HA.out.cellW hk
  have hzb := termZ_bd hs (Nat.le_refl _)
  have h5 := hs.1.2
  rw [hz] at hzb
  have hZ : 2 ≤ z ∧ z ≤ 22 := by omega
  obtain ⟨Z, rfl⟩ := Int.eq_ofNat_of_zero_le (show 0 ≤ z by omega)
  have hZ1 : Z ≤ 22 := by omega
  have HBD : Hid (∀ k, k ≤ xs.length → 2 + 3 * (k : Int) ≤ termZ xs k ∧ termZ xs k ≤ 2 + 4 * (k : Int)) := fun k hk => termZ_bd hs hk
  have HIN : Hid (∀ k, k < xs.length → termZ xs k + xs.getD k 0 ≤ (Z : Int)) := fun k hk => by rw [← hz]; exact term_in hs hk
  have HST : Hid (∀ k, termZ xs (k + 1) = termZ xs k + xs.getD k 0) := fun k => rfl
  have HGD : Hid (∀ k, k < xs.length → xs.getD k 0 = 3 ∨ xs.getD k 0 = 4) := hs.2
  have HPL : Hid (∀ (w' : World) (u : Value) (g B : Nat), w'.ownsRow B 22 1 u xs.length ((List.range xs.length).map (partV g xs)) → (∀ i, i < Z → w'.cell? ⟨g, i, none⟩ = some (.int .i64 (i : Int))) → Reads2 w' u (partsL xs)) := by
    intro w' u g B ho hc
    have ho' := ho
    rcases ho.2 with ⟨_, hn⟩ | ⟨g', cap, cur, rfl, hb, hg, hcc, hmm, hss, ht⟩
    · have := hs.1.1; omega
    · have el := partsL_len xs
      refine ⟨_, cap, by rw [el], by omega, .inr ⟨g', 0, rfl, fun i hi => ⟨partV g xs i, ?_, ?_⟩⟩⟩
      · rw [Nat.zero_add, ho'.cellAt i (by omega)]
        simp [show i < xs.length by omega]
      · have hi' : i < xs.length := by omega
        rw [partsL_getD xs hi']
        obtain ⟨b0, b1⟩ := HBD.out i (by omega)
        have b2 := HIN.out i hi'
        have b3 := HGD.out i hi'
        refine ⟨_, (xs.getD i 0).toNat, by unfold partL; rw [iota_len]; rfl, by unfold partL; rw [iota_len]; unfold maxLen; omega, .inr ⟨g, _, rfl, fun j hj => ?_⟩⟩
        unfold partL at hj ⊢
        rw [iota_len] at hj
        rw [iota_getD _ hj, hc _ (by omega)]
        congr 2
        omega
  clear HA hs hz hzb hZ
  have hn0 : xs.length ≤ 5 := h5
  clear h5
  generalize hnn : xs.length = n at *
  clear hnn
  go_enter Try.func70, Try.ntmps70
  go_wp2_with (first | (go_at_call 59; (with_reducible refine (HTC.out).mono ?_); rintro e w' ⟨rfl, rfl⟩) | (at_make; refine wpList_make_full _ rfl _ _ 22 rfl w.heap.size 2 i0 (.int .i64 0) 1 Try.underlying22 hi hz0 hz1 .i64 .i64 (Z : Int) (Z : Int) Z rfl rfl rfl rfl (by rw [hz2]; omega) (by unfold maxLen; omega) (Nat.le_refl _) ?_; intro w1 oo hg; have hL : Below w.heap.size w w1 := Below.grown (Below.refl _ w) hg (Nat.le_refl _) (by simp)))
  rw [fillC_zero Z] at oo
  clear hg
  go_loopw [15] (fun c wr => ∃ k : Nat, k ≤ Z ∧ c = .int .i64 (k : Int) ∧ Below w.heap.size w wr ∧ wr.ownsRow w.heap.size 2 1 (.slice (some ⟨w.heap.size, 0, none⟩) Z Z) Z (fillC Z k)) (fun c _ => Z - (intOf c).toNat)
  case atStart => exact ⟨0, Nat.zero_le _, rfl, hL, oo⟩
  case round =>
    clear hL oo
    obtain ⟨k, hk, rfl, hL, oo⟩ := hrel
    by_cases hlt : k < Z
    · have hi1 : (k : Int) < (Z : Int) := by omega
      have hi0 : (0 : Int) ≤ (k : Int) := by omega
      obtain ⟨u0, o0⟩ : ∃ u, wr.cell? ⟨w.heap.size, k, none⟩ = some u := by
        rw [oo.cellAt k (by omega)]
        have := oo.1
        exact ⟨_, List.getElem?_eq_getElem (by omega)⟩
      have f0 := oo.frozenAt k
      have HS := Lib.hid (oo.stored k (.int .i64 (k : Int))).1
      rw [fillC_step Z k hlt] at HS
      clear oo
      go_wp2_with fail
      go_roundw
      case rel => exact ⟨k + 1, by omega, by go_num, hL.setCell (Nat.le_refl _) _, HS.out⟩
      case measure => simp [intOf]; omega
    · have e : k = Z := by omega
      subst e
      have HC : Hid (∀ (w' : World), Below wr.heap.size wr w' → ∀ i, i < k → w'.cell? ⟨w.heap.size, i, none⟩ = some (.int .i64 (i : Int))) := fun w' hb i hi => by
        refine cell_later hb ?_
        rw [oo.cellAt i (by omega)]
        simp [fillC, hi]
      have HG : Hid (w.heap.size < wr.heap.size) := (World.ownsRow.lt oo _ rfl).2
      obtain ⟨wo, hwo⟩ : ∃ wo : World, wo = wr := ⟨_, rfl⟩
      have HLo : Hid (Below w.heap.size w wo) := by rw [hwo]; exact hL
      subst hwo
      clear oo hL hlt
      go_wp2_with fail
      go_loopw [5, 6, 25] (fun u f c wr => ∃ (k' : Nat) (t : Int), k' ≤ n ∧ c = .int .i64 (k' : Int) ∧ f = .int .i64 t ∧ Hid (t = termZ xs k') ∧ Below wo.heap.size wo wr ∧ wr.ownsRow wo.heap.size 22 1 u k' ((List.range k').map (partV w.heap.size xs))) (fun _ _ c _ => n - (intOf c).toNat)
      case atStart => exact ⟨0, 2, Nat.zero_le _, rfl, rfl, rfl, Below.refl _ _, World.ownsRow_nil _ _ _ _⟩
      case round =>
        obtain ⟨k', t, hk', rfl, rfl, HT, hL, oo⟩ := hrel
        by_cases hlt : k' < n
        · obtain ⟨b, off, rfl, hca0⟩ := Ha.out k' hlt
          have hca := cell_later hL (cell_later HLo.out hca0)
          have hi1 : (k' : Int) < (n : Int) := by omega
          have hi0 : (0 : Int) ≤ (k' : Int) := by omega
          have HT' : Hid (t + xs.getD k' 0 = termZ xs (k' + 1)) := by unfold Hid; rw [HST.out k', ← HT.out]
          have HPV : Hid (.slice (some ⟨w.heap.size, t.toNat, none⟩) ((t + xs.getD k' 0).toNat - t.toNat) ((t + xs.getD k' 0).toNat - t.toNat) = partV w.heap.size xs k') := by
            have e : (t + xs.getD k' 0).toNat - t.toNat = (xs.getD k' 0).toNat := by
              have := HBD.out k' hk'
              have := HGD.out k' hlt
              have := HT.out
              omega
            unfold Hid partV; rw [← HT.out, e]
          have HRG : Hid ((List.range (k' + 1)).map (partV w.heap.size xs) = (List.range k').map (partV w.heap.size xs) ++ [partV w.heap.size xs k']) := by unfold Hid; rw [List.range_succ, List.map_append]; rfl
          have hb1 := HBD.out k' hk'
          have hb2 := HIN.out k' hlt
          have hb3 := HGD.out k' hlt
          rw [← HT.out] at hb1 hb2
          have ht0 : 0 ≤ t := by omega
          have ht22 : t ≤ 22 := by omega
          generalize xs.getD k' 0 = x at *
          have hne : ¬ (t + x).toNat = t.toNat := by omega
          have hx0 : 0 ≤ x := by omega
          have hx4 : x ≤ 4 := by omega
          have hsum : t + x ≤ (k : Int) := by omega
          have hle : t ≤ t + x := by omega
          have hdiff : (t + x - t).toNat = x.toNat := by omega
          have hdiff2 : t + x - t = x := by omega
          clear hb1 hb2 hb3 hca0
          go_wp2_with (at_builtin; refine wpList_append_own_at _ rfl _ _ 23 rfl wo.heap.size 22 i1 (.slice none 0 0) 1 24 Try.underlying23 hj hy0 hy1 hy2 rfl (by decide) _ k' ((List.range k').map (partV w.heap.size xs)) rfl (World.ownsRow.alloc oo _) ⟨_, 0, none⟩ 1 1 [.slice (some ⟨w.heap.size, t.toNat, none⟩) ((t + x).toNat - t.toNat) ((t + x).toNat - t.toNat)] rfl rfl (cell_one_new _ _ _) (by simp [Value.oneCell']) (by unfold maxLen; omega) (by omega) (by have := hL.size; simp; omega) ?_; intro v1 w2 hown1 hgrow1 hnil1 hat1; rw [HPV.out, ← HRG.out] at hown1; have HO2 := Lib.hid hown1; have hL2 := (hL.alloc hL.size _).grown hgrow1 (by have := hL.size; simp; omega) (fun q e => (World.ownsRow.lt oo q e).1); clear hown1 hgrow1 hnil1 hat1)
          exact ⟨⟨k' + 1, t + x, by omega, by go_num, rfl, HT', hL2, HO2.out⟩, by simp [intOf]; omega⟩
        · have e : k' = n := by omega
          subst e
          have HR := Lib.hid (HPL.out _ _ _ _ oo (HC.out _ (hL.mono (Nat.le_refl _))))
          have hLL := chain (B := w.heap.size) (a := w) HLo.out (Nat.le_refl _) hL
          clear oo
          go_wp2_with fail
          go_ret
          exact ⟨_, rfl, HR.out, hLL⟩

/-- the pairs that a switch of so many terminals from t on joins in a position -/
def pairsL (t size : Int) (q : Nat) : List (List Int) := if size = 3 then [[t, t + 1 + (q : Int)]] else [[t, t + 2 + (q : Int)], [t + 1, t + 3 - (q : Int)]]
theorem pairsL_len (t size : Int) (q : Nat) : (pairsL t size q).length ≤ 2 := by unfold pairsL; split <;> simp
/-- the contacts of the switch i in a position -/
def swRow (xs : List Int) (i q : Nat) : List (List Int) := (pairsL (termZ xs i) (xs.getD i 0) q).map fun r => [r.getD 0 0, r.getD 1 0, (i : Int), 1 - (q : Int)]
def swPos (xs : List Int) (i q : Nat) : List (List Int) := (List.range q).flatMap (swRow xs i)
def swTo (xs : List Int) (i : Nat) : List (List Int) := (List.range i).flatMap fun i => swPos xs i 2
theorem swPos_succ (xs : List Int) (i q : Nat) : swPos xs i (q + 1) = swPos xs i q ++ swRow xs i q := by unfold swPos; rw [List.range_succ, List.flatMap_append]; simp
theorem swTo_succ (xs : List Int) (i : Nat) : swTo xs (i + 1) = swTo xs i ++ swPos xs i 2 := by unfold swTo; rw [List.range_succ, List.flatMap_append]; simp
theorem swRow_len (xs : List Int) (i q : Nat) : (swRow xs i q).length ≤ 2 := by unfold swRow; rw [List.length_map]; exact pairsL_len _ _ _
theorem swPos_len (xs : List Int) (i q : Nat) : (swPos xs i q).length ≤ 2 * q := by
  induction q with
  | zero => exact Nat.le_refl _
  | succ q ih => rw [swPos_succ, List.length_append]; have := swRow_len xs i q; omega
theorem swTo_len (xs : List Int) (i : Nat) : (swTo xs i).length ≤ 4 * i := by
  induction i with
  | zero => exact Nat.le_refl _
  | succ i ih => rw [swTo_succ, List.length_append]; have := swPos_len xs i 2; omega
theorem cellsC_app (xss yss : List (List Int)) : cellsC xss xss.length xss.length ++ cellsC yss yss.length yss.length = cellsC (xss ++ yss) (xss ++ yss).length (xss ++ yss).length := by
  unfold cellsC
  apply List.ext_getElem
  · simp only [List.length_append, List.length_map, List.length_range]; omega
  · intro q h1 h2
    simp only [List.length_append, List.length_map, List.length_range] at h1 h2
    by_cases hq : q < xss.length * 4
    · rw [List.getElem_append_left (by simpa using hq)]
      simp only [List.getElem_map, List.getElem_range, List.length_append]
      have e : (xss ++ yss).getD (q / 4) [] = xss.getD (q / 4) [] := by simp only [List.getD_eq_getElem?_getD]; rw [List.getElem?_append_left (by omega)]
      rw [if_pos (by omega), if_pos (by omega), e]
    · rw [List.getElem_append_right (by simp; omega)]
      simp only [List.getElem_map, List.getElem_range, List.length_append, List.length_map, List.length_range]
      have e1 : (q - xss.length * 4) / 4 = q / 4 - xss.length := by omega
      have e2 : (q - xss.length * 4) % 4 = q % 4 := by omega
      have e : (xss ++ yss).getD (q / 4) [] = yss.getD (q / 4 - xss.length) [] := by simp only [List.getD_eq_getElem?_getD]; rw [List.getElem?_append_right (by omega)]
      rw [e1, e2, if_pos (by omega), if_pos (by omega), e]
theorem OwnsC.low {w : World} {B B' : Nat} {u : Value} {L : List (List Int)} (h : OwnsC w B u L) (hB : B' ≤ B) : OwnsC w B' u L := by
  refine ⟨h.1, ?_⟩
  rcases h.2 with hn | ⟨g, cap, cur, rfl, hb, hgg, rest⟩
  · exact .inl hn
  · exact .inr ⟨g, cap, cur, rfl, by omega, hgg, rest⟩
theorem cellsC_cells (xss : List (List Int)) (n k : Nat) : ∀ u ∈ cellsC xss n k, u.oneCell' = true := by
  intro u hu
  unfold cellsC at hu
  obtain ⟨q, _, rfl⟩ := List.mem_map.1 hu
  rfl
theorem cellsC_1 (c0 c1 c2 c3 : Int) : cellsC [[c0, c1, c2, c3]] 1 1 = [.int .i64 c0, .int .i64 c1, .int .i64 c2, .int .i64 c3] := rfl
/-- one contact more -/
theorem OwnsC.snoc {w : World} {B : Nat} {u : Value} {L : List (List Int)} {c0 c1 c2 c3 : Int}
    (h : w.ownsRow B 116 4 u (L.length + 1) (cellsC L L.length L.length ++ [.int .i64 c0, .int .i64 c1, .int .i64 c2, .int .i64 c3])) : OwnsC w B u (L ++ [[c0, c1, c2, c3]]) := by
  unfold OwnsC
  rw [← cellsC_app, show [[c0, c1, c2, c3]].length = 1 from rfl, cellsC_1, List.length_append]
  exact h
theorem con_new (w : World) (c0 c1 c2 c3 : Int) (t : TypeId) : ∀ j u, [Value.int .i64 c0, .int .i64 c1, .int .i64 c2, .int .i64 c3][j]? = some u → (w.alloc (.cells #[.int .i64 c0, .int .i64 c1, .int .i64 c2, .int .i64 c3] t)).cell? ((⟨w.heap.size, 0, none⟩ : Addr).add j) = some u := by
  intro j u h
  have ea : (⟨w.heap.size, 0, none⟩ : Addr).add j = ⟨w.heap.size, j, none⟩ := by
    unfold Addr.add; split
    · rename_i h; subst h; rfl
    · rw [Nat.zero_add]
  rw [ea, World.cell?_alloc_at _ _ _ _ rfl]
  have hj : j < 4 := by
    obtain ⟨h, _⟩ := List.getElem?_eq_some_iff.1 h
    simpa using h
  have hj' : j = 0 ∨ j = 1 ∨ j = 2 ∨ j = 3 := by omega
  rcases hj' with rfl | rfl | rfl | rfl <;> exact h
theorem con_newG {g : Nat} (w : World) (hg : g = w.heap.size) (c0 c1 c2 c3 : Int) (t : TypeId) : ∀ j u, [Value.int .i64 c0, .int .i64 c1, .int .i64 c2, .int .i64 c3][j]? = some u → (w.alloc (.cells #[.int .i64 c0, .int .i64 c1, .int .i64 c2, .int .i64 c3] t)).cell? ((⟨g, 0, none⟩ : Addr).add j) = some u := by
  subst hg; exact con_new w c0 c1 c2 c3 t

/-- the slice v of arrays of two in block b reads as the pairs P -/
def ReadsP (w : World) (b : Nat) (v : Value) (P : List (List Int)) : Prop :=
  (∃ (cap : Nat), v = .slice (some ⟨b, 0, none⟩) P.length cap) ∧ P.length ≤ 2 ∧ b < w.heap.size ∧ ∀ i, i < P.length → ∀ j, j < 2 → w.cell? ⟨b, i * 2 + j, none⟩ = some (.int .i64 ((P.getD i []).getD j 0))
theorem ReadsP.keep {w w' : World} {b : Nat} {v : Value} {P : List (List Int)} (h : ReadsP w b v P) (hb : Below w.heap.size w w') : ReadsP w' b v P := by
  obtain ⟨hv, hm, hz, h⟩ := h
  exact ⟨hv, hm, Nat.lt_of_lt_of_le hz hb.size, fun i hi j hj => cell_later hb (h i hi j hj)⟩
theorem ReadsP.grown {w w' : World} {b : Nat} {v : Value} {P : List (List Int)} {row : Option Nat} (h : ReadsP w b v P) (hg : w.grownBy w' row) (hne : row ≠ some b) : ReadsP w' b v P := by
  obtain ⟨hv, hm, hz, h⟩ := h
  refine ⟨hv, hm, Nat.lt_of_lt_of_le hz hg.size, fun i hi j hj => ?_⟩
  rw [← h i hi j hj]
  exact World.cell?_of_block (w := w) (hg.block b hz (Ne.symm hne))
theorem readsP_one (w : World) (x y : Int) (t : TypeId) : ReadsP (w.alloc (.cells #[.int .i64 x, .int .i64 y] t)) w.heap.size (.slice (some ⟨w.heap.size, 0, none⟩) 1 1) [[x, y]] := by
  refine ⟨⟨1, rfl⟩, by simp, by simp, fun i hi j hj => ?_⟩
  have hi' : i = 0 := by simpa using hi
  subst hi'
  rw [World.cell?_alloc_at _ _ _ _ rfl]
  have hj' : j = 0 ∨ j = 1 := by omega
  rcases hj' with rfl | rfl <;> rfl
theorem readsP_two (w : World) (x y x' y' : Int) (t : TypeId) : ReadsP (w.alloc (.cells #[.int .i64 x, .int .i64 y, .int .i64 x', .int .i64 y'] t)) w.heap.size (.slice (some ⟨w.heap.size, 0, none⟩) 2 2) [[x, y], [x', y']] := by
  refine ⟨⟨2, rfl⟩, by simp, by simp, fun i hi j hj => ?_⟩
  have hi' : i = 0 ∨ i = 1 := by have : i < 2 := hi; omega
  have hj' : j = 0 ∨ j = 1 := by omega
  rw [World.cell?_alloc_at _ _ _ _ rfl]
  rcases hi' with rfl | rfl <;> rcases hj' with rfl | rfl <;> rfl

set_option maxRecDepth 100000 in
set_option maxHeartbeats 2000000 in
theorem pairsIn_any (v : Value) (t size : Int) (q : Nat) (w : World) (ha : Reads w v (iota t size.toNat)) (hs : size = 3 ∨ size = 4) (hq : q < 2) (h0 : 0 ≤ t) (h1 : t ≤ 1000) :
    Calls Try.prog 135 #[v, .int .i64 (q : Int)] w fun e w' => ∃ u, e = .returned u ∧ ReadsP w' w.heap.size u (pairsL t size q) ∧ Below w.heap.size w w' := by
  obtain ⟨a, ca, rfl, hm, ha⟩ := ha
  rw [iota_len] at *
  have hq2 : q = 0 ∨ q = 1 := by omega
  rcases ha with h | ⟨b, off, rfl, h⟩
  · have := congrArg List.length h
    rw [iota_len] at this
    simp at this; omega
  · have hc : ∀ i, i < size.toNat → w.cell? ⟨b, off + i, none⟩ = some (.int .i64 (t + (i : Int))) := fun i hi => by
      rw [h i hi, iota_getD _ hi]
    clear h hm
    rcases hs with rfl | rfl
    · have c0 : w.cell? ⟨b, off, none⟩ = some (.int .i64 t) := by simpa using hc 0 (by decide)
      have c1 : w.cell? ⟨b, off + 1, none⟩ = some (.int .i64 (t + 1)) := by simpa using hc 1 (by decide)
      have c2 : w.cell? ⟨b, off + 2, none⟩ = some (.int .i64 (t + 2)) := by simpa using hc 2 (by decide)
      clear hc
      rcases hq2 with rfl | rfl
      · have HP : Hid (pairsL t 3 0 = [[t, t + 1]]) := by unfold Hid pairsL; simp
        generalize t + 1 = t1 at *
        generalize t + 2 = t2 at *
        go_enter Try.func135, Try.ntmps135
        go_wp2_with fail
        go_region
        all_goals go_wp2_with fail
        all_goals go_ret
        all_goals exact ⟨_, rfl, by rw [HP.out]; exact readsP_one _ _ _ _, by go_grown⟩
      · have HP : Hid (pairsL t 3 1 = [[t, t + 2]]) := by unfold Hid pairsL; simp; omega
        generalize t + 1 = t1 at *
        generalize t + 2 = t2 at *
        go_enter Try.func135, Try.ntmps135
        go_wp2_with fail
        go_region
        all_goals go_wp2_with fail
        all_goals go_ret
        all_goals exact ⟨_, rfl, by rw [HP.out]; exact readsP_one _ _ _ _, by go_grown⟩
    · have c0 : w.cell? ⟨b, off, none⟩ = some (.int .i64 t) := by simpa using hc 0 (by decide)
      have c1 : w.cell? ⟨b, off + 1, none⟩ = some (.int .i64 (t + 1)) := by simpa using hc 1 (by decide)
      have c2 : w.cell? ⟨b, off + 2, none⟩ = some (.int .i64 (t + 2)) := by simpa using hc 2 (by decide)
      have c3 : w.cell? ⟨b, off + 3, none⟩ = some (.int .i64 (t + 3)) := by simpa using hc 3 (by decide)
      clear hc
      rcases hq2 with rfl | rfl
      · have HP : Hid (pairsL t 4 0 = [[t, t + 2], [t + 1, t + 3]]) := by unfold Hid pairsL; simp
        generalize t + 1 = t1 at *
        generalize t + 2 = t2 at *
        generalize t + 3 = t3 at *
        go_enter Try.func135, Try.ntmps135
        go_wp2_with fail
        go_region
        all_goals go_wp2_with fail
        all_goals go_ret
        all_goals exact ⟨_, rfl, by rw [HP.out]; exact readsP_two _ _ _ _ _ _, by go_grown⟩
      · have HP : Hid (pairsL t 4 1 = [[t, t + 3], [t + 1, t + 2]]) := by unfold Hid pairsL; simp; omega
        generalize t + 1 = t1 at *
        generalize t + 2 = t2 at *
        generalize t + 3 = t3 at *
        go_enter Try.func135, Try.ntmps135
        go_wp2_with fail
        go_region
        all_goals go_wp2_with fail
        all_goals go_ret
        all_goals exact ⟨_, rfl, by rw [HP.out]; exact readsP_two _ _ _ _ _ _, by go_grown⟩

def swC (xs : List Int) : List (List Int) := swTo xs xs.length
theorem take_snoc {R : List (List Int)} {k : Nat} (h : k < R.length) : R.take (k + 1) = R.take k ++ [R.getD k []] := by
  rw [List.take_succ_eq_append_getElem h]
  simp [List.getD_eq_getElem?_getD, h]
theorem swRow_getD {xs : List Int} {i q k : Nat} (h : k < (pairsL (termZ xs i) (xs.getD i 0) q).length) : (swRow xs i q).getD k [] = [((pairsL (termZ xs i) (xs.getD i 0) q).getD k []).getD 0 0, ((pairsL (termZ xs i) (xs.getD i 0) q).getD k []).getD 1 0, (i : Int), 1 - (q : Int)] := by
  unfold swRow
  generalize pairsL (termZ xs i) (xs.getD i 0) q = P at *
  have e : P.getD k [] = P[k] := by simp [List.getD_eq_getElem?_getD, h]
  rw [e, List.getD_eq_getElem?_getD, List.getElem?_map, List.getElem?_eq_getElem h]
  rfl

set_option maxRecDepth 100000 in
set_option maxHeartbeats 4000000 in
theorem switchContacts_any (v : Value) (xs : List Int) (w : World) (ha : Reads w v xs) (hs : SwOk xs) :
    Calls Try.prog 109 #[v] w fun e w' => ∃ u, e = .returned u ∧ OwnsC w' w.heap.size u (swC xs) ∧ Below w.heap.size w w' := by
  obtain ⟨i0, hi, hz0, hz1, hz2⟩ := info_parts infoCon
  have HTE := Lib.hid (terminalsOf_any v xs w ha hs)
  obtain ⟨a, ca, rfl, hm, _⟩ := ha
  have h5 := hs.1.2
  have HPI : Hid (∀ (i q : Nat) (u : Value) (w' : World), i < xs.length → q < 2 → Reads w' u (partL xs i) → Calls Try.prog 135 #[u, .int .i64 (q : Int)] w' fun e w'' => ∃ u, e = .returned u ∧ ReadsP w'' w'.heap.size u (pairsL (termZ xs i) (xs.getD i 0) q) ∧ Below w'.heap.size w' w'') := fun i q u w' h1 h2 h3 => by
    have hb := termZ_bd hs (k := i) (by omega)
    exact pairsIn_any u _ _ q w' h3 (hs.2 i h1) h2 (by omega) (by omega)
  have HPT : Hid (∀ i, i < xs.length → (partsL xs).getD i [] = partL xs i) := fun i h => partsL_getD xs h
  have HLEN : Hid ((partsL xs).length = xs.length) := partsL_len xs
  have HEND : Hid (swTo xs xs.length = swC xs) := rfl
  clear hs
  generalize xs.length = n at *
  go_enter Try.func109, Try.ntmps109
  go_wp2_with fail
  refine HTE.out.mono ?_
  rintro e w1 ⟨tv, rfl, ht, hb⟩
  have HT := Lib.hid ht
  obtain ⟨ta, tc, rfl, htm, _⟩ := ht
  have HTC : Hid (∀ k, k < n → ∃ b off u, ta = some ⟨b, off, none⟩ ∧ w1.cell? ⟨b, off + k, none⟩ = some u ∧ Reads w1 u (partL xs k)) := fun k hk => by
    have := HT.out.cellW (k := k) (by rw [HLEN.out]; exact hk)
    rwa [HPT.out k hk] at this
  have HL1 := Lib.hid hb
  have hz1' := hb.size
  rw [HLEN.out] at *
  clear HT hb htm
  go_wp2_with fail
  go_loopw [3, 12] (fun u c wr => ∃ i : Nat, i ≤ n ∧ c = .int .i64 (i : Int) ∧ Below w1.heap.size w1 wr ∧ Hid (OwnsC wr w1.heap.size u (swTo xs i))) (fun _ c _ => n - (intOf c).toNat)
  case atStart => exact ⟨0, Nat.zero_le _, rfl, Below.refl _ _, (World.ownsRow_nil _ _ _ _ : OwnsC _ w1.heap.size _ [])⟩
  case round =>
    obtain ⟨i, hi', rfl, hL, HO⟩ := hrel
    by_cases hlt : i < n
    · obtain ⟨b, off, tu, rfl, hca0, hru⟩ := HTC.out i hlt
      have hca := cell_later hL hca0
      have HRU := Lib.hid hru
      have hi1 : (i : Int) < (n : Int) := by omega
      have hi0 : (0 : Int) ≤ (i : Int) := by omega
      obtain ⟨wi, hwi⟩ : ∃ wi : World, wi = wr := ⟨_, rfl⟩
      have HLi : Hid (Below w1.heap.size w1 wi) := by rw [hwi]; exact hL
      have HOi : Hid (OwnsC wi w1.heap.size u3 (swTo xs i)) := by rw [hwi]; exact HO
      subst hwi
      clear hca0 hru hL HO
      go_wp2_with fail
      go_loopw [3, 17] (fun u c wr => ∃ q : Nat, q ≤ 2 ∧ c = .int .i64 (q : Int) ∧ Below w1.heap.size w1 wr ∧ Hid (OwnsC wr w1.heap.size u (swTo xs i ++ swPos xs i q))) (fun _ c _ => 2 - (intOf c).toNat)
      case atStart => exact ⟨0, Nat.zero_le _, rfl, HLi.out, by have := HOi.out; unfold Hid; simpa [swPos] using this⟩
      case round =>
        obtain ⟨q, hq, rfl, hL, HO⟩ := hrel
        by_cases hq2 : q < 2
        · have hq1 : (q : Int) < 2 := by omega
          have hq0 : (0 : Int) ≤ (q : Int) := by omega
          go_wp2_with fail
          refine (HPI.out i q _ _ hlt hq2 (HRU.out.keep hL)).mono ?_
          rintro e w2 ⟨pu, rfl, hp, hb⟩
          have hLp := chain (B := w1.heap.size) (a := w1) hL (Nat.le_refl _) hb
          have HOp := Lib.hid (HO.out.keep hb)
          have HRL : Hid ((swRow xs i q).length = (pairsL (termZ xs i) (xs.getD i 0) q).length) := by unfold Hid swRow; rw [List.length_map]
          have HRG : Hid (∀ k, k < (pairsL (termZ xs i) (xs.getD i 0) q).length → (swRow xs i q).getD k [] = [((pairsL (termZ xs i) (xs.getD i 0) q).getD k []).getD 0 0, ((pairsL (termZ xs i) (xs.getD i 0) q).getD k []).getD 1 0, (i : Int), 1 - (q : Int)]) := fun k h => swRow_getD h
          have HLN : Hid (∀ k, (swTo xs i ++ swPos xs i q ++ (swRow xs i q).take k).length ≤ 40) := fun k => by
            have a1 := swTo_len xs i
            have a2 := swPos_len xs i q
            have a3 := swRow_len xs i q
            rw [List.length_append, List.length_append, List.length_take]
            omega
          have HNX : Hid (swTo xs i ++ swPos xs i q ++ swRow xs i q = swTo xs i ++ swPos xs i (q + 1)) := by unfold Hid; rw [swPos_succ, List.append_assoc]
          have HUB : Hid (∀ k, u3.ownBlock = some k → k < wr.heap.size) := fun k e => (World.ownsRow.lt HO.out k e).2
          have HP := Lib.hid hp
          obtain ⟨⟨pc, rfl⟩, hpm, _, _⟩ := hp
          obtain ⟨pb, hpb⟩ : ∃ pb, wr.heap.size = pb := ⟨_, rfl⟩
          rw [hpb] at HP HUB
          have HNE : Hid (u3.ownBlock ≠ some pb) := fun e => absurd (HUB.out pb e) (Nat.lt_irrefl _)
          have hzz := hb.size
          rw [hpb] at hzz ⊢
          clear hb hL HO HUB hpb
          generalize pairsL (termZ xs i) (xs.getD i 0) q = P at *
          have HPC : Hid (∀ (wx : World) (v : Value), ReadsP wx pb v P → ∀ k, k < P.length → wx.cell? ⟨pb, k * 2, none⟩ = some (.int .i64 ((P.getD k []).getD 0 0)) ∧ wx.cell? ⟨pb, k * 2 + 1, none⟩ = some (.int .i64 ((P.getD k []).getD 1 0))) := fun wx v h k hk => ⟨h.2.2.2 k hk 0 (by omega), h.2.2.2 k hk 1 (by omega)⟩
          generalize hM : P.length = M at *
          clear hM
          have hQ : (q : Int) ≤ 1 := by omega
          have hQ1 : 1 - (q : Int) ≤ 1 := by omega
          have hQ2 : 0 ≤ 1 - (q : Int) := by omega
          go_wp2_with fail
          go_loopw [3, 24] (fun u c wr => ∃ k : Nat, k ≤ M ∧ c = .int .i64 (k : Int) ∧ Below w1.heap.size w1 wr ∧ Hid (ReadsP wr pb (.slice (some ⟨pb, 0, none⟩) M pc) P) ∧ Hid (u.ownBlock ≠ some pb) ∧ Hid (OwnsC wr w1.heap.size u (swTo xs i ++ swPos xs i q ++ (swRow xs i q).take k))) (fun _ c _ => M - (intOf c).toNat)
          case atStart => exact ⟨0, Nat.zero_le _, rfl, hLp, HP, HNE, by have := HOp.out; unfold Hid; simpa using this⟩
          case round =>
            clear HP HNE HOp hLp
            obtain ⟨k, hk, rfl, hL, HP, HNE, HO⟩ := hrel
            by_cases hlt3 : k < M
            · obtain ⟨c0, c1⟩ := HPC.out _ _ HP.out k hlt3
              have hj1 : (k : Int) < (M : Int) := by omega
              have hj0 : (0 : Int) ≤ (k : Int) := by omega
              have HT := Lib.hid (take_snoc (R := swRow xs i q) (k := k) (by rw [HRL.out]; exact hlt3))
              rw [HRG.out k hlt3] at HT
              have HN := Lib.hid (HLN.out k)
              generalize (P.getD k []).getD 0 0 = x at *
              generalize (P.getD k []).getD 1 0 = y at *
              have HO2 := Lib.hid (World.ownsRow.alloc HO.out (.cells #[.int .i64 x, .int .i64 y] 133))
              go_wp2_with (at_builtin; (refine wpList_append_own_at _ rfl _ _ 82 rfl w1.heap.size 116 i0 (.agg #[.int .i64 0, .int .i64 0, .int .i64 0, .int .i64 0]) 4 32 Try.underlying82 hi hz0 hz1 hz2 rfl (by decide) u3 _ _ rfl (World.ownsRow.alloc HO2.out _) ⟨_, 0, none⟩ 1 1 [.int .i64 x, .int .i64 y, .int .i64 (i : Int), .int .i64 (1 - (q : Int))] rfl rfl (con_newG _ (by simp) _ _ _ _ _) (by simp [Value.oneCell']) (by have := HN.out; unfold maxLen; omega) (by have := HN.out; omega) (by have := hL.size; simp; omega) ?_; intro v1 w3 hown1 hgrow1 hnil1 hat1; have HO3 := Lib.hid (OwnsC.snoc hown1); have hG1 := (((Below.refl wr.heap.size wr).alloc (Nat.le_refl _) (.cells #[.int .i64 x, .int .i64 y] 133)).alloc (by simp) (.cells #[.int .i64 x, .int .i64 y, .int .i64 (i : Int), .int .i64 (1 - (q : Int))] 116)); have HP3 := Lib.hid ((HP.out.keep hG1).grown hgrow1 HNE.out); have HNE3 : Hid (v1.ownBlock ≠ some pb) := (fun e => hat1.elim (fun e2 => HNE.out (by rw [← e2]; exact e)) (fun e2 => by have := HP.out.2.2.1; rw [e2] at e; simp at e; omega)); have hLb := (hL.trans (hG1.mono hL.size)).grown hgrow1 (by have := hL.size; simp; omega) (fun q e => (World.ownsRow.lt HO.out q e).1); clear hown1 hnil1 hat1 hG1 hgrow1))
              rw [List.append_assoc, ← HT.out] at HO3
              exact ⟨⟨k + 1, by omega, by go_num, hLb, HP3, HNE3, HO3⟩, by simp [intOf]; omega⟩
            · have e : k = M := by omega
              subst e
              have HE : Hid (OwnsC wr w1.heap.size u3 (swTo xs i ++ swPos xs i (q + 1))) := by
                rw [Hid, ← HNX.out]
                have := HO.out
                rwa [List.take_of_length_le (by rw [HRL.out]; exact Nat.le_refl _)] at this
              go_wp2_with fail
              go_roundw
              case rel => exact ⟨q + 1, by omega, by go_num, hL, HE⟩
              case measure => simp [intOf]; omega
        · have e : q = 2 := by omega
          subst e
          have HE : Hid (OwnsC wr w1.heap.size u3 (swTo xs (i + 1))) := by rw [Hid, swTo_succ]; exact HO.out
          go_wp2_with fail
          go_roundw
          case rel => exact ⟨i + 1, by omega, by go_num, hL, HE⟩
          case measure => simp [intOf]; omega
    · have e : i = n := by omega
      subst e
      rw [HEND.out] at HO
      have hLL := chain (B := w.heap.size) (a := w) HL1.out (Nat.le_refl _) hL
      go_wp2_with fail
      go_ret
      exact ⟨_, rfl, OwnsC.low HO.out hz1', hLL⟩

def wireC (r : List Int) : List Int := [r.getD 0 0, r.getD 1 0, 5, 1]
def leadsL (xs : List Int) (yss : List (List Int)) : List (List Int) := yss.map wireC ++ swC xs
theorem wires_snoc {yss : List (List Int)} {k : Nat} (h : k < yss.length) : (yss.take (k + 1)).map wireC = (yss.take k).map wireC ++ [wireC (yss.getD k [])] := by
  rw [take_snoc h, List.map_append]; rfl

set_option maxRecDepth 100000 in
set_option maxHeartbeats 4000000 in
theorem leadsOf_any (v : Value) (p : Int) (xs : List Int) (yss : List (List Int)) (w : World) (ha : ReadsW w v p xs yss) (hs : SwOk xs) (h2 : ∀ i, i < yss.length → (yss.getD i []).length = 2) (h16 : yss.length ≤ 16) :
    Calls Try.prog 77 #[v] w fun e w' => ∃ u, e = .returned u ∧ OwnsC w' w.heap.size u (leadsL xs yss) ∧ Below w.heap.size w w' := by
  obtain ⟨i0, hi, hz0, hz1, hz2⟩ := info_parts infoCon
  obtain ⟨a, ca, b', cb, rfl, hA, hB⟩ := ha
  have HSC := Lib.hid (fun w' (h : Below w.heap.size w w') => switchContacts_any _ xs w' (hA.keep h) hs)
  have HY : Hid (∀ k, k < yss.length → ∃ b off u, b' = some ⟨b, off, none⟩ ∧ w.cell? ⟨b, off + k, none⟩ = some u ∧ Reads w u (yss.getD k [])) := fun k hk => hB.cellW hk
  have HY2 := Lib.hid h2
  have h0 := C3.here w (.int .i64 p) (.slice a xs.length ca) (.slice b' yss.length cb) 28
  have HLS : Hid ((swC xs).length ≤ 20) := by have := swTo_len xs xs.length; have := hs.1.2; unfold Hid swC; omega
  have HEND : Hid (∀ k, k = yss.length → (yss.take k).map wireC ++ swC xs = leadsL xs yss) := fun k h => by subst h; rw [List.take_length]; rfl
  have HTL : Hid (∀ k, k ≤ yss.length → ((yss.take k).map wireC).length = k) := fun k h => by rw [List.length_map, List.length_take]; omega
  have HTS : Hid (∀ k, k < yss.length → (yss.take (k + 1)).map wireC = (yss.take k).map wireC ++ [wireC (yss.getD k [])]) := fun k h => wires_snoc h
  clear hA hB hs h2
  generalize swC xs = SL at *
  generalize xs.length = n at *
  generalize yss.length = m at *
  go_enter Try.func77, Try.ntmps77
  go_wp2_with fail
  go_loopw [3, 9] (fun u c wr => ∃ k : Nat, k ≤ m ∧ c = .int .i64 (k : Int) ∧ Below w.heap.size w wr ∧ C3 wr w.heap.size (.int .i64 p) (.slice a n ca) (.slice b' m cb) ∧ Hid (OwnsC wr (w.heap.size + 1) u ((yss.take k).map wireC))) (fun _ c _ => m - (intOf c).toNat)
  case atStart => exact ⟨0, Nat.zero_le _, rfl, by go_grown, h0, (World.ownsRow_nil _ _ _ _ : OwnsC _ (w.heap.size + 1) _ [])⟩
  case round =>
    clear h0
    obtain ⟨k, hk, rfl, hL, h0, HO⟩ := hrel
    by_cases hlt : k < m
    · obtain ⟨b, off, tu, rfl, hca0, hru⟩ := HY.out k hlt
      have hca := cell_later hL hca0
      have HT := Lib.hid (HTS.out k hlt)
      have HLK := Lib.hid (HTL.out k hk)
      obtain ⟨x, y, hxy⟩ := list2 (HY2.out k hlt)
      have HRU := Lib.hid (hru.keep hL)
      rw [hxy] at HT HRU
      obtain ⟨ua, uc, rfl, _, hcu⟩ := HRU.out
      rcases hcu with hcu | ⟨ub, uo, rfl, hcu⟩
      · cases hcu
      · have c0 : wr.cell? ⟨ub, uo, none⟩ = some (.int .i64 x) := by simpa using hcu 0 (by simp)
        have c1 : wr.cell? ⟨ub, uo + 1, none⟩ = some (.int .i64 y) := by simpa using hcu 1 (by simp)
        have hi1 : (k : Int) < (m : Int) := by omega
        have hi0 : (0 : Int) ≤ (k : Int) := by omega
        have hzb := h0.lt
        have HNB : Hid (u3.ownBlock ≠ some w.heap.size) := fun e => by have := (World.ownsRow.lt HO.out _ e).1; omega
        clear hca0 hru hxy hcu
        generalize (yss.take k).map wireC = L at *
        have HLK1 : Hid (L.length ≤ 16) := by rw [Hid, HLK.out]; omega
        go_wp2_with fail
        go_region_law (refine step_append_lies _ (by rfl) _ _ 82 (by rfl) (w.heap.size + 1) 116 i0 (.agg #[.int .i64 0, .int .i64 0, .int .i64 0, .int .i64 0]) 4 32 Try.underlying82 hi hz0 hz1 hz2 (by rfl) (by decide) u3 L.length (cellsC L L.length L.length) (by rfl) (World.ownsRow.drew (World.ownsRow.alloc HO.out _)) ⟨wr.heap.size, 0, none⟩ 1 1 [.int .i64 x, .int .i64 y, .int .i64 5, .int .i64 1] (by rfl) (by rfl) (World.news_of_block (cs := #[.int .i64 x, .int .i64 y, .int .i64 5, .int .i64 1]) (t := 116) (fr := (0, 0)) (heap_alloc_new wr _)) (by simp [Value.oneCell']) (by decide) (by have := HLK1.out; unfold maxLen; omega) (by have := HLK1.out; omega) (by simp; omega) (wr.heap.size + 1) (by simp) ?_; intro gv cap2 w3 hown hgrow_ hat hlt3; have hgrow : (wr.alloc (.cells #[.int .i64 x, .int .i64 y, .int .i64 5, .int .i64 1] 116)).grownBy w3 u3.ownBlock := ⟨hgrow_.os, hgrow_.tape, hgrow_.output, hgrow_.size, hgrow_.block⟩; have HO3 := Lib.hid (OwnsC.snoc hown); have hL3 := (hL.alloc hL.size _).grown hgrow (by have := hL.size; simp; omega) (fun q e => by have := (World.ownsRow.lt HO.out q e).1; omega); have h03 := (h0.alloc _).grown hgrow HNB.out; clear hown hat hgrow hgrow_)
        all_goals go_wp2_with fail
        all_goals exact ⟨⟨k + 1, by omega, by go_num, hL3, h03, by rw [Hid, HT.out]; exact HO3.out⟩, by simp [intOf]; omega⟩
    · have e := HEND.out k (by omega)
      have HE := Lib.hid e
      have HLK := Lib.hid (HTL.out k hk)
      have HOK := Lib.hid HO
      go_wp2_with fail
      refine (HSC.out _ hL).mono ?_
      rintro e w2 ⟨su, rfl, hs2, hb⟩
      have hL2 := chain (B := w.heap.size) (a := w) hL (Nat.le_refl _) hb
      have HO2 := HO.out.keep hb
      have hzz := hb.size
      have hz0' := h0.lt
      generalize (yss.take k).map wireC = L at *
      obtain ⟨v4, w4, hr4, hown4, hgr4, _⟩ := run_append_two (P := Try.prog) (w := w2) (w.heap.size + 1) _ 82 82 116 i0 (.agg #[.int .i64 0, .int .i64 0, .int .i64 0, .int .i64 0]) 4 32 Try.underlying82 hi hz0 hz1 hz2 (by rfl) (by decide) u3 su L.length SL.length (cellsC L L.length L.length) (cellsC SL SL.length SL.length) HO2 hs2 (cellsC_cells SL SL.length SL.length) (by have := HLK.out; have := HLS.out; unfold maxLen; omega) (by have := HLK.out; have := HLS.out; omega) (by omega)
      have hL4 := hL2.grown ⟨hgr4.os, hgr4.tape, hgr4.output, hgr4.size, hgr4.block⟩ (by omega) (fun q e => by have := (World.ownsRow.lt HO2 q e).1; omega)
      have HO4 : Hid (OwnsC w4 w.heap.size v4 (L ++ SL)) := by
        refine OwnsC.low (B := w.heap.size + 1) ?_ (by omega)
        unfold OwnsC
        rw [← cellsC_app, List.length_append]
        exact hown4
      rw [HE.out] at HO4
      clear hown4 hgr4 hs2 hb HO2
      go_wp2_with (at_builtin; refine Lib.wpList_append_run _ rfl _ _ _ _ rfl _ _ rfl rfl _ _ hr4 ?_)
      go_ret
      exact ⟨_, rfl, HO4.out, hL4⟩

end Go.Proofs.Ytkdidplpnhokiaa
