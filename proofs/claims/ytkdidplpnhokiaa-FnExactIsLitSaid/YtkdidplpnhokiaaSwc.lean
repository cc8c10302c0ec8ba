/- What switches join, as contacts between terminals. -/
import Derived.Test.YtkdidplpnhokiaaTe
import Derived.Test.YtkdidplpnhokiaaCts
import Derived.Deep.AppendLies
import Derived.Deep.RegionLaw
import Derived.BigRegion
import Derived.Deep.RegionWith
namespace Go.Proofs.Ytkdidplpnhokiaa
open Go.RowKit
set_option linter.unusedVariables false

/-- the pairs that a switch of so many terminals from t on joins in a position -/
def pairsL (t size : Int) (q : Nat) : List (List Int) := if size = 3 then [[t, t + 1 + (q : Int)]] else [[t, t + 2 + (q : Int)], [t + 1, t + 3 - (q : Int)]]
theorem pairsL_len (t size : Int) (q : Nat) : (pairsL t size q).length ≤ 2 := by unfold pairsL; split <;> simp
/-- the contacts of the switch i in a position -/
def swRow (xs : List Int) (i q : Nat) : List (List Int) := (pairsL (termZ xs i) (xs.getD i 0) q).map fun r => [r.getD 0 0, r.getD 1 0, (i : Int), 1 - (q : Int)]
def swPos (xs : List Int) (i q : Nat) : List (List Int) := (List.range q).flatMap (swRow xs i)
def swTo (xs : List Int) (i : Nat) : List (List Int) := (List.range i).flatMap fun i => swPos xs i 2
theorem swPos_succ (xs : List Int) (i q : Nat) : swPos xs i (q + 1) = swPos xs i q ++ swRow xs i q := by unfold swPos; rw [List.range_succ, List.flatMap_append]; simp
theorem swTo_succ (xs : List Int) (i : Nat) : swTo xs (i + 1) = swTo xs i ++ swPos xs i 2 := by unfold swTo; rw [List.range_succ, List.flatMap_append]; simp
theorem swRow_len (xs : List Int) (i q : Nat) : (swRow xs i q).length ≤ 2 := by unfold swRow; rw [List.length_map]; exact pairsL_len _ _ _
theorem swPos_len (xs : List Int) (i q : Nat) : (swPos xs i q).length ≤ 2 * q := by
  induction q with
  | zero => exact Nat.le_refl _
  | succ q ih => rw [swPos_succ, List.length_append]; have := swRow_len xs i q; omega
theorem swTo_len (xs : List Int) (i : Nat) : (swTo xs i).length ≤ 4 * i := by
  induction i with
  | zero => exact Nat.le_refl _
  | succ i ih => rw [swTo_succ, List.length_append]; have := swPos_len xs i 2; omega
theorem cellsC_app (xss yss : List (List Int)) : cellsC xss xss.length xss.length ++ cellsC yss yss.length yss.length = cellsC (xss ++ yss) (xss ++ yss).length (xss ++ yss).length := by
  unfold cellsC
  apply List.ext_getElem
  · simp only [List.length_append, List.length_map, List.length_range]; omega
  · intro q h1 h2
    simp only [List.length_append, List.length_map, List.length_range] at h1 h2
    by_cases hq : q < xss.length * 4
    · rw [List.getElem_append_left (by simpa using hq)]
      simp only [List.getElem_map, List.getElem_range, List.length_append]
      have e : (xss ++ yss).getD (q / 4) [] = xss.getD (q / 4) [] := by simp only [List.getD_eq_getElem?_getD]; rw [List.getElem?_append_left (by omega)]
      rw [if_pos (by omega), if_pos (by omega), e]
    · rw [List.getElem_append_right (by simp; omega)]
      simp only [List.getElem_map, List.getElem_range, List.length_append, List.length_map, List.length_range]
      have e1 : (q - xss.length * 4) / 4 = q / 4 - xss.length := by omega
      have e2 : (q - xss.length * 4) % 4 = q % 4 := by omega
      have e : (xss ++ yss).getD (q / 4) [] = yss.getD (q / 4 - xss.length) [] := by simp only [List.getD_eq_getElem?_getD]; rw [List.getElem?_append_right (by omega)]
      rw [e1, e2, if_pos (by omega), if_pos (by omega), e]
theorem OwnsC.low {w : World} {B B' : Nat} {u : Value} {L : List (List Int)} (h : OwnsC w B u L) (hB : B' ≤ B) : OwnsC w B' u L := by
  refine ⟨h.1, ?_⟩
  rcases h.2 with hn | ⟨g, cap, cur, rfl, hb, hgg, rest⟩
  · exact .inl hn
  · exact .inr ⟨g, cap, cur, rfl, by omega, hgg, rest⟩
theorem cellsC_cells (xss : List (List Int)) (n k : Nat) : ∀ u ∈ cellsC xss n k, u.oneCell' = true := by
  intro u hu
  unfold cellsC at hu
  obtain ⟨q, _, rfl⟩ := List.mem_map.1 hu
  rfl
theorem cellsC_1 (c0 c1 c2 c3 : Int) : cellsC [[c0, c1, c2, c3]] 1 1 = [.int .i64 c0, .int .i64 c1, .int .i64 c2, .int .i64 c3] := rfl
/-- one contact more -/
theorem OwnsC.snoc {w : World} {B : Nat} {u : Value} {L : List (List Int)} {c0 c1 c2 c3 : Int}
    (h : w.ownsRow B 116 4 u (L.length + 1) (cellsC L L.length L.length ++ [.int .i64 c0, .int .i64 c1, .int .i64 c2, .int .i64 c3])) : OwnsC w B u (L ++ [[c0, c1, c2, c3]]) := by
  unfold OwnsC
  rw [← cellsC_app, show [[c0, c1, c2, c3]].length = 1 from rfl, cellsC_1, List.length_append]
  exact h
theorem con_new (w : World) (c0 c1 c2 c3 : Int) (t : TypeId) : ∀ j u, [Value.int .i64 c0, .int .i64 c1, .int .i64 c2, .int .i64 c3][j]? = some u → (w.alloc (.cells #[.int .i64 c0, .int .i64 c1, .int .i64 c2, .int .i64 c3] t)).cell? ((⟨w.heap.size, 0, none⟩ : Addr).add j) = some u := by
  intro j u h
  have ea : (⟨w.heap.size, 0, none⟩ : Addr).add j = ⟨w.heap.size, j, none⟩ := by
    unfold Addr.add; split
    · rename_i h; subst h; rfl
    · rw [Nat.zero_add]
  rw [ea, World.cell?_alloc_at _ _ _ _ rfl]
  have hj : j < 4 := by
    obtain ⟨h, _⟩ := List.getElem?_eq_some_iff.1 h
    simpa using h
  have hj' : j = 0 ∨ j = 1 ∨ j = 2 ∨ j = 3 := by omega
  rcases hj' with rfl | rfl | rfl | rfl <;> exact h
theorem con_newG {g : Nat} (w : World) (hg : g = w.heap.size) (c0 c1 c2 c3 : Int) (t : TypeId) : ∀ j u, [Value.int .i64 c0, .int .i64 c1, .int .i64 c2, .int .i64 c3][j]? = some u → (w.alloc (.cells #[.int .i64 c0, .int .i64 c1, .int .i64 c2, .int .i64 c3] t)).cell? ((⟨g, 0, none⟩ : Addr).add j) = some u := by
  subst hg; exact con_new w c0 c1 c2 c3 t

/-- the slice v of arrays of two in block b reads as the pairs P -/
def ReadsP (w : World) (b : Nat) (v : Value) (P : List (List Int)) : Prop :=
  (∃ (cap : Nat), v = .slice (some ⟨b, 0, none⟩) P.length cap) ∧ P.length ≤ 2 ∧ b < w.heap.size ∧ ∀ i, i < P.length → ∀ j, j < 2 → w.cell? ⟨b, i * 2 + j, none⟩ = some (.int .i64 ((P.getD i []).getD j 0))
theorem ReadsP.keep {w w' : World} {b : Nat} {v : Value} {P : List (List Int)} (h : ReadsP w b v P) (hb : Below w.heap.size w w') : ReadsP w' b v P := by
  obtain ⟨hv, hm, hz, h⟩ := h
  exact ⟨hv, hm, Nat.lt_of_lt_of_le hz hb.size, fun i hi j hj => cell_later hb (h i hi j hj)⟩
theorem ReadsP.grown {w w' : World} {b : Nat} {v : Value} {P : List (List Int)} {row : Option Nat} (h : ReadsP w b v P) (hg : w.grownBy w' row) (hne : row ≠ some b) : ReadsP w' b v P := by
  obtain ⟨hv, hm, hz, h⟩ := h
  refine ⟨hv, hm, Nat.lt_of_lt_of_le hz hg.size, fun i hi j hj => ?_⟩
  rw [← h i hi j hj]
  exact World.cell?_of_block (w := w) (hg.block b hz (Ne.symm hne))
theorem readsP_one (w : World) (x y : Int) (t : TypeId) : ReadsP (w.alloc (.cells #[.int .i64 x, .int .i64 y] t)) w.heap.size (.slice (some ⟨w.heap.size, 0, none⟩) 1 1) [[x, y]] := by
  refine ⟨⟨1, rfl⟩, by simp, by simp, fun i hi j hj => ?_⟩
  have hi' : i = 0 := by simpa using hi
  subst hi'
  rw [World.cell?_alloc_at _ _ _ _ rfl]
  have hj' : j = 0 ∨ j = 1 := by omega
  rcases hj' with rfl | rfl <;> rfl
theorem readsP_two (w : World) (x y x' y' : Int) (t : TypeId) : ReadsP (w.alloc (.cells #[.int .i64 x, .int .i64 y, .int .i64 x', .int .i64 y'] t)) w.heap.size (.slice (some ⟨w.heap.size, 0, none⟩) 2 2) [[x, y], [x', y']] := by
  refine ⟨⟨2, rfl⟩, by simp, by simp, fun i hi j hj => ?_⟩
  have hi' : i = 0 ∨ i = 1 := by have : i < 2 := hi; omega
  have hj' : j = 0 ∨ j = 1 := by omega
  rw [World.cell?_alloc_at _ _ _ _ rfl]
  rcases hi' with rfl | rfl <;> rcases hj' with rfl | rfl <;> rfl

set_option maxRecDepth 100000 in
set_option maxHeartbeats 2000000 in
theorem pairsIn_any (v : Value) (t size : Int) (q : Nat) (w : World) (ha : Reads w v (iota t size.toNat)) (hs : size = 3 ∨ size = 4) (hq : q < 2) (h0 : 0 ≤ t) (h1 : t ≤ 1000) :
    Calls Try.prog 135 #[v, .int .i64 (q : Int)] w fun e w' => ∃ u, e = .returned u ∧ ReadsP w' w.heap.size u (pairsL t size q) ∧ Below w.heap.size w w' := by
  obtain ⟨a, ca, rfl, hm, ha⟩ := ha
  rw [iota_len] at *
  have hq2 : q = 0 ∨ q = 1 := by omega
  rcases ha with h | ⟨b, off, rfl, h⟩
  · have := congrArg List.length h
    rw [iota_len] at this
    simp at this; omega
  · have hc : ∀ i, i < size.toNat → w.cell? ⟨b, off + i, none⟩ = some (.int .i64 (t + (i : Int))) := fun i hi => by
      rw [h i hi, iota_getD _ hi]
    clear h hm
    rcases hs with rfl | rfl
    · have c0 : w.cell? ⟨b, off, none⟩ = some (.int .i64 t) := by simpa using hc 0 (by decide)
      have c1 : w.cell? ⟨b, off + 1, none⟩ = some (.int .i64 (t + 1)) := by simpa using hc 1 (by decide)
      have c2 : w.cell? ⟨b, off + 2, none⟩ = some (.int .i64 (t + 2)) := by simpa using hc 2 (by decide)
      clear hc
      rcases hq2 with rfl | rfl
      · have HP : Hid (pairsL t 3 0 = [[t, t + 1]]) := by unfold Hid pairsL; simp
        generalize t + 1 = t1 at *
        generalize t + 2 = t2 at *
        go_enter Try.func135, Try.ntmps135
        go_wp2_with fail
        go_region
        all_goals go_wp2_with fail
        all_goals go_ret
        all_goals exact ⟨_, rfl, by rw [HP.out]; exact readsP_one _ _ _ _, by go_grown⟩
      · have HP : Hid (pairsL t 3 1 = [[t, t + 2]]) := by unfold Hid pairsL; simp; omega
        generalize t + 1 = t1 at *
        generalize t + 2 = t2 at *
        go_enter Try.func135, Try.ntmps135
        go_wp2_with fail
        go_region
        all_goals go_wp2_with fail
        all_goals go_ret
        all_goals exact ⟨_, rfl, by rw [HP.out]; exact readsP_one _ _ _ _, by go_grown⟩
    · have c0 : w.cell? ⟨b, off, none⟩ = some (.int .i64 t) := by simpa using hc 0 (by decide)
      have c1 : w.cell? ⟨b, off + 1, none⟩ = some (.int .i64 (t + 1)) := by simpa using hc 1 (by decide)
      have c2 : w.cell? ⟨b, off + 2, none⟩ = some (.int .i64 (t + 2)) := by simpa using hc 2 (by decide)
      have c3 : w.cell? ⟨b, off + 3, none⟩ = some (.int .i64 (t + 3)) := by simpa using hc 3 (by decide)
      clear hc
      rcases hq2 with rfl | rfl
      · have HP : Hid (pairsL t 4 0 = [[t, t + 2], [t + 1, t + 3]]) := by unfold Hid pairsL; simp
        generalize t + 1 = t1 at *
        generalize t + 2 = t2 at *
        generalize t + 3 = t3 at *
        go_enter Try.func135, Try.ntmps135
        go_wp2_with fail
        go_region
        all_goals go_wp2_with fail
        all_goals go_ret
        all_goals exact ⟨_, rfl, by rw [HP.out]; exact readsP_two _ _ _ _ _ _, by go_grown⟩
      · have HP : Hid (pairsL t 4 1 = [[t, t + 3], [t + 1, t + 2]]) := by unfold Hid pairsL; simp; omega
        generalize t + 1 = t1 at *
        generalize t + 2 = t2 at *
        generalize t + 3 = t3 at *
        go_enter Try.func135, Try.ntmps135
        go_wp2_with fail
        go_region
        all_goals go_wp2_with fail
        all_goals go_ret
        all_goals exact ⟨_, rfl, by rw [HP.out]; exact readsP_two _ _ _ _ _ _, by go_grown⟩

def swC (xs : List Int) : List (List Int) := swTo xs xs.length
theorem take_snoc {R : List (List Int)} {k : Nat} (h : k < R.length) : R.take (k + 1) = R.take k ++ [R.getD k []] := by
  rw [List.take_succ_eq_append_getElem h]
  simp [List.getD_eq_getElem?_getD, h]
theorem swRow_getD {xs : List Int} {i q k : Nat} (h : k < (pairsL (termZ xs i) (xs.getD i 0) q).length) : (swRow xs i q).getD k [] = [((pairsL (termZ xs i) (xs.getD i 0) q).getD k []).getD 0 0, ((pairsL (termZ xs i) (xs.getD i 0) q).getD k []).getD 1 0, (i : Int), 1 - (q : Int)] := by
  unfold swRow
  generalize pairsL (termZ xs i) (xs.getD i 0) q = P at *
  have e : P.getD k [] = P[k] := by simp [List.getD_eq_getElem?_getD, h]
  rw [e, List.getD_eq_getElem?_getD, List.getElem?_map, List.getElem?_eq_getElem h]
  rfl

set_option maxRecDepth 100000 in
set_option maxHeartbeats 4000000 in
theorem switchContacts_any (v : Value) (xs : List Int) (w : World) (ha : Reads w v xs) (hs : SwOk xs) :
    Calls Try.prog 109 #[v] w fun e w' => ∃ u, e = .returned u ∧ OwnsC w' w.heap.size u (swC xs) ∧ Below w.heap.size w w' := by
  obtain ⟨i0, hi, hz0, hz1, hz2⟩ := info_parts infoCon
  have HTE := Lib.hid (terminalsOf_any v xs w ha hs)
  obtain ⟨a, ca, rfl, hm, _⟩ := ha
  have h5 := hs.1.2
  have HPI : Hid (∀ (i q : Nat) (u : Value) (w' : World), i < xs.length → q < 2 → Reads w' u (partL xs i) → Calls Try.prog 135 #[u, .int .i64 (q : Int)] w' fun e w'' => ∃ u, e = .returned u ∧ ReadsP w'' w'.heap.size u (pairsL (termZ xs i) (xs.getD i 0) q) ∧ Below w'.heap.size w' w'') := fun i q u w' h1 h2 h3 => by
    have hb := termZ_bd hs (k := i) (by omega)
    exact pairsIn_any u _ _ q w' h3 (hs.2 i h1) h2 (by omega) (by omega)
  have HPT : Hid (∀ i, i < xs.length → (partsL xs).getD i [] = partL xs i) := fun i h => partsL_getD xs h
  have HLEN : Hid ((partsL xs).length = xs.length) := partsL_len xs
  have HEND : Hid (swTo xs xs.length = swC xs) := rfl
  clear hs
  generalize xs.length = n at *
  go_enter Try.func109, Try.ntmps109
  go_wp2_with fail
  refine HTE.out.mono ?_
  rintro e w1 ⟨tv, rfl, ht, hb⟩
  have HT := Lib.hid ht
  obtain ⟨ta, tc, rfl, htm, _⟩ := ht
  have HTC : Hid (∀ k, k < n → ∃ b off u, ta = some ⟨b, off, none⟩ ∧ w1.cell? ⟨b, off + k, none⟩ = some u ∧ Reads w1 u (partL xs k)) := fun k hk => by
    have := HT.out.cellW (k := k) (by rw [HLEN.out]; exact hk)
    rwa [HPT.out k hk] at this
  have HL1 := Lib.hid hb
  have hz1' := hb.size
  rw [HLEN.out] at *
  clear HT hb htm
  go_wp2_with fail
  go_loopw [3, 12] (fun u c wr => ∃ i : Nat, i ≤ n ∧ c = .int .i64 (i : Int) ∧ Below w1.heap.size w1 wr ∧ Hid (OwnsC wr w1.heap.size u (swTo xs i))) (fun _ c _ => n - (intOf c).toNat)
  case atStart => exact ⟨0, Nat.zero_le _, rfl, Below.refl _ _, (World.ownsRow_nil _ _ _ _ : OwnsC _ w1.heap.size _ [])⟩
  case round =>
    obtain ⟨i, hi', rfl, hL, HO⟩ := hrel
    by_cases hlt : i < n
    · obtain ⟨b, off, tu, rfl, hca0, hru⟩ := HTC.out i hlt
      have hca := cell_later hL hca0
      have HRU := Lib.hid hru
      have hi1 : (i : Int) < (n : Int) := by omega
      have hi0 : (0 : Int) ≤ (i : Int) := by omega
      obtain ⟨wi, hwi⟩ : ∃ wi : World, wi = wr := ⟨_, rfl⟩
      have HLi : Hid (Below w1.heap.size w1 wi) := by rw [hwi]; exact hL
      have HOi : Hid (OwnsC wi w1.heap.size u3 (swTo xs i)) := by rw [hwi]; exact HO
      subst hwi
      clear hca0 hru hL HO
      go_wp2_with fail
      go_loopw [3, 17] (fun u c wr => ∃ q : Nat, q ≤ 2 ∧ c = .int .i64 (q : Int) ∧ Below w1.heap.size w1 wr ∧ Hid (OwnsC wr w1.heap.size u (swTo xs i ++ swPos xs i q))) (fun _ c _ => 2 - (intOf c).toNat)
      case atStart => exact ⟨0, Nat.zero_le _, rfl, HLi.out, by have := HOi.out; unfold Hid; simpa [swPos] using this⟩
      case round =>
        obtain ⟨q, hq, rfl, hL, HO⟩ := hrel
        by_cases hq2 : q < 2
        · have hq1 : (q : Int) < 2 := by omega
          have hq0 : (0 : Int) ≤ (q : Int) := by omega
          go_wp2_with fail
          refine (HPI.out i q _ _ hlt hq2 (HRU.out.keep hL)).mono ?_
          rintro e w2 ⟨pu, rfl, hp, hb⟩
          have hLp := chain (B := w1.heap.size) (a := w1) hL (Nat.le_refl _) hb
          have HOp := Lib.hid (HO.out.keep hb)
          have HRL : Hid ((swRow xs i q).length = (pairsL (termZ xs i) (xs.getD i 0) q).length) := by unfold Hid swRow; rw [List.length_map]
          have HRG : Hid (∀ k, k < (pairsL (termZ xs i) (xs.getD i 0) q).length → (swRow xs i q).getD k [] = [((pairsL (termZ xs i) (xs.getD i 0) q).getD k []).getD 0 0, ((pairsL (termZ xs i) (xs.getD i 0) q).getD k []).getD 1 0, (i : Int), 1 - (q : Int)]) := fun k h => swRow_getD h
          have HLN : Hid (∀ k, (swTo xs i ++ swPos xs i q ++ (swRow xs i q).take k).length ≤ 40) := fun k => by
            have a1 := swTo_len xs i
            have a2 := swPos_len xs i q
            have a3 := swRow_len xs i q
            rw [List.length_append, List.length_append, List.length_take]
            omega
          have HNX : Hid (swTo xs i ++ swPos xs i q ++ swRow xs i q = swTo xs i ++ swPos xs i (q + 1)) := by unfold Hid; rw [swPos_succ, List.append_assoc]
          have HUB : Hid (∀ k, u3.ownBlock = some k → k < wr.heap.size) := fun k e => (World.ownsRow.lt HO.out k e).2
          have HP := Lib.hid hp
          obtain ⟨⟨pc, rfl⟩, hpm, _, _⟩ := hp
          obtain ⟨pb, hpb⟩ : ∃ pb, wr.heap.size = pb := ⟨_, rfl⟩
          rw [hpb] at HP HUB
          have HNE : Hid (u3.ownBlock ≠ some pb) := fun e => absurd (HUB.out pb e) (Nat.lt_irrefl _)
          have hzz := hb.size
          rw [hpb] at hzz ⊢
          clear hb hL HO HUB hpb
          generalize pairsL (termZ xs i) (xs.getD i 0) q = P at *
          have HPC : Hid (∀ (wx : World) (v : Value), ReadsP wx pb v P → ∀ k, k < P.length → wx.cell? ⟨pb, k * 2, none⟩ = some (.int .i64 ((P.getD k []).getD 0 0)) ∧ wx.cell? ⟨pb, k * 2 + 1, none⟩ = some (.int .i64 ((P.getD k []).getD 1 0))) := fun wx v h k hk => ⟨h.2.2.2 k hk 0 (by omega), h.2.2.2 k hk 1 (by omega)⟩
          generalize hM : P.length = M at *
          clear hM
          have hQ : (q : Int) ≤ 1 := by omega
          have hQ1 : 1 - (q : Int) ≤ 1 := by omega
          have hQ2 : 0 ≤ 1 - (q : Int) := by omega
          go_wp2_with fail
          go_loopw [3, 24] (fun u c wr => ∃ k : Nat, k ≤ M ∧ c = .int .i64 (k : Int) ∧ Below w1.heap.size w1 wr ∧ Hid (ReadsP wr pb (.slice (some ⟨pb, 0, none⟩) M pc) P) ∧ Hid (u.ownBlock ≠ some pb) ∧ Hid (OwnsC wr w1.heap.size u (swTo xs i ++ swPos xs i q ++ (swRow xs i q).take k))) (fun _ c _ => M - (intOf c).toNat)
          case atStart => exact ⟨0, Nat.zero_le _, rfl, hLp, HP, HNE, by have := HOp.out; unfold Hid; simpa using this⟩
          case round =>
            clear HP HNE HOp hLp
            obtain ⟨k, hk, rfl, hL, HP, HNE, HO⟩ := hrel
            by_cases hlt3 : k < M
            · obtain ⟨c0, c1⟩ := HPC.out _ _ HP.out k hlt3
              have hj1 : (k : Int) < (M : Int) := by omega
              have hj0 : (0 : Int) ≤ (k : Int) := by omega
              have HT := Lib.hid (take_snoc (R := swRow xs i q) (k := k) (by rw [HRL.out]; exact hlt3))
              rw [HRG.out k hlt3] at HT
              have HN := Lib.hid (HLN.out k)
              generalize (P.getD k []).getD 0 0 = x at *
              generalize (P.getD k []).getD 1 0 = y at *
              have HO2 := Lib.hid (World.ownsRow.alloc HO.out (.cells #[.int .i64 x, .int .i64 y] 133))
              go_wp2_with (at_builtin; (refine wpList_append_own_at _ rfl _ _ 82 rfl w1.heap.size 116 i0 (.agg #[.int .i64 0, .int .i64 0, .int .i64 0, .int .i64 0]) 4 32 Try.underlying82 hi hz0 hz1 hz2 rfl (by decide) u3 _ _ rfl (World.ownsRow.alloc HO2.out _) ⟨_, 0, none⟩ 1 1 [.int .i64 x, .int .i64 y, .int .i64 (i : Int), .int .i64 (1 - (q : Int))] rfl rfl (con_newG _ (by simp) _ _ _ _ _) (by simp [Value.oneCell']) (by have := HN.out; unfold maxLen; omega) (by have := HN.out; omega) (by have := hL.size; simp; omega) ?_; intro v1 w3 hown1 hgrow1 hnil1 hat1; have HO3 := Lib.hid (OwnsC.snoc hown1); have hG1 := (((Below.refl wr.heap.size wr).alloc (Nat.le_refl _) (.cells #[.int .i64 x, .int .i64 y] 133)).alloc (by simp) (.cells #[.int .i64 x, .int .i64 y, .int .i64 (i : Int), .int .i64 (1 - (q : Int))] 116)); have HP3 := Lib.hid ((HP.out.keep hG1).grown hgrow1 HNE.out); have HNE3 : Hid (v1.ownBlock ≠ some pb) := (fun e => hat1.elim (fun e2 => HNE.out (by rw [← e2]; exact e)) (fun e2 => by have := HP.out.2.2.1; rw [e2] at e; simp at e; omega)); have hLb := (hL.trans (hG1.mono hL.size)).grown hgrow1 (by have := hL.size; simp; omega) (fun q e => (World.ownsRow.lt HO.out q e).1); clear hown1 hnil1 hat1 hG1 hgrow1))
              rw [List.append_assoc, ← HT.out] at HO3
              exact ⟨⟨k + 1, by omega, by go_num, hLb, HP3, HNE3, HO3⟩, by simp [intOf]; omega⟩
            · have e : k = M := by omega
              subst e
              have HE : Hid (OwnsC wr w1.heap.size u3 (swTo xs i ++ swPos xs i (q + 1))) := by
                rw [Hid, ← HNX.out]
                have := HO.out
                rwa [List.take_of_length_le (by rw [HRL.out]; exact Nat.le_refl _)] at this
              go_wp2_with fail
              go_roundw
              case rel => exact ⟨q + 1, by omega, by go_num, hL, HE⟩
              case measure => simp [intOf]; omega
        · have e : q = 2 := by omega
          subst e
          have HE : Hid (OwnsC wr w1.heap.size u3 (swTo xs (i + 1))) := by rw [Hid, swTo_succ]; exact HO.out
          go_wp2_with fail
          go_roundw
          case rel => exact ⟨i + 1, by omega, by go_num, hL, HE⟩
          case measure => simp [intOf]; omega
    · have e : i = n := by omega
      subst e
      rw [HEND.out] at HO
      have hLL := chain (B := w.heap.size) (a := w) HL1.out (Nat.le_refl _) hL
      go_wp2_with fail
      go_ret
      exact ⟨_, rfl, OwnsC.low HO.out hz1', hLL⟩

end Go.Proofs.Ytkdidplpnhokiaa
