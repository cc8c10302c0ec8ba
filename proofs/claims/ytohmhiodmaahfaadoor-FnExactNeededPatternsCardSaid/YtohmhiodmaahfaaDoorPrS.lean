/- All patterns, and the prime ones: the model's. -/
import Derived.Test.YtohmhiodmaahfaaDoorPatS
import Derived.Test.YtohmhiodmaahfaaDoorJt
import Derived.Deep.RegionWith
import Derived.Deep.RegionLaw
import Derived.Deep.AppendLies
namespace Go.Proofs.YtohmhiodmaahfaaDoor
open Go.RowKit
set_option linter.unusedVariables false

theorem allP_step {N k j : Nat} (hj : j < (allP k).length) : joinT ((allP k).take (j + 1)) signsL = joinT ((allP k).take j) signsL ++ [(allP k).getD j ByteArray.empty ++ ⟨#[45]⟩, (allP k).getD j ByteArray.empty ++ ⟨#[48]⟩, (allP k).getD j ByteArray.empty ++ ⟨#[49]⟩] := by
  rw [joinT_take hj]; rfl
theorem OwnsS.three {w : World} {base : Nat} {v : Value} {l : List ByteArray} {a b c : ByteArray} (h : w.ownsRow base 9 1 v (l.length + 3) (l.map Value.string ++ [.string a, .string b, .string c])) : OwnsS w base v (l ++ [a, b, c]) := by
  unfold OwnsS
  rw [List.length_append, List.map_append]
  exact h

theorem cell_three_new (w : World) (x0 x1 x2 : Value) (t : TypeId) : ∀ j u, [x0, x1, x2][j]? = some u → (w.alloc (.cells #[x0, x1, x2] t)).cell? ((⟨w.heap.size, 0, none⟩ : Addr).add j) = some u := by
  intro j u hj
  have h5 : j < 3 := by
    rcases Nat.lt_or_ge j 3 with h | h
    · exact h
    · rw [List.getElem?_eq_none (by simpa using h)] at hj; cases hj
  have e : (⟨w.heap.size, 0, none⟩ : Addr).add j = ⟨w.heap.size, j, none⟩ := by rw [Addr.add_lit, Nat.zero_add]
  rw [e, World.cell?_alloc_at _ _ _ _ rfl]
  rcases (show j = 0 ∨ j = 1 ∨ j = 2 by omega) with rfl | rfl | rfl <;> exact hj

set_option maxRecDepth 100000 in
set_option maxHeartbeats 4000000 in
theorem l08All_any (n : Int) (w : World) (n1 : 1 ≤ n) (n5 : n ≤ 5) :
    Calls Tryd.prog 75 #[.int .i64 n] w fun e w' => ∃ q, e = .returned q ∧ OwnsS w' w.heap.size q (allP n.toNat) ∧ Below w.heap.size w w' := by
  obtain ⟨i0, hi0, hz0, hz1, hz2⟩ := info_parts infoStr
  obtain ⟨N, rfl⟩ : ∃ N : Nat, n = (N : Int) := ⟨n.toNat, by omega⟩
  simp only [Int.toNat_natCast]
  have hL3 : Hid (∀ k, k ≤ N → (allP k).length ≤ 243) := fun k hk => by rw [allP_len]; exact pow3 (by omega)
  have HSz : Hid (∀ k j, k ≤ N → j < (allP k).length → ((allP k).getD j ByteArray.empty).size ≤ 5) := fun k j hk hj => by
    rw [List.getD_eq_getElem?_getD, List.getElem?_eq_getElem hj]
    have := (allP_mem k _ (List.getElem_mem hj)).1
    simp only [Option.getD_some]; omega
  have HSt := Lib.hid (fun k j (hj : j < (allP k).length) => allP_step (N := N) (k := k) hj)
  have H0 : Hid (∀ k, joinT ((allP k).take 0) signsL = []) := fun k => by unfold joinT; simp
  have HE : Hid (∀ k, joinT ((allP k).take (allP k).length) signsL = allP (k + 1)) := fun k => by rw [List.take_length]; rfl
  have HJl : Hid (∀ k j, k < N → j ≤ (allP k).length → (joinT ((allP k).take j) signsL).length ≤ 800) := fun k j hk hj => by
    have := hL3.out k (by omega)
    rw [joinT_len, List.length_take]
    have h3 : signsL.length = 3 := rfl
    rw [h3]; omega
  have hL0 : Below w.heap.size w (w.alloc (.cells #[.string ByteArray.empty] 9)) := by go_grown
  have hO0 : OwnsS (w.alloc (.cells #[.string ByteArray.empty] 9)) w.heap.size (.slice (some ⟨w.heap.size, 0, none⟩) 1 1) (allP 0) :=
    ⟨rfl, .inr ⟨w.heap.size, 1, #[.string ByteArray.empty], rfl, Nat.le_refl _, heap_alloc_new w _, Nat.le_refl _, by simp [maxLen], by simp, by simp [allP]⟩⟩
  have hN5 : N ≤ 5 := by omega
  have HMade := Lib.hid (fun w : World => (World.ownsRow_made (base := w.heap.size) (e := 9) (size := 1) w #[] 0 (by simp) (by simp) rfl : OwnsS (w.alloc (.cells #[] 9)) w.heap.size (.slice (some ⟨w.heap.size, 0, none⟩) 0 0) []))
  clear n1 n5
  go_enter Tryd.func75, Tryd.ntmps75
  go_wp2_with fail
  go_loopw [3, 4] (fun u c wr => ∃ k : Nat, k ≤ N ∧ c = .int .i64 (k : Int) ∧ Below w.heap.size w wr ∧ Hid (OwnsS wr w.heap.size u (allP k))) (fun _ c _ => N - (intOf c).toNat)
  case atStart => exact ⟨0, Nat.zero_le _, rfl, hL0, hO0⟩
  case round =>
    clear hL0 hO0
    obtain ⟨k, hk, rfl, hL, hO⟩ := hrel
    by_cases hkl : k < N
    · have hk1 : (k : Int) < (N : Int) := by omega
      obtain ⟨ua, uc, rfl, hcs⟩ := hO.out.rd
      have HCS := Lib.hid hcs
      have HSk := Lib.hid (fun j hj => HSz.out k j hk hj)
      have HStk := Lib.hid (fun j hj => HSt.out k j hj)
      have HJk := Lib.hid (fun j hj => HJl.out k j hkl hj)
      have HEk := Lib.hid (HE.out k)
      have H0k := Lib.hid (H0.out k)
      have hm := hL3.out k hk
      have HM1 := Lib.hid (HMade.out wr)
      have hzr := hL.size
      clear hcs hO
      generalize hmm : (allP k).length = m at *
      clear hmm
      have hLb := Below.refl (wr.alloc (.cells #[] 9)).heap.size (wr.alloc (.cells #[] 9))
      have hLr : Below wr.heap.size wr (wr.alloc (.cells #[] 9)) := (Below.refl _ _).alloc (Nat.le_refl _) _
      have hLw : Below w.heap.size w (wr.alloc (.cells #[] 9)) := hL.alloc hzr _
      have HO1 : Hid (OwnsS (wr.alloc (.cells #[] 9)) wr.heap.size (.slice (some ⟨wr.heap.size, 0, none⟩) 0 0) (joinT ((allP k).take 0) signsL)) := by rw [H0k.out]; exact HM1.out
      generalize wr = wa at *
      go_wp2_with fail
      go_loopw [5, 6] (fun q c wy => ∃ j : Nat, j ≤ m ∧ c = .int .i64 (j : Int) ∧ Below w.heap.size w wy ∧ Below wa.heap.size wa wy ∧ Hid (OwnsS wy wa.heap.size q (joinT ((allP k).take j) signsL))) (fun _ c _ => m - (intOf c).toNat)
      case atStart => exact ⟨0, Nat.zero_le _, rfl, hLw, hLr, HO1⟩
      case round =>
        clear hLw hLr HO1 hLb HM1
        obtain ⟨j, hj, rfl, hLw, hLr, hO⟩ := hrel
        by_cases hjl : j < m
        · obtain ⟨g, rfl, hc0⟩ := HCS.out j hjl
          have hca := cell_later hLr hc0
          have hj1 : (j : Int) < (m : Int) := by omega
          have hj0 : (0 : Int) ≤ (j : Int) := by omega
          have hsj := HSk.out j hjl
          have HN := Lib.hid (HStk.out j hjl)
          have hlen := HJk.out j hj
          have hz := hLr.size
          have hfrom := Lib.hid hO.out.lt
          obtain ⟨qa, qc, rfl, _⟩ := hO.out.rd
          have HOr : Hid (wr.ownsRow wa.heap.size 9 1 (.slice qa (joinT ((allP k).take j) signsL).length qc) (joinT ((allP k).take j) signsL).length ((joinT ((allP k).take j) signsL).map Value.string)) := hO.out
          clear hc0 hO
          generalize (allP k).getD j ByteArray.empty = s at *
          generalize joinT ((allP k).take j) signsL = L at *
          have hs1 : ¬ 9223372036854775807 < s.size + 1 := by omega
          go_wp2_with fail
          go_region_law (refine step_append_lies _ (by rfl) _ _ 38 (by rfl) wa.heap.size 9 i0 (.string ByteArray.empty) 1 16 Tryd.underlying38 hi0 hz0 hz1 hz2 (by rfl) (by decide) (.slice qa L.length qc) L.length (L.map Value.string) (by rfl) (World.ownsRow.drew (World.ownsRow.alloc HOr.out _)) ⟨wr.heap.size, 0, none⟩ 3 3 [.string (s ++ (⟨#[45]⟩ : ByteArray)), .string (s ++ (⟨#[48]⟩ : ByteArray)), .string (s ++ (⟨#[49]⟩ : ByteArray))] (by rfl) (by rfl) (World.news_of_block (cs := #[.string (s ++ (⟨#[45]⟩ : ByteArray)), .string (s ++ (⟨#[48]⟩ : ByteArray)), .string (s ++ (⟨#[49]⟩ : ByteArray))]) (t := 9) (fr := (0, 0)) (heap_alloc_new wr _)) (by simp [Value.oneCell']) (by decide) (by unfold maxLen; omega) (by omega) (by simp; omega) (wr.heap.size + 1) (by simp) ?_; intro g2 cap2 w3 hown hgrow hat hlt3)
          all_goals (go_wp2_with fail)
          all_goals (exact ⟨⟨j + 1, by omega, by go_num, ((hLw.alloc (by omega) _).drew).grown hgrow (by simp; omega) (fun b e => Nat.le_trans hzr (hfrom.out b e).1), ((hLr.alloc (by omega) _).drew).grown hgrow (by simp; omega) (fun b e => (hfrom.out b e).1), by rw [HN.out]; exact OwnsS.three hown⟩, by simp [intOf]; omega⟩)
        · have e : j = m := by omega
          have hjn : ¬ (j : Int) < (m : Int) := by omega
          rw [e, HEk.out] at hO
          clear e
          go_wp2_with fail
          exact ⟨⟨k + 1, by omega, by go_num, hLw, hO.out.monoB hzr⟩, by simp [intOf]; omega⟩
    · have e : k = N := by omega
      have hkn : ¬ (k : Int) < (N : Int) := by omega
      rw [e] at hO
      clear e
      go_wp2_with fail
      go_ret
      exact ⟨_, rfl, hO.out, hL⟩

end Go.Proofs.YtohmhiodmaahfaaDoor
