/- Lists of texts: joinedTexts. -/
import Derived.Test.YtkojdaafgbfioaaDoorSaM
import Derived.Test.YtkojdaafgbfioaaDoorOwn
import Derived.LoopTactic
import Derived.Maps.AppendAt
namespace Go.Proofs.YtkojdaafgbfioaaDoor
open Go.RowKit
set_option linter.unusedVariables false

theorem infoStr : (Tryd.prog.info? 9).map (fun i => (i.zero, i.size, i.bytes)) = some (some (.string ByteArray.empty), 1, 16) := by kernel_rfl
/-- the slice v lies in a block of its own, from block base on, and has the texts l -/
def OwnsS (w : World) (base : Nat) (v : Value) (l : List ByteArray) : Prop := w.ownsRow base 9 1 v l.length (l.map Value.string)
theorem OwnsS.snoc {w : World} {base : Nat} {v : Value} {l : List ByteArray} {x : ByteArray} (h : w.ownsRow base 9 1 v (l.length + 1) (l.map Value.string ++ [.string x])) : OwnsS w base v (l ++ [x]) := by
  unfold OwnsS
  rw [List.length_append, List.length_singleton, List.map_append]
  exact h

/-- the slice v reads as the texts l -/
def RdS (w : World) (v : Value) (l : List ByteArray) : Prop :=
  ∃ (a : Option Addr) (cap : Nat), v = .slice a l.length cap ∧ ∀ i, i < l.length → ∃ g, a = some ⟨g, 0, none⟩ ∧ w.cell? ⟨g, i, none⟩ = some (.string (l.getD i ByteArray.empty))
theorem RdS.keep {w w' : World} {v : Value} {l : List ByteArray} (h : RdS w v l) (hb : Below w.heap.size w w') : RdS w' v l := by
  obtain ⟨a, cap, rfl, h⟩ := h
  refine ⟨a, cap, rfl, fun i hi => ?_⟩
  obtain ⟨g, hg, hc⟩ := h i hi
  exact ⟨g, hg, cell_later hb hc⟩
theorem OwnsS.lt {w : World} {base : Nat} {v : Value} {l : List ByteArray} (h : OwnsS w base v l) : ∀ k, v.ownBlock = some k → base ≤ k ∧ k < w.heap.size := World.ownsRow.lt h
theorem OwnsS.keep {w w' : World} {base : Nat} {v : Value} {l : List ByteArray} (h : OwnsS w base v l) (hb : Below w.heap.size w w') : OwnsS w' base v l := by
  rcases h.2 with ⟨rfl, hn⟩ | ⟨g, cap, cur, rfl, hbg, hg, hc, hm, hs, ht⟩
  · exact ⟨h.1, .inl ⟨rfl, hn⟩⟩
  · exact ⟨h.1, .inr ⟨g, cap, cur, rfl, hbg, (hb.block g (Array.getElem?_eq_some_iff.1 hg).1).trans hg, hc, hm, hs, ht⟩⟩
theorem OwnsS.rd {w : World} {base : Nat} {v : Value} {l : List ByteArray} (h : OwnsS w base v l) : RdS w v l := by
  rcases h.2 with ⟨rfl, hn⟩ | ⟨g, cap, cur, rfl, hbg, hg, hc, hm, hs, ht⟩
  · have e : l = [] := List.length_eq_zero_iff.1 hn
    subst e
    exact ⟨none, 0, rfl, fun i hi => by simp at hi⟩
  · have h' := h
    refine ⟨_, cap, rfl, fun i hi => ⟨g, rfl, ?_⟩⟩
    have := World.ownsRow.cellAt h' i (by omega)
    rw [this, List.getElem?_map, List.getD_eq_getElem?_getD, List.getElem?_eq_getElem hi]; rfl
theorem OwnsS.monoB {w : World} {b b' : Nat} {v : Value} {l : List ByteArray} (h : OwnsS w b v l) (hb : b' ≤ b) : OwnsS w b' v l := by
  rcases h.2 with ⟨rfl, hn⟩ | ⟨g, cap, cur, rfl, hbg, hr⟩
  · exact ⟨h.1, .inl ⟨rfl, hn⟩⟩
  · exact ⟨h.1, .inr ⟨g, cap, cur, rfl, Nat.le_trans hb hbg, hr⟩⟩
theorem OwnsS.from {w : World} {base : Nat} {v : Value} {l : List ByteArray} (h : OwnsS w base v l) (k : Nat) (e : v.ownBlock = some k) : base ≤ k := (h.lt k e).1

set_option maxRecDepth 100000 in
set_option maxHeartbeats 4000000 in
theorem joinedTexts_any (u v : Value) (l o : List ByteArray) (w : World) (hu : RdS w u l) (hv : RdS w v o) (hl : l.length ≤ 1000) (ho : o.length ≤ 1000) (hlo : l.length * o.length ≤ 100000) (hs : ∀ i, i < l.length → (l.getD i ByteArray.empty).size ≤ 1000) (ht : ∀ i, i < o.length → (o.getD i ByteArray.empty).size ≤ 1000) :
    Calls Tryd.prog 33 #[u, v] w fun e w' => ∃ q, e = .returned q ∧ OwnsS w' w.heap.size q (joinT l o) ∧ Below w.heap.size w w' := by
  obtain ⟨i0, hi0, hz0, hz1, hz2⟩ := info_parts infoStr
  obtain ⟨ua, uc, rfl, hu⟩ := hu
  obtain ⟨va, vc, rfl, hv⟩ := hv
  have HU := Lib.hid hu
  have HV := Lib.hid hv
  have HS := Lib.hid hs
  have HT := Lib.hid ht
  have HJ := Lib.hid (fun k (h : k < l.length) => joinT_take (l := l) (o := o) h)
  have HJ0 : Hid (joinT (l.take 0) o = []) := by unfold Hid joinT; simp
  have HJE : Hid (joinT (l.take l.length) o = joinT l o) := by unfold Hid; rw [List.take_length]
  have HLen : Hid (∀ k j, k ≤ l.length → j ≤ o.length → (joinT (l.take k) o ++ (o.take j).map (fun t => l.getD k ByteArray.empty ++ t)).length ≤ 101000) := fun k j hk hj => by
    rw [List.length_append, joinT_len, List.length_map, List.length_take, List.length_take]
    have : min k l.length * o.length ≤ l.length * o.length := Nat.mul_le_mul_right _ (Nat.min_le_right _ _)
    omega
  clear hu hv hs ht hlo
  generalize hln : l.length = n at *
  generalize hon : o.length = m at *
  have HLN := Lib.hid hln
  have HON := Lib.hid hon
  clear hln hon
  go_enter Tryd.func33, Tryd.ntmps33
  go_wp2_with fail
  go_loopw [5, 12] (fun q c wr => ∃ k : Nat, k ≤ n ∧ c = .int .i64 (k : Int) ∧ Below w.heap.size w wr ∧ OwnsS wr w.heap.size q (joinT (l.take k) o)) (fun _ c _ => n - (intOf c).toNat)
  case atStart => exact ⟨0, Nat.zero_le _, rfl, Below.refl _ _, by rw [HJ0.out]; exact World.ownsRow_nil _ _ _ _⟩
  case round =>
    obtain ⟨k, hk, rfl, hL, oo⟩ := hrel
    by_cases hkl : k < n
    · obtain ⟨g, rfl, hc0⟩ := HU.out k hkl
      have hca := cell_later hL hc0
      have hk1 : (k : Int) < (n : Int) := by omega
      have hk0 : (0 : Int) ≤ (k : Int) := by omega
      have hsk := HS.out k hkl
      have HLk := Lib.hid (fun j (hj : j ≤ m) => HLen.out k j hk hj)
      have HJk := Lib.hid (HJ.out k hkl)
      have HZ : Hid (joinT (l.take k) o ++ (o.take 0).map (fun t => l.getD k ByteArray.empty ++ t) = joinT (l.take k) o) := by unfold Hid; simp
      have HE : Hid (joinT (l.take k) o ++ (o.take m).map (fun t => l.getD k ByteArray.empty ++ t) = joinT (l.take (k + 1)) o) := by rw [Hid, HJk.out, ← HON.out, List.take_length]
      have HSt : Hid (∀ j, j < m → joinT (l.take k) o ++ (o.take (j + 1)).map (fun t => l.getD k ByteArray.empty ++ t) = (joinT (l.take k) o ++ (o.take j).map (fun t => l.getD k ByteArray.empty ++ t)) ++ [l.getD k ByteArray.empty ++ o.getD j ByteArray.empty]) := fun j hj => by
        rw [List.take_add_one, List.getElem?_eq_getElem (by rw [HON.out]; exact hj), List.map_append, List.getD_eq_getElem?_getD (l := o), List.getElem?_eq_getElem (by rw [HON.out]; exact hj), List.append_assoc]
        simp
      clear hc0 HJk
      generalize l.getD k ByteArray.empty = lk at *
      generalize joinT (l.take k) o = J at *
      go_wp2_with fail
      go_loopw [5, 18] (fun q c wy => ∃ j : Nat, j ≤ m ∧ c = .int .i64 (j : Int) ∧ Below w.heap.size w wy ∧ OwnsS wy w.heap.size q (J ++ (o.take j).map (fun t => lk ++ t))) (fun _ c _ => m - (intOf c).toNat)
      case atStart => exact ⟨0, Nat.zero_le _, rfl, hL, by rw [HZ.out]; exact oo⟩
      case round =>
        clear hL oo hca
        obtain ⟨j, hj, rfl, hL, oo⟩ := hrel
        by_cases hjl : j < m
        · obtain ⟨g2, rfl, hd0⟩ := HV.out j hjl
          have hcb := cell_later hL hd0
          have hj1 : (j : Int) < (m : Int) := by omega
          have hj0 : (0 : Int) ≤ (j : Int) := by omega
          have htj := HT.out j hjl
          have HN := Lib.hid (HSt.out j hjl)
          have hlen := HLk.out j (by omega)
          have hz := hL.size
          have hfrom := OwnsS.from oo
          clear hd0
          generalize o.getD j ByteArray.empty = oj at *
          generalize J ++ (o.take j).map (fun t => lk ++ t) = L at *
          have hLm : (L.map Value.string).length = L.length := List.length_map _
          go_wp2_with (at_builtin; refine wpList_append_own _ rfl _ _ 33 rfl w.heap.size 9 i0 (.string ByteArray.empty) 1 16 Tryd.underlying33 hi0 hz0 hz1 hz2 rfl (by decide) _ L.length (L.map Value.string) rfl (World.ownsRow.alloc oo _) ⟨wr.heap.size, 0, none⟩ 1 1 [.string (lk ++ oj)] rfl rfl (cell_one_new _ _ _) (by simp [Value.oneCell']) (by unfold maxLen; omega) (by omega) (by simp; omega) ?_; intro v' w1 hown' hgrow hnil)
          exact ⟨⟨j + 1, by omega, by go_num, (hL.alloc (by omega) _).grown hgrow (by simp; omega) (fun b e => hfrom b e), by rw [HN.out]; exact OwnsS.snoc hown'⟩, by simp [intOf]; omega⟩
        · have e : j = m := by omega
          have hjn : ¬ (j : Int) < (m : Int) := by omega
          rw [e, HE.out] at oo
          clear e
          go_wp2_with fail
          exact ⟨⟨k + 1, by omega, by go_num, hL, oo⟩, by simp [intOf]; omega⟩
    · have e : k = n := by omega
      have hkn : ¬ (k : Int) < (n : Int) := by omega
      rw [e, HJE.out] at oo
      clear e
      go_wp2_with fail
      go_ret
      exact ⟨_, rfl, oo, hL⟩

end Go.Proofs.YtkojdaafgbfioaaDoor
