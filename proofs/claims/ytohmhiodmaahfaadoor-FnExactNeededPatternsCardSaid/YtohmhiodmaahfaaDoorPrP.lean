/- Prime patterns: the program's primePatterns. -/
import Derived.Test.YtohmhiodmaahfaaDoorPrI
import Derived.Test.YtohmhiodmaahfaaDoorPatQ
import Derived.Test.YtohmhiodmaahfaaDoorJt
namespace Go.Proofs.YtohmhiodmaahfaaDoor
open Go.RowKit
set_option linter.unusedVariables false

theorem infoPat : (Tryd.prog.info? 62).map (fun i => (i.zero, i.size, i.bytes)) = some (some (.agg #[.int .u8 0, .int .u8 0, .int .u8 0, .int .u8 0, .int .u8 0]), 5, 5) := by kernel_rfl
def cells5 (f : Nat → Int) : List Value := [.int .u8 (f 0), .int .u8 (f 1), .int .u8 (f 2), .int .u8 (f 3), .int .u8 (f 4)]
def cellsP (l : List ByteArray) : List Value := l.flatMap fun s => cells5 (sgn s)
theorem cellsP_snoc (l : List ByteArray) (s : ByteArray) : cellsP (l ++ [s]) = cellsP l ++ cells5 (sgn s) := by unfold cellsP; rw [List.flatMap_append]; simp
theorem cellsP_len (l : List ByteArray) : (cellsP l).length = l.length * 5 := by
  induction l with
  | nil => rfl
  | cons a l ih => show (cells5 (sgn a) ++ cellsP l).length = _; rw [List.length_append, ih, List.length_cons, Nat.succ_mul]; show 5 + _ = _; omega
theorem cells5_at (f : Nat → Int) {j : Nat} (hj : j < 5) : (cells5 f)[j]? = some (.int .u8 (f j)) := by
  rcases (show j = 0 ∨ j = 1 ∨ j = 2 ∨ j = 3 ∨ j = 4 by omega) with rfl | rfl | rfl | rfl | rfl <;> rfl
theorem cellsP_at : ∀ (l : List ByteArray) (i j : Nat), i < l.length → j < 5 → (cellsP l)[i * 5 + j]? = some (.int .u8 (sgn (l.getD i ByteArray.empty) j))
  | [], i, j, hi, _ => by simp at hi
  | a :: l, 0, j, _, hj => by
    show (cells5 (sgn a) ++ cellsP l)[0 * 5 + j]? = _
    rw [List.getElem?_append_left (by show 0 * 5 + j < 5; omega), Nat.zero_mul, Nat.zero_add, cells5_at _ hj]; rfl
  | a :: l, i + 1, j, hi, hj => by
    show (cells5 (sgn a) ++ cellsP l)[(i + 1) * 5 + j]? = _
    have h5 : (cells5 (sgn a)).length = 5 := rfl
    rw [List.getElem?_append_right (by omega), h5, show (i + 1) * 5 + j - 5 = i * 5 + j by omega, cellsP_at l i j (by simpa using hi) hj]; rfl
/-- the slice v of arrays lies in a block of its own, from block base on, and has the signs of the patterns l -/
def OwnsP (w : World) (base : Nat) (v : Value) (l : List ByteArray) : Prop := w.ownsRow base 62 5 v l.length (cellsP l)
theorem OwnsP.snoc {w : World} {base : Nat} {v : Value} {l : List ByteArray} {s : ByteArray} (h : w.ownsRow base 62 5 v (l.length + 1) (cellsP l ++ cells5 (sgn s))) : OwnsP w base v (l ++ [s]) := by
  unfold OwnsP
  rw [List.length_append, List.length_singleton, cellsP_snoc]
  exact h
theorem OwnsP.lt {w : World} {base : Nat} {v : Value} {l : List ByteArray} (h : OwnsP w base v l) : ∀ k, v.ownBlock = some k → base ≤ k ∧ k < w.heap.size := World.ownsRow.lt h
theorem OwnsP.keep {w w' : World} {base : Nat} {v : Value} {l : List ByteArray} (h : OwnsP w base v l) (hb : Below w.heap.size w w') : OwnsP w' base v l := by
  rcases h.2 with ⟨rfl, hn⟩ | ⟨g, cap, cur, rfl, hbg, hg, hc, hm, hs, ht⟩
  · exact ⟨h.1, .inl ⟨rfl, hn⟩⟩
  · exact ⟨h.1, .inr ⟨g, cap, cur, rfl, hbg, (hb.block g (Array.getElem?_eq_some_iff.1 hg).1).trans hg, hc, hm, hs, ht⟩⟩
theorem OwnsP.monoB {w : World} {b b' : Nat} {v : Value} {l : List ByteArray} (h : OwnsP w b v l) (hb : b' ≤ b) : OwnsP w b' v l := by
  rcases h.2 with ⟨rfl, hn⟩ | ⟨g, cap, cur, rfl, hbg, hr⟩
  · exact ⟨h.1, .inl ⟨rfl, hn⟩⟩
  · exact ⟨h.1, .inr ⟨g, cap, cur, rfl, Nat.le_trans hb hbg, hr⟩⟩
/-- the slice v reads as the signs of the patterns l -/
def RdP (w : World) (v : Value) (l : List ByteArray) : Prop :=
  ∃ (a : Option Addr) (cap : Nat), v = .slice a l.length cap ∧ ∀ i, i < l.length → ∃ g, a = some ⟨g, 0, none⟩ ∧ ∀ j, j < 5 → w.cell? ⟨g, i * 5 + j, none⟩ = some (.int .u8 (sgn (l.getD i ByteArray.empty) j))
theorem RdP.keep {w w' : World} {v : Value} {l : List ByteArray} (h : RdP w v l) (hb : Below w.heap.size w w') : RdP w' v l := by
  obtain ⟨a, cap, rfl, h⟩ := h
  refine ⟨a, cap, rfl, fun i hi => ?_⟩
  obtain ⟨g, hg, hc⟩ := h i hi
  exact ⟨g, hg, fun j hj => cell_later hb (hc j hj)⟩
theorem OwnsP.rd {w : World} {base : Nat} {v : Value} {l : List ByteArray} (h : OwnsP w base v l) : RdP w v l := by
  rcases h.2 with ⟨rfl, hn⟩ | ⟨g, cap, cur, rfl, hbg, hg, hc, hm, hs, ht⟩
  · have e : l = [] := List.length_eq_zero_iff.1 hn
    subst e
    exact ⟨none, 0, rfl, fun i hi => by simp at hi⟩
  · have h' := h
    refine ⟨_, cap, rfl, fun i hi => ⟨g, rfl, fun j hj => ?_⟩⟩
    rw [World.ownsRow.cellAt h' (i * 5 + j) (by omega)]
    exact cellsP_at l i j hi hj
theorem cell_five_new (w : World) (x0 x1 x2 x3 x4 : Value) (t : TypeId) : ∀ j u, [x0, x1, x2, x3, x4][j]? = some u → (w.alloc (.cells #[x0, x1, x2, x3, x4] t)).cell? ((⟨w.heap.size, 0, none⟩ : Addr).add j) = some u := by
  intro j u hj
  have h5 : j < 5 := by
    rcases Nat.lt_or_ge j 5 with h | h
    · exact h
    · rw [List.getElem?_eq_none (by simpa using h)] at hj; cases hj
  have e : (⟨w.heap.size, 0, none⟩ : Addr).add j = ⟨w.heap.size, j, none⟩ := by rw [Addr.add_lit, Nat.zero_add]
  rw [e, World.cell?_alloc_at _ _ _ _ rfl]
  rcases (show j = 0 ∨ j = 1 ∨ j = 2 ∨ j = 3 ∨ j = 4 by omega) with rfl | rfl | rfl | rfl | rfl <;> exact hj

set_option maxRecDepth 100000 in
set_option maxHeartbeats 8000000 in
theorem primePatterns_any (n v : Int) (w : World) (n1 : 1 ≤ n) (n5 : n ≤ 5) (v0 : 0 ≤ v) (v1 : v < 9223372036854775808) :
    Calls Tryd.prog 50 #[.agg #[.int .i64 n, .int .i64 v]] w fun e w' => ∃ q, e = .returned q ∧ OwnsP w' w.heap.size q (primesL v n.toNat) ∧ Below w.heap.size w w' := by
  obtain ⟨i0, hi0, hz0, hz1, hz2⟩ := info_parts infoPat
  obtain ⟨N, rfl⟩ : ∃ N : Nat, n = (N : Int) := ⟨n.toNat, by omega⟩
  simp only [Int.toNat_natCast]
  have HIP := Lib.hid (fun (f : Nat → Int) (hf : ByteF f) (w : World) => isPrime_any (N : Int) v f hf w n1 n5 v0 v1)
  simp only [Int.toNat_natCast] at HIP
  have HSp := Lib.hid (fun w => splitSigns w)
  have hL3 : ∀ k, k ≤ N → (allP k).length ≤ 243 := fun k hk => by rw [allP_len]; exact pow3 (by omega)
  have HJ : Hid (∀ (k : Nat) (u v : Value) (w : World), k < N → RdS w u (allP k) → RdS w v signsL → Calls Tryd.prog 76 #[u, v] w fun e w' => ∃ q, e = .returned q ∧ OwnsS w' w.heap.size q (allP (k + 1)) ∧ Below w.heap.size w w') := fun k u v w hk hu hv => by
    have h1 := hL3 k (by omega)
    have h2 : signsL.length = 3 := rfl
    refine joinedTexts_any u v (allP k) signsL w hu hv (by omega) (by omega) (by rw [h2]; omega) (fun i hi => ?_) (fun i hi => ?_)
    · rw [List.getD_eq_getElem?_getD, List.getElem?_eq_getElem hi]
      have := (allP_mem k _ (List.getElem_mem hi)).1
      simp only [Option.getD_some]; omega
    · rcases (show i = 0 ∨ i = 1 ∨ i = 2 by omega) with rfl | rfl | rfl <;> decide
  have HSz : Hid (∀ k, k < (allP N).length → ((allP N).getD k ByteArray.empty).size ≤ 5) := fun k hk => by
    rw [List.getD_eq_getElem?_getD, List.getElem?_eq_getElem hk]
    have := (allP_mem N _ (List.getElem_mem hk)).1
    simp only [Option.getD_some]; omega
  have HSO := Lib.hid (fun (s : ByteArray) (h : s.size ≤ 5) (w : World) => signsOf_any s h w)
  have HHit := Lib.hid (fun k (h : k < (allP N).length) => primesTo_hit (v := v) (n := N) h)
  have HMiss := Lib.hid (fun k (h : k < (allP N).length) => primesTo_miss (v := v) (n := N) h)
  have HAll := Lib.hid (primesTo_all v N)
  have HLen := Lib.hid (fun k => primesTo_len v N k)
  have hLN := hL3 N (Nat.le_refl _)
  have H00 : Hid (primesTo v N 0 = []) := by unfold Hid primesTo; simp
  have k0 := (C2.here w (.int .i64 (N : Int)) (.int .i64 v) 29).alloc (.cells #[.string ByteArray.empty] 9)
  have hR0 : RdS ((w.alloc (.cells #[.int .i64 (N : Int), .int .i64 v] 29)).alloc (.cells #[.string ByteArray.empty] 9)) (.slice (some ⟨w.heap.size + 1, 0, none⟩) 1 1) (allP 0) := by
    refine ⟨_, _, rfl, fun i hi => ⟨_, rfl, ?_⟩⟩
    have hi0 : i = 0 := by have : (allP 0).length = 1 := rfl; omega
    subst hi0
    rw [World.cell?_alloc_at _ _ _ _ (by simp)]; rfl
  have hL0 : Below w.heap.size w ((w.alloc (.cells #[.int .i64 (N : Int), .int .i64 v] 29)).alloc (.cells #[.string ByteArray.empty] 9)) := by go_grown
  have hN5 : N ≤ 5 := by omega
  clear hL3 n1 n5 v0 v1
  go_enter Tryd.func50, Tryd.ntmps50
  go_wp2_with fail
  go_loopw [3, 11] (fun u c wr => ∃ k : Nat, k ≤ N ∧ c = .int .i64 (k : Int) ∧ Below w.heap.size w wr ∧ C2 wr w.heap.size (.int .i64 (N : Int)) (.int .i64 v) ∧ Hid (RdS wr u (allP k))) (fun _ c _ => N - (intOf c).toNat)
  case atStart => exact ⟨0, Nat.zero_le _, rfl, hL0, k0, hR0⟩
  case round =>
    clear hL0 k0 hR0
    obtain ⟨k, hk, rfl, hL, k0, hR⟩ := hrel
    by_cases hkl : k < N
    · have hk1 : (k : Int) < (N : Int) := by omega
      go_wp2_with fail
      refine (HSp.out _).mono ?_
      rintro e w2 ⟨u2, rfl, hR2, hb⟩
      replace hL := chain (B := w.heap.size) (a := w) hL (Nat.le_refl _) hb
      replace k0 := keepAt hb k0
      replace hR := Lib.hid (hR.out.keep hb)
      clear hb
      go_wp2_with fail
      refine (HJ.out k _ _ _ hkl hR.out hR2).mono ?_
      rintro e w3 ⟨q, rfl, ho, hb⟩
      replace hL := chain (B := w.heap.size) (a := w) hL (Nat.le_refl _) hb
      replace k0 := keepAt hb k0
      have hR3 := Lib.hid ho.rd
      clear hb ho hR hR2
      go_wp2_with fail
      exact ⟨⟨k + 1, by omega, by go_num, hL, k0, hR3⟩, by simp [intOf]; omega⟩
    · have e : k = N := by omega
      have hkn : ¬ (k : Int) < (N : Int) := by omega
      rw [e] at hR
      clear e HJ HSp
      obtain ⟨ua, uc, rfl, hcs⟩ := hR.out
      have HCS := Lib.hid hcs
      clear hcs hR
      have hO0 : Hid (OwnsP wr wr.heap.size (.slice none 0 0) (primesTo v N 0)) := by rw [H00.out]; exact World.ownsRow_nil _ _ _ _
      have hLb := Below.refl wr.heap.size wr
      generalize hm : (allP N).length = m at *
      clear hm
      have hza := k0.2.2.2.2
      generalize wr = wa at *
      go_wp2_with fail
      go_loopw [4, 19] (fun q c wy => ∃ j : Nat, j ≤ m ∧ c = .int .i64 (j : Int) ∧ Below w.heap.size w wy ∧ Hid (Below wa.heap.size wa wy) ∧ C2 wy w.heap.size (.int .i64 (N : Int)) (.int .i64 v) ∧ Hid (OwnsP wy wa.heap.size q (primesTo v N j))) (fun _ c _ => m - (intOf c).toNat)
      case atStart => exact ⟨0, Nat.zero_le _, rfl, hL, hLb, k0, hO0⟩
      case round =>
        clear hL k0 hLb hO0
        obtain ⟨j, hj, rfl, hL, hLa, k0, hO⟩ := hrel
        by_cases hjl : j < m
        · obtain ⟨g, rfl, hc0⟩ := HCS.out j hjl
          have hca := cell_later hLa.out hc0
          have hj1 : (j : Int) < (m : Int) := by omega
          have hj0 : (0 : Int) ≤ (j : Int) := by omega
          have HSs := Lib.hid (HSO.out _ (HSz.out j hjl))
          have HPr := Lib.hid (fun w => HIP.out (sgn ((allP N).getD j ByteArray.empty)) (sgn_byte _) w)
          have HH := Lib.hid (HHit.out j hjl)
          have HM := Lib.hid (HMiss.out j hjl)
          have hlen := HLen.out j
          clear hc0
          generalize (allP N).getD j ByteArray.empty = s at *
          have HC5 : Hid (cells5 (sgn s) = [.int .u8 (sgn s 0), .int .u8 (sgn s 1), .int .u8 (sgn s 2), .int .u8 (sgn s 3), .int .u8 (sgn s 4)]) := rfl
          unfold patA at HSs HPr
          obtain ⟨b, hb⟩ : ∃ b, primF v (sgn s) (2 ^ N) = b := ⟨_, rfl⟩
          rw [hb] at HPr HH HM
          clear hb
          generalize sgn s 0 = x0 at *
          generalize sgn s 1 = x1 at *
          generalize sgn s 2 = x2 at *
          generalize sgn s 3 = x3 at *
          generalize sgn s 4 = x4 at *
          go_wp2_with fail
          refine (HSs.out _).mono ?_
          rintro e w2 ⟨rfl, hb⟩
          replace hL := chain (B := w.heap.size) (a := w) hL (Nat.le_refl _) hb
          have hLa2 := Lib.hid (chain (B := wa.heap.size) (a := wa) hLa.out (Nat.le_refl _) hb)
          replace k0 := keepAt hb k0
          replace hO := Lib.hid (hO.out.keep hb)
          clear hb hLa hca
          have k5 := C5.here w2 (.int .u8 x0) (.int .u8 x1) (.int .u8 x2) (.int .u8 x3) (.int .u8 x4) 62
          replace k0 := k0.alloc (.cells #[.int .u8 x0, .int .u8 x1, .int .u8 x2, .int .u8 x3, .int .u8 x4] 62)
          have hal : Below w2.heap.size w2 (w2.alloc (.cells #[.int .u8 x0, .int .u8 x1, .int .u8 x2, .int .u8 x3, .int .u8 x4] 62)) := (Below.refl _ _).alloc (Nat.le_refl _) _
          replace hO := Lib.hid (hO.out.keep hal)
          replace hLa2 := Lib.hid (hLa2.out.alloc hLa2.out.size (.cells #[.int .u8 x0, .int .u8 x1, .int .u8 x2, .int .u8 x3, .int .u8 x4] 62))
          have hzw2 := hL.size
          replace hL := hL.alloc hzw2 (.cells #[.int .u8 x0, .int .u8 x1, .int .u8 x2, .int .u8 x3, .int .u8 x4] 62)
          clear hal
          go_wp2_with fail
          refine (HPr.out _).mono ?_
          rintro e w4 ⟨rfl, hb⟩
          replace hL := chain (B := w.heap.size) (a := w) hL (Nat.le_refl _) hb
          have hLa3 := Lib.hid (chain (B := wa.heap.size) (a := wa) hLa2.out (Nat.le_refl _) hb)
          replace k0 := keepAt hb k0
          replace k5 := keepAt5 hb k5
          replace hO := Lib.hid (hO.out.keep hb)
          clear hb hLa2
          cases b
          · have HN := Lib.hid (HM.out rfl)
            clear HH HM
            go_wp2_with fail
            exact ⟨⟨j + 1, by omega, by go_num, hL, hLa3, k0, by rw [HN.out]; exact hO⟩, by simp [intOf]; omega⟩
          · have HN := Lib.hid (HH.out rfl)
            clear HH HM
            have hz4 := hL.size
            have hkb := k0.2.2.2.2
            have hz5 := hLa3.out.size
            have hfrom := Lib.hid hO.out.lt
            have HO := Lib.hid (fun o => World.ownsRow.alloc hO.out o)
            have hzl : (primesTo v N j).length ≤ 243 := by omega
            generalize primesTo v N j = L at *
            go_wp2_with (at_builtin; refine wpList_append_own _ rfl _ _ 71 rfl wa.heap.size 62 i0 (.agg #[.int .u8 0, .int .u8 0, .int .u8 0, .int .u8 0, .int .u8 0]) 5 5 Tryd.underlying71 hi0 hz0 hz1 hz2 rfl (by decide) _ L.length (cellsP L) rfl (HO.out _) ⟨w4.heap.size, 0, none⟩ 1 1 [.int .u8 x0, .int .u8 x1, .int .u8 x2, .int .u8 x3, .int .u8 x4] rfl rfl (cell_five_new _ _ _ _ _ _ _) (by simp [Value.oneCell']) (by unfold maxLen; omega) (by omega) (by simp; omega) ?_; intro v' w5 hown' hgrow hnil)
            have HO5 : Hid (OwnsP w5 wa.heap.size v' (L ++ [s])) := OwnsP.snoc (by rw [HC5.out]; exact hown')
            exact ⟨⟨j + 1, by omega, by go_num, (hL.alloc (by omega) _).grown hgrow (by simp; omega) (fun b e => by have := (hfrom.out b e).1; omega), (hLa3.out.alloc hz5 _).grown hgrow (by simp; omega) (fun b e => (hfrom.out b e).1), (k0.alloc _).grown hgrow (fun e => absurd (hfrom.out _ e).1 (by omega)), by rw [HN.out]; exact HO5⟩, by simp [intOf]; omega⟩
        · have e : j = m := by omega
          have hjn : ¬ (j : Int) < (m : Int) := by omega
          rw [e, HAll.out] at hO
          clear e
          go_wp2_with fail
          go_ret
          exact ⟨_, rfl, hO.out.monoB (by omega), hL⟩

end Go.Proofs.YtohmhiodmaahfaaDoor
