/- LadderNetwork: the contacts of a ladder; the program's. -/
import Derived.Test.YtibfenkaoaclfaaSbM
import Derived.Test.YtibfenkaoaclfaaFra
namespace Go.Proofs.Ytibfenkaoaclfaa
open Go.RowKit
set_option linter.unusedVariables false

/-- where the contact k of a line begins, q the points of the lines before it -/
def atL (q k : Nat) : Int := if k = 0 then 0 else ((q + k + 1 : Nat) : Int)
def nxL (a q k : Nat) : Int := if k + 1 = a then 1 else ((q + k + 2 : Nat) : Int)
def ladE (a q k : Nat) : List Int := [min (atL q k) (nxL a q k), max (atL q k) (nxL a q k), 0, 0]
/-- the first n contacts of the ladder of lines of a contacts -/
def ladCs (a n : Nat) : List (List Int) := (List.range n).map fun i => ladE a (i / a * (a - 1)) (i % a)
theorem ladCs_len (a n : Nat) : (ladCs a n).length = n := by simp [ladCs]
theorem ladCs_four (a n : Nat) : ∀ c ∈ ladCs a n, c.length = 4 := by
  intro c hc
  unfold ladCs at hc
  obtain ⟨i, _, rfl⟩ := List.mem_map.1 hc
  rfl
theorem ladCs_getD {a n i : Nat} (h : i < n) : (ladCs a n).getD i [] = ladE a (i / a * (a - 1)) (i % a) := by
  unfold ladCs
  rw [List.getD_eq_getElem?_getD, List.getElem?_map, List.getElem?_range h]; rfl
theorem lad_div {a l k : Nat} (h : k < a) : (l * a + k) / a = l ∧ (l * a + k) % a = k := by
  have ha : 0 < a := by omega
  constructor
  · rw [Nat.mul_comm, Nat.mul_add_div ha, Nat.div_eq_of_lt h, Nat.add_zero]
  · rw [Nat.mul_comm, Nat.mul_add_mod, Nat.mod_eq_of_lt h]
theorem ladCs_step {a l k : Nat} (h : k < a) : ladCs a (l * a + k + 1) = ladCs a (l * a + k) ++ [ladE a (l * (a - 1)) k] := by
  unfold ladCs
  rw [List.range_succ, List.map_append]
  obtain ⟨h1, h2⟩ := lad_div (l := l) h
  simp only [List.map_cons, List.map_nil, h1, h2]
theorem ladE_in {a q k : Nat} (h : k + 1 < a) : ladE a q k = [atL q k, ((q + k + 2 : Nat) : Int), 0, 0] := by
  unfold ladE nxL
  rw [if_neg (by omega)]
  have h1 : atL q k < ((q + k + 2 : Nat) : Int) := by unfold atL; split <;> omega
  rw [show min (atL q k) ((q + k + 2 : Nat) : Int) = atL q k by omega, show max (atL q k) ((q + k + 2 : Nat) : Int) = ((q + k + 2 : Nat) : Int) by omega]
theorem ladE_end {a q k : Nat} (h : k + 1 = a) : ladE a q k = [min (atL q k) 1, max (atL q k) 1, 0, 0] := by
  unfold ladE nxL
  rw [if_pos h]
theorem cellsC_single (c0 c1 c2 c3 : Int) : cellsC [[c0, c1, c2, c3]] 1 1 = [.int .i64 c0, .int .i64 c1, .int .i64 c2, .int .i64 c3] := rfl
/-- the slice u of the call's own has the first n contacts of a ladder -/
def OwnL (w : World) (B : Nat) (u : Value) (a n : Nat) : Prop := w.ownsRow B 77 4 u n (cellsC (ladCs a n) n n)
theorem OwnL.ownsC {w : World} {B a n : Nat} {u : Value} (h : OwnL w B u a n) : OwnsC w B u (ladCs a n) := by
  unfold OwnsC; rw [ladCs_len]; exact h
theorem OwnL.snoc {w : World} {B a l q k n : Nat} {u : Value} {c0 c1 c2 c3 : Int} (hk : k < a) (hq : q = l * (a - 1)) (hn : n = l * a) (hE : ladE a q k = [c0, c1, c2, c3])
    (h : w.ownsRow B 77 4 u (n + k + 1) (cellsC (ladCs a (n + k)) (n + k) (n + k) ++ [.int .i64 c0, .int .i64 c1, .int .i64 c2, .int .i64 c3])) : OwnL w B u a (n + k + 1) := by
  subst hq hn
  unfold OwnL
  have e := cellsC_append (ladCs a (l * a + k)) [ladE a (l * (a - 1)) k]
  rw [← ladCs_step hk, ladCs_len, ladCs_len] at e
  rw [← e, hE]
  rw [show [[c0, c1, c2, c3]].length = 1 from rfl, cellsC_single]
  exact h
theorem lad_new (w : World) (c0 c1 c2 c3 : Int) (t : TypeId) : ∀ j u, [Value.int .i64 c0, .int .i64 c1, .int .i64 c2, .int .i64 c3][j]? = some u → (w.alloc (.cells #[.int .i64 c0, .int .i64 c1, .int .i64 c2, .int .i64 c3] t)).cell? ((⟨w.heap.size, 0, none⟩ : Addr).add j) = some u := by
  intro j u h
  rw [addr_add, World.cell?_alloc_at _ _ _ _ rfl]
  have hj : j < 4 := by
    obtain ⟨h, _⟩ := List.getElem?_eq_some_iff.1 h
    simpa using h
  have hj' : j = 0 ∨ j = 1 ∨ j = 2 ∨ j = 3 := by omega
  rcases hj' with rfl | rfl | rfl | rfl <;> exact h

set_option maxRecDepth 100000 in
set_option maxHeartbeats 2000000 in
theorem ladder_any (a b : Nat) (w : World) (ha : 1 ≤ a) (ha2 : a ≤ 12) (hb : b ≤ 12) :
    Calls Try.prog 51 #[.int .i64 (a : Int), .int .i64 (b : Int)] w fun e w' => ∃ u, e = .returned (.tuple #[.int .i64 ((b * (a - 1) + 2 : Nat) : Int), u]) ∧ OwnsC w' w.heap.size u (ladCs a (b * a)) ∧ Below w.heap.size w w' := by
  obtain ⟨i0, hi, hz0, hz1, hz2⟩ := info_parts infoCon
  obtain ⟨A, rfl⟩ : ∃ A, a = A + 1 := ⟨a - 1, by omega⟩
  have A12 : Hid (A + 1 ≤ 12) := ha2
  have B12 := Lib.hid hb
  have hAi : ((A + 1 : Nat) : Int) - 1 = (A : Int) := by omega
  have hAw : A ≤ 11 := by omega
  clear ha ha2 hb
  generalize hAA : ((A + 1 : Nat) : Int) = AA at *
  have hA0 : (0 : Int) ≤ AA ∧ AA ≤ 12 := by omega
  obtain ⟨hA1, hA2⟩ := hA0
  go_enter Try.func51, Try.ntmps51
  go_wp2_with fail
  go_loopw [6, 7, 8, 10] (fun cp u cq cl wr => ∃ l q n : Nat, l ≤ b ∧ cl = .int .i64 (l : Int) ∧ cp = .int .i64 (((q + 2 : Nat) : Int)) ∧ Hid (q = l * A ∧ n = l * (A + 1)) ∧ Below w.heap.size w wr ∧ Hid (OwnL wr w.heap.size u (A + 1) n))
    (fun _ _ _ cl _ => b - (intOf cl).toNat)
  case atStart => exact ⟨0, 0, 0, Nat.zero_le _, rfl, rfl, ⟨by simp, by simp⟩, Below.refl _ _, (World.ownsRow_nil _ _ _ _ : OwnL _ w.heap.size _ (A + 1) 0)⟩
  case round =>
    obtain ⟨l, q, n, hl, rfl, rfl, HQ, hL, HO⟩ := hrel
    by_cases hlt : l < b
    · have hlt' : (l : Int) < (b : Int) := by omega
      have HB : Hid (q ≤ 132 ∧ n ≤ 144) := by
        have h1 := HQ.out.1
        have h2 := HQ.out.2
        have h3 : l * A ≤ 12 * 11 := Nat.mul_le_mul (by have := B12.out; omega) (by omega)
        have h4 : l * (A + 1) ≤ 12 * 12 := Nat.mul_le_mul (by have := B12.out; omega) (by omega)
        unfold Hid; omega
      clear hlt
      go_wp2_with fail
      go_loopw [6, 7, 8, 14] (fun cp u cq ck wr => ∃ k : Nat, k ≤ A ∧ ck = .int .i64 (k : Int) ∧ cp = .int .i64 (((q + k + 2 : Nat) : Int)) ∧ cq = .int .i64 (atL q k) ∧ Below w.heap.size w wr ∧ Hid (OwnL wr w.heap.size u (A + 1) (n + k)))
        (fun _ _ _ ck _ => A - (intOf ck).toNat)
      case atStart => exact ⟨0, Nat.zero_le _, rfl, rfl, rfl, hL, HO⟩
      case round =>
        clear hL HO
        obtain ⟨k, hk, rfl, rfl, rfl, hL, HO⟩ := hrel
        by_cases hkA : k < A
        · have hkA' : (k : Int) < (A : Int) := by omega
          have HE : Hid (ladE (A + 1) q k = [atL q k, ((q + k + 2 : Nat) : Int), 0, 0]) := ladE_in (by omega)
          have HK : Hid (k < A + 1 ∧ n + k ≤ 200 ∧ k + 1 ≤ A) := by have := HB.out; unfold Hid; omega
          have HQ2 := Lib.hid (show q = l * (A + 1 - 1) ∧ n = l * (A + 1) from HQ.out)
          have HN : Hid (atL q (k + 1) = ((q + k + 2 : Nat) : Int)) := rfl
          have HP1 : Hid (((q + k + 2 : Nat) : Int) + 1 = ((q + (k + 1) + 2 : Nat) : Int)) := by unfold Hid; omega
          have hPb : (0 : Int) ≤ ((q + k + 2 : Nat) : Int) ∧ ((q + k + 2 : Nat) : Int) ≤ 1000 := by have := HB.out; omega
          generalize hx : atL q k = x at *
          generalize hp : ((q + k + 2 : Nat) : Int) = p at *
          obtain ⟨hP1, hP2⟩ := hPb
          clear hkA hx hp
          go_wp2_with (at_builtin; refine wpList_append_own_at _ rfl _ _ 65 rfl w.heap.size 77 i0 (.agg #[.int .i64 0, .int .i64 0, .int .i64 0, .int .i64 0]) 4 32 Try.underlying65 hi hz0 hz1 hz2 rfl (by decide) u7 (n + k) (cellsC (ladCs (A + 1) (n + k)) (n + k) (n + k)) rfl (World.ownsRow.alloc HO.out _) ⟨_, 0, none⟩ 1 1 [.int .i64 x, .int .i64 p, .int .i64 0, .int .i64 0] rfl rfl (lad_new _ _ _ _ _ _) (by simp [Value.oneCell']) (by have := HK.out; unfold maxLen; omega) (by have := HK.out; omega) (by have := hL.size; simp; omega) ?_; intro v1 w2 hown1 hgrow1 hnil1 hat1; have HO2 := Lib.hid (OwnL.snoc HK.out.1 HQ2.out.1 HQ2.out.2 HE.out hown1); have hL2 := (hL.alloc hL.size _).grown hgrow1 (by have := hL.size; simp; omega) (fun q e => (World.ownsRow.lt HO.out q e).1); clear hown1 hgrow1 hnil1 hat1)
          refine ⟨⟨k + 1, HK.out.2.2, by go_num, ?_, ?_, hL2, HO2⟩, ?_⟩
          · rw [HP1.out]
          · rw [HN.out]
          · have := HK.out; simp [intOf]; omega
        · obtain rfl : k = A := by omega
          clear hkA hk
          have hE : (atL q k = 0 ∧ ladE (k + 1) q k = [0, 1, 0, 0]) ∨ (1 < atL q k ∧ ladE (k + 1) q k = [1, atL q k, 0, 0]) := by
            rw [ladE_end rfl]
            unfold atL
            by_cases h : k = 0
            · rw [if_pos h]; exact .inl ⟨rfl, rfl⟩
            · rw [if_neg h]
              have h1 : (1 : Int) < ((q + k + 1 : Nat) : Int) := by omega
              generalize ((q + k + 1 : Nat) : Int) = y at *
              exact .inr ⟨h1, by rw [show min y 1 = 1 by omega, show max y 1 = y by omega]⟩
          have HK : Hid (k < k + 1 ∧ n + k ≤ 200 ∧ l + 1 ≤ b) := by have := HB.out; unfold Hid; omega
          have HQ2 := Lib.hid (show q = l * (k + 1 - 1) ∧ n = l * (k + 1) from HQ.out)
          have HN : Hid (q + k = (l + 1) * k ∧ n + k + 1 = (l + 1) * (k + 1)) := by
            have h1 := HQ.out.1
            have h2 := HQ.out.2
            have h3 : (l + 1) * k = l * k + k := Nat.succ_mul l k
            have h4 : (l + 1) * (k + 1) = l * (k + 1) + (k + 1) := Nat.succ_mul l (k + 1)
            unfold Hid; omega
          have HW : Hid (wrap64 ((l : Int) + 1) = ((l + 1 : Nat) : Int)) := by unfold Hid; rw [IntWalk.wrap64_in _ (by have := B12.out; omega)]; rfl
          have HM : Hid (b - (intOf (.int .i64 (wrap64 ((l : Int) + 1)))).toNat < b - (intOf (.int .i64 (l : Int))).toNat) := by unfold Hid; rw [HW.out]; show b - ((l + 1 : Nat) : Int).toNat < b - ((l : Int)).toNat; omega
          have hxb : (0 : Int) ≤ atL q k ∧ atL q k ≤ 1000 := by have := HB.out; unfold atL; split <;> omega
          generalize hx : atL q k = x at *
          obtain ⟨hx1, hx2⟩ := hxb
          generalize hp : ((q + k + 2 : Nat) : Int) = p at *
          have HP := Lib.hid hp
          clear hx hp
          rcases hE with ⟨rfl, hE⟩ | ⟨hx3, hE⟩
          · have HE := Lib.hid hE
            clear hE
            go_wp2_with (at_builtin; refine wpList_append_own_at _ rfl _ _ 65 rfl w.heap.size 77 i0 (.agg #[.int .i64 0, .int .i64 0, .int .i64 0, .int .i64 0]) 4 32 Try.underlying65 hi hz0 hz1 hz2 rfl (by decide) u7 (n + k) (cellsC (ladCs (k + 1) (n + k)) (n + k) (n + k)) rfl (World.ownsRow.alloc HO.out _) ⟨_, 0, none⟩ 1 1 [.int .i64 0, .int .i64 1, .int .i64 0, .int .i64 0] rfl rfl (lad_new _ _ _ _ _ _) (by simp [Value.oneCell']) (by have := HK.out; unfold maxLen; omega) (by have := HK.out; omega) (by have := hL.size; simp; omega) ?_; intro v1 w2 hown1 hgrow1 hnil1 hat1; have HO2 := Lib.hid (OwnL.snoc HK.out.1 HQ2.out.1 HQ2.out.2 HE.out hown1); have hL2 := (hL.alloc hL.size _).grown hgrow1 (by have := hL.size; simp; omega) (fun q e => (World.ownsRow.lt HO.out q e).1); clear hown1 hgrow1 hnil1 hat1)
            refine ⟨⟨l + 1, q + k, n + k + 1, HK.out.2.2, by rw [HW.out], by rw [← HP.out], HN.out, hL2, HO2⟩, HM.out⟩
          · have HE := Lib.hid hE
            clear hE
            go_wp2_with (at_builtin; refine wpList_append_own_at _ rfl _ _ 65 rfl w.heap.size 77 i0 (.agg #[.int .i64 0, .int .i64 0, .int .i64 0, .int .i64 0]) 4 32 Try.underlying65 hi hz0 hz1 hz2 rfl (by decide) u7 (n + k) (cellsC (ladCs (k + 1) (n + k)) (n + k) (n + k)) rfl (World.ownsRow.alloc HO.out _) ⟨_, 0, none⟩ 1 1 [.int .i64 1, .int .i64 x, .int .i64 0, .int .i64 0] rfl rfl (lad_new _ _ _ _ _ _) (by simp [Value.oneCell']) (by have := HK.out; unfold maxLen; omega) (by have := HK.out; omega) (by have := hL.size; simp; omega) ?_; intro v1 w2 hown1 hgrow1 hnil1 hat1; have HO2 := Lib.hid (OwnL.snoc HK.out.1 HQ2.out.1 HQ2.out.2 HE.out hown1); have hL2 := (hL.alloc hL.size _).grown hgrow1 (by have := hL.size; simp; omega) (fun q e => (World.ownsRow.lt HO.out q e).1); clear hown1 hgrow1 hnil1 hat1)
            refine ⟨⟨l + 1, q + k, n + k + 1, HK.out.2.2, by rw [HW.out], by rw [← HP.out], HN.out, hL2, HO2⟩, HM.out⟩
    · have hlt' : ¬ (l : Int) < (b : Int) := by omega
      obtain rfl : l = b := by omega
      clear hlt
      go_wp2_with fail
      go_ret2
      exact ⟨_, by rw [HQ.out.1]; rfl, by rw [← HQ.out.2]; exact HO.out.ownsC, hL⟩

end Go.Proofs.Ytibfenkaoaclfaa
