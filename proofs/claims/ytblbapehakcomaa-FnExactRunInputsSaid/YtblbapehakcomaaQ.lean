/- Slices of situations of one and the same inputs; the single steps from a situation. -/
import Derived.Test.YtblbapehakcomaaCirK
import Derived.Test.YtblbapehakcomaaMapS
import Derived.Test.YtblbapehakcomaaOwn2
import Derived.Maps.AppendAt
import Derived.Deep.AppendLies
import Derived.Deep.RegionLaw
namespace Go.Proofs.Ytblbapehakcomaa
open Go.RowKit
set_option linter.unusedVariables false

theorem infoSit : (Try.prog.info? 68).map (fun i => (i.zero, i.size, i.bytes)) = some (some (.agg #[.int .i64 0, .int .i64 0]), 2, 16) := by kernel_rfl

/-- the cells of situations -/
def cellsQ (i : Int) (ss : List Nat) : List Value := ss.flatMap fun (s : Nat) => [.int .i64 i, .int .i64 (s : Int)]
theorem cellsQ_snoc (i : Int) (ss : List Nat) (s : Nat) : cellsQ i (ss ++ [s]) = cellsQ i ss ++ [.int .i64 i, .int .i64 (s : Int)] := by simp [cellsQ]
theorem cellsQ_len (i : Int) (ss : List Nat) : (cellsQ i ss).length = ss.length * 2 := by
  induction ss with
  | nil => rfl
  | cons s r ih => simp only [cellsQ, List.flatMap_cons, List.length_append, List.length_cons, List.length_nil] at *; omega
theorem cellsQ_at (i : Int) (ss : List Nat) : ∀ k, k < ss.length → (cellsQ i ss)[k * 2]? = some (.int .i64 i) ∧ (cellsQ i ss)[k * 2 + 1]? = some (.int .i64 ((ss.getD k 0 : Nat) : Int)) := by
  induction ss with
  | nil => intro k hk; simp at hk
  | cons s r ih =>
    intro k hk
    cases k with
    | zero => simp [cellsQ]
    | succ k =>
      have := ih k (by simp at hk; omega)
      have e : cellsQ i (s :: r) = [.int .i64 i, .int .i64 (s : Int)] ++ cellsQ i r := by simp [cellsQ]
      rw [e, show (k + 1) * 2 = k * 2 + 2 by omega, show k * 2 + 2 + 1 = k * 2 + 1 + 2 by omega]
      constructor
      · rw [List.getElem?_append_right (by simp)]; simpa using this.1
      · rw [List.getElem?_append_right (by simp)]; simpa using this.2
def OwnsQ (w : World) (base : Nat) (v : Value) (i : Int) (ss : List Nat) : Prop := w.ownsRow base 68 2 v ss.length (cellsQ i ss)
def ReadsQ (w : World) (v : Value) (i : Int) (ss : List Nat) : Prop :=
  ∃ (a : Option Addr) (cap : Nat), v = .slice a ss.length cap ∧ ss.length ≤ maxLen ∧
    (ss = [] ∨ ∃ b, a = some ⟨b, 0, none⟩ ∧ ∀ k, k < ss.length → w.cell? ⟨b, k * 2, none⟩ = some (.int .i64 i) ∧ w.cell? ⟨b, k * 2 + 1, none⟩ = some (.int .i64 ((ss.getD k 0 : Nat) : Int)))
theorem ReadsQ.keep {w w' : World} {v : Value} {i : Int} {ss : List Nat} (h : ReadsQ w v i ss) (hb : Below w.heap.size w w') : ReadsQ w' v i ss := by
  obtain ⟨a, cap, rfl, hm, h⟩ := h
  refine ⟨a, cap, rfl, hm, ?_⟩
  rcases h with h | ⟨b, rfl, h⟩
  · exact .inl h
  · exact .inr ⟨b, rfl, fun k hk => ⟨cell_later hb (h k hk).1, cell_later hb (h k hk).2⟩⟩
theorem OwnsQ.reads {w : World} {base : Nat} {v : Value} {i : Int} {ss : List Nat} (h : OwnsQ w base v i ss) : ReadsQ w v i ss := by
  have h' := h
  rcases h.2 with ⟨rfl, hn⟩ | ⟨g, cap, cur, rfl, hb, hg, hc, hm, hs, ht⟩
  · have e : ss = [] := List.length_eq_zero_iff.1 hn
    subst e
    exact ⟨none, 0, rfl, by simp, .inl rfl⟩
  · refine ⟨_, cap, rfl, by omega, .inr ⟨g, rfl, fun k hk => ?_⟩⟩
    unfold OwnsQ at h'
    rw [h'.cellAt (k * 2) (by omega), h'.cellAt (k * 2 + 1) (by omega)]
    exact cellsQ_at i ss k hk
theorem OwnsQ.keep {w w' : World} {base : Nat} {v : Value} {i : Int} {ss : List Nat} (h : OwnsQ w base v i ss) (hb : Below w.heap.size w w') : OwnsQ w' base v i ss :=
  rowSame h fun k hk e => hb.block k (World.ownsRow.lt h k e).2
theorem ownsQAt {w w' : World} {base : Nat} {v : Value} {i : Int} {ss : List Nat} (hb : Below w.heap.size w w') (h : OwnsQ w base v i ss) : OwnsQ w' base v i ss := h.keep hb
theorem OwnsQ.mono {w : World} {base base' : Nat} {v : Value} {i : Int} {ss : List Nat} (h : OwnsQ w base v i ss) (hb : base' ≤ base) : OwnsQ w base' v i ss := by
  obtain ⟨h1, h2⟩ := h
  refine ⟨h1, ?_⟩
  rcases h2 with h2 | ⟨g, cap, cur, hv, hbg, r⟩
  · exact .inl h2
  · exact .inr ⟨g, cap, cur, hv, Nat.le_trans hb hbg, r⟩
theorem OwnsQ.snoc {w : World} {base : Nat} {v : Value} {i : Int} {ss : List Nat} {s : Nat} (h : w.ownsRow base 68 2 v (ss.length + 1) (cellsQ i ss ++ [.int .i64 i, .int .i64 (s : Int)])) : OwnsQ w base v i (ss ++ [s]) := by
  unfold OwnsQ
  rw [List.length_append, List.length_singleton, cellsQ_snoc]
  exact h
theorem OwnsQ.notBlock {w : World} {base b : Nat} {v : Value} {i : Int} {ss : List Nat} (h : OwnsQ w base v i ss) (hb : b < base) : v.ownBlock ≠ some b := fun e => by
  have := (World.ownsRow.lt h b e).1
  omega
theorem OwnsQ.rowsFrom {w : World} {base B : Nat} {v : Value} {i : Int} {ss : List Nat} (h : OwnsQ w base v i ss) (hB : B ≤ base) : ∀ k, v.ownBlock = some k → B ≤ k := fun k e => Nat.le_trans hB (World.ownsRow.lt h k e).1
theorem newQ (w : World) (i s : Int) : ∀ j u, ([Value.int .i64 i, .int .i64 s] : List Value)[j]? = some u → (w.alloc (.cells #[.int .i64 i, .int .i64 s] 68)).cell? ((⟨w.heap.size, 0, none⟩ : Addr).add j) = some u :=
  World.news_of_block (cs := #[.int .i64 i, .int .i64 s]) (t := 68) (fr := (0, 0)) (heap_alloc_new w _)

/-- the states to which a single step leads -/
def stepsN (p : Int) (xs : List Int) (i : Int) (s : Nat) : List Nat := (chL p xs i (s : Int)).map fun r => s ^^^ 2 ^ r.toNat
theorem onesTo_mem {v : Int} {k : Nat} {x : Int} (h : x ∈ onesTo v k) : ∃ j : Nat, j < k ∧ x = (j : Int) ∧ dig v.toNat j = 1 := by
  unfold onesTo at h
  obtain ⟨j, hj, rfl⟩ := List.mem_map.1 h
  obtain ⟨h1, h2⟩ := List.mem_filter.1 hj
  exact ⟨j, List.mem_range.1 h1, rfl, by simpa using h2⟩
theorem dig_zero {x m j : Nat} (hx : x < 2 ^ m) (hj : m ≤ j) : dig x j = 0 := by
  unfold dig
  rw [Nat.div_eq_of_lt (Nat.lt_of_lt_of_le hx (Nat.pow_le_pow_right (by decide) hj))]
theorem ch_mem {p i : Int} {xs : List Int} {s : Nat} (hs : s < 2 ^ xs.length) {x : Int} (h : x ∈ chL p xs i (s : Int)) : ∃ j : Nat, j < xs.length ∧ x = (j : Int) := by
  obtain ⟨j, _, rfl, hd⟩ := onesTo_mem h
  refine ⟨j, ?_, rfl⟩
  rcases Nat.lt_or_ge j xs.length with h | h
  · exact h
  · exfalso
    have hb : (chZ p xs i (s : Int)).toNat < 2 ^ xs.length := by
      unfold chZ aimZ
      rw [Int.toNat_natCast, Int.toNat_natCast, Int.toNat_natCast]
      exact Nat.xor_lt_two_pow (aimN_lt _ _) hs
    rw [dig_zero hb h] at hd; cases hd
theorem stepsN_lt {p i : Int} {xs : List Int} {s : Nat} (hs : s < 2 ^ xs.length) : ∀ y ∈ stepsN p xs i s, y < 2 ^ xs.length := by
  intro y hy
  obtain ⟨x, hx, rfl⟩ := List.mem_map.1 hy
  obtain ⟨j, hj, rfl⟩ := ch_mem hs hx
  rw [Int.toNat_natCast]
  exact Nat.xor_lt_two_pow hs (Nat.pow_lt_pow_right (by decide) hj)
theorem ch_len (p i : Int) (xs : List Int) (s : Int) : (chL p xs i s).length ≤ 62 := onesTo_len _ _
/-- 's ^ 1 << r' -/
theorem xor_walk {s r : Nat} (hs : s < 16) (hr : r < 4) : ∃ q : Nat, IntKind.i64.wrap (2 ^ r) = (q : Int) ∧ bits .xor .i64 (s : Int) (q : Int) = ((s ^^^ 2 ^ r : Nat) : Int) := by
  have h1 : (2 : Nat) ^ r ≤ 2 ^ 3 := Nat.pow_le_pow_right (by decide) (by omega)
  have e : ((2 : Int) ^ r) = ((2 ^ r : Nat) : Int) := by simp
  have e2 : IntKind.i64.wrap (((2 ^ r : Nat) : Int)) = ((2 ^ r : Nat) : Int) := wrap_i64_nat _ (by omega)
  exact ⟨2 ^ r, by rw [e, e2], i64_xor _ _ (by omega) (by omega)⟩

set_option maxRecDepth 100000 in
set_option maxHeartbeats 2000000 in
theorem singleSteps_any (p i : Int) (s : Nat) (v : Value) (xs : List Int) (w : World) (ha : Reads w v xs) (hc : cirB p xs = true) (hi : inB i p = true) (hs : s < 2 ^ xs.length) :
    Calls Try.prog 97 #[.agg #[.int .i64 p, v], .agg #[.int .i64 i, .int .i64 (s : Int)]] w fun e w' => ∃ u, e = .returned u ∧ OwnsQ w' w.heap.size u i (stepsN p xs i s) ∧ Below w.heap.size w w' := by
  obtain ⟨i0, hi0, hz0, hz1, hz2⟩ := info_parts infoSit
  obtain ⟨⟨p1, p4⟩, ⟨n1, n4⟩, _, _⟩ := cirB_out hc
  have hs16 : s < 16 := Nat.lt_of_lt_of_le hs (Nat.pow_le_pow_right (by decide) n4)
  have hin : inB (s : Int) xs.length = true := by unfold inB rcZ; rw [Int.toNat_natCast]; exact decide_eq_true (by omega)
  have HCh := Lib.hid (fun w' (h : Below w.heap.size w w') => changingIn_any p i (s : Int) v xs w' (ha.keep h) hc hi hin)
  have HM : Hid (∀ k, k < (chL p xs i (s : Int)).length → ∃ r : Nat, r < 4 ∧ (chL p xs i (s : Int)).getD k 0 = (r : Int)) := fun k hk => by
    have hmem : (chL p xs i (s : Int)).getD k 0 ∈ chL p xs i (s : Int) := by
      rw [List.getD_eq_getElem?_getD, List.getElem?_eq_getElem hk]; exact List.getElem_mem hk
    obtain ⟨r, hr, e⟩ := ch_mem hs hmem
    exact ⟨r, by omega, e⟩
  have HL62 := Lib.hid (ch_len p i xs (s : Int))
  have HST : Hid (∀ k r, k < (chL p xs i (s : Int)).length → (chL p xs i (s : Int)).getD k 0 = ((r : Nat) : Int) → ((chL p xs i (s : Int)).take (k + 1)).map (fun r => s ^^^ 2 ^ r.toNat) = ((chL p xs i (s : Int)).take k).map (fun r => s ^^^ 2 ^ r.toNat) ++ [s ^^^ 2 ^ r]) := fun k r hk e => by
    rw [List.take_succ_eq_append_getElem hk, List.map_append]
    have : (chL p xs i (s : Int))[k] = (r : Int) := by rw [List.getD_eq_getElem?_getD, List.getElem?_eq_getElem hk] at e; exact e
    rw [this]; simp
  have HALL : Hid (((chL p xs i (s : Int)).take (chL p xs i (s : Int)).length).map (fun r => s ^^^ 2 ^ r.toNat) = stepsN p xs i s) := by unfold Hid stepsN; rw [List.take_length]
  have HTL : Hid (∀ k, (((chL p xs i (s : Int)).take k).map (fun r => s ^^^ 2 ^ r.toNat)).length ≤ 62) := fun k => by
    have := HL62.out; rw [List.length_map, List.length_take]; omega
  have HT0 : Hid (((chL p xs i (s : Int)).take 0).map (fun r => s ^^^ 2 ^ r.toNat) = []) := by unfold Hid; simp
  generalize chL p xs i (s : Int) = cs at *
  obtain ⟨a, ca, rfl, hm, ha'⟩ := ha
  have k0 : C2 ((w.alloc (.cells #[.int .i64 p, .slice a xs.length ca] 27)).alloc (.cells #[.int .i64 i, .int .i64 (s : Int)] 68)) (w.heap.size) (.int .i64 p) (.slice a xs.length ca) := by simpa using (C2.here w (.int .i64 p) (.slice a xs.length ca) 27).alloc (.cells #[.int .i64 i, .int .i64 (s : Int)] 68)
  have k1 : C2 ((w.alloc (.cells #[.int .i64 p, .slice a xs.length ca] 27)).alloc (.cells #[.int .i64 i, .int .i64 (s : Int)] 68)) (w.heap.size + 1) (.int .i64 i) (.int .i64 (s : Int)) := by simpa using C2.here (w.alloc (.cells #[.int .i64 p, .slice a xs.length ca] 27)) (.int .i64 i) (.int .i64 (s : Int)) 68
  clear ha' hin hc hi hs
  generalize xs.length = n at *
  go_enter Try.func97, Try.ntmps97
  go_wp2_with fail
  refine (HCh.out _ (by go_grown)).mono ?_
  rintro e w1 ⟨u, rfl, ou, hb⟩
  have hL := chain (B := w.heap.size) (a := w) (by go_grown) (Nat.le_refl _) hb
  replace k0 := keepAt hb k0
  replace k1 := keepAt hb k1
  have HR := Lib.hid ou.reads
  obtain ⟨ua, uc, rfl, hum, hua⟩ := ou.reads
  have Ha : Hid (∀ i, i < cs.length → ∃ b off, ua = some ⟨b, off, none⟩ ∧ w1.cell? ⟨b, off + i, none⟩ = some (.int .i64 (cs.getD i 0))) := by
    rcases hua with rfl | ⟨b, off, rfl, ha'⟩
    · intro i hi; simp at hi
    · intro i hi; exact ⟨b, off, rfl, ha' i hi⟩
  have K0 := Lib.hid k0
  have K1 := Lib.hid k1
  have hs1 := hL.size
  clear hb ou hua k0 k1 HR
  generalize hmm : cs.length = m at *
  clear hmm
  have hm62 := HL62.out
  go_wp2_with fail
  go_loopw [5, 12] (fun v5 c wr => ∃ k : Nat, k ≤ m ∧ c = .int .i64 (k : Int) ∧ Below w1.heap.size w1 wr ∧ OwnsQ wr w1.heap.size v5 i ((cs.take k).map (fun r => s ^^^ 2 ^ r.toNat))) (fun _ c _ => m - (intOf c).toNat)
  case atStart => exact ⟨0, Nat.zero_le _, rfl, Below.refl _ _, by rw [HT0.out]; exact World.ownsRow_nil _ _ _ _⟩
  case round =>
    obtain ⟨k, hk, rfl, hL1, oo⟩ := hrel
    by_cases hlt : k < m
    · obtain ⟨b, off, rfl, hca0⟩ := Ha.out k hlt
      have hca := cell_later hL1 hca0
      obtain ⟨r, hr4, hcr⟩ := HM.out k hlt
      have Hn := Lib.hid (HST.out k r hlt hcr)
      rw [hcr] at hca
      have hi1 : (k : Int) < (m : Int) := by omega
      have hi0' : (0 : Int) ≤ (k : Int) := by omega
      have k0 := keepAt hL1 K0.out
      have k1 := keepAt hL1 K1.out
      obtain ⟨q, hq1, hq2⟩ := xor_walk hs16 hr4
      have HTk := Lib.hid (HTL.out k)
      clear hca0 hcr
      generalize (cs.take k).map (fun r => s ^^^ 2 ^ r.toNat) = ts at *
      generalize s ^^^ 2 ^ r = y at *
      obtain ⟨v5a, v5c, rfl, _, _⟩ := oo.reads
      have hsz1 := hL1.size
      have hfrom := oo.rowsFrom (B := w1.heap.size) (Nat.le_refl _)
      have HQ1 := Lib.hid hq1
      have HQ2 := Lib.hid hq2
      have HOO := Lib.hid oo
      have HF := Lib.hid hfrom
      clear hq1 hq2 oo hfrom
      go_wp2_with fail
      have hq1 := HQ1.out
      have hq2 := HQ2.out
      go_region_law (refine step_append_lies _ (by rfl) _ _ 76 (by rfl) w1.heap.size 68 i0 (.agg #[.int .i64 0, .int .i64 0]) 2 16 Try.underlying76 hi0 hz0 hz1 hz2 (by rfl) (by decide) (.slice v5a ts.length v5c) ts.length (cellsQ i ts) (by rfl) (World.ownsRow.drew (World.ownsRow.alloc HOO.out _)) ⟨wr.heap.size, 0, none⟩ 1 1 [.int .i64 i, .int .i64 (y : Int)] (by rfl) (by rfl) (newQ wr i (y : Int)) (by simp [Value.oneCell']) (by decide) (by have := HTk.out; unfold maxLen; omega) (by have := HTk.out; omega) (by simp; omega) (wr.heap.size + 1) (by simp) ?_; intro gv cap2 w3 hown hgrow_ hat hlt3; have hL3 := (hL1.alloc (by omega) (.cells #[.int .i64 i, .int .i64 (y : Int)] 68)).grown ⟨hgrow_.os, hgrow_.tape, hgrow_.output, hgrow_.size, hgrow_.block⟩ (by simp; omega) HF.out; have HO3 := Lib.hid (OwnsQ.snoc hown); clear hown hgrow_ hat)
      all_goals (clear hq1 hq2)
      all_goals (go_wp2_with fail)
      all_goals (exact ⟨⟨k + 1, by omega, by go_num, hL3, by rw [Hn.out]; exact HO3.out⟩, by simp [intOf]; omega⟩)
    · have e : k = m := by omega
      rw [e] at oo
      rw [HALL.out] at oo
      clear e
      have hkn : ¬ (k : Int) < (m : Int) := by omega
      go_wp2_with fail
      go_ret
      exact ⟨_, rfl, oo.mono hs1, hL.trans (hL1.mono hs1)⟩

end Go.Proofs.Ytblbapehakcomaa
