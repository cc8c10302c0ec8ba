/- BsI, BsP in one text. -/
import Derived.Test.YtkdidplpnhokiaaBsD
import Derived.Test.YtkdidplpnhokiaaFa
namespace Go.Proofs.Ytkdidplpnhokiaa
open Go.RowKit
set_option linter.unusedVariables false

theorem wrap_in {x : Int} (h0 : -9223372036854775808 ≤ x) (h1 : x < 9223372036854775808) : IntKind.i64.wrap x = x := by
  simp [IntKind.wrap, IntKind.bits, IntKind.signed]; omega

set_option maxRecDepth 100000 in
set_option maxHeartbeats 1000000 in
theorem min_any (v : Value) (xs : List Int) (w : World) (ha : Reads w v xs) {j : Nat} {mv : Int} (hj : j < xs.length) (hm : xs.getD j 0 = mv) (hle : ∀ i, i < xs.length → mv ≤ xs.getD i 0) :
    Calls Try.prog 103 #[v] w fun e w' => e = .returned (.int .i64 mv) ∧ w = w' := by
  obtain ⟨a, ca, rfl, hml, ha'⟩ := ha
  unfold maxLen at hml
  obtain ⟨b, off, rfl, ha2⟩ : ∃ b off, a = some ⟨b, off, none⟩ ∧ ∀ i, i < xs.length → w.cell? ⟨b, off + i, none⟩ = some (.int .i64 (xs.getD i 0)) := by
    rcases ha' with rfl | ⟨b, off, rfl, h⟩
    · simp at hj
    · exact ⟨b, off, rfl, h⟩
  have Ha := Lib.hid ha2
  have hc0 := ha2 0 (by omega)
  rw [Nat.add_zero] at hc0
  have HLE := Lib.hid hle
  have HM := Lib.hid hm
  clear ha' ha2 hle hm
  have hn1 : ¬ (xs.length : Int) < 1 := by omega
  have hn0 : (0 : Int) < (xs.length : Int) := by omega
  have hF0 : Hid (mv ≤ xs.getD 0 0) := HLE.out 0 (by omega)
  generalize hx0 : xs.getD 0 0 = x0 at *
  have HZ0 : Hid (j < 1 → x0 = mv) := fun h => by
    have e : j = 0 := by omega
    have := HM.out
    rw [e, hx0] at this
    exact this
  clear hx0
  generalize hnn : xs.length = n at *
  clear hnn
  go_enter Try.func103, Try.ntmps103
  go_wp2_with fail
  go_loopw [3, 4] (fun u c wr => wr = w ∧ ∃ (k : Nat) (z : Int), 1 ≤ k ∧ k ≤ n ∧ c = .int .i64 (k : Int) ∧ u = .int .i64 z ∧ mv ≤ z ∧ (j < k → z = mv)) (fun _ c _ => n - (intOf c).toNat)
  case atStart => exact ⟨by first | rfl | trivial, 1, x0, Nat.le_refl _, by omega, rfl, rfl, hF0.out, HZ0.out⟩
  case round =>
    obtain ⟨rfl, k, z, hk1, hk, rfl, rfl, hmz, hjk⟩ := hrel
    by_cases hlt : k < n
    · have hi1 : (k : Int) < (n : Int) := by omega
      have hi0 : (0 : Int) ≤ (k : Int) := by omega
      have hca := Ha.out k hlt
      have hmk := HLE.out k hlt
      have HJ : Hid (j = k → xs.getD k 0 = mv) := fun e => by rw [← e]; exact HM.out
      generalize xs.getD k 0 = y at *
      go_wp2_with fail
      refine ⟨⟨by first | rfl | trivial, k + 1, min z y, by omega, by omega, by go_num, ?_, by omega, fun h => ?_⟩, by simp [intOf]; omega⟩
      · first | rfl | (congr 1; simp only [Int.min_def]; split <;> split <;> omega)
      · by_cases e : j = k
        · have := HJ.out e; omega
        · have := hjk (by omega); omega
    · have e : z = mv := hjk (by omega)
      subst e
      have hge : ¬ (k : Int) < (n : Int) := by omega
      go_wp2_with fail
      go_ret
      exact ⟨rfl, rfl⟩

set_option maxRecDepth 100000 in
set_option maxHeartbeats 1000000 in
theorem index_any (v : Value) (xs : List Int) (x : Int) (w : World) (ha : Reads w v xs) {j : Nat} (hj : j < xs.length) (hm : xs.getD j 0 = x) (hno : ∀ i, i < j → xs.getD i 0 ≠ x) :
    Calls Try.prog 102 #[v, .int .i64 x] w fun e w' => e = .returned (.int .i64 (j : Int)) ∧ w = w' := by
  obtain ⟨a, ca, rfl, hml, ha'⟩ := ha
  unfold maxLen at hml
  obtain ⟨b, off, rfl, ha2⟩ : ∃ b off, a = some ⟨b, off, none⟩ ∧ ∀ i, i < xs.length → w.cell? ⟨b, off + i, none⟩ = some (.int .i64 (xs.getD i 0)) := by
    rcases ha' with rfl | ⟨b, off, rfl, h⟩
    · simp at hj
    · exact ⟨b, off, rfl, h⟩
  have Ha := Lib.hid ha2
  have HNO := Lib.hid hno
  have HM := Lib.hid hm
  clear ha' ha2 hno hm
  generalize hnn : xs.length = n at *
  clear hnn
  go_enter Try.func102, Try.ntmps102
  go_wp2_with fail
  go_loopw [8] (fun c wr => wr = w ∧ ∃ k : Nat, k ≤ j ∧ c = .int .i64 (k : Int)) (fun c _ => n - (intOf c).toNat)
  case atStart => exact ⟨by first | rfl | trivial, 0, Nat.zero_le _, rfl⟩
  case round =>
    obtain ⟨rfl, k, hk, rfl⟩ := hrel
    have hlt : k < n := by omega
    have hi1 : (k : Int) < (n : Int) := by omega
    have hi0 : (0 : Int) ≤ (k : Int) := by omega
    have hca := Ha.out k hlt
    by_cases e : k = j
    · subst e
      rw [HM.out] at hca
      have hq : (x == x) = true := by simp
      go_wp2_with fail
      go_ret
      exact ⟨rfl, rfl⟩
    · have hq : (x == xs.getD k 0) = false := beq_eq_false_iff_ne.2 fun h => HNO.out k (by omega) h.symm
      generalize xs.getD k 0 = y at *
      go_wp2_with fail
      go_roundw
      case rel => exact ⟨by first | rfl | trivial, k + 1, by omega, by go_num⟩
      case measure => simp [intOf]; omega

set_option maxRecDepth 100000 in
set_option maxHeartbeats 1000000 in
theorem differenceAt_any (g l cap : Nat) (N : Int) (tv : Nat → Int) (row : Int) (w : World) (ht : TabB w g l N tv) (hl : l ≤ 16) (hv : ∀ q, q < l → 0 ≤ tv q ∧ tv q < 9223372036854775808) (r0 : 0 ≤ row) (r6 : row ≤ 62) :
    Calls Try.prog 101 #[.slice (some ⟨g, 0, none⟩) l cap, .int .i64 row] w fun e w' => e = .returned (.int .i64 (difT tv l row)) ∧ Below w.heap.size w w' := by
  have HV : Hid (∀ q, q < l → ∀ w, Calls Try.prog 129 #[.agg #[.int .i64 N, .int .i64 (tv q)], .int .i64 row] w fun e w' => e = .returned (.int .i64 (digZ (tv q) row)) ∧ Below w.heap.size w w') := fun q hq w => valueAt_any N (tv q) row w (hv q hq).1 (hv q hq).2 r0 r6
  have HT := Lib.hid ht
  have HCB := Lib.hid (cntT_bd tv row)
  have HDB := Lib.hid (fun q => digZ_bd (tv q) row)
  have HD := Lib.hid (dif_zeros tv l row)
  clear ht hv r0 r6
  go_enter Try.func101, Try.ntmps101
  go_wp2_with fail
  go_loopw [5, 11] (fun u c wr => ∃ k : Nat, k ≤ l ∧ c = .int .i64 (k : Int) ∧ u = .int .i64 (cntT tv row k) ∧ Below w.heap.size w wr) (fun _ c _ => l - (intOf c).toNat)
  case atStart => exact ⟨0, Nat.zero_le _, rfl, rfl, Below.refl _ _⟩
  case round =>
    obtain ⟨k, hk, rfl, rfl, hL⟩ := hrel
    by_cases hlt : k < l
    · have hi1 : (k : Int) < (l : Int) := by omega
      have hi0 : (0 : Int) ≤ (k : Int) := by omega
      have hca0 := cell_later hL (HT.out.2 k hlt).1.1
      have hca1 := cell_later hL (HT.out.2 k hlt).1.2
      have HVK := Lib.hid (HV.out k hlt)
      have hb1 := HCB.out k
      have hb2 := HDB.out k
      have HS : Hid (cntT tv row (k + 1) = cntT tv row k + digZ (tv k) row) := rfl
      have hzz := hL.size
      have hLa := hL.alloc hzz (.cells #[.int .i64 N, .int .i64 (tv k)] 44)
      generalize digZ (tv k) row = dg at *
      generalize cntT tv row k = ck at *
      generalize tv k = tk at *
      have hw64 : IntKind.i64.wrap (ck + dg) = ck + dg := wrap_in (by omega) (by omega)
      go_wp2_with (go_at_call 129; (with_reducible refine (HVK.out _).mono ?_); rintro e w5 ⟨rfl, hb⟩; have hL5 := chain (B := w.heap.size) (a := w) hLa (Nat.le_refl _) hb; clear hb)
      exact ⟨⟨k + 1, by omega, by go_num, by rw [HS.out], hL5⟩, by simp [intOf]; omega⟩
    · have e : k = l := by omega
      subst e
      have hge : ¬ (k : Int) < (k : Int) := by omega
      have hb1 := HCB.out k
      have hd := HD.out
      generalize cntT tv row k = ck at *
      have e1 : IntKind.i64.wrap ((k : Int) - ck) = (k : Int) - ck := wrap_in (by omega) (by omega)
      have e2 : IntKind.i64.wrap (ck - ((k : Int) - ck)) = ck - ((k : Int) - ck) := wrap_in (by omega) (by omega)
      have e3 : IntKind.i64.wrap ((k : Int) - ck - ck) = (k : Int) - ck - ck := wrap_in (by omega) (by omega)
      go_wp2_with fail
      all_goals go_ret
      all_goals refine ⟨?_, hL⟩
      all_goals rw [← hd]
      all_goals first | exact congrArg (fun z => Ending.returned (.int .i64 z)) (show (k : Int) - ck - ck = max (ck - ((k : Int) - ck)) ((k : Int) - ck - ck) by omega) | exact congrArg (fun z => Ending.returned (.int .i64 z)) (show ck - ((k : Int) - ck) = max (ck - ((k : Int) - ck)) ((k : Int) - ck - ck) by omega)

/-- the predicate of BestTest -/
theorem disagrees_any (n z : Int) (v2 : Value) (ss : List (List Int)) (R : Int) (bs : Nat) (w : World) (hc : w.cell? ⟨bs, 0, none⟩ = some v2) (hs : Reads2 w v2 ss) (hok : ∀ i, i < ss.length → SgOk R (ss.getD i [])) (hR : R ≤ 32) (z0 : 0 ≤ z) (z1 : z < 9223372036854775808) :
    Calls Try.prog 98 (#[.agg #[.int .i64 n, .int .i64 z]] ++ #[.pointer (some ⟨bs, 0, none⟩)]) w fun e w' => e = .returned (.bool (!agB z ss)) ∧ Below w.heap.size w w' := by
  have HA := Lib.hid (fun w' (h : Below w.heap.size w w') => agrees_any n z v2 ss R w' (hs.keep h) hok hR z0 z1 rfl)
  have hca := cell_later ((Below.refl w.heap.size w).alloc (Nat.le_refl _) (.cells #[.int .i64 n, .int .i64 z] 44)) hc
  obtain ⟨a3, cs, rfl, _, _⟩ := hs
  clear hok hc hR z0 z1
  generalize agB z ss = q at *
  go_enter Try.func98, Try.ntmps98
  go_wp2_with (go_at_call 97; (with_reducible refine (HA.out _ (by go_grown)).mono ?_); rintro e w5 ⟨rfl, hb⟩; have hL5 := chain (B := w.heap.size) (a := w) (by go_grown) (Nat.le_refl _) hb; clear hb)
  go_ret
  exact ⟨rfl, hL5⟩

theorem OwnsT.tabB {w : World} {B g c : Nat} {N : Int} {f : Nat → Int} {n : Nat} (h : OwnsT w B (.slice (some ⟨g, 0, none⟩) n c) N f n) : TabB w g n N f := by
  obtain ⟨_, _, e1, hr⟩ := h.reads
  simp only [Value.slice.injEq, Option.some.injEq, Addr.mk.injEq] at e1
  obtain ⟨⟨rfl, _⟩, _, rfl⟩ := e1
  exact ⟨(World.ownsRow.lt h g rfl).2, fun j hj => ⟨hr j hj, World.ownsRow.frozenAt h _, World.ownsRow.frozenAt h _⟩⟩
theorem TabB.turn {w w' : World} {g n : Nat} {N : Int} {c : Nat → Int} (h : TabB w g n N c) (e : w'.heap[g]? = w.heap[g]?) (hs : w.heap.size ≤ w'.heap.size) : TabB w' g n N c := by
  refine ⟨by have := h.1; omega, fun j hj => ?_⟩
  obtain ⟨⟨a, b⟩, x, y⟩ := h.2 j hj
  exact ⟨⟨(World.cell?_of_block (w := w) e).trans a, (World.cell?_of_block (w := w) e).trans b⟩, (World.frozen?_of_block (w := w) e).trans x, (World.frozen?_of_block (w := w) e).trans y⟩
/-- the first k of d 0, d 1 .. -/
def listD (d : Nat → Int) (k : Nat) : List Int := (List.range k).map d
theorem listD_step (d : Nat → Int) (k : Nat) : listD d (k + 1) = listD d k ++ [d k] := by unfold listD; rw [List.range_succ]; simp
theorem listD_len (d : Nat → Int) (k : Nat) : (listD d k).length = k := by simp [listD]
theorem listD_get (d : Nat → Int) {k r : Nat} (h : r < k) : (listD d k).getD r 0 = d r := by
  unfold listD
  rw [List.getD_eq_getElem?_getD, List.getElem?_map, List.getElem?_range h]; rfl
theorem kept_dif (xs : List Int) (yss ss : List (List Int)) (r : Nat) :
    difT (fun q => (keptTo (fun z => !agB z ss) (tabI xs yss) yss.length).getD q 0) (keptTo (fun z => !agB z ss) (tabI xs yss) yss.length).length (r : Int) = bestD xs yss ss r := by
  have hk := kept_pick (agI xs yss ss) (tabI xs yss) (fun z => !agB z ss) (fun i => rfl) yss.length
  have hl : (keptTo (fun z => !agB z ss) (tabI xs yss) yss.length).length = nF xs yss ss := by rw [hk, List.length_map]; rfl
  unfold bestD difT
  rw [hl]
  have hc : cntT (fun q => (keptTo (fun z => !agB z ss) (tabI xs yss) yss.length).getD q 0) (r : Int) (nF xs yss ss) = cntT (tvF xs yss ss) (r : Int) (nF xs yss ss) := cntT_congr fun q hq => by
    show (keptTo (fun z => !agB z ss) (tabI xs yss) yss.length).getD q 0 = _
    rw [hk, map_pick_getD hq]; rfl
  rw [hc]
theorem kept_bd {xs : List Int} (h5 : xs.length ≤ 5) (yss ss : List (List Int)) {q : Nat} (hq : q < (keptTo (fun z => !agB z ss) (tabI xs yss) yss.length).length) :
    0 ≤ (keptTo (fun z => !agB z ss) (tabI xs yss) yss.length).getD q 0 ∧ (keptTo (fun z => !agB z ss) (tabI xs yss) yss.length).getD q 0 < 9223372036854775808 := by
  have hk := kept_pick (agI xs yss ss) (tabI xs yss) (fun z => !agB z ss) (fun i => rfl) yss.length
  rw [hk, List.length_map] at hq
  rw [hk, map_pick_getD hq]
  exact tabI_bd h5 yss _

set_option maxRecDepth 100000 in
set_option maxHeartbeats 2000000 in
theorem iBestTest_any (v : Value) (p : Int) (xs : List Int) (yss : List (List Int)) (v2 : Value) (ss : List (List Int)) (w : World) (ha : ReadsW w v p xs yss) (hs : Reads2 w v2 ss) :
    Calls Try.prog 49 #[v, v2] w fun e w' => e = .returned (.tuple #[.int .i64 (resBestTest_0 p xs yss ss), .int .i64 (resBestTest_1 p xs yss ss)]) ∧ Below w.heap.size w w' := by
  unfold resBestTest_0 resBestTest_1
  obtain ⟨i0, hi, hz0, hz1, hz2⟩ := info_parts info64
  obtain ⟨c, hc⟩ : ∃ c, sgC p xs yss ss = c := ⟨_, rfl⟩
  have HP := Lib.hid (fun w' (h : Below w.heap.size w w') => sightsError_any v v2 p xs yss ss w' (ha.keep h) (hs.keep h) hc)
  have ha' := ha
  obtain ⟨a, ca, b', cb, rfl, _, _⟩ := ha
  obtain ⟨a3, cs, rfl, hm3, _⟩ := id hs
  unfold maxLen at hm3
  have h0 := (C3.here w (.int .i64 p) (.slice a xs.length ca) (.slice b' yss.length cb) 28).alloc (.cells #[.slice a3 ss.length cs] 23)
  have c1 : ((w.alloc (.cells #[.int .i64 p, .slice a xs.length ca, .slice b' yss.length cb] 28)).alloc (.cells #[.slice a3 ss.length cs] 23)).cell? ⟨w.heap.size + 1, 0, none⟩ = some (.slice a3 ss.length cs) := by
    rw [World.cell?_alloc_at _ _ _ _ (by simp)]; rfl
  have hL0 : Below w.heap.size w ((w.alloc (.cells #[.int .i64 p, .slice a xs.length ca, .slice b' yss.length cb] 28)).alloc (.cells #[.slice a3 ss.length cs] 23)) := by go_grown
  have hz0' : ((w.alloc (.cells #[.int .i64 p, .slice a xs.length ca, .slice b' yss.length cb] 28)).alloc (.cells #[.slice a3 ss.length cs] 23)).heap.size = w.heap.size + 1 + 1 := by simp
  rw [hc]
  by_cases h : c = 0
  · subst h
    obtain ⟨hw', hok⟩ := sgC_zero hc
    have hw := hw'.weak
    obtain ⟨h1, h5⟩ := hw.1.1
    have HF := Lib.hid (fun w' (h : Below w.heap.size w w') => faultTables_any _ p xs yss w' (ha'.keep h) hw)
    have HPC := Lib.hid (fun w' (h : Below w.heap.size w w') => positionCount_any _ p xs yss w' (ha'.keep h) h1 h5 rfl)
    have HRC : Hid (rcZ (xs.length : Int) = ((2 ^ xs.length : Nat) : Int)) := by unfold Hid rcZ; rw [Int.toNat_natCast]
    have HDIS : Hid (∀ k w', Below w.heap.size w w' → w'.cell? ⟨w.heap.size + 1, 0, none⟩ = some (.slice a3 ss.length cs) → Calls Try.prog 98 (#[.agg #[.int .i64 (xs.length : Int), .int .i64 (tabI xs yss k)]] ++ #[.pointer (some ⟨w.heap.size + 1, 0, none⟩)]) w' fun e w'' => e = .returned (.bool (!agB (tabI xs yss k) ss)) ∧ Below w'.heap.size w' w'') := fun k w' hb hcc =>
      disagrees_any _ _ _ ss (rcZ (xs.length : Int)) (w.heap.size + 1) w' hcc (hs.keep hb) hok.2 (rc32 h5) (tabI_bd h5 yss k).1 (tabI_bd h5 yss k).2
    have HDL : Hid (∀ w' g, Below w.heap.size w w' → w'.cell? ⟨w.heap.size + 1, 0, none⟩ = some (.slice a3 ss.length cs) → w.heap.size + 1 < g → TabB w' g yss.length (xs.length : Int) (tabI xs yss) → Calls Try.prog 99 #[.slice (some ⟨g, 0, none⟩) yss.length yss.length, .func (.func 98) #[] #[.pointer (some ⟨w.heap.size + 1, 0, none⟩)]] w' fun e w'' => e = .returned (.slice (some ⟨g, 0, none⟩) (keptTo (fun z => !agB z ss) (tabI xs yss) yss.length).length yss.length) ∧ TabB w'' g (keptTo (fun z => !agB z ss) (tabI xs yss) yss.length).length (xs.length : Int) (fun j => (keptTo (fun z => !agB z ss) (tabI xs yss) yss.length).getD j 0) ∧ Below g w' w'') := fun w' g hb hcc hg ht =>
      deleteFuncT_any (xs.length : Int) g yss.length yss.length (tabI xs yss) 98 #[.pointer (some ⟨w.heap.size + 1, 0, none⟩)] (fun z => !agB z ss)
        (fun wx => Below w.heap.size w wx ∧ wx.cell? ⟨w.heap.size + 1, 0, none⟩ = some (.slice a3 ss.length cs)) w' (by have := hw.2.2.1; omega) (Nat.le_refl _) (by have := hw.2.2.1; omega) ht ⟨hb, hcc⟩
        ⟨fun k wx hk hq => HDIS.out k wx hq.1 hq.2, enters_of Try.func98 (by kernel_rfl) rfl, fun w1 w2 hq hb2 => ⟨chain (B := w.heap.size) (a := w) hq.1 (by have := hq.1.size; omega) hb2, cell_later hb2 hq.2⟩,
          fun w1 m x hq => ⟨(hq.1.setCell (p := ⟨g, m * 2, none⟩) (by show w.heap.size ≤ g; omega) _).setCell (p := ⟨g, m * 2 + 1, none⟩) (by show w.heap.size ≤ g; omega) _, by rw [set2_other _ _ _ _ _ _ _ (.inl (by omega))]; exact hq.2⟩⟩
    have HDI : Hid (∀ (w' : World) (g cap r : Nat), TabB w' g (keptTo (fun z => !agB z ss) (tabI xs yss) yss.length).length (xs.length : Int) (fun j => (keptTo (fun z => !agB z ss) (tabI xs yss) yss.length).getD j 0) → r ≤ 62 → Calls Try.prog 101 #[.slice (some ⟨g, 0, none⟩) (keptTo (fun z => !agB z ss) (tabI xs yss) yss.length).length cap, .int .i64 (r : Int)] w' fun e w'' => e = .returned (.int .i64 (bestD xs yss ss r)) ∧ Below w'.heap.size w' w'') := fun w' g cap r ht hr => by
      have := differenceAt_any g _ cap (xs.length : Int) _ (r : Int) w' ht (by have := keptTo_len (fun z => !agB z ss) (tabI xs yss) yss.length; have := hw.2.2.1; omega) (fun q hq => kept_bd h5 yss ss hq) (by omega) (by omega)
      rwa [kept_dif] at this
    have hp32 : Hid (2 ^ xs.length ≤ 32) := pow_le32 h5
    have hp0 : Hid (0 < 2 ^ xs.length) := Nat.pow_pos (by decide)
    have hd0 : ∀ r, 0 ≤ bestD xs yss ss r := fun r => (difT_bd _ _ _).1
    have HBM := Lib.hid (bm_spec hd0 hp0.out)
    rw [if_pos rfl]
    clear hc ha' hw hw' hok h1 h5 hs HDIS hd0
    rw [HRC.out] at HPC
    generalize bestD xs yss ss = d at *
    generalize (keptTo (fun z => !agB z ss) (tabI xs yss) yss.length).length = l at *
    generalize (fun j => (keptTo (fun z => !agB z ss) (tabI xs yss) yss.length).getD j 0) = tv at *
    generalize tabI xs yss = f at *
    generalize hRR : 2 ^ xs.length = R at *
    clear hRR HRC
    generalize xs.length = n at *
    generalize yss.length = m at *
    generalize ss.length = q at *
    obtain ⟨⟨bi, bv⟩, hbm⟩ : ∃ b, bm d R = b := ⟨_, rfl⟩
    rw [hbm] at HBM ⊢
    have HMI : Hid (∀ w' u, Reads w' u (listD d R) → Calls Try.prog 103 #[u] w' fun e w'' => e = .returned (.int .i64 bv) ∧ w' = w'') := fun w' u h =>
      min_any u _ w' h (j := bi) (by rw [listD_len]; exact HBM.out.1) (by rw [listD_get d HBM.out.1]; exact HBM.out.2.1.symm) (fun i hi => by rw [listD_len] at hi; rw [listD_get d hi]; exact HBM.out.2.2.1 i hi)
    have HIX : Hid (∀ w' u, Reads w' u (listD d R) → Calls Try.prog 102 #[u, .int .i64 bv] w' fun e w'' => e = .returned (.int .i64 (bi : Int)) ∧ w' = w'') := fun w' u h =>
      index_any u _ bv w' h (j := bi) (by rw [listD_len]; exact HBM.out.1) (by rw [listD_get d HBM.out.1]; exact HBM.out.2.1.symm) (fun i hi => by
        have h1 := HBM.out.1
        have h2 := HBM.out.2.2.2 i hi
        simp only at h1 h2
        rw [listD_get d (by omega)]; omega)
    clear hbm
    go_enter Try.func49, Try.ntmps49
    go_wp2_with ((go_at_call 96; (with_reducible refine (HP.out _ (by go_grown)).mono ?_); rintro e w' ⟨rfl, hb⟩; have hL := chain (B := w.heap.size) (a := w) (by go_grown) (Nat.le_refl _) hb; (first | replace h0 := keepAt3 hb h0 | replace h0 := keepAt3 hb (C3.alloc h0 _)); replace c1 := cell_later hb c1; clear hb))
    have hzw2 : w.heap.size + 1 < w'.heap.size := World.block_lt_of_cell? _ _ c1
    refine (HF.out _ hL).mono ?_
    rintro e w4 ⟨g, rfl, ho, hb⟩
    have hL4 := chain (B := w.heap.size) (a := w) hL (Nat.le_refl _) hb
    have h04 := keepAt3 hb h0
    have c14 := cell_later hb c1
    have hg4 : w.heap.size + 1 < g := by have := (World.ownsRow.lt ho g rfl).1; omega
    have HTB := Lib.hid ho.tabB
    clear ho hb h0 c1 hL
    go_wp2_with fail
    refine (HDL.out _ g hL4 c14 hg4 HTB.out).mono ?_
    rintro e w5 ⟨rfl, ht5, hb⟩
    have hL5 := hL4.trans (hb.mono (show w.heap.size ≤ g by omega))
    have h05 := h04.turn (hb.block _ (by omega)) hb.size
    have HT5 := Lib.hid ht5
    clear ht5 hb h04 c14 hL4 HTB
    go_wp2_with fail
    refine (HPC.out _ hL5).mono ?_
    rintro e w6 ⟨rfl, hb⟩
    have hL6 := chain (B := w.heap.size) (a := w) hL5 (Nat.le_refl _) hb
    have HT6 := Lib.hid (HT5.out.keep hb)
    clear hb h05 hL5 HT5
    go_wp2_with fail
    go_loopw [9, 24] (fun u c wr => ∃ k : Nat, k ≤ R ∧ c = .int .i64 (k : Int) ∧ Below w.heap.size w wr ∧ Hid (TabB wr g l (n : Int) tv) ∧ Hid (u.ownBlock ≠ some g) ∧ Hid (Owns wr w.heap.size u (listD d k))) (fun _ c _ => R - (intOf c).toNat)
    case atStart => exact ⟨0, Nat.zero_le _, rfl, hL6, HT6, by simp [Hid, Value.ownBlock], World.ownsRow_nil _ _ _ _⟩
    case round =>
      clear hL6 HT6
      obtain ⟨k, hk, rfl, hL, HT, HNE, HO⟩ := hrel
      by_cases hlt : k < R
      · have hi1 : (k : Int) < (R : Int) := by omega
        have hi0' : (0 : Int) ≤ (k : Int) := by omega
        have hR32 := hp32.out
        have hk63 : (k : Int) < 9223372036854775807 := by omega
        have HLK := Lib.hid (listD_len d k)
        have HDK := Lib.hid (fun w' cap (ht : TabB w' g l (n : Int) tv) => HDI.out w' g cap k ht (by omega))
        have HN := Lib.hid (listD_step d k)
        generalize d k = dk at *
        go_wp2_with (first | (go_at_call 101; (with_reducible refine (HDK.out _ _ HT.out).mono ?_); rintro e w7 ⟨rfl, hb⟩; have hL7 := chain (B := w.heap.size) (a := w) hL (Nat.le_refl _) hb; have HO7 := Lib.hid (rowLater HO.out hb); have HT7 := Lib.hid (HT.out.keep hb); have hz7 := hL7.size; clear hb) | (at_builtin; refine wpList_append_own_at _ rfl _ _ 22 rfl w.heap.size 2 i0 (.int .i64 0) 1 8 Try.underlying22 hi hz0 hz1 hz2 rfl (by decide) u9 _ _ rfl (World.ownsRow.alloc HO7.out _) ⟨w7.heap.size, 0, none⟩ 1 1 [.int .i64 dk] rfl rfl (cell_one_new _ _ _) (by simp [Value.oneCell']) (by have := HLK.out; unfold maxLen; omega) (by have := HLK.out; omega) (by simp; omega) ?_; intro v' w8 hown hgrow hnil hat; have hnew : v'.ownBlock = u9.ownBlock ∨ v'.ownBlock = some (w7.heap.size + 1) := (by simpa using hat); have hgz := HT7.out.1; have HT8 := Lib.hid ((HT7.out.keep ((Below.refl _ _).alloc (Nat.le_refl _) (.cells #[.int .i64 dk] 2))).turn (hgrow.block g (by simp; omega) (Ne.symm HNE.out)) hgrow.size); have HNE1 : Hid (v'.ownBlock ≠ some g) := (fun e => hnew.elim (fun e2 => HNE.out (by rw [← e2]; exact e)) (fun e2 => by rw [e2] at e; simp at e; omega)); have hL8 := (hL7.alloc hz7 _).grown hgrow (by simp; omega) (fun q e => (World.ownsRow.lt HO7.out q e).1); have HO8 := Lib.hid (Owns.snoc hown); clear hown hgrow hnil hat hnew hgz))
        rw [← HN.out] at HO8
        exact ⟨⟨k + 1, by omega, by go_num, hL8, HT8, HNE1, HO8⟩, by simp [intOf]; omega⟩
      · have e : k = R := by omega
        rw [e] at HO
        have HR := Lib.hid HO.out.reads
        have hge : ¬ (k : Int) < (R : Int) := by omega
        clear e
        go_wp2_with (first | (go_at_call 103; (with_reducible refine (HMI.out _ _ HR.out).mono ?_); rintro e w' ⟨rfl, rfl⟩) | (go_at_call 102; (with_reducible refine (HIX.out _ _ HR.out).mono ?_); rintro e w' ⟨rfl, rfl⟩))
        go_ret2
        exact ⟨rfl, hL⟩
  · rw [if_neg h]
    have hne : (c != 0) = true := by simpa using h
    clear hc ha' h hs
    generalize xs.length = n at *
    generalize yss.length = m at *
    generalize ss.length = q at *
    go_enter Try.func49, Try.ntmps49
    go_wp2_with ((go_at_call 96; (with_reducible refine (HP.out _ (by go_grown)).mono ?_); rintro e w' ⟨rfl, hb⟩; have hL := chain (B := w.heap.size) (a := w) (by go_grown) (Nat.le_refl _) hb; (first | replace h0 := keepAt3 hb h0 | replace h0 := keepAt3 hb (C3.alloc h0 _)); replace c1 := cell_later hb c1; clear hb))
    go_ret2
    exact ⟨rfl, hL⟩

end Go.Proofs.Ytkdidplpnhokiaa
