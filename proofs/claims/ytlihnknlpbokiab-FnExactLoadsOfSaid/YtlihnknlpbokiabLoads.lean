/- LoadsOf: the program's and the model's. -/
import Derived.Test.YtlihnknlpbokiabCts
import Derived.Test.YtlihnknlpbokiabNetB
import Derived.Test.YtlihnknlpbokiabSNet
import Derived.Test.YtlihnknlpbokiabClosedM
namespace Go.Proofs.Ytlihnknlpbokiab
open Go.RowKit
set_option linter.unusedVariables false

/-- the loads of the five inputs in the first k contacts -/
def loadsTo (xss : List (List Int)) : Nat → List Int
  | 0 => [0, 0, 0, 0, 0]
  | k + 1 => (loadsTo xss k).set ((xss.getD k []).getD 2 0).toNat ((loadsTo xss k).getD ((xss.getD k []).getD 2 0).toNat 0 + 1)
theorem loadsTo_len (xss : List (List Int)) (k : Nat) : (loadsTo xss k).length = 5 := by
  induction k with
  | zero => rfl
  | succ k ih => simp [loadsTo, ih]
theorem loadsTo_bd (xss : List (List Int)) (k j : Nat) : 0 ≤ (loadsTo xss k).getD j 0 ∧ (loadsTo xss k).getD j 0 ≤ k := by
  induction k generalizing j with
  | zero =>
    have h : j = 0 ∨ j = 1 ∨ j = 2 ∨ j = 3 ∨ j = 4 ∨ 5 ≤ j := by omega
    rcases h with rfl | rfl | rfl | rfl | rfl | h
    · simp [loadsTo]
    · simp [loadsTo]
    · simp [loadsTo]
    · simp [loadsTo]
    · simp [loadsTo]
    · rw [List.getD_eq_getElem?_getD, List.getElem?_eq_none (by simp [loadsTo]; omega)]; simp
  | succ k ih =>
    simp only [loadsTo]
    rw [List.getD_eq_getElem?_getD, List.getElem?_set]
    split
    · split
      · have := ih ((xss.getD k []).getD 2 0).toNat; simp only [Option.getD_some]; omega
      · simp; omega
    · have := ih j; rw [List.getD_eq_getElem?_getD] at this; omega
theorem loadsTo_map (xss : List (List Int)) (k : Nat) : ((loadsTo xss (k + 1)).map (Value.int .i64)) = ((loadsTo xss k).map (Value.int .i64)).set ((xss.getD k []).getD 2 0).toNat (.int .i64 ((loadsTo xss k).getD ((xss.getD k []).getD 2 0).toNat 0 + 1)) := by
  simp only [loadsTo, List.map_set]
theorem loadsTo_cell (xss : List (List Int)) (k j : Nat) (h : j < 5) : ((loadsTo xss k).map (Value.int .i64))[j]? = some (.int .i64 ((loadsTo xss k).getD j 0)) := by
  have hl := loadsTo_len xss k
  rw [List.getElem?_map, List.getD_eq_getElem?_getD, List.getElem?_eq_getElem (by omega)]
  rfl
theorem loads_zero : (madeCells (Value.int .i64 0).cells (5 * 1)).toList = ([0, 0, 0, 0, 0] : List Int).map (Value.int .i64) := made_zero 5

/-- what LoadsOf gives -/
def ldList (p : Int) (xss : List (List Int)) : List Int := if Net p xss then loadsTo xss xss.length else []
def ldCode (p : Int) (xss : List (List Int)) : Int := if Net p xss then 0 else 1
theorem ldList_len (p : Int) (xss : List (List Int)) : (ldList p xss).length ≤ 1000 := by
  unfold ldList; split
  · rw [loadsTo_len]; omega
  · simp

theorem l02Is_b (p : Int) (v : Value) (xss : List (List Int)) (w : World) (ha : Reads2 w v xss) {b : Bool} (hb : decide (Net p xss) = b) :
    Calls Try.prog 56 #[.agg #[.int .i64 p, v]] w fun e w' => e = .returned (.bool b) ∧ Below w.heap.size w w' := by
  have := l02Is_any p v xss w ha
  rwa [hb] at this

set_option maxRecDepth 100000 in
set_option maxHeartbeats 2000000 in
theorem iLoadsOf_any (p : Int) (v : Value) (xss : List (List Int)) (w : World) (ha : Reads2 w v xss) :
    Calls Try.prog 35 #[.agg #[.int .i64 p, v]] w fun e w' => ∃ u, e = .returned (.tuple #[u, .int .i64 (ldCode p xss)]) ∧ Owns w' w.heap.size u (ldList p xss) ∧ Below w.heap.size w w' := by
  have HR := Lib.hid (ha.keep ((Below.refl _ _).alloc (Nat.le_refl _) (.cells #[.int .i64 p, v] 30)))
  obtain ⟨a, ca, rfl, hm, _⟩ := ha
  have k0 := C2.here w (.int .i64 p) (.slice a xss.length ca) 30
  by_cases hN : Net p xss
  · have HN : Hid (decide (Net p xss) = true) := decide_eq_true hN
    have hr1 : Hid (ldList p xss = loadsTo xss xss.length) := by unfold Hid ldList; rw [if_pos hN]
    have hr2 : Hid (ldCode p xss = 0) := by unfold Hid ldCode; rw [if_pos hN]
    have HC := Lib.hid (net_con hN)
    clear hN
    obtain ⟨i0, hi, hz0, hz1, hz2⟩ := info_parts info64
    go_enter Try.func35, Try.ntmps35
    go_wp2_with fail
    refine (isNetwork_b _ _ xss _ HR.out HN.out).mono ?_
    rintro e wn ⟨rfl, hb⟩
    have hL := chain (B := w.heap.size) (a := w) (by go_grown) (Nat.le_refl _) hb
    replace k0 := keepAt hb k0
    replace HR := Lib.hid (reads2At hb HR.out)
    have hsz := hL.size
    clear hb
    go_wp2_with (at_make; refine wpList_make_full _ rfl _ _ 41 rfl w.heap.size 2 i0 (.int .i64 0) 1 Try.underlying41 hi hz0 hz1 .i64 .i64 5 5 5 rfl rfl rfl rfl (by rw [hz2]; omega) (by unfold maxLen; omega) hsz ?_; intro w1 oo hg; have hL1 : Below w.heap.size w w1 := Below.grown hL hg hsz (by simp); replace k0 := k0.grown hg (by simp); replace HR := Lib.hid (reads2At (Below.grown (Below.refl _ _) hg (Nat.le_refl _) (by simp)) HR.out))
    have hgz := (World.ownsRow.lt oo wn.heap.size rfl).2
    have ob : Owns w1 w.heap.size (.slice (some ⟨wn.heap.size, 0, none⟩) 5 5) (loadsTo xss 0) := by
      have h := oo
      rw [loads_zero] at h
      exact h
    clear oo hg hi hz0 hz1 hz2
    refine (contactsOf_any p _ xss _ HR.out HC.out.1 HC.out.2.1).mono ?_
    rintro e w2 ⟨u2, rfl, oc, hb⟩
    have hL2 := chain (B := w.heap.size) (a := w) hL1 (Nat.le_refl _) hb
    have hzb := hb.size
    have hlo := World.ownsRow.lt oc
    obtain ⟨ua, uc, rfl, _, hce⟩ := oc.reads
    replace ob := ob.keep hb
    clear hb oc
    have Ha : Hid (∀ i, i < xss.length → ∃ b, ua = some ⟨b, 0, none⟩ ∧ w1.heap.size ≤ b ∧ ∀ j, j < 4 → w2.cell? ⟨b, i * 4 + j, none⟩ = some (.int .i64 ((xss.getD i []).getD j 0))) := fun i hi => by
      rcases hce with rfl | ⟨b, rfl, ha⟩
      · simp at hi
      · exact ⟨b, rfl, (hlo b rfl).1, ha i hi⟩
    have HK := Lib.hid HC.out.2.2.1
    have hn12 := HC.out.1
    have HLT : Hid (wn.heap.size < w2.heap.size ∧ w.heap.size ≤ wn.heap.size ∧ w.heap.size ≤ w2.heap.size ∧ wn.heap.size < w1.heap.size) := ⟨by omega, hsz, hL2.size, hgz⟩
    have HL2 := Lib.hid hL2
    have ob0 := Lib.hid ob
    clear hce hlo hL hL1 hL2 hsz hgz hzb ob k0
    generalize hnn : xss.length = n at *
    clear hnn
    generalize hgn : wn.heap.size = g at *
    clear hgn
    go_wp2_with fail
    go_loopw [14] (fun c wr => ∃ k : Nat, k ≤ n ∧ c = .int .i64 (k : Int) ∧ Hid (w2.grownBy wr (some g)) ∧ Hid (Owns wr w.heap.size (.slice (some ⟨g, 0, none⟩) 5 5) (loadsTo xss k))) (fun c _ => n - (intOf c).toNat)
    case atStart => exact ⟨0, Nat.zero_le _, rfl, World.grownBy.refl _ _, ob0⟩
    case round =>
      obtain ⟨k, hk, rfl, HG, HO⟩ := hrel
      by_cases hlt : k < n
      · obtain ⟨b, rfl, hbg, hcs⟩ := Ha.out k hlt
        have hne : some b ≠ some g := by have := HLT.out; simp; omega
        have c0 := World.grownBy.cell HG.out (hcs 0 (by omega)) hne
        have c1 := World.grownBy.cell HG.out (hcs 1 (by omega)) hne
        have c2 := World.grownBy.cell HG.out (hcs 2 (by omega)) hne
        have c3 := World.grownBy.cell HG.out (hcs 3 (by omega)) hne
        simp only [Nat.add_zero] at c0
        obtain ⟨q0, q1⟩ := HK.out k hlt
        have hi1 : (k : Int) < (n : Int) := by omega
        have hi0 : (0 : Int) ≤ (k : Int) := by omega
        have HS := Lib.hid (loadsTo_map xss k)
        have hbd := loadsTo_bd xss k ((xss.getD k []).getD 2 0).toNat
        have hll := loadsTo_len xss k
        have hll2 := loadsTo_len xss (k + 1)
        have hO2 : wr.ownsRow w.heap.size 2 1 (.slice (some ⟨g, 0, none⟩) 5 5) 5 ((loadsTo xss k).map (Value.int .i64)) := by have := HO.out; unfold Owns at this; rw [hll] at this; exact this
        have hgr : g < wr.heap.size := (World.ownsRow.lt hO2 g rfl).2
        have HSTEP : Hid (∀ (o : Obj), ((wr.setCell ⟨g, ((xss.getD k []).getD 2 0).toNat, none⟩ (.int .i64 ((loadsTo xss k).getD ((xss.getD k []).getD 2 0).toNat 0 + 1))).alloc o).ownsRow w.heap.size 2 1 (.slice (some ⟨g, 0, none⟩) 5 5) 5 ((loadsTo xss (k + 1)).map (Value.int .i64)) ∧ w2.grownBy ((wr.setCell ⟨g, ((xss.getD k []).getD 2 0).toNat, none⟩ (.int .i64 ((loadsTo xss k).getD ((xss.getD k []).getD 2 0).toNat 0 + 1))).alloc o) (some g)) := fun o => by
          have h1 := hO2.stored ((xss.getD k []).getD 2 0).toNat (.int .i64 ((loadsTo xss k).getD ((xss.getD k []).getD 2 0).toNat 0 + 1))
          refine ⟨by rw [HS.out]; exact h1.1.alloc o, (HG.out.trans h1.2).trans (World.grownBy_alloc _ o _)⟩
        have hcell : wr.cell? ⟨g, ((xss.getD k []).getD 2 0).toNat, none⟩ = some (.int .i64 ((loadsTo xss k).getD ((xss.getD k []).getD 2 0).toNat 0)) := by
          rw [hO2.cellAt _ (by omega)]
          exact loadsTo_cell xss k _ (by omega)
        have hfr := hO2.frozenAt ((xss.getD k []).getD 2 0).toNat
        clear hcs hne hO2 HS hll
        generalize (xss.getD k []).getD 0 0 = x0 at *
        generalize (xss.getD k []).getD 1 0 = x1 at *
        generalize (xss.getD k []).getD 2 0 = x2 at *
        generalize (xss.getD k []).getD 3 0 = x3 at *
        generalize (loadsTo xss k).getD x2.toNat 0 = y at *
        have hcellA : (wr.alloc (.cells #[.int .i64 x0, .int .i64 x1, .int .i64 x2, .int .i64 x3] 61)).cell? ⟨g, x2.toNat, none⟩ = some (.int .i64 y) := cell_later ((Below.refl _ _).alloc (Nat.le_refl _) _) hcell
        have hfrA : (wr.alloc (.cells #[.int .i64 x0, .int .i64 x1, .int .i64 x2, .int .i64 x3] 61)).frozen? ⟨g, x2.toNat, none⟩ = false := (Below.frozen (B := wr.heap.size) ((Below.refl _ _).alloc (Nat.le_refl _) _) (p := ⟨g, x2.toNat, none⟩) hgr).trans hfr
        clear hcell hfr
        go_wp2_with fail
        go_roundw
        case rel =>
          obtain ⟨h1, h2⟩ := HSTEP.out (.cells #[.int .i64 x0, .int .i64 x1, .int .i64 x2, .int .i64 x3] 61)
          refine ⟨k + 1, by omega, by go_num, h2, ?_⟩
          unfold Owns
          rw [hll2]; exact h1
        case measure => simp [intOf]; omega
      · have e : k = n := by omega
        subst e
        have HBL := Lib.hid (Below.grown HL2.out HG.out HLT.out.2.2.1 (fun b e => by have := HLT.out; cases e; omega))
        go_wp2_with fail
        go_ret2
        exact ⟨_, by rw [hr2.out]; rfl, by rw [hr1.out]; exact HO.out, HBL.out⟩
  · have HN : Hid (decide (Net p xss) = false) := decide_eq_false hN
    have hr1 : Hid (ldList p xss = []) := by unfold Hid ldList; rw [if_neg hN]
    have hr2 : Hid (ldCode p xss = 1) := by unfold Hid ldCode; rw [if_neg hN]
    clear hN
    go_enter Try.func35, Try.ntmps35
    go_wp2_with (go_at_call 48; (with_reducible refine (isNetwork_b _ _ xss _ HR.out HN.out).mono ?_); rintro e w' ⟨rfl, hb⟩; have hL := chain (B := w.heap.size) (a := w) (by go_grown) (Nat.le_refl _) hb; clear hb)
    go_ret2
    exact ⟨_, by rw [hr2.out]; rfl, by rw [hr1.out]; exact World.ownsRow_nil _ _ _ _, hL⟩

set_option maxRecDepth 100000 in
set_option maxHeartbeats 2000000 in
theorem sLoadsOf_any (p : Int) (v : Value) (xss : List (List Int)) (w : World) (ha : Reads2 w v xss) :
    Calls Try.prog 34 #[.agg #[.int .i64 p, v]] w fun e w' => ∃ u, e = .returned (.tuple #[u, .int .i64 (ldCode p xss)]) ∧ Owns w' w.heap.size u (ldList p xss) ∧ Below w.heap.size w w' := by
  have HR := Lib.hid (ha.keep ((Below.refl _ _).alloc (Nat.le_refl _) (.cells #[.int .i64 p, v] 30)))
  obtain ⟨a, ca, rfl, hm, ha⟩ := ha
  have k0 := C2.here w (.int .i64 p) (.slice a xss.length ca) 30
  by_cases hN : Net p xss
  · have HN : Hid (decide (Net p xss) = true) := decide_eq_true hN
    have hr1 : Hid (ldList p xss = loadsTo xss xss.length) := by unfold Hid ldList; rw [if_pos hN]
    have hr2 : Hid (ldCode p xss = 0) := by unfold Hid ldCode; rw [if_pos hN]
    have HC := Lib.hid (net_con hN)
    have Ha : Hid (∀ i, i < xss.length → ∃ b off cb co cc, a = some ⟨b, off, none⟩ ∧ w.cell? ⟨b, off + i, none⟩ = some (.slice (some ⟨cb, co, none⟩) 4 cc) ∧ ∀ j, j < 4 → w.cell? ⟨cb, co + j, none⟩ = some (.int .i64 ((xss.getD i []).getD j 0))) := fun i hi => by
      rcases ha with rfl | ⟨b, off, rfl, ha⟩
      · simp at hi
      · obtain ⟨u, hu, hr⟩ := ha i hi
        obtain ⟨cb, co, cc, rfl, h⟩ := hr.four ((net_con hN).2.1 i hi)
        exact ⟨b, off, cb, co, cc, rfl, hu, h⟩
    clear hN ha
    obtain ⟨i0, hi, hz0, hz1, hz2⟩ := info_parts info64
    go_enter Try.func34, Try.ntmps34
    go_wp2_with fail
    refine (l02Is_b _ _ xss _ HR.out HN.out).mono ?_
    rintro e wn ⟨rfl, hb⟩
    have hL := chain (B := w.heap.size) (a := w) (by go_grown) (Nat.le_refl _) hb
    replace k0 := keepAt hb k0
    have hsz : w.heap.size + 1 ≤ wn.heap.size := by have := hb.size; simpa using this
    clear hb
    go_wp2_with (at_make; refine wpList_make_full _ rfl _ _ 41 rfl (w.heap.size + 1) 2 i0 (.int .i64 0) 1 Try.underlying41 hi hz0 hz1 .i64 .i64 5 5 5 rfl rfl rfl rfl (by rw [hz2]; omega) (by unfold maxLen; omega) hsz ?_; intro w1 oo hg; have hL1 : Below w.heap.size w w1 := Below.grown hL hg (by omega) (by simp); replace k0 := k0.grown hg (by simp))
    have ob : Hid (Owns w1 (w.heap.size + 1) (.slice (some ⟨wn.heap.size, 0, none⟩) 5 5) (loadsTo xss 0)) := by
      have h := oo
      rw [loads_zero] at h
      exact h
    clear oo hg hi hz0 hz1 hz2 hL HR
    have HK := Lib.hid HC.out.2.2.1
    have hn12 := HC.out.1
    generalize hnn : xss.length = n at *
    clear hnn
    generalize hgn : wn.heap.size = g at *
    clear hgn
    go_loopw [5] (fun c wr => ∃ k : Nat, k ≤ n ∧ c = .int .i64 (k : Int) ∧ Below w.heap.size w wr ∧ C2 wr w.heap.size (.int .i64 p) (.slice a n ca) ∧ Hid (Owns wr (w.heap.size + 1) (.slice (some ⟨g, 0, none⟩) 5 5) (loadsTo xss k))) (fun c _ => n - (intOf c).toNat)
    case atStart => exact ⟨0, Nat.zero_le _, rfl, hL1, k0, ob⟩
    case round =>
      clear hL1 k0
      obtain ⟨k, hk, rfl, hL, k0, HO⟩ := hrel
      by_cases hlt : k < n
      · obtain ⟨b, off, cb, co, cc, rfl, hu, hcs⟩ := Ha.out k hlt
        have hca := cell_later hL hu
        have c2 := cell_later hL (hcs 2 (by omega))
        obtain ⟨q0, q1⟩ := HK.out k hlt
        have hi1 : (k : Int) < (n : Int) := by omega
        have hi0 : (0 : Int) ≤ (k : Int) := by omega
        have HS := Lib.hid (loadsTo_map xss k)
        have hbd := loadsTo_bd xss k ((xss.getD k []).getD 2 0).toNat
        have hll := loadsTo_len xss k
        have hll2 := loadsTo_len xss (k + 1)
        have hO2 : wr.ownsRow (w.heap.size + 1) 2 1 (.slice (some ⟨g, 0, none⟩) 5 5) 5 ((loadsTo xss k).map (Value.int .i64)) := by have := HO.out; unfold Owns at this; rw [hll] at this; exact this
        have hgr := World.ownsRow.lt hO2 g rfl
        have HSTEP := Lib.hid (hO2.stored ((xss.getD k []).getD 2 0).toNat (.int .i64 ((loadsTo xss k).getD ((xss.getD k []).getD 2 0).toNat 0 + 1))).1
        rw [← HS.out] at HSTEP
        have hcell : wr.cell? ⟨g, ((xss.getD k []).getD 2 0).toNat, none⟩ = some (.int .i64 ((loadsTo xss k).getD ((xss.getD k []).getD 2 0).toNat 0)) := by
          rw [hO2.cellAt _ (by omega)]
          exact loadsTo_cell xss k _ (by omega)
        have hfr := hO2.frozenAt ((xss.getD k []).getD 2 0).toNat
        have HGR : Hid (w.heap.size ≤ g ∧ w.heap.size ≠ g) := ⟨by omega, by omega⟩
        clear hcs hu hO2 HS hll hgr
        generalize (xss.getD k []).getD 2 0 = x2 at *
        generalize (loadsTo xss k).getD x2.toNat 0 = y at *
        go_wp2_with fail
        go_roundw
        case rel =>
          refine ⟨k + 1, by omega, by go_num, hL.setCell (p := ⟨g, x2.toNat, none⟩) HGR.out.1 _, k0.set _ _ _ HGR.out.2, ?_⟩
          unfold Hid Owns
          rw [hll2]; exact HSTEP.out
        case measure => simp [intOf]; omega
      · have e : k = n := by omega
        subst e
        go_wp2_with fail
        go_ret2
        exact ⟨_, by rw [hr2.out]; rfl, by rw [hr1.out]; exact HO.out.mono (by omega), hL⟩
  · have HN : Hid (decide (Net p xss) = false) := decide_eq_false hN
    have hr1 : Hid (ldList p xss = []) := by unfold Hid ldList; rw [if_neg hN]
    have hr2 : Hid (ldCode p xss = 1) := by unfold Hid ldCode; rw [if_neg hN]
    clear hN ha
    go_enter Try.func34, Try.ntmps34
    go_wp2_with (go_at_call 56; (with_reducible refine (l02Is_b _ _ xss _ HR.out HN.out).mono ?_); rintro e w' ⟨rfl, hb⟩; have hL := chain (B := w.heap.size) (a := w) (by go_grown) (Nat.le_refl _) hb; clear hb)
    go_ret2
    exact ⟨_, by rw [hr2.out]; rfl, by rw [hr1.out]; exact World.ownsRow_nil _ _ _ _, hL⟩

end Go.Proofs.Ytlihnknlpbokiab
