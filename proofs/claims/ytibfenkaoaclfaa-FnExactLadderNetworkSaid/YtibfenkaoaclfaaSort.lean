/- Contacts put in order: slices.SortFunc at 12 arrays of four numbers or fewer, with the program's comparison. -/
import Derived.Test.YtibfenkaoaclfaaCts
import Derived.Test.YtibfenkaoaclfaaCmp
import Derived.Test.YtibfenkaoaclfaaInsM
import Derived.Test.YtibfenkaoaclfaaMark2
import Derived.LoopTactic
import Derived.Deep.RegionWith
import Derived.Shelf.Abstract
import Derived.Shelf.SlSortCmp.QuietGrown
namespace Go.Proofs.Ytibfenkaoaclfaa
open Go.RowKit
set_option linter.unusedVariables false

/-- the value of an array of four numbers -/
abbrev con4 (c : List Int) : Value := .agg #[.int .i64 (c.getD 0 0), .int .i64 (c.getD 1 0), .int .i64 (c.getD 2 0), .int .i64 (c.getD 3 0)]

/-- the cells of element k of a slice of arrays, and that they may be written -/
theorem OwnsC.four {w : World} {base : Nat} {g n cap : Nat} {L : List (List Int)} (h : OwnsC w base (.slice (some ⟨g, 0, none⟩) n cap) L) (k : Nat) (hk : k < L.length) :
    w.cell? ⟨g, k * 4, none⟩ = some (.int .i64 ((L.getD k []).getD 0 0)) ∧ w.cell? ⟨g, k * 4 + 1, none⟩ = some (.int .i64 ((L.getD k []).getD 1 0)) ∧
    w.cell? ⟨g, k * 4 + 2, none⟩ = some (.int .i64 ((L.getD k []).getD 2 0)) ∧ w.cell? ⟨g, k * 4 + 3, none⟩ = some (.int .i64 ((L.getD k []).getD 3 0)) := by
  obtain ⟨a, cap', e, _, hr⟩ := h.reads
  rcases hr with rfl | ⟨b, rfl, hr⟩
  · simp at hk
  · cases e
    exact ⟨hr k hk 0 (by omega), hr k hk 1 (by omega), hr k hk 2 (by omega), hr k hk 3 (by omega)⟩
theorem cellsC_set (L : List (List Int)) (k : Nat) (hk : k < L.length) (c : List Int) :
    ((((cellsC L L.length L.length).set (k * 4) (.int .i64 (c.getD 0 0))).set (k * 4 + 1) (.int .i64 (c.getD 1 0))).set (k * 4 + 2) (.int .i64 (c.getD 2 0))).set (k * 4 + 3) (.int .i64 (c.getD 3 0)) = cellsC (L.set k c) (L.set k c).length (L.set k c).length := by
  unfold cellsC
  apply List.ext_getElem
  · simp
  · intro q h1 h2
    have hq : q / 4 < L.length := by
      simp only [List.length_set, List.length_map, List.length_range] at h1
      omega
    have hg : ∀ i, i < L.length → (L.set k c).getD i [] = if i = k then c else L.getD i [] := fun i hi => by
      simp only [List.getD_eq_getElem?_getD, List.getElem?_set]
      by_cases e : k = i
      · subst e; simp [hi]
      · rw [if_neg e, if_neg (Ne.symm e)]
    simp only [List.getElem_set, List.getElem_map, List.getElem_range, List.length_set]
    rw [hg _ hq, if_pos hq, if_pos hq]
    by_cases e3 : k * 4 + 3 = q
    · have a : q / 4 = k := by omega
      have b : q % 4 = 3 := by omega
      rw [if_pos e3, a, b, if_pos rfl]
    · rw [if_neg e3]
      by_cases e2 : k * 4 + 2 = q
      · have a : q / 4 = k := by omega
        have b : q % 4 = 2 := by omega
        rw [if_pos e2, a, b, if_pos rfl]
      · rw [if_neg e2]
        by_cases e1 : k * 4 + 1 = q
        · have a : q / 4 = k := by omega
          have b : q % 4 = 1 := by omega
          rw [if_pos e1, a, b, if_pos rfl]
        · rw [if_neg e1]
          by_cases e0 : k * 4 = q
          · have a : q / 4 = k := by omega
            have b : q % 4 = 0 := by omega
            rw [if_pos e0, a, b, if_pos rfl]
          · rw [if_neg e0, if_neg (by omega)]
/-- element k written over -/
theorem OwnsC.put {w : World} {base : Nat} {g n cap : Nat} {L : List (List Int)} (hn : L.length = n) (h : OwnsC w base (.slice (some ⟨g, 0, none⟩) n cap) L) (k : Nat) (hk : k < L.length) (c : List Int) :
    OwnsC ((((w.setCell ⟨g, k * 4, none⟩ (.int .i64 (c.getD 0 0))).setCell ⟨g, k * 4 + 1, none⟩ (.int .i64 (c.getD 1 0))).setCell ⟨g, k * 4 + 2, none⟩ (.int .i64 (c.getD 2 0))).setCell ⟨g, k * 4 + 3, none⟩ (.int .i64 (c.getD 3 0))) base (.slice (some ⟨g, 0, none⟩) n cap) (L.set k c) := by
  subst hn
  have h0 : w.ownsRow base 77 4 (.slice (some ⟨g, 0, none⟩) L.length cap) L.length (cellsC L L.length L.length) := h
  have h1 := (((((h0.stored (k * 4) (.int .i64 (c.getD 0 0))).1).stored (k * 4 + 1) (.int .i64 (c.getD 1 0))).1.stored (k * 4 + 2) (.int .i64 (c.getD 2 0))).1.stored (k * 4 + 3) (.int .i64 (c.getD 3 0))).1
  unfold OwnsC
  rw [← cellsC_set L k hk c, List.length_set]
  exact h1

set_option maxRecDepth 100000 in
set_option maxHeartbeats 1000000 in
theorem cmpClos_any (c0 c1 c2 c3 d0 d1 d2 d3 : Int) (w : World) {z : Int} (hz : cmpL [c0, c1, c2, c3] [d0, d1, d2, d3] = z) :
    Calls Try.prog 77 #[.agg #[.int .i64 c0, .int .i64 c1, .int .i64 c2, .int .i64 c3], .agg #[.int .i64 d0, .int .i64 d1, .int .i64 d2, .int .i64 d3]] w fun e w' => e = .returned (.int .i64 z) ∧ ∃ n, w' = ((w.alloc (.cells #[.int .i64 c0, .int .i64 c1, .int .i64 c2, .int .i64 c3] 77)).alloc (.cells #[.int .i64 d0, .int .i64 d1, .int .i64 d2, .int .i64 d3] 77)).drewN n := by
  have rd : ∀ (x : List Int) (b : Nat) (wx : World), x.length = 4 → (∀ i, i < 4 → wx.cell? ⟨b, i, none⟩ = some (.int .i64 (x.getD i 0))) → Reads wx (.slice (some ⟨b, 0, none⟩) 4 4) x := fun x b wx hx hcell =>
    ⟨some ⟨b, 0, none⟩, 4, by rw [hx], by rw [hx]; unfold maxLen; omega, .inr ⟨b, 0, rfl, fun i hi => by rw [Nat.zero_add]; exact hcell i (by omega)⟩⟩
  have RC : Hid (∀ n, Reads (((w.alloc (.cells #[.int .i64 c0, .int .i64 c1, .int .i64 c2, .int .i64 c3] 77)).alloc (.cells #[.int .i64 d0, .int .i64 d1, .int .i64 d2, .int .i64 d3] 77)).drewN n) (.slice (some ⟨w.heap.size, 0, none⟩) 4 4) [c0, c1, c2, c3]) := fun n => rd _ _ _ rfl fun i hi => by
    show ((w.alloc _).alloc _).cell? _ = _
    rw [World.cell?_alloc_past _ _ _ (by simp), World.cell?_alloc_at _ _ _ _ rfl]
    have h : i = 0 ∨ i = 1 ∨ i = 2 ∨ i = 3 := by omega
    rcases h with rfl | rfl | rfl | rfl <;> rfl
  have RD : Hid (∀ n, Reads (((w.alloc (.cells #[.int .i64 c0, .int .i64 c1, .int .i64 c2, .int .i64 c3] 77)).alloc (.cells #[.int .i64 d0, .int .i64 d1, .int .i64 d2, .int .i64 d3] 77)).drewN n) (.slice (some ⟨w.heap.size + 1, 0, none⟩) 4 4) [d0, d1, d2, d3]) := fun n => rd _ _ _ rfl fun i hi => by
    show ((w.alloc _).alloc _).cell? _ = _
    rw [World.cell?_alloc_at _ _ _ _ (by simp)]
    have h : i = 0 ∨ i = 1 ∨ i = 2 ∨ i = 3 := by omega
    rcases h with rfl | rfl | rfl | rfl <;> rfl
  have HZ := Lib.hid hz
  clear hz rd
  go_enter Try.func77, Try.ntmps77
  go_wp2_with fail
  go_quiet ((go_at_call 78; exact quiet1 (compare4 _ _ [c0, c1, c2, c3] [d0, d1, d2, d3] _ (RC.out _) (RD.out _) rfl rfl HZ.out)))
  go_wp2_with fail
  go_ret
  exact ⟨rfl, _, rfl⟩

theorem below_grow (w : World) (n : Nat) (os : Array Obj) : Below w.heap.size w (Go.Sort.grow (w.drewN n) os) :=
  ⟨rfl, rfl, rfl, by simp [Go.Sort.grow], fun k hk => by
    show (w.heap ++ os)[k]? = w.heap[k]?
    rw [Array.getElem?_append_left hk]⟩
theorem allocs_grow (w : World) (o1 o2 : Obj) (n : Nat) : ((w.alloc o1).alloc o2).drewN n = Go.Sort.grow (w.drewN n) #[o1, o2] := by
  show World.mk _ _ _ _ _ = World.mk _ _ _ _ _
  congr 1
theorem cmpClos_grown (c0 c1 c2 c3 d0 d1 d2 d3 : Int) (w : World) {z : Int} (hz : cmpL [c0, c1, c2, c3] [d0, d1, d2, d3] = z) :
    Calls Try.prog 77 #[.agg #[.int .i64 c0, .int .i64 c1, .int .i64 c2, .int .i64 c3], .agg #[.int .i64 d0, .int .i64 d1, .int .i64 d2, .int .i64 d3]] w fun e w' => e = .returned (.int .i64 z) ∧ ∃ q os', w' = Go.Sort.grow (w.drewN q) os' :=
  (cmpClos_any c0 c1 c2 c3 d0 d1 d2 d3 w hz).mono fun _ _ h => ⟨h.1, h.2.choose, _, h.2.choose_spec.trans (allocs_grow _ _ _ _)⟩

theorem OwnsC.drewC {w : World} {base : Nat} {v : Value} {L : List (List Int)} (h : OwnsC w base v L) : OwnsC w.drew base v L := h
theorem four_eq {c : List Int} (h : c.length = 4) : c = [c.getD 0 0, c.getD 1 0, c.getD 2 0, c.getD 3 0] := by
  match c, h with
  | [a, b, c, d], _ => rfl
theorem posR_zero (P : List (List Int)) (x : List Int) : posR P x 0 = 0 := rfl
theorem posR_stop {P : List (List Int)} {x : List Int} {i : Nat} (h : ¬ cmpL x (P.getD i []) < 0) : posR P x (i + 1) = i + 1 := by
  show (if _ then _ else _) = _
  rw [if_neg h]
theorem posR_go {P : List (List Int)} {x : List Int} {i : Nat} (h : cmpL x (P.getD i []) < 0) : posR P x (i + 1) = posR P x i := by
  show (if _ then _ else _) = _
  rw [if_pos h]

theorem OwnsC.frozen {w : World} {base : Nat} {g n cap : Nat} {L : List (List Int)} (hn : L.length = n) (h : OwnsC w base (.slice (some ⟨g, 0, none⟩) n cap) L) (o : Nat) : w.frozen? ⟨g, o, none⟩ = false := by
  subst hn
  have h0 : w.ownsRow base 77 4 (.slice (some ⟨g, 0, none⟩) L.length cap) L.length (cellsC L L.length L.length) := h
  exact h0.frozenAt o
/-- two neighbours exchanged -/
theorem OwnsC.swap {w : World} {base g n cap i : Nat} {P R : List (List Int)} {x : List Int} (hn : P.length + 1 + R.length = n) (hi : i < P.length) (h : OwnsC w base (.slice (some ⟨g, 0, none⟩) n cap) (midL P x R (i + 1))) :
    OwnsC ((((((((w.setCell ⟨g, (i + 1) * 4, none⟩ (.int .i64 ((P.getD i []).getD 0 0))).setCell ⟨g, (i + 1) * 4 + 1, none⟩ (.int .i64 ((P.getD i []).getD 1 0))).setCell ⟨g, (i + 1) * 4 + 2, none⟩ (.int .i64 ((P.getD i []).getD 2 0))).setCell ⟨g, (i + 1) * 4 + 3, none⟩ (.int .i64 ((P.getD i []).getD 3 0))).setCell
      ⟨g, i * 4, none⟩ (.int .i64 (x.getD 0 0))).setCell ⟨g, i * 4 + 1, none⟩ (.int .i64 (x.getD 1 0))).setCell ⟨g, i * 4 + 2, none⟩ (.int .i64 (x.getD 2 0))).setCell ⟨g, i * 4 + 3, none⟩ (.int .i64 (x.getD 3 0))) base (.slice (some ⟨g, 0, none⟩) n cap) (midL P x R i) := by
  have h1 := OwnsC.put (by rw [midL_len]; exact hn) h (i + 1) (by rw [midL_len]; omega) (P.getD i [])
  have h2 := OwnsC.put (by rw [List.length_set, midL_len]; exact hn) h1 i (by rw [List.length_set, midL_len]; omega) x
  rw [midL_swap hi] at h2
  exact h2

theorem Only.trans {B C : Nat} {a b c : World} (h : Only B C a b) (k : Only B C b c) : Only B C a c :=
  ⟨k.os.trans h.os, k.tape.trans h.tape, k.output.trans h.output, Nat.le_trans h.size k.size, fun i hi hd => (k.block i (Nat.lt_of_lt_of_le hi h.size) hd).trans (h.block i hi hd)⟩
theorem Only.ofBelow {B C : Nat} {a b : World} (h : Below a.heap.size a b) : Only B C a b := ⟨h.os, h.tape, h.output, h.size, fun i hi _ => h.block i hi⟩
theorem Only.setCell {B C : Nat} {a b : World} (h : Only B C a b) (p : Addr) (v : Value) (h1 : B ≤ p.block) (h2 : p.block < C) : Only B C a (b.setCell p v) :=
  ⟨h.os, h.tape, h.output, by rw [World.size_setCell]; exact h.size, fun i hi hd => by
    rw [Below.heap_setCell _ _ _ _ (by omega)]; exact h.block i hi hd⟩
theorem Only.drew {B C : Nat} {a b : World} (h : Only B C a b) : Only B C a b.drew := ⟨h.os, h.tape, h.output, h.size, h.block⟩
theorem Only.drewN {B C : Nat} {a b : World} (h : Only B C a b) (n : Nat) : Only B C a (b.drewN n) := ⟨h.os, h.tape, h.output, h.size, h.block⟩
theorem Only.mono {B C B' C' : Nat} {a b : World} (h : Only B C a b) (h1 : B' ≤ B) (h2 : C ≤ C') : Only B' C' a b := ⟨h.os, h.tape, h.output, h.size, fun i hi hd => h.block i hi (by omega)⟩

set_option maxRecDepth 100000 in
set_option maxHeartbeats 4000000 in
theorem insertion_any (g cap n : Nat) (L : List (List Int)) (base : Nat) (w : World) (hn : L.length = n) (hn12 : n ≤ 12) (h4 : ∀ c, c ∈ L → c.length = 4) (hb : base ≤ w.heap.size)
    (ho : OwnsC w base (.slice (some ⟨g, 0, none⟩) n cap) L) :
    Calls Try.prog 83 #[.slice (some ⟨g, 0, none⟩) n cap, .int .i64 0, .int .i64 (n : Int), .func (.func 77) #[] #[]] w fun e w' => e = .returned (.tuple #[]) ∧ OwnsC w' base (.slice (some ⟨g, 0, none⟩) n cap) (sortL L) ∧ Only g (g + 1) w w' := by
  have hE : ∀ (args : Array Value) (w : World), (callFunc 77 args).run Try.prog w = .ok (.enter 77 args) w := enters_of Try.func77 (by kernel_rfl) rfl
  have HN := Lib.hid hn
  have H4 := Lib.hid h4
  have HO : Hid (OwnsC w base (.slice (some ⟨g, 0, none⟩) n cap) (sortSt L 1)) := by rw [sortSt_first]; exact ho
  have HBase := Lib.hid hb
  clear hn h4 ho hb
  go_enter Try.func83, Try.ntmps83
  go_wp2_with fail
  go_loopw [8] (fun i wr => ∃ k : Nat, (k ≤ n ∨ k = 1) ∧ i = .int .i64 (k : Int) ∧ Only g (g + 1) w wr ∧ Hid (OwnsC wr base (.slice (some ⟨g, 0, none⟩) n cap) (sortSt L k))) (fun i _ => n - (intOf i).toNat)
  case atStart => exact ⟨1, .inr rfl, rfl, Only.refl _ _ _, HO⟩
  case round =>
    obtain ⟨k, hk, rfl, hL, HK⟩ := hrel
    by_cases hlt : k < n
    · have hi1 : (k : Int) < (n : Int) := by omega
      have HKn : Hid (k + 1 ≤ n ∨ k + 1 = 1) := .inl (by omega)
      have HMo : Hid (n - ((k : Int) + 1).toNat < n - ((k : Int)).toNat) := by unfold Hid; omega
      have HM : Hid (OwnsC wr base (.slice (some ⟨g, 0, none⟩) n cap) (midL (sortTo L k) (L.getD k []) (L.drop (k + 1)) k)) := by
        have := HK.out
        rw [sortSt_mid (by have := HN.out; omega)] at this
        exact this
      clear HK
      go_wp2_with fail
      go_loopw [9] (fun c wq => ∃ j : Nat, j ≤ k ∧ c = .int .i64 (j : Int) ∧ Only g (g + 1) w wq ∧ Hid (posR (sortTo L k) (L.getD k []) j = posR (sortTo L k) (L.getD k []) k) ∧ Hid (OwnsC wq base (.slice (some ⟨g, 0, none⟩) n cap) (midL (sortTo L k) (L.getD k []) (L.drop (k + 1)) j))) (fun c _ => (intOf c).toNat)
      case atStart => exact ⟨k, Nat.le_refl _, rfl, hL, rfl, HM⟩
      case round =>
        clear HM hL
        obtain ⟨j, hj, rfl, hL, HP, HM⟩ := hrel
        have hkL : k < L.length := by have := HN.out; omega
        have HPl : Hid ((sortTo L k).length = k) := sortTo_len (by omega)
        have HRl : Hid ((sortTo L k).length + 1 + (L.drop (k + 1)).length = n) := by unfold Hid; rw [HPl.out, List.length_drop]; have := HN.out; omega
        have HDone := Lib.hid (sortSt_done hkL)
        have HX4 : Hid ((L.getD k []).length = 4) := H4.out _ (by simp [List.getD_eq_getElem?_getD, hkL])
        have HP4 : Hid (∀ i, i < k → ((sortTo L k).getD i []).length = 4) := fun i hi => H4.out _ (sortTo_mem (k := k) (by simp [List.getD_eq_getElem?_getD, show i < (sortTo L k).length by rw [HPl.out]; exact hi]))
        clear hkL
        generalize sortTo L k = P at *
        generalize hxx : L.getD k [] = x at *
        generalize L.drop (k + 1) = R at *
        clear hxx
        rcases Nat.eq_zero_or_pos j with hz | hp
        · subst hz
          have HE : Hid (OwnsC wr base (.slice (some ⟨g, 0, none⟩) n cap) (sortSt L (k + 1))) := by
            unfold Hid; rw [← HDone.out, ← HP.out, posR_zero]; exact HM.out
          have hd : decide ((0 : Int) < ((0 : Nat) : Int)) = false := rfl
          clear HM HP HDone
          go_wp2_with fail
          go_region
          all_goals (go_wp2_with fail)
          all_goals (exact ⟨⟨k + 1, HKn.out, by go_num, Only.drew hL, HE⟩, HMo.out⟩)
        · obtain ⟨i, rfl⟩ : ∃ i, j = i + 1 := ⟨j - 1, by omega⟩
          have hiP : i < P.length := by rw [HPl.out]; omega
          obtain ⟨a0, a1, a2, a3⟩ := HM.out.four (i + 1) (by rw [midL_len]; omega)
          rw [midL_at (by omega)] at a0 a1 a2 a3
          obtain ⟨b0, b1, b2, b3⟩ := HM.out.four i (by rw [midL_len]; omega)
          rw [midL_pred hiP] at b0 b1 b2 b3
          have HY4 := Lib.hid (HP4.out i (by omega))
          generalize hJ : (((i + 1 : Nat)) : Int) = J at *
          have HK1 : Hid (i ≤ k) := by unfold Hid; omega
          have HMi : Hid (((i : Int)).toNat < J.toNat) := by unfold Hid; omega
          have HGG : Hid (g ≤ g ∧ g < g + 1) := ⟨Nat.le_refl _, Nat.lt_succ_self _⟩
          have h1b : decide ((0 : Int) < J) = true := decide_eq_true (by omega)
          have h2 : (0 : Int) ≤ J := by omega
          have h3 : J < (n : Int) := by omega
          have h4 : J.toNat = i + 1 := by omega
          have h5 : J - 1 = (i : Int) := by omega
          have h6 : (0 : Int) ≤ (i : Int) := by omega
          have h7 : (i : Int) < (n : Int) := by omega
          have h9 : IntKind.i64.wrap (i : Int) = (i : Int) := IntWalk.i64_in _ (by omega)
          have h10 : wrap64 (i : Int) = (i : Int) := IntWalk.wrap64_in _ (by omega)
          have HJ := Lib.hid hJ
          clear hJ
          have HC : Hid (cmpL x (P.getD i []) = cmpL [x.getD 0 0, x.getD 1 0, x.getD 2 0, x.getD 3 0] [(P.getD i []).getD 0 0, (P.getD i []).getD 1 0, (P.getD i []).getD 2 0, (P.getD i []).getD 3 0]) := by
            unfold Hid; rw [← four_eq HX4.out, ← four_eq HY4.out]
          have HSW : Hid (∀ wz, OwnsC wz base (.slice (some ⟨g, 0, none⟩) n cap) (midL P x R (i + 1)) → OwnsC ((((((((wz.setCell ⟨g, (i + 1) * 4, none⟩ (.int .i64 ((P.getD i []).getD 0 0))).setCell ⟨g, (i + 1) * 4 + 1, none⟩ (.int .i64 ((P.getD i []).getD 1 0))).setCell ⟨g, (i + 1) * 4 + 2, none⟩ (.int .i64 ((P.getD i []).getD 2 0))).setCell ⟨g, (i + 1) * 4 + 3, none⟩ (.int .i64 ((P.getD i []).getD 3 0))).setCell
            ⟨g, i * 4, none⟩ (.int .i64 (x.getD 0 0))).setCell ⟨g, i * 4 + 1, none⟩ (.int .i64 (x.getD 1 0))).setCell ⟨g, i * 4 + 2, none⟩ (.int .i64 (x.getD 2 0))).setCell ⟨g, i * 4 + 3, none⟩ (.int .i64 (x.getD 3 0))) base (.slice (some ⟨g, 0, none⟩) n cap) (midL P x R i)) := fun wz hwz => OwnsC.swap HRl.out hiP hwz
          have HG : Hid (base ≤ g ∧ g < wr.heap.size) := by
            have h0 := HM.out
            unfold OwnsC at h0
            exact World.ownsRow.lt h0 g rfl
          have HML : Hid ((midL P x R (i + 1)).length = n) := by unfold Hid; rw [midL_len]; exact HRl.out
          by_cases hc : cmpL x (P.getD i []) < 0
          · have HPn : Hid (posR P x i = posR P x k) := by unfold Hid; rw [← HP.out, posR_go hc]
            rw [HC.out] at hc
            generalize x.getD 0 0 = x0 at *
            generalize x.getD 1 0 = x1 at *
            generalize x.getD 2 0 = x2 at *
            generalize x.getD 3 0 = x3 at *
            generalize (P.getD i []).getD 0 0 = y0 at *
            generalize (P.getD i []).getD 1 0 = y1 at *
            generalize (P.getD i []).getD 2 0 = y2 at *
            generalize (P.getD i []).getD 3 0 = y3 at *
            obtain ⟨z, hz⟩ : ∃ z, cmpL [x0, x1, x2, x3] [y0, y1, y2, y3] = z := ⟨_, rfl⟩
            rw [hz] at hc
            have HZ := Lib.hid hz
            clear hz HC HP HDone
            have hmx : Try.prog.follows .mixedOrders = true := by kernel_rfl
            have hgb := HG.out.2
            have ga0 := fun nn os => Go.cell_grown hgb a0 nn os
            have ga1 := fun nn os => Go.cell_grown hgb a1 nn os
            have ga2 := fun nn os => Go.cell_grown hgb a2 nn os
            have ga3 := fun nn os => Go.cell_grown hgb a3 nn os
            have gb0 := fun nn os => Go.cell_grown hgb b0 nn os
            have gb1 := fun nn os => Go.cell_grown hgb b1 nn os
            have gb2 := fun nn os => Go.cell_grown hgb b2 nn os
            have gb3 := fun nn os => Go.cell_grown hgb b3 nn os
            go_wp2_with fail
            go_quiet_grown ((go_at_call 77; exact Calls.grown_of (cmpClos_grown _ _ _ _ _ _ _ _ _ HZ.out)))
            have hX := below_grow wr nq osq
            have HM2 := Lib.hid (OwnsC.keep HM.out hX)
            have hL2 := hL.trans (Only.ofBelow hX)
            have q0 := ga0 nq osq
            have q1 := ga1 nq osq
            have q2 := ga2 nq osq
            have q3 := ga3 nq osq
            have r0 := gb0 nq osq
            have r1 := gb1 nq osq
            have r2 := gb2 nq osq
            have r3 := gb3 nq osq
            clear ga0 ga1 ga2 ga3 gb0 gb1 gb2 gb3 a0 a1 a2 a3 b0 b1 b2 b3 hX hL HM
            have hfr := fun o => OwnsC.frozen HML.out HM2.out o
            generalize Go.Sort.grow (wr.drewN nq) osq = w2 at *
            have HS2 := Lib.hid (HSW.out _ HM2.out)
            clear HSW
            go_wp2_with fail
            go_region
            all_goals (go_wp2_with fail)
            all_goals (exact ⟨⟨i, HK1.out, rfl, ((((((((hL2.setCell ⟨g, (i + 1) * 4, none⟩ _ HGG.out.1 HGG.out.2).setCell ⟨g, (i + 1) * 4 + 1, none⟩ _ HGG.out.1 HGG.out.2).setCell ⟨g, (i + 1) * 4 + 2, none⟩ _ HGG.out.1 HGG.out.2).setCell ⟨g, (i + 1) * 4 + 3, none⟩ _ HGG.out.1 HGG.out.2).setCell ⟨g, i * 4, none⟩ _ HGG.out.1 HGG.out.2).setCell ⟨g, i * 4 + 1, none⟩ _ HGG.out.1 HGG.out.2).setCell ⟨g, i * 4 + 2, none⟩ _ HGG.out.1 HGG.out.2).setCell ⟨g, i * 4 + 3, none⟩ _ HGG.out.1 HGG.out.2).drew, HPn, OwnsC.drewC HS2.out⟩, HMi.out⟩)
          · have HPn : Hid (posR P x k = i + 1) := by unfold Hid; rw [← HP.out, posR_stop hc]
            have HE : Hid (OwnsC wr base (.slice (some ⟨g, 0, none⟩) n cap) (sortSt L (k + 1))) := by
              unfold Hid; rw [← HDone.out, HPn.out]; exact HM.out
            rw [HC.out] at hc
            generalize x.getD 0 0 = x0 at *
            generalize x.getD 1 0 = x1 at *
            generalize x.getD 2 0 = x2 at *
            generalize x.getD 3 0 = x3 at *
            generalize (P.getD i []).getD 0 0 = y0 at *
            generalize (P.getD i []).getD 1 0 = y1 at *
            generalize (P.getD i []).getD 2 0 = y2 at *
            generalize (P.getD i []).getD 3 0 = y3 at *
            obtain ⟨z, hz⟩ : ∃ z, cmpL [x0, x1, x2, x3] [y0, y1, y2, y3] = z := ⟨_, rfl⟩
            rw [hz] at hc
            have HZ := Lib.hid hz
            clear hz HC HP HDone HSW HM
            have hmx : Try.prog.follows .mixedOrders = true := by kernel_rfl
            have hgb := HG.out.2
            have ga0 := fun nn os => Go.cell_grown hgb a0 nn os
            have ga1 := fun nn os => Go.cell_grown hgb a1 nn os
            have ga2 := fun nn os => Go.cell_grown hgb a2 nn os
            have ga3 := fun nn os => Go.cell_grown hgb a3 nn os
            have gb0 := fun nn os => Go.cell_grown hgb b0 nn os
            have gb1 := fun nn os => Go.cell_grown hgb b1 nn os
            have gb2 := fun nn os => Go.cell_grown hgb b2 nn os
            have gb3 := fun nn os => Go.cell_grown hgb b3 nn os
            go_wp2_with fail
            go_quiet_grown ((go_at_call 77; exact Calls.grown_of (cmpClos_grown _ _ _ _ _ _ _ _ _ HZ.out)))
            have hX := below_grow wr nq osq
            have hL2 := hL.trans (Only.ofBelow hX)
            have HE2 : Hid (OwnsC (Go.Sort.grow (wr.drewN nq) osq) base (.slice (some ⟨g, 0, none⟩) n cap) (sortSt L (k + 1))) := HE.out.keep hX
            clear ga0 ga1 ga2 ga3 gb0 gb1 gb2 gb3 a0 a1 a2 a3 b0 b1 b2 b3 hX hL HE
            generalize Go.Sort.grow (wr.drewN nq) osq = w2 at *
            go_wp2_with fail
            exact ⟨⟨k + 1, HKn.out, by go_num, hL2, HE2⟩, HMo.out⟩
    · have HE : Hid (OwnsC wr base (.slice (some ⟨g, 0, none⟩) n cap) (sortL L)) := by
        have := HK.out
        rw [sortSt_last (by have := HN.out; omega)] at this
        exact this
      have hi1 : ¬ (k : Int) < (n : Int) := by omega
      clear HK
      go_wp2_with fail
      go_end0
      exact ⟨rfl, HE.out, hL⟩

set_option maxRecDepth 100000 in
set_option maxHeartbeats 2000000 in
theorem insertion_nil (v : Value) (w : World) : Calls Try.prog 83 #[v, .int .i64 0, .int .i64 0, .func (.func 77) #[] #[]] w fun e w' => e = .returned (.tuple #[]) ∧ w = w' := by
  go_enter Try.func83, Try.ntmps83
  go_wp2
  refine wp_loop_rounds 1 ?_
  rw [rounds_succ]
  go_wp2
  go_end0
  exact ⟨rfl, rfl⟩

/-- the slice v of arrays lies in a block of its own (or is nil) and is put in order -/
theorem insertionV_any (v : Value) (n : Nat) (L : List (List Int)) (base : Nat) (w : World) (hn : L.length = n) (hn12 : n ≤ 12) (h4 : ∀ c, c ∈ L → c.length = 4) (hb : base ≤ w.heap.size) (ho : OwnsC w base v L) :
    Calls Try.prog 83 #[v, .int .i64 0, .int .i64 (n : Int), .func (.func 77) #[] #[]] w fun e w' => e = .returned (.tuple #[]) ∧ OwnsC w' base v (sortL L) ∧ ∀ B C, (∀ k, v.ownBlock = some k → B ≤ k ∧ k < C) → Only B C w w' := by
  have ho' := ho
  rcases ho.2 with ⟨rfl, hn0⟩ | ⟨g, cap, cur, rfl, _⟩
  · have e : L = [] := List.length_eq_zero_iff.1 hn0
    subst e
    subst hn
    refine (insertion_nil _ w).mono ?_
    rintro e w' ⟨rfl, rfl⟩
    exact ⟨rfl, ho', fun B C _ => Only.refl _ _ _⟩
  · subst hn
    refine (insertion_any g cap L.length L base w rfl hn12 h4 hb ho').mono ?_
    rintro e w' ⟨he, h1, h2⟩
    exact ⟨he, h1, fun B C hk => h2.mono (hk g rfl).1 (hk g rfl).2⟩

end Go.Proofs.Ytibfenkaoaclfaa
