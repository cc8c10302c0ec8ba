/- groupsOf: the program's. -/
import Derived.Test.YtapcblibokkhcaaDoorAlk
import Derived.Test.YtapcblibokkhcaaDoorGrO
import Derived.Test.YtapcblibokkhcaaDoorCo0
import Derived.Maps.AppendAt
import Derived.Deep.AppendLies
import Derived.Deep.RegionLaw
namespace Go.Proofs.YtapcblibokkhcaaDoor
open Go.RowKit
set_option linter.unusedVariables false

theorem Own2V.form {w : World} {B C : Nat} {u : Value} {V : Nat → Value} {xss : List (List Int)} (h : Own2V w B C u V xss) :
    ∃ (a : Option Addr) (cap : Nat), u = .slice a xss.length cap ∧ ∀ i, i < xss.length → ∃ g, a = some ⟨g, 0, none⟩ ∧ w.cell? ⟨g, i, none⟩ = some (V i) ∧ w.frozen? ⟨g, i, none⟩ = false := by
  obtain ⟨h1, _, _⟩ := h
  have h0 := h1
  rcases h1.2 with ⟨rfl, hn⟩ | ⟨g, cap, cur, rfl, hb, hg, hc, hm, hs, ht⟩
  · exact ⟨none, 0, by rw [hn], fun i hi => by omega⟩
  · refine ⟨_, cap, rfl, fun i hi => ⟨g, rfl, ?_, h0.frozenAt i⟩⟩
    rw [h0.cellAt i (by omega)]
    simp [hi]
theorem Own2V.keep {w w' : World} {B C : Nat} {u : Value} {V : Nat → Value} {xss : List (List Int)} (h : Own2V w B C u V xss) (hb : Below w.heap.size w w') : Own2V w' B C u V xss :=
  ⟨rowLater h.1 hb, h.2.1, fun i hi => ⟨(h.2.2 i hi).1.keep hb, (h.2.2 i hi).2⟩⟩
theorem Owns.first {w : World} {B : Nat} {u : Value} {xs : List Int} (h : Owns w B u xs) (hn : 1 ≤ xs.length) : ∃ g cap, u = .slice (some ⟨g, 0, none⟩) xs.length cap ∧ w.cell? ⟨g, 0, none⟩ = some (.int .i64 (xs.getD 0 0)) := by
  have h0 := h
  obtain ⟨h1, h2⟩ := h
  rcases h2 with ⟨rfl, hn0⟩ | ⟨g, cap, cur, rfl, hb, hg, hc, hm, hs, ht⟩
  · omega
  · refine ⟨g, cap, rfl, ?_⟩
    have hw : w.ownsRow B 2 1 (.slice (some ⟨g, 0, none⟩) xs.length cap) xs.length (xs.map (Value.int .i64)) := h0
    rw [hw.cellAt 0 (by omega)]
    simp [List.getElem?_map, List.getD_eq_getElem?_getD, List.getElem?_eq_getElem (show 0 < xs.length by omega)]
theorem Owns.one (w : World) (B : Nat) (x : Int) (hB : B ≤ w.heap.size) : Owns (w.alloc (.cells #[.int .i64 x] 2)) B (.slice (some ⟨w.heap.size, 0, none⟩) 1 1) [x] :=
  World.ownsRow_lit (base := B) (e := 2) (size := 1) w #[.int .i64 x] 1 hB (by decide) rfl

/-- the search among the groups -/
theorem groupSearch (v : Int) (N k j bt bi : Nat) (u : Value) (w : World) (B C : Nat) (n1 : 1 ≤ N) (n5 : N ≤ 5) (h0 : 0 ≤ v) (hv : v < 9223372036854775808) (hk : k < N)
    (hO : Own2 w B C u (grps (alB v N) k)) (kt : C2 w bt (.int .i64 (N : Int)) (.int .i64 v)) (ki : w.cell? ⟨bi, 0, none⟩ = some (.int .i64 (k : Int)))
    (hj : j ≤ (lstL (alB v N) k).length) (hno : ∀ a, a < j → alB v N ((lstL (alB v N) k).getD a 0) k = false) (hyes : j < (lstL (alB v N) k).length → alB v N ((lstL (alB v N) k).getD j 0) k = true)
    {r : Int} (hr : (if j < (lstL (alB v N) k).length then (j : Int) else -1) = r) :
    Calls Tryd.prog 59 #[u, .func (.func 60) #[] #[.pointer (some ⟨bt, 0, none⟩), .pointer (some ⟨bi, 0, none⟩)]] w fun e w' => e = .returned (.int .i64 r) ∧ Below w.heap.size w w' := by
  obtain ⟨V, hV⟩ := hO.name
  obtain ⟨ua, ucap, rfl, hc⟩ := hV.form
  have hl := grps_len (alB v N) k
  have hlb := lstL_len (alB v N) k
  rw [hl] at hc ⊢
  refine indexFuncR_any ua (lstL (alB v N) k).length ucap V _ _ (fun a => alB v N ((lstL (alB v N) k).getD a 0) k) j w (by omega) (fun i hi => by obtain ⟨g, h1, h2, _⟩ := hc i hi; exact ⟨g, h1, h2⟩) hj hno hyes ?_ (enters_of Tryd.func60 (by kernel_rfl) rfl) hr
  intro a wx ha hb
  have hat := lstL_at ha
  have ho := (hV.2.2 a (by rw [hl]; exact ha)).1
  rw [grps_at ha] at ho
  have hh := rowG_head (k := k) hat.1 ((alB_equiv v n5).self ((lstL (alB v N) k).getD a 0))
  obtain ⟨g, cap, hVa, hcell⟩ := ho.first hh.2.1
  rw [hh.1] at hcell
  rw [hVa]
  exact groupClos_any v N ((lstL (alB v N) k).getD a 0) k _ cap bt bi g 0 wx n1 n5 h0 hv (by omega) hk (by omega) hh.2.1 (kt.keep hb) (cell_later hb ki) (cell_later hb hcell) rfl

set_option maxRecDepth 100000 in
set_option maxHeartbeats 4000000 in
theorem groupsOf_any (v : Int) (N : Nat) (w : World) (n1 : 1 ≤ N) (n5 : N ≤ 5) (h0 : 0 ≤ v) (hv : v < 9223372036854775808) :
    Calls Tryd.prog 41 #[.agg #[.int .i64 (N : Int), .int .i64 v]] w fun e w' => ∃ u, e = .returned u ∧ Own2 w' w.heap.size w'.heap.size u (grps (alB v N) N) ∧ Below w.heap.size w w' := by
  have hmf : ∀ (fn : Fn) (first cap : Array Value) (w : World), (Instr.makeFunc fn first cap).run Tryd.prog w = .ok (.func fn first cap) w := fun _ _ _ _ => rfl
  have k0 := C2.here w (.int .i64 (N : Int)) (.int .i64 v) 26
  obtain ⟨i0, hi, hz0, hz1, hz2_⟩ := info_parts infoRow
  obtain ⟨i1, hi', hz0', hz1', hz2'⟩ := info_parts info64
  have E := Lib.hid (alB_equiv v n5)
  have HSe := Lib.hid (fun (k j bt bi : Nat) (u : Value) (w : World) (B C : Nat) (hk : k < N) (hO : Own2 w B C u (grps (alB v N) k)) (kt : C2 w bt (.int .i64 (N : Int)) (.int .i64 v)) (ki : w.cell? ⟨bi, 0, none⟩ = some (.int .i64 (k : Int))) (hj : j ≤ (lstL (alB v N) k).length) (hno : ∀ a, a < j → alB v N ((lstL (alB v N) k).getD a 0) k = false) (hyes : j < (lstL (alB v N) k).length → alB v N ((lstL (alB v N) k).getD j 0) k = true) (r : Int) (hr : (if j < (lstL (alB v N) k).length then (j : Int) else -1) = r) => groupSearch v N k j bt bi u w B C n1 n5 h0 hv hk hO kt ki hj hno hyes hr)
  have hN63 : (N : Int) ≤ 9223372036854775807 := by omega
  have HG0 : Hid (Own2 (w.alloc (.cells #[.int .i64 (N : Int), .int .i64 v] 26)) (w.heap.size + 1) (w.alloc (.cells #[.int .i64 (N : Int), .int .i64 v] 26)).heap.size (.slice none 0 0) (grps (alB v N) 0)) :=
    ⟨fun _ => .slice none 0 0, World.ownsRow_nil _ _ _ _, (fun k e => by cases e), (fun i hi => by simp [grps, lstL] at hi)⟩
  generalize halB : alB v N = al at *
  clear halB
  go_enter Tryd.func41, Tryd.ntmps41
  go_wp2_with fail
  go_loopw [3, 8] (fun u c wr => ∃ (k : Nat), k ≤ N ∧ c = .int .i64 (k : Int) ∧ Below w.heap.size w wr ∧ C2 wr w.heap.size (.int .i64 (N : Int)) (.int .i64 v) ∧ Own2 wr (w.heap.size + 1) wr.heap.size u (grps al k)) (fun _ c _ => N - (intOf c).toNat)
  case atStart => exact ⟨0, Nat.zero_le _, rfl, by go_grown, k0, HG0.out⟩
  case round =>
    clear k0 HG0
    obtain ⟨k, hk, rfl, hL, k0, oo⟩ := hrel
    by_cases hlt : k < N
    · obtain ⟨j, hj, hno, hyes⟩ := firstB (fun a => al ((lstL al k).getD a 0) k) (lstL al k).length
      have hki : (wr.alloc (.cells #[.int .i64 (k : Int)] 2)).cell? ⟨wr.heap.size, 0, none⟩ = some (.int .i64 (k : Int)) := by rw [World.cell?_alloc_at _ _ _ _ rfl]; rfl
      have hz := hL.size
      have hi1 : (k : Int) < (N : Int) := by omega
      by_cases hjl : j < (lstL al k).length
      · have HI := Lib.hid (HSe.out k j w.heap.size wr.heap.size _ _ _ _ hlt (oo.keep ((Below.refl _ _).alloc (Nat.le_refl _) (.cells #[.int .i64 (k : Int)] 2))) (k0.alloc _) hki hj hno hyes (j : Int) (if_pos hjl))
        have HN := Lib.hid (grps_more E.out hlt hjl (hyes hjl))
        have hat := lstL_at hjl
        have hrow := rowG_head (k := k) hat.1 (E.out.self ((lstL al k).getD j 0))
        rw [← grps_at hjl] at hrow
        obtain ⟨V, hV⟩ := oo.name
        obtain ⟨ua, ucap, rfl, hform⟩ := hV.form
        have hjg : j < (grps al k).length := by rw [grps_len]; exact hjl
        obtain ⟨g, rfl, _, _⟩ := hform j hjg
        obtain ⟨gj, capj, hVj, _⟩ := (hV.2.2 j hjg).1.first hrow.2.1
        have hlen : (grps al k).length ≤ 5 := by rw [grps_len]; have := lstL_len al k; omega
        have HV := Lib.hid hV
        have HVj := Lib.hid hVj
        generalize hxs : (grps al k).getD j [] = xs at *
        have HXS := Lib.hid hxs
        have HXL : Hid (xs.length ≤ 5) := by unfold Hid; omega
        clear hV oo hno hyes HSe E hform hrow hat hVj hxs
        have hj0 : (0 : Int) ≤ (j : Int) := by omega
        have hj1 : (j : Int) < ((grps al k).length : Int) := by omega
        have hjn : ¬ (j : Int) < 0 := by omega
        go_upto_region 8 with (go_at_call 59; (with_reducible refine HI.out.mono ?_); rintro e w2 ⟨rfl, hb⟩; have hL2 := chain (B := w.heap.size) (a := w) (by go_grown) (Nat.le_refl _) hb; have k2 := keepAt hb (k0.alloc _); have hki2 := cell_later hb hki; have HV2 := Lib.hid ((HV.out.keep ((Below.refl _ _).alloc (Nat.le_refl _) (.cells #[.int .i64 (k : Int)] 2))).keep hb); have hz2 := hb.size; rw [World.size_alloc] at hz2; clear hb)
        have hcell : w2.cell? ⟨g, j, none⟩ = some (.slice (some ⟨gj, 0, none⟩) xs.length capj) := by
          have := HV2.out.1.cellAt j (by omega)
          rw [this]; simp [hjg, HVj.out]
        have HRow : Hid (w2.ownsRow (w.heap.size + 1) 2 1 (.slice (some ⟨gj, 0, none⟩) xs.length capj) xs.length (xs.map (Value.int .i64))) := by
          have := (HV2.out.2.2 j hjg).1
          rw [HXS.out, HVj.out] at this
          exact this
        have hb1 : Below w2.heap.size w2 (w2.alloc (.cells #[.int .i64 (k : Int)] 2)) := (Below.refl _ _).alloc (Nat.le_refl _) _
        have hcell2 := cell_later hb1 hcell
        have hki3 := cell_later hb1 hki2
        have HV3 := Lib.hid (HV2.out.keep hb1)
        have hsep : (Value.slice (some ⟨gj, 0, none⟩) xs.length capj).ownBlock ≠ some w.heap.size := fun e => by have := (World.ownsRow.lt HRow.out _ e).1; omega
        have hlow : ∀ q, (Value.slice (some ⟨gj, 0, none⟩) xs.length capj).ownBlock = some q → w.heap.size ≤ q := fun q e => by have := (World.ownsRow.lt HRow.out _ e).1; omega
        have hgw : w.heap.size + 1 ≤ g := (World.ownsRow.lt HV2.out.1 g rfl).1
        have Hsep := Lib.hid hsep
        have Hlow := Lib.hid hlow
        clear hsep hlow HI HV
        go_region_law (refine step_append_lies _ (by rfl) _ _ 31 (by rfl) (w.heap.size + 1) 2 i1 (.int .i64 0) 1 8 Tryd.underlying31 hi' hz0' hz1' hz2' (by rfl) (by decide) (.slice (some ⟨gj, 0, none⟩) xs.length capj) xs.length (xs.map (Value.int .i64)) (by rfl) (World.ownsRow.drew (World.ownsRow.alloc HRow.out _)) ⟨w2.heap.size, 0, none⟩ 1 1 [.int .i64 (k : Int)] (by rfl) (by rfl) (World.news_of_block (cs := #[.int .i64 (k : Int)]) (t := 2) (fr := (0, 0)) (heap_alloc_new w2 _)) (by simp [Value.oneCell']) (by decide) (by have := HXL.out; unfold maxLen; omega) (by have := HXL.out; omega) (by simp; omega) (w2.heap.size + 1) (by simp) ?_; intro gv cap2 w3 hown hgrow_ hat hlt3; have hgrow : (w2.alloc (.cells #[.int .i64 (k : Int)] 2)).grownBy w3 (Value.ownBlock (.slice (some ⟨gj, 0, none⟩) xs.length capj)) := ⟨hgrow_.os, hgrow_.tape, hgrow_.output, hgrow_.size, hgrow_.block⟩; clear hgrow_; have hrow3 := HV3.out.1.kept hgrow (.inr (by intro e; have := ((HV3.out.2.2 j hjg).2 g (by rw [HVj.out]; exact e.symm)).2.1; exact this rfl)); have hcA := hrow3.cellAt j (by omega); rw [show ((List.range (grps al k).length).map V)[j]? = some (V j) by simp [hjg]] at hcA; have hfA := hrow3.frozenAt j; have HM_ := (HV3.out.more (u := .slice (some ⟨gv, 0, none⟩) (xs.length + 1) cap2) (x := (k : Int)) hjg (by simp; omega) (by rw [HVj.out]; exact hgrow) (by rw [HVj.out]; rcases hat with h | h; exact .inl h.symm; exact .inr ⟨gv, rfl, by simp; omega⟩) (by rw [HXS.out]; exact Owns.snoc hown)); rw [HXS.out] at HM_; have HM := Lib.hid HM_; clear HM_; have HL3 := Lib.hid (((hL2.alloc (by omega) (.cells #[.int .i64 (k : Int)] 2)).grown hgrow (by simp; omega) Hlow.out).setCell (p := ⟨g, j, none⟩) (show w.heap.size ≤ g by omega) (.slice (some ⟨gv, 0, none⟩) (xs.length + 1) cap2)); have HK3 := Lib.hid (((k2.alloc (.cells #[.int .i64 (k : Int)] 2)).grown hgrow Hsep.out).set g j (.slice (some ⟨gv, 0, none⟩) (xs.length + 1) cap2) (by omega)))
        all_goals (go_wp2_with fail)
        all_goals (exact ⟨⟨k + 1, by omega, by go_num, HL3.out, HK3.out, by rw [HN.out]; exact HM.out⟩, by simp [intOf]; omega⟩)
      · have HI := Lib.hid (HSe.out k j w.heap.size wr.heap.size _ _ _ _ hlt (oo.keep ((Below.refl _ _).alloc (Nat.le_refl _) (.cells #[.int .i64 (k : Int)] 2))) (k0.alloc _) hki hj hno hyes (-1) (if_neg hjl))
        have HN := Lib.hid (grps_new E.out hlt (fun a ha => hno a (by omega)))
        obtain ⟨V, hV⟩ := oo.name
        obtain ⟨ua, ucap, rfl, _⟩ := hV.form
        have hlen : (grps al k).length ≤ 5 := by rw [grps_len]; have := lstL_len al k; omega
        have HV := Lib.hid hV
        clear hV oo hno hyes HSe E
        go_wp2_with (first | (go_at_call 59; (with_reducible refine HI.out.mono ?_); rintro e w2 ⟨rfl, hb⟩; have hL2 := chain (B := w.heap.size) (a := w) (by go_grown) (Nat.le_refl _) hb; have k2 := keepAt hb (k0.alloc _); have hki2 := cell_later hb hki; have HV2 := Lib.hid ((HV.out.keep ((Below.refl _ _).alloc (Nat.le_refl _) (.cells #[.int .i64 (k : Int)] 2))).keep hb); have hz2 := hb.size; rw [World.size_alloc] at hz2; clear hb) | (at_builtin; refine wpList_append_own_at _ rfl _ _ 36 rfl (w.heap.size + 1) 31 i0 (.slice none 0 0) 1 24 Tryd.underlying36 hi hz0 hz1 hz2_ rfl (by decide) (.slice ua (grps al k).length ucap) _ _ rfl (World.ownsRow.alloc (World.ownsRow.alloc HV2.out.1 _) _) ⟨w2.heap.size + 1, 0, none⟩ 1 1 [.slice (some ⟨w2.heap.size, 0, none⟩) 1 1] rfl rfl (World.news_of_block (cs := #[.slice (some ⟨w2.heap.size, 0, none⟩) 1 1]) (t := 31) (fr := (0, 0)) (by have := heap_alloc_new (w2.alloc (.cells #[.int .i64 (k : Int)] 2)) (.cells #[.slice (some ⟨w2.heap.size, 0, none⟩) 1 1] 31); rw [World.size_alloc] at this; exact this)) (by simp [Value.oneCell']) (by unfold maxLen; omega) (by omega) (by simp; omega) ?_; intro v1 w3 hown1 hgrow1 hnil1 hat1))
        have hb1 : Below w2.heap.size w2 (w2.alloc (.cells #[.int .i64 (k : Int)] 2)) := (Below.refl _ _).alloc (Nat.le_refl _) _
        have hb2 : Below (w2.alloc (.cells #[.int .i64 (k : Int)] 2)).heap.size (w2.alloc (.cells #[.int .i64 (k : Int)] 2)) ((w2.alloc (.cells #[.int .i64 (k : Int)] 2)).alloc (.cells #[.slice (some ⟨w2.heap.size, 0, none⟩) 1 1] 31)) := (Below.refl _ _).alloc (Nat.le_refl _) _
        have hV3 := (HV2.out.keep hb1).keep hb2
        have hone := (Owns.one w2 (w.heap.size + 1) (k : Int) (by omega)).keep hb2
        have hpush := hV3.push (xs := [(k : Int)]) (by simp; omega) hone (fun q e => by have : w2.heap.size = q := by simpa [Value.ownBlock] using e
                                                                                        omega) hgrow1 (by rcases hat1 with h | h; exact .inl h; exact .inr ⟨_, h, Nat.le_refl _⟩) hown1
        have hsep : (Value.slice ua (grps al k).length ucap).ownBlock ≠ some w.heap.size := fun e => by have := (World.ownsRow.lt HV2.out.1 _ e).1; omega
        have hlow : ∀ q, (Value.slice ua (grps al k).length ucap).ownBlock = some q → w.heap.size ≤ q := fun q e => by have := (World.ownsRow.lt HV2.out.1 _ e).1; omega
        exact ⟨⟨k + 1, by omega, by go_num, ((hL2.alloc (by omega) _).alloc (by simp; omega) _).grown hgrow1 (by simp; omega) hlow, ((k2.alloc _).alloc _).grown hgrow1 hsep, by rw [HN.out]; exact hpush⟩, by simp [intOf]; omega⟩
    · have e : k = N := by omega
      subst e
      go_wp2_with fail
      go_ret
      exact ⟨_, rfl, oo.mono (by omega) (Nat.le_refl _), hL⟩

end Go.Proofs.YtapcblibokkhcaaDoor
