/- InputGroups: the model's. -/
import Derived.Test.YtapcblibokkhcaaDoorRn
import Derived.Test.YtapcblibokkhcaaDoorIgM
import Derived.Maps.AppendAt
namespace Go.Proofs.YtapcblibokkhcaaDoor
open Go.RowKit
set_option linter.unusedVariables false

/-- block g holds n truth values c 0, c 1 .. -/
def Bol (w : World) (g n : Nat) (c : Nat → Bool) : Prop := g < w.heap.size ∧ ∀ j, j < n → w.cell? ⟨g, j, none⟩ = some (.bool (c j)) ∧ w.frozen? ⟨g, j, none⟩ = false
theorem Bol.keep {w w' : World} {g n : Nat} {c : Nat → Bool} (h : Bol w g n c) (hb : Below w.heap.size w w') : Bol w' g n c := by
  have := hb.size
  exact ⟨by have := h.1; omega, fun j hj => ⟨(hb.cell (p := ⟨g, j, none⟩) h.1).trans (h.2 j hj).1, (hb.frozen (p := ⟨g, j, none⟩) h.1).trans (h.2 j hj).2⟩⟩
theorem Bol.set {w : World} {g n : Nat} {c c' : Nat → Bool} (h : Bol w g n c) (i : Nat) (v : Bool) (h1 : c' i = v) (h2 : ∀ j, j ≠ i → c' j = c j) (hi : i < n) : Bol (w.setCell ⟨g, i, none⟩ (.bool v)) g n c' := by
  refine ⟨by rw [World.size_setCell]; exact h.1, fun j hj => ⟨?_, by rw [World.frozen?_setCell]; exact (h.2 j hj).2⟩⟩
  by_cases e : j = i
  · subst e
    rw [h1]
    exact World.cell?_setCell_same w ⟨g, j, none⟩ _ (h.2 j hj).1
  · rw [h2 j e]
    exact (World.cell?_setCell_other w ⟨g, i, none⟩ ⟨g, j, none⟩ _ (by intro h; injection h with _ h2; exact e h2.symm)).trans (h.2 j hj).1
theorem Bol.congr {w : World} {g n : Nat} {c c' : Nat → Bool} (h : Bol w g n c) (he : ∀ j, j < n → c' j = c j) : Bol w g n c' := ⟨h.1, fun j hj => by rw [he j hj]; exact h.2 j hj⟩
theorem Bol.grown {w w' : World} {g n : Nat} {c : Nat → Bool} {row : Option Nat} (h : Bol w g n c) (hg : w.grownBy w' row) (hr : row ≠ some g) : Bol w' g n c := by
  have e := hg.block g h.1 (Ne.symm hr)
  have := hg.size
  exact ⟨by have := h.1; omega, fun j hj => ⟨(World.cell?_of_block (w := w) e).trans (h.2 j hj).1, (World.frozen?_of_block (w := w) e).trans (h.2 j hj).2⟩⟩
theorem Bol.made {w : World} {base g n : Nat} (h : w.ownsRow base 4 1 (.slice (some ⟨g, 0, none⟩) n n) n (madeCells (Value.bool false).cells (n * 1)).toList) : Bol w g n (fun _ => false) := by
  refine ⟨(World.ownsRow.lt h g rfl).2, fun j hj => ⟨?_, h.frozenAt j⟩⟩
  rw [h.cellAt j (by omega)]
  simp [madeCells, Value.cells, hj, Nat.mod_one]
theorem infoBool : (Tryd.prog.info? 4).map (fun i => (i.zero, i.size, i.bytes)) = some (some (.bool false), 1, 1) := by kernel_rfl
theorem Own2.grownO {w w' : World} {B C : Nat} {v : Value} {xss : List (List Int)} {row : Option Nat} (h : Own2 w B C v xss) (hg : w.grownBy w' row) (hr : ∀ k, row = some k → C ≤ k) : Own2 w' B C v xss :=
  h.same fun k _ h2 h3 => hg.block k h3 (fun e => by have := hr k e.symm; omega)
theorem Own2.setLow2 {w : World} {B C b : Nat} {v : Value} {xss : List (List Int)} (h : Own2 w B C v xss) (hb : b < B) (i : Nat) (x : Value) : Own2 (w.setCell ⟨b, i, none⟩ x) B C v xss :=
  h.same fun k h1 _ _ => Below.heap_setCell _ _ _ _ (show k ≠ b by omega)
theorem Owns.setLow2 {w : World} {B b : Nat} {v : Value} {xs : List Int} (h : Owns w B v xs) (hb : b < B) (i : Nat) (x : Value) : Owns (w.setCell ⟨b, i, none⟩ x) B v xs :=
  rowSame h fun k h1 _ => Below.heap_setCell _ _ _ _ (show k ≠ b by omega)

def resInputGroups_0 (n v : Int) : List (List Int) := if isTab n v then grps (alB v n.toNat) n.toNat else []
def resInputGroups_1 (n v : Int) : Int := if isTab n v then 0 else 1

set_option maxRecDepth 100000 in
set_option maxHeartbeats 8000000 in
theorem groupsS_any (n v : Int) (w : World) (ht : isTab n v = true) :
    Calls Tryd.prog 18 #[.agg #[.int .i64 n, .int .i64 v]] w fun e w' => ∃ u, e = .returned (.tuple #[u, .int .i64 0]) ∧ Own2 w' w.heap.size w'.heap.size u (grps (alB v n.toNat) n.toNat) ∧ Below w.heap.size w w' := by
  obtain ⟨i0, hi_, hz0, hz1, hz2⟩ := info_parts info64
  obtain ⟨ib, hib, hb0, hb1, hb2⟩ := info_parts infoBool
  obtain ⟨ir, hir, hr0, hr1, hr2⟩ := info_parts infoRow
  have HIs := Lib.hid ht
  obtain ⟨n1, n5, h0, hv⟩ := tab_bd ht
  have hv2 := isTab_out ht
  obtain ⟨N, rfl⟩ := Int.eq_ofNat_of_zero_le (show 0 ≤ n by omega)
  rw [Int.toNat_natCast]
  have hN5 : N ≤ 5 := by omega
  have hvN : v.toNat < 2 ^ 2 ^ N := by
    have := hv2.2.2.2
    unfold fullZ at this
    rw [Int.toNat_natCast] at this
    have := Nat.two_pow_pos (2 ^ N)
    omega
  have k0 := C2.here w (.int .i64 (N : Int)) (.int .i64 v) 26
  have E := Lib.hid (alB_equiv v hN5)
  have HAl := Lib.hid (fun (i j : Nat) (w : World) (hi : i < N) (hj : j < N) (b : Bool) (hb : alB v N i j = b) => l03Alike_any v N i j w (by omega) hN5 h0 hv hvN hi hj hb)
  clear ht hv2 hvN n1
  generalize alB v N = al at *
  go_enter Tryd.func18, Tryd.ntmps18
  go_wp2_with (first | (go_at_call 25; (with_reducible refine (l01Is_b _ _ _ HIs.out).mono ?_); rintro e w' ⟨rfl, hb⟩; have hL := chain (B := w.heap.size) (a := w) (by go_grown) (Nat.le_refl _) hb; (first | replace k0 := keepAt hb k0 | replace k0 := keepAt hb (C2.alloc k0 _)); clear hb) | (at_make; (refine wpList_make_full _ rfl _ _ 50 rfl (w.heap.size + 1) 4 ib (.bool false) 1 Tryd.underlying50 hib hb0 hb1 .i64 .i64 (N : Int) (N : Int) N rfl rfl rfl rfl (by rw [hb2]; omega) (by unfold maxLen; omega) (by have := k0.2.2.2.2; omega) ?_); intro w2 oo hg))
  have hgm2 : w'.heap.size < w2.heap.size := (World.ownsRow.lt oo w'.heap.size rfl).2
  have hmet := Bol.made oo
  have hL2 := Below.grown hL hg (by have := k0.2.2.2.2; omega) (by simp)
  have k2 := k0.grown hg (by simp)
  have hgw := k0.2.2.2.2
  generalize w'.heap.size = gm at *
  have hL3 := hL2.alloc (by omega) (.cells #[] 31)
  have k3 := k2.alloc (.cells #[] 31)
  have hmet3 := (hmet.keep ((Below.refl _ _).alloc (Nat.le_refl _) (.cells #[] 31))).congr (c' := metB al 0) fun j _ => rfl
  have hout3 : Own2 (w2.alloc (.cells #[] 31)) (gm + 1) (w2.alloc (.cells #[] 31)).heap.size (.slice (some ⟨w2.heap.size, 0, none⟩) 0 0) (grpsTo al N 0) := by
    refine ⟨fun _ => .slice none 0 0, ?_, fun k e => ?_, fun i hi => by simp [grpsTo, lstL] at hi⟩
    · exact World.ownsRow_made (base := gm + 1) (e := 31) (size := 1) w2 #[] 0 (by omega) (by simp) rfl
    · have e2 : w2.heap.size = k := by simpa [Value.ownBlock] using e
      rw [World.size_alloc]; omega
  clear oo hg hL k0 hL2 k2 hmet hib hb0 hb1 hb2
  go_loopw [5, 6] (fun u c wr => ∃ i : Nat, i ≤ N ∧ c = .int .i64 (i : Int) ∧ Below w.heap.size w wr ∧ C2 wr w.heap.size (.int .i64 (N : Int)) (.int .i64 v) ∧ Bol wr gm N (metB al i) ∧ Own2 wr (gm + 1) wr.heap.size u (grpsTo al N i)) (fun _ c _ => N - (intOf c).toNat)
  case atStart => exact ⟨0, Nat.zero_le _, rfl, hL3, k3, hmet3, hout3⟩
  case round =>
    clear hL3 k3 hmet3 hout3 hgm2
    obtain ⟨i, hi, rfl, hL, k0, hm, oo⟩ := hrel
    by_cases hlt : i < N
    · have hi1 : (i : Int) < (N : Int) := by omega
      have hi0 : (0 : Int) ≤ (i : Int) := by omega
      have hcm := (hm.2 i hlt).1
      rw [metB_self E.out hlt] at hcm
      have hgs := hm.1
      cases hls : lst al i
      · rw [hls] at hcm
        have Hm := Lib.hid (fun a => metB_miss hls a)
        have Hg := Lib.hid (grpsTo_miss (n := N) hls)
        have HM := Lib.hid hm
        clear hm hls
        go_wp2_with fail
        exact ⟨⟨i + 1, by omega, by go_num, hL, k0, HM.out.congr fun a _ => Hm.out a, by rw [Hg.out]; exact oo⟩, by simp [intOf]; omega⟩
      · rw [hls] at hcm
        have Hg := Lib.hid (grpsTo_hit (n := N) hls)
        have Hall := Lib.hid (fun (a : Nat) (ha : a < N) => metP_all hls ha)
        have HM0 := Lib.hid (hm.congr (c' := metP al i i) fun a _ => metP_start al i a)
        have hgr0 : Owns (wr.alloc (.cells #[] 2)) wr.heap.size (.slice (some ⟨wr.heap.size, 0, none⟩) 0 0) (rowG al i i) := by
          rw [rowG_start]
          exact World.ownsRow_made (base := wr.heap.size) (e := 2) (size := 1) wr #[] 0 (by simp) (by simp) rfl
        have HG0 := Lib.hid hgr0
        have HO0 := Lib.hid oo
        have hzr := hL.size
        clear hgr0 hm oo hls
        obtain ⟨wo, hwo⟩ : ∃ wo : World, wo = wr := ⟨_, rfl⟩
        subst hwo
        go_wp2_with fail
        have hbw : Below wo.heap.size wo (wo.alloc (.cells #[] 2)) := (Below.refl _ _).alloc (Nat.le_refl _) _
        have hL1 := hL.alloc (by omega) (.cells #[] 2)
        have k1 := k0.alloc (.cells #[] 2)
        have hm1 := HM0.out.keep hbw
        have oo1 := HO0.out.keep hbw
        have hg1 := HG0.out
        have hs1 : wo.heap.size ≤ (wo.alloc (.cells #[] 2)).heap.size := by simp
        generalize hBg : wo.heap.size = Bg at *
        clear hL k0 hbw HM0 HO0 HG0 hcm
        go_loopw [7, 8] (fun u2 c wr => ∃ j : Nat, j ≤ N ∧ i ≤ j ∧ c = .int .i64 (j : Int) ∧ Below w.heap.size w wr ∧ C2 wr w.heap.size (.int .i64 (N : Int)) (.int .i64 v) ∧ Bol wr gm N (metP al i j) ∧ Own2 wr (gm + 1) Bg u5 (grpsTo al N i) ∧ Owns wr Bg u2 (rowG al j i) ∧ Bg ≤ wr.heap.size) (fun _ c _ => N - (intOf c).toNat)
        case atStart => exact ⟨i, by omega, Nat.le_refl _, rfl, hL1, k1, hm1, oo1, hg1, hs1⟩
        case round =>
          clear hL1 k1 hm1 oo1 hg1 hs1
          obtain ⟨j, hj, hij, rfl, hL, k0, hm, oo, hgr, hzB⟩ := hrel
          have hgs := hm.1
          have hwz := k0.2.2.2.2
          by_cases hlj : j < N
          · have hj1 : (j : Int) < (N : Int) := by omega
            have hj0 : (0 : Int) ≤ (j : Int) := by omega
            have Hl := Lib.hid (rowG_len al j i)
            cases hal : al i j
            · have HC := Lib.hid (fun w => HAl.out i j w hlt hlj false hal)
              have Hm := Lib.hid (fun a => metP_skip hal a)
              have Hr : Hid (rowG al (j + 1) i = rowG al j i) := by unfold Hid; rw [rowG_succ _ _ _ hij, hal]; rfl
              clear hal
              go_wp2_with (go_at_call 38; (with_reducible refine (HC.out _).mono ?_); rintro e w3 ⟨rfl, hb⟩; have hL := chain (B := w.heap.size) (a := w) hL (Nat.le_refl _) hb; have k0 := keepAt hb k0; have HM3 := Lib.hid (hm.keep hb); have HO3 := Lib.hid (oo.keep hb); have HG3 := Lib.hid (hgr.keep hb); have hz3 := hb.size; clear hb)
              exact ⟨⟨j + 1, by omega, by omega, by go_num, hL, k0, HM3.out.congr fun a _ => Hm.out a, HO3.out, by rw [Hr.out]; exact HG3.out, by omega⟩, by simp [intOf]; omega⟩
            · have HC := Lib.hid (fun w => HAl.out i j w hlt hlj true hal)
              have Hm := Lib.hid (fun (wx : World) (h : Bol wx gm N (metP al i j)) => h.set (c' := metP al i (j + 1)) j true (metP_new hij hal) (fun a ha => metP_old ha) hlj)
              have Hr : Hid (rowG al (j + 1) i = rowG al j i ++ [(j : Int)]) := by unfold Hid; rw [rowG_succ _ _ _ hij, hal]; rfl
              clear hal
              go_wp2_with (first | (go_at_call 38; (with_reducible refine (HC.out _).mono ?_); rintro e w3 ⟨rfl, hb⟩; have hL := chain (B := w.heap.size) (a := w) hL (Nat.le_refl _) hb; replace k0 := keepAt hb k0; have HM3 := Lib.hid (hm.keep hb); have HO3 := Lib.hid (oo.keep hb); replace hgr := ownsKeepAt hb hgr; have hz3 := hb.size; clear hb) | (at_builtin; refine wpList_append_own _ rfl _ _ 31 rfl Bg 2 i0 (.int .i64 0) 1 8 Tryd.underlying31 hi_ hz0 hz1 hz2 rfl (by decide) _ _ _ rfl (World.ownsRow.alloc hgr _) ⟨w3.heap.size, 0, none⟩ 1 1 [.int .i64 (j : Int)] rfl rfl (cell_one_new _ _ _) (by simp [Value.oneCell']) (by have := Hl.out; unfold maxLen; omega) (by have := Hl.out; omega) (by simp; omega) ?_; intro v' w5 hown' hgrow hnil; have hcell5 := ((HM3.out.keep ((Below.refl _ _).alloc (Nat.le_refl _) (.cells #[.int .i64 (j : Int)] 2))).grown hgrow (Owns.notBlock hgr (by omega))).2 j hlj; obtain ⟨hcj, hfj⟩ := hcell5))
              have hbw : Below w3.heap.size w3 (w3.alloc (.cells #[.int .i64 (j : Int)] 2)) := (Below.refl _ _).alloc (Nat.le_refl _) _
              have hfrom := hgr.rowsFrom (B := w.heap.size) (by omega)
              have hfrom2 := hgr.rowsFrom (B := Bg) (Nat.le_refl _)
              have hsep := hgr.notBlock (b := w.heap.size) (by omega)
              have hsepm := hgr.notBlock (b := gm) (by omega)
              have hgz := hgrow.size
              rw [World.size_alloc] at hgz
              exact ⟨⟨j + 1, by omega, by omega, by go_num, ((hL.alloc (by omega) _).grown hgrow (by simp; omega) hfrom).setCell (p := ⟨gm, j, none⟩) (show w.heap.size ≤ gm by omega) _, ((k0.alloc _).grown hgrow hsep).set gm j _ (by omega), Hm.out _ ((HM3.out.keep hbw).grown hgrow hsepm), ((HO3.out.keep hbw).grownO hgrow hfrom2).setLow2 (by omega) j _, by rw [Hr.out]; exact (Owns.snoc hown').setLow2 (by omega) j _, by rw [World.size_setCell]; omega⟩, by simp [intOf]; omega⟩
          · have e : j = N := by omega
            rw [e] at hm hgr
            have hjn : ¬ (j : Int) < (N : Int) := by omega
            have HM2 := Lib.hid (hm.congr (c' := metB al (i + 1)) fun a ha => (Hall.out a ha).symm)
            obtain ⟨V, hV⟩ := oo.name
            obtain ⟨ua, ucap, rfl, _⟩ := hV.form
            obtain ⟨qa, qcap, rfl, _, _⟩ := hgr.reads
            have HV := Lib.hid hV
            have HG := Lib.hid hgr
            have hlen : (grpsTo al N i).length ≤ 5 := by have := grpsTo_len al N i; omega
            clear e hm hgr oo hV
            go_wp2_with (at_builtin; refine wpList_append_own_at _ rfl _ _ 36 rfl (gm + 1) 31 ir (.slice none 0 0) 1 24 Tryd.underlying36 hir hr0 hr1 hr2 rfl (by decide) (.slice ua (grpsTo al N i).length ucap) _ _ rfl (World.ownsRow.alloc HV.out.1 _) ⟨wr.heap.size, 0, none⟩ 1 1 [.slice qa (rowG al N i).length qcap] rfl rfl (World.news_of_block (cs := #[.slice qa (rowG al N i).length qcap]) (t := 31) (fr := (0, 0)) (heap_alloc_new wr _)) (by simp [Value.oneCell']) (by unfold maxLen; omega) (by omega) (by simp; omega) ?_; intro v1 w3 hown1 hgrow1 hnil1 hat1)
            have hbw : Below wr.heap.size wr (wr.alloc (.cells #[.slice qa (rowG al N i).length qcap] 31)) := (Below.refl _ _).alloc (Nat.le_refl _) _
            have hpush := (HV.out.keep hbw).push (by simp; omega) ((HG.out.keep hbw).mono (by omega : gm + 1 ≤ Bg)) (fun q e => HG.out.rowsFrom (B := Bg) (Nat.le_refl _) q e) hgrow1 (by rcases hat1 with h | h; exact .inl h; exact .inr ⟨_, h, Nat.le_refl _⟩) hown1
            have hsep : (Value.slice ua (grpsTo al N i).length ucap).ownBlock ≠ some w.heap.size := fun e => by have := (World.ownsRow.lt HV.out.1 _ e).1; omega
            have hsepm : (Value.slice ua (grpsTo al N i).length ucap).ownBlock ≠ some gm := fun e => by have := (World.ownsRow.lt HV.out.1 _ e).1; omega
            have hlow : ∀ q, (Value.slice ua (grpsTo al N i).length ucap).ownBlock = some q → w.heap.size ≤ q := fun q e => by have := (World.ownsRow.lt HV.out.1 _ e).1; omega
            exact ⟨⟨i + 1, by omega, by go_num, (hL.alloc (by omega) _).grown hgrow1 (by simp; omega) hlow, (k0.alloc _).grown hgrow1 hsep, (HM2.out.keep hbw).grown hgrow1 hsepm, by rw [Hg.out]; exact hpush⟩, by simp [intOf]; omega⟩
    · have e : i = N := by omega
      rw [e, grpsTo_all] at oo
      clear e
      have hin : ¬ (i : Int) < (N : Int) := by omega
      go_wp2_with fail
      go_ret2
      exact ⟨_, rfl, oo.mono (by omega) (Nat.le_refl _), hL⟩

end Go.Proofs.YtapcblibokkhcaaDoor
