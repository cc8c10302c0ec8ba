/- l02Both: the model's networks put together. -/
import Derived.Test.YtnmjdphibphpnaaBoth
import Derived.StillTailTactics
namespace Go.Proofs.Ytnmjdphibphpnaa
open Go.RowKit
set_option linter.unusedVariables false

/-- the contact c with the points that the numbers ns tell -/
def numC (ns c : List Int) : List Int := [min (ns.getD (c.getD 0 0).toNat 0) (ns.getD (c.getD 1 0).toNat 0), max (ns.getD (c.getD 0 0).toNat 0) (ns.getD (c.getD 1 0).toNat 0), c.getD 2 0, c.getD 3 0]
/-- a row of four whose first two are places among the numbers ns -/
def Cov (ns c : List Int) : Prop := c.length = 4 ∧ (0 ≤ c.getD 0 0 ∧ c.getD 0 0 < ns.length) ∧ (0 ≤ c.getD 1 0 ∧ c.getD 1 0 < ns.length)

theorem rows1_nil (w : World) (B g : Nat) (hB : B ≤ g) (hg : w.heap[g]? = some (.cells #[] 35 (0, 0))) : Rows1 w B (.slice (some ⟨g, 0, none⟩) 0 0) [] :=
  ⟨fun _ => .slice none 0 0, ⟨rfl, .inr ⟨g, 0, #[], rfl, hB, hg, Nat.le_refl _, Nat.zero_le _, rfl, rfl⟩⟩, fun i hi => by simp at hi⟩

theorem Rows1.drewR {w : World} {B : Nat} {v : Value} {L : List (List Int)} (h : Rows1 w B v L) : Rows1 w.drew B v L := h
theorem RowAt.setFar {w : World} {o : Option Nat} {u : Value} {c : List Int} {b n m i : Nat} {a : Option Addr} (h : RowAt w o u c) (hi : i ≤ 1) (hb : w.cell? ⟨b, 1, none⟩ = some (.slice a n m)) (x : Value) : RowAt (w.setCell ⟨b, i, none⟩ x) o u c := by
  obtain ⟨rb, off, rc, rfl, h4, hc, h1, h2⟩ := h
  refine ⟨rb, off, rc, rfl, h4, fun j hj => ?_, h1, by rw [World.size_setCell]; exact h2⟩
  have e := hc j hj
  have hn : ¬ (rb = b ∧ off ≤ 1) := by
    rintro ⟨rfl, h5⟩
    have h6 := hc (1 - off) (by omega)
    rw [show off + (1 - off) = 1 by omega, hb] at h6
    cases h6
  refine (World.cell?_setCell_other w ⟨b, i, none⟩ ⟨rb, off + j, none⟩ x (fun e2 => hn ?_)).trans e
  have e3 : rb = b ∧ off + j = i := by
    have e4 : (⟨rb, off + j, none⟩ : Addr) = ⟨b, i, none⟩ := by first | exact e2 | exact e2.symm
    simp only [Addr.mk.injEq] at e4
    exact ⟨e4.1, e4.2.1⟩
  exact ⟨e3.1, by omega⟩
theorem Rows1.setFar {w : World} {B b n m i : Nat} {a : Option Addr} {v : Value} {L : List (List Int)} (h : Rows1 w B v L) (hi : i ≤ 1) (hb : w.cell? ⟨b, 1, none⟩ = some (.slice a n m)) (hne : v.ownBlock ≠ some b) (x : Value) : Rows1 (w.setCell ⟨b, i, none⟩ x) B v L := by
  obtain ⟨V, h1, h2⟩ := h
  exact ⟨V, rowSame h1 fun k _ e => Below.heap_setCell w ⟨b, i, none⟩ x k (fun e2 => hne (by rw [e, e2])), fun j hj => (h2 j hj).setFar hi hb x⟩
theorem Rows1.monoR {w : World} {B B' : Nat} {v : Value} {L : List (List Int)} (h : Rows1 w B v L) (hB : B' ≤ B) : Rows1 w B' v L := by
  obtain ⟨V, h1, h2⟩ := h
  refine ⟨V, ⟨h1.1, ?_⟩, h2⟩
  rcases h1.2 with hn | ⟨g, cap, cur, rfl, hb, rest⟩
  · exact .inl hn
  · exact .inr ⟨g, cap, cur, rfl, by omega, rest⟩
theorem C2.apart {o : Option Nat} {B b : Nat} {w w' : World} {x y : Value} (hc : C2 w b x y) (h : Put1 o B w w') (hb : o ≠ some b) : C2 w' b x y := by
  obtain ⟨h0, h1, f0, f1, hz⟩ := hc
  have e := h.rest b hz hb
  have := h.low.size
  exact ⟨(World.cell?_of_block (w := w) e).trans h0, (World.cell?_of_block (w := w) e).trans h1, (World.frozen?_of_block (w := w) e).trans f0, (World.frozen?_of_block (w := w) e).trans f1, by omega⟩
theorem Put1.under {o : Option Nat} {B X : Nat} {a w w' : World} (hL : Below X a w) (h : Put1 o B w w') (hX : X ≤ B) (hs : X ≤ a.heap.size) : Below X a w' :=
  ⟨h.low.os.trans hL.os, h.low.tape.trans hL.tape, h.low.output.trans hL.output, Nat.le_trans hL.size h.low.size, fun k hk => (h.low.block k (by omega)).trans (hL.block k hk)⟩
theorem rows1_own {w : World} {B : Nat} {v : Value} {L : List (List Int)} (h : Rows1 w B v L) : ∀ k, v.ownBlock = some k → B ≤ k ∧ k < w.heap.size := by
  obtain ⟨V, h1, _⟩ := h
  exact World.ownsRow.lt h1
theorem sortTo_next {L : List (List Int)} {k : Nat} {c : List Int} (hk : k < L.length) (hc : L.getD k [] = c) : sortTo L (k + 1) = insR (sortTo L k) c := by
  rw [← hc]
  show (if _ then _ else _) = _
  rw [if_pos hk]

set_option maxRecDepth 100000 in
set_option maxHeartbeats 4000000 in
theorem l02Both_any (p px py : Int) (vx vy u1 u2 : Value) (xss yss : List (List Int)) (ns1 ns2 : List Int) (w : World) (hx : Reads2 w vx xss) (hy : Reads2 w vy yss) (h1 : Reads w u1 ns1) (h2 : Reads w u2 ns2)
    (x12 : xss.length ≤ 12) (y12 : yss.length ≤ 12) (cx : ∀ i, i < xss.length → Cov ns1 (xss.getD i [])) (cy : ∀ i, i < yss.length → Cov ns2 (yss.getD i [])) :
    Calls Try.prog 46 #[.int .i64 p, .agg #[.int .i64 px, vx], .agg #[.int .i64 py, vy], u1, u2] w fun e w' => ∃ sa sc, e = .returned (.agg #[.int .i64 p, .slice sa (xss.length + yss.length) sc]) ∧ Rows1 w' w.heap.size (.slice sa (xss.length + yss.length) sc) (sortTo (xss.map (numC ns1) ++ yss.map (numC ns2)) (xss.length + yss.length)) ∧ Below w.heap.size w w' := by
  have HX := Lib.hid hx
  have HY := Lib.hid hy
  have HN1 := Lib.hid h1
  have HN2 := Lib.hid h2
  have X12 := Lib.hid x12
  have Y12 := Lib.hid y12
  have CX := Lib.hid cx
  have CY := Lib.hid cy
  obtain ⟨xa, xc, rfl, _, _⟩ := hx
  obtain ⟨ya, yc, rfl, _, _⟩ := hy
  obtain ⟨na, nc, rfl, _, hna⟩ := h1
  obtain ⟨ma, mc, rfl, _, hma⟩ := h2
  have HNA := Lib.hid hna
  have HMA := Lib.hid hma
  clear x12 y12 cx cy hna hma
  have kx := C2.here w (.int .i64 px) (.slice xa xss.length xc) 26
  have ky := C2.here (w.alloc (.cells #[.int .i64 px, .slice xa xss.length xc] 26)) (.int .i64 py) (.slice ya yss.length yc) 26
  rw [World.size_alloc] at ky
  replace kx := kx.alloc (.cells #[.int .i64 py, .slice ya yss.length yc] 26)
  replace kx := kx.alloc (.cells #[.int .i64 0, .slice none 0 0] 26)
  replace ky := ky.alloc (.cells #[.int .i64 0, .slice none 0 0] 26)
  have hL0 : Below w.heap.size w (((w.alloc (.cells #[.int .i64 px, .slice xa xss.length xc] 26)).alloc (.cells #[.int .i64 py, .slice ya yss.length yc] 26)).alloc (.cells #[.int .i64 0, .slice none 0 0] 26)) := (((Below.refl _ _).alloc (Nat.le_refl _) _).alloc (by simp) _).alloc (by simp; omega) _
  have hs0 : (((w.alloc (.cells #[.int .i64 px, .slice xa xss.length xc] 26)).alloc (.cells #[.int .i64 py, .slice ya yss.length yc] 26)).alloc (.cells #[.int .i64 0, .slice none 0 0] 26)).heap.size = w.heap.size + 3 := by simp
  generalize hW : (((w.alloc (.cells #[.int .i64 px, .slice xa xss.length xc] 26)).alloc (.cells #[.int .i64 py, .slice ya yss.length yc] 26)).alloc (.cells #[.int .i64 0, .slice none 0 0] 26)) = W at *
  have ko := C2.here (W.alloc (.cells #[] 35)) (.int .i64 p) (.slice (some ⟨w.heap.size + 3, 0, none⟩) 0 0) 26
  rw [World.size_alloc, hs0] at ko
  replace kx := (kx.alloc (.cells #[] 35)).alloc (.cells #[.int .i64 p, .slice (some ⟨w.heap.size + 3, 0, none⟩) 0 0] 26)
  replace ky := (ky.alloc (.cells #[] 35)).alloc (.cells #[.int .i64 p, .slice (some ⟨w.heap.size + 3, 0, none⟩) 0 0] 26)
  have R0 : Hid (Rows1 ((W.alloc (.cells #[] 35)).alloc (.cells #[.int .i64 p, .slice (some ⟨w.heap.size + 3, 0, none⟩) 0 0] 26)) (w.heap.size + 3) (.slice (some ⟨w.heap.size + 3, 0, none⟩) 0 0) []) := by
    refine rows1_nil _ _ _ (Nat.le_refl _) ?_
    rw [← hs0, heap_alloc_old _ _ (by simp), heap_alloc_new]
  replace hL0 := (hL0.alloc (by omega) (.cells #[] 35)).alloc (by simp; omega) (.cells #[.int .i64 p, .slice (some ⟨w.heap.size + 3, 0, none⟩) 0 0] 26)
  have kz := C2.here ((w.alloc (.cells #[.int .i64 px, .slice xa xss.length xc] 26)).alloc (.cells #[.int .i64 py, .slice ya yss.length yc] 26)) (.int .i64 0) (.slice none 0 0) 26
  rw [hW, World.size_alloc, World.size_alloc] at kz
  replace kz := (kz.alloc (.cells #[] 35)).alloc (.cells #[.int .i64 p, .slice (some ⟨w.heap.size + 3, 0, none⟩) 0 0] 26)
  subst hW
  clear hs0
  go_enter Try.func46, Try.ntmps46
  go_wp2_with fail
  go_loopw [12] (fun c wr => ∃ (k : Nat) (sa : Option Addr) (sc : Nat), k ≤ xss.length ∧ c = .int .i64 (k : Int) ∧ Below w.heap.size w wr ∧ C2 wr w.heap.size (.int .i64 px) (.slice xa xss.length xc) ∧ C2 wr (w.heap.size + 1) (.int .i64 py) (.slice ya yss.length yc) ∧ C2 wr (w.heap.size + 4) (.int .i64 p) (.slice sa k sc) ∧ C2 wr (w.heap.size + 2) (.int .i64 0) (.slice none 0 0) ∧ Hid (Rows1 wr (w.heap.size + 3) (.slice sa k sc) (sortTo (xss.map (numC ns1) ++ yss.map (numC ns2)) k)) ∧ Hid ((Value.slice sa k sc).ownBlock ≠ some (w.heap.size + 4)))
    (fun c _ => xss.length - (intOf c).toNat)
  case atStart => exact ⟨0, _, _, Nat.zero_le _, rfl, hL0, kx, ky, ko, kz, R0, by unfold Hid; intro e; simp [Value.ownBlock] at e⟩
  case round =>
    clear hL0 kx ky ko kz R0
    obtain ⟨k, sa, sc, hk, rfl, hL, kx, ky, ko, kz, HR, HSep⟩ := hrel
    by_cases hlt : k < xss.length
    · obtain ⟨hl4, hc0, hc1⟩ := CX.out k hlt
      have hcell := HX.out
      obtain ⟨xa', xc', he, _, hcell⟩ := hcell
      simp only [Value.slice.injEq] at he
      obtain ⟨rfl, _, rfl⟩ := he
      rcases hcell with hcell | ⟨xb, xo, rfl, hcell⟩
      · rw [hcell] at hlt; simp at hlt
      obtain ⟨u, hu, hr⟩ := hcell k hlt
      obtain ⟨ra, rc, rfl, _, hrc⟩ := hr
      have HE : Hid ((xss.map (numC ns1) ++ yss.map (numC ns2)).getD k [] = numC ns1 (xss.getD k [])) := by
        unfold Hid
        rw [List.getD_eq_getElem?_getD, List.getElem?_append_left (by simpa using hlt), List.getElem?_map, List.getD_eq_getElem?_getD, List.getElem?_eq_getElem hlt]; rfl
      have HLL : Hid (k < (xss.map (numC ns1) ++ yss.map (numC ns2)).length) := by unfold Hid; simp; omega
      rw [hl4] at hu
      generalize hcc : xss.getD k [] = c at *
      clear hcc hcell
      obtain ⟨c0, c1, c2, c3, rfl⟩ := list4 hl4
      rcases hrc with hrc | ⟨rb, ro, rfl, hrc⟩
      · cases hrc
      rcases HNA.out with hna | ⟨nb, no, rfl, hna⟩
      · rw [hna] at hc0; simp at hc0; omega
      have r0 := cell_later hL (show w.cell? ⟨rb, ro, none⟩ = some (.int .i64 c0) by simpa using hrc 0 (by simp))
      have r1 := cell_later hL (show w.cell? ⟨rb, ro + 1, none⟩ = some (.int .i64 c1) by simpa using hrc 1 (by simp))
      have r2 := cell_later hL (show w.cell? ⟨rb, ro + 2, none⟩ = some (.int .i64 c2) by simpa using hrc 2 (by simp))
      have r3 := cell_later hL (show w.cell? ⟨rb, ro + 3, none⟩ = some (.int .i64 c3) by simpa using hrc 3 (by simp))
      have hu' := cell_later hL hu
      obtain ⟨p0, p1⟩ : (0 : Int) ≤ c0 ∧ c0 < (ns1.length : Int) := hc0
      obtain ⟨q0, q1⟩ : (0 : Int) ≤ c1 ∧ c1 < (ns1.length : Int) := hc1
      have z0 := cell_later hL (hna c0.toNat (by omega))
      have z1 := cell_later hL (hna c1.toNat (by omega))
      have HNX : Hid (numC ns1 [c0, c1, c2, c3] = [min (ns1.getD c0.toNat 0) (ns1.getD c1.toNat 0), max (ns1.getD c0.toNat 0) (ns1.getD c1.toNat 0), c2, c3]) := rfl
      generalize ns1.getD c0.toNat 0 = v0 at *
      generalize ns1.getD c1.toNat 0 = v1 at *
      clear hrc hna hu
      have i0 : (0 : Int) ≤ (k : Int) := by omega
      have i1 : (k : Int) < (xss.length : Int) := by omega
      have HSL : Hid ((sortTo (xss.map (numC ns1) ++ yss.map (numC ns2)) k).length = k) := sortTo_len (by have := HLL.out; omega)
      have HNEXT : Hid (sortTo (xss.map (numC ns1) ++ yss.map (numC ns2)) (k + 1) = insR (sortTo (xss.map (numC ns1) ++ yss.map (numC ns2)) k) [min v0 v1, max v0 v1, c2, c3]) := sortTo_next HLL.out (HE.out.trans HNX.out)
      have HP := Lib.hid (l02Put_any sa k sc _ (w.heap.size + 3) v0 v1 c2 c3 wr.drew HSL.out HR.out.drewR (by have := X12.out; omega) (by have := ko.2.2.2.2; show w.heap.size + 3 ≤ wr.heap.size; omega))
      have HKS : Hid (k + 1 ≤ xss.length) := by unfold Hid; omega
      have HW : Hid (wrap64 ((k : Int) + 1) = ((k + 1 : Nat) : Int)) := by unfold Hid; rw [IntWalk.wrap64_in _ (by have := X12.out; omega)]; rfl
      have HM : Hid (xss.length - (intOf (.int .i64 (wrap64 ((k : Int) + 1)))).toNat < xss.length - (intOf (.int .i64 (k : Int))).toNat) := by unfold Hid; rw [HW.out]; show xss.length - ((k + 1 : Nat) : Int).toNat < xss.length - ((k : Int)).toNat; omega
      clear hlt hl4
      go_upto_region 6 with fail
      go_still_tail 20, (by kernel_rfl)
      change wpList _ _ _ _ _ wr.drew
      go_wp2_with fail
      refine HP.out.mono ?_
      rintro e w1 ⟨g, cap, rfl, R1, P1, hg⟩
      have hsz : wr.heap.size ≤ w1.heap.size := P1.low.size
      have hown := rows1_own HR.out
      have hko := ko.2.2.2.2
      have hL1 : Below w.heap.size w w1 := Put1.under (Bdrew hL _) P1 (by omega) (Nat.le_refl _)
      replace kx := C2.apart (show C2 wr.drew _ _ _ from kx) P1 (fun e => by have := (hown _ e).1; omega)
      replace ky := C2.apart (show C2 wr.drew _ _ _ from ky) P1 (fun e => by have := (hown _ e).1; omega)
      replace kz := C2.apart (show C2 wr.drew _ _ _ from kz) P1 (fun e => by have := (hown _ e).1; omega)
      replace ko := C2.apart (show C2 wr.drew _ _ _ from ko) P1 HSep.out
      have hne : Hid ((Value.slice (some ⟨g, 0, none⟩) (k + 1) cap).ownBlock ≠ some (w.heap.size + 4)) := by
        intro e
        rcases hg with h | h
        · exact HSep.out (h.symm.trans e)
        · have h2 : g = w.heap.size + 4 := by simpa [Value.ownBlock] using e
          have h3 : wr.heap.size ≤ g := h
          omega
      have R2 := Lib.hid (Rows1.setFar R1 (Nat.le_refl 1) ko.2.1 hne.out (.slice (some ⟨g, 0, none⟩) (k + 1) cap))
      have ko2 := ko.put1 (.slice (some ⟨g, 0, none⟩) (k + 1) cap)
      clear P1 hown hg HP R1
      go_wp2_with fail
      exact ⟨⟨k + 1, some ⟨g, 0, none⟩, cap, HKS.out, by rw [HW.out], hL1.setCell (p := ⟨w.heap.size + 4, 1, none⟩) (by simp) _, kx.set _ _ _ (by omega), ky.set _ _ _ (by omega), ko2, kz.set _ _ _ (by omega), by rw [HNEXT.out]; exact R2.out, hne.out⟩, HM.out⟩
    · obtain rfl : k = xss.length := by omega
      clear hlt hk
      go_wp2_with fail
      go_loopw [14] (fun c wr => ∃ (k : Nat) (sa : Option Addr) (sc : Nat), k ≤ yss.length ∧ c = .int .i64 (k : Int) ∧ Below w.heap.size w wr ∧ C2 wr (w.heap.size + 1) (.int .i64 py) (.slice ya yss.length yc) ∧ C2 wr (w.heap.size + 4) (.int .i64 p) (.slice sa (xss.length + k) sc) ∧ C2 wr (w.heap.size + 2) (.int .i64 0) (.slice none 0 0) ∧ Hid (Rows1 wr (w.heap.size + 3) (.slice sa (xss.length + k) sc) (sortTo (xss.map (numC ns1) ++ yss.map (numC ns2)) (xss.length + k))) ∧ Hid ((Value.slice sa (xss.length + k) sc).ownBlock ≠ some (w.heap.size + 4)))
        (fun c _ => yss.length - (intOf c).toNat)
      case atStart => exact ⟨0, sa, sc, Nat.zero_le _, rfl, hL, ky, ko, kz, HR, HSep⟩
      case round =>
        clear hL kx ky ko kz HR HSep
        obtain ⟨k, sa, sc, hk, rfl, hL, ky, ko, kz, HR, HSep⟩ := hrel
        by_cases hlt : k < yss.length
        · obtain ⟨hl4, hc0, hc1⟩ := CY.out k hlt
          have hcell := HY.out
          obtain ⟨ya', yc', he, _, hcell⟩ := hcell
          simp only [Value.slice.injEq] at he
          obtain ⟨rfl, _, rfl⟩ := he
          rcases hcell with hcell | ⟨yb, yo, rfl, hcell⟩
          · rw [hcell] at hlt; simp at hlt
          obtain ⟨u, hu, hr⟩ := hcell k hlt
          obtain ⟨ra, rc, rfl, _, hrc⟩ := hr
          have HE : Hid ((xss.map (numC ns1) ++ yss.map (numC ns2)).getD (xss.length + k) [] = numC ns2 (yss.getD k [])) := by
            unfold Hid
            rw [List.getD_eq_getElem?_getD, List.getElem?_append_right (by simp), List.length_map, Nat.add_sub_cancel_left, List.getElem?_map, List.getD_eq_getElem?_getD, List.getElem?_eq_getElem hlt]; rfl
          have HLL : Hid (xss.length + k < (xss.map (numC ns1) ++ yss.map (numC ns2)).length) := by unfold Hid; simp; omega
          rw [hl4] at hu
          generalize hcc : yss.getD k [] = c at *
          clear hcc hcell
          obtain ⟨c0, c1, c2, c3, rfl⟩ := list4 hl4
          rcases hrc with hrc | ⟨rb, ro, rfl, hrc⟩
          · cases hrc
          rcases HMA.out with hna | ⟨nb, no, rfl, hna⟩
          · rw [hna] at hc0; simp at hc0; omega
          have r0 := cell_later hL (show w.cell? ⟨rb, ro, none⟩ = some (.int .i64 c0) by simpa using hrc 0 (by simp))
          have r1 := cell_later hL (show w.cell? ⟨rb, ro + 1, none⟩ = some (.int .i64 c1) by simpa using hrc 1 (by simp))
          have r2 := cell_later hL (show w.cell? ⟨rb, ro + 2, none⟩ = some (.int .i64 c2) by simpa using hrc 2 (by simp))
          have r3 := cell_later hL (show w.cell? ⟨rb, ro + 3, none⟩ = some (.int .i64 c3) by simpa using hrc 3 (by simp))
          have hu' := cell_later hL hu
          obtain ⟨p0, p1⟩ : (0 : Int) ≤ c0 ∧ c0 < (ns2.length : Int) := hc0
          obtain ⟨q0, q1⟩ : (0 : Int) ≤ c1 ∧ c1 < (ns2.length : Int) := hc1
          have z0 := cell_later hL (hna c0.toNat (by omega))
          have z1 := cell_later hL (hna c1.toNat (by omega))
          have Hxss.length : Hid (numC ns2 [c0, c1, c2, c3] = [min (ns2.getD c0.toNat 0) (ns2.getD c1.toNat 0), max (ns2.getD c0.toNat 0) (ns2.getD c1.toNat 0), c2, c3]) := rfl
          generalize ns2.getD c0.toNat 0 = v0 at *
          generalize ns2.getD c1.toNat 0 = v1 at *
          clear hrc hna hu
          have i0 : (0 : Int) ≤ (k : Int) := by omega
          have i1 : (k : Int) < (yss.length : Int) := by omega
          have HSL : Hid ((sortTo (xss.map (numC ns1) ++ yss.map (numC ns2)) (xss.length + k)).length = xss.length + k) := sortTo_len (by have := HLL.out; omega)
          have HNEXT : Hid (sortTo (xss.map (numC ns1) ++ yss.map (numC ns2)) (xss.length + k + 1) = insR (sortTo (xss.map (numC ns1) ++ yss.map (numC ns2)) (xss.length + k)) [min v0 v1, max v0 v1, c2, c3]) := sortTo_next HLL.out (HE.out.trans Hxss.length.out)
          have HP := Lib.hid (l02Put_any sa (xss.length + k) sc _ (w.heap.size + 3) v0 v1 c2 c3 wr.drew HSL.out HR.out.drewR (by have := X12.out; have := Y12.out; omega) (by have := ko.2.2.2.2; show w.heap.size + 3 ≤ wr.heap.size; omega))
          have HKS : Hid (k + 1 ≤ yss.length) := by unfold Hid; omega
          have HW : Hid (wrap64 ((k : Int) + 1) = ((k + 1 : Nat) : Int)) := by unfold Hid; rw [IntWalk.wrap64_in _ (by have := Y12.out; omega)]; rfl
          have HM : Hid (yss.length - (intOf (.int .i64 (wrap64 ((k : Int) + 1)))).toNat < yss.length - (intOf (.int .i64 (k : Int))).toNat) := by unfold Hid; rw [HW.out]; show yss.length - ((k + 1 : Nat) : Int).toNat < yss.length - ((k : Int)).toNat; omega
          clear hlt hl4
          go_upto_region 11 with fail
          go_still_tail 20, (by kernel_rfl)
          change wpList _ _ _ _ _ wr.drew
          go_wp2_with fail
          refine HP.out.mono ?_
          rintro e w1 ⟨g, cap, rfl, R1, P1, hg⟩
          have hsz : wr.heap.size ≤ w1.heap.size := P1.low.size
          have hown := rows1_own HR.out
          have hko := ko.2.2.2.2
          have hL1 : Below w.heap.size w w1 := Put1.under (Bdrew hL _) P1 (by omega) (Nat.le_refl _)
          replace ky := C2.apart (show C2 wr.drew _ _ _ from ky) P1 (fun e => by have := (hown _ e).1; omega)
          replace kz := C2.apart (show C2 wr.drew _ _ _ from kz) P1 (fun e => by have := (hown _ e).1; omega)
          replace ko := C2.apart (show C2 wr.drew _ _ _ from ko) P1 HSep.out
          have hne : Hid ((Value.slice (some ⟨g, 0, none⟩) (xss.length + k + 1) cap).ownBlock ≠ some (w.heap.size + 4)) := by
            intro e
            rcases hg with h | h
            · exact HSep.out (h.symm.trans e)
            · have h2 : g = w.heap.size + 4 := by simpa [Value.ownBlock] using e
              have h3 : wr.heap.size ≤ g := h
              omega
          have R2 := Lib.hid (Rows1.setFar R1 (Nat.le_refl 1) ko.2.1 hne.out (.slice (some ⟨g, 0, none⟩) (xss.length + k + 1) cap))
          have ko2 := ko.put1 (.slice (some ⟨g, 0, none⟩) (xss.length + k + 1) cap)
          clear P1 hown hg HP R1
          go_wp2_with fail
          exact ⟨⟨k + 1, some ⟨g, 0, none⟩, cap, HKS.out, by rw [HW.out], hL1.setCell (p := ⟨w.heap.size + 4, 1, none⟩) (by simp) _, ky.set _ _ _ (by omega), ko2, kz.set _ _ _ (by omega), by rw [show xss.length + (k + 1) = xss.length + k + 1 from rfl, HNEXT.out]; exact R2.out, hne.out⟩, HM.out⟩
        · obtain rfl : k = yss.length := by omega
          have hn2 : (Value.slice sa (xss.length + yss.length) sc).ownBlock ≠ some (w.heap.size + 2) := fun e => by have := (rows1_own HR.out _ e).1; omega
          have HF := Lib.hid (((HR.out.setFar (i := 0) (by omega) kz.2.1 hn2 (.int .i64 p)).setFar (i := 1) (Nat.le_refl 1) (kz.put0 (.int .i64 p)).2.1 hn2 (.slice sa (xss.length + yss.length) sc)).monoR (show w.heap.size ≤ w.heap.size + 3 by omega))
          clear hlt hk hn2
          go_wp2_with fail
          refine bodyPost_ret (v := .agg #[.int .i64 p, .slice sa (xss.length + yss.length) sc]) (by simp [results, Try.results46, go_sem, *]) rfl ?_
          exact ⟨sa, sc, rfl, HF.out, (hL.setCell (p := ⟨w.heap.size + 2, 0, none⟩) (by simp) _).setCell (p := ⟨w.heap.size + 2, 1, none⟩) (by simp) _⟩

end Go.Proofs.Ytnmjdphibphpnaa
