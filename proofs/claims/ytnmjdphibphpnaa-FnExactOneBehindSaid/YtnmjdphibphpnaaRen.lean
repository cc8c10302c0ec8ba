/- renumbered: the contacts of a network with other numbers for its points. -/
import Derived.Test.YtnmjdphibphpnaaSort
import Derived.Test.YtnmjdphibphpnaaNetB
namespace Go.Proofs.Ytnmjdphibphpnaa
open Go.RowKit
set_option linter.unusedVariables false

/-- the new number of the point q -/
def numZ (zero one next q : Int) : Int := if q = 0 then zero else if q = 1 then one else next + q - 2
/-- what lies at the place q of the numbers when those below k are laid -/
def numK (zero one next : Int) (k : Nat) (q : Nat) : Int := if q = 0 then zero else if q = 1 then one else if q < k then next + (q : Int) - 2 else 0
/-- a contact with other points -/
def renC (zero one next : Int) (c : List Int) : List Int := [min (numZ zero one next (c.getD 0 0)) (numZ zero one next (c.getD 1 0)), max (numZ zero one next (c.getD 0 0)) (numZ zero one next (c.getD 1 0)), c.getD 2 0, c.getD 3 0]

/-- a box of eight numbers -/
def N8 (w : World) (b : Nat) (f : Nat → Int) : Prop := (∀ j, j < 8 → w.cell? ⟨b, j, none⟩ = some (.int .i64 (f j)) ∧ w.frozen? ⟨b, j, none⟩ = false) ∧ b < w.heap.size
theorem N8.keep {w w' : World} {b : Nat} {f : Nat → Int} (h : N8 w b f) (hb : Below w.heap.size w w') : N8 w' b f := by
  obtain ⟨h1, hz⟩ := h
  have := hb.size
  exact ⟨fun j hj => ⟨(hb.cell (p := ⟨b, j, none⟩) hz).trans (h1 j hj).1, (hb.frozen (p := ⟨b, j, none⟩) hz).trans (h1 j hj).2⟩, by omega⟩
theorem N8.put {w : World} {b : Nat} {f g : Nat → Int} (h : N8 w b f) (k : Nat) (hk : k < 8) (x : Int) (hx : g k = x) (ho : ∀ j, j < 8 → j ≠ k → g j = f j) : N8 (w.setCell ⟨b, k, none⟩ (.int .i64 x)) b g := by
  obtain ⟨h1, hz⟩ := h
  refine ⟨fun j hj => ⟨?_, by rw [World.frozen?_setCell]; exact (h1 j hj).2⟩, by rw [World.size_setCell]; exact hz⟩
  by_cases e : j = k
  · subst e
    rw [World.cell?_setCell_same _ _ _ (h1 j hj).1, hx]
  · rw [World.cell?_setCell_other w ⟨b, k, none⟩ ⟨b, j, none⟩ _ (by first | exact fun h => e (congrArg Addr.off h) | exact fun h => e (congrArg Addr.off h).symm), (h1 j hj).1, ho j hj e]
theorem N8.far {w : World} {b : Nat} {f : Nat → Int} (h : N8 w b f) (p : Addr) (v : Value) (hp : b ≠ p.block) : N8 (w.setCell p v) b f := by
  obtain ⟨h1, hz⟩ := h
  have e := Below.heap_setCell w p v b hp
  exact ⟨fun j hj => ⟨(World.cell?_of_block (w := w) e).trans (h1 j hj).1, (World.frozen?_of_block (w := w) e).trans (h1 j hj).2⟩, by rw [World.size_setCell]; exact hz⟩
theorem N8.drew {w : World} {b : Nat} {f : Nat → Int} (h : N8 w b f) : N8 w.drew b f := h
theorem N8.here (w : World) (zero one : Int) (t : TypeId) (next : Int) : N8 (w.alloc (.cells #[.int .i64 zero, .int .i64 one, .int .i64 0, .int .i64 0, .int .i64 0, .int .i64 0, .int .i64 0, .int .i64 0] t)) w.heap.size (numK zero one next 2) := by
  refine ⟨fun j hj => ⟨?_, World.frozen?_alloc_at _ _ _ _ rfl⟩, by simp⟩
  rw [World.cell?_alloc_at _ _ _ _ rfl]
  have h : j = 0 ∨ j = 1 ∨ j = 2 ∨ j = 3 ∨ j = 4 ∨ j = 5 ∨ j = 6 ∨ j = 7 := by omega
  rcases h with rfl | rfl | rfl | rfl | rfl | rfl | rfl | rfl <;> rfl
theorem numK_num {zero one next : Int} {p : Int} {q : Nat} (hq : (q : Int) < p) (hp : 2 ≤ p) : numK zero one next p.toNat q = numZ zero one next (q : Int) := by
  unfold numK numZ
  by_cases h0 : q = 0
  · subst h0; rfl
  · by_cases h1 : q = 1
    · subst h1; rfl
    · have a : ¬ ((q : Int) = 0) := by omega
      have b : ¬ ((q : Int) = 1) := by omega
      have c : q < p.toNat := by omega
      rw [if_neg h0, if_neg h1, if_pos c, if_neg a, if_neg b]

/-- the first k contacts with other points -/
def renTo (zero one next : Int) (xss : List (List Int)) (k : Nat) : List (List Int) := (xss.map (renC zero one next)).take k ++ xss.drop k
theorem renTo_zero (zero one next : Int) (xss : List (List Int)) : renTo zero one next xss 0 = xss := by simp [renTo]
theorem renTo_all (zero one next : Int) (xss : List (List Int)) : renTo zero one next xss xss.length = xss.map (renC zero one next) := by
  unfold renTo; rw [List.drop_length, List.append_nil, List.take_of_length_le (by simp)]
theorem renTo_len (zero one next : Int) (xss : List (List Int)) (k : Nat) : (renTo zero one next xss k).length = xss.length := by
  simp [renTo]; omega
theorem renTo_at {zero one next : Int} {xss : List (List Int)} {k : Nat} (hk : k < xss.length) : (renTo zero one next xss k).getD k [] = xss.getD k [] := by
  have h : ((xss.map (renC zero one next)).take k).length = k := by simp; omega
  unfold renTo
  simp only [List.getD_eq_getElem?_getD]
  rw [List.getElem?_append_right (by omega), h, Nat.sub_self]
  simp
theorem renTo_set {zero one next : Int} {xss : List (List Int)} {k : Nat} (hk : k < xss.length) : (renTo zero one next xss k).set k (renC zero one next (xss.getD k [])) = renTo zero one next xss (k + 1) := by
  have h : ((xss.map (renC zero one next)).take k).length = k := by simp; omega
  unfold renTo
  rw [List.set_append_right _ _ (by omega), h, Nat.sub_self, List.drop_eq_getElem_cons hk, List.set_cons_zero, List.take_succ_eq_append_getElem (by simpa using hk), List.append_assoc]
  simp [List.getD_eq_getElem?_getD, hk]
theorem OwnsC.monoC {w : World} {base base' : Nat} {v : Value} {L : List (List Int)} (h : OwnsC w base v L) (hb : base' ≤ base) : OwnsC w base' v L := by
  refine ⟨h.1, ?_⟩
  rcases h.2 with h2 | ⟨g, cap, cur, hv, hbg, r⟩
  · exact .inl h2
  · exact .inr ⟨g, cap, cur, hv, Nat.le_trans hb hbg, r⟩

set_option maxRecDepth 100000 in
set_option maxHeartbeats 4000000 in
theorem renumbered_any (p : Int) (v : Value) (xss : List (List Int)) (zero one next : Int) (w : World) (ha : Reads2 w v xss) (hN : Net p xss) (hz : 0 ≤ zero ∧ zero ≤ 100) (ho : 0 ≤ one ∧ one ≤ 100) (hx : 0 ≤ next ∧ next ≤ 100) :
    Calls Try.prog 51 #[.agg #[.int .i64 p, v], .int .i64 zero, .int .i64 one, .int .i64 next] w fun e w' => ∃ u, e = .returned u ∧ OwnsC w' w.heap.size u (xss.map (renC zero one next)) ∧ Below w.heap.size w w' := by
  obtain ⟨p2, p8, h12, hok⟩ := hN
  have HA := Lib.hid ha
  have H12 := Lib.hid h12
  have HC : Hid (∀ i, i < xss.length → Con p (xss.getD i [])) := fun i hi => (hok i hi).1
  obtain ⟨a, ca, rfl, _, _⟩ := ha
  clear hok h12
  have kx := C2.here w (.int .i64 p) (.slice a xss.length ca) 26
  have n0 : N8 ((w.alloc (.cells #[.int .i64 p, .slice a xss.length ca] 26)).alloc (.cells #[.int .i64 zero, .int .i64 one, .int .i64 0, .int .i64 0, .int .i64 0, .int .i64 0, .int .i64 0, .int .i64 0] 88)) (w.heap.size + 1) (numK zero one next 2) := by
    have := N8.here (w.alloc (.cells #[.int .i64 p, .slice a xss.length ca] 26)) zero one 88 next
    rw [World.size_alloc] at this
    exact this
  replace kx := kx.alloc (.cells #[.int .i64 zero, .int .i64 one, .int .i64 0, .int .i64 0, .int .i64 0, .int .i64 0, .int .i64 0, .int .i64 0] 88)
  have hL0 : Below w.heap.size w ((w.alloc (.cells #[.int .i64 p, .slice a xss.length ca] 26)).alloc (.cells #[.int .i64 zero, .int .i64 one, .int .i64 0, .int .i64 0, .int .i64 0, .int .i64 0, .int .i64 0, .int .i64 0] 88)) := ((Below.refl _ _).alloc (Nat.le_refl _) _).alloc (by simp) _
  have N0 := Lib.hid n0
  clear n0
  go_enter Try.func51, Try.ntmps51
  go_wp2_with fail
  go_loopw [10] (fun c wr => ∃ k : Nat, 2 ≤ k ∧ (k : Int) ≤ p ∧ c = .int .i64 (k : Int) ∧ Below w.heap.size w wr ∧ C2 wr w.heap.size (.int .i64 p) (.slice a xss.length ca) ∧ Hid (N8 wr (w.heap.size + 1) (numK zero one next k))) (fun c _ => p.toNat - (intOf c).toNat)
  case atStart => exact ⟨2, Nat.le_refl _, p2, rfl, hL0, kx, N0⟩
  case round =>
    clear hL0 kx N0
    obtain ⟨k, hk2, hkp, rfl, hL, kx, HN⟩ := hrel
    by_cases hlt : (k : Int) < p
    · have hk8 : k < 8 := by omega
      obtain ⟨hcell, hfr⟩ := HN.out.1 k hk8
      have HV : Hid (wrap64 (wrap64 (next + (k : Int)) - 2) = next + (k : Int) - 2) := by unfold Hid; rw [IntWalk.wrap64_in (next + (k : Int)) (by omega), IntWalk.wrap64_in _ (by omega)]
      have HP : Hid (N8 (wr.setCell ⟨w.heap.size + 1, k, none⟩ (.int .i64 (next + (k : Int) - 2))) (w.heap.size + 1) (numK zero one next (k + 1))) :=
        HN.out.put k hk8 _ (by unfold numK; rw [if_neg (by omega), if_neg (by omega), if_pos (by omega)]) (fun j hj hjk => by
          unfold numK
          by_cases h0 : j = 0
          · rw [if_pos h0, if_pos h0]
          · rw [if_neg h0, if_neg h0]
            by_cases h1 : j = 1
            · rw [if_pos h1, if_pos h1]
            · rw [if_neg h1, if_neg h1]
              by_cases h2 : j < k
              · rw [if_pos h2, if_pos (by omega)]
              · rw [if_neg h2, if_neg (by omega)])
      have HK : Hid (2 ≤ k + 1 ∧ ((k + 1 : Nat) : Int) ≤ p) := by unfold Hid; omega
      have HM : Hid (p.toNat - ((k : Int) + 1).toNat < p.toNat - ((k : Int)).toNat) := by unfold Hid; omega
      have hi0 : (0 : Int) ≤ (k : Int) := by omega
      have hi8 : (k : Int) < 8 := by omega
      generalize numK zero one next k k = old at *
      go_wp2_with fail
      exact ⟨⟨k + 1, HK.out.1, HK.out.2, by go_num, hL.setCell (p := ⟨w.heap.size + 1, k, none⟩) (by simp) _, kx.set _ _ _ (by omega), HP⟩, HM.out⟩
    · have hkp2 : k = p.toNat := by omega
      rw [hkp2] at HN
      have HCO := Lib.hid (contactsOf_any p (.slice a xss.length ca) xss wr (HA.out.keep hL) H12.out (fun i hi => (HC.out i hi).1))
      have hi1 : ¬ (k : Int) < p := hlt
      clear hkp2
      go_wp2_with fail
      refine HCO.out.mono ?_
      rintro e w1 ⟨u, rfl, oc, hb⟩
      have hL1 := chain (B := w.heap.size) (a := w) hL (Nat.le_refl _) hb
      have hszr := hL.size
      have hsz2 : w.heap.size + 1 < wr.heap.size := HN.out.2
      replace HN := Lib.hid (HN.out.keep hb)
      obtain ⟨ua, uc, rfl, _, _⟩ := oc.reads
      have OC : Hid (OwnsC w1 (w.heap.size + 2) (.slice ua xss.length uc) (renTo zero one next xss 0)) := by rw [renTo_zero]; exact oc.monoC (by omega)
      clear hb oc kx HCO
      go_wp2_with fail
      go_loopw [35] (fun c wq => ∃ k : Nat, k ≤ xss.length ∧ c = .int .i64 (k : Int) ∧ Below w.heap.size w wq ∧ Hid (N8 wq (w.heap.size + 1) (numK zero one next p.toNat)) ∧ Hid (OwnsC wq (w.heap.size + 2) (.slice ua xss.length uc) (renTo zero one next xss k)))
        (fun c _ => xss.length - (intOf c).toNat)
      case atStart => exact ⟨0, Nat.zero_le _, rfl, hL1, HN, OC⟩
      case round =>
        clear hL1 HN OC
        obtain ⟨k, hk, rfl, hL, HN, OC⟩ := hrel
        by_cases hlt : k < xss.length
        · have hcon := HC.out k hlt
          obtain ⟨c0, c1, c2, c3, hc⟩ := list4 hcon.1
          have HEl : Hid ((renTo zero one next xss k).getD k [] = [c0, c1, c2, c3]) := by unfold Hid; rw [renTo_at hlt, hc]
          have HNx : Hid ((renTo zero one next xss k).set k (renC zero one next [c0, c1, c2, c3]) = renTo zero one next xss (k + 1)) := by unfold Hid; rw [← hc]; exact renTo_set hlt
          rw [hc, con_iff] at hcon
          have HLn : Hid ((renTo zero one next xss k).length = xss.length) := renTo_len _ _ _ _ _
          obtain ⟨g, rfl⟩ : ∃ g, ua = some ⟨g, 0, none⟩ := by
            have h0 := OC.out
            unfold OwnsC at h0
            rw [HLn.out] at h0
            rcases h0.2 with ⟨_, hn0⟩ | ⟨g, cap', cur, hv, _⟩
            · omega
            · simp only [Value.slice.injEq] at hv
              exact ⟨g, hv.1⟩
          obtain ⟨q0, q1, q2, q3⟩ := OC.out.four k (by rw [HLn.out]; exact hlt)
          rw [HEl.out] at q0 q1 q2 q3
          have hbx : Below wr.heap.size wr (wr.alloc (.cells #[.int .i64 c0, .int .i64 c1, .int .i64 c2, .int .i64 c3] 69)) := (Below.refl _ _).alloc (Nat.le_refl _) _
          have y0 := cell_later hbx (HN.out.1 c0.toNat (by omega)).1
          have y1 := cell_later hbx (HN.out.1 c1.toNat (by omega)).1
          rw [numK_num (by omega) p2, Int.toNat_of_nonneg (by omega)] at y0 y1
          have OC2 := Lib.hid (OC.out.keep hbx)
          have hfr := fun o => OwnsC.frozen HLn.out OC2.out o
          have r0 := cell_later hbx q0
          have r1 := cell_later hbx q1
          have r2 := cell_later hbx q2
          have r3 := cell_later hbx q3
          have b0 : (wr.alloc (.cells #[.int .i64 c0, .int .i64 c1, .int .i64 c2, .int .i64 c3] 69)).cell? ⟨wr.heap.size, 0, none⟩ = some (.int .i64 c0) := by rw [World.cell?_alloc_at _ _ _ _ rfl]; rfl
          have b1 : (wr.alloc (.cells #[.int .i64 c0, .int .i64 c1, .int .i64 c2, .int .i64 c3] 69)).cell? ⟨wr.heap.size, 1, none⟩ = some (.int .i64 c1) := by rw [World.cell?_alloc_at _ _ _ _ rfl]; rfl
          have b2 : (wr.alloc (.cells #[.int .i64 c0, .int .i64 c1, .int .i64 c2, .int .i64 c3] 69)).cell? ⟨wr.heap.size, 2, none⟩ = some (.int .i64 c2) := by rw [World.cell?_alloc_at _ _ _ _ rfl]; rfl
          have b3 : (wr.alloc (.cells #[.int .i64 c0, .int .i64 c1, .int .i64 c2, .int .i64 c3] 69)).cell? ⟨wr.heap.size, 3, none⟩ = some (.int .i64 c3) := by rw [World.cell?_alloc_at _ _ _ _ rfl]; rfl
          have i0 : (0 : Int) ≤ c0 := by omega
          have i1 : c0 < 8 := by omega
          have i2 : (0 : Int) ≤ c1 := by omega
          have i3 : c1 < 8 := by omega
          have i4 : (0 : Int) ≤ (k : Int) := by omega
          have i5 : (k : Int) < (xss.length : Int) := by omega
          have HPut := Lib.hid (fun (wz : World) (h : OwnsC wz (w.heap.size + 2) (.slice (some ⟨g, 0, none⟩) xss.length uc) (renTo zero one next xss k)) => OwnsC.put HLn.out h k (by rw [HLn.out]; exact hlt) (renC zero one next [c0, c1, c2, c3]))
          have HKs : Hid (k + 1 ≤ xss.length) := by unfold Hid; omega
          have HMs : Hid (xss.length - ((k : Int) + 1).toNat < xss.length - ((k : Int)).toNat) := by unfold Hid; omega
          simp only [List.getD_cons_zero, List.getD_cons_succ] at q0 q1 q2 q3 r0 r1 r2 r3
          have HRC : Hid (renC zero one next [c0, c1, c2, c3] = [min (numZ zero one next c0) (numZ zero one next c1), max (numZ zero one next c0) (numZ zero one next c1), c2, c3]) := rfl
          rw [HRC.out] at HPut HNx
          simp only [List.getD_cons_zero, List.getD_cons_succ] at HPut
          generalize numZ zero one next c0 = z0 at *
          generalize numZ zero one next c1 = z1 at *
          clear hcon hc
          have HGb : Hid (w.heap.size + 1 ≠ g ∧ w.heap.size ≤ g) := by
            have h0 := OC.out
            unfold OwnsC at h0
            have := (World.ownsRow.lt h0 g rfl).1
            unfold Hid; omega
          have HMin : Hid ((if z1 < z0 then z1 else z0) = min z0 z1) := by unfold Hid; split <;> omega
          have HMax : Hid ((if z0 < z1 then z1 else z0) = max z0 z1) := by unfold Hid; split <;> omega
          have hLb := hL.alloc (by have := hL.size; omega) (.cells #[.int .i64 c0, .int .i64 c1, .int .i64 c2, .int .i64 c3] 69)
          have HN2 := Lib.hid (HN.out.keep hbx)
          clear hbx
          go_wp2_with fail
          go_region
          all_goals (go_wp2_with fail)
          all_goals (have HW : wrap64 ((k : Int) + 1) = ((k + 1 : Nat) : Int) := by rw [IntWalk.wrap64_in _ (by have := H12.out; omega)]; omega)
          all_goals (rw [HW, HMin.out, HMax.out])
          all_goals (refine ⟨⟨k + 1, HKs.out, rfl, ?_, ?_, ?_⟩, HMs.out⟩)
          all_goals first
            | exact ((((hLb.setCell (p := ⟨g, k * 4, none⟩) HGb.out.2 _).setCell (p := ⟨g, k * 4 + 1, none⟩) HGb.out.2 _).setCell (p := ⟨g, k * 4 + 2, none⟩) HGb.out.2 _).setCell (p := ⟨g, k * 4 + 3, none⟩) HGb.out.2 _).drew
            | exact N8.drew ((((HN2.out.far ⟨g, k * 4, none⟩ _ HGb.out.1).far ⟨g, k * 4 + 1, none⟩ _ HGb.out.1).far ⟨g, k * 4 + 2, none⟩ _ HGb.out.1).far ⟨g, k * 4 + 3, none⟩ _ HGb.out.1)
            | (rw [← HNx.out]; exact OwnsC.drewC (HPut.out _ OC2.out))
        · have e : k = xss.length := by omega
          rw [e, renTo_all] at OC
          have hi2 : ¬ (k : Int) < (xss.length : Int) := by omega
          go_wp2_with fail
          go_ret
          exact ⟨_, rfl, OC.out.monoC (by omega), hL⟩

end Go.Proofs.Ytnmjdphibphpnaa
