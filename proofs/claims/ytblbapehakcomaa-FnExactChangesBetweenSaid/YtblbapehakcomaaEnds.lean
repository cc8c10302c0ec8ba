/- The steady states that are reached: the program's and the model's. -/
import Derived.Test.YtblbapehakcomaaDelQ
namespace Go.Proofs.Ytblbapehakcomaa
open Go.RowKit
set_option linter.unusedVariables false

theorem sliceNilQ (a : Addr) (n ca : Nat) (w : World) : (binOp .eql 76 (.slice (some a) n ca) (.slice none 0 0)).run Try.prog w = .ok (.bool false) w := by kernel_rfl
theorem addr_addQ (b off i : Nat) : (⟨b, off, none⟩ : Addr).add i = ⟨b, off + i, none⟩ := by
  unfold Addr.add; split
  · rename_i h; subst h; rfl
  · rfl

set_option maxRecDepth 100000 in
set_option maxHeartbeats 1000000 in
theorem cloneQ_any (v : Value) (i : Int) (ss : List Nat) (w : World) (ha : ReadsQ w v i ss) (h1 : 1 ≤ ss.length) (hm : ss.length ≤ 1000) :
    Calls Try.prog 100 #[v] w fun e w' => ∃ u, e = .returned u ∧ OwnsQ w' w.heap.size u i ss ∧ Below w.heap.size w w' := by
  obtain ⟨i0, hi, hz0, hz1, hz2⟩ := info_parts infoSit
  obtain ⟨a, ca, rfl, _, hc⟩ := ha
  rcases hc with rfl | ⟨b, rfl, hc⟩
  · simp at h1
  have oo : OwnsQ (w.alloc (.cells #[] 68)) w.heap.size (.slice (some ⟨w.heap.size, 0, none⟩) 0 0) i [] :=
    World.ownsRow_made (base := w.heap.size) (e := 68) (size := 2) w #[] 0 (by simp) (by simp) rfl
  have HNews : Hid (∀ j u, (cellsQ i ss)[j]? = some u → (w.alloc (.cells #[] 68)).cell? ((⟨b, 0, none⟩ : Addr).add j) = some u) := fun j u hj => by
    have hjl : j < ss.length * 2 := by
      rcases Nat.lt_or_ge j (ss.length * 2) with h | h
      · exact h
      · rw [List.getElem?_eq_none (by rw [cellsQ_len]; exact h)] at hj; cases hj
    have hb := (Below.refl w.heap.size w).alloc (Nat.le_refl _) (.cells #[] 68)
    have h2 := hc (j / 2) (by omega)
    have h3 := cellsQ_at i ss (j / 2) (by omega)
    rw [addr_addQ, Nat.zero_add]
    have hq : j % 2 = 0 ∨ j % 2 = 1 := by omega
    rcases hq with h | h
    · have e : j = j / 2 * 2 := by omega
      rw [e] at hj ⊢
      rw [h3.1] at hj
      rw [cell_later hb h2.1]; exact hj
    · have e : j = j / 2 * 2 + 1 := by omega
      rw [e] at hj ⊢
      rw [h3.2] at hj
      rw [cell_later hb h2.2]; exact hj
  have HOne : Hid (∀ u ∈ cellsQ i ss, u.oneCell' = true) := fun u hu => by
    obtain ⟨s, _, hs⟩ := List.mem_flatMap.1 hu
    simp at hs
    rcases hs with rfl | rfl <;> rfl
  have HLen : Hid ((cellsQ i ss).length = ss.length * 2) := cellsQ_len i ss
  clear hc
  have HM : Hid (ss.length ≤ 1000) := hm
  generalize hn : ss.length = n at *
  have HN := Lib.hid hn
  clear hm hn h1
  have hsn := fun w => sliceNilQ ⟨b, 0, none⟩ n ca w
  go_enter Try.func100, Try.ntmps100
  go_wp2_with (at_builtin; refine wpList_append_own_at _ rfl _ _ 76 rfl w.heap.size 68 i0 (.agg #[.int .i64 0, .int .i64 0]) 2 16 Try.underlying76 hi hz0 hz1 hz2 rfl (by decide) (.slice (some ⟨w.heap.size, 0, none⟩) 0 0) 0 [] rfl oo ⟨b, 0, none⟩ n ca (cellsQ i ss) rfl HLen.out HNews.out HOne.out (by have := HM.out; unfold maxLen; omega) (by have := HM.out; omega) (by simp) ?_; intro v1 w2 hown1 hgrow1 hnil1 hat1; have gB : Below w.heap.size w w2 := ((Below.refl _ w).alloc (Nat.le_refl _) _).grown hgrow1 (by simp) (OwnsQ.rowsFrom oo (Nat.le_refl _)); have gO : OwnsQ w2 w.heap.size v1 i ss := (by have h := hown1; rw [Nat.zero_add, List.nil_append, ← HN.out] at h; exact h))
  go_ret
  exact ⟨_, rfl, gO, gB⟩

theorem OwnsQ.form {w : World} {base : Nat} {v : Value} {i : Int} {ss : List Nat} (h : OwnsQ w base v i ss) (h1 : 1 ≤ ss.length) : ∃ g cap, v = .slice (some ⟨g, 0, none⟩) ss.length cap ∧ base ≤ g ∧ ss.length ≤ cap ∧ cap ≤ maxLen ∧ SitB w g ss.length i (fun k => ((ss.getD k 0 : Nat) : Int)) := by
  have h' := h
  rcases h.2 with ⟨_, h0⟩ | ⟨g, cap, cur, rfl, hb, hg, hc, hm, _⟩
  · omega
  · refine ⟨g, cap, rfl, hb, hc, hm, (World.ownsRow.lt h' g rfl).2, fun j hj => ?_⟩
    have e := cellsQ_at i ss j hj
    exact ⟨by rw [World.ownsRow.cellAt h' (j * 2) (by omega)]; exact e.1, by rw [World.ownsRow.cellAt h' (j * 2 + 1) (by omega)]; exact e.2, World.ownsRow.frozenAt h' _, World.ownsRow.frozenAt h' _⟩

/-- those that are kept, as numbers -/
theorem keptTo_filter (p : Int → Bool) (ss : List Nat) (k : Nat) (hk : k ≤ ss.length) : keptTo p (fun j => ((ss.getD j 0 : Nat) : Int)) k = intsN ((ss.take k).filter fun s => !(p (s : Int))) := by
  induction k with
  | zero => simp [keptTo, intsN]
  | succ k ih =>
    have hlt : k < ss.length := by omega
    simp only [keptTo]
    rw [ih (by omega), List.take_succ_eq_append_getElem hlt, List.filter_append]
    have e : ss.getD k 0 = ss[k] := by rw [List.getD_eq_getElem?_getD, List.getElem?_eq_getElem hlt]; rfl
    rw [e]
    cases hp : p (ss[k] : Int)
    · simp [hp, intsN]
    · simp [hp, intsN]

/-- the steady ones among those that are reached -/
def endsL (p : Int) (xs : List Int) (i : Int) (s : Nat) : List Nat := (rchL p xs i s).filter fun x => aimZ p xs i (x : Int) == (x : Int)

theorem C2.lowQ {w w' : World} {b B : Nat} {x y : Value} (h : C2 w b x y) (hb : Below B w w') (hB : b < B) : C2 w' b x y := by
  obtain ⟨h0, h1, f0, f1, hz⟩ := h
  have e := hb.block b hB
  have := hb.size
  exact ⟨(World.cell?_of_block (w := w) e).trans h0, (World.cell?_of_block (w := w) e).trans h1, (World.frozen?_of_block (w := w) e).trans f0, (World.frozen?_of_block (w := w) e).trans f1, by omega⟩

theorem moves_any (p i : Int) (bx : Nat) (x : Nat) (v : Value) (xs : List Int) (w : World) (ha : Reads w v xs) (hc : cirB p xs = true) (hi : inB i p = true) (hx : x < 2 ^ xs.length) (kx : C2 w bx (.int .i64 p) v) :
    Calls Try.prog 98 #[.agg #[.int .i64 i, .int .i64 (x : Int)], .pointer (some ⟨bx, 0, none⟩)] w fun e w' => e = .returned (.bool (!(aimZ p xs i (x : Int) == (x : Int)))) ∧ Below w.heap.size w w' := by
  have hin : inB (x : Int) xs.length = true := by unfold inB rcZ; rw [Int.toNat_natCast]; exact decide_eq_true (by omega)
  have HS := Lib.hid (fun w' (h : Below w.heap.size w w') => isSteady_any p i (x : Int) v xs w' (ha.keep h) hc hi hin)
  obtain ⟨a, ca, rfl, hm, _⟩ := ha
  have k0 := kx.alloc (.cells #[.int .i64 i, .int .i64 (x : Int)] 68)
  clear hc hi hx hin
  generalize (aimZ p xs i (x : Int) == (x : Int)) = b at *
  generalize xs.length = n at *
  go_enter Try.func98, Try.ntmps98
  go_wp2_with (go_at_call 95; (with_reducible refine (HS.out _ (by go_grown)).mono ?_); rintro e w' ⟨rfl, hb⟩; have hL := chain (B := w.heap.size) (a := w) (by go_grown) (Nat.le_refl _) hb; clear hb)
  go_ret
  exact ⟨rfl, hL⟩

set_option maxRecDepth 100000 in
set_option maxHeartbeats 1000000 in
theorem endsAmong_any (p i : Int) (s : Nat) (v vl : Value) (xs : List Int) (w : World) (ha : Reads w v xs) (hc : cirB p xs = true) (hi : inB i p = true) (hs : s < 2 ^ xs.length) (hl : ReadsQ w vl i (rchL p xs i s)) :
    Calls Try.prog 71 #[.agg #[.int .i64 p, v], vl] w fun e w' => ∃ u, e = .returned u ∧ Owns w' w.heap.size u (ascL (intsN (endsL p xs i s))) ∧ Below w.heap.size w w' := by
  have hM16 := pow_le16 (cirB_out hc).2.1.2
  have hlen := rchL_len (p := p) (xs := xs) (i := i) hs
  have h1 : 1 ≤ (rchL p xs i s).length := by
    have h := reach_start (stepsN p xs i) (2 ^ xs.length) s
    exact List.length_pos_of_mem h
  have hlt := rchL_lt (p := p) (xs := xs) (i := i) hs
  have HEnd : Hid (intsN (endsL p xs i s) = keptTo (fun x => !(aimZ p xs i x == x)) (fun j => (((rchL p xs i s).getD j 0 : Nat) : Int)) (rchL p xs i s).length) := by
    rw [Hid, keptTo_filter _ _ _ (Nat.le_refl _), List.take_length]
    simp [endsL]
  have hel : (endsL p xs i s).length ≤ 1000 := by
    have := List.length_filter_le (fun (x : Nat) => aimZ p xs i (x : Int) == (x : Int)) (rchL p xs i s)
    unfold endsL; omega
  have HCl := Lib.hid (fun w' (h : Below w.heap.size w w') => cloneQ_any vl i (rchL p xs i s) w' (hl.keep h) h1 (by omega))
  have HMv := Lib.hid (fun (bx x : Nat) w' (h : Below w.heap.size w w') (hx : x < 2 ^ xs.length) (kx : C2 w' bx (.int .i64 p) v) => moves_any p i bx x v xs w' (ha.keep h) hc hi hx kx)
  have HSt := Lib.hid (fun (u : Value) (w' : World) (h : ReadsQ w' u i (endsL p xs i s)) => statesOf_any u i (endsL p xs i s) w' h hel)
  have HEL : Hid ((endsL p xs i s).length = (keptTo (fun x => !(aimZ p xs i x == x)) (fun j => (((rchL p xs i s).getD j 0 : Nat) : Int)) (rchL p xs i s).length).length) := by
    rw [Hid, ← HEnd.out, intsN_len]
  obtain ⟨a, ca, rfl, hm, _⟩ := ha
  obtain ⟨la, lc, rfl, hm2, _⟩ := hl
  have k0 := C2.here w (.int .i64 p) (.slice a xs.length ca) 27
  have hL0 : Below w.heap.size w (w.alloc (.cells #[.int .i64 p, .slice a xs.length ca] 27)) := (Below.refl _ _).alloc (Nat.le_refl _) _
  have hz0 : (w.alloc (.cells #[.int .i64 p, .slice a xs.length ca] 27)).heap.size = w.heap.size + 1 := by simp
  have hEnt := enters_of Try.func98 (by kernel_rfl) rfl
  generalize hR : rchL p xs i s = R at *
  generalize hE : endsL p xs i s = E at *
  clear hc hi hs hE hR
  generalize xs.length = n at *
  go_enter Try.func71, Try.ntmps71
  go_wp2_with fail
  refine (HCl.out _ hL0).mono ?_
  rintro e w1 ⟨u, rfl, ou, hb⟩
  have hLx := chain (B := w.heap.size) (a := w) hL0 (Nat.le_refl _) hb
  replace k0 := keepAt hb k0
  obtain ⟨g, cap, rfl, hg, hc1, hc2, hSit⟩ := ou.form h1
  rw [hz0] at hg
  have HSit := Lib.hid hSit
  have HK0 := Lib.hid k0
  have hkz := k0.2.2.2.2
  have hs1 := hLx.size
  have HD := Lib.hid (deleteFuncQ_any i g R.length cap (fun k => ((R.getD k 0 : Nat) : Int)) 98 #[.pointer (some ⟨w.heap.size, 0, none⟩)] (fun x => !(aimZ p xs i x == x)) w1 (by omega) hc1 (by unfold maxLen at hc2; omega) hSit ⟨fun k wx hk hbx hgx => by
    have hx : R.getD k 0 < 2 ^ n := hlt _ (by rw [List.getD_eq_getElem?_getD, List.getElem?_eq_getElem hk]; exact List.getElem_mem hk)
    exact HMv.out w.heap.size (R.getD k 0) wx (hLx.trans (hbx.mono (by omega))) hx (C2.lowQ HK0.out hbx (by omega)), hEnt⟩)
  clear hb ou hSit k0 hEnt
  go_wp2_with fail
  refine HD.out.mono ?_
  rintro e w2 ⟨rfl, hS2, hb⟩
  have hL2 := hLx.trans (hb.mono (by omega))
  have hs2 := hb.size
  have hRQ : Hid (ReadsQ w2 (.slice (some ⟨g, 0, none⟩) E.length cap) i E) := by
    refine ⟨some ⟨g, 0, none⟩, cap, rfl, by unfold maxLen at *; omega, .inr ⟨g, rfl, fun k hk => ?_⟩⟩
    have h := hS2.2 k (by rw [← HEL.out]; exact hk)
    refine ⟨h.1, ?_⟩
    rw [h.2.1, ← HEnd.out]
    exact congrArg (fun z => some (Value.int .i64 z)) intsN_at
  rw [← HEL.out]
  clear hb hS2 HD
  go_wp2_with fail
  refine (HSt.out _ _ hRQ.out).mono ?_
  rintro e w3 ⟨u3, rfl, o3, hb⟩
  have hL3 := chain (B := w.heap.size) (a := w) hL2 (Nat.le_refl _) hb
  have hs3 := hL2.size
  clear hb
  go_wp2_with fail
  go_ret
  exact ⟨u3, rfl, o3.mono hs3, hL3⟩

end Go.Proofs.Ytblbapehakcomaa
