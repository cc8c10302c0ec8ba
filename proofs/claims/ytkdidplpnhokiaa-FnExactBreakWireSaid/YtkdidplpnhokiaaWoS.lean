/- A wiring without one of its wires: the model's. -/
import Derived.Test.YtkdidplpnhokiaaCpS
namespace Go.Proofs.Ytkdidplpnhokiaa
open Go.RowKit
set_option linter.unusedVariables false

theorem step_append_any {P : Program} {w : World} {ops : Array Oper} {o : Oper} {a : Act} {K : Act → World → Prop} {Q : Exit → Act → World → Prop} {E : Prop} (hgd : o.guard = none) (s x : Operand) (t : TypeId)
    (ho : o.op = .call { callee := .builtin .append, args := #[s, x], argTypes := #[t, t] }) (v u : Value) (hs : a.eval s = v) (hx : a.eval x = u) (R : Value → World → Prop)
    (hr : ∃ v' w', (Builtin.append_ #[t, t] o.type #[v, u]).run P w = .ok v' w' ∧ R v' w') (h : ∀ v' w', R v' w' → K (a.put o.dst v') w') :
    if Region.wanted o (yielded ops a.tmps) = true then Oper.wp P o a w K Q else E := by
  have hw : Region.wanted o (yielded ops a.tmps) = true := by simp [Region.wanted, hgd]
  rw [if_pos hw]
  obtain ⟨v', w', hr, h2⟩ := hr
  unfold Oper.wp execOp
  simp only [ho, resolve, invoke, builtin, Sem.run_bind, Sem.run_pure, Result.andThen_ok, List.map_toArray, List.map_cons, List.map_nil, hs, hx, hr]
  exact h v' w' h2

theorem Rws.takeN {w : World} {X : Option Nat} {vs : List Value} {L : List (List Int)} (h : Rws w X vs L) (k : Nat) : Rws w X (vs.take k) (L.take k) :=
  ⟨by rw [List.length_take, List.length_take, h.1], fun i hi => by
    rw [List.length_take] at hi
    obtain ⟨v, e, r⟩ := h.2 i (by omega)
    refine ⟨v, by rw [List.getElem?_take_of_lt (by omega)]; exact e, ?_⟩
    rw [List.getD_eq_getElem?_getD, List.getElem?_take_of_lt (by omega), ← List.getD_eq_getElem?_getD]; exact r⟩
theorem Rws.dropN {w : World} {X : Option Nat} {vs : List Value} {L : List (List Int)} (h : Rws w X vs L) (k : Nat) : Rws w X (vs.drop k) (L.drop k) :=
  ⟨by rw [List.length_drop, List.length_drop, h.1], fun i hi => by
    rw [List.length_drop] at hi
    obtain ⟨v, e, r⟩ := h.2 (k + i) (by omega)
    refine ⟨v, by rw [List.getElem?_drop]; exact e, ?_⟩
    rw [List.getD_eq_getElem?_getD, List.getElem?_drop, ← List.getD_eq_getElem?_getD]; exact r⟩
/-- rows of any slice (nil let in) appended to a slice of the call's own -/
theorem ar_plus {w : World} {B n c : Nat} {u : Value} {L M : List (List Int)} {a : Option Addr} {vs ns : List Value} (h1 : w.ownsRow B 22 1 u L.length vs) (h3 : Rws w u.ownBlock ns M)
    (h4 : 0 < M.length → ∃ ad, a = some ad ∧ ∀ j x, ns[j]? = some x → w.cell? (ad.add j) = some x) (hn : M.length = n) (hl : L.length + M.length ≤ 1000000) (hB : B ≤ w.heap.size) :
    ∃ v' w', (Builtin.append_ #[23, 23] 23 #[u, .slice a n c]).run Try.prog w = .ok v' w' ∧ w'.ownsRow B 22 1 v' (L ++ M).length (vs ++ ns) ∧ w.grownBy w' u.ownBlock ∧ (v'.ownBlock = u.ownBlock ∨ v'.ownBlock = some w.heap.size) := by
  subst hn
  obtain ⟨i0, hi, hz0, hz1, hz2⟩ := info_parts infoRow
  by_cases h : M.length = 0
  · have e := List.length_eq_zero_iff.1 h
    subst e
    have e2 : ns = [] := List.length_eq_zero_iff.1 h3.1
    subst e2
    refine ⟨u, w, run_append_zero (P := Try.prog) (w := w) B _ _ 22 i0 1 Try.underlying23 hi u L.length vs h1 a c, by rw [List.append_nil, List.append_nil]; exact h1, ⟨rfl, rfl, rfl, Nat.le_refl _, fun _ _ _ => rfl⟩, .inl rfl⟩
  · obtain ⟨ad, rfl, h5⟩ := h4 (by omega)
    obtain ⟨v', w', hr, ho, hg, _, hat⟩ := run_append_own_at (P := Try.prog) (w := w) B 23 23 22 i0 (.slice none 0 0) 1 24 Try.underlying23 hi hz0 hz1 hz2 rfl (by decide) u L.length vs h1 ad M.length c ns (by rw [h3.1, Nat.mul_one]) h5 h3.one (by unfold maxLen; omega) (by omega) hB
    exact ⟨v', w', hr, by rw [List.length_append]; exact ho, hg, hat⟩

theorem Rws.new {w : World} {X Y : Option Nat} {vs : List Value} {L : List (List Int)} (h : Rws w X vs L) (hY : ∀ b, Y = some b → w.heap.size ≤ b) : Rws w Y vs L :=
  ⟨h.1, fun i hi => by
    obtain ⟨v, e, h2, b, off, c, e1, hX, c0, c1⟩ := h.2 i hi
    have hlt : b < w.heap.size := World.block_lt_of_cell? _ _ c0
    exact ⟨v, e, h2, b, off, c, e1, fun e => by have := hY b e; omega, c0, c1⟩⟩

theorem add_none (b off j : Nat) : (⟨b, off, none⟩ : Addr).add j = ⟨b, off + j, none⟩ := by
  unfold Addr.add; split
  · rename_i h; subst h; rfl
  · rfl
theorem wo_one {wt W : World} {B0 sa i sc c e : Nat} {Y : Nat → Prop} {vs : List Value} {yss : List (List Int)} (hV : wt.ownsRow B0 22 1 (.slice (some ⟨sa, 0, none⟩) yss.length sc) yss.length vs) (hR : Rws wt (some sa) vs yss)
    (hY : ∀ y, Y y → Rws wt (some y) vs yss) (hi : i < yss.length) (h16 : yss.length ≤ 16) (he : e = wt.heap.size) (hB : Below wt.heap.size wt W) (ho : W.ownsRow wt.heap.size 22 1 (.slice (some ⟨e, 0, none⟩) 0 0) 0 []) :
    ∃ v' w', (Builtin.append_ #[23, 23] 23 #[.slice (some ⟨e, 0, none⟩) 0 0, .slice (some ⟨sa, 0, none⟩) i c]).run Try.prog W = .ok v' w' ∧
     (Below wt.heap.size wt w' ∧ ∃ q, v'.ownBlock = some q ∧ w'.ownsRow wt.heap.size 22 1 v' i (vs.take i) ∧ Rws w' (some q) vs yss ∧ ∀ y, Y y → Rws w' (some y) vs yss) := by
  subst he
  have r1 : Rws W (some wt.heap.size) vs yss := (hR.new (Y := some wt.heap.size) (fun b h => by injection h with h; omega)).keep hB
  have hcell : ∀ j x, (vs.take i)[j]? = some x → W.cell? ((⟨sa, 0, none⟩ : Addr).add j) = some x := fun j x hx => by
    have hj : j < i := by
      obtain ⟨h1, _⟩ := List.getElem?_eq_some_iff.1 hx
      rw [List.length_take] at h1; omega
    rw [List.getElem?_take_of_lt hj] at hx
    rw [add_none, Nat.zero_add]
    refine cell_later hB ?_
    have := hV.cellAt (g := sa) j (by omega)
    rw [this]; exact hx
  obtain ⟨v', w', hr, h2, hg, hat⟩ := ar_plus (L := []) (vs := []) (c := c) ho (r1.takeN i) (fun _ => ⟨_, rfl, hcell⟩) (by rw [List.length_take, Nat.min_eq_left (by omega)]) (by simp only [List.length_take, List.length_nil]; omega) hB.size
  have hgo := hg
  rw [List.nil_append, List.nil_append, List.length_take, Nat.min_eq_left (by omega)] at h2
  have hne := (World.ownsRow.lt h2)
  refine ⟨v', w', hr, Below.grown hB hg hB.size (fun q e => by have e' : some wt.heap.size = some q := e; injection e' with e'; omega), ?_⟩
  have hex : ∃ q, v'.ownBlock = some q := by
    rcases hat with h | h
    · exact ⟨wt.heap.size, h⟩
    · exact ⟨_, h⟩
  obtain ⟨q, hq⟩ := hex
  refine ⟨q, hq, h2, ?_, fun y hy => ?_⟩
  · rw [← hq]; exact r1.grown hg hat
  · exact ((hY y hy).keep hB).turn r1 (fun b hb hn => hg.block b hb (Ne.symm hn))
theorem wo_two {wt W : World} {B0 sa i sc c n : Nat} {Y : Nat → Prop} {v1 : Value} {ad : Addr} {vs : List Value} {yss : List (List Int)} (hV : wt.ownsRow B0 22 1 (.slice (some ⟨sa, 0, none⟩) yss.length sc) yss.length vs)
    (hi : i < yss.length) (h16 : yss.length ≤ 16) (had : ad = ⟨sa, i + 1, none⟩ ∨ yss.length = i + 1) (hn : yss.length - (i + 1) = n)
    (hP : Below wt.heap.size wt W ∧ ∃ q, v1.ownBlock = some q ∧ W.ownsRow wt.heap.size 22 1 v1 i (vs.take i) ∧ Rws W (some q) vs yss ∧ ∀ y, Y y → Rws W (some y) vs yss) :
    ∃ v' w', (Builtin.append_ #[23, 23] 23 #[v1, .slice (some ad) n c]).run Try.prog W = .ok v' w' ∧
     (Below wt.heap.size wt w' ∧ ∃ q sc', v' = .slice (some ⟨q, 0, none⟩) (yss.eraseIdx i).length sc' ∧ w'.ownsRow wt.heap.size 22 1 v' (yss.eraseIdx i).length (vs.eraseIdx i) ∧ Rws w' (some q) (vs.eraseIdx i) (yss.eraseIdx i) ∧ ∀ y, Y y → Rws w' (some y) (vs.eraseIdx i) (yss.eraseIdx i)) := by
  subst hn
  obtain ⟨hB, q, hq, h1, hr1, hy1⟩ := hP
  have hcell : 0 < (yss.drop (i + 1)).length → ∃ ad', some ad = some ad' ∧ ∀ j x, (vs.drop (i + 1))[j]? = some x → W.cell? (ad'.add j) = some x := fun h => by
    rw [List.length_drop] at h
    rcases had with rfl | h'
    · refine ⟨_, rfl, fun j x hx => ?_⟩
      rw [List.getElem?_drop] at hx
      have hj : i + 1 + j < yss.length := by
        obtain ⟨h2, _⟩ := List.getElem?_eq_some_iff.1 hx
        have := hr1.1
        omega
      rw [add_none]
      refine cell_later hB ?_
      rw [hV.cellAt (g := sa) (i + 1 + j) (by omega)]; exact hx
    · omega
  have hl : (yss.take i).length = i := by rw [List.length_take]; omega
  obtain ⟨v', w', hr, h2, hg, hat⟩ := ar_plus (L := yss.take i) (M := yss.drop (i + 1)) (vs := vs.take i) (ns := vs.drop (i + 1)) (c := c) (by rw [hl]; exact h1) (by rw [hq]; exact hr1.dropN (i + 1)) hcell (by rw [List.length_drop]) (by rw [hl, List.length_drop]; omega) hB.size
  rw [← List.eraseIdx_eq_take_drop_succ, ← List.eraseIdx_eq_take_drop_succ] at h2
  have hE : Rws W (some q) (vs.eraseIdx i) (yss.eraseIdx i) := by
    rw [List.eraseIdx_eq_take_drop_succ, List.eraseIdx_eq_take_drop_succ]
    exact (hr1.takeN i).append (hr1.dropN (i + 1))
  have hEy : ∀ y, Y y → Rws W (some y) (vs.eraseIdx i) (yss.eraseIdx i) := fun y hy => by
    rw [List.eraseIdx_eq_take_drop_succ, List.eraseIdx_eq_take_drop_succ]
    exact ((hy1 y hy).takeN i).append ((hy1 y hy).dropN (i + 1))
  rw [hq] at hg hat
  have hqz := (World.ownsRow.lt h1 q hq)
  have hex : ∃ q', v'.ownBlock = some q' := by
    rcases hat with h | h
    · exact ⟨_, h⟩
    · exact ⟨_, h⟩
  obtain ⟨q', hq'⟩ := hex
  refine ⟨v', w', hr, Below.grown hB hg hB.size (fun k e => by injection e with e; omega), ?_⟩
  have hv : ∃ sc', v' = .slice (some ⟨q', 0, none⟩) (yss.eraseIdx i).length sc' := by
    rcases h2.2 with ⟨rfl, _⟩ | ⟨g, cap, cur, rfl, _⟩
    · simp [Value.ownBlock] at hq'
    · simp [Value.ownBlock] at hq'
      subst hq'
      exact ⟨cap, rfl⟩
  obtain ⟨sc', rfl⟩ := hv
  refine ⟨q', sc', rfl, h2, ?_, fun y hy => (hEy y hy).turn hE (fun b hb hn => hg.block b hb (Ne.symm hn))⟩
  rw [← hq']; exact hE.grown hg hat

theorem Rws.off {w w' : World} {X : Option Nat} {vs : List Value} {L : List (List Int)} (h : Rws w X vs L) (Y : Nat → Prop) (hy : ∀ y, Y y → Rws w (some y) vs L) (hh : ∀ b, ¬ Y b → b < w.heap.size → w'.heap[b]? = w.heap[b]?) : Rws w' X vs L :=
  ⟨h.1, fun i hi => by
    obtain ⟨v, e, h2, b, off, c, e1, hX, c0, c1⟩ := h.2 i hi
    have hlt : b < w.heap.size := World.block_lt_of_cell? _ _ c0
    have hB : ¬ Y b := fun hb => by
      obtain ⟨v', e', _, b', off', c', e1', hX', _, _⟩ := (hy b hb).2 i hi
      rw [e] at e'; injection e' with e'; subst e'
      rw [e1] at e1'
      simp only [Value.slice.injEq, Option.some.injEq, Addr.mk.injEq] at e1'
      obtain ⟨⟨rfl, _, _⟩, _⟩ := e1'
      exact hX' rfl
    refine ⟨v, e, h2, b, off, c, e1, hX, ?_, ?_⟩
    · rw [← c0]; exact World.cell?_of_block (w := w) (hh b hB hlt)
    · rw [← c1]; exact World.cell?_of_block (w := w) (hh b hB hlt)⟩
theorem wo_end {wt w2 : World} {n0 g q m sc : Nat} {sw x y z p : Value} {n : Nat} {zs vs : List Value} {L : List (List Int)} (hs : wt.ownsRow (n0 + 2) 2 1 sw n zs) (hsg : ∀ k, sw.ownBlock = some k → k < g) (hg : g + 1 = wt.heap.size) (hB : Below wt.heap.size wt w2)
    (ho : w2.ownsRow wt.heap.size 22 1 (.slice (some ⟨q, 0, none⟩) m sc) m vs) (hr : Rws w2 (some q) vs L) (hy : ∀ y, (y < n0 + 2 ∨ y = g) → Rws w2 (some y) vs L) (hgz : n0 + 2 ≤ g) (wf : World)
    (hwf : wf = (((w2.setCell ⟨g, 2, none⟩ z).setCell ⟨n0 + 1, 0, none⟩ x).setCell ⟨n0 + 1, 1, none⟩ y).setCell ⟨n0 + 1, 2, none⟩ p) :
    wf.ownsRow n0 2 1 sw n zs ∧ wf.ownsRow n0 22 1 (.slice (some ⟨q, 0, none⟩) m sc) m vs ∧ Rws wf (some q) vs L ∧ ∀ y, y < n0 → Rws wf (some y) vs L := by
  have hk : ∀ b, b ≠ g → b ≠ n0 + 1 → wf.heap[b]? = w2.heap[b]? := fun b h1 h2 => by
    rw [hwf, Below.heap_setCell _ _ _ b h2, Below.heap_setCell _ _ _ b h2, Below.heap_setCell _ _ _ b h2, Below.heap_setCell _ _ _ b h1]
  have h1 := rowLater hs hB
  have hk2 : ∀ b, ¬ (b < n0 + 2 ∨ b = g) → b < w2.heap.size → wf.heap[b]? = w2.heap[b]? := fun b h _ => hk b (fun e => h (.inr e)) (fun e => h (.inl (by omega)))
  refine ⟨rowLow (rowSame h1 fun k _ e => hk k (fun e2 => by have := hsg k e; omega) (fun e2 => by have := (World.ownsRow.lt h1 k e).1; omega)) (by omega),
    rowLow (rowSame ho fun k _ e => hk k (fun e2 => by have := (World.ownsRow.lt ho k e).1; omega) (fun e2 => by have := (World.ownsRow.lt ho k e).1; omega)) (by omega), hr.off _ hy hk2, fun y h => (hy y (.inl (by omega))).off _ hy hk2⟩

set_option maxRecDepth 100000 in
set_option maxHeartbeats 4000000 in
theorem l10Without_any (v : Value) (p : Int) (xs : List Int) (yss : List (List Int)) (i : Nat) (w : World) (ha : ReadsW w v p xs yss) (hw : WirW p xs yss) (hi : i < yss.length) :
    Calls Try.prog 91 #[v, .int .i64 (i : Int)] w fun e w' => ∃ u, e = .returned u ∧ FarW w.heap.size w' u p xs (yss.eraseIdx i) ∧ Below w.heap.size w w' := by
  have hC := fun (w' : World) (h : Below w.heap.size w w') => l10Copy_any v p xs yss w' (ha.keep h) hw
  obtain ⟨a, ca, b', cb, rfl, hA, hB⟩ := ha
  have h16 := hw.2.2.1
  have hn5 := hw.1.1.2
  have HTW : Hid (∀ i, i < yss.length → (yss.getD i []).length = 2) := hw.two
  have HC := Lib.hid hC
  have h0 := C3.here w (.int .i64 p) (.slice a xs.length ca) (.slice b' yss.length cb) 28
  have k1 := C3.here (w.alloc (.cells #[.int .i64 p, .slice a xs.length ca, .slice b' yss.length cb] 28)) (.int .i64 0) (.slice none 0 0) (.slice none 0 0) 28
  rw [World.size_alloc] at k1
  have HE := Lib.hid (List.eraseIdx_eq_take_drop_succ yss i)
  clear hA hB hw hC
  go_enter Try.func91, Try.ntmps91
  go_wp2_with ((go_at_call 87; (with_reducible refine (HC.out _ (by go_grown)).mono ?_); rintro e wa ⟨u, rfl, ⟨ua, uc, sa, sc, vs, rfl, ho, hv, hr, hy⟩, hb⟩; have hLa := chain (B := w.heap.size) (a := w) (by go_grown) (Nat.le_refl _) hb; have h0a := keepAt3 hb (show C3 _ w.heap.size (.int .i64 p) (.slice a xs.length ca) (.slice b' yss.length cb) from by (repeat' (first | (with_reducible assumption) | (with_reducible refine C3.drewU ?_) | (with_reducible refine C3.alloc ?_ _)))); have k1a := keepAt3 hb (show C3 _ (w.heap.size + 1) (.int .i64 0) (.slice none 0 0) (.slice none 0 0) from by (repeat' (first | (with_reducible assumption) | (with_reducible refine C3.drewU ?_) | (with_reducible refine C3.alloc ?_ _)))); simp only [World.size_alloc] at ho hv hy hb; have HO := Lib.hid ho; have HV := Lib.hid hv; have HR := Lib.hid hr; have HY := Lib.hid hy; have hzb := hb.size; clear hb ho hv hr hy h0 k1))
  have g3 := C3.here wa (.int .i64 p) (.slice ua xs.length uc) (.slice (some ⟨sa, 0, none⟩) yss.length sc) 28
  have h0 := h0a.alloc (.cells #[.int .i64 p, .slice ua xs.length uc, .slice (some ⟨sa, 0, none⟩) yss.length sc] 28)
  have k1 := k1a.alloc (.cells #[.int .i64 p, .slice ua xs.length uc, .slice (some ⟨sa, 0, none⟩) yss.length sc] 28)
  have hBt : Below wa.heap.size wa (wa.alloc (.cells #[.int .i64 p, .slice ua xs.length uc, .slice (some ⟨sa, 0, none⟩) yss.length sc] 28)) := by go_grown
  have hLt : Below w.heap.size w (wa.alloc (.cells #[.int .i64 p, .slice ua xs.length uc, .slice (some ⟨sa, 0, none⟩) yss.length sc] 28)) := by go_grown
  have hzt : (wa.alloc (.cells #[.int .i64 p, .slice ua xs.length uc, .slice (some ⟨sa, 0, none⟩) yss.length sc] 28)).heap.size = wa.heap.size + 1 := by simp
  have HOt := Lib.hid (rowLater (show wa.ownsRow (w.heap.size + 2) _ _ _ _ _ from HO.out) hBt)
  have HVt := Lib.hid (rowLater HV.out hBt)
  have HRt := Lib.hid (HR.out.keep hBt)
  have HYt : Hid (∀ y, (y < w.heap.size + 2 ∨ y = wa.heap.size) → Rws (wa.alloc (.cells #[.int .i64 p, .slice ua xs.length uc, .slice (some ⟨sa, 0, none⟩) yss.length sc] 28)) (some y) vs yss) := fun y hy => by
    rcases hy with hy | rfl
    · exact (HY.out y (by simpa using hy)).keep hBt
    · exact (HR.out.new (fun b e => by injection e with e; omega)).keep hBt
  have HSG : Hid (∀ k, (Value.slice ua xs.length uc).ownBlock = some k → k < wa.heap.size) := fun k e => (World.ownsRow.lt (show wa.ownsRow _ _ _ _ _ _ from HO.out) k e).2
  clear HO HV HR HY h0a k1a hBt hLa HC
  generalize (wa.alloc (.cells #[.int .i64 p, .slice ua xs.length uc, .slice (some ⟨sa, 0, none⟩) yss.length sc] 28)) = wt at *
  generalize wa.heap.size = g at *
  have hcap : yss.length ≤ sc := by
    rcases HVt.out.2 with ⟨h, _⟩ | ⟨g', cap, cur, e, _, _, hc, _⟩
    · simp at h
    · simp only [Value.slice.injEq] at e; omega
  have e1 : (0 : Int) ≤ (i : Int) := by omega
  have e2 : (i : Int) ≤ (sc : Int) := by omega
  have e3 : (0 : Int) ≤ (i : Int) + 1 := by omega
  have e4 : (i : Int) + 1 ≤ (yss.length : Int) := by omega
  have e5 : (yss.length : Int) ≤ (sc : Int) := by omega
  have e6 : IntKind.i64.wrap ((i : Int) + 1) = (i : Int) + 1 := by
    have : (i : Int) < 16 := by omega
    simp [IntKind.wrap, IntKind.bits]
    omega
  have e7 : ¬ sc = 0 := by omega
  have e8 : ((i : Int) + 1).toNat = i + 1 := by omega
  have e10 : (i : Int) ≤ (i : Int) + 1 := by omega
  have HA1 : Hid (∀ W c, Below wt.heap.size wt W → W.ownsRow wt.heap.size 22 1 (.slice (some ⟨g + 1, 0, none⟩) 0 0) 0 [] → ∃ v' w', (Builtin.append_ #[23, 23] 23 #[.slice (some ⟨g + 1, 0, none⟩) 0 0, .slice (some ⟨sa, 0, none⟩) i c]).run Try.prog W = .ok v' w' ∧ (Below wt.heap.size wt w' ∧ ∃ q, v'.ownBlock = some q ∧ w'.ownsRow wt.heap.size 22 1 v' i (vs.take i) ∧ Rws w' (some q) vs yss ∧ ∀ y, (y < w.heap.size + 2 ∨ y = g) → Rws w' (some y) vs yss)) :=
    fun W c h1 h2 => wo_one HVt.out HRt.out HYt.out hi h16 hzt.symm h1 h2
  have HA2 : Hid (∀ W v1 ad c n, (ad = ⟨sa, i + 1, none⟩ ∨ yss.length = i + 1) → yss.length - (i + 1) = n → (Below wt.heap.size wt W ∧ ∃ q, v1.ownBlock = some q ∧ W.ownsRow wt.heap.size 22 1 v1 i (vs.take i) ∧ Rws W (some q) vs yss ∧ ∀ y, (y < w.heap.size + 2 ∨ y = g) → Rws W (some y) vs yss) → ∃ v' w', (Builtin.append_ #[23, 23] 23 #[v1, .slice (some ad) n c]).run Try.prog W = .ok v' w' ∧ (Below wt.heap.size wt w' ∧ ∃ q sc', v' = .slice (some ⟨q, 0, none⟩) (yss.eraseIdx i).length sc' ∧ w'.ownsRow wt.heap.size 22 1 v' (yss.eraseIdx i).length (vs.eraseIdx i) ∧ Rws w' (some q) (vs.eraseIdx i) (yss.eraseIdx i) ∧ ∀ y, (y < w.heap.size + 2 ∨ y = g) → Rws w' (some y) (vs.eraseIdx i) (yss.eraseIdx i))) :=
    fun W v1 ad c n h1 hn h2 => wo_two HVt.out hi h16 h1 hn h2
  have ownsNilR : (wt.alloc (.cells #[] 22)).drew.ownsRow wt.heap.size 22 1 (.slice (some ⟨g + 1, 0, none⟩) 0 0) 0 [] := World.ownsRow.drew (ownsNilG wt (by rw [hzt]) (Nat.le_refl _))
  have hgz : w.heap.size + 2 ≤ g := by simpa using hzb
  clear HE
  by_cases e9 : sc = i + 1
  · have E11 := Lib.hid (show yss.length = i + 1 by omega)
    subst e9
    go_region_law (first | (refine step_append_any (by rfl) _ _ 23 (by rfl) (.slice (some ⟨g + 1, 0, none⟩) 0 0) (.slice (some ⟨sa, 0, none⟩) i (i + 1)) (by rfl) (by rfl) _ (HA1.out _ _ (by go_grown) ownsNilR) ?_; intro v1 w1 hP1; have HP1 := Lib.hid hP1; have g31 := keepAt3 (b := g) (x := .int .i64 p) (y := .slice ua xs.length uc) (z := .slice (some ⟨sa, 0, none⟩) yss.length (i + 1)) hP1.1 g3; have h01 := h0.keep hP1.1; have k11 := k1.keep hP1.1; clear hP1) | (refine step_append_any (by rfl) _ _ 23 (by rfl) v1 (.slice (some ⟨sa, 0, none⟩) 0 0) (by rfl) (by rfl) _ (HA2.out _ _ _ _ _ (.inr E11.out) (by have := E11.out; omega) HP1.out) ?_; intro v2 w2 hP2; obtain ⟨hB2, q, sc', rfl, hown, hrq, hry⟩ := hP2; have HB2 := Lib.hid hB2; have HOWN := Lib.hid hown; have HRQ := Lib.hid hrq; have HRY := Lib.hid hry; have g32 := keepAt3 (b := g) (x := .int .i64 p) (y := .slice ua xs.length uc) (z := .slice (some ⟨sa, 0, none⟩) yss.length (i + 1)) hB2 g3; have h02 := h0.keep hB2; have k12 := k1.keep hB2; clear hB2 hown hrq hry))
    all_goals go_wp2_with fail
    all_goals
     have k2 := k12.set g 2 (.slice (some ⟨q, 0, none⟩) (yss.eraseIdx i).length sc') (by omega)
     have k3 := k2.fill (.int .i64 p) (.slice ua xs.length uc) (.slice (some ⟨q, 0, none⟩) (yss.eraseIdx i).length sc')
     have hF := Lib.hid (wo_end HOt.out HSG.out hzt.symm HB2.out HOWN.out HRQ.out HRY.out hgz _ rfl (x := .int .i64 p) (y := .slice ua xs.length uc) (z := .slice (some ⟨q, 0, none⟩) (yss.eraseIdx i).length sc') (p := .slice (some ⟨q, 0, none⟩) (yss.eraseIdx i).length sc'))
     have hBx : Below w.heap.size w w2 := chain (B := w.heap.size) (a := w) hLt (Nat.le_refl _) HB2.out
     have hLf : Below w.heap.size w ((((w2.setCell ⟨g, 2, none⟩ (.slice (some ⟨q, 0, none⟩) (yss.eraseIdx i).length sc')).setCell ⟨w.heap.size + 1, 0, none⟩ (.int .i64 p)).setCell ⟨w.heap.size + 1, 1, none⟩ (.slice ua xs.length uc)).setCell ⟨w.heap.size + 1, 2, none⟩ (.slice (some ⟨q, 0, none⟩) (yss.eraseIdx i).length sc')) := by go_grown
     clear HA1 HA2 HP1 HB2 HOWN HRQ HRY hBx k2 k12 h02 g32 h01 k11 g31 h0 k1 g3 HTW
     obtain ⟨⟨c0, c1, c2⟩, _⟩ := k3
     generalize ((((w2.setCell ⟨g, 2, none⟩ (.slice (some ⟨q, 0, none⟩) (yss.eraseIdx i).length sc')).setCell ⟨w.heap.size + 1, 0, none⟩ (.int .i64 p)).setCell ⟨w.heap.size + 1, 1, none⟩ (.slice ua xs.length uc)).setCell ⟨w.heap.size + 1, 2, none⟩ (.slice (some ⟨q, 0, none⟩) (yss.eraseIdx i).length sc')) = wf at *
     refine bodyPost_ret (v := .agg #[.int .i64 p, .slice ua xs.length uc, .slice (some ⟨q, 0, none⟩) (yss.eraseIdx i).length sc']) (by simp [results, Try.results91, go_sem, *]) rfl ?_
     exact ⟨_, rfl, ⟨ua, uc, q, sc', _, rfl, hF.out⟩, hLf⟩
  · go_region_law (first | (refine step_append_any (by rfl) _ _ 23 (by rfl) (.slice (some ⟨g + 1, 0, none⟩) 0 0) (.slice (some ⟨sa, 0, none⟩) i sc) (by rfl) (by rfl) _ (HA1.out _ _ (by go_grown) ownsNilR) ?_; intro v1 w1 hP1; have HP1 := Lib.hid hP1; have g31 := keepAt3 (b := g) (x := .int .i64 p) (y := .slice ua xs.length uc) (z := .slice (some ⟨sa, 0, none⟩) yss.length sc) hP1.1 g3; have h01 := h0.keep hP1.1; have k11 := k1.keep hP1.1; clear hP1) | (refine step_append_any (by rfl) _ _ 23 (by rfl) v1 (.slice (some ⟨sa, i + 1, none⟩) (yss.length - (i + 1)) (sc - (i + 1))) (by rfl) (by rfl) _ (HA2.out _ _ _ _ _ (.inl rfl) rfl HP1.out) ?_; intro v2 w2 hP2; obtain ⟨hB2, q, sc', rfl, hown, hrq, hry⟩ := hP2; have HB2 := Lib.hid hB2; have HOWN := Lib.hid hown; have HRQ := Lib.hid hrq; have HRY := Lib.hid hry; have g32 := keepAt3 (b := g) (x := .int .i64 p) (y := .slice ua xs.length uc) (z := .slice (some ⟨sa, 0, none⟩) yss.length sc) hB2 g3; have h02 := h0.keep hB2; have k12 := k1.keep hB2; clear hB2 hown hrq hry))
    all_goals go_wp2_with fail
    all_goals
     have k2 := k12.set g 2 (.slice (some ⟨q, 0, none⟩) (yss.eraseIdx i).length sc') (by omega)
     have k3 := k2.fill (.int .i64 p) (.slice ua xs.length uc) (.slice (some ⟨q, 0, none⟩) (yss.eraseIdx i).length sc')
     have hF := Lib.hid (wo_end HOt.out HSG.out hzt.symm HB2.out HOWN.out HRQ.out HRY.out hgz _ rfl (x := .int .i64 p) (y := .slice ua xs.length uc) (z := .slice (some ⟨q, 0, none⟩) (yss.eraseIdx i).length sc') (p := .slice (some ⟨q, 0, none⟩) (yss.eraseIdx i).length sc'))
     have hBx : Below w.heap.size w w2 := chain (B := w.heap.size) (a := w) hLt (Nat.le_refl _) HB2.out
     have hLf : Below w.heap.size w ((((w2.setCell ⟨g, 2, none⟩ (.slice (some ⟨q, 0, none⟩) (yss.eraseIdx i).length sc')).setCell ⟨w.heap.size + 1, 0, none⟩ (.int .i64 p)).setCell ⟨w.heap.size + 1, 1, none⟩ (.slice ua xs.length uc)).setCell ⟨w.heap.size + 1, 2, none⟩ (.slice (some ⟨q, 0, none⟩) (yss.eraseIdx i).length sc')) := by go_grown
     clear HA1 HA2 HP1 HB2 HOWN HRQ HRY hBx k2 k12 h02 g32 h01 k11 g31 h0 k1 g3 HTW
     obtain ⟨⟨c0, c1, c2⟩, _⟩ := k3
     generalize ((((w2.setCell ⟨g, 2, none⟩ (.slice (some ⟨q, 0, none⟩) (yss.eraseIdx i).length sc')).setCell ⟨w.heap.size + 1, 0, none⟩ (.int .i64 p)).setCell ⟨w.heap.size + 1, 1, none⟩ (.slice ua xs.length uc)).setCell ⟨w.heap.size + 1, 2, none⟩ (.slice (some ⟨q, 0, none⟩) (yss.eraseIdx i).length sc')) = wf at *
     refine bodyPost_ret (v := .agg #[.int .i64 p, .slice ua xs.length uc, .slice (some ⟨q, 0, none⟩) (yss.eraseIdx i).length sc']) (by simp [results, Try.results91, go_sem, *]) rfl ?_
     exact ⟨_, rfl, ⟨ua, uc, q, sc', _, rfl, hF.out⟩, hLf⟩

end Go.Proofs.Ytkdidplpnhokiaa
