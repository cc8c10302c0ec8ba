/- impl.wiringOf of wires that are in order. -/
import Derived.Test.YtkdidplpnhokiaaCat
import Derived.Test.YtkdidplpnhokiaaIns
namespace Go.Proofs.Ytkdidplpnhokiaa
open Go.RowKit
set_option linter.unusedVariables false

/-- wires in order, each with its lesser terminal first -/
def WInOrder (L : List (List Int)) : Prop := (∀ i, i < L.length → (L.getD i []).length = 2 ∧ (L.getD i []).getD 0 0 < (L.getD i []).getD 1 0) ∧ ∀ i j, i < j → j < L.length → cmpL (L.getD i []) (L.getD j []) ≤ 0
theorem take_len {L : List (List Int)} {k : Nat} (h : k ≤ L.length) : (L.take k).length = k := by rw [List.length_take]; omega
theorem take_get {L : List (List Int)} {k i : Nat} (h : i < k) : (L.take k).getD i [] = L.getD i [] := by
  rw [List.getD_eq_getElem?_getD, List.getElem?_take_of_lt h, ← List.getD_eq_getElem?_getD]
theorem row_two {r : List Int} {x y : Int} (h : r.length = 2) (h0 : r.getD 0 0 = x) (h1 : r.getD 1 0 = y) : r = [x, y] := by
  match r, h with
  | [a, b], _ => simp at h0 h1; rw [h0, h1]
theorem ownTwo (w : World) (x y : Int) : Owns (w.alloc (.cells #[.int .i64 x, .int .i64 y] 2)) w.heap.size (.slice (some ⟨w.heap.size, 0, none⟩) 2 2) [x, y] :=
  World.ownsRow_lit (base := w.heap.size) (e := 2) (size := 1) w #[.int .i64 x, .int .i64 y] 2 (Nat.le_refl _) (by unfold maxLen; omega) rfl

set_option maxRecDepth 100000 in
set_option maxHeartbeats 4000000 in
theorem wiringOf_any (v1 v2 : Value) (xs : List Int) (L : List (List Int)) (w : World) (ha : Reads w v1 xs) (hb' : Reads2 w v2 L) (hs : SwOk xs) (h16 : L.length ≤ 17) (hL2 : WInOrder L) {z : Int} (hz : termZ xs xs.length = z) :
    Calls Try.prog 68 #[v1, v2] w fun e w' => ∃ u, e = .returned u ∧ OwnW w' w.heap.size w'.heap.size u z xs L ∧ Below w.heap.size w w' := by
  have hs5 := hs.1
  have HTC := Lib.hid (fun w' (h : Below w.heap.size w w') => terminalCount_any v1 xs w' (ha.keep h) hs hz)
  have HCL := Lib.hid (fun w' (h : Below w.heap.size w w') => cloneW_any v1 xs w' (ha.keep h) (by omega) (by omega))
  obtain ⟨a, ca, rfl, _, _⟩ := id ha
  obtain ⟨b', cb, rfl, hm2, _⟩ := id hb'
  unfold maxLen at hm2
  have HROW : Hid (∀ k, k < L.length → ∃ b off b2 off2 c2 x0 x1, b' = some ⟨b, off, none⟩ ∧ w.cell? ⟨b, off + k, none⟩ = some (.slice (some ⟨b2, off2, none⟩) 2 c2) ∧ w.cell? ⟨b2, off2, none⟩ = some (.int .i64 x0) ∧ w.cell? ⟨b2, off2 + 1, none⟩ = some (.int .i64 x1) ∧ x0 < x1 ∧ L.getD k [] = [x0, x1]) := fun k hk => by
    obtain ⟨b, off, u, rfl, hc, hu⟩ := hb'.cellW hk
    obtain ⟨hl, hlt⟩ := hL2.1 k hk
    generalize L.getD k [] = r at *
    obtain ⟨x0, x1, rfl⟩ : ∃ x0 x1, r = [x0, x1] := by
      match r, hl with
      | [x0, x1], _ => exact ⟨x0, x1, rfl⟩
    obtain ⟨a2, c2, rfl, hm, hr⟩ := hu
    rcases hr with h | ⟨b2, off2, rfl, hr⟩
    · cases h
    · exact ⟨b, off, b2, off2, c2, x0, x1, rfl, hc, by simpa using hr 0 (by simp), by simpa using hr 1 (by simp), by simpa using hlt, rfl⟩
  have HIO : Hid (∀ (B k : Nat) (v u : Value) (w0 w1 : World), k < L.length → Own2 w0 B w0.heap.size v (L.take k) → B ≤ w0.heap.size → Below w0.heap.size w0 w1 → Owns w1 w0.heap.size u (L.getD k []) → (v = .slice none 0 0 ∨ 0 < k) →
      Calls Try.prog 119 #[v, u, .func (.func 64) #[] #[]] w1 fun e w' => ∃ va vc, e = .returned (.slice va (k + 1) vc) ∧ Own2 w' B w'.heap.size (.slice va (k + 1) vc) (L.take (k + 1)) ∧ Below B w1 w') := fun B k v u w0 w1 hk hv hB hbb hu hvn => by
    have hlk : (L.take k).length = k := take_len (by omega)
    refine (inOrder_end B v u (L.take k) (L.getD k []) w0 w1 hv hB hbb hu (by omega) (fun i hi => by rw [hlk] at hi; rw [take_get hi]; exact (hL2.1 i (by omega)).1) (hL2.1 k hk).1 (fun i hi => by rw [hlk] at hi; rw [take_get hi]; exact hL2.2 i k hi hk) (by rw [hlk]; exact hvn)).mono ?_
    rintro e w' ⟨v', rfl, ho, hb⟩
    rw [← take_snoc hk] at ho
    obtain ⟨va, vc, e, _, _⟩ := id ho.reads
    rw [take_len (by omega)] at e
    subst e
    exact ⟨va, vc, rfl, ho, hb⟩
  have HEND : Hid (∀ k, k = L.length → L.take k = L) := fun k e => by rw [e, List.take_length]
  have hnn1 := hs5
  clear ha hb' hs hL2 hz
  generalize hmm : L.length = m at *
  have HM := Lib.hid hmm
  clear hmm
  generalize hnn : xs.length = n at *
  have HNN := Lib.hid hnn
  clear hnn
  have h4 := C3.here w (.int .i64 0) (.slice none 0 0) (.slice none 0 0) 28
  have hL := (Below.refl w.heap.size w).alloc (Nat.le_refl _) (.cells #[.int .i64 0, .slice none 0 0, .slice none 0 0] 28)
  go_enter Try.func68, Try.ntmps68
  go_wp2_with ((go_at_call 59; (with_reducible refine (HTC.out _ hL).mono ?_); rintro e w' ⟨rfl, rfl⟩))
  refine (HCL.out _ hL).mono ?_
  rintro e w2 ⟨u, rfl, ho, hb⟩
  have hL2 := chain (B := w.heap.size) (a := w) hL (Nat.le_refl _) hb
  have h42 := keepAt3 hb h4
  obtain ⟨ua, uc, rfl, _, _⟩ := id ho.reads
  rw [HNN.out] at ho ⊢
  have HSW : Hid (Owns w2 (w.heap.size + 1) (.slice ua n uc) xs) := by rw [World.size_alloc] at ho; exact ho
  have HSB : Hid (∀ q, (Value.slice ua n uc).ownBlock = some q → q < w2.heap.size) := fun q e => (World.ownsRow.lt ho q e).2
  have hzw := hb.size
  rw [World.size_alloc] at hzw
  have g0 := C3.here w2 (.int .i64 z) (.slice ua n uc) (.slice none 0 0) 28
  have hL3 := hL2.alloc hL2.size (.cells #[.int .i64 z, .slice ua n uc, .slice none 0 0] 28)
  have h43 := h42.alloc (.cells #[.int .i64 z, .slice ua n uc, .slice none 0 0] 28)
  have HSW3 := Lib.hid (World.ownsRow.alloc HSW.out (.cells #[.int .i64 z, .slice ua n uc, .slice none 0 0] 28))
  have hz3 : (w2.alloc (.cells #[.int .i64 z, .slice ua n uc, .slice none 0 0] 28)).heap.size = w2.heap.size + 1 := by simp
  clear ho hb h4 hL h42 hL2 HSW HTC HCL
  go_wp2_with fail
  generalize (w2.alloc (.cells #[.int .i64 z, .slice ua n uc, .slice none 0 0] 28)) = w3 at *
  generalize w2.heap.size = gx at *
  go_loopw [16] (fun c wr => ∃ k : Nat, k ≤ m ∧ c = .int .i64 (k : Int) ∧ Below w.heap.size w wr ∧ C3 wr w.heap.size (.int .i64 0) (.slice none 0 0) (.slice none 0 0) ∧ (∃ sl, C3 wr gx (.int .i64 z) (.slice ua n uc) sl ∧ (sl = .slice none 0 0 ∨ 0 < k) ∧ Hid (Own2 wr (gx + 1) wr.heap.size sl (L.take k))) ∧ Hid (Owns wr (w.heap.size + 1) (.slice ua n uc) xs)) (fun c _ => m - (intOf c).toNat)
  case atStart => exact ⟨0, Nat.zero_le _, rfl, hL3, h43, ⟨_, g0, .inl rfl, own2Nil _ _ _⟩, HSW3⟩
  case round =>
    clear hL3 h43 g0 HSW3
    obtain ⟨k, hk, rfl, hL, h4, ⟨sl, g0, hsl, HV⟩, HSW⟩ := hrel
    by_cases hlt : k < m
    · obtain ⟨b, off, b2, off2, c2, x0, x1, rfl, hcw, kw0, kw1, hx, hrow⟩ := HROW.out k (by have := HM.out; omega)
      have hcl := cell_later hL hcw
      have k0 := cell_later hL kw0
      have k1 := cell_later hL kw1
      clear hcw kw0 kw1
      have hi1 : (k : Int) < (m : Int) := by omega
      have hi0 : (0 : Int) ≤ (k : Int) := by omega
      go_wp2_with fail
      have hgz := g0.2.2
      have hgw : w.heap.size < gx := by omega
      have hb1 : Below wr.heap.size wr (wr.alloc (.cells #[.int .i64 x0, .int .i64 x1] 2)).drew := by go_grown
      have hO1 : Owns (wr.alloc (.cells #[.int .i64 x0, .int .i64 x1] 2)).drew wr.heap.size (.slice (some ⟨wr.heap.size, 0, none⟩) 2 2) (L.getD k []) := by rw [hrow]; exact World.ownsRow.drew (ownTwo wr x0 x1)
      have HCI := Lib.hid (HIO.out (gx + 1) k sl _ wr _ (by have := HM.out; omega) HV.out (by omega) hb1 hO1 hsl)
      have hL1 := chain (B := w.heap.size) (a := w) hL (Nat.le_refl _) hb1
      have h41 := h4.keep hb1
      have g01 := g0.keep hb1
      have HSW1 := Lib.hid (rowLater HSW.out hb1)
      clear hb1 hO1 hrow
      go_region
      go_wp2_with (go_at_call 119; (with_reducible refine (HCI.out).mono ?_); rintro e w5 ⟨va, vc, rfl, ho, hbx⟩; have hL5 := hL1.trans (hbx.mono (show w.heap.size ≤ gx + 1 by omega)); have h45 := h41.turn (hbx.block _ (by omega)) hbx.size; have g05 := g01.turn (hbx.block _ (by omega)) hbx.size; have HSW5 := Lib.hid (rowSame HSW1.out fun q _ e => hbx.block q (by have := HSB.out q e; omega)); have HV5 := Lib.hid ho; clear ho hbx)
      have HV6 : Hid (Own2 (w5.setCell ⟨gx, 2, none⟩ (.slice va (k + 1) vc)) (gx + 1) (w5.setCell ⟨gx, 2, none⟩ (.slice va (k + 1) vc)).heap.size (.slice va (k + 1) vc) (L.take (k + 1))) := by
        rw [World.size_setCell]
        exact HV5.out.same fun q hq _ _ => Below.heap_setCell _ _ _ q (by dsimp only; omega)
      have HSW6 := Lib.hid (rowSame HSW5.out (w' := w5.setCell ⟨gx, 2, none⟩ (.slice va (k + 1) vc)) fun q _ e => Below.heap_setCell _ _ _ q (by dsimp only; have := HSB.out q e; omega))
      exact ⟨⟨k + 1, by omega, by go_num, by go_grown, h45.set _ _ _ (by omega), ⟨_, g05.put2 _, .inr (by omega), HV6⟩, HSW6⟩, by simp [intOf]; omega⟩
    · have e : k = m := by omega
      have hT := HEND.out k (by have := HM.out; omega)
      rw [hT] at HV
      have hgz := g0.2.2
      have hgw : w.heap.size < gx := by omega
      obtain ⟨sa, sc, e2, _, _⟩ := id HV.out.reads
      rw [HM.out] at e2
      subst e2
      have hge : ¬ (k : Int) < (m : Int) := by omega
      clear hT hsl e
      go_wp2_with fail
      have k3 := h4.fill (.int .i64 z) (.slice ua n uc) (.slice sa m sc)
      have hLf : Below w.heap.size w (((wr.setCell ⟨w.heap.size, 0, none⟩ (.int .i64 z)).setCell ⟨w.heap.size, 1, none⟩ (.slice ua n uc)).setCell ⟨w.heap.size, 2, none⟩ (.slice sa m sc)) := by go_grown
      have hsz : (((wr.setCell ⟨w.heap.size, 0, none⟩ (.int .i64 z)).setCell ⟨w.heap.size, 1, none⟩ (.slice ua n uc)).setCell ⟨w.heap.size, 2, none⟩ (.slice sa m sc)).heap.size = wr.heap.size := by simp
      have hh : ∀ q, q ≠ w.heap.size → (((wr.setCell ⟨w.heap.size, 0, none⟩ (.int .i64 z)).setCell ⟨w.heap.size, 1, none⟩ (.slice ua n uc)).setCell ⟨w.heap.size, 2, none⟩ (.slice sa m sc)).heap[q]? = wr.heap[q]? := fun q hq => by
        rw [Below.heap_setCell _ _ _ q hq, Below.heap_setCell _ _ _ q hq, Below.heap_setCell _ _ _ q hq]
      have HVf := Lib.hid (HV.out.same (w' := ((wr.setCell ⟨w.heap.size, 0, none⟩ (.int .i64 z)).setCell ⟨w.heap.size, 1, none⟩ (.slice ua n uc)).setCell ⟨w.heap.size, 2, none⟩ (.slice sa m sc)) fun q hq _ _ => hh q (by omega))
      have HSf := Lib.hid (rowSame HSW.out (w' := ((wr.setCell ⟨w.heap.size, 0, none⟩ (.int .i64 z)).setCell ⟨w.heap.size, 1, none⟩ (.slice ua n uc)).setCell ⟨w.heap.size, 2, none⟩ (.slice sa m sc)) fun q hq _ => hh q (by omega))
      obtain ⟨⟨c0, c1, c2⟩, _⟩ := k3
      clear hh HV HSW g0 h4
      generalize (((wr.setCell ⟨w.heap.size, 0, none⟩ (.int .i64 z)).setCell ⟨w.heap.size, 1, none⟩ (.slice ua n uc)).setCell ⟨w.heap.size, 2, none⟩ (.slice sa m sc)) = wf at *
      refine bodyPost_ret (v := .agg #[.int .i64 z, .slice ua n uc, .slice sa m sc]) (by simp [results, Try.results68, go_sem, *]) rfl ?_
      refine ⟨_, rfl, ⟨ua, uc, sa, sc, gx, by rw [HNN.out, HM.out], by omega, by omega, ?_, ?_⟩, hLf⟩
      · rw [HNN.out]
        exact ⟨rowLow HSf.out (by omega), HSB.out⟩
      · rw [HM.out]
        exact HVf.out.mono (by omega) (by omega)

end Go.Proofs.Ytkdidplpnhokiaa
