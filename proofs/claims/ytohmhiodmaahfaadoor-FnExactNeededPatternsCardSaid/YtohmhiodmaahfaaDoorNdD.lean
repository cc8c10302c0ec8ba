/- slices.IndexFunc and slices.DeleteFunc at patterns. Written by tools/gen_ndd.py. -/
import Derived.Test.YtohmhiodmaahfaaDoorPrP
import Derived.Test.YtohmhiodmaahfaaDoorDelM
import Derived.Test.YtohmhiodmaahfaaDoorCo0
import Derived.LoopTactic
import Derived.Shelf.Abstract
import Derived.Lib.SliceRun
import Derived.Laws.IdiomCopy
namespace Go.Proofs.YtohmhiodmaahfaaDoor
open Go.RowKit
set_option linter.unusedVariables false

theorem sizeSetsP (b : Nat) : ∀ (vs : List Value) (o : Nat) (w : World), (w.setCells b o vs).heap.size = w.heap.size
  | [], _, _ => rfl
  | v :: r, o, w => by
    show ((w.setCell ⟨b, o, none⟩ v).setCells b (o + 1) r).heap.size = _
    rw [sizeSetsP b r (o + 1), World.size_setCell]
theorem belowSetsP {B b : Nat} (hb : B ≤ b) : ∀ (vs : List Value) (o : Nat) (a w : World), Below B a w → Below B a (w.setCells b o vs)
  | [], _, _, _, h => h
  | v :: r, o, a, w, h => belowSetsP hb r (o + 1) a _ (h.setCell (p := ⟨b, o, none⟩) hb v)
/-- block g holds n patterns, their names c 0, c 1 .., what a name stands for E, none frozen -/
def PatB (w : World) (g n : Nat) (E : Int → Nat → Int) (c : Nat → Int) : Prop := g < w.heap.size ∧ ∀ j, j < n → ∀ t, t < 5 → w.cell? ⟨g, j * 5 + t, none⟩ = some (.int .u8 (E (c j) t)) ∧ w.frozen? ⟨g, j * 5 + t, none⟩ = false
theorem PatB.keep {w w' : World} {g n : Nat} {E : Int → Nat → Int} {c : Nat → Int} (h : PatB w g n E c) (hb : Below w.heap.size w w') : PatB w' g n E c := by
  have := hb.size
  exact ⟨by have := h.1; omega, fun j hj t ht => ⟨(hb.cell (p := ⟨g, j * 5 + t, none⟩) h.1).trans (h.2 j hj t ht).1, (hb.frozen (p := ⟨g, j * 5 + t, none⟩) h.1).trans (h.2 j hj t ht).2⟩⟩
/-- a pattern written over the m-th of block g -/
abbrev set5 (w : World) (g m : Nat) (x : Nat → Int) : World := (((((w.setCell ⟨g, m * 5, none⟩ (.int .u8 (x 0))).setCell ⟨g, m * 5 + 1, none⟩ (.int .u8 (x 1))).setCell ⟨g, m * 5 + 2, none⟩ (.int .u8 (x 2))).setCell ⟨g, m * 5 + 3, none⟩ (.int .u8 (x 3))).setCell ⟨g, m * 5 + 4, none⟩ (.int .u8 (x 4)))
theorem set5_size (w : World) (g m : Nat) (x : Nat → Int) : (set5 w g m x).heap.size = w.heap.size := by simp only [World.size_setCell]
theorem set5_frozen (w : World) (g m : Nat) (x : Nat → Int) (a : Addr) : (set5 w g m x).frozen? a = w.frozen? a := by simp only [World.frozen?_setCell]
theorem adr_ne {g b o p : Nat} (h : b ≠ g ∨ o ≠ p) : (⟨g, p, none⟩ : Addr) ≠ ⟨b, o, none⟩ := by
  intro e; injection e with e1 e2; omega
theorem set5_other (w : World) (g m : Nat) (x : Nat → Int) (b o : Nat) (h : b ≠ g ∨ ∀ t, t < 5 → o ≠ m * 5 + t) : (set5 w g m x).cell? ⟨b, o, none⟩ = w.cell? ⟨b, o, none⟩ := by
  have k : ∀ t, t < 5 → b ≠ g ∨ o ≠ m * 5 + t := fun t ht => h.imp id (fun h => h t ht)
  have k0 := k 0 (by omega)
  rw [Nat.add_zero] at k0
  rw [World.cell?_setCell_other _ _ _ _ (adr_ne (k 4 (by omega))), World.cell?_setCell_other _ _ _ _ (adr_ne (k 3 (by omega))), World.cell?_setCell_other _ _ _ _ (adr_ne (k 2 (by omega))), World.cell?_setCell_other _ _ _ _ (adr_ne (k 1 (by omega))), World.cell?_setCell_other _ _ _ _ (adr_ne k0)]
theorem set5_same (w : World) (g m : Nat) (x : Nat → Int) (h : ∀ t, t < 5 → (w.cell? ⟨g, m * 5 + t, none⟩).isSome = true) (t : Nat) (ht : t < 5) : (set5 w g m x).cell? ⟨g, m * 5 + t, none⟩ = some (.int .u8 (x t)) := by
  have h0 := h 0 (by omega)
  have h1 := h 1 (by omega)
  have h2 := h 2 (by omega)
  have h3 := h 3 (by omega)
  have h4 := h 4 (by omega)
  rw [Nat.add_zero] at h0
  have o : ∀ (w : World) (p q : Nat) (v : Value), p ≠ q → (w.setCell ⟨g, p, none⟩ v).cell? ⟨g, q, none⟩ = w.cell? ⟨g, q, none⟩ := fun w p q v e => World.cell?_setCell_other _ _ _ _ (adr_ne (.inr (Ne.symm e)))
  rcases (show t = 0 ∨ t = 1 ∨ t = 2 ∨ t = 3 ∨ t = 4 by omega) with rfl | rfl | rfl | rfl | rfl
  · rw [Nat.add_zero, o _ _ _ _ (by omega), o _ _ _ _ (by omega), o _ _ _ _ (by omega), o _ _ _ _ (by omega), World.cell?_setCell_same' _ _ _ h0]
  · rw [o _ _ _ _ (by omega), o _ _ _ _ (by omega), o _ _ _ _ (by omega), World.cell?_setCell_same' _ _ _ (by rw [o _ _ _ _ (by omega)]; exact h1)]
  · rw [o _ _ _ _ (by omega), o _ _ _ _ (by omega), World.cell?_setCell_same' _ _ _ (by rw [o _ _ _ _ (by omega), o _ _ _ _ (by omega)]; exact h2)]
  · rw [o _ _ _ _ (by omega), World.cell?_setCell_same' _ _ _ (by rw [o _ _ _ _ (by omega), o _ _ _ _ (by omega), o _ _ _ _ (by omega)]; exact h3)]
  · rw [World.cell?_setCell_same' _ _ _ (by rw [o _ _ _ _ (by omega), o _ _ _ _ (by omega), o _ _ _ _ (by omega), o _ _ _ _ (by omega)]; exact h4)]
theorem PatB.set {w : World} {g n : Nat} {E : Int → Nat → Int} {c c' : Nat → Int} (h : PatB w g n E c) (m : Nat) (v : Int) (h1 : c' m = v) (h2 : ∀ j, j ≠ m → c' j = c j) (hm : m < n) : PatB (set5 w g m (E v)) g n E c' := by
  refine ⟨by rw [set5_size]; exact h.1, fun j hj t ht => ⟨?_, by rw [set5_frozen]; exact (h.2 j hj t ht).2⟩⟩
  by_cases e : j = m
  · subst e
    rw [h1]
    exact set5_same w g j (E v) (fun t ht => by rw [(h.2 j hj t ht).1]; rfl) t ht
  · rw [h2 j e, set5_other _ _ _ _ _ _ (.inr (fun s hs => by omega))]
    exact (h.2 j hj t ht).1
theorem PatB.congr {w : World} {g n : Nat} {E : Int → Nat → Int} {c c' : Nat → Int} (h : PatB w g n E c) (he : ∀ j, j < n → c' j = c j) : PatB w g n E c' := ⟨h.1, fun j hj => by rw [he j hj]; exact h.2 j hj⟩
theorem PatB.sets {w : World} {g n m : Nat} {E : Int → Nat → Int} {c : Nat → Int} (h : PatB w g n E c) (hm : m ≤ n) (vs : List Value) : PatB (w.setCells g (m * 5) vs) g m E c := by
  refine ⟨by rw [sizeSetsP]; exact h.1, fun j hj t ht => ⟨?_, ?_⟩⟩
  · rw [World.cell?_setCells_out g vs (m * 5) w ⟨g, j * 5 + t, none⟩ (fun _ _ => .inl (by show j * 5 + t < m * 5; omega))]; exact (h.2 j (by omega) t ht).1
  · rw [World.frozen?_setCells]; exact (h.2 j (by omega) t ht).2

theorem zeroPat (w : World) : (zeroValue 62).run Tryd.prog w = .ok (.agg #[.int .u8 0, .int .u8 0, .int .u8 0, .int .u8 0, .int .u8 0]) w := by kernel_rfl
theorem run_clear_pat (w : World) (b o n c : Nat) (hn : 0 < n) (hc : ∀ j, j < n * 5 → (w.cell? ⟨b, o + j, none⟩).isSome = true ∧ w.frozen? ⟨b, o + j, none⟩ = false) :
    ∃ vs, ∀ ty, (Builtin.clear_ #[71] ty #[.slice (some ⟨b, o, none⟩) n c]).run Tryd.prog w = .ok (.tuple #[]) (w.setCells b o vs) := by
  have hl : (Builtin.zeroCells (Value.agg #[.int .u8 0, .int .u8 0, .int .u8 0, .int .u8 0, .int .u8 0]).cells n).toList.length = n * 5 := by simp [Builtin.zeroCells, Value.cells]
  have ho : ∀ v ∈ (Builtin.zeroCells (Value.agg #[.int .u8 0, .int .u8 0, .int .u8 0, .int .u8 0, .int .u8 0]).cells n).toList, v.oneCell' = true := by
    intro v hv
    obtain ⟨j, hj, rfl⟩ := List.getElem_of_mem hv
    have h2 : j % 5 = 0 ∨ j % 5 = 1 ∨ j % 5 = 2 ∨ j % 5 = 3 ∨ j % 5 = 4 := by omega
    rcases h2 with h | h | h | h | h <;> simp [Builtin.zeroCells, Value.cells, h, Value.oneCell']
  refine ⟨(Builtin.zeroCells (Value.agg #[.int .u8 0, .int .u8 0, .int .u8 0, .int .u8 0, .int .u8 0]).cells n).toList, fun ty => ?_⟩
  have hst := run_storeCells_cells (P := Tryd.prog) b o (Builtin.zeroCells (Value.agg #[.int .u8 0, .int .u8 0, .int .u8 0, .int .u8 0, .int .u8 0]).cells n).toList 0 w (fun j hj => by rw [Nat.add_zero]; exact (hc j (by omega)).1) (fun j hj => by rw [Nat.add_zero]; exact (hc j (by omega)).2) ho
  simp only [Nat.add_zero] at hst
  obtain ⟨m, rfl⟩ : ∃ m, n = m + 1 := ⟨n - 1, by omega⟩
  simp [Builtin.clear_, run_underlying Tryd.underlying71, hst]

/-- what a predicate on patterns does in any world in which Q holds, and what keeps Q -/
def PredP (E : Int → Nat → Int) (F : Nat) (caps : Array Value) (p : Int → Bool) (f : Nat → Int) (n g : Nat) (Q : World → Prop) : Prop :=
  (∀ (k : Nat) (wx : World), k < n → Q wx → Calls Tryd.prog F (#[.agg #[.int .u8 (E (f k) 0), .int .u8 (E (f k) 1), .int .u8 (E (f k) 2), .int .u8 (E (f k) 3), .int .u8 (E (f k) 4)]] ++ caps) wx fun e w' => e = .returned (.bool (p (f k))) ∧ Below wx.heap.size wx w') ∧
  (∀ (args : Array Value) (w : World), (callFunc F args).run Tryd.prog w = .ok (.enter F args) w) ∧
  (∀ w w' : World, Q w → Below w.heap.size w w' → Q w') ∧ (∀ (w : World) (m : Nat) (x : Nat → Int), Q w → Q (set5 w g m x))

set_option maxRecDepth 100000 in
set_option maxHeartbeats 1000000 in
theorem indexFuncP_any (E : Int → Nat → Int) (g n cap : Nat) (f : Nat → Int) (F : Nat) (caps : Array Value) (p : Int → Bool) (j : Nat) (Q : World → Prop) (w : World) (hn : n ≤ 1048576) (ha : PatB w g n E f) (hq : Q w)
    (hj : j ≤ n) (hno : ∀ i, i < j → p (f i) = false) (hyes : j < n → p (f j) = true)
    (hp : PredP E F caps p f n g Q) {r : Int} (hr : (if j < n then (j : Int) else -1) = r) :
    Calls Tryd.prog 79 #[.slice (some ⟨g, 0, none⟩) n cap, .func (.func F) #[] caps] w fun e w' => e = .returned (.int .i64 r) ∧ Below w.heap.size w w' := by
  obtain ⟨hf, hE, hQ, _⟩ := hp
  have Ha : Hid (∀ i, i < n → ∀ t, t < 5 → w.cell? ⟨g, i * 5 + t, none⟩ = some (.int .u8 (E (f i) t))) := fun i hi t ht => (ha.2 i hi t ht).1
  have Hf := Lib.hid hf
  have HQ : Hid (∀ w', Below w.heap.size w w' → Q w') := fun w' hb => hQ _ _ hq hb
  have Hno := Lib.hid hno
  have Hyes := Lib.hid hyes
  have Hr := Lib.hid hr
  have hn63 : n ≤ 9223372036854775807 := by omega
  clear ha hf hno hyes hr hQ hq
  go_enter Tryd.func79, Tryd.ntmps79
  go_wp2_with fail
  go_loopw [8] (fun c wr => ∃ k : Nat, k ≤ j ∧ c = .int .i64 (k : Int) ∧ Below w.heap.size w wr) (fun c _ => n - (intOf c).toNat)
  case atStart => exact ⟨0, Nat.zero_le _, rfl, Below.refl _ _⟩
  case round =>
    obtain ⟨k, hk, rfl, hL⟩ := hrel
    by_cases hlt : k < n
    · have hca0 := cell_later hL (Ha.out k hlt 0 (by omega))
      have hca1 := cell_later hL (Ha.out k hlt 1 (by omega))
      have hca2 := cell_later hL (Ha.out k hlt 2 (by omega))
      have hca3 := cell_later hL (Ha.out k hlt 3 (by omega))
      have hca4 := cell_later hL (Ha.out k hlt 4 (by omega))
      rw [Nat.add_zero] at hca0
      have hi1 : (k : Int) < (n : Int) := by omega
      have hi0 : (0 : Int) ≤ (k : Int) := by omega
      have hz := hL.size
      have HC : Hid (∀ b, p (f k) = b → Calls Tryd.prog F (#[.agg #[.int .u8 (E (f k) 0), .int .u8 (E (f k) 1), .int .u8 (E (f k) 2), .int .u8 (E (f k) 3), .int .u8 (E (f k) 4)]] ++ caps) wr fun e w' => e = .returned (.bool b) ∧ Below wr.heap.size wr w') := fun b hb => by
        have := Hf.out k wr hlt (HQ.out _ hL)
        rwa [hb] at this
      by_cases hkj : k < j
      · have HC2 := Lib.hid (HC.out false (Hno.out k hkj))
        clear HC
        generalize E (f k) 0 = x0 at *
        generalize E (f k) 1 = x1 at *
        generalize E (f k) 2 = x2 at *
        generalize E (f k) 3 = x3 at *
        generalize E (f k) 4 = x4 at *
        go_wp2_with ((with_reducible refine HC2.out.mono ?_); rintro e w' ⟨rfl, hb⟩; have hL := chain (B := w.heap.size) (a := w) hL (Nat.le_refl _) hb; clear hb)
        go_roundw
        case rel => exact ⟨k + 1, by omega, by go_num, hL⟩
        case measure => simp [intOf]; omega
      · have e : k = j := by omega
        subst e
        have HC2 := Lib.hid (HC.out true (Hyes.out hlt))
        have HR : Hid (r = (k : Int)) := by have := Hr.out; rw [if_pos hlt] at this; exact this.symm
        clear HC
        generalize E (f k) 0 = x0 at *
        generalize E (f k) 1 = x1 at *
        generalize E (f k) 2 = x2 at *
        generalize E (f k) 3 = x3 at *
        generalize E (f k) 4 = x4 at *
        go_wp2_with ((with_reducible refine HC2.out.mono ?_); rintro e w' ⟨rfl, hb⟩; have hL := chain (B := w.heap.size) (a := w) hL (Nat.le_refl _) hb; clear hb)
        go_ret
        exact ⟨by rw [HR.out]; rfl, hL⟩
    · have HR : Hid (r = -1) := by have := Hr.out; rw [if_neg (by omega)] at this; exact this.symm
      go_wp2_with fail
      go_ret
      exact ⟨by rw [HR.out]; rfl, hL⟩

set_option maxRecDepth 100000 in
set_option maxHeartbeats 2000000 in
theorem deleteFuncP_any (E : Int → Nat → Int) (g n cap : Nat) (f : Nat → Int) (F : Nat) (caps : Array Value) (p : Int → Bool) (Q : World → Prop) (w : World) (hn : n ≤ 1048576) (hcap : n ≤ cap) (hcap2 : cap ≤ 9223372036854775807) (ha : PatB w g n E f) (hq : Q w)
    (hp : PredP E F caps p f n g Q) :
    Calls Tryd.prog 54 #[.slice (some ⟨g, 0, none⟩) n cap, .func (.func F) #[] caps] w fun e w' => e = .returned (.slice (some ⟨g, 0, none⟩) (keptTo p f n).length cap) ∧ PatB w' g (keptTo p f n).length E (fun j => (keptTo p f n).getD j 0) ∧ Below g w w' := by
  obtain ⟨j, hj, hno, hyes⟩ := firstB (fun i => p (f i)) n
  have hgz := ha.1
  have hI : Hid (∀ {r : Int}, (if j < n then (j : Int) else -1) = r → Calls Tryd.prog 79 #[.slice (some ⟨g, 0, none⟩) n cap, .func (.func F) #[] caps] w fun e w' => e = .returned (.int .i64 r) ∧ Below w.heap.size w w') :=
    fun h => indexFuncP_any E g n cap f F caps p j Q w hn ha hq hj hno hyes hp h
  by_cases hlt : j < n
  · have HI := Lib.hid (hI.out (if_pos hlt))
    have HA := Lib.hid ha
    have HP := Lib.hid hp
    have HQ0 := Lib.hid hq
    have HK : Hid ((keptTo p f j).length = j) := by unfold Hid; rw [keptTo_all hno]; simp
    have HK1 : Hid (keptTo p f (j + 1) = keptTo p f j) := keptTo_skip (hyes hlt)
    have HB0 : Hid (∀ i, keepB p f (j + 1) i = f i) := fun i => by rw [keepB_skip (hyes hlt), keepB_first hno]
    have hj63 : (j : Int) + 1 ≤ 9223372036854775807 := by omega
    have hj0 : ((j : Int) == -1) = false := by rw [beq_eq_false_iff_ne]; omega
    clear hI hp hno hyes ha hq
    go_enter Tryd.func54, Tryd.ntmps54
    go_wp2_with fail
    refine HI.out.mono ?_
    rintro e w1 ⟨rfl, hL1⟩
    have hB1 := (HA.out.keep hL1).congr (c' := keepB p f (j + 1)) fun i _ => HB0.out i
    have HQ1 : Hid (Q w1) := HP.out.2.2.1 _ _ HQ0.out hL1
    have hL1g := hL1.mono (Nat.le_of_lt hgz)
    clear hL1
    go_wp2_with fail
    go_loopw [5, 6] (fun i c wr => ∃ k : Nat, k ≤ n ∧ j + 1 ≤ k ∧ c = .int .i64 (k : Int) ∧ i = .int .i64 ((keptTo p f k).length : Int) ∧ (keptTo p f k).length < k ∧ Below g w wr ∧ PatB wr g n E (keepB p f k) ∧ Hid (Q wr)) (fun _ c _ => n - (intOf c).toNat)
    case atStart => exact ⟨j + 1, by omega, Nat.le_refl _, by go_num, by rw [HK1.out, HK.out], by rw [HK1.out, HK.out]; omega, hL1g, hB1, HQ1⟩
    case round =>
      clear hB1 hL1g HQ1
      obtain ⟨k, hk, hjk, rfl, rfl, hlen, hL, hB, HQw⟩ := hrel
      by_cases hkn : k < n
      · have hca0 := (hB.2 k hkn 0 (by omega)).1
        have hca1 := (hB.2 k hkn 1 (by omega)).1
        have hca2 := (hB.2 k hkn 2 (by omega)).1
        have hca3 := (hB.2 k hkn 3 (by omega)).1
        have hca4 := (hB.2 k hkn 4 (by omega)).1
        rw [keepB_at] at hca0 hca1 hca2 hca3 hca4
        rw [Nat.add_zero] at hca0
        have hi1 : (k : Int) < (n : Int) := by omega
        have hi0 : (0 : Int) ≤ (k : Int) := by omega
        have hz0 := hB.1
        have hba : Below wr.heap.size wr (wr.alloc (.cells #[.int .u8 (E (f k) 0), .int .u8 (E (f k) 1), .int .u8 (E (f k) 2), .int .u8 (E (f k) 3), .int .u8 (E (f k) 4)] 62)) := (Below.refl _ _).alloc (Nat.le_refl _) _
        have hBa : PatB (wr.alloc (.cells #[.int .u8 (E (f k) 0), .int .u8 (E (f k) 1), .int .u8 (E (f k) 2), .int .u8 (E (f k) 3), .int .u8 (E (f k) 4)] 62)) g n E (keepB p f k) := hB.keep hba
        have HQa : Hid (Q (wr.alloc (.cells #[.int .u8 (E (f k) 0), .int .u8 (E (f k) 1), .int .u8 (E (f k) 2), .int .u8 (E (f k) 3), .int .u8 (E (f k) 4)] 62))) := HP.out.2.2.1 _ _ HQw.out hba
        have hLa : Below g w (wr.alloc (.cells #[.int .u8 (E (f k) 0), .int .u8 (E (f k) 1), .int .u8 (E (f k) 2), .int .u8 (E (f k) 3), .int .u8 (E (f k) 4)] 62)) := hL.alloc (by omega) _
        have hza : g < (wr.alloc (.cells #[.int .u8 (E (f k) 0), .int .u8 (E (f k) 1), .int .u8 (E (f k) 2), .int .u8 (E (f k) 3), .int .u8 (E (f k) 4)] 62)).heap.size := hBa.1
        have kba := C5.here wr (.int .u8 (E (f k) 0)) (.int .u8 (E (f k) 1)) (.int .u8 (E (f k) 2)) (.int .u8 (E (f k) 3)) (.int .u8 (E (f k) 4)) 62
        have HC : Hid (∀ b, p (f k) = b → Calls Tryd.prog F (#[.agg #[.int .u8 (E (f k) 0), .int .u8 (E (f k) 1), .int .u8 (E (f k) 2), .int .u8 (E (f k) 3), .int .u8 (E (f k) 4)]] ++ caps) (wr.alloc (.cells #[.int .u8 (E (f k) 0), .int .u8 (E (f k) 1), .int .u8 (E (f k) 2), .int .u8 (E (f k) 3), .int .u8 (E (f k) 4)] 62)) fun e w' => e = .returned (.bool b) ∧ Below (wr.alloc (.cells #[.int .u8 (E (f k) 0), .int .u8 (E (f k) 1), .int .u8 (E (f k) 2), .int .u8 (E (f k) 3), .int .u8 (E (f k) 4)] 62)).heap.size (wr.alloc (.cells #[.int .u8 (E (f k) 0), .int .u8 (E (f k) 1), .int .u8 (E (f k) 2), .int .u8 (E (f k) 3), .int .u8 (E (f k) 4)] 62)) w') := fun b hb => by
          have := HP.out.1 k (wr.alloc (.cells #[.int .u8 (E (f k) 0), .int .u8 (E (f k) 1), .int .u8 (E (f k) 2), .int .u8 (E (f k) 3), .int .u8 (E (f k) 4)] 62)) hkn HQa.out
          rwa [hb] at this
        have hE := HP.out.2.1
        have HSZ : Hid (g ≤ wr.heap.size) := by unfold Hid; omega
        cases hpk : p (f k)
        · have HC2 := Lib.hid (HC.out false hpk)
          have HT : Hid (∀ w', Below (wr.alloc (.cells #[.int .u8 (E (f k) 0), .int .u8 (E (f k) 1), .int .u8 (E (f k) 2), .int .u8 (E (f k) 3), .int .u8 (E (f k) 4)] 62)).heap.size (wr.alloc (.cells #[.int .u8 (E (f k) 0), .int .u8 (E (f k) 1), .int .u8 (E (f k) 2), .int .u8 (E (f k) 3), .int .u8 (E (f k) 4)] 62)) w' → (PatB (set5 w' g (keptTo p f k).length (E (f k))) g n E (keepB p f (k + 1)) ∧ Q (set5 w' g (keptTo p f k).length (E (f k)))) ∧ (∀ t, t < 5 → w'.frozen? ⟨g, (keptTo p f k).length * 5 + t, none⟩ = false) ∧ (∀ t, t < 5 → ∃ u, w'.cell? ⟨g, (keptTo p f k).length * 5 + t, none⟩ = some u) ∧ C5 w' wr.heap.size (.int .u8 (E (f k) 0)) (.int .u8 (E (f k) 1)) (.int .u8 (E (f k) 2)) (.int .u8 (E (f k) 3)) (.int .u8 (E (f k) 4)) ∧ Below g w w') := fun w' hb => by
            have h2 := hBa.keep hb
            exact ⟨⟨h2.set _ _ (keepB_new hpk) (fun i hi => keepB_old hpk hi) (by omega), HP.out.2.2.2 _ _ _ (HP.out.2.2.1 _ _ HQa.out hb)⟩, fun t ht => (h2.2 _ (by omega) t ht).2, fun t ht => ⟨_, (h2.2 _ (by omega) t ht).1⟩, keepAt5 hb kba, chain (B := g) (a := w) hLa (by omega) hb⟩
          have HN : Hid ((keptTo p f (k + 1)).length = (keptTo p f k).length + 1) := by unfold Hid; rw [keptTo_more hpk]; simp
          clear HC hB hpk hBa hLa kba hza hba HQa HQw
          generalize hm : (keptTo p f k).length = m at *
          generalize hx : E (f k) = X at *
          obtain ⟨x0, hx0⟩ : ∃ x, X 0 = x := ⟨_, rfl⟩
          obtain ⟨x1, hx1⟩ : ∃ x, X 1 = x := ⟨_, rfl⟩
          obtain ⟨x2, hx2⟩ : ∃ x, X 2 = x := ⟨_, rfl⟩
          obtain ⟨x3, hx3⟩ : ∃ x, X 3 = x := ⟨_, rfl⟩
          obtain ⟨x4, hx4⟩ : ∃ x, X 4 = x := ⟨_, rfl⟩
          have HT2 := HT
          unfold set5 at HT2
          rw [hx0, hx1, hx2, hx3, hx4] at HT2 HC2
          rw [hx0] at hca0
          rw [hx1] at hca1
          rw [hx2] at hca2
          rw [hx3] at hca3
          rw [hx4] at hca4
          have hm1 : (m : Int) < (n : Int) := by omega
          have hm0 : (0 : Int) ≤ (m : Int) := by omega
          clear hm HT hx hx0 hx1 hx2 hx3 hx4
          go_wp2_with ((with_reducible refine HC2.out.mono ?_); rintro e w' ⟨rfl, hb⟩; obtain ⟨hB2, hfr, hcu, kb, hL⟩ := HT2.out _ hb; have HB2 := Lib.hid hB2; have hfr0 := hfr 0 (by omega); have hfr1 := hfr 1 (by omega); have hfr2 := hfr 2 (by omega); have hfr3 := hfr 3 (by omega); have hfr4 := hfr 4 (by omega); obtain ⟨u0, hcu0⟩ := hcu 0 (by omega); obtain ⟨u1, hcu1⟩ := hcu 1 (by omega); obtain ⟨u2, hcu2⟩ := hcu 2 (by omega); obtain ⟨u3, hcu3⟩ := hcu 3 (by omega); obtain ⟨u4, hcu4⟩ := hcu 4 (by omega); rw [Nat.add_zero] at hfr0 hcu0; clear hB2 hb hfr hcu)
          exact ⟨⟨k + 1, by omega, by omega, by go_num, by rw [HN.out]; go_num, by rw [HN.out]; omega, ((((hL.setCell (p := ⟨g, m * 5, none⟩) (Nat.le_refl _) _).setCell (p := ⟨g, m * 5 + 1, none⟩) (Nat.le_refl _) _).setCell (p := ⟨g, m * 5 + 2, none⟩) (Nat.le_refl _) _).setCell (p := ⟨g, m * 5 + 3, none⟩) (Nat.le_refl _) _).setCell (p := ⟨g, m * 5 + 4, none⟩) (Nat.le_refl _) _, HB2.out.1, HB2.out.2⟩, by simp [intOf]; omega⟩
        · have HC2 := Lib.hid (HC.out true hpk)
          have HT : Hid (∀ w', Below (wr.alloc (.cells #[.int .u8 (E (f k) 0), .int .u8 (E (f k) 1), .int .u8 (E (f k) 2), .int .u8 (E (f k) 3), .int .u8 (E (f k) 4)] 62)).heap.size (wr.alloc (.cells #[.int .u8 (E (f k) 0), .int .u8 (E (f k) 1), .int .u8 (E (f k) 2), .int .u8 (E (f k) 3), .int .u8 (E (f k) 4)] 62)) w' → PatB w' g n E (keepB p f (k + 1)) ∧ Below g w w' ∧ Q w') := fun w' hb => ⟨(hBa.keep hb).congr fun i _ => keepB_skip hpk i, chain (B := g) (a := w) hLa (by omega) hb, HP.out.2.2.1 _ _ HQa.out hb⟩
          have HN : Hid (keptTo p f (k + 1) = keptTo p f k) := keptTo_skip hpk
          clear HC hB hpk hBa hLa kba hza hba HQa HQw
          generalize E (f k) 0 = x0 at *
          generalize E (f k) 1 = x1 at *
          generalize E (f k) 2 = x2 at *
          generalize E (f k) 3 = x3 at *
          generalize E (f k) 4 = x4 at *
          go_wp2_with ((with_reducible refine HC2.out.mono ?_); rintro e w' ⟨rfl, hb⟩; have HB2 := Lib.hid (HT.out _ hb); clear hb)
          exact ⟨⟨k + 1, by omega, by omega, by go_num, by rw [HN.out], by rw [HN.out]; omega, HB2.out.2.1, HB2.out.1, HB2.out.2.2⟩, by simp [intOf]; omega⟩
      · have e : k = n := by omega
        subst e
        have HD : Hid (PatB wr g k E (keepB p f k)) := hB
        have HE : Hid (∀ j, j < (keptTo p f k).length → (keptTo p f k).getD j 0 = keepB p f k j) := fun j hj => (keepB_done p f k j hj).symm
        generalize hm : (keptTo p f k).length = m at *
        have HM := Lib.hid hm
        clear hm
        have hm1 : (m : Int) ≤ (k : Int) := by omega
        have hm2 : (m : Int) ≤ (cap : Int) := by omega
        have hm3 : (k : Int) ≤ (cap : Int) := by omega
        have hm0 : (0 : Int) ≤ (m : Int) := by omega
        obtain ⟨vs, hcl⟩ := run_clear_pat wr g (m * 5) (k - m) (cap - m) (by omega) (fun q hq => by
          have e : m * 5 + q = (m + q / 5) * 5 + q % 5 := by omega
          rw [e]
          have := hB.2 (m + q / 5) (by omega) (q % 5) (Nat.mod_lt _ (by decide))
          exact ⟨by rw [this.1]; rfl, this.2⟩)
        clear hB HQw
        go_wp2_with (simp only [hcl])
        go_ret
        rw [HM.out]
        exact ⟨rfl, (HD.out.sets (by omega) _).congr fun j hj => HE.out j hj, belowSetsP (Nat.le_refl _) _ _ _ _ hL⟩
  · have HI := Lib.hid (hI.out (if_neg hlt))
    have hjn : j = n := by omega
    subst hjn
    have HK := keptTo_all hno
    have HL : Hid ((keptTo p f j).length = j) := by unfold Hid; rw [HK]; simp
    have HB : Hid (PatB w g j E (fun i => (keptTo p f j).getD i 0)) := ha.congr fun i hi => by rw [HK, List.getD_eq_getElem?_getD, List.getElem?_map, List.getElem?_range hi]; rfl
    clear hI hp hno hyes ha HK hq
    go_enter Tryd.func54, Tryd.ntmps54
    go_wp2_with fail
    refine HI.out.mono ?_
    rintro e w1 ⟨rfl, hL1⟩
    have hB1 := Lib.hid (HB.out.keep hL1)
    have hL1g := hL1.mono (Nat.le_of_lt hgz)
    clear hL1
    go_wp2_with fail
    go_ret
    rw [HL.out]
    exact ⟨rfl, hB1.out, hL1g⟩

end Go.Proofs.YtohmhiodmaahfaaDoor
