/- slices.IndexFunc and slices.DeleteFunc at tables. -/
import Derived.Test.YtkdidplpnhokiaaBsM
import Derived.LoopTactic
import Derived.Shelf.Abstract
import Derived.Lib.SliceRun
import Derived.Laws.IdiomCopy
namespace Go.Proofs.Ytkdidplpnhokiaa
open Go.RowKit
set_option linter.unusedVariables false

theorem sizeSetsT (b : Nat) : ∀ (vs : List Value) (o : Nat) (w : World), (w.setCells b o vs).heap.size = w.heap.size
  | [], _, _ => rfl
  | v :: r, o, w => by
    show ((w.setCell ⟨b, o, none⟩ v).setCells b (o + 1) r).heap.size = _
    rw [sizeSetsT b r (o + 1), World.size_setCell]
theorem belowSetsT {B b : Nat} (hb : B ≤ b) : ∀ (vs : List Value) (o : Nat) (a w : World), Below B a w → Below B a (w.setCells b o vs)
  | [], _, _, _, h => h
  | v :: r, o, a, w, h => belowSetsT hb r (o + 1) a _ (h.setCell (p := ⟨b, o, none⟩) hb v)
/-- block g holds n tables of N inputs, their values c 0, c 1 .., none frozen -/
def TabB (w : World) (g n : Nat) (N : Int) (c : Nat → Int) : Prop := g < w.heap.size ∧ ∀ j, j < n → (w.cell? ⟨g, j * 2, none⟩ = some (.int .i64 N) ∧ w.cell? ⟨g, j * 2 + 1, none⟩ = some (.int .i64 (c j))) ∧ w.frozen? ⟨g, j * 2, none⟩ = false ∧ w.frozen? ⟨g, j * 2 + 1, none⟩ = false
theorem TabB.keep {w w' : World} {g n : Nat} {N : Int} {c : Nat → Int} (h : TabB w g n N c) (hb : Below w.heap.size w w') : TabB w' g n N c := by
  have := hb.size
  refine ⟨by have := h.1; omega, fun j hj => ?_⟩
  obtain ⟨⟨a, b⟩, e, f⟩ := h.2 j hj
  exact ⟨⟨(hb.cell (p := ⟨g, j * 2, none⟩) h.1).trans a, (hb.cell (p := ⟨g, j * 2 + 1, none⟩) h.1).trans b⟩, (hb.frozen (p := ⟨g, j * 2, none⟩) h.1).trans e, (hb.frozen (p := ⟨g, j * 2 + 1, none⟩) h.1).trans f⟩
/-- a table written over the m-th of block g -/
abbrev set2 (w : World) (g m : Nat) (N x : Int) : World := (w.setCell ⟨g, m * 2, none⟩ (.int .i64 N)).setCell ⟨g, m * 2 + 1, none⟩ (.int .i64 x)
theorem set2_size (w : World) (g m : Nat) (N x : Int) : (set2 w g m N x).heap.size = w.heap.size := by simp only [World.size_setCell]
theorem set2_frozen (w : World) (g m : Nat) (N x : Int) (a : Addr) : (set2 w g m N x).frozen? a = w.frozen? a := by simp only [World.frozen?_setCell]
theorem adr_neT {g b o p : Nat} (h : b ≠ g ∨ o ≠ p) : (⟨g, p, none⟩ : Addr) ≠ ⟨b, o, none⟩ := by
  intro e; injection e with e1 e2; omega
theorem set2_other (w : World) (g m : Nat) (N x : Int) (b o : Nat) (h : b ≠ g ∨ (o ≠ m * 2 ∧ o ≠ m * 2 + 1)) : (set2 w g m N x).cell? ⟨b, o, none⟩ = w.cell? ⟨b, o, none⟩ := by
  rw [World.cell?_setCell_other _ _ _ _ (adr_neT (h.imp id (fun h => h.2))), World.cell?_setCell_other _ _ _ _ (adr_neT (h.imp id (fun h => h.1)))]
theorem TabB.set {w : World} {g n : Nat} {N : Int} {c c' : Nat → Int} (h : TabB w g n N c) (m : Nat) (v : Int) (h1 : c' m = v) (h2 : ∀ j, j ≠ m → c' j = c j) (hm : m < n) : TabB (set2 w g m N v) g n N c' := by
  refine ⟨by rw [set2_size]; exact h.1, fun j hj => ⟨?_, by rw [set2_frozen, set2_frozen]; exact (h.2 j hj).2⟩⟩
  by_cases e : j = m
  · subst e
    rw [h1]
    obtain ⟨⟨a, b⟩, _⟩ := h.2 j hj
    exact ⟨(World.cell?_setCell_other _ _ _ _ (adr_neT (.inr (by omega)))).trans (World.cell?_setCell_same w ⟨g, j * 2, none⟩ _ a), World.cell?_setCell_same (w.setCell ⟨g, j * 2, none⟩ (.int .i64 N)) ⟨g, j * 2 + 1, none⟩ _ ((World.cell?_setCell_other _ _ _ _ (adr_neT (.inr (by omega)))).trans b)⟩
  · rw [h2 j e, set2_other _ _ _ _ _ _ _ (.inr ⟨by omega, by omega⟩), set2_other _ _ _ _ _ _ _ (.inr ⟨by omega, by omega⟩)]
    exact (h.2 j hj).1
theorem TabB.congr {w : World} {g n : Nat} {N : Int} {c c' : Nat → Int} (h : TabB w g n N c) (he : ∀ j, j < n → c' j = c j) : TabB w g n N c' := ⟨h.1, fun j hj => by rw [he j hj]; exact h.2 j hj⟩
theorem TabB.sets {w : World} {g n m : Nat} {N : Int} {c : Nat → Int} (h : TabB w g n N c) (hm : m ≤ n) (vs : List Value) : TabB (w.setCells g (m * 2) vs) g m N c := by
  refine ⟨by rw [sizeSetsT]; exact h.1, fun j hj => ?_⟩
  obtain ⟨⟨a, b⟩, e, f⟩ := h.2 j (by omega)
  refine ⟨⟨?_, ?_⟩, ?_, ?_⟩
  · rw [World.cell?_setCells_out g vs (m * 2) w ⟨g, j * 2, none⟩ (fun _ _ => .inl (by show j * 2 < m * 2; omega))]; exact a
  · rw [World.cell?_setCells_out g vs (m * 2) w ⟨g, j * 2 + 1, none⟩ (fun _ _ => .inl (by show j * 2 + 1 < m * 2; omega))]; exact b
  · rw [World.frozen?_setCells]; exact e
  · rw [World.frozen?_setCells]; exact f

theorem run_clear_tab (w : World) (b o n c : Nat) (hn : 0 < n) (hc : ∀ j, j < n * 2 → (w.cell? ⟨b, o + j, none⟩).isSome = true ∧ w.frozen? ⟨b, o + j, none⟩ = false) :
    ∃ vs, ∀ ty, (Builtin.clear_ #[100] ty #[.slice (some ⟨b, o, none⟩) n c]).run Try.prog w = .ok (.tuple #[]) (w.setCells b o vs) := by
  have hl : (Builtin.zeroCells (Value.agg #[.int .i64 0, .int .i64 0]).cells n).toList.length = n * 2 := by simp [Builtin.zeroCells, Value.cells]
  have ho : ∀ v ∈ (Builtin.zeroCells (Value.agg #[.int .i64 0, .int .i64 0]).cells n).toList, v.oneCell' = true := by
    intro v hv
    obtain ⟨j, hj, rfl⟩ := List.getElem_of_mem hv
    have h2 : j % 2 = 0 ∨ j % 2 = 1 := by omega
    rcases h2 with h | h <;> simp [Builtin.zeroCells, Value.cells, h, Value.oneCell']
  refine ⟨(Builtin.zeroCells (Value.agg #[.int .i64 0, .int .i64 0]).cells n).toList, fun ty => ?_⟩
  have hst := run_storeCells_cells (P := Try.prog) b o (Builtin.zeroCells (Value.agg #[.int .i64 0, .int .i64 0]).cells n).toList 0 w (fun j hj => by rw [Nat.add_zero]; exact (hc j (by omega)).1) (fun j hj => by rw [Nat.add_zero]; exact (hc j (by omega)).2) ho
  simp only [Nat.add_zero] at hst
  obtain ⟨m, rfl⟩ : ∃ m, n = m + 1 := ⟨n - 1, by omega⟩
  simp [Builtin.clear_, run_underlying Try.underlying100, hst]

/-- what a predicate on tables does in any world in which Q holds, and what keeps Q -/
def PredT (N : Int) (F : Nat) (caps : Array Value) (p : Int → Bool) (f : Nat → Int) (n g : Nat) (Q : World → Prop) : Prop :=
  (∀ (k : Nat) (wx : World), k < n → Q wx → Calls Try.prog F (#[.agg #[.int .i64 N, .int .i64 (f k)]] ++ caps) wx fun e w' => e = .returned (.bool (p (f k))) ∧ Below wx.heap.size wx w') ∧
  (∀ (args : Array Value) (w : World), (callFunc F args).run Try.prog w = .ok (.enter F args) w) ∧
  (∀ w w' : World, Q w → Below w.heap.size w w' → Q w') ∧ (∀ (w : World) (m : Nat) (x : Int), Q w → Q (set2 w g m N x))

set_option maxRecDepth 100000 in
set_option maxHeartbeats 1000000 in
theorem indexFuncT_any (N : Int) (g n cap : Nat) (f : Nat → Int) (F : Nat) (caps : Array Value) (p : Int → Bool) (j : Nat) (Q : World → Prop) (w : World) (hn : n ≤ 1048576) (ha : TabB w g n N f) (hq : Q w)
    (hj : j ≤ n) (hno : ∀ i, i < j → p (f i) = false) (hyes : j < n → p (f j) = true)
    (hp : PredT N F caps p f n g Q) {r : Int} (hr : (if j < n then (j : Int) else -1) = r) :
    Calls Try.prog 130 #[.slice (some ⟨g, 0, none⟩) n cap, .func (.func F) #[] caps] w fun e w' => e = .returned (.int .i64 r) ∧ Below w.heap.size w w' := by
  obtain ⟨hf, hE, hQ, _⟩ := hp
  have Ha : Hid (∀ i, i < n → w.cell? ⟨g, i * 2, none⟩ = some (.int .i64 N) ∧ w.cell? ⟨g, i * 2 + 1, none⟩ = some (.int .i64 (f i))) := fun i hi => (ha.2 i hi).1
  have Hf := Lib.hid hf
  have HQ : Hid (∀ w', Below w.heap.size w w' → Q w') := fun w' hb => hQ _ _ hq hb
  have Hno := Lib.hid hno
  have Hyes := Lib.hid hyes
  have Hr := Lib.hid hr
  have hn63 : n ≤ 9223372036854775807 := by omega
  clear ha hf hno hyes hr hQ hq
  go_enter Try.func130, Try.ntmps130
  go_wp2_with fail
  go_loopw [8] (fun c wr => ∃ k : Nat, k ≤ j ∧ c = .int .i64 (k : Int) ∧ Below w.heap.size w wr) (fun c _ => n - (intOf c).toNat)
  case atStart => exact ⟨0, Nat.zero_le _, rfl, Below.refl _ _⟩
  case round =>
    obtain ⟨k, hk, rfl, hL⟩ := hrel
    by_cases hlt : k < n
    · have hca0 := cell_later hL (Ha.out k hlt).1
      have hca1 := cell_later hL (Ha.out k hlt).2
      have hi1 : (k : Int) < (n : Int) := by omega
      have hi0 : (0 : Int) ≤ (k : Int) := by omega
      have hz := hL.size
      have HC : Hid (∀ b, p (f k) = b → Calls Try.prog F (#[.agg #[.int .i64 N, .int .i64 (f k)]] ++ caps) wr fun e w' => e = .returned (.bool b) ∧ Below wr.heap.size wr w') := fun b hb => by
        have := Hf.out k wr hlt (HQ.out _ hL)
        rwa [hb] at this
      by_cases hkj : k < j
      · have HC2 := Lib.hid (HC.out false (Hno.out k hkj))
        clear HC
        generalize f k = x1 at *
        go_wp2_with ((with_reducible refine HC2.out.mono ?_); rintro e w' ⟨rfl, hb⟩; have hL := chain (B := w.heap.size) (a := w) hL (Nat.le_refl _) hb; clear hb)
        go_roundw
        case rel => exact ⟨k + 1, by omega, by go_num, hL⟩
        case measure => simp [intOf]; omega
      · have e : k = j := by omega
        subst e
        have HC2 := Lib.hid (HC.out true (Hyes.out hlt))
        have HR : Hid (r = (k : Int)) := by have := Hr.out; rw [if_pos hlt] at this; exact this.symm
        clear HC
        generalize f k = x1 at *
        go_wp2_with ((with_reducible refine HC2.out.mono ?_); rintro e w' ⟨rfl, hb⟩; have hL := chain (B := w.heap.size) (a := w) hL (Nat.le_refl _) hb; clear hb)
        go_ret
        exact ⟨by rw [HR.out]; rfl, hL⟩
    · have HR : Hid (r = -1) := by have := Hr.out; rw [if_neg (by omega)] at this; exact this.symm
      go_wp2_with fail
      go_ret
      exact ⟨by rw [HR.out]; rfl, hL⟩

set_option maxRecDepth 100000 in
set_option maxHeartbeats 2000000 in
theorem deleteFuncT_any (N : Int) (g n cap : Nat) (f : Nat → Int) (F : Nat) (caps : Array Value) (p : Int → Bool) (Q : World → Prop) (w : World) (hn : n ≤ 1048576) (hcap : n ≤ cap) (hcap2 : cap ≤ 9223372036854775807) (ha : TabB w g n N f) (hq : Q w)
    (hp : PredT N F caps p f n g Q) :
    Calls Try.prog 99 #[.slice (some ⟨g, 0, none⟩) n cap, .func (.func F) #[] caps] w fun e w' => e = .returned (.slice (some ⟨g, 0, none⟩) (keptTo p f n).length cap) ∧ TabB w' g (keptTo p f n).length N (fun j => (keptTo p f n).getD j 0) ∧ Below g w w' := by
  obtain ⟨j, hj, hno, hyes⟩ := firstB (fun i => p (f i)) n
  have hgz := ha.1
  have hI : Hid (∀ {r : Int}, (if j < n then (j : Int) else -1) = r → Calls Try.prog 130 #[.slice (some ⟨g, 0, none⟩) n cap, .func (.func F) #[] caps] w fun e w' => e = .returned (.int .i64 r) ∧ Below w.heap.size w w') :=
    fun h => indexFuncT_any N g n cap f F caps p j Q w hn ha hq hj hno hyes hp h
  by_cases hlt : j < n
  · have HI := Lib.hid (hI.out (if_pos hlt))
    have HA := Lib.hid ha
    have HP := Lib.hid hp
    have HQ0 := Lib.hid hq
    have HK : Hid ((keptTo p f j).length = j) := by unfold Hid; rw [keptTo_all hno]; simp
    have HK1 : Hid (keptTo p f (j + 1) = keptTo p f j) := keptTo_skip (hyes hlt)
    have HB0 : Hid (∀ i, keepB p f (j + 1) i = f i) := fun i => by rw [keepB_skip (hyes hlt), keepB_first hno]
    have hj63 : (j : Int) + 1 ≤ 9223372036854775807 := by omega
    have hj0 : ((j : Int) == -1) = false := by rw [beq_eq_false_iff_ne]; omega
    clear hI hp hno hyes ha hq
    go_enter Try.func99, Try.ntmps99
    go_wp2_with fail
    refine HI.out.mono ?_
    rintro e w1 ⟨rfl, hL1⟩
    have hB1 := (HA.out.keep hL1).congr (c' := keepB p f (j + 1)) fun i _ => HB0.out i
    have HQ1 : Hid (Q w1) := HP.out.2.2.1 _ _ HQ0.out hL1
    have hL1g := hL1.mono (Nat.le_of_lt hgz)
    clear hL1
    go_wp2_with fail
    go_loopw [5, 6] (fun i c wr => ∃ k : Nat, k ≤ n ∧ j + 1 ≤ k ∧ c = .int .i64 (k : Int) ∧ i = .int .i64 ((keptTo p f k).length : Int) ∧ (keptTo p f k).length < k ∧ Below g w wr ∧ TabB wr g n N (keepB p f k) ∧ Hid (Q wr)) (fun _ c _ => n - (intOf c).toNat)
    case atStart => exact ⟨j + 1, by omega, Nat.le_refl _, by go_num, by rw [HK1.out, HK.out], by rw [HK1.out, HK.out]; omega, hL1g, hB1, HQ1⟩
    case round =>
      clear hB1 hL1g HQ1
      obtain ⟨k, hk, hjk, rfl, rfl, hlen, hL, hB, HQw⟩ := hrel
      by_cases hkn : k < n
      · have hca0 := (hB.2 k hkn).1.1
        have hca1 := (hB.2 k hkn).1.2
        rw [keepB_at] at hca1
        have hi1 : (k : Int) < (n : Int) := by omega
        have hi0 : (0 : Int) ≤ (k : Int) := by omega
        have hz0 := hB.1
        have hba : Below wr.heap.size wr (wr.alloc (.cells #[.int .i64 N, .int .i64 (f k)] 44)) := (Below.refl _ _).alloc (Nat.le_refl _) _
        have hBa : TabB (wr.alloc (.cells #[.int .i64 N, .int .i64 (f k)] 44)) g n N (keepB p f k) := hB.keep hba
        have HQa : Hid (Q (wr.alloc (.cells #[.int .i64 N, .int .i64 (f k)] 44))) := HP.out.2.2.1 _ _ HQw.out hba
        have hLa : Below g w (wr.alloc (.cells #[.int .i64 N, .int .i64 (f k)] 44)) := hL.alloc (by omega) _
        have hza : g < (wr.alloc (.cells #[.int .i64 N, .int .i64 (f k)] 44)).heap.size := hBa.1
        have kba := C2.here wr (.int .i64 N) (.int .i64 (f k)) 44
        have HC : Hid (∀ b, p (f k) = b → Calls Try.prog F (#[.agg #[.int .i64 N, .int .i64 (f k)]] ++ caps) (wr.alloc (.cells #[.int .i64 N, .int .i64 (f k)] 44)) fun e w' => e = .returned (.bool b) ∧ Below (wr.alloc (.cells #[.int .i64 N, .int .i64 (f k)] 44)).heap.size (wr.alloc (.cells #[.int .i64 N, .int .i64 (f k)] 44)) w') := fun b hb => by
          have := HP.out.1 k (wr.alloc (.cells #[.int .i64 N, .int .i64 (f k)] 44)) hkn HQa.out
          rwa [hb] at this
        have hE := HP.out.2.1
        have HSZ : Hid (g ≤ wr.heap.size) := by unfold Hid; omega
        cases hpk : p (f k)
        · have HC2 := Lib.hid (HC.out false hpk)
          have HT : Hid (∀ w', Below (wr.alloc (.cells #[.int .i64 N, .int .i64 (f k)] 44)).heap.size (wr.alloc (.cells #[.int .i64 N, .int .i64 (f k)] 44)) w' → (TabB (set2 w' g (keptTo p f k).length N (f k)) g n N (keepB p f (k + 1)) ∧ Q (set2 w' g (keptTo p f k).length N (f k))) ∧ (w'.frozen? ⟨g, (keptTo p f k).length * 2, none⟩ = false ∧ w'.frozen? ⟨g, (keptTo p f k).length * 2 + 1, none⟩ = false) ∧ ((∃ u, w'.cell? ⟨g, (keptTo p f k).length * 2, none⟩ = some u) ∧ ∃ u, w'.cell? ⟨g, (keptTo p f k).length * 2 + 1, none⟩ = some u) ∧ C2 w' wr.heap.size (.int .i64 N) (.int .i64 (f k)) ∧ Below g w w') := fun w' hb => by
            have h2 := hBa.keep hb
            exact ⟨⟨h2.set _ _ (keepB_new hpk) (fun i hi => keepB_old hpk hi) (by omega), HP.out.2.2.2 _ _ _ (HP.out.2.2.1 _ _ HQa.out hb)⟩, (h2.2 _ (by omega)).2, ⟨⟨_, (h2.2 _ (by omega)).1.1⟩, ⟨_, (h2.2 _ (by omega)).1.2⟩⟩, keepAt hb kba, chain (B := g) (a := w) hLa (by omega) hb⟩
          have HN : Hid ((keptTo p f (k + 1)).length = (keptTo p f k).length + 1) := by unfold Hid; rw [keptTo_more hpk]; simp
          clear HC hB hpk hBa hLa kba hza hba HQa HQw
          generalize hm : (keptTo p f k).length = m at *
          generalize hx : f k = x at *
          have HT2 := HT
          unfold set2 at HT2
          have hm1 : (m : Int) < (n : Int) := by omega
          have hm0 : (0 : Int) ≤ (m : Int) := by omega
          clear hm HT hx
          go_wp2_with ((with_reducible refine HC2.out.mono ?_); rintro e w' ⟨rfl, hb⟩; obtain ⟨hB2, ⟨hfr0, hfr1⟩, ⟨⟨u0, hcu0⟩, ⟨u1, hcu1⟩⟩, kb, hL⟩ := HT2.out _ hb; have HB2 := Lib.hid hB2; clear hB2 hb)
          exact ⟨⟨k + 1, by omega, by omega, by go_num, by rw [HN.out]; go_num, by rw [HN.out]; omega, (hL.setCell (p := ⟨g, m * 2, none⟩) (Nat.le_refl _) _).setCell (p := ⟨g, m * 2 + 1, none⟩) (Nat.le_refl _) _, HB2.out.1, HB2.out.2⟩, by simp [intOf]; omega⟩
        · have HC2 := Lib.hid (HC.out true hpk)
          have HT : Hid (∀ w', Below (wr.alloc (.cells #[.int .i64 N, .int .i64 (f k)] 44)).heap.size (wr.alloc (.cells #[.int .i64 N, .int .i64 (f k)] 44)) w' → TabB w' g n N (keepB p f (k + 1)) ∧ Below g w w' ∧ Q w') := fun w' hb => ⟨(hBa.keep hb).congr fun i _ => keepB_skip hpk i, chain (B := g) (a := w) hLa (by omega) hb, HP.out.2.2.1 _ _ HQa.out hb⟩
          have HN : Hid (keptTo p f (k + 1) = keptTo p f k) := keptTo_skip hpk
          clear HC hB hpk hBa hLa kba hza hba HQa HQw
          generalize f k = x1 at *
          go_wp2_with ((with_reducible refine HC2.out.mono ?_); rintro e w' ⟨rfl, hb⟩; have HB2 := Lib.hid (HT.out _ hb); clear hb)
          exact ⟨⟨k + 1, by omega, by omega, by go_num, by rw [HN.out], by rw [HN.out]; omega, HB2.out.2.1, HB2.out.1, HB2.out.2.2⟩, by simp [intOf]; omega⟩
      · have e : k = n := by omega
        subst e
        have HD : Hid (TabB wr g k N (keepB p f k)) := hB
        have HE : Hid (∀ j, j < (keptTo p f k).length → (keptTo p f k).getD j 0 = keepB p f k j) := fun j hj => (keepB_done p f k j hj).symm
        generalize hm : (keptTo p f k).length = m at *
        have HM := Lib.hid hm
        clear hm
        have hm1 : (m : Int) ≤ (k : Int) := by omega
        have hm2 : (m : Int) ≤ (cap : Int) := by omega
        have hm3 : (k : Int) ≤ (cap : Int) := by omega
        have hm0 : (0 : Int) ≤ (m : Int) := by omega
        obtain ⟨vs, hcl⟩ := run_clear_tab wr g (m * 2) (k - m) (cap - m) (by omega) (fun q hq => by
          have := hB.2 (m + q / 2) (by omega)
          have h2 : q % 2 = 0 ∨ q % 2 = 1 := by omega
          rcases h2 with h2 | h2
          · have e : m * 2 + q = (m + q / 2) * 2 := by omega
            rw [e]; exact ⟨by rw [this.1.1]; rfl, this.2.1⟩
          · have e : m * 2 + q = (m + q / 2) * 2 + 1 := by omega
            rw [e]; exact ⟨by rw [this.1.2]; rfl, this.2.2⟩)
        clear hB HQw
        go_wp2_with (simp only [hcl])
        go_ret
        rw [HM.out]
        exact ⟨rfl, (HD.out.sets (by omega) _).congr fun j hj => HE.out j hj, belowSetsT (Nat.le_refl _) _ _ _ _ hL⟩
  · have HI := Lib.hid (hI.out (if_neg hlt))
    have hjn : j = n := by omega
    subst hjn
    have HK := keptTo_all hno
    have HL : Hid ((keptTo p f j).length = j) := by unfold Hid; rw [HK]; simp
    have HB : Hid (TabB w g j N (fun i => (keptTo p f j).getD i 0)) := ha.congr fun i hi => by rw [HK, List.getD_eq_getElem?_getD, List.getElem?_map, List.getElem?_range hi]; rfl
    clear hI hp hno hyes ha HK hq
    go_enter Try.func99, Try.ntmps99
    go_wp2_with fail
    refine HI.out.mono ?_
    rintro e w1 ⟨rfl, hL1⟩
    have hB1 := Lib.hid (HB.out.keep hL1)
    have hL1g := hL1.mono (Nat.le_of_lt hgz)
    clear hL1
    go_wp2_with fail
    go_ret
    rw [HL.out]
    exact ⟨rfl, hB1.out, hL1g⟩

end Go.Proofs.Ytkdidplpnhokiaa
