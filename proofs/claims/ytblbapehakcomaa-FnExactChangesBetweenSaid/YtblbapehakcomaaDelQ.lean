/- slices.Clone, slices.IndexFunc and slices.DeleteFunc at situations; the steady states among those that are reached. -/
import Derived.Test.YtblbapehakcomaaStR
import Derived.Test.YtblbapehakcomaaDelM
import Derived.Test.YtblbapehakcomaaCo0
import Derived.LoopTactic
import Derived.Shelf.Abstract
import Derived.Lib.SliceRun
import Derived.Laws.IdiomCopy
namespace Go.Proofs.Ytblbapehakcomaa
open Go.RowKit
set_option linter.unusedVariables false

theorem belowSetsQ {B b : Nat} (hb : B ≤ b) : ∀ (vs : List Value) (o : Nat) (a w : World), Below B a w → Below B a (w.setCells b o vs)
  | [], _, _, _, h => h
  | v :: r, o, a, w, h => belowSetsQ hb r (o + 1) a _ (h.setCell (p := ⟨b, o, none⟩) hb v)
theorem sizeSetsQ (b : Nat) : ∀ (vs : List Value) (o : Nat) (w : World), (w.setCells b o vs).heap.size = w.heap.size
  | [], _, _ => rfl
  | v :: r, o, w => by
    show ((w.setCell ⟨b, o, none⟩ v).setCells b (o + 1) r).heap.size = _
    rw [sizeSetsQ b r (o + 1), World.size_setCell]
/-- block g holds n situations of the inputs i, the states f 0, f 1 .., none of them frozen -/
def SitB (w : World) (g n : Nat) (i : Int) (f : Nat → Int) : Prop := g < w.heap.size ∧ ∀ j, j < n → w.cell? ⟨g, j * 2, none⟩ = some (.int .i64 i) ∧ w.cell? ⟨g, j * 2 + 1, none⟩ = some (.int .i64 (f j)) ∧ w.frozen? ⟨g, j * 2, none⟩ = false ∧ w.frozen? ⟨g, j * 2 + 1, none⟩ = false
theorem SitB.keep {w w' : World} {g n : Nat} {i : Int} {c : Nat → Int} (h : SitB w g n i c) (hb : Below w.heap.size w w') : SitB w' g n i c := by
  have := hb.size
  exact ⟨by have := h.1; omega, fun j hj => ⟨(hb.cell (p := ⟨g, j * 2, none⟩) h.1).trans (h.2 j hj).1, (hb.cell (p := ⟨g, j * 2 + 1, none⟩) h.1).trans (h.2 j hj).2.1, (hb.frozen (p := ⟨g, j * 2, none⟩) h.1).trans (h.2 j hj).2.2.1, (hb.frozen (p := ⟨g, j * 2 + 1, none⟩) h.1).trans (h.2 j hj).2.2.2⟩⟩
theorem SitB.set {w : World} {g n : Nat} {i : Int} {c c' : Nat → Int} (h : SitB w g n i c) (m : Nat) (v : Int) (h1 : c' m = v) (h2 : ∀ j, j ≠ m → c' j = c j) (hm : m < n) : SitB ((w.setCell ⟨g, m * 2, none⟩ (.int .i64 i)).setCell ⟨g, m * 2 + 1, none⟩ (.int .i64 v)) g n i c' := by
  refine ⟨by rw [World.size_setCell, World.size_setCell]; exact h.1, fun j hj => ⟨?_, ?_, by rw [World.frozen?_setCell, World.frozen?_setCell]; exact (h.2 j hj).2.2.1, by rw [World.frozen?_setCell, World.frozen?_setCell]; exact (h.2 j hj).2.2.2⟩⟩
  · rw [World.cell?_setCell_other _ ⟨g, m * 2 + 1, none⟩ ⟨g, j * 2, none⟩ _ (by intro h; injection h with _ h2; omega)]
    by_cases e : j = m
    · subst e
      exact World.cell?_setCell_same w ⟨g, j * 2, none⟩ _ (h.2 j hj).1
    · exact (World.cell?_setCell_other w ⟨g, m * 2, none⟩ ⟨g, j * 2, none⟩ _ (by intro h; injection h with _ h2; omega)).trans (h.2 j hj).1
  · by_cases e : j = m
    · subst e
      rw [h1]
      exact World.cell?_setCell_same _ ⟨g, j * 2 + 1, none⟩ _ ((World.cell?_setCell_other w ⟨g, j * 2, none⟩ ⟨g, j * 2 + 1, none⟩ _ (by intro h; injection h with _ h2; omega)).trans (h.2 j hj).2.1)
    · rw [h2 j e, World.cell?_setCell_other _ ⟨g, m * 2 + 1, none⟩ ⟨g, j * 2 + 1, none⟩ _ (by intro h; injection h with _ h2; omega)]
      exact (World.cell?_setCell_other w ⟨g, m * 2, none⟩ ⟨g, j * 2 + 1, none⟩ _ (by intro h; injection h with _ h2; omega)).trans (h.2 j hj).2.1
theorem SitB.congr {w : World} {g n : Nat} {i : Int} {c c' : Nat → Int} (h : SitB w g n i c) (he : ∀ j, j < n → c' j = c j) : SitB w g n i c' := ⟨h.1, fun j hj => by rw [he j hj]; exact h.2 j hj⟩
theorem SitB.sets {w : World} {g n m : Nat} {i : Int} {c : Nat → Int} (h : SitB w g n i c) (hm : m ≤ n) (vs : List Value) : SitB (w.setCells g (m * 2) vs) g m i c := by
  refine ⟨by rw [sizeSetsQ]; exact h.1, fun j hj => ⟨?_, ?_, ?_, ?_⟩⟩
  · rw [World.cell?_setCells_out g vs (m * 2) w ⟨g, j * 2, none⟩ (fun _ _ => .inl (by show j * 2 < m * 2; omega))]; exact (h.2 j (by omega)).1
  · rw [World.cell?_setCells_out g vs (m * 2) w ⟨g, j * 2 + 1, none⟩ (fun _ _ => .inl (by show j * 2 + 1 < m * 2; omega))]; exact (h.2 j (by omega)).2.1
  · rw [World.frozen?_setCells]; exact (h.2 j (by omega)).2.2.1
  · rw [World.frozen?_setCells]; exact (h.2 j (by omega)).2.2.2

theorem zeroSit (w : World) : (zeroValue 68).run Try.prog w = .ok (.agg #[.int .i64 0, .int .i64 0]) w := by kernel_rfl
theorem run_clear_sit (w : World) (b o n c : Nat) (hn : 0 < n) (hc : ∀ j, j < n * 2 → (w.cell? ⟨b, o + j, none⟩).isSome = true ∧ w.frozen? ⟨b, o + j, none⟩ = false) :
    ∃ vs, ∀ ty, (Builtin.clear_ #[76] ty #[.slice (some ⟨b, o, none⟩) n c]).run Try.prog w = .ok (.tuple #[]) (w.setCells b o vs) := by
  have hl : (Builtin.zeroCells (Value.agg #[.int .i64 0, .int .i64 0]).cells n).toList.length = n * 2 := by simp [Builtin.zeroCells, Value.cells]
  have ho : ∀ v ∈ (Builtin.zeroCells (Value.agg #[.int .i64 0, .int .i64 0]).cells n).toList, v.oneCell' = true := by
    intro v hv
    obtain ⟨j, hj, rfl⟩ := List.getElem_of_mem hv
    have h2 : j % 2 = 0 ∨ j % 2 = 1 := by omega
    rcases h2 with h | h <;> simp [Builtin.zeroCells, Value.cells, h, Value.oneCell']
  refine ⟨(Builtin.zeroCells (Value.agg #[.int .i64 0, .int .i64 0]).cells n).toList, fun ty => ?_⟩
  have hst := run_storeCells_cells (P := Try.prog) b o (Builtin.zeroCells (Value.agg #[.int .i64 0, .int .i64 0]).cells n).toList 0 w (fun j hj => by rw [Nat.add_zero]; exact (hc j (by omega)).1) (fun j hj => by rw [Nat.add_zero]; exact (hc j (by omega)).2) ho
  simp only [Nat.add_zero] at hst
  obtain ⟨m, rfl⟩ : ∃ m, n = m + 1 := ⟨n - 1, by omega⟩
  simp [Builtin.clear_, run_underlying Try.underlying76, hst]

/-- what a predicate on situations does in any world that is above block B as w is -/
def PredQ (i0 : Int) (F : Nat) (caps : Array Value) (p : Int → Bool) (f : Nat → Int) (n : Nat) (B : Nat) (w : World) : Prop :=
  (∀ (k : Nat) (wx : World), k < n → Below B w wx → B ≤ wx.heap.size → Calls Try.prog F (#[.agg #[.int .i64 i0, .int .i64 (f k)]] ++ caps) wx fun e w' => e = .returned (.bool (p (f k))) ∧ Below wx.heap.size wx w') ∧
  (∀ (args : Array Value) (w : World), (callFunc F args).run Try.prog w = .ok (.enter F args) w)

set_option maxRecDepth 100000 in
set_option maxHeartbeats 1000000 in
theorem indexFuncQ_any (i0 : Int) (g n cap : Nat) (f : Nat → Int) (F : Nat) (caps : Array Value) (p : Int → Bool) (j B : Nat) (w : World) (hn : n ≤ 1048576) (ha : SitB w g n i0 f) (hB : B ≤ w.heap.size)
    (hj : j ≤ n) (hno : ∀ i, i < j → p (f i) = false) (hyes : j < n → p (f j) = true)
    (hp : PredQ i0 F caps p f n B w) {r : Int} (hr : (if j < n then (j : Int) else -1) = r) :
    Calls Try.prog 110 #[.slice (some ⟨g, 0, none⟩) n cap, .func (.func F) #[] caps] w fun e w' => e = .returned (.int .i64 r) ∧ Below w.heap.size w w' := by
  obtain ⟨hf, hE⟩ := hp
  have Ha : Hid (∀ i, i < n → w.cell? ⟨g, i * 2, none⟩ = some (.int .i64 i0) ∧ w.cell? ⟨g, i * 2 + 1, none⟩ = some (.int .i64 (f i))) := fun i hi => ⟨(ha.2 i hi).1, (ha.2 i hi).2.1⟩
  have Hf := Lib.hid hf
  have Hno := Lib.hid hno
  have Hyes := Lib.hid hyes
  have Hr := Lib.hid hr
  have hn63 : n ≤ 9223372036854775807 := by omega
  clear ha hf hno hyes hr
  go_enter Try.func110, Try.ntmps110
  go_wp2_with fail
  go_loopw [8] (fun c wr => ∃ k : Nat, k ≤ j ∧ c = .int .i64 (k : Int) ∧ Below w.heap.size w wr) (fun c _ => n - (intOf c).toNat)
  case atStart => exact ⟨0, Nat.zero_le _, rfl, Below.refl _ _⟩
  case round =>
    obtain ⟨k, hk, rfl, hL⟩ := hrel
    by_cases hlt : k < n
    · have hca0 := cell_later hL (Ha.out k hlt).1
      have hca := cell_later hL (Ha.out k hlt).2
      have hi1 : (k : Int) < (n : Int) := by omega
      have hi0 : (0 : Int) ≤ (k : Int) := by omega
      have hz := hL.size
      have HC : Hid (∀ b, p (f k) = b → Calls Try.prog F (#[.agg #[.int .i64 i0, .int .i64 (f k)]] ++ caps) wr fun e w' => e = .returned (.bool b) ∧ Below wr.heap.size wr w') := fun b hb => by
        have := Hf.out k wr hlt (hL.mono hB) (by omega)
        rwa [hb] at this
      by_cases hkj : k < j
      · have HC2 := Lib.hid (HC.out false (Hno.out k hkj))
        clear HC
        generalize f k = x at *
        go_wp2_with ((with_reducible refine HC2.out.mono ?_); rintro e w' ⟨rfl, hb⟩; have hL := chain (B := w.heap.size) (a := w) hL (Nat.le_refl _) hb; clear hb)
        go_roundw
        case rel => exact ⟨k + 1, by omega, by go_num, hL⟩
        case measure => simp [intOf]; omega
      · have e : k = j := by omega
        subst e
        have HC2 := Lib.hid (HC.out true (Hyes.out hlt))
        have HR : Hid (r = (k : Int)) := by have := Hr.out; rw [if_pos hlt] at this; exact this.symm
        clear HC
        generalize f k = x at *
        go_wp2_with ((with_reducible refine HC2.out.mono ?_); rintro e w' ⟨rfl, hb⟩; have hL := chain (B := w.heap.size) (a := w) hL (Nat.le_refl _) hb; clear hb)
        go_ret
        exact ⟨by rw [HR.out]; rfl, hL⟩
    · have HR : Hid (r = -1) := by have := Hr.out; rw [if_neg (by omega)] at this; exact this.symm
      go_wp2_with fail
      go_ret
      exact ⟨by rw [HR.out]; rfl, hL⟩

set_option maxRecDepth 100000 in
set_option maxHeartbeats 2000000 in
theorem deleteFuncQ_any (i0 : Int) (g n cap : Nat) (f : Nat → Int) (F : Nat) (caps : Array Value) (p : Int → Bool) (w : World) (hn : n ≤ 1048576) (hcap : n ≤ cap) (hcap2 : cap ≤ 9223372036854775807) (ha : SitB w g n i0 f)
    (hp : PredQ i0 F caps p f n g w) :
    Calls Try.prog 99 #[.slice (some ⟨g, 0, none⟩) n cap, .func (.func F) #[] caps] w fun e w' => e = .returned (.slice (some ⟨g, 0, none⟩) (keptTo p f n).length cap) ∧ SitB w' g (keptTo p f n).length i0 (fun j => (keptTo p f n).getD j 0) ∧ Below g w w' := by
  obtain ⟨j, hj, hno, hyes⟩ := firstB (fun i => p (f i)) n
  have hgz := ha.1
  have hI : Hid (∀ {r : Int}, (if j < n then (j : Int) else -1) = r → Calls Try.prog 110 #[.slice (some ⟨g, 0, none⟩) n cap, .func (.func F) #[] caps] w fun e w' => e = .returned (.int .i64 r) ∧ Below w.heap.size w w') :=
    fun h => indexFuncQ_any i0 g n cap f F caps p j g w hn ha (Nat.le_of_lt hgz) hj hno hyes hp h
  by_cases hlt : j < n
  · have HI := Lib.hid (hI.out (if_pos hlt))
    have HA := Lib.hid ha
    have HP := Lib.hid hp
    have HK : Hid ((keptTo p f j).length = j) := by unfold Hid; rw [keptTo_all hno]; simp
    have HK1 : Hid (keptTo p f (j + 1) = keptTo p f j) := keptTo_skip (hyes hlt)
    have HB0 : Hid (∀ i, keepB p f (j + 1) i = f i) := fun i => by rw [keepB_skip (hyes hlt), keepB_first hno]
    have hj63 : (j : Int) + 1 ≤ 9223372036854775807 := by omega
    have hj0 : ((j : Int) == -1) = false := by rw [beq_eq_false_iff_ne]; omega
    clear hI hp hno hyes ha
    go_enter Try.func99, Try.ntmps99
    go_wp2_with fail
    refine HI.out.mono ?_
    rintro e w1 ⟨rfl, hL1⟩
    have hB1 := (HA.out.keep hL1).congr (c' := keepB p f (j + 1)) fun i _ => HB0.out i
    have hL1g := hL1.mono (Nat.le_of_lt hgz)
    clear hL1
    go_wp2_with fail
    go_loopw [5, 6] (fun i c wr => ∃ k : Nat, k ≤ n ∧ j + 1 ≤ k ∧ c = .int .i64 (k : Int) ∧ i = .int .i64 ((keptTo p f k).length : Int) ∧ (keptTo p f k).length < k ∧ Below g w wr ∧ SitB wr g n i0 (keepB p f k)) (fun _ c _ => n - (intOf c).toNat)
    case atStart => exact ⟨j + 1, by omega, Nat.le_refl _, by go_num, by rw [HK1.out, HK.out], by rw [HK1.out, HK.out]; omega, hL1g, hB1⟩
    case round =>
      clear hB1 hL1g
      obtain ⟨k, hk, hjk, rfl, rfl, hlen, hL, hB⟩ := hrel
      by_cases hkn : k < n
      · have hca0 := (hB.2 k hkn).1
        have hca := (hB.2 k hkn).2.1
        rw [keepB_at] at hca
        have hi1 : (k : Int) < (n : Int) := by omega
        have hi0 : (0 : Int) ≤ (k : Int) := by omega
        have hz0 := hB.1
        have hBa : SitB (wr.alloc (.cells #[.int .i64 i0, .int .i64 (f k)] 68)) g n i0 (keepB p f k) := hB.keep ((Below.refl _ _).alloc (Nat.le_refl _) _)
        have hLa : Below g w (wr.alloc (.cells #[.int .i64 i0, .int .i64 (f k)] 68)) := hL.alloc (by omega) _
        have hza : g < (wr.alloc (.cells #[.int .i64 i0, .int .i64 (f k)] 68)).heap.size := hBa.1
        have kba := C2.here wr (.int .i64 i0) (.int .i64 (f k)) 68
        have HC : Hid (∀ b, p (f k) = b → Calls Try.prog F (#[.agg #[.int .i64 i0, .int .i64 (f k)]] ++ caps) (wr.alloc (.cells #[.int .i64 i0, .int .i64 (f k)] 68)) fun e w' => e = .returned (.bool b) ∧ Below (wr.alloc (.cells #[.int .i64 i0, .int .i64 (f k)] 68)).heap.size (wr.alloc (.cells #[.int .i64 i0, .int .i64 (f k)] 68)) w') := fun b hb => by
          have := HP.out.1 k (wr.alloc (.cells #[.int .i64 i0, .int .i64 (f k)] 68)) hkn hLa (by omega)
          rwa [hb] at this
        have hE := HP.out.2
        have HSZ : Hid (g ≤ wr.heap.size) := by unfold Hid; omega
        cases hpk : p (f k)
        · have HC2 := Lib.hid (HC.out false hpk)
          have HT : Hid (∀ w', Below (wr.alloc (.cells #[.int .i64 i0, .int .i64 (f k)] 68)).heap.size (wr.alloc (.cells #[.int .i64 i0, .int .i64 (f k)] 68)) w' → SitB ((w'.setCell ⟨g, (keptTo p f k).length * 2, none⟩ (.int .i64 i0)).setCell ⟨g, (keptTo p f k).length * 2 + 1, none⟩ (.int .i64 (f k))) g n i0 (keepB p f (k + 1)) ∧ (w'.frozen? ⟨g, (keptTo p f k).length * 2, none⟩ = false ∧ w'.frozen? ⟨g, (keptTo p f k).length * 2 + 1, none⟩ = false) ∧ (w'.cell? ⟨g, (keptTo p f k).length * 2, none⟩ = some (.int .i64 i0)) ∧ (∃ u, w'.cell? ⟨g, (keptTo p f k).length * 2 + 1, none⟩ = some u) ∧ C2 w' wr.heap.size (.int .i64 i0) (.int .i64 (f k)) ∧ Below g w w') := fun w' hb => by
            have h2 := hBa.keep hb
            exact ⟨h2.set _ _ (keepB_new hpk) (fun i hi => keepB_old hpk hi) (by omega), ⟨(h2.2 _ (by omega)).2.2.1, (h2.2 _ (by omega)).2.2.2⟩, (h2.2 _ (by omega)).1, ⟨_, (h2.2 _ (by omega)).2.1⟩, keepAt hb kba, chain (B := g) (a := w) hLa (by omega) hb⟩
          have HN : Hid ((keptTo p f (k + 1)).length = (keptTo p f k).length + 1) := by unfold Hid; rw [keptTo_more hpk]; simp
          clear HC hB hpk hBa hLa kba hza
          generalize hm : (keptTo p f k).length = m at *
          generalize f k = x at *
          have hm1 : (m : Int) < (n : Int) := by omega
          have hm0 : (0 : Int) ≤ (m : Int) := by omega
          clear hm
          go_wp2_with ((with_reducible refine HC2.out.mono ?_); rintro e w' ⟨rfl, hb⟩; obtain ⟨hB2, ⟨hfr0, hfr⟩, hcu0, ⟨u, hcu⟩, kb, hL⟩ := HT.out _ hb; have HB2 := Lib.hid hB2; clear hB2 hb)
          exact ⟨⟨k + 1, by omega, by omega, by go_num, by rw [HN.out]; go_num, by rw [HN.out]; omega, (hL.setCell (p := ⟨g, m * 2, none⟩) (Nat.le_refl _) _).setCell (p := ⟨g, m * 2 + 1, none⟩) (Nat.le_refl _) _, HB2.out⟩, by simp [intOf]; omega⟩
        · have HC2 := Lib.hid (HC.out true hpk)
          have HT : Hid (∀ w', Below (wr.alloc (.cells #[.int .i64 i0, .int .i64 (f k)] 68)).heap.size (wr.alloc (.cells #[.int .i64 i0, .int .i64 (f k)] 68)) w' → SitB w' g n i0 (keepB p f (k + 1)) ∧ Below g w w') := fun w' hb => ⟨(hBa.keep hb).congr fun i _ => keepB_skip hpk i, chain (B := g) (a := w) hLa (by omega) hb⟩
          have HN : Hid (keptTo p f (k + 1) = keptTo p f k) := keptTo_skip hpk
          clear HC hB hpk hBa hLa kba hza
          generalize f k = x at *
          go_wp2_with ((with_reducible refine HC2.out.mono ?_); rintro e w' ⟨rfl, hb⟩; have HB2 := Lib.hid (HT.out _ hb); clear hb)
          exact ⟨⟨k + 1, by omega, by omega, by go_num, by rw [HN.out], by rw [HN.out]; omega, HB2.out.2, HB2.out.1⟩, by simp [intOf]; omega⟩
      · have e : k = n := by omega
        subst e
        have HD : Hid (SitB wr g k i0 (keepB p f k)) := hB
        have HE : Hid (∀ j, j < (keptTo p f k).length → (keptTo p f k).getD j 0 = keepB p f k j) := fun j hj => (keepB_done p f k j hj).symm
        generalize hm : (keptTo p f k).length = m at *
        have HM := Lib.hid hm
        clear hm
        have hm1 : (m : Int) ≤ (k : Int) := by omega
        have hm2 : (m : Int) ≤ (cap : Int) := by omega
        have hm3 : (k : Int) ≤ (cap : Int) := by omega
        have hm0 : (0 : Int) ≤ (m : Int) := by omega
        obtain ⟨vs, hcl⟩ := run_clear_sit wr g (m * 2) (k - m) (cap - m) (by omega) (fun q hq => by
          have e : m * 2 + q = (m + q / 2) * 2 + q % 2 := by omega
          have hq2 : q % 2 = 0 ∨ q % 2 = 1 := by omega
          rcases hq2 with h | h <;> rw [e, h]
          · have := hB.2 (m + q / 2) (by omega); exact ⟨by rw [Nat.add_zero, this.1]; rfl, this.2.2.1⟩
          · have := hB.2 (m + q / 2) (by omega); exact ⟨by rw [this.2.1]; rfl, this.2.2.2⟩)
        clear hB
        go_wp2_with (simp only [hcl])
        go_ret
        rw [HM.out]
        exact ⟨rfl, (HD.out.sets (by omega) _).congr fun j hj => HE.out j hj, belowSetsQ (Nat.le_refl _) _ _ _ _ hL⟩
  · have HI := Lib.hid (hI.out (if_neg hlt))
    have hjn : j = n := by omega
    subst hjn
    have HK := keptTo_all hno
    have HL : Hid ((keptTo p f j).length = j) := by unfold Hid; rw [HK]; simp
    have HB : Hid (SitB w g j i0 (fun i => (keptTo p f j).getD i 0)) := ha.congr fun i hi => by rw [HK, List.getD_eq_getElem?_getD, List.getElem?_map, List.getElem?_range hi]; rfl
    clear hI hp hno hyes ha HK
    go_enter Try.func99, Try.ntmps99
    go_wp2_with fail
    refine HI.out.mono ?_
    rintro e w1 ⟨rfl, hL1⟩
    have hB1 := Lib.hid (HB.out.keep hL1)
    have hL1g := hL1.mono (Nat.le_of_lt hgz)
    clear hL1
    go_wp2_with fail
    go_ret
    rw [HL.out]
    exact ⟨rfl, hB1.out, hL1g⟩

end Go.Proofs.Ytblbapehakcomaa
