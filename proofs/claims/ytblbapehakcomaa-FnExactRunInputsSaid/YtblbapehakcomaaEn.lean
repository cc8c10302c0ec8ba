/- DelQ, Ends, End2 in one text. -/
import Derived.Test.YtblbapehakcomaaStR
import Derived.Test.YtblbapehakcomaaDelM
import Derived.Test.YtblbapehakcomaaCo0
import Derived.LoopTactic
import Derived.Shelf.Abstract
import Derived.Lib.SliceRun
import Derived.Laws.IdiomCopy
namespace Go.Proofs.Ytblbapehakcomaa
open Go.RowKit
set_option linter.unusedVariables false

theorem belowSetsQ {B b : Nat} (hb : B ≤ b) : ∀ (vs : List Value) (o : Nat) (a w : World), Below B a w → Below B a (w.setCells b o vs)
  | [], _, _, _, h => h
  | v :: r, o, a, w, h => belowSetsQ hb r (o + 1) a _ (h.setCell (p := ⟨b, o, none⟩) hb v)
theorem sizeSetsQ (b : Nat) : ∀ (vs : List Value) (o : Nat) (w : World), (w.setCells b o vs).heap.size = w.heap.size
  | [], _, _ => rfl
  | v :: r, o, w => by
    show ((w.setCell ⟨b, o, none⟩ v).setCells b (o + 1) r).heap.size = _
    rw [sizeSetsQ b r (o + 1), World.size_setCell]
/-- block g holds n situations of the inputs i, the states f 0, f 1 .., none of them frozen -/
def SitB (w : World) (g n : Nat) (i : Int) (f : Nat → Int) : Prop := g < w.heap.size ∧ ∀ j, j < n → w.cell? ⟨g, j * 2, none⟩ = some (.int .i64 i) ∧ w.cell? ⟨g, j * 2 + 1, none⟩ = some (.int .i64 (f j)) ∧ w.frozen? ⟨g, j * 2, none⟩ = false ∧ w.frozen? ⟨g, j * 2 + 1, none⟩ = false
theorem SitB.keep {w w' : World} {g n : Nat} {i : Int} {c : Nat → Int} (h : SitB w g n i c) (hb : Below w.heap.size w w') : SitB w' g n i c := by
  have := hb.size
  exact ⟨by have := h.1; omega, fun j hj => ⟨(hb.cell (p := ⟨g, j * 2, none⟩) h.1).trans (h.2 j hj).1, (hb.cell (p := ⟨g, j * 2 + 1, none⟩) h.1).trans (h.2 j hj).2.1, (hb.frozen (p := ⟨g, j * 2, none⟩) h.1).trans (h.2 j hj).2.2.1, (hb.frozen (p := ⟨g, j * 2 + 1, none⟩) h.1).trans (h.2 j hj).2.2.2⟩⟩
theorem SitB.set {w : World} {g n : Nat} {i : Int} {c c' : Nat → Int} (h : SitB w g n i c) (m : Nat) (v : Int) (h1 : c' m = v) (h2 : ∀ j, j ≠ m → c' j = c j) (hm : m < n) : SitB ((w.setCell ⟨g, m * 2, none⟩ (.int .i64 i)).setCell ⟨g, m * 2 + 1, none⟩ (.int .i64 v)) g n i c' := by
  refine ⟨by rw [World.size_setCell, World.size_setCell]; exact h.1, fun j hj => ⟨?_, ?_, by rw [World.frozen?_setCell, World.frozen?_setCell]; exact (h.2 j hj).2.2.1, by rw [World.frozen?_setCell, World.frozen?_setCell]; exact (h.2 j hj).2.2.2⟩⟩
  · rw [World.cell?_setCell_other _ ⟨g, m * 2 + 1, none⟩ ⟨g, j * 2, none⟩ _ (by intro h; injection h with _ h2; omega)]
    by_cases e : j = m
    · subst e
      exact World.cell?_setCell_same w ⟨g, j * 2, none⟩ _ (h.2 j hj).1
    · exact (World.cell?_setCell_other w ⟨g, m * 2, none⟩ ⟨g, j * 2, none⟩ _ (by intro h; injection h with _ h2; omega)).trans (h.2 j hj).1
  · by_cases e : j = m
    · subst e
      rw [h1]
      exact World.cell?_setCell_same _ ⟨g, j * 2 + 1, none⟩ _ ((World.cell?_setCell_other w ⟨g, j * 2, none⟩ ⟨g, j * 2 + 1, none⟩ _ (by intro h; injection h with _ h2; omega)).trans (h.2 j hj).2.1)
    · rw [h2 j e, World.cell?_setCell_other _ ⟨g, m * 2 + 1, none⟩ ⟨g, j * 2 + 1, none⟩ _ (by intro h; injection h with _ h2; omega)]
      exact (World.cell?_setCell_other w ⟨g, m * 2, none⟩ ⟨g, j * 2 + 1, none⟩ _ (by intro h; injection h with _ h2; omega)).trans (h.2 j hj).2.1
theorem SitB.congr {w : World} {g n : Nat} {i : Int} {c c' : Nat → Int} (h : SitB w g n i c) (he : ∀ j, j < n → c' j = c j) : SitB w g n i c' := ⟨h.1, fun j hj => by rw [he j hj]; exact h.2 j hj⟩
theorem SitB.sets {w : World} {g n m : Nat} {i : Int} {c : Nat → Int} (h : SitB w g n i c) (hm : m ≤ n) (vs : List Value) : SitB (w.setCells g (m * 2) vs) g m i c := by
  refine ⟨by rw [sizeSetsQ]; exact h.1, fun j hj => ⟨?_, ?_, ?_, ?_⟩⟩
  · rw [World.cell?_setCells_out g vs (m * 2) w ⟨g, j * 2, none⟩ (fun _ _ => .inl (by show j * 2 < m * 2; omega))]; exact (h.2 j (by omega)).1
  · rw [World.cell?_setCells_out g vs (m * 2) w ⟨g, j * 2 + 1, none⟩ (fun _ _ => .inl (by show j * 2 + 1 < m * 2; omega))]; exact (h.2 j (by omega)).2.1
  · rw [World.frozen?_setCells]; exact (h.2 j (by omega)).2.2.1
  · rw [World.frozen?_setCells]; exact (h.2 j (by omega)).2.2.2

theorem zeroSit (w : World) : (zeroValue 68).run Try.prog w = .ok (.agg #[.int .i64 0, .int .i64 0]) w := by kernel_rfl
theorem run_clear_sit (w : World) (b o n c : Nat) (hn : 0 < n) (hc : ∀ j, j < n * 2 → (w.cell? ⟨b, o + j, none⟩).isSome = true ∧ w.frozen? ⟨b, o + j, none⟩ = false) :
    ∃ vs, ∀ ty, (Builtin.clear_ #[76] ty #[.slice (some ⟨b, o, none⟩) n c]).run Try.prog w = .ok (.tuple #[]) (w.setCells b o vs) := by
  have hl : (Builtin.zeroCells (Value.agg #[.int .i64 0, .int .i64 0]).cells n).toList.length = n * 2 := by simp [Builtin.zeroCells, Value.cells]
  have ho : ∀ v ∈ (Builtin.zeroCells (Value.agg #[.int .i64 0, .int .i64 0]).cells n).toList, v.oneCell' = true := by
    intro v hv
    obtain ⟨j, hj, rfl⟩ := List.getElem_of_mem hv
    have h2 : j % 2 = 0 ∨ j % 2 = 1 := by omega
    rcases h2 with h | h <;> simp [Builtin.zeroCells, Value.cells, h, Value.oneCell']
  refine ⟨(Builtin.zeroCells (Value.agg #[.int .i64 0, .int .i64 0]).cells n).toList, fun ty => ?_⟩
  have hst := run_storeCells_cells (P := Try.prog) b o (Builtin.zeroCells (Value.agg #[.int .i64 0, .int .i64 0]).cells n).toList 0 w (fun j hj => by rw [Nat.add_zero]; exact (hc j (by omega)).1) (fun j hj => by rw [Nat.add_zero]; exact (hc j (by omega)).2) ho
  simp only [Nat.add_zero] at hst
  obtain ⟨m, rfl⟩ : ∃ m, n = m + 1 := ⟨n - 1, by omega⟩
  simp [Builtin.clear_, run_underlying Try.underlying76, hst]

/-- what a predicate on situations does in any world that is above block B as w is -/
def PredQ (i0 : Int) (F : Nat) (caps : Array Value) (p : Int → Bool) (f : Nat → Int) (n : Nat) (B : Nat) (w : World) : Prop :=
  (∀ (k : Nat) (wx : World), k < n → Below B w wx → B ≤ wx.heap.size → Calls Try.prog F (#[.agg #[.int .i64 i0, .int .i64 (f k)]] ++ caps) wx fun e w' => e = .returned (.bool (p (f k))) ∧ Below wx.heap.size wx w') ∧
  (∀ (args : Array Value) (w : World), (callFunc F args).run Try.prog w = .ok (.enter F args) w)

set_option maxRecDepth 100000 in
set_option maxHeartbeats 1000000 in
theorem indexFuncQ_any (i0 : Int) (g n cap : Nat) (f : Nat → Int) (F : Nat) (caps : Array Value) (p : Int → Bool) (j B : Nat) (w : World) (hn : n ≤ 1048576) (ha : SitB w g n i0 f) (hB : B ≤ w.heap.size)
    (hj : j ≤ n) (hno : ∀ i, i < j → p (f i) = false) (hyes : j < n → p (f j) = true)
    (hp : PredQ i0 F caps p f n B w) {r : Int} (hr : (if j < n then (j : Int) else -1) = r) :
    Calls Try.prog 110 #[.slice (some ⟨g, 0, none⟩) n cap, .func (.func F) #[] caps] w fun e w' => e = .returned (.int .i64 r) ∧ Below w.heap.size w w' := by
  obtain ⟨hf, hE⟩ := hp
  have Ha : Hid (∀ i, i < n → w.cell? ⟨g, i * 2, none⟩ = some (.int .i64 i0) ∧ w.cell? ⟨g, i * 2 + 1, none⟩ = some (.int .i64 (f i))) := fun i hi => ⟨(ha.2 i hi).1, (ha.2 i hi).2.1⟩
  have Hf := Lib.hid hf
  have Hno := Lib.hid hno
  have Hyes := Lib.hid hyes
  have Hr := Lib.hid hr
  have hn63 : n ≤ 9223372036854775807 := by omega
  clear ha hf hno hyes hr
  go_enter Try.func110, Try.ntmps110
  go_wp2_with fail
  go_loopw [8] (fun c wr => ∃ k : Nat, k ≤ j ∧ c = .int .i64 (k : Int) ∧ Below w.heap.size w wr) (fun c _ => n - (intOf c).toNat)
  case atStart => exact ⟨0, Nat.zero_le _, rfl, Below.refl _ _⟩
  case round =>
    obtain ⟨k, hk, rfl, hL⟩ := hrel
    by_cases hlt : k < n
    · have hca0 := cell_later hL (Ha.out k hlt).1
      have hca := cell_later hL (Ha.out k hlt).2
      have hi1 : (k : Int) < (n : Int) := by omega
      have hi0 : (0 : Int) ≤ (k : Int) := by omega
      have hz := hL.size
      have HC : Hid (∀ b, p (f k) = b → Calls Try.prog F (#[.agg #[.int .i64 i0, .int .i64 (f k)]] ++ caps) wr fun e w' => e = .returned (.bool b) ∧ Below wr.heap.size wr w') := fun b hb => by
        have := Hf.out k wr hlt (hL.mono hB) (by omega)
        rwa [hb] at this
      by_cases hkj : k < j
      · have HC2 := Lib.hid (HC.out false (Hno.out k hkj))
        clear HC
        generalize f k = x at *
        go_wp2_with ((with_reducible refine HC2.out.mono ?_); rintro e w' ⟨rfl, hb⟩; have hL := chain (B := w.heap.size) (a := w) hL (Nat.le_refl _) hb; clear hb)
        go_roundw
        case rel => exact ⟨k + 1, by omega, by go_num, hL⟩
        case measure => simp [intOf]; omega
      · have e : k = j := by omega
        subst e
        have HC2 := Lib.hid (HC.out true (Hyes.out hlt))
        have HR : Hid (r = (k : Int)) := by have := Hr.out; rw [if_pos hlt] at this; exact this.symm
        clear HC
        generalize f k = x at *
        go_wp2_with ((with_reducible refine HC2.out.mono ?_); rintro e w' ⟨rfl, hb⟩; have hL := chain (B := w.heap.size) (a := w) hL (Nat.le_refl _) hb; clear hb)
        go_ret
        exact ⟨by rw [HR.out]; rfl, hL⟩
    · have HR : Hid (r = -1) := by have := Hr.out; rw [if_neg (by omega)] at this; exact this.symm
      go_wp2_with fail
      go_ret
      exact ⟨by rw [HR.out]; rfl, hL⟩

set_option maxRecDepth 100000 in
set_option maxHeartbeats 2000000 in
theorem deleteFuncQ_any (i0 : Int) (g n cap : Nat) (f : Nat → Int) (F : Nat) (caps : Array Value) (p : Int → Bool) (w : World) (hn : n ≤ 1048576) (hcap : n ≤ cap) (hcap2 : cap ≤ 9223372036854775807) (ha : SitB w g n i0 f)
    (hp : PredQ i0 F caps p f n g w) :
    Calls Try.prog 99 #[.slice (some ⟨g, 0, none⟩) n cap, .func (.func F) #[] caps] w fun e w' => e = .returned (.slice (some ⟨g, 0, none⟩) (keptTo p f n).length cap) ∧ SitB w' g (keptTo p f n).length i0 (fun j => (keptTo p f n).getD j 0) ∧ Below g w w' := by
  obtain ⟨j, hj, hno, hyes⟩ := firstB (fun i => p (f i)) n
  have hgz := ha.1
  have hI : Hid (∀ {r : Int}, (if j < n then (j : Int) else -1) = r → Calls Try.prog 110 #[.slice (some ⟨g, 0, none⟩) n cap, .func (.func F) #[] caps] w fun e w' => e = .returned (.int .i64 r) ∧ Below w.heap.size w w') :=
    fun h => indexFuncQ_any i0 g n cap f F caps p j g w hn ha (Nat.le_of_lt hgz) hj hno hyes hp h
  by_cases hlt : j < n
  · have HI := Lib.hid (hI.out (if_pos hlt))
    have HA := Lib.hid ha
    have HP := Lib.hid hp
    have HK : Hid ((keptTo p f j).length = j) := by unfold Hid; rw [keptTo_all hno]; simp
    have HK1 : Hid (keptTo p f (j + 1) = keptTo p f j) := keptTo_skip (hyes hlt)
    have HB0 : Hid (∀ i, keepB p f (j + 1) i = f i) := fun i => by rw [keepB_skip (hyes hlt), keepB_first hno]
    have hj63 : (j : Int) + 1 ≤ 9223372036854775807 := by omega
    have hj0 : ((j : Int) == -1) = false := by rw [beq_eq_false_iff_ne]; omega
    clear hI hp hno hyes ha
    go_enter Try.func99, Try.ntmps99
    go_wp2_with fail
    refine HI.out.mono ?_
    rintro e w1 ⟨rfl, hL1⟩
    have hB1 := (HA.out.keep hL1).congr (c' := keepB p f (j + 1)) fun i _ => HB0.out i
    have hL1g := hL1.mono (Nat.le_of_lt hgz)
    clear hL1
    go_wp2_with fail
    go_loopw [5, 6] (fun i c wr => ∃ k : Nat, k ≤ n ∧ j + 1 ≤ k ∧ c = .int .i64 (k : Int) ∧ i = .int .i64 ((keptTo p f k).length : Int) ∧ (keptTo p f k).length < k ∧ Below g w wr ∧ SitB wr g n i0 (keepB p f k)) (fun _ c _ => n - (intOf c).toNat)
    case atStart => exact ⟨j + 1, by omega, Nat.le_refl _, by go_num, by rw [HK1.out, HK.out], by rw [HK1.out, HK.out]; omega, hL1g, hB1⟩
    case round =>
      clear hB1 hL1g
      obtain ⟨k, hk, hjk, rfl, rfl, hlen, hL, hB⟩ := hrel
      by_cases hkn : k < n
      · have hca0 := (hB.2 k hkn).1
        have hca := (hB.2 k hkn).2.1
        rw [keepB_at] at hca
        have hi1 : (k : Int) < (n : Int) := by omega
        have hi0 : (0 : Int) ≤ (k : Int) := by omega
        have hz0 := hB.1
        have hBa : SitB (wr.alloc (.cells #[.int .i64 i0, .int .i64 (f k)] 68)) g n i0 (keepB p f k) := hB.keep ((Below.refl _ _).alloc (Nat.le_refl _) _)
        have hLa : Below g w (wr.alloc (.cells #[.int .i64 i0, .int .i64 (f k)] 68)) := hL.alloc (by omega) _
        have hza : g < (wr.alloc (.cells #[.int .i64 i0, .int .i64 (f k)] 68)).heap.size := hBa.1
        have kba := C2.here wr (.int .i64 i0) (.int .i64 (f k)) 68
        have HC : Hid (∀ b, p (f k) = b → Calls Try.prog F (#[.agg #[.int .i64 i0, .int .i64 (f k)]] ++ caps) (wr.alloc (.cells #[.int .i64 i0, .int .i64 (f k)] 68)) fun e w' => e = .returned (.bool b) ∧ Below (wr.alloc (.cells #[.int .i64 i0, .int .i64 (f k)] 68)).heap.size (wr.alloc (.cells #[.int .i64 i0, .int .i64 (f k)] 68)) w') := fun b hb => by
          have := HP.out.1 k (wr.alloc (.cells #[.int .i64 i0, .int .i64 (f k)] 68)) hkn hLa (by omega)
          rwa [hb] at this
        have hE := HP.out.2
        have HSZ : Hid (g ≤ wr.heap.size) := by unfold Hid; omega
        cases hpk : p (f k)
        · have HC2 := Lib.hid (HC.out false hpk)
          have HT : Hid (∀ w', Below (wr.alloc (.cells #[.int .i64 i0, .int .i64 (f k)] 68)).heap.size (wr.alloc (.cells #[.int .i64 i0, .int .i64 (f k)] 68)) w' → SitB ((w'.setCell ⟨g, (keptTo p f k).length * 2, none⟩ (.int .i64 i0)).setCell ⟨g, (keptTo p f k).length * 2 + 1, none⟩ (.int .i64 (f k))) g n i0 (keepB p f (k + 1)) ∧ (w'.frozen? ⟨g, (keptTo p f k).length * 2, none⟩ = false ∧ w'.frozen? ⟨g, (keptTo p f k).length * 2 + 1, none⟩ = false) ∧ (w'.cell? ⟨g, (keptTo p f k).length * 2, none⟩ = some (.int .i64 i0)) ∧ (∃ u, w'.cell? ⟨g, (keptTo p f k).length * 2 + 1, none⟩ = some u) ∧ C2 w' wr.heap.size (.int .i64 i0) (.int .i64 (f k)) ∧ Below g w w') := fun w' hb => by
            have h2 := hBa.keep hb
            exact ⟨h2.set _ _ (keepB_new hpk) (fun i hi => keepB_old hpk hi) (by omega), ⟨(h2.2 _ (by omega)).2.2.1, (h2.2 _ (by omega)).2.2.2⟩, (h2.2 _ (by omega)).1, ⟨_, (h2.2 _ (by omega)).2.1⟩, keepAt hb kba, chain (B := g) (a := w) hLa (by omega) hb⟩
          have HN : Hid ((keptTo p f (k + 1)).length = (keptTo p f k).length + 1) := by unfold Hid; rw [keptTo_more hpk]; simp
          clear HC hB hpk hBa hLa kba hza
          generalize hm : (keptTo p f k).length = m at *
          generalize f k = x at *
          have hm1 : (m : Int) < (n : Int) := by omega
          have hm0 : (0 : Int) ≤ (m : Int) := by omega
          clear hm
          go_wp2_with ((with_reducible refine HC2.out.mono ?_); rintro e w' ⟨rfl, hb⟩; obtain ⟨hB2, ⟨hfr0, hfr⟩, hcu0, ⟨u, hcu⟩, kb, hL⟩ := HT.out _ hb; have HB2 := Lib.hid hB2; clear hB2 hb)
          exact ⟨⟨k + 1, by omega, by omega, by go_num, by rw [HN.out]; go_num, by rw [HN.out]; omega, (hL.setCell (p := ⟨g, m * 2, none⟩) (Nat.le_refl _) _).setCell (p := ⟨g, m * 2 + 1, none⟩) (Nat.le_refl _) _, HB2.out⟩, by simp [intOf]; omega⟩
        · have HC2 := Lib.hid (HC.out true hpk)
          have HT : Hid (∀ w', Below (wr.alloc (.cells #[.int .i64 i0, .int .i64 (f k)] 68)).heap.size (wr.alloc (.cells #[.int .i64 i0, .int .i64 (f k)] 68)) w' → SitB w' g n i0 (keepB p f (k + 1)) ∧ Below g w w') := fun w' hb => ⟨(hBa.keep hb).congr fun i _ => keepB_skip hpk i, chain (B := g) (a := w) hLa (by omega) hb⟩
          have HN : Hid (keptTo p f (k + 1) = keptTo p f k) := keptTo_skip hpk
          clear HC hB hpk hBa hLa kba hza
          generalize f k = x at *
          go_wp2_with ((with_reducible refine HC2.out.mono ?_); rintro e w' ⟨rfl, hb⟩; have HB2 := Lib.hid (HT.out _ hb); clear hb)
          exact ⟨⟨k + 1, by omega, by omega, by go_num, by rw [HN.out], by rw [HN.out]; omega, HB2.out.2, HB2.out.1⟩, by simp [intOf]; omega⟩
      · have e : k = n := by omega
        subst e
        have HD : Hid (SitB wr g k i0 (keepB p f k)) := hB
        have HE : Hid (∀ j, j < (keptTo p f k).length → (keptTo p f k).getD j 0 = keepB p f k j) := fun j hj => (keepB_done p f k j hj).symm
        generalize hm : (keptTo p f k).length = m at *
        have HM := Lib.hid hm
        clear hm
        have hm1 : (m : Int) ≤ (k : Int) := by omega
        have hm2 : (m : Int) ≤ (cap : Int) := by omega
        have hm3 : (k : Int) ≤ (cap : Int) := by omega
        have hm0 : (0 : Int) ≤ (m : Int) := by omega
        obtain ⟨vs, hcl⟩ := run_clear_sit wr g (m * 2) (k - m) (cap - m) (by omega) (fun q hq => by
          have e : m * 2 + q = (m + q / 2) * 2 + q % 2 := by omega
          have hq2 : q % 2 = 0 ∨ q % 2 = 1 := by omega
          rcases hq2 with h | h <;> rw [e, h]
          · have := hB.2 (m + q / 2) (by omega); exact ⟨by rw [Nat.add_zero, this.1]; rfl, this.2.2.1⟩
          · have := hB.2 (m + q / 2) (by omega); exact ⟨by rw [this.2.1]; rfl, this.2.2.2⟩)
        clear hB
        go_wp2_with (simp only [hcl])
        go_ret
        rw [HM.out]
        exact ⟨rfl, (HD.out.sets (by omega) _).congr fun j hj => HE.out j hj, belowSetsQ (Nat.le_refl _) _ _ _ _ hL⟩
  · have HI := Lib.hid (hI.out (if_neg hlt))
    have hjn : j = n := by omega
    subst hjn
    have HK := keptTo_all hno
    have HL : Hid ((keptTo p f j).length = j) := by unfold Hid; rw [HK]; simp
    have HB : Hid (SitB w g j i0 (fun i => (keptTo p f j).getD i 0)) := ha.congr fun i hi => by rw [HK, List.getD_eq_getElem?_getD, List.getElem?_map, List.getElem?_range hi]; rfl
    clear hI hp hno hyes ha HK
    go_enter Try.func99, Try.ntmps99
    go_wp2_with fail
    refine HI.out.mono ?_
    rintro e w1 ⟨rfl, hL1⟩
    have hB1 := Lib.hid (HB.out.keep hL1)
    have hL1g := hL1.mono (Nat.le_of_lt hgz)
    clear hL1
    go_wp2_with fail
    go_ret
    rw [HL.out]
    exact ⟨rfl, hB1.out, hL1g⟩

theorem sliceNilQ (a : Addr) (n ca : Nat) (w : World) : (binOp .eql 76 (.slice (some a) n ca) (.slice none 0 0)).run Try.prog w = .ok (.bool false) w := by kernel_rfl
theorem addr_addQ (b off i : Nat) : (⟨b, off, none⟩ : Addr).add i = ⟨b, off + i, none⟩ := by
  unfold Addr.add; split
  · rename_i h; subst h; rfl
  · rfl

set_option maxRecDepth 100000 in
set_option maxHeartbeats 1000000 in
theorem cloneQ_any (v : Value) (i : Int) (ss : List Nat) (w : World) (ha : ReadsQ w v i ss) (h1 : 1 ≤ ss.length) (hm : ss.length ≤ 1000) :
    Calls Try.prog 100 #[v] w fun e w' => ∃ u, e = .returned u ∧ OwnsQ w' w.heap.size u i ss ∧ Below w.heap.size w w' := by
  obtain ⟨i0, hi, hz0, hz1, hz2⟩ := info_parts infoSit
  obtain ⟨a, ca, rfl, _, hc⟩ := ha
  rcases hc with rfl | ⟨b, rfl, hc⟩
  · simp at h1
  have oo : OwnsQ (w.alloc (.cells #[] 68)) w.heap.size (.slice (some ⟨w.heap.size, 0, none⟩) 0 0) i [] :=
    World.ownsRow_made (base := w.heap.size) (e := 68) (size := 2) w #[] 0 (by simp) (by simp) rfl
  have HNews : Hid (∀ j u, (cellsQ i ss)[j]? = some u → (w.alloc (.cells #[] 68)).cell? ((⟨b, 0, none⟩ : Addr).add j) = some u) := fun j u hj => by
    have hjl : j < ss.length * 2 := by
      rcases Nat.lt_or_ge j (ss.length * 2) with h | h
      · exact h
      · rw [List.getElem?_eq_none (by rw [cellsQ_len]; exact h)] at hj; cases hj
    have hb := (Below.refl w.heap.size w).alloc (Nat.le_refl _) (.cells #[] 68)
    have h2 := hc (j / 2) (by omega)
    have h3 := cellsQ_at i ss (j / 2) (by omega)
    rw [addr_addQ, Nat.zero_add]
    have hq : j % 2 = 0 ∨ j % 2 = 1 := by omega
    rcases hq with h | h
    · have e : j = j / 2 * 2 := by omega
      rw [e] at hj ⊢
      rw [h3.1] at hj
      rw [cell_later hb h2.1]; exact hj
    · have e : j = j / 2 * 2 + 1 := by omega
      rw [e] at hj ⊢
      rw [h3.2] at hj
      rw [cell_later hb h2.2]; exact hj
  have HOne : Hid (∀ u ∈ cellsQ i ss, u.oneCell' = true) := fun u hu => by
    obtain ⟨s, _, hs⟩ := List.mem_flatMap.1 hu
    simp at hs
    rcases hs with rfl | rfl <;> rfl
  have HLen : Hid ((cellsQ i ss).length = ss.length * 2) := cellsQ_len i ss
  clear hc
  have HM : Hid (ss.length ≤ 1000) := hm
  generalize hn : ss.length = n at *
  have HN := Lib.hid hn
  clear hm hn h1
  have hsn := fun w => sliceNilQ ⟨b, 0, none⟩ n ca w
  go_enter Try.func100, Try.ntmps100
  go_wp2_with (at_builtin; refine wpList_append_own_at _ rfl _ _ 76 rfl w.heap.size 68 i0 (.agg #[.int .i64 0, .int .i64 0]) 2 16 Try.underlying76 hi hz0 hz1 hz2 rfl (by decide) (.slice (some ⟨w.heap.size, 0, none⟩) 0 0) 0 [] rfl oo ⟨b, 0, none⟩ n ca (cellsQ i ss) rfl HLen.out HNews.out HOne.out (by have := HM.out; unfold maxLen; omega) (by have := HM.out; omega) (by simp) ?_; intro v1 w2 hown1 hgrow1 hnil1 hat1; have gB : Below w.heap.size w w2 := ((Below.refl _ w).alloc (Nat.le_refl _) _).grown hgrow1 (by simp) (OwnsQ.rowsFrom oo (Nat.le_refl _)); have gO : OwnsQ w2 w.heap.size v1 i ss := (by have h := hown1; rw [Nat.zero_add, List.nil_append, ← HN.out] at h; exact h))
  go_ret
  exact ⟨_, rfl, gO, gB⟩

theorem OwnsQ.form {w : World} {base : Nat} {v : Value} {i : Int} {ss : List Nat} (h : OwnsQ w base v i ss) (h1 : 1 ≤ ss.length) : ∃ g cap, v = .slice (some ⟨g, 0, none⟩) ss.length cap ∧ base ≤ g ∧ ss.length ≤ cap ∧ cap ≤ maxLen ∧ SitB w g ss.length i (fun k => ((ss.getD k 0 : Nat) : Int)) := by
  have h' := h
  rcases h.2 with ⟨_, h0⟩ | ⟨g, cap, cur, rfl, hb, hg, hc, hm, _⟩
  · omega
  · refine ⟨g, cap, rfl, hb, hc, hm, (World.ownsRow.lt h' g rfl).2, fun j hj => ?_⟩
    have e := cellsQ_at i ss j hj
    exact ⟨by rw [World.ownsRow.cellAt h' (j * 2) (by omega)]; exact e.1, by rw [World.ownsRow.cellAt h' (j * 2 + 1) (by omega)]; exact e.2, World.ownsRow.frozenAt h' _, World.ownsRow.frozenAt h' _⟩

/-- those that are kept, as numbers -/
theorem keptTo_filter (p : Int → Bool) (ss : List Nat) (k : Nat) (hk : k ≤ ss.length) : keptTo p (fun j => ((ss.getD j 0 : Nat) : Int)) k = intsN ((ss.take k).filter fun s => !(p (s : Int))) := by
  induction k with
  | zero => simp [keptTo, intsN]
  | succ k ih =>
    have hlt : k < ss.length := by omega
    simp only [keptTo]
    rw [ih (by omega), List.take_succ_eq_append_getElem hlt, List.filter_append]
    have e : ss.getD k 0 = ss[k] := by rw [List.getD_eq_getElem?_getD, List.getElem?_eq_getElem hlt]; rfl
    rw [e]
    cases hp : p (ss[k] : Int)
    · simp [hp, intsN]
    · simp [hp, intsN]

/-- the steady ones among those that are reached -/
def endsL (p : Int) (xs : List Int) (i : Int) (s : Nat) : List Nat := (rchL p xs i s).filter fun x => aimZ p xs i (x : Int) == (x : Int)

theorem C2.lowQ {w w' : World} {b B : Nat} {x y : Value} (h : C2 w b x y) (hb : Below B w w') (hB : b < B) : C2 w' b x y := by
  obtain ⟨h0, h1, f0, f1, hz⟩ := h
  have e := hb.block b hB
  have := hb.size
  exact ⟨(World.cell?_of_block (w := w) e).trans h0, (World.cell?_of_block (w := w) e).trans h1, (World.frozen?_of_block (w := w) e).trans f0, (World.frozen?_of_block (w := w) e).trans f1, by omega⟩

theorem moves_any (p i : Int) (bx : Nat) (x : Nat) (v : Value) (xs : List Int) (w : World) (ha : Reads w v xs) (hc : cirB p xs = true) (hi : inB i p = true) (hx : x < 2 ^ xs.length) (kx : C2 w bx (.int .i64 p) v) :
    Calls Try.prog 98 #[.agg #[.int .i64 i, .int .i64 (x : Int)], .pointer (some ⟨bx, 0, none⟩)] w fun e w' => e = .returned (.bool (!(aimZ p xs i (x : Int) == (x : Int)))) ∧ Below w.heap.size w w' := by
  have hin : inB (x : Int) xs.length = true := by unfold inB rcZ; rw [Int.toNat_natCast]; exact decide_eq_true (by omega)
  have HS := Lib.hid (fun w' (h : Below w.heap.size w w') => isSteady_any p i (x : Int) v xs w' (ha.keep h) hc hi hin)
  obtain ⟨a, ca, rfl, hm, _⟩ := ha
  have k0 := kx.alloc (.cells #[.int .i64 i, .int .i64 (x : Int)] 68)
  clear hc hi hx hin
  generalize (aimZ p xs i (x : Int) == (x : Int)) = b at *
  generalize xs.length = n at *
  go_enter Try.func98, Try.ntmps98
  go_wp2_with (go_at_call 95; (with_reducible refine (HS.out _ (by go_grown)).mono ?_); rintro e w' ⟨rfl, hb⟩; have hL := chain (B := w.heap.size) (a := w) (by go_grown) (Nat.le_refl _) hb; clear hb)
  go_ret
  exact ⟨rfl, hL⟩

set_option maxRecDepth 100000 in
set_option maxHeartbeats 1000000 in
theorem endsAmong_any (p i : Int) (s : Nat) (v vl : Value) (xs : List Int) (w : World) (ha : Reads w v xs) (hc : cirB p xs = true) (hi : inB i p = true) (hs : s < 2 ^ xs.length) (hl : ReadsQ w vl i (rchL p xs i s)) :
    Calls Try.prog 71 #[.agg #[.int .i64 p, v], vl] w fun e w' => ∃ u, e = .returned u ∧ Owns w' w.heap.size u (ascL (intsN (endsL p xs i s))) ∧ Below w.heap.size w w' := by
  have hM16 := pow_le16 (cirB_out hc).2.1.2
  have hlen := rchL_len (p := p) (xs := xs) (i := i) hs
  have h1 : 1 ≤ (rchL p xs i s).length := by
    have h := reach_start (stepsN p xs i) (2 ^ xs.length) s
    exact List.length_pos_of_mem h
  have hlt := rchL_lt (p := p) (xs := xs) (i := i) hs
  have HEnd : Hid (intsN (endsL p xs i s) = keptTo (fun x => !(aimZ p xs i x == x)) (fun j => (((rchL p xs i s).getD j 0 : Nat) : Int)) (rchL p xs i s).length) := by
    rw [Hid, keptTo_filter _ _ _ (Nat.le_refl _), List.take_length]
    simp [endsL]
  have hel : (endsL p xs i s).length ≤ 1000 := by
    have := List.length_filter_le (fun (x : Nat) => aimZ p xs i (x : Int) == (x : Int)) (rchL p xs i s)
    unfold endsL; omega
  have HCl := Lib.hid (fun w' (h : Below w.heap.size w w') => cloneQ_any vl i (rchL p xs i s) w' (hl.keep h) h1 (by omega))
  have HMv := Lib.hid (fun (bx x : Nat) w' (h : Below w.heap.size w w') (hx : x < 2 ^ xs.length) (kx : C2 w' bx (.int .i64 p) v) => moves_any p i bx x v xs w' (ha.keep h) hc hi hx kx)
  have HSt := Lib.hid (fun (u : Value) (w' : World) (h : ReadsQ w' u i (endsL p xs i s)) => statesOf_any u i (endsL p xs i s) w' h hel)
  have HEL : Hid ((endsL p xs i s).length = (keptTo (fun x => !(aimZ p xs i x == x)) (fun j => (((rchL p xs i s).getD j 0 : Nat) : Int)) (rchL p xs i s).length).length) := by
    rw [Hid, ← HEnd.out, intsN_len]
  obtain ⟨a, ca, rfl, hm, _⟩ := ha
  obtain ⟨la, lc, rfl, hm2, _⟩ := hl
  have k0 := C2.here w (.int .i64 p) (.slice a xs.length ca) 27
  have hL0 : Below w.heap.size w (w.alloc (.cells #[.int .i64 p, .slice a xs.length ca] 27)) := (Below.refl _ _).alloc (Nat.le_refl _) _
  have hz0 : (w.alloc (.cells #[.int .i64 p, .slice a xs.length ca] 27)).heap.size = w.heap.size + 1 := by simp
  have hEnt := enters_of Try.func98 (by kernel_rfl) rfl
  generalize hR : rchL p xs i s = R at *
  generalize hE : endsL p xs i s = E at *
  clear hc hi hs hE hR
  generalize xs.length = n at *
  go_enter Try.func71, Try.ntmps71
  go_wp2_with fail
  refine (HCl.out _ hL0).mono ?_
  rintro e w1 ⟨u, rfl, ou, hb⟩
  have hLx := chain (B := w.heap.size) (a := w) hL0 (Nat.le_refl _) hb
  replace k0 := keepAt hb k0
  obtain ⟨g, cap, rfl, hg, hc1, hc2, hSit⟩ := ou.form h1
  rw [hz0] at hg
  have HSit := Lib.hid hSit
  have HK0 := Lib.hid k0
  have hkz := k0.2.2.2.2
  have hs1 := hLx.size
  have HD := Lib.hid (deleteFuncQ_any i g R.length cap (fun k => ((R.getD k 0 : Nat) : Int)) 98 #[.pointer (some ⟨w.heap.size, 0, none⟩)] (fun x => !(aimZ p xs i x == x)) w1 (by omega) hc1 (by unfold maxLen at hc2; omega) hSit ⟨fun k wx hk hbx hgx => by
    have hx : R.getD k 0 < 2 ^ n := hlt _ (by rw [List.getD_eq_getElem?_getD, List.getElem?_eq_getElem hk]; exact List.getElem_mem hk)
    exact HMv.out w.heap.size (R.getD k 0) wx (hLx.trans (hbx.mono (by omega))) hx (C2.lowQ HK0.out hbx (by omega)), hEnt⟩)
  clear hb ou hSit k0 hEnt
  go_wp2_with fail
  refine HD.out.mono ?_
  rintro e w2 ⟨rfl, hS2, hb⟩
  have hL2 := hLx.trans (hb.mono (by omega))
  have hs2 := hb.size
  have hRQ : Hid (ReadsQ w2 (.slice (some ⟨g, 0, none⟩) E.length cap) i E) := by
    refine ⟨some ⟨g, 0, none⟩, cap, rfl, by unfold maxLen at *; omega, .inr ⟨g, rfl, fun k hk => ?_⟩⟩
    have h := hS2.2 k (by rw [← HEL.out]; exact hk)
    refine ⟨h.1, ?_⟩
    rw [h.2.1, ← HEnd.out]
    exact congrArg (fun z => some (Value.int .i64 z)) intsN_at
  rw [← HEL.out]
  clear hb hS2 HD
  go_wp2_with fail
  refine (HSt.out _ _ hRQ.out).mono ?_
  rintro e w3 ⟨u3, rfl, o3, hb⟩
  have hL3 := chain (B := w.heap.size) (a := w) hL2 (Nat.le_refl _) hb
  have hs3 := hL2.size
  clear hb
  go_wp2_with fail
  go_ret
  exact ⟨u3, rfl, o3.mono hs3, hL3⟩

/-- is x reached, and steady -/
def endP (p : Int) (xs : List Int) (i : Int) (s : Nat) (x : Nat) : Bool := decide (x ∈ rchL p xs i s) && (aimZ p xs i (x : Int) == (x : Int))
def endsU (p : Int) (xs : List Int) (i : Int) (s : Nat) : List Nat := ups (2 ^ xs.length) (endP p xs i s)
theorem ends_asc {p : Int} {xs : List Int} {i : Int} {s : Nat} (hs : s < 2 ^ xs.length) : ascL (intsN (endsL p xs i s)) = intsN (endsU p xs i s) :=
  asc_ups (List.Nodup.sublist List.filter_sublist (rchL_nodup p xs i s)) fun x => by
    unfold endsL endP
    rw [List.mem_filter]
    simp only [Bool.and_eq_true, decide_eq_true_eq]
    exact ⟨fun h => ⟨rchL_lt hs x h.1, h⟩, fun h => h.2⟩
theorem endsU_len (p : Int) (xs : List Int) (i : Int) (s : Nat) : (endsU p xs i s).length ≤ 2 ^ xs.length := ups_len _ _
def resEndsOf_0 (p : Int) (xs : List Int) (i s : Int) : List Int := if sitC p xs i s = 0 then intsN (endsU p xs i s.toNat) else []
def resEndsOf_1 (p : Int) (xs : List Int) (i s : Int) : Int := sitC p xs i s
theorem lenEndsOf_0 (p : Int) (xs : List Int) (i s : Int) : (resEndsOf_0 p xs i s).length ≤ 100000 := by
  unfold resEndsOf_0
  by_cases h : sitC p xs i s = 0
  · rw [if_pos h, intsN_len]
    have h1 := endsU_len p xs i s.toNat
    have h2 := pow_le16 (cirB_out (sitC_zero h).1).2.1.2
    omega
  · rw [if_neg h]; simp

theorem iEndsOf_any (p : Int) (v : Value) (xs : List Int) (i s : Int) (w : World) (ha : Reads w v xs) :
    Calls Try.prog 33 #[.agg #[.int .i64 p, v], .int .i64 i, .int .i64 s] w fun e w' => ∃ u, e = .returned (.tuple #[u, .int .i64 (resEndsOf_1 p xs i s)]) ∧ In w' w.heap.size w'.heap.size u (resEndsOf_0 p xs i s) ∧ Below w.heap.size w w' := by
  obtain ⟨c, hc⟩ : ∃ c, sitC p xs i s = c := ⟨_, rfl⟩
  have HE := Lib.hid (fun w' (h : Below w.heap.size w w') => situationError_any p i s v xs w' (ha.keep h) hc)
  by_cases h0 : c = 0
  · subst h0
    obtain ⟨h1, h2, h3⟩ := sitC_zero hc
    obtain ⟨S, rfl, hS⟩ := stateN h3
    have HA := Lib.hid (fun w' (h : Below w.heap.size w w') => reachedFrom_any p i S v xs w' (ha.keep h) h1 h2 hS)
    rw [show reach (stepsN p xs i) (2 ^ xs.length) S = rchL p xs i S from rfl] at HA
    have HEn := Lib.hid (fun w' (u : Value) (h : Below w.heap.size w w') (hu : ReadsQ w' u i (rchL p xs i S)) => endsAmong_any p i S v u xs w' (ha.keep h) h1 h2 hS hu)
    have HR : Hid (resEndsOf_0 p xs i S = ascL (intsN (endsL p xs i S)) ∧ resEndsOf_1 p xs i S = 0) := by
      refine ⟨?_, hc⟩
      unfold resEndsOf_0
      rw [if_pos hc, Int.toNat_natCast, ends_asc hS]
    obtain ⟨a, ca, rfl, hm, _⟩ := ha
    have k0 := C2.here w (.int .i64 p) (.slice a xs.length ca) 27
    clear hc h1 h2 h3 hS
    generalize xs.length = n at *
    go_enter Try.func33, Try.ntmps33
    go_wp2_with ((go_at_call 60; (with_reducible refine (HE.out _ (by go_grown)).mono ?_); rintro e w' ⟨rfl, hb⟩; have hL := chain (B := w.heap.size) (a := w) (by go_grown) (Nat.le_refl _) hb; (first | replace k0 := keepAt hb k0 | replace k0 := keepAt hb (C2.alloc k0 _)); clear hb))
    go_region_held3 (fun w' => C2 w' w.heap.size (.int .i64 p) (.slice a n ca)) ((repeat' (first | (with_reducible assumption) | (with_reducible refine C2.drewU ?_) | (with_reducible refine C2.alloc ?_ _) | (with_reducible refine C2.set ?_ _ _ _ (by omega))))) (first | (go_at_call 69; (with_reducible refine (HA.out _ (by go_grown)).mono ?_); rintro e w2 ⟨u, rfl, ou, hb⟩; have hL := chain (B := w.heap.size) (a := w) (by go_grown) (Nat.le_refl _) hb; replace k0 := keepAt hb (show C2 _ w.heap.size (.int .i64 p) (.slice a n ca) from by (repeat' (first | (with_reducible assumption) | (with_reducible refine C2.drewU ?_) | (with_reducible refine C2.alloc ?_ _) | (with_reducible refine C2.set ?_ _ _ _ (by omega))))); have HOR := Lib.hid ou.reads; obtain ⟨ua, uc, rfl, _, _⟩ := ou.reads; clear hb ou) | (go_at_call 71; (with_reducible refine (HEn.out _ _ (by go_grown) (by exact HOR.out.keep (by go_grown))).mono ?_); rintro e w3 ⟨u3, rfl, o3, hb⟩; have hs2 := hL.size; have hL := chain (B := w.heap.size) (a := w) (by go_grown) (Nat.le_refl _) hb; replace k0 := keepAt hb (show C2 _ w.heap.size (.int .i64 p) (.slice a n ca) from by (repeat' (first | (with_reducible assumption) | (with_reducible refine C2.drewU ?_) | (with_reducible refine C2.alloc ?_ _) | (with_reducible refine C2.set ?_ _ _ _ (by omega))))); clear hb))
    all_goals (go_wp2_with fail)
    all_goals go_ret2
    all_goals (exact ⟨u3, by rw [HR.out.2]; rfl, by rw [HR.out.1]; exact In.of o3 hs2 (Nat.le_refl _), hL⟩)
  · have HR : Hid (resEndsOf_0 p xs i s = [] ∧ resEndsOf_1 p xs i s = c) := ⟨by unfold resEndsOf_0; rw [if_neg (by rw [hc]; exact h0)], hc⟩
    have hne : (c != 0) = true := by simp [h0]
    obtain ⟨a, ca, rfl, hm, _⟩ := ha
    have k0 := C2.here w (.int .i64 p) (.slice a xs.length ca) 27
    clear hc h0
    generalize xs.length = n at *
    go_enter Try.func33, Try.ntmps33
    go_wp2_with ((go_at_call 60; (with_reducible refine (HE.out _ (by go_grown)).mono ?_); rintro e w' ⟨rfl, hb⟩; have hL := chain (B := w.heap.size) (a := w) (by go_grown) (Nat.le_refl _) hb; (first | replace k0 := keepAt hb k0 | replace k0 := keepAt hb (C2.alloc k0 _)); clear hb))
    go_ret2
    exact ⟨_, by rw [HR.out.2]; rfl, by rw [HR.out.1]; exact inNil _ _ _, hL⟩

set_option maxRecDepth 100000 in
set_option maxHeartbeats 2000000 in
theorem l06Ends_any (p i : Int) (s : Nat) (v : Value) (xs : List Int) (w : World) (ha : Reads w v xs) (hc : cirB p xs = true) (hi : inB i p = true) (hs : s < 2 ^ xs.length) :
    Calls Try.prog 70 #[.agg #[.int .i64 p, v], .int .i64 i, .int .i64 (s : Int)] w fun e w' => ∃ u, e = .returned u ∧ Owns w' w.heap.size u (intsN (endsU p xs i s)) ∧ Below w.heap.size w w' := by
  obtain ⟨j0, hj0_, jz0, jz1, jz2⟩ := info_parts info64
  obtain ⟨_, ⟨n1, n4⟩, _, _⟩ := cirB_out hc
  have hM16 := pow_le16 n4
  have HA := Lib.hid (fun w' (h : Below w.heap.size w w') => l06Reached_any p i s v xs w' (ha.keep h) hc hi hs)
  rw [show reach (stepsN p xs i) (2 ^ xs.length) s = rchL p xs i s from rfl] at HA
  have HU : Hid (endsU p xs i s = ups (2 ^ xs.length) (endP p xs i s)) := rfl
  have HP : Hid (∀ x, endP p xs i s x = (decide (x ∈ rchL p xs i s) && (aimZ p xs i (x : Int) == (x : Int)))) := fun x => rfl
  generalize endP p xs i s = EP at *
  generalize rchL p xs i s = RR at *
  obtain ⟨M, hM⟩ : ∃ M, 2 ^ xs.length = M := ⟨_, rfl⟩
  have HIn : Hid (∀ k : Nat, k < M → inB (k : Int) xs.length = true) := fun k hk => by
    unfold inB rcZ; rw [Int.toNat_natCast, hM]; exact decide_eq_true (by omega)
  have HC : Hid (∀ w', Below w.heap.size w w' → Calls Try.prog 64 #[.agg #[.int .i64 p, v]] w' fun e w'' => e = .returned (.int .i64 (M : Int)) ∧ Below w'.heap.size w' w'') := fun w' h => by
    have := l06States_any p v xs w' (ha.keep h) n1 n4
    unfold rcZ at this; rw [Int.toNat_natCast, hM] at this; exact this
  have HAi := Lib.hid (fun (k : Nat) (hk : k < M) w' (h : Below w.heap.size w w') => l06Aim_any p i (k : Int) v xs w' (ha.keep h) hc hi (HIn.out k hk))
  rw [hM] at HA HU hM16
  have HU0 : Hid (intsN (ups 0 EP) = []) := rfl
  obtain ⟨a, ca, rfl, hm, ha'⟩ := ha
  have k0 := C2.here w (.int .i64 p) (.slice a xs.length ca) 27
  clear hc hi ha' hM hs
  generalize xs.length = n at *
  go_enter Try.func70, Try.ntmps70
  go_wp2_with fail
  refine (HA.out _ (by go_grown)).mono ?_
  rintro e w2 ⟨gF, rfl, hF, hb⟩
  have hL := chain (B := w.heap.size) (a := w) (by go_grown) (Nat.le_refl _) hb
  replace k0 := keepAt hb k0
  have hFl := hF.lt
  have HF := Lib.hid hF
  have hz2 := hL.size
  have HK := Lib.hid k0
  have HOO : Hid (Owns (w2.alloc (.cells #[] 2)) w2.heap.size (.slice (some ⟨w2.heap.size, 0, none⟩) 0 0) (intsN (ups 0 EP))) := World.ownsRow_made (base := w2.heap.size) (e := 2) (size := 1) w2 #[] 0 (Nat.le_refl _) (by simp) rfl
  clear hb hF k0
  go_wp2_with fail
  go_loopw [8, 9] (fun u c wr => ∃ k : Nat, k ≤ M ∧ c = .int .i64 (k : Int) ∧ Below w2.heap.size w2 wr ∧ Owns wr w2.heap.size u (intsN (ups k EP))) (fun _ c _ => M - (intOf c).toNat)
  case atStart => exact ⟨0, Nat.zero_le _, rfl, (Below.refl _ _).alloc (Nat.le_refl _) _, HOO.out⟩
  case round =>
    clear HOO
    obtain ⟨k, hk, rfl, hLr, oo⟩ := hrel
    have k0 := keepAt hLr HK.out
    have hLw := hL.trans (hLr.mono hz2)
    by_cases hlt : k < M
    · have hk0 : (0 : Int) ≤ (k : Int) := by omega
      have hk1 : (k : Int) < (M : Int) := by omega
      have HAk := Lib.hid (HAi.out k hlt)
      have hPk := HP.out k
      have hl : (intsN (ups k EP)).length ≤ 16 := by rw [intsN_len]; have := ups_len k EP; omega
      go_wp2_with fail
      refine (HC.out _ hLw).mono ?_
      rintro e w3 ⟨rfl, hb⟩
      replace hLr := chain (B := w2.heap.size) (a := w2) hLr (Nat.le_refl _) hb
      replace hLw := chain (B := w.heap.size) (a := w) hLw (Nat.le_refl _) hb
      replace k0 := keepAt hb k0
      replace oo := ownsKeepAt hb oo
      clear hb
      obtain ⟨hcF, hfF⟩ := (HF.out.keep hLr).cell hlt
      by_cases hmem : k ∈ RR
      · rw [decide_eq_true hmem] at hcF hPk
        clear hmem
        cases hq : (aimZ p xs i (k : Int) == (k : Int))
        · have HN : Hid (ups (k + 1) EP = ups k EP) := ups_miss (by rw [hPk, hq]; rfl)
          clear hPk
          go_wp2_with fail
          refine (HAk.out _ hLw).mono ?_
          rintro e w4 ⟨rfl, hb⟩
          replace hLr := chain (B := w2.heap.size) (a := w2) hLr (Nat.le_refl _) hb
          replace oo := ownsKeepAt hb oo
          clear hb
          go_wp2_with fail
          exact ⟨⟨k + 1, by omega, by go_num, hLr, by rw [HN.out]; exact oo⟩, by simp [intOf]; omega⟩
        · have HN : Hid (intsN (ups (k + 1) EP) = intsN (ups k EP) ++ [(k : Int)]) := by rw [Hid, ups_hit (by rw [hPk, hq]; rfl), intsN_snoc]
          clear hPk
          generalize intsN (ups k EP) = ts at *
          go_wp2_with fail
          refine (HAk.out _ hLw).mono ?_
          rintro e w4 ⟨rfl, hb⟩
          replace hLr := chain (B := w2.heap.size) (a := w2) hLr (Nat.le_refl _) hb
          replace oo := ownsKeepAt hb oo
          clear hb
          have hzr := hLr.size
          have hfrom := oo.rowsFrom (B := w2.heap.size) (Nat.le_refl _)
          obtain ⟨ua, uc, rfl, _, _⟩ := oo.reads
          go_wp2_with (at_builtin; refine wpList_append_own _ rfl _ _ 22 rfl w2.heap.size 2 j0 (.int .i64 0) 1 8 Try.underlying22 hj0_ jz0 jz1 jz2 rfl (by decide) (.slice ua ts.length uc) ts.length (ts.map (Value.int .i64)) rfl (World.ownsRow.alloc oo _) ⟨w4.heap.size, 0, none⟩ 1 1 [.int .i64 (k : Int)] rfl rfl (cell_one_new _ _ _) (by simp [Value.oneCell']) (by unfold maxLen; omega) (by omega) (by simp; omega) ?_; intro v' w5 hown' hgrow hnil)
          exact ⟨⟨k + 1, by omega, by go_num, (hLr.alloc (by omega) _).grown hgrow (by simp; omega) hfrom, by rw [HN.out]; exact Owns.snoc hown'⟩, by simp [intOf]; omega⟩
      · rw [decide_eq_false hmem] at hcF hPk
        have HN : Hid (ups (k + 1) EP = ups k EP) := ups_miss (by rw [hPk]; rfl)
        clear hmem hPk
        go_wp2_with fail
        exact ⟨⟨k + 1, by omega, by go_num, hLr, by rw [HN.out]; exact oo⟩, by simp [intOf]; omega⟩
    · have e : k = M := by omega
      rw [e, ← HU.out] at oo
      clear e
      have hkn : ¬ (k : Int) < (M : Int) := by omega
      go_wp2_with fail
      refine (HC.out _ hLw).mono ?_
      rintro e w3 ⟨rfl, hb⟩
      replace hLw := chain (B := w.heap.size) (a := w) hLw (Nat.le_refl _) hb
      replace oo := ownsKeepAt hb oo
      clear hb
      go_wp2_with fail
      go_ret
      exact ⟨_, rfl, oo.mono hz2, hLw⟩

theorem sEndsOf_any (p : Int) (v : Value) (xs : List Int) (i s : Int) (w : World) (ha : Reads w v xs) :
    Calls Try.prog 32 #[.agg #[.int .i64 p, v], .int .i64 i, .int .i64 s] w fun e w' => ∃ u, e = .returned (.tuple #[u, .int .i64 (resEndsOf_1 p xs i s)]) ∧ Reads w' u (resEndsOf_0 p xs i s) ∧ Below w.heap.size w w' := by
  obtain ⟨c, hc⟩ : ∃ c, sitC p xs i s = c := ⟨_, rfl⟩
  have HE := Lib.hid (fun w' vs (h : Below w.heap.size w w') (hs : Reads w' vs [s]) => l06Code_any p i v vs xs [s] w' (ha.keep h) hs (c := c) (by rw [codeL_one]; exact hc))
  obtain ⟨a, ca, rfl, hm, ha'⟩ := ha
  have ha : Reads w (.slice a xs.length ca) xs := ⟨a, ca, rfl, hm, ha'⟩
  clear ha'
  have HO := Lib.hid (reads_one (w.alloc (.cells #[.int .i64 p, .slice a xs.length ca] 27)) s 2)
  have k0 := (C2.here w (.int .i64 p) (.slice a xs.length ca) 27).alloc (.cells #[.int .i64 s] 2)
  by_cases h0 : c = 0
  · subst h0
    obtain ⟨h1, h2, h3⟩ := sitC_zero hc
    obtain ⟨S, rfl, hS⟩ := stateN h3
    have HA := Lib.hid (fun w' (h : Below w.heap.size w w') => l06Ends_any p i S _ xs w' (ha.keep h) h1 h2 hS)
    have HR : Hid (resEndsOf_0 p xs i S = intsN (endsU p xs i S) ∧ resEndsOf_1 p xs i S = 0) := by
      refine ⟨?_, hc⟩
      unfold resEndsOf_0
      rw [if_pos hc, Int.toNat_natCast]
    clear hc h1 h2 h3 ha hS
    generalize xs.length = n at *
    go_enter Try.func32, Try.ntmps32
    go_wp2_with ((go_at_call 58; (with_reducible refine (HE.out _ _ (by go_grown) (by simpa using HO.out)).mono ?_); rintro e w' ⟨rfl, hb⟩; have hL := chain (B := w.heap.size) (a := w) (by go_grown) (Nat.le_refl _) hb; (first | replace k0 := keepAt hb k0 | replace k0 := keepAt hb (C2.alloc k0 _)); clear hb))
    refine (HA.out _ hL).mono ?_
    rintro e w2 ⟨u, rfl, ou, hb⟩
    have hL2 := chain (B := w.heap.size) (a := w) hL (Nat.le_refl _) hb
    clear hb
    go_wp2_with fail
    go_ret2
    exact ⟨u, by rw [HR.out.2]; rfl, by rw [HR.out.1]; exact ou.reads, hL2⟩
  · have HR : Hid (resEndsOf_0 p xs i s = [] ∧ resEndsOf_1 p xs i s = c) := ⟨by unfold resEndsOf_0; rw [if_neg (by rw [hc]; exact h0)], hc⟩
    have hne : (c != 0) = true := by simp [h0]
    clear hc h0 ha
    generalize xs.length = n at *
    go_enter Try.func32, Try.ntmps32
    go_wp2_with ((go_at_call 58; (with_reducible refine (HE.out _ _ (by go_grown) (by simpa using HO.out)).mono ?_); rintro e w' ⟨rfl, hb⟩; have hL := chain (B := w.heap.size) (a := w) (by go_grown) (Nat.le_refl _) hb; (first | replace k0 := keepAt hb k0 | replace k0 := keepAt hb (C2.alloc k0 _)); clear hb))
    go_ret2
    exact ⟨_, by rw [HR.out.2]; rfl, by rw [HR.out.1]; exact (inNil _ 0 0).reads, hL⟩

end Go.Proofs.Ytblbapehakcomaa
