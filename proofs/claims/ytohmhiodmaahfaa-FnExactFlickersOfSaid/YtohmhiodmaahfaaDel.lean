/- slices.IndexFunc, slices.ContainsFunc and slices.DeleteFunc at bytes. -/
import Derived.Test.YtohmhiodmaahfaaByt
import Derived.Test.YtohmhiodmaahfaaDelM
import Derived.Test.YtohmhiodmaahfaaCo0
import Derived.LoopTactic
import Derived.Shelf.Abstract
import Derived.Lib.SliceRun
namespace Go.Proofs.Ytohmhiodmaahfaa
open Go.RowKit
set_option linter.unusedVariables false

theorem belowSets {B b : Nat} (hb : B ≤ b) : ∀ (vs : List Value) (o : Nat) (a w : World), Below B a w → Below B a (w.setCells b o vs)
  | [], _, _, _, h => h
  | v :: r, o, a, w, h => belowSets hb r (o + 1) a _ (h.setCell (p := ⟨b, o, none⟩) hb v)
theorem sizeSets (b : Nat) : ∀ (vs : List Value) (o : Nat) (w : World), (w.setCells b o vs).heap.size = w.heap.size
  | [], _, _ => rfl
  | v :: r, o, w => by
    show ((w.setCell ⟨b, o, none⟩ v).setCells b (o + 1) r).heap.size = _
    rw [sizeSets b r (o + 1), World.size_setCell]
theorem Byt.sets {w : World} {g n i : Nat} {c : Nat → Int} (h : Byt w g n c) (hi : i ≤ n) (vs : List Value) : Byt (w.setCells g i vs) g i c := by
  refine ⟨by rw [sizeSets]; exact h.1, fun j hj => ⟨?_, ?_⟩⟩
  · rw [World.cell?_setCells_out g vs i w ⟨g, j, none⟩ (fun _ _ => .inl hj)]; exact (h.2 j (by omega)).1
  · rw [World.frozen?_setCells]; exact (h.2 j (by omega)).2
theorem Byt.less {w : World} {g n m : Nat} {c : Nat → Int} (h : Byt w g n c) (hm : m ≤ n) : Byt w g m c := ⟨h.1, fun j hj => h.2 j (by omega)⟩

/-- what a predicate on bytes does in any world that is above block B as w is -/
def PredB (F : Nat) (caps : Array Value) (p : Int → Bool) (B : Nat) (w : World) : Prop :=
  (∀ (x : Int) (wx : World), 0 ≤ x → x < 256 → Below B w wx → B ≤ wx.heap.size → Calls Try.prog F (#[.int .u8 x] ++ caps) wx fun e w' => e = .returned (.bool (p x)) ∧ Below wx.heap.size wx w') ∧
  (∀ (args : Array Value) (w : World), (callFunc F args).run Try.prog w = .ok (.enter F args) w)

set_option maxRecDepth 100000 in
set_option maxHeartbeats 1000000 in
theorem indexFuncB_any (g n cap : Nat) (f : Nat → Int) (F : Nat) (caps : Array Value) (p : Int → Bool) (j B : Nat) (w : World) (hn : n ≤ 1048576) (ha : Byt w g n f) (hf0 : ∀ i, 0 ≤ f i ∧ f i < 256) (hB : B ≤ w.heap.size)
    (hj : j ≤ n) (hno : ∀ i, i < j → p (f i) = false) (hyes : j < n → p (f j) = true)
    (hp : PredB F caps p B w) {r : Int} (hr : (if j < n then (j : Int) else -1) = r) :
    Calls Try.prog 60 #[.slice (some ⟨g, 0, none⟩) n cap, .func (.func F) #[] caps] w fun e w' => e = .returned (.int .i64 r) ∧ Below w.heap.size w w' := by
  obtain ⟨hf, hE⟩ := hp
  have Ha : Hid (∀ i, i < n → w.cell? ⟨g, i, none⟩ = some (.int .u8 (f i))) := fun i hi => (ha.2 i hi).1
  have Hf := Lib.hid hf
  have Hno := Lib.hid hno
  have Hyes := Lib.hid hyes
  have Hr := Lib.hid hr
  have H0 := Lib.hid hf0
  have hn63 : n ≤ 9223372036854775807 := by omega
  clear ha hf hno hyes hr hf0
  go_enter Try.func60, Try.ntmps60
  go_wp2_with fail
  go_loopw [8] (fun c wr => ∃ k : Nat, k ≤ j ∧ c = .int .i64 (k : Int) ∧ Below w.heap.size w wr) (fun c _ => n - (intOf c).toNat)
  case atStart => exact ⟨0, Nat.zero_le _, rfl, Below.refl _ _⟩
  case round =>
    obtain ⟨k, hk, rfl, hL⟩ := hrel
    by_cases hlt : k < n
    · have hca := cell_later hL (Ha.out k hlt)
      have hi1 : (k : Int) < (n : Int) := by omega
      have hi0 : (0 : Int) ≤ (k : Int) := by omega
      have hz := hL.size
      have hx := H0.out k
      have HC : Hid (∀ b, p (f k) = b → Calls Try.prog F (#[.int .u8 (f k)] ++ caps) wr fun e w' => e = .returned (.bool b) ∧ Below wr.heap.size wr w') := fun b hb => by
        have := Hf.out (f k) wr hx.1 hx.2 (hL.mono hB) (by omega)
        rwa [hb] at this
      by_cases hkj : k < j
      · have HC2 := Lib.hid (HC.out false (Hno.out k hkj))
        clear HC
        generalize f k = x at *
        go_wp2_with ((with_reducible refine HC2.out.mono ?_); rintro e w' ⟨rfl, hb⟩; have hL := chain (B := w.heap.size) (a := w) hL (Nat.le_refl _) hb; clear hb)
        go_roundw
        case rel => exact ⟨k + 1, by omega, by go_num, hL⟩
        case measure => simp [intOf]; omega
      · have e : k = j := by omega
        subst e
        have HC2 := Lib.hid (HC.out true (Hyes.out hlt))
        have HR : Hid (r = (k : Int)) := by have := Hr.out; rw [if_pos hlt] at this; exact this.symm
        clear HC
        generalize f k = x at *
        go_wp2_with ((with_reducible refine HC2.out.mono ?_); rintro e w' ⟨rfl, hb⟩; have hL := chain (B := w.heap.size) (a := w) hL (Nat.le_refl _) hb; clear hb)
        go_ret
        exact ⟨by rw [HR.out]; rfl, hL⟩
    · have HR : Hid (r = -1) := by have := Hr.out; rw [if_neg (by omega)] at this; exact this.symm
      go_wp2_with fail
      go_ret
      exact ⟨by rw [HR.out]; rfl, hL⟩

set_option maxRecDepth 100000 in
set_option maxHeartbeats 1000000 in
theorem containsFuncB_any (g n cap : Nat) (f : Nat → Int) (F : Nat) (caps : Array Value) (p : Int → Bool) (B : Nat) (w : World) (hn : n ≤ 1048576) (ha : Byt w g n f) (hf0 : ∀ i, 0 ≤ f i ∧ f i < 256) (hB : B ≤ w.heap.size)
    (hp : PredB F caps p B w) {b : Bool} (hb : decide (∃ i, i < n ∧ p (f i) = true) = b) :
    Calls Try.prog 53 #[.slice (some ⟨g, 0, none⟩) n cap, .func (.func F) #[] caps] w fun e w' => e = .returned (.bool b) ∧ Below w.heap.size w w' := by
  obtain ⟨j, hj, hno, hyes⟩ := firstB (fun i => p (f i)) n
  have hI : Hid (∀ {r : Int}, (if j < n then (j : Int) else -1) = r → Calls Try.prog 60 #[.slice (some ⟨g, 0, none⟩) n cap, .func (.func F) #[] caps] w fun e w' => e = .returned (.int .i64 r) ∧ Below w.heap.size w w') :=
    fun h => indexFuncB_any g n cap f F caps p j B w hn ha hf0 hB hj hno hyes hp h
  by_cases hlt : j < n
  · have hBB : Hid (b = true) := by rw [Hid, ← hb]; exact decide_eq_true ⟨j, hlt, hyes hlt⟩
    have HI := Lib.hid (hI.out (if_pos hlt))
    clear hb hI hp hno hyes ha hlt hf0
    go_enter Try.func53, Try.ntmps53
    go_wp2_with fail
    refine HI.out.mono ?_
    rintro e w' ⟨rfl, hL⟩
    go_wp2_with fail
    go_ret
    exact ⟨by rw [hBB.out]; simp, hL⟩
  · have hBB : Hid (b = false) := by
      rw [Hid, ← hb]
      refine decide_eq_false fun ⟨i, hi, h⟩ => ?_
      have := hno i (by omega)
      rw [this] at h; cases h
    have HI := Lib.hid (hI.out (if_neg hlt))
    clear hb hI hp hno hyes ha hlt hf0
    go_enter Try.func53, Try.ntmps53
    go_wp2_with fail
    refine HI.out.mono ?_
    rintro e w' ⟨rfl, hL⟩
    go_wp2_with fail
    go_ret
    exact ⟨by rw [hBB.out]; rfl, hL⟩

theorem zeroU8 (w : World) : (zeroValue 5).run Try.prog w = .ok (.int .u8 0) w := by kernel_rfl

set_option maxRecDepth 100000 in
set_option maxHeartbeats 2000000 in
theorem deleteFuncB_any (g n cap : Nat) (f : Nat → Int) (F : Nat) (caps : Array Value) (p : Int → Bool) (w : World) (hn : n ≤ 1048576) (hcap : n ≤ cap) (hcap2 : cap ≤ 9223372036854775807) (ha : Byt w g n f) (hf0 : ∀ i, 0 ≤ f i ∧ f i < 256)
    (hp : PredB F caps p g w) :
    Calls Try.prog 62 #[.slice (some ⟨g, 0, none⟩) n cap, .func (.func F) #[] caps] w fun e w' => e = .returned (.slice (some ⟨g, 0, none⟩) (keptTo p f n).length cap) ∧ Byt w' g (keptTo p f n).length (fun j => (keptTo p f n).getD j 0) ∧ Below g w w' := by
  obtain ⟨j, hj, hno, hyes⟩ := firstB (fun i => p (f i)) n
  have hgz := ha.1
  have hI : Hid (∀ {r : Int}, (if j < n then (j : Int) else -1) = r → Calls Try.prog 60 #[.slice (some ⟨g, 0, none⟩) n cap, .func (.func F) #[] caps] w fun e w' => e = .returned (.int .i64 r) ∧ Below w.heap.size w w') :=
    fun h => indexFuncB_any g n cap f F caps p j g w hn ha hf0 (Nat.le_of_lt hgz) hj hno hyes hp h
  by_cases hlt : j < n
  · have HI := Lib.hid (hI.out (if_pos hlt))
    have HA := Lib.hid ha
    have HP := Lib.hid hp
    have H0 := Lib.hid hf0
    have HK : Hid ((keptTo p f j).length = j) := by unfold Hid; rw [keptTo_all hno]; simp
    have HK1 : Hid (keptTo p f (j + 1) = keptTo p f j) := keptTo_skip (hyes hlt)
    have HB0 : Hid (∀ i, keepB p f (j + 1) i = f i) := fun i => by rw [keepB_skip (hyes hlt), keepB_first hno]
    have hj63 : (j : Int) + 1 ≤ 9223372036854775807 := by omega
    have hj0 : ((j : Int) == -1) = false := by rw [beq_eq_false_iff_ne]; omega
    clear hI hp hno hyes ha hf0
    go_enter Try.func62, Try.ntmps62
    go_wp2_with fail
    refine HI.out.mono ?_
    rintro e w1 ⟨rfl, hL1⟩
    have hB1 := (HA.out.keep hL1).congr (c' := keepB p f (j + 1)) fun i _ => HB0.out i
    have hL1g := hL1.mono (Nat.le_of_lt hgz)
    clear hL1
    go_wp2_with fail
    go_loopw [5, 6] (fun i c wr => ∃ k : Nat, k ≤ n ∧ j + 1 ≤ k ∧ c = .int .i64 (k : Int) ∧ i = .int .i64 ((keptTo p f k).length : Int) ∧ (keptTo p f k).length < k ∧ Below g w wr ∧ Byt wr g n (keepB p f k)) (fun _ c _ => n - (intOf c).toNat)
    case atStart => exact ⟨j + 1, by omega, Nat.le_refl _, by go_num, by rw [HK1.out, HK.out], by rw [HK1.out, HK.out]; omega, hL1g, hB1⟩
    case round =>
      clear hB1 hL1g
      obtain ⟨k, hk, hjk, rfl, rfl, hlen, hL, hB⟩ := hrel
      by_cases hkn : k < n
      · have hca := (hB.2 k hkn).1
        rw [keepB_at] at hca
        have hi1 : (k : Int) < (n : Int) := by omega
        have hi0 : (0 : Int) ≤ (k : Int) := by omega
        have hx := H0.out k
        have hz0 := hB.1
        have HC : Hid (∀ b, p (f k) = b → Calls Try.prog F (#[.int .u8 (f k)] ++ caps) wr fun e w' => e = .returned (.bool b) ∧ Below wr.heap.size wr w') := fun b hb => by
          have := HP.out.1 (f k) wr hx.1 hx.2 hL (by omega)
          rwa [hb] at this
        have hE := HP.out.2
        cases hpk : p (f k)
        · have HC2 := Lib.hid (HC.out false hpk)
          have HT : Hid (∀ w', Below wr.heap.size wr w' → Byt (w'.setCell ⟨g, (keptTo p f k).length, none⟩ (.int .u8 (f k))) g n (keepB p f (k + 1)) ∧ w'.frozen? ⟨g, (keptTo p f k).length, none⟩ = false ∧ ∃ u, w'.cell? ⟨g, (keptTo p f k).length, none⟩ = some u) := fun w' hb => by
            have h2 := hB.keep hb
            exact ⟨h2.set _ _ (keepB_new hpk) (fun i hi => keepB_old hpk hi) (by omega), (h2.2 _ (by omega)).2, _, (h2.2 _ (by omega)).1⟩
          have HN : Hid ((keptTo p f (k + 1)).length = (keptTo p f k).length + 1) := by unfold Hid; rw [keptTo_more hpk]; simp
          clear HC hB hpk
          generalize hm : (keptTo p f k).length = m at *
          generalize f k = x at *
          have hm1 : (m : Int) < (n : Int) := by omega
          have hm0 : (0 : Int) ≤ (m : Int) := by omega
          clear hm
          go_wp2_with ((with_reducible refine HC2.out.mono ?_); rintro e w' ⟨rfl, hb⟩; obtain ⟨hB2, hfr, u, hcu⟩ := HT.out _ hb; have HB2 := Lib.hid hB2; clear hB2; have hL := chain (B := g) (a := w) hL (by omega) hb; clear hb)
          exact ⟨⟨k + 1, by omega, by omega, by go_num, by rw [HN.out]; go_num, by rw [HN.out]; omega, hL.setCell (p := ⟨g, m, none⟩) (Nat.le_refl _) _, HB2.out⟩, by simp [intOf]; omega⟩
        · have HC2 := Lib.hid (HC.out true hpk)
          have HT : Hid (∀ w', Below wr.heap.size wr w' → Byt w' g n (keepB p f (k + 1))) := fun w' hb => (hB.keep hb).congr fun i _ => keepB_skip hpk i
          have HN : Hid (keptTo p f (k + 1) = keptTo p f k) := keptTo_skip hpk
          clear HC hB hpk
          generalize f k = x at *
          go_wp2_with ((with_reducible refine HC2.out.mono ?_); rintro e w' ⟨rfl, hb⟩; have HB2 := Lib.hid (HT.out _ hb); have hL := chain (B := g) (a := w) hL (by omega) hb; clear hb)
          exact ⟨⟨k + 1, by omega, by omega, by go_num, by rw [HN.out], by rw [HN.out]; omega, hL, HB2.out⟩, by simp [intOf]; omega⟩
      · have e : k = n := by omega
        subst e
        have HD : Hid (Byt wr g k (keepB p f k)) := hB
        have HE : Hid (∀ j, j < (keptTo p f k).length → (keptTo p f k).getD j 0 = keepB p f k j) := fun j hj => (keepB_done p f k j hj).symm
        generalize hm : (keptTo p f k).length = m at *
        have HM := Lib.hid hm
        clear hm
        have hm1 : (m : Int) ≤ (k : Int) := by omega
        have hm2 : (m : Int) ≤ (cap : Int) := by omega
        have hm3 : (k : Int) ≤ (cap : Int) := by omega
        have hm0 : (0 : Int) ≤ (m : Int) := by omega
        have hcl : ∀ ty, (Builtin.clear_ #[73] ty #[.slice (some ⟨g, m, none⟩) (k - m) (cap - m)]).run Try.prog wr = .ok (.tuple #[]) (wr.setCells g m (List.replicate (k - m) (.int .u8 0))) :=
          fun ty => Lib.run_clear_slice wr 73 5 ty (.int .u8 0) Try.underlying73 zeroU8 rfl rfl g m (k - m) (cap - m) (by omega) (fun i hi => by rw [(hB.2 (m + i) (by omega)).1]; rfl) (fun i hi => (hB.2 (m + i) (by omega)).2)
        clear hB
        go_wp2_with (simp only [hcl])
        go_ret
        rw [HM.out]
        exact ⟨rfl, (HD.out.sets (by omega) _).congr fun j hj => HE.out j hj, belowSets (Nat.le_refl _) _ _ _ _ hL⟩
  · have HI := Lib.hid (hI.out (if_neg hlt))
    have hjn : j = n := by omega
    subst hjn
    have HK := keptTo_all hno
    have HL : Hid ((keptTo p f j).length = j) := by unfold Hid; rw [HK]; simp
    have HB : Hid (Byt w g j (fun i => (keptTo p f j).getD i 0)) := ha.congr fun i hi => by rw [HK, List.getD_eq_getElem?_getD, List.getElem?_map, List.getElem?_range hi]; rfl
    clear hI hp hno hyes ha hf0 HK
    go_enter Try.func62, Try.ntmps62
    go_wp2_with fail
    refine HI.out.mono ?_
    rintro e w1 ⟨rfl, hL1⟩
    have hB1 := Lib.hid (HB.out.keep hL1)
    have hL1g := hL1.mono (Nat.le_of_lt hgz)
    clear hL1
    go_wp2_with fail
    go_ret
    rw [HL.out]
    exact ⟨rfl, hB1.out, hL1g⟩

end Go.Proofs.Ytohmhiodmaahfaa
