/- The value of a formula in a row: the model's. -/
import Derived.Test.YtohmhiodmaahfaaDoorFvM
import Derived.Test.YtohmhiodmaahfaaDoorFmS
import Derived.Test.YtohmhiodmaahfaaDoorFmI
import Derived.Test.YtohmhiodmaahfaaDoorSplit
import Derived.Test.YtohmhiodmaahfaaDoorCo0
import Derived.Test.YtohmhiodmaahfaaDoorFvL
import Derived.Deep.RegionHeld3
import Derived.Deep.RegionWith
import Derived.Lib.Strings
namespace Go.Proofs.YtohmhiodmaahfaaDoor
open Go.RowKit
set_option linter.unusedVariables false

theorem l04Sign_yes (c : Int) (w : World) (h : letC c = true) {i k : Int} (hi : inpC c = i) (hk : kndC c = k) :
    Calls Tryd.prog 61 #[.int .u8 c] w fun e w' => e = .returned (.tuple #[.int .i64 i, .int .i64 k, .bool true]) ∧ w = w' := by
  have h2 := of_decide_eq_true (show decide _ = true from h)
  rcases h2 with h2 | h2
  · have e1 : inpC c = c - 97 := by unfold inpC; rw [if_neg (by omega)]
    have e2 : kndC c = 0 := by unfold kndC; rw [if_neg (by omega)]
    rw [e1] at hi
    rw [e2] at hk
    subst hi hk
    obtain ⟨a1, a2⟩ := h2
    clear e1 e2 h
    go_enter Tryd.func61, Tryd.ntmps61
    go_wp2
    go_ret3
    exact ⟨rfl, rfl⟩
  · have e1 : inpC c = c - 65 := by unfold inpC; rw [if_pos (by omega)]
    have e2 : kndC c = 1 := by unfold kndC; rw [if_pos (by omega)]
    rw [e1] at hi
    rw [e2] at hk
    subst hi hk
    obtain ⟨a1, a2⟩ := h2
    have a3 : c < 97 := by omega
    clear e1 e2 h
    go_enter Tryd.func61, Tryd.ntmps61
    go_wp2
    go_ret3
    exact ⟨rfl, rfl⟩
theorem l04Sign_no (c : Int) (w : World) (h : letC c = false) :
    Calls Tryd.prog 61 #[.int .u8 c] w fun e w' => e = .returned (.tuple #[.int .i64 0, .int .i64 0, .bool false]) ∧ w = w' := by
  have h2 := of_decide_eq_false (show decide _ = false from h)
  have h3 : c < 65 ∨ (69 < c ∧ c < 97) ∨ 101 < c := by omega
  clear h h2
  rcases h3 with h | ⟨h, h'⟩ | h
  · have : c < 97 := by omega
    go_enter Tryd.func61, Tryd.ntmps61
    go_wp2
    go_ret3
    exact ⟨rfl, rfl⟩
  · have : 65 ≤ c := by omega
    go_enter Tryd.func61, Tryd.ntmps61
    go_wp2
    go_ret3
    exact ⟨rfl, rfl⟩
  · have : 97 ≤ c := by omega
    have : 65 ≤ c := by omega
    have : ¬ c ≤ 69 := by omega
    go_enter Tryd.func61, Tryd.ntmps61
    go_wp2
    go_ret3
    exact ⟨rfl, rfl⟩

/-- where the member k of a formula in brackets begins -/
def offM (ms : List Fm) (k : Nat) : Nat := 1 + (txtL (ms.take k)).length
theorem offM_next {ms : List Fm} {k : Nat} (h : k < ms.length) : offM ms (k + 1) = offM ms k + (txtF (ms.getD k (.mk 0 []))).length := by
  unfold offM; rw [take_snoc h (.mk 0 []), txtL_append, List.length_append]; simp [txtL]; omega
theorem parts_facts {c : Int} {ms : List Fm} (hw : wfF (.mk c ms)) (ho : openC c = true) : ∀ k, k < ms.length →
    offM ms k < (txtS (.mk c ms)).size - 1 ∧ offM ms k < offM ms (k + 1) ∧ offM ms (k + 1) ≤ (txtS (.mk c ms)).size ∧ endZ (txtS (.mk c ms)) none (offM ms k) = (offM ms (k + 1) : Nat) ∧ (txtS (.mk c ms)).extract (offM ms k) (offM ms (k + 1)) = txtS (ms.getD k (.mk 0 [])) := by
  intro k hk
  obtain ⟨h2, hwl, ha, hz, h0⟩ := txtS_open hw ho
  have e := offM_next hk
  have hp := txtF_pos (ms.getD k (.mk 0 []))
  have hl := txtL_take ms k hk
  have hat := txtL_at ha hk
  have hwk := wfL_at hwl hk
  have hoff : offM ms k = 1 + (txtL (ms.take k)).length := rfl
  rw [← hoff] at hat
  refine ⟨by omega, by omega, by omega, ?_, ?_⟩
  · rw [e]; exact endZ_some (rdF_text hwk hat (by omega))
  · rw [e]; exact txtS_part hwk (by omega) hat

set_option maxRecDepth 100000 in
set_option maxHeartbeats 2000000 in
theorem l04Parts_any {c : Int} {ms : List Fm} (hw : wfF (.mk c ms)) (ho : openC c = true) (hz : (txtS (.mk c ms)).size ≤ 1048576) (w : World) :
    Calls Tryd.prog 62 #[.string (txtS (.mk c ms))] w fun e w' => ∃ u, e = .returned u ∧ OwnsS w' w.heap.size u (ms.map txtS) ∧ Below w.heap.size w w' := by
  have HF := Lib.hid (parts_facts hw ho)
  have hsz : (txtS (.mk c ms)).size = offM ms ms.length + 1 := by
    have := (txtS_open hw ho).2.2.2.1
    unfold offM; rw [List.take_length]; omega
  have hml : ms.length ≤ 1048576 := by
    have : ∀ (l : List Fm), l.length ≤ (txtL l).length := by
      intro l
      induction l with
      | nil => simp
      | cons t ts ih => have := txtF_pos t; simp [txtL]; omega
    have := this ms
    have := (txtS_open hw ho).2.2.2.1
    omega
  have HE := Lib.hid (fun (a : Nat) (w : World) (h : a ≤ (txtS (.mk c ms)).size) => l04End_any (txtS (.mk c ms)) hz (txtS (.mk c ms)).size a w (by omega) h)
  obtain ⟨s, hs⟩ : ∃ s, txtS (.mk c ms) = s := ⟨_, rfl⟩
  rw [hs] at HF HE hz hsz
  rw [hs]
  clear hs hw ho
  have H1 : Hid (1 ≤ offM ms 0 ∧ offM ms 0 ≤ 1) := ⟨by unfold offM; omega, by unfold offM; simp [txtL]⟩
  obtain ⟨i0, hi, hz0, hz1, hz2⟩ := info_parts infoStr
  have oo : OwnsS (w.alloc (.cells #[] 9)) w.heap.size (.slice (some ⟨w.heap.size, 0, none⟩) 0 0) ((ms.take 0).map txtS) :=
    World.ownsRow_made (base := w.heap.size) (e := 9) (size := 1) w #[] 0 (by simp) (by simp) rfl
  have hb63 : s.size ≤ 9223372036854775807 := by omega
  have hwr : IntKind.i64.wrap ((s.size : Int) - 1) = ((s.size - 1 : Nat) : Int) := by rw [IntWalk.i64_in _ (by omega)]; omega
  have hwr2 : wrap64 ((s.size : Int) - 1) = ((s.size - 1 : Nat) : Int) := by rw [IntWalk.wrap64_in _ (by omega)]; omega
  have hwr3 : ((s.size : Int) - 1) = ((s.size - 1 : Nat) : Int) := by omega
  have HSZ := Lib.hid hsz
  clear hsz
  go_enter Tryd.func62, Tryd.ntmps62
  go_wp2_with fail
  go_loopw [3, 4] (fun u c' wr => ∃ k : Nat, k ≤ ms.length ∧ c' = .int .i64 (offM ms k : Int) ∧ Below w.heap.size w wr ∧ OwnsS wr w.heap.size u ((ms.take k).map txtS)) (fun _ c' _ => s.size - (intOf c').toNat)
  case atStart => exact ⟨0, Nat.zero_le _, by have := H1.out; rw [show offM ms 0 = 1 by omega]; rfl, by go_grown, oo⟩
  case round =>
    clear oo
    obtain ⟨k, hk, rfl, hL, oo⟩ := hrel
    by_cases hlt : k < ms.length
    · obtain ⟨f1, f2, f3, f4, f5⟩ := HF.out k hlt
      have HC := Lib.hid (HE.out (offM ms k) · (by omega))
      rw [f4] at HC
      have H5 := Lib.hid f5
      have hn : (ms.take k).length ≤ 1048576 := by rw [List.length_take]; omega
      have hml2 : ((ms.take k).map txtS).length ≤ 1048576 := by simpa using hn
      have HN : Hid ((ms.take (k + 1)).map txtS = (ms.take k).map txtS ++ [txtS (ms.getD k (.mk 0 []))]) := by unfold Hid; rw [take_snoc hlt (.mk 0 [])]; simp
      have hz' := hL.size
      have hfrom := World.ownsRow.lt oo
      obtain ⟨A, hA⟩ : ∃ A, offM ms k = A := ⟨_, rfl⟩
      obtain ⟨B, hB⟩ : ∃ B, offM ms (k + 1) = B := ⟨_, rfl⟩
      have HB := Lib.hid hB
      rw [hA, hB] at f2 H5
      rw [hB] at f3 HC
      rw [hA] at f1 HC
      clear f4 f5 hB
      rw [hA]
      clear hA
      have g1 : (A : Int) < ((s.size - 1 : Nat) : Int) := by omega
      have g2 : (A : Int) ≤ (B : Int) := by omega
      have g3 : (B : Int) ≤ (s.size : Int) := by omega
      have g0 : (0 : Int) ≤ (A : Int) := by omega
      go_wp2_with (first | (go_at_call 60; refine (HC.out _).mono ?_; rintro e w' ⟨rfl, rfl⟩) | (at_builtin; refine wpList_append_own _ rfl _ _ 38 rfl w.heap.size 9 i0 (.string ByteArray.empty) 1 16 Tryd.underlying38 hi hz0 hz1 hz2 rfl (by decide) _ _ _ rfl (World.ownsRow.alloc oo _) ⟨wr.heap.size, 0, none⟩ 1 1 [.string (s.extract A B)] rfl rfl (cell_one_new _ _ _) (by simp [Value.oneCell']) (by unfold maxLen; omega) (by omega) (by simp; omega) ?_; intro v' w1 hown' hgrow hnil))
      exact ⟨⟨k + 1, by omega, by rw [HB.out], (hL.alloc (by omega) _).grown hgrow (by simp; omega) (fun b e => (hfrom b e).1), by rw [HN.out, ← H5.out]; exact OwnsS.snoc hown'⟩, by simp [intOf]; omega⟩
    · have e : k = ms.length := by omega
      subst e
      have hn : ¬ ((offM ms ms.length : Nat) : Int) < ((s.size - 1 : Nat) : Int) := by have := HSZ.out; omega
      rw [List.take_length] at oo
      go_wp2_with fail
      go_ret
      exact ⟨_, rfl, oo, hL⟩

theorem OwnsS.at {w : World} {base : Nat} {v : Value} {l : List ByteArray} (h : OwnsS w base v l) : ∃ (a : Option Addr) (cap : Nat), v = .slice a l.length cap ∧ ∀ i, i < l.length → ∃ g, a = some ⟨g, 0, none⟩ ∧ w.cell? ⟨g, i, none⟩ = some (.string (l.getD i ByteArray.empty)) := by
  have h0 := h
  obtain ⟨h1, h2⟩ := h
  rcases h2 with ⟨rfl, hn⟩ | ⟨g, cap, cur, rfl, hb, hg, hc, hm, hs, ht⟩
  · exact ⟨none, 0, by rw [hn], fun i hi => by omega⟩
  · refine ⟨_, cap, rfl, fun i hi => ⟨g, rfl, ?_⟩⟩
    have hw : w.ownsRow base 9 1 (.slice (some ⟨g, 0, none⟩) l.length cap) l.length (l.map Value.string) := h0
    rw [hw.cellAt i (by omega)]
    simp [List.getElem?_map, List.getD_eq_getElem?_getD, List.getElem?_eq_getElem hi]

theorem str_one (s : ByteArray) (c : Int) (hs : s.size = 1) (hb : byteAt s 0 = c) : (s.toList == [49]) = decide (c = 49) := by
  rw [Lib.toList_data, Bool.eq_iff_iff, decide_eq_true_iff, beq_iff_eq]
  constructor
  · intro h
    have e : s = ⟨#[49]⟩ := by
      cases s with
      | mk d => congr 1; exact Array.toList_inj.1 h
    rw [← hb, e]; rfl
  · rintro rfl
    have e : s = ⟨#[49]⟩ := by
      apply bytes_ext
      · rw [hs]; rfl
      · intro k hk
        have e : k = 0 := by omega
        subst e
        rw [hb]; rfl
    rw [e]
/-- the value of a formula in brackets, when its members down to the first that rules are known -/
theorem valF_ser {d : Int → Bool} {ms : List Fm} {j : Nat} (hj : j ≤ ms.length) (hno : ∀ i, i < j → valF d (ms.getD i (.mk 0 [])) = true) (hyes : j < ms.length → valF d (ms.getD j (.mk 0 [])) = false) : valF d (.mk 40 ms) = decide (j = ms.length) := by
  rw [valF_and]
  by_cases e : j < ms.length
  · rw [andF_cut e _ (hyes e), decide_eq_false (by omega)]
  · have e2 : j = ms.length := by omega
    subst e2
    rw [decide_eq_true rfl]
    have : ∀ k, k ≤ ms.length → andF d (ms.take k) = true := by
      intro k
      induction k with
      | zero => intro _; rfl
      | succ k ih => intro hk; rw [andF_take (by omega) (.mk 0 []), ih (by omega), hno k (by omega)]; rfl
    have := this ms.length (Nat.le_refl _)
    rwa [List.take_length] at this
theorem valF_par {d : Int → Bool} {ms : List Fm} {j : Nat} (hj : j ≤ ms.length) (hno : ∀ i, i < j → valF d (ms.getD i (.mk 0 [])) = false) (hyes : j < ms.length → valF d (ms.getD j (.mk 0 [])) = true) : valF d (.mk 91 ms) = !decide (j = ms.length) := by
  rw [valF_or]
  by_cases e : j < ms.length
  · rw [orF_cut e _ (hyes e), decide_eq_false (by omega)]; rfl
  · have e2 : j = ms.length := by omega
    subst e2
    rw [decide_eq_true rfl]
    have : ∀ k, k ≤ ms.length → orF d (ms.take k) = false := by
      intro k
      induction k with
      | zero => intro _; rfl
      | succ k ih => intro hk; rw [orF_take (by omega) (.mk 0 []), ih (by omega), hno k (by omega)]; rfl
    have := this ms.length (Nat.le_refl _)
    rw [List.take_length] at this
    rw [this]; rfl

end Go.Proofs.YtohmhiodmaahfaaDoor
