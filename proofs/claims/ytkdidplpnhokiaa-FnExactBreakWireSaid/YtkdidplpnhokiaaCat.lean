/- slices.Clone, slices.Grow, slices.Concat of rows. -/
import Derived.Test.YtkdidplpnhokiaaWoS
import Derived.Lib.AppendZeros
namespace Go.Proofs.Ytkdidplpnhokiaa
open Go.RowKit
set_option linter.unusedVariables false

theorem sliceNilW (a : Addr) (n ca : Nat) (w : World) : (binOp .eql 22 (.slice (some a) n ca) (.slice none 0 0)).run Try.prog w = .ok (.bool false) w := by kernel_rfl

set_option maxRecDepth 100000 in
theorem cloneW_any (v : Value) (xs : List Int) (w : World) (ha : Reads w v xs) (h0 : 0 < xs.length) (hn : xs.length ≤ 1000) :
    Calls Try.prog 118 #[v] w fun e w' => ∃ u, e = .returned u ∧ Owns w' w.heap.size u xs ∧ Below w.heap.size w w' := by
  have ho : Owns (w.alloc (.cells #[] 2)) w.heap.size (.slice (some ⟨w.heap.size, 0, none⟩) 0 0) [] :=
    World.ownsRow_made (base := w.heap.size) (e := 2) (size := 1) w #[] 0 (Nat.le_refl _) (by simp) rfl
  obtain ⟨a, ca, rfl, _, hc⟩ := id ha
  obtain ⟨v2, w2, hr, ho2, hg, _⟩ := own_append ho (ha.keep ((Below.refl _ _).alloc (Nat.le_refl _) (.cells #[] 2))) rfl (by simp; omega) (by simp)
  rw [List.nil_append] at ho2
  have hL : Below w.heap.size w w2 := Below.grown (by go_grown) hg (by simp) (fun q e => by simp [Value.ownBlock] at e; omega)
  have HO := Lib.hid ho2
  obtain ⟨b, off, rfl⟩ : ∃ b off, a = some ⟨b, off, none⟩ := by
    rcases hc with h | ⟨b, off, rfl, _⟩
    · rw [h] at h0; cases h0
    · exact ⟨b, off, rfl⟩
  clear ha ho ho2 hg hn hc h0
  generalize xs.length = n at *
  have hsn := fun w => sliceNilW ⟨b, off, none⟩ n ca w
  go_enter Try.func118, Try.ntmps118
  go_wp2_with (at_builtin; refine Lib.wpList_append_run _ rfl _ _ _ _ rfl _ _ rfl rfl _ _ hr ?_)
  go_ret
  exact ⟨_, rfl, HO.out, hL⟩

theorem grownRow (w : World) (n : Nat) (h0 : 0 < n) (h16 : n ≤ 1000) :
    (w.drew.alloc (.cells (Builtin.zeroCells (Value.slice none 0 0).cells n ++ Builtin.zeroCells (Value.slice none 0 0).cells (grownCap w n 0 22 - n)) 22)).ownsRow w.heap.size 22 1 (.slice (some ⟨w.heap.size, 0, none⟩) 0 (grownCap w n 0 22)) 0 [] := by
  have h1 := grownCap_ge w n 0 22
  have h2 := grownCap_le_maxLen w n 0 22 (by unfold maxLen; omega)
  refine ⟨rfl, .inr ⟨w.heap.size, grownCap w n 0 22, Builtin.zeroCells (Value.slice none 0 0).cells n ++ Builtin.zeroCells (Value.slice none 0 0).cells (grownCap w n 0 22 - n), rfl, Nat.le_refl _, ?_, Nat.zero_le _, h2, ?_, by simp⟩⟩
  · show (w.heap.push _)[w.heap.size]? = _
    exact Array.getElem?_push_size
  · simp [Builtin.zeroCells, Value.cells]; omega

set_option maxRecDepth 100000 in
theorem grow_any (n : Nat) (w : World) (h0 : 0 < n) (h16 : n ≤ 1000) :
    Calls Try.prog 126 #[.slice none 0 0, .int .i64 (n : Int)] w fun e w' => ∃ u, e = .returned u ∧ w'.ownsRow w.heap.size 22 1 u 0 [] ∧ Below w.heap.size w w' := by
  obtain ⟨i0, hi, hz0, hz1, hz2⟩ := info_parts infoRow
  have HO := Lib.hid (grownRow w n h0 h16)
  have hr := Lib.run_append_nil_zeros (P := Try.prog) w 23 3 23 22 i0 (.slice none 0 0) .i64 .i64 Try.underlying23 Try.underlying3 hi hz0 n h0 (by omega) (by omega) (by rw [hz2]; omega)
  have h1 := grownCap_ge w n 0 22
  have hL : Below w.heap.size w (w.drew.alloc (.cells (Builtin.zeroCells (Value.slice none 0 0).cells n ++ Builtin.zeroCells (Value.slice none 0 0).cells (grownCap w n 0 22 - n)) 22)) := by go_grown
  generalize (w.drew.alloc (.cells (Builtin.zeroCells (Value.slice none 0 0).cells n ++ Builtin.zeroCells (Value.slice none 0 0).cells (grownCap w n 0 22 - n)) 22)) = w2 at *
  generalize grownCap w n 0 22 = cap at *
  have e1 : ¬ cap = 0 := by omega
  have e2 : (0 : Int) ≤ (cap : Int) := by omega
  have e3 : (0 : Int) < (n : Int) := by omega
  have e4 : ¬ (n : Int) < 0 := by omega
  clear hi hz0 hz1 hz2
  go_enter Try.func126, Try.ntmps126
  go_wp2_with (at_builtin; refine Lib.wpList_append_run _ rfl _ _ _ _ rfl _ _ rfl rfl _ _ hr ?_)
  all_goals go_ret
  all_goals exact ⟨_, rfl, HO.out, hL⟩

set_option maxRecDepth 100000 in
theorem grow_zero (w : World) :
    Calls Try.prog 126 #[.slice none 0 0, .int .i64 0] w fun e w' => ∃ u, e = .returned u ∧ w'.ownsRow w.heap.size 22 1 u 0 [] ∧ Below w.heap.size w w' := by
  go_enter Try.func126, Try.ntmps126
  go_wp2_with fail
  go_ret
  exact ⟨_, rfl, World.ownsRow_nil _ _ _ _, Below.refl _ _⟩

/-- what lies in the slice as rows, for a slice of another block -/
def RowsAt (w : World) (a : Option Addr) (n : Nat) (vs : List Value) (L : List (List Int)) : Prop :=
  L.length = n ∧ (0 < L.length → ∃ ad, a = some ad ∧ ∀ j x, vs[j]? = some x → w.cell? (ad.add j) = some x) ∧ ∀ X, (∀ b, X = some b → w.heap.size ≤ b) → Rws w X vs L
theorem ar_next {w : World} {B n c : Nat} {u : Value} {L M : List (List Int)} {a : Option Addr} {ns : List Value} {w0 : World} (h : Ar w B u L) (hr : RowsAt w0 a n ns M) (hb : Below w0.heap.size w0 w) (hu : ∀ b, u.ownBlock = some b → w0.heap.size ≤ b) (hl : L.length + M.length ≤ 1000000) (hB : B ≤ w.heap.size) :
    ∃ v' w', (Builtin.append_ #[23, 23] 23 #[u, .slice a n c]).run Try.prog w = .ok v' w' ∧ Ar w' B v' (L ++ M) ∧ w.grownBy w' u.ownBlock ∧ (v'.ownBlock = u.ownBlock ∨ v'.ownBlock = some w.heap.size) := by
  obtain ⟨vs, h1, h2⟩ := h
  obtain ⟨hn, hc, hX⟩ := hr
  have h3 : Rws w u.ownBlock ns M := (hX _ hu).keep hb
  obtain ⟨v', w', hrun, ho, hg, hat⟩ := ar_plus (c := c) h1 h3 (fun h0 => by
    obtain ⟨ad, e, hh⟩ := hc h0
    exact ⟨ad, e, fun j x hj => cell_later hb (hh j x hj)⟩) hn hl hB
  exact ⟨v', w', hrun, Ar.more h2 h3 (by rw [List.length_append] at ho; exact ho) hg hat, hg, hat⟩

/-- the first k of two lists, joined -/
def catTo (L1 L2 : List (List Int)) (k : Nat) : List (List Int) := if k = 0 then [] else if k = 1 then L1 else L1 ++ L2

set_option maxRecDepth 100000 in
set_option maxHeartbeats 1000000 in
theorem concat_any (bq : Nat) (a1 a2 : Option Addr) (n1 c1 n2 c2 : Nat) (vs1 vs2 : List Value) (L1 L2 : List (List Int)) (w : World) (k0 : w.cell? ⟨bq, 0, none⟩ = some (.slice a1 n1 c1)) (k1 : w.cell? ⟨bq, 1, none⟩ = some (.slice a2 n2 c2))
    (h1 : RowsAt w a1 n1 vs1 L1) (h2 : RowsAt w a2 n2 vs2 L2) (hs1 : n1 ≤ 100) (hs2 : n2 ≤ 100) :
    Calls Try.prog 92 #[.slice (some ⟨bq, 0, none⟩) 2 2] w fun e w' => ∃ u, e = .returned u ∧ Ar w' w.heap.size u (L1 ++ L2) ∧ Below w.heap.size w w' := by
  have HR1 := Lib.hid h1
  have HR2 := Lib.hid h2
  have HK0 := Lib.hid k0
  have HK1 := Lib.hid k1
  have HG : Hid (Calls Try.prog 126 #[.slice none 0 0, .int .i64 ((n1 + n2 : Nat) : Int)] w fun e w' => ∃ u, e = .returned u ∧ w'.ownsRow w.heap.size 22 1 u 0 [] ∧ Below w.heap.size w w') := by
    by_cases h : n1 + n2 = 0
    · rw [h]; exact grow_zero w
    · exact grow_any (n1 + n2) w (by omega) (by omega)
  clear h1 h2 k0 k1
  go_enter Try.func92, Try.ntmps92
  go_wp2_with fail
  go_loopw [3, 11] (fun s c wr => wr = w ∧ ∃ k : Nat, k ≤ 2 ∧ c = .int .i64 (k : Int) ∧ s = .int .i64 (((if k = 0 then 0 else if k = 1 then n1 else n1 + n2) : Nat) : Int)) (fun _ c _ => 2 - (intOf c).toNat)
  case atStart => exact ⟨by first | rfl | trivial, 0, by omega, rfl, rfl⟩
  case round =>
    obtain ⟨rfl, k, hk, rfl, rfl⟩ := hrel
    rcases (show k = 0 ∨ k = 1 ∨ k = 2 by omega) with rfl | rfl | rfl
    · have hc := HK0.out
      have e1 : ¬ (n1 : Int) < 0 := by omega
      have e2 : (n1 : Int) ≤ 100 := by omega
      go_wp2_with fail
      exact ⟨⟨by first | rfl | trivial, 1, by omega, by go_num, by simp⟩, by simp [intOf]⟩
    · have hc := HK1.out
      have e1 : ¬ ((n1 : Int) + (n2 : Int)) < 0 := by omega
      have e2 : (n1 : Int) + (n2 : Int) ≤ 200 := by omega
      go_wp2_with fail
      exact ⟨⟨by first | rfl | trivial, 2, by omega, by go_num, by simp⟩, by simp [intOf]⟩
    · obtain ⟨w0, hw0⟩ : ∃ w0 : World, w0 = wr := ⟨_, rfl⟩
      subst hw0
      go_wp2_with fail
      refine HG.out.mono ?_
      rintro e w2 ⟨u, rfl, ho, hb⟩
      have HA0 : Hid (Ar w2 w0.heap.size u (catTo L1 L2 0)) := ⟨[], ho, Rws.nil _ _⟩
      have HB0 := Lib.hid hb
      clear ho hb
      go_wp2_with fail
      go_loopw [6, 27] (fun s c wx => ∃ k : Nat, k ≤ 2 ∧ c = .int .i64 (k : Int) ∧ Hid (Ar wx w0.heap.size s (catTo L1 L2 k)) ∧ Hid (Below w0.heap.size w0 wx)) (fun _ c _ => 2 - (intOf c).toNat)
      case atStart => exact ⟨0, by omega, rfl, HA0, HB0⟩
      case round =>
        clear HA0 HB0
        obtain ⟨k, hk, rfl, HA, HB⟩ := hrel
        have hlc : (catTo L1 L2 k).length ≤ 200 := by
          have e1 := HR1.out.1
          have e2 := HR2.out.1
          unfold catTo
          split
          · simp
          · split
            · omega
            · rw [List.length_append]; omega
        have hu : ∀ b, u6.ownBlock = some b → w0.heap.size ≤ b := fun b e => by
          obtain ⟨vs, h1, _⟩ := HA.out
          exact (World.ownsRow.lt h1 b e).1
        rcases (show k = 0 ∨ k = 1 ∨ k = 2 by omega) with rfl | rfl | rfl
        · have hc := cell_later HB.out HK0.out
          obtain ⟨v', w', hr, ha', hg, hat⟩ := ar_next (c := c1) HA.out HR1.out HB.out hu (by have := HR1.out.1; omega) HB.out.size
          have HA' : Hid (Ar w' w0.heap.size v' (catTo L1 L2 1)) := by rw [show catTo L1 L2 1 = catTo L1 L2 0 ++ L1 by simp [catTo]]; exact ha'
          have HB' := Lib.hid (HB.out.grown hg HB.out.size hu)
          clear ha' hg hat hu hlc
          go_wp2_with (at_builtin; refine Lib.wpList_append_run _ rfl _ _ _ _ rfl _ _ rfl rfl _ _ hr ?_)
          exact ⟨⟨1, by omega, by go_num, HA', HB'⟩, by simp [intOf]⟩
        · have hc := cell_later HB.out HK1.out
          obtain ⟨v', w', hr, ha', hg, hat⟩ := ar_next (c := c2) HA.out HR2.out HB.out hu (by have := HR2.out.1; omega) HB.out.size
          have HA' : Hid (Ar w' w0.heap.size v' (catTo L1 L2 2)) := by rw [show catTo L1 L2 2 = catTo L1 L2 1 ++ L2 by simp [catTo]]; exact ha'
          have HB' := Lib.hid (HB.out.grown hg HB.out.size hu)
          clear ha' hg hat hu hlc
          go_wp2_with (at_builtin; refine Lib.wpList_append_run _ rfl _ _ _ _ rfl _ _ rfl rfl _ _ hr ?_)
          exact ⟨⟨2, by omega, by go_num, HA', HB'⟩, by simp [intOf]⟩
        · go_wp2_with fail
          go_ret
          exact ⟨_, rfl, HA.out, HB.out⟩

end Go.Proofs.Ytkdidplpnhokiaa
