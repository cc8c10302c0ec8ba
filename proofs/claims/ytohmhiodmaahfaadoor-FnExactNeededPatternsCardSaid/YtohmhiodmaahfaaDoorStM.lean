/- Lists of texts in laws: compared, marked, held. -/
import Derived.Test.YtohmhiodmaahfaaDoorPrG
import Derived.Test.YtohmhiodmaahfaaDoorJt
import Derived.Test.YtohmhiodmaahfaaDoorByt
import Derived.Test.YtohmhiodmaahfaaDoorMark2
import Derived.Test.YtohmhiodmaahfaaDoorIn
import Derived.BigQuiet
namespace Go.Proofs.YtohmhiodmaahfaaDoor
open Go.RowKit
set_option linter.unusedVariables false

theorem neqStr (a : ByteArray) : (a.toList != a.toList) = false := by simp

set_option maxRecDepth 100000 in
set_option maxHeartbeats 2000000 in
theorem eqStringS_same (u v : Value) (l : List ByteArray) (w : World) (hu : RdS w u l) (hv : RdS w v l) (hl : l.length ≤ 1000) :
    Calls Tryd.prog 21 #[u, v] w fun e w' => e = .returned (.bool true) ∧ Below w.heap.size w w' := by
  obtain ⟨ua, uc, rfl, hu⟩ := hu
  obtain ⟨va, vc, rfl, hv⟩ := hv
  have HU := Lib.hid hu
  have HV := Lib.hid hv
  clear hu hv
  generalize l.length = n at *
  go_enter Tryd.func21, Tryd.ntmps21
  go_wp2_with fail
  go_loopw [5] (fun c wr => ∃ k : Nat, k ≤ n ∧ c = .int .i64 (k : Int) ∧ Hid (Below w.heap.size w wr)) (fun c _ => n - (intOf c).toNat)
  case atStart => exact ⟨0, Nat.zero_le _, rfl, Below.refl _ _⟩
  case round =>
    obtain ⟨k, hk, rfl, hL⟩ := hrel
    by_cases hlt : k < n
    · obtain ⟨g, rfl, h1⟩ := HU.out k hlt
      obtain ⟨g2, rfl, h2⟩ := HV.out k hlt
      have c1 := cell_later hL.out h1
      have c2 := cell_later hL.out h2
      have hi1 : (k : Int) < (n : Int) := by omega
      have hi0 : (0 : Int) ≤ (k : Int) := by omega
      have hq := neqStr (l.getD k ByteArray.empty)
      generalize l.getD k ByteArray.empty = s at *
      clear h1 h2
      go_wp2_with fail
      go_quiet (fail)
      go_wp2_with fail
      exact ⟨⟨k + 1, by omega, by go_num, by first | exact hL | exact Bdrew hL.out _⟩, by simp [intOf]; omega⟩
    · have e : k = n := by omega
      have hkn : ¬ (k : Int) < (n : Int) := by omega
      clear e
      go_wp2_with fail
      go_ret
      exact ⟨rfl, hL.out⟩

/-- the digit of a number, as a text -/
def dT (k : Nat) : ByteArray := ⟨#[u8 ((48 + k % 10 : Nat) : Int)]⟩
def mkD (k : Nat) (out : ByteArray) : ByteArray := if h : k = 0 then out else mkD (k / 10) (dT k ++ out)
termination_by k
decreasing_by omega
theorem mkD_zero (out : ByteArray) : mkD 0 out = out := by rw [mkD]; exact dif_pos rfl
theorem mkD_pos {k : Nat} (h : 0 < k) (out : ByteArray) : mkD k out = mkD (k / 10) (dT k ++ out) := by rw [mkD]; exact dif_neg (by omega)
/-- the text that marks the number k -/
def mkT (k : Nat) : ByteArray := ⟨#[109]⟩ ++ mkD k ByteArray.empty
theorem mkD_le (k : Nat) : ∀ out, (mkD k out).size ≤ out.size + k := by
  induction k using Nat.strongRecOn with
  | _ k ih =>
    intro out
    by_cases h : k = 0
    · subst h; rw [mkD_zero]; omega
    · rw [mkD_pos (by omega)]
      have := ih (k / 10) (by omega) (dT k ++ out)
      have h2 : (dT k ++ out).size = 1 + out.size := by rw [ByteArray.size_append]; rfl
      omega
theorem dig_text (w : World) (k : Nat) (X : Int) (hX : X = ((48 + k % 10 : Nat) : Int)) :
    (convert 92 9 (.slice (some ⟨w.heap.size, 0, none⟩) 1 1)).run Tryd.prog (w.alloc (.cells #[.int .u8 X] 5)) = .ok (.string (dT k)) (w.alloc (.cells #[.int .u8 X] 5)) := by
  have h := run_convert_bytes_back (P := Tryd.prog) (w.alloc (.cells #[.int .u8 X] 5)) 92 9 5 ⟨w.heap.size, 0, none⟩ 1 [u8 ((48 + k % 10 : Nat) : Int)] Tryd.underlying92 Tryd.underlying5 Tryd.underlying9 (fun j hj => by
    have e : j = 0 := by simpa using hj
    subst e
    rw [Addr.add_lit, Nat.zero_add, World.cell?_alloc_at _ _ _ _ rfl]
    have := u8_nat (c := ((48 + k % 10 : Nat) : Int)) (by omega) (by omega)
    simp only [List.getElem_cons_zero]
    rw [this, hX]; rfl)
  exact h

set_option maxRecDepth 100000 in
set_option maxHeartbeats 2000000 in
theorem markText_gr (k : Nat) (hk1 : 1 ≤ k) (hk : k ≤ 1000000) (w : World) :
    Calls Tryd.prog 51 #[.int .i64 (k : Int)] w fun e w' => e = .returned (.string (mkT k)) ∧ Gr w w' := by
  have H0 : Hid (mkT k = ⟨#[109]⟩ ++ mkD k ByteArray.empty) := rfl
  have hle : ¬ (k : Int) ≤ 0 := by omega
  go_enter Tryd.func51, Tryd.ntmps51
  go_wp2_with fail
  go_loopw [0, 3] (fun a o wr => ∃ (j : Nat) (s : ByteArray), a = .int .i64 (j : Int) ∧ o = .string s ∧ Hid (mkD j s = mkD k ByteArray.empty) ∧ s.size + j ≤ k ∧ Hid (Gr w wr)) (fun a _ _ => (intOf a).toNat)
  case atStart => exact ⟨k, ByteArray.empty, rfl, rfl, rfl, by show 0 + k ≤ k; omega, Gr.refl _⟩
  case round =>
    obtain ⟨j, s, rfl, rfl, hE, hs, hG⟩ := hrel
    by_cases hj : 0 < j
    · have hj1 : (0 : Int) < (j : Int) := by omega
      have HP := Lib.hid (mkD_pos hj s)
      have hcat : ¬ 9223372036854775807 < 1 + s.size := by omega
      have hd1 : (dT j).size = 1 := rfl
      have hcv := dig_text wr j (48 + (j : Int) % 10) (by omega)
      have HG2 := Lib.hid (hG.out.trans (Gr.one wr (.cells #[.int .u8 (48 + (j : Int) % 10)] 5)))
      have hdz : (dT j ++ s).size = 1 + s.size := by rw [ByteArray.size_append]; rfl
      have HQ : Hid ((j : Int) / 10 = ((j / 10 : Nat) : Int)) := by unfold Hid; omega
      have HDZ := Lib.hid hdz
      clear hdz
      go_wp2_with fail
      have := HDZ.out
      exact ⟨⟨j / 10, dT j ++ s, by first | rfl | (rw [HQ.out]), rfl, by rw [Hid, ← HP.out]; exact hE.out, by omega, HG2⟩, by simp [intOf]; omega⟩
    · have e : j = 0 := by omega
      subst e
      have HE : Hid (mkD k ByteArray.empty = s) := by rw [Hid, ← hE.out, mkD_zero]
      have hcat : ¬ 9223372036854775807 < 1 + s.size := by omega
      go_wp2_with fail
      go_ret
      exact ⟨by rw [H0.out, HE.out]; rfl, hG.out⟩

/-- the marks of n texts, from the number q on -/
def marksT (q n : Nat) : List ByteArray := (List.range n).map fun i => mkT (q + i)
theorem marksT_len (q n : Nat) : (marksT q n).length = n := by unfold marksT; simp
theorem marksT_at {q n i : Nat} (h : i < n) : (marksT q n).getD i ByteArray.empty = mkT (q + i) := by
  unfold marksT; rw [List.getD_eq_getElem?_getD, List.getElem?_map, List.getElem?_range h]; rfl

set_option maxRecDepth 100000 in
set_option maxHeartbeats 2000000 in
theorem heldStringS_any (v : Value) (q n : Nat) (w : World) (hv : RdS w v (marksT q n)) (hq : 1 ≤ q) (hn : n ≤ 1000) (hqn : q ≤ 100000) :
    Calls Tryd.prog 23 #[v, .int .i64 (q : Int)] w fun e w' => e = .returned (.int .i64 ((q : Int) + (n : Int))) ∧ Below w.heap.size w w' := by
  obtain ⟨va, vc, rfl, hv⟩ := hv
  rw [marksT_len] at hv
  have HV := Lib.hid hv
  have HA : Hid (∀ i, i < n → (marksT q n).getD i ByteArray.empty = mkT (q + i)) := fun i hi => marksT_at hi
  have HT := Lib.hid (fun (i : Nat) (hi : i < n) (w : World) => markText_gr (q + i) (by omega) (by omega) w)
  rw [marksT_len]
  clear hv
  go_enter Tryd.func23, Tryd.ntmps23
  go_wp2_with fail
  go_loopw [1, 5] (fun x c wr => ∃ k : Nat, k ≤ n ∧ c = .int .i64 (k : Int) ∧ x = .int .i64 ((q : Int) + (k : Int)) ∧ Hid (Below w.heap.size w wr)) (fun _ c _ => n - (intOf c).toNat)
  case atStart => exact ⟨0, Nat.zero_le _, rfl, by simp, Below.refl _ _⟩
  case round =>
    obtain ⟨k, hk, rfl, rfl, hL⟩ := hrel
    by_cases hlt : k < n
    · obtain ⟨g, rfl, h1⟩ := HV.out k hlt
      rw [HA.out k hlt] at h1
      have hgw : g < wr.heap.size := by
        have h0 : g < w.heap.size := by
          rcases Nat.lt_or_ge g w.heap.size with h | h
          · exact h
          · rw [World.cell?, Array.getElem?_eq_none (by simpa using h)] at h1; cases h1
        exact Nat.lt_of_lt_of_le h0 hL.out.size
      have c1 := cell_later hL.out h1
      have hgc := fun nn os => Go.cell_grown (a := ⟨g, k, none⟩) hgw c1 nn os
      have hi1 : (k : Int) < (n : Int) := by omega
      have hi0 : (0 : Int) ≤ (k : Int) := by omega
      have HTk := Lib.hid (HT.out k hlt)
      have hcast : ((q + k : Nat) : Int) = (q : Int) + (k : Int) := by omega
      rw [hcast] at HTk
      have hqq := neqStr (mkT (q + k))
      generalize mkT (q + k) = s at *
      have hb1 : (q : Int) + (k : Int) ≤ 200000 := by omega
      have hb0 : (0 : Int) ≤ (q : Int) + (k : Int) := by omega
      clear h1 hcast
      go_wp2_with fail
      refine wp_region_quiet_grown (by kernel_rfl) (by kernel_rfl) ?_
      repeat (go_big_quiet_step (first | (go_at_call 51; exact Calls.grown_of (HTk.out _))))
      refine wpQuiet_nil ?_
      intro _ hw'
      obtain ⟨⟨nq, osq⟩, hw''⟩ := hw'
      subst hw''
      have hX : Below wr.heap.size wr (Go.Sort.grow (wr.drewN nq) osq) := Gr.below ⟨nq, osq, rfl⟩
      replace hL := Lib.hid (chain (B := w.heap.size) (a := w) hL.out (Nat.le_refl _) hX)
      clear hX hgc c1
      go_wp2_with fail
      exact ⟨⟨k + 1, by omega, by go_num, by simp; omega, hL⟩, by simp [intOf]; omega⟩
    · have e : k = n := by omega
      have hkn : ¬ (k : Int) < (n : Int) := by omega
      subst e
      go_wp2_with fail
      go_ret
      exact ⟨rfl, hL.out⟩

/-- the first k texts marked -/
def marksTo (q : Nat) (l : List ByteArray) (k : Nat) : List ByteArray := (List.range l.length).map fun i => if i < k then mkT (q + i) else l.getD i ByteArray.empty
theorem marksTo_zero (q : Nat) (l : List ByteArray) : marksTo q l 0 = l := by
  unfold marksTo
  apply List.ext_getElem
  · simp
  · intro i h1 h2
    simp [List.getD_eq_getElem?_getD, List.getElem?_eq_getElem h2]
theorem marksTo_all (q : Nat) (l : List ByteArray) : marksTo q l l.length = marksT q l.length := by
  unfold marksTo marksT
  apply List.map_congr_left
  intro i hi
  rw [if_pos (List.mem_range.1 hi)]
theorem marksTo_len (q : Nat) (l : List ByteArray) (k : Nat) : (marksTo q l k).length = l.length := by unfold marksTo; simp
theorem marksTo_set {q : Nat} {l : List ByteArray} {k : Nat} (hk : k < l.length) : ((marksTo q l k).map Value.string).set k (.string (mkT (q + k))) = (marksTo q l (k + 1)).map Value.string := by
  unfold marksTo
  apply List.ext_getElem
  · simp
  · intro i h1 h2
    simp only [List.getElem_set, List.getElem_map, List.getElem_range]
    by_cases e : k = i
    · subst e; rw [if_pos rfl, if_pos (by omega)]
    · rw [if_neg e]
      by_cases h : i < k
      · rw [if_pos h, if_pos (by omega)]
      · rw [if_neg h, if_neg (by omega)]
theorem Only.thenGr {B C : Nat} {a b c : World} (h : Only B C a b) (k : Gr b c) : Only B C a c := by
  have hb := k.below
  exact ⟨hb.os.trans h.os, hb.tape.trans h.tape, hb.output.trans h.output, Nat.le_trans h.size hb.size, fun i hi hd => (hb.block i (Nat.lt_of_lt_of_le hi h.size)).trans (h.block i hi hd)⟩
theorem Only.put {B C : Nat} {a b : World} (h : Only B C a b) (p : Addr) (v : Value) (h1 : B ≤ p.block) (h2 : p.block < C) : Only B C a (b.setCell p v) :=
  ⟨h.os, h.tape, h.output, by rw [World.size_setCell]; exact h.size, fun i hi hd => by
    rw [Below.heap_setCell _ _ _ _ (by omega)]; exact h.block i hi hd⟩

set_option maxRecDepth 100000 in
set_option maxHeartbeats 2000000 in
theorem markStringS_any (v : Value) (base q : Nat) (l : List ByteArray) (w : World) (h : OwnsS w base v l) (hq : 1 ≤ q) (hn : l.length ≤ 1000) (hqn : q ≤ 100000) :
    Calls Tryd.prog 22 #[v, .int .i64 (q : Int)] w fun e w' => e = .returned (.int .i64 ((q : Int) + (l.length : Int))) ∧ OwnsS w' base v (marksT q l.length) ∧ Only base w.heap.size w w' := by
  have hlt0 := h.lt
  obtain ⟨h1, h2⟩ := h
  rcases h2 with ⟨rfl, hn0⟩ | ⟨g, cap, cur, rfl, hb, hg, hc, hm, hs, ht⟩
  · have e : l = [] := List.length_eq_zero_iff.1 hn0
    subst e
    go_enter Tryd.func22, Tryd.ntmps22
    go_wp2
    refine wp_loop_rounds 1 ?_
    rw [rounds_succ]
    go_wp2
    go_ret
    exact ⟨by simp, World.ownsRow_nil _ _ _ _, Only.refl _ _ _⟩
  · have hgb := hlt0 g rfl
    have H0 : Hid (w.ownsRow base 9 1 (.slice (some ⟨g, 0, none⟩) l.length cap) l.length (l.map Value.string)) := ⟨h1, .inr ⟨g, cap, cur, rfl, hb, hg, hc, hm, hs, ht⟩⟩
    have HT := Lib.hid (fun (i : Nat) (hi : i < l.length) (w : World) => markText_gr (q + i) (by omega) (by omega) w)
    have HSet := Lib.hid (fun k (hk : k < l.length) => marksTo_set (q := q) (l := l) hk)
    have HZ := Lib.hid (marksTo_zero q l)
    have HAl := Lib.hid (marksTo_all q l)
    have HLen := Lib.hid (fun k => marksTo_len q l k)
    clear h1 hs ht hg hlt0
    generalize hnn : l.length = n at *
    have HNN := Lib.hid hnn
    clear hnn
    go_enter Tryd.func22, Tryd.ntmps22
    go_wp2_with fail
    go_loopw [1, 5] (fun x c wr => ∃ k : Nat, k ≤ n ∧ x = .int .i64 ((q : Int) + (k : Int)) ∧ c = .int .i64 (k : Int) ∧ Hid (wr.ownsRow base 9 1 (.slice (some ⟨g, 0, none⟩) n cap) n ((marksTo q l k).map Value.string)) ∧ Hid (Only base w.heap.size w wr)) (fun _ c _ => n - (intOf c).toNat)
    case atStart => exact ⟨0, Nat.zero_le _, by simp, rfl, by rw [HZ.out]; exact H0.out, Only.refl _ _ _⟩
    case round =>
      obtain ⟨k, hk, rfl, rfl, hO, hG⟩ := hrel
      by_cases hlt : k < n
      · have hi1 : (k : Int) < (n : Int) := by omega
        have hi0 : (0 : Int) ≤ (k : Int) := by omega
        have HTk := Lib.hid (HT.out k hlt)
        have hcast : ((q + k : Nat) : Int) = (q : Int) + (k : Int) := by omega
        rw [hcast] at HTk
        have hb1 : (q : Int) + (k : Int) ≤ 200000 := by omega
        have hb0 : (0 : Int) ≤ (q : Int) + (k : Int) := by omega
        have HSk := Lib.hid (HSet.out k hlt)
        have hlen := HLen.out k
        clear hcast
        generalize mkT (q + k) = s at *
        go_wp2_with fail
        refine (HTk.out _).mono ?_
        rintro e w1 ⟨rfl, hgr⟩
        have hO1 : w1.ownsRow base 9 1 (.slice (some ⟨g, 0, none⟩) n cap) n ((marksTo q l k).map Value.string) := rowLater hO.out hgr.below
        have hG1 := Lib.hid (hG.out.thenGr hgr)
        have hcell : ∃ u, w1.cell? ⟨g, k, none⟩ = some u := by
          rw [hO1.cellAt k (by omega)]
          have hlen2 := hO1.1
          exact ⟨_, List.getElem?_eq_getElem (by omega)⟩
        obtain ⟨u, hcell⟩ := hcell
        have hfr := hO1.frozenAt k
        have HS := Lib.hid (hO1.stored k (.string s)).1
        rw [HSk.out] at HS
        clear hgr hO hG hO1
        go_wp2_with fail
        exact ⟨⟨k + 1, by omega, by simp; omega, by go_num, HS, hG1.out.put ⟨g, k, none⟩ _ hgb.1 hgb.2⟩, by simp [intOf]; omega⟩
      · have e : k = n := by omega
        have hkn : ¬ (k : Int) < (n : Int) := by omega
        rw [e] at hO ⊢
        clear e
        go_wp2_with fail
        go_ret
        refine ⟨rfl, ?_, hG.out⟩
        unfold OwnsS
        rw [marksT_len, ← HAl.out]
        exact hO.out

theorem markStringS_one (v : Value) (base : Nat) (l : List ByteArray) (w : World) (h : OwnsS w base v l) (hn : l.length ≤ 1000) :
    Calls Tryd.prog 22 #[v, .int .i64 1] w fun e w' => e = .returned (.int .i64 (1 + (l.length : Int))) ∧ OwnsS w' base v (marksT 1 l.length) ∧ Only base w.heap.size w w' :=
  markStringS_any v base 1 l w h (by decide) hn (by decide)
theorem heldStringS_one (v : Value) (n : Nat) (w : World) (hv : RdS w v (marksT 1 n)) (hn : n ≤ 1000) :
    Calls Tryd.prog 23 #[v, .int .i64 1] w fun e w' => e = .returned (.int .i64 (1 + (n : Int))) ∧ Below w.heap.size w w' :=
  heldStringS_any v 1 n w hv (by decide) hn (by decide)

end Go.Proofs.YtohmhiodmaahfaaDoor
