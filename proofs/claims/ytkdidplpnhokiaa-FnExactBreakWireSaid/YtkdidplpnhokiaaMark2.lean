/- Slices of slices of the call's own: written over, and looked at again. -/
import Derived.Test.YtkdidplpnhokiaaNetCp
namespace Go.Proofs.Ytkdidplpnhokiaa
open Go.RowKit
set_option linter.unusedVariables false

/-- nothing has changed but blocks from B on, below C -/
structure Only (B C : Nat) (w w' : World) : Prop where
  os : w'.os = w.os
  tape : w'.tape = w.tape
  output : w'.output = w.output
  size : w.heap.size ≤ w'.heap.size
  block : ∀ k, k < w.heap.size → (k < B ∨ C ≤ k) → w'.heap[k]? = w.heap[k]?
theorem Only.refl (B C : Nat) (w : World) : Only B C w w := ⟨rfl, rfl, rfl, Nat.le_refl _, fun _ _ _ => rfl⟩
theorem Only.below {B C : Nat} {w w' : World} (h : Only B C w w') (hB : B ≤ w.heap.size) : Below B w w' := ⟨h.os, h.tape, h.output, h.size, fun k hk => h.block k (by omega) (.inl hk)⟩
theorem Only.grown {B C : Nat} {w w1 w' : World} {row : Option Nat} (h : Only B C w w1) (hg : w1.grownBy w' row) (hr : ∀ k, row = some k → B ≤ k ∧ k < C) : Only B C w w' :=
  ⟨hg.os.trans h.os, hg.tape.trans h.tape, hg.output.trans h.output, Nat.le_trans h.size hg.size, fun k hk ho => by
    rw [hg.block k (Nat.lt_of_lt_of_le hk h.size) (fun e => by have := hr k e.symm; omega)]
    exact h.block k hk ho⟩
theorem Only.owns {B C base : Nat} {w w' : World} {v : Value} {xs : List Int} (h : Only B C w w') (ho : Owns w base v xs) (hc : C ≤ base) : Owns w' base v xs :=
  rowSame ho fun k hk e => h.block k (World.ownsRow.lt ho k e).2 (.inr (by omega))
theorem Only.c2 {B C b : Nat} {w w' : World} {x y : Value} (h : Only B C w w') (hc : C2 w b x y) (hb : b < B ∨ C ≤ b) : C2 w' b x y := by
  obtain ⟨h0, h1, f0, f1, hz⟩ := hc
  have e := h.block b hz hb
  have := h.size
  exact ⟨(World.cell?_of_block (w := w) e).trans h0, (World.cell?_of_block (w := w) e).trans h1, (World.frozen?_of_block (w := w) e).trans f0, (World.frozen?_of_block (w := w) e).trans f1, by omega⟩

/-- the first k rows written over by the numbers from q on -/
def rowsK (q : Int) (xss : List (List Int)) (k : Nat) : List (List Int) := (List.range xss.length).map fun i => if i < k then iota (q + sumLen xss i) (xss.getD i []).length else xss.getD i []
theorem rowsK_len (q : Int) (xss : List (List Int)) (k : Nat) : (rowsK q xss k).length = xss.length := by simp [rowsK]
theorem rowsK_get (q : Int) (xss : List (List Int)) (k i : Nat) (h : i < xss.length) : (rowsK q xss k).getD i [] = if i < k then iota (q + sumLen xss i) (xss.getD i []).length else xss.getD i [] := by
  simp [rowsK, List.getD_eq_getElem?_getD, h]
theorem rowsK_zero (q : Int) (xss : List (List Int)) : rowsK q xss 0 = xss := by
  apply List.ext_getElem
  · simp [rowsK]
  · intro i h1 h2
    simp [rowsK, List.getD_eq_getElem?_getD, h2]

theorem Own2.mark {w w' : World} {B C : Nat} {v : Value} {q : Int} {xss : List (List Int)} {k : Nat} {V : Nat → Value} (hk : k < xss.length)
    (h1 : w.ownsRow B 22 1 v xss.length ((List.range xss.length).map V)) (h2 : ∀ k, v.ownBlock = some k → k < C)
    (h3 : ∀ i, i < xss.length → Owns w B (V i) ((rowsK q xss k).getD i []) ∧ ∀ k, (V i).ownBlock = some k → k < C ∧ v.ownBlock ≠ some k ∧ ∀ j, j < i → (V j).ownBlock ≠ some k)
    (hg : w.grownBy w' (V k).ownBlock) (hm : Owns w' B (V k) (iota (q + sumLen xss k) (xss.getD k []).length)) :
    w'.ownsRow B 22 1 v xss.length ((List.range xss.length).map V) ∧
    (∀ i, i < xss.length → Owns w' B (V i) ((rowsK q xss (k + 1)).getD i []) ∧ ∀ k, (V i).ownBlock = some k → k < C ∧ v.ownBlock ≠ some k ∧ ∀ j, j < i → (V j).ownBlock ≠ some k) := by
  refine ⟨World.ownsRow.kept h1 hg ?_, fun i hi => ⟨?_, (h3 i hi).2⟩⟩
  · cases e : v.ownBlock with
    | none => exact .inl rfl
    | some b =>
      right
      cases e2 : (V k).ownBlock with
      | none => simp
      | some b2 =>
        have := ((h3 k hk).2 b2 e2).2.1
        rw [e] at this
        exact this
  · rw [rowsK_get _ _ _ _ hi]
    by_cases e : i = k
    · subst e
      rw [if_pos (by omega)]; exact hm
    · have hq := (h3 i hi).1
      rw [rowsK_get _ _ _ _ hi] at hq
      have e2 : (if i < k + 1 then iota (q + sumLen xss i) (xss.getD i []).length else xss.getD i []) = (if i < k then iota (q + sumLen xss i) (xss.getD i []).length else xss.getD i []) := by
        by_cases hlt : i < k
        · rw [if_pos hlt, if_pos (by omega)]
        · rw [if_neg hlt, if_neg (by omega)]
      rw [e2]
      refine World.ownsRow.kept hq hg ?_
      cases e3 : (V i).ownBlock with
      | none => exact .inl rfl
      | some b =>
        right
        intro e4
        rcases Nat.lt_or_ge i k with hlt | hge
        · exact ((h3 k hk).2 b e4.symm).2.2 i hlt e3
        · exact ((h3 i hi).2 b e3).2.2 k (by omega) e4.symm

set_option maxHeartbeats 1000000 in
theorem markInt64SS_any (v : Value) (B C : Nat) (xss : List (List Int)) (q : Int) (w : World) (h : Own2 w B C v xss) (hs : ∀ i, i < xss.length → (xss.getD i []).length ≤ 1048576) (q0 : 0 ≤ q) (hq : q + (xss.length + sumLen xss xss.length : Nat) ≤ 1048577) :
    Calls Try.prog 47 #[v, .int .i64 q] w fun e w' => e = .returned (.int .i64 (q + (sumLen xss xss.length : Nat))) ∧ Own2 w' B C v (rowsK q xss xss.length) ∧ Only B C w w' := by
  obtain ⟨V, h1, h2, h3⟩ := h
  have h1' := h1
  rcases h1.2 with ⟨rfl, hn0⟩ | ⟨g, cap, cur, rfl, hb, hg, hc, hm, hss, ht⟩
  · have e : xss = [] := List.length_eq_zero_iff.1 hn0
    subst e
    go_enter Try.func47, Try.ntmps47
    go_wp2
    refine wp_loop_rounds 1 ?_
    rw [rounds_succ]
    go_wp2
    go_ret
    exact ⟨by simp [sumLen], ⟨V, h1', h2, fun i hi => by simp [rowsK] at hi⟩, Only.refl _ _ _⟩
  · have H2 := Lib.hid h2
    have HS := Lib.hid hs
    have H3 : Hid (∀ i, i < xss.length → Owns w B (V i) ((rowsK q xss 0).getD i []) ∧ ∀ k, (V i).ownBlock = some k → k < C ∧ (Value.slice (some ⟨g, 0, none⟩) xss.length cap).ownBlock ≠ some k ∧ ∀ j, j < i → (V j).ownBlock ≠ some k) := by rw [rowsK_zero]; exact h3
    have H1 := Lib.hid h1'
    have HL : Hid (∀ k, k < xss.length → sumLen xss (k + 1) = sumLen xss k + (xss.getD k []).length ∧ sumLen xss (k + 1) ≤ sumLen xss xss.length) := fun k hk => ⟨rfl, sumLen_mono xss hk⟩
    have HM : Hid (∀ k (w w' : World), k < xss.length → w.ownsRow B 22 1 (.slice (some ⟨g, 0, none⟩) xss.length cap) xss.length ((List.range xss.length).map V) → (∀ i, i < xss.length → Owns w B (V i) ((rowsK q xss k).getD i []) ∧ ∀ k, (V i).ownBlock = some k → k < C ∧ (Value.slice (some ⟨g, 0, none⟩) xss.length cap).ownBlock ≠ some k ∧ ∀ j, j < i → (V j).ownBlock ≠ some k) → w.grownBy w' (V k).ownBlock → Owns w' B (V k) (iota (q + sumLen xss k) (xss.getD k []).length) →
        w'.ownsRow B 22 1 (.slice (some ⟨g, 0, none⟩) xss.length cap) xss.length ((List.range xss.length).map V) ∧ (∀ i, i < xss.length → Owns w' B (V i) ((rowsK q xss (k + 1)).getD i []) ∧ ∀ k, (V i).ownBlock = some k → k < C ∧ (Value.slice (some ⟨g, 0, none⟩) xss.length cap).ownBlock ≠ some k ∧ ∀ j, j < i → (V j).ownBlock ≠ some k)) :=
      fun k w w' hk a b c d => Own2.mark hk a H2.out b c d
    have HLEN := Lib.hid (rowsK_len q xss xss.length)
    have HG : Hid (∀ k, k < xss.length → (rowsK q xss k).getD k [] = xss.getD k []) := fun k hk => by rw [rowsK_get _ _ _ _ hk, if_neg (by omega)]
    clear h1 h1' h2 h3 hs hg hss ht
    generalize hnn : xss.length = n at *
    clear hnn
    go_enter Try.func47, Try.ntmps47
    go_wp2_with fail
    go_loopw [1, 5] (fun kk c wr => ∃ (k : Nat) (r : Int), k ≤ n ∧ kk = .int .i64 r ∧ c = .int .i64 (k : Int) ∧ Hid (r = q + (sumLen xss k : Nat)) ∧ Hid (wr.ownsRow B 22 1 (.slice (some ⟨g, 0, none⟩) n cap) n ((List.range n).map V)) ∧ Hid (∀ i, i < n → Owns wr B (V i) ((rowsK q xss k).getD i []) ∧ ∀ k, (V i).ownBlock = some k → k < C ∧ (Value.slice (some ⟨g, 0, none⟩) n cap).ownBlock ≠ some k ∧ ∀ j, j < i → (V j).ownBlock ≠ some k) ∧ Hid (Only B C w wr)) (fun _ c _ => n - (intOf c).toNat)
    case atStart => exact ⟨0, q, Nat.zero_le _, rfl, rfl, by unfold Hid; simp [sumLen], H1, H3, Only.refl _ _ _⟩
    case round =>
      obtain ⟨k, r, hk, rfl, rfl, Hr, A1, A3, AO⟩ := hrel
      by_cases hlt : k < n
      · have hca : wr.cell? ⟨g, k, none⟩ = some (V k) := by
          have := A1.out
          rw [this.cellAt k (by omega)]
          simp [hlt]
        obtain ⟨oV, bV⟩ := A3.out k hlt
        rw [HG.out k hlt] at oV
        have OV := Lib.hid oV
        have BV := Lib.hid bV
        have hl1 := HS.out k hlt
        obtain ⟨hs1, hs2⟩ := HL.out k hlt
        have hi1 : (k : Int) < (n : Int) := by omega
        have hi0 : (0 : Int) ≤ (k : Int) := by omega
        have hrq : 0 ≤ r ∧ r ≤ 1048576 := by have := Hr.out; omega
        obtain ⟨r0, r1⟩ := hrq
        have HSZ : Hid (r + ((xss.getD k []).length : Nat) = q + (sumLen xss (k + 1) : Nat)) := by have := Hr.out; unfold Hid; omega
        obtain ⟨va, vc, hV, _, _⟩ := oV.reads
        obtain ⟨lk, hlk⟩ : ∃ lk, (xss.getD k []).length = lk := ⟨_, rfl⟩
        rw [hlk] at hV
        rw [hV] at hca
        have HV := Lib.hid hV
        clear hlk hV
        clear oV bV hs1 hs2
        go_wp2_with fail
        refine (markInt64S_any _ B (xss.getD k []) r _ (by rw [← HV.out]; exact OV.out) hl1 r0 (by omega)).mono ?_
        rintro e w2 ⟨rfl, om, hgr⟩
        rw [← HV.out] at om hgr
        have HO := Lib.hid (AO.out.grown hgr fun b e => ⟨(World.ownsRow.lt OV.out b e).1, (BV.out b e).1⟩)
        have HT := Lib.hid (HM.out k _ _ hlt A1.out A3.out hgr (by rw [← Hr.out]; exact om))
        clear om hgr
        go_wp2_with fail
        go_roundw
        case rel => exact ⟨k + 1, _, by omega, rfl, by go_num, HSZ, HT.out.1, HT.out.2, HO⟩
        case measure => simp [intOf]; omega
      · have e : k = n := by omega
        subst e
        have HE : Hid (r = q + (sumLen xss k : Nat)) := Hr
        go_wp2_with fail
        go_ret
        refine ⟨by rw [← HE.out]; rfl, ?_, AO.out⟩
        refine ⟨V, ?_, H2.out, ?_⟩
        · rw [HLEN.out]; exact A1.out
        · rw [HLEN.out]; exact A3.out

theorem markNetwork_any (p : Int) (v : Value) (B C : Nat) (xss : List (List Int)) (q : Int) (w : World) (h : Own2 w B C v xss) (hC : C ≤ w.heap.size) (hs : ∀ i, i < xss.length → (xss.getD i []).length ≤ 1048576) (q0 : 0 ≤ q) (hq : q + (xss.length + sumLen xss xss.length : Nat) ≤ 1048577) :
    Calls Try.prog 53 #[.agg #[.int .i64 p, v], .int .i64 q] w fun e w' => e = .returned (.int .i64 (q + (sumLen xss xss.length : Nat))) ∧ Own2 w' B C v (rowsK q xss xss.length) ∧ Only B C w w' := by
  have HM : Hid (∀ w', Own2 w' B C v xss → Calls Try.prog 47 #[v, .int .i64 q] w' fun e w'' => e = .returned (.int .i64 (q + (sumLen xss xss.length : Nat))) ∧ Own2 w'' B C v (rowsK q xss xss.length) ∧ Only B C w' w'') := fun w' h => markInt64SS_any v B C xss q w' h hs q0 hq
  have HO := Lib.hid (h.keep ((Below.refl _ _).alloc (Nat.le_refl _) (.cells #[.int .i64 p, v] 61)))
  obtain ⟨a, ca, rfl, _, _⟩ := h.reads
  clear hs hq
  generalize q + (sumLen xss xss.length : Nat) = r at *
  go_enter Try.func53, Try.ntmps53
  go_wp2_with fail
  refine (HM.out _ HO.out).mono ?_
  rintro e w2 ⟨rfl, om, oo⟩
  have HA : Hid (Only B C w w2) := ⟨oo.os, oo.tape, oo.output, Nat.le_trans (by simp) oo.size, fun k hk ho => by
    rw [oo.block k (by simp; omega) ho]
    exact Below.heap_alloc w _ k hk⟩
  have HB := Lib.hid om
  clear om oo
  go_wp2_with fail
  go_ret
  exact ⟨rfl, HB.out, HA.out⟩

end Go.Proofs.Ytkdidplpnhokiaa
