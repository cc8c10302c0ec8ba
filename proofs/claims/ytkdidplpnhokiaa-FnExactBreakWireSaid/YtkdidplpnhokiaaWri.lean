/- Wirings: read, owned, copied, weighed, compared, marked, looked at again. -/
import Derived.Test.YtkdidplpnhokiaaC3
import Derived.Test.YtkdidplpnhokiaaHeld2
import Derived.Test.YtkdidplpnhokiaaIn
import Derived.Deep.RegionWith
namespace Go.Proofs.Ytkdidplpnhokiaa
open Go.RowKit
set_option linter.unusedVariables false

/-- the value v is a wiring with the terminals p, switches that read as xs and wires that read as yss -/
def ReadsW (w : World) (v : Value) (p : Int) (xs : List Int) (yss : List (List Int)) : Prop :=
  ∃ a ca b cb, v = .agg #[.int .i64 p, .slice a xs.length ca, .slice b yss.length cb] ∧ Reads w (.slice a xs.length ca) xs ∧ Reads2 w (.slice b yss.length cb) yss
theorem ReadsW.keep {w w' : World} {v : Value} {p : Int} {xs : List Int} {yss : List (List Int)} (h : ReadsW w v p xs yss) (hb : Below w.heap.size w w') : ReadsW w' v p xs yss := by
  obtain ⟨a, ca, b, cb, rfl, h1, h2⟩ := h
  exact ⟨a, ca, b, cb, rfl, h1.keep hb, h2.keep hb⟩
theorem ReadsW.of {w : World} {v1 v2 : Value} {p : Int} {xs : List Int} {yss : List (List Int)} (h1 : Reads w v1 xs) (h2 : Reads2 w v2 yss) : ReadsW w (.agg #[.int .i64 p, v1, v2]) p xs yss := by
  obtain ⟨a, ca, rfl, hm, h1'⟩ := h1
  obtain ⟨b, cb, rfl, hm2, h2'⟩ := h2
  exact ⟨a, ca, b, cb, rfl, ⟨a, ca, rfl, hm, h1'⟩, ⟨b, cb, rfl, hm2, h2'⟩⟩
theorem readsWAt {w w' : World} {v : Value} {p : Int} {xs : List Int} {yss : List (List Int)} (hb : Below w.heap.size w w') (h : ReadsW w v p xs yss) : ReadsW w' v p xs yss := h.keep hb
/-- .. of the call's own, from block B on, below C -/
def OwnW (w : World) (B C : Nat) (v : Value) (p : Int) (xs : List Int) (yss : List (List Int)) : Prop :=
  ∃ a ca b cb M, v = .agg #[.int .i64 p, .slice a xs.length ca, .slice b yss.length cb] ∧ B ≤ M ∧ M ≤ C ∧ In w B M (.slice a xs.length ca) xs ∧ Own2 w M C (.slice b yss.length cb) yss
theorem OwnW.reads {w : World} {B C : Nat} {v : Value} {p : Int} {xs : List Int} {yss : List (List Int)} (h : OwnW w B C v p xs yss) : ReadsW w v p xs yss := by
  obtain ⟨a, ca, b, cb, M, rfl, _, _, h1, h2⟩ := h
  exact ⟨a, ca, b, cb, rfl, h1.reads, h2.reads⟩
theorem OwnW.keep {w w' : World} {B C : Nat} {v : Value} {p : Int} {xs : List Int} {yss : List (List Int)} (h : OwnW w B C v p xs yss) (hb : Below w.heap.size w w') : OwnW w' B C v p xs yss := by
  obtain ⟨a, ca, b, cb, M, rfl, hB, hC, h1, h2⟩ := h
  exact ⟨a, ca, b, cb, M, rfl, hB, hC, h1.keep hb, h2.keep hb⟩
theorem OwnW.only {w w' : World} {B C lo hi : Nat} {v : Value} {p : Int} {xs : List Int} {yss : List (List Int)} (h : OwnW w lo hi v p xs yss) (ho : Only B C w w') (hd : hi ≤ B ∨ C ≤ lo) : OwnW w' lo hi v p xs yss := by
  obtain ⟨a, ca, b, cb, M, rfl, hB, hC, h1, h2⟩ := h
  exact ⟨a, ca, b, cb, M, rfl, hB, hC, h1.only ho (by omega), h2.only ho (by omega)⟩
theorem OwnW.mono {w : World} {B C B' C' : Nat} {v : Value} {p : Int} {xs : List Int} {yss : List (List Int)} (h : OwnW w B C v p xs yss) (h1 : B' ≤ B) (h2 : C ≤ C') : OwnW w B' C' v p xs yss := by
  obtain ⟨a, ca, b, cb, M, rfl, hB, hC, h3, h4⟩ := h
  exact ⟨a, ca, b, cb, M, rfl, by omega, by omega, h3.wide h1 (Nat.le_refl _), h4.mono (Nat.le_refl _) h2⟩
theorem ownWAt {w w' : World} {B C : Nat} {v : Value} {p : Int} {xs : List Int} {yss : List (List Int)} (hb : Below w.heap.size w w') (h : OwnW w B C v p xs yss) : OwnW w' B C v p xs yss := h.keep hb

/-- what is left of a purse behind a wiring -/
def szW (left : Int) (xs : List Int) (yss : List (List Int)) : Int := if szZ left xs.length = -1 then -1 else szZ2 (szZ left xs.length) yss
/-- what a purse that is not empty tells -/
structure FitW (left : Int) (xs : List Int) (yss : List (List Int)) : Prop where
  l1 : xs.length ≤ 1048576
  n2 : yss.length ≤ 1048576
  l2 : ∀ i, i < yss.length → (yss.getD i []).length ≤ 1048576
  sum : ((xs.length + (yss.length + sumLen yss yss.length) : Nat) : Int) ≤ left
theorem szZ_cases (left : Int) (n : Nat) : szZ left n = -1 ∨ (¬ szZ left n < 0 ∧ 0 ≤ szZ left n ∧ szZ left n ≤ left ∧ szZ left n = left - (n : Int)) := by
  unfold szZ
  split
  · exact .inl rfl
  · right; omega
theorem purseW {left z : Int} {xs : List Int} {yss : List (List Int)} (h : szW left xs yss = z) (hz : ¬ z = -1) (hl : left ≤ 1048576) :
    FitW left xs yss ∧ 0 ≤ z ∧ z = left - ((xs.length + (yss.length + sumLen yss yss.length) : Nat) : Int) := by
  unfold szW at h
  by_cases h1 : szZ left xs.length = -1
  · rw [if_pos h1] at h; exact absurd h.symm hz
  · rw [if_neg h1] at h
    rcases szZ_cases left xs.length with h2 | ⟨_, h2, h3, h4⟩
    · exact absurd h2 h1
    · rw [h4] at h h2 h3
      obtain ⟨b1, b2, b3, b4, b5⟩ := purseG h hz (by omega)
      exact ⟨⟨by omega, b1, b2, by omega⟩, b4, by omega⟩

theorem szZ2_casesW (left : Int) (xss : List (List Int)) : szZ2 left xss = -1 ∨ (¬ szZ2 left xss < 0 ∧ 0 ≤ szZ2 left xss ∧ szZ2 left xss ≤ left) := by
  by_cases h : szZ2 left xss = -1
  · exact .inl h
  · have := szZ2_pos h; right; omega

theorem szWiring_any (v : Value) (p : Int) (xs : List Int) (yss : List (List Int)) (left : Int) (w : World) (ha : ReadsW w v p xs yss) (l0 : 0 ≤ left) (l1 : left ≤ 1048576) {z : Int} (hz : szW left xs yss = z) :
    Calls Try.prog 15 #[v, .int .i64 left] w fun e w' => e = .returned (.int .i64 z) ∧ Below w.heap.size w w' := by
  obtain ⟨a, ca, b, cb, rfl, h1, h2⟩ := ha
  obtain ⟨z1, hz1⟩ : ∃ z1, szZ left xs.length = z1 := ⟨_, rfl⟩
  have hc1 := szZ_cases left xs.length
  have HZ1 : Hid (∀ w', Below w.heap.size w w' → Calls Try.prog 55 #[.slice a xs.length ca, .int .i64 left] w' fun e w'' => e = .returned (.int .i64 z1) ∧ w' = w'') := fun w' h => szInt64S_b _ xs left w' (h1.keep h) l0 l1 hz1
  have k0 := C3.here w (.int .i64 p) (.slice a xs.length ca) (.slice b yss.length cb) 25
  unfold szW at hz
  rw [hz1] at hc1 hz
  clear hz1
  rcases hc1 with h | ⟨h, h0, hle, hxx⟩
  · subst h
    rw [if_pos rfl] at hz
    subst hz
    clear h1 h2
    generalize xs.length = n at *
    generalize yss.length = m at *
    go_enter Try.func15, Try.ntmps15
    go_wp2_with (go_at_call 55; (with_reducible refine (HZ1.out _ (by go_grown)).mono ?_); rintro e w' ⟨rfl, rfl⟩)
    go_ret
    exact ⟨rfl, by go_grown⟩
  · rw [if_neg (by omega)] at hz
    have hc2 := szZ2_casesW z1 yss
    have HZ2 : Hid (∀ w', Below w.heap.size w w' → Calls Try.prog 42 #[.slice b yss.length cb, .int .i64 z1] w' fun e w'' => e = .returned (.int .i64 z) ∧ w' = w'') := fun w' h => hz ▸ szInt64SS_any _ yss z1 w' (h2.keep h) h0 (by omega)
    rw [hz] at hc2
    clear h1 h2 hz l0 l1 hle h0 hxx
    generalize xs.length = n at *
    generalize yss.length = m at *
    rcases hc2 with h2 | ⟨h2, h20, h2le⟩
    · subst h2
      go_enter Try.func15, Try.ntmps15
      go_wp2_with (first | (go_at_call 55; (with_reducible refine (HZ1.out _ (by go_grown)).mono ?_); rintro e w' ⟨rfl, rfl⟩) | (go_at_call 42; (with_reducible refine (HZ2.out _ (by go_grown)).mono ?_); rintro e w' ⟨rfl, rfl⟩))
      go_ret
      exact ⟨rfl, by go_grown⟩
    · clear h20 h2le
      go_enter Try.func15, Try.ntmps15
      go_wp2_with (first | (go_at_call 55; (with_reducible refine (HZ1.out _ (by go_grown)).mono ?_); rintro e w' ⟨rfl, rfl⟩) | (go_at_call 42; (with_reducible refine (HZ2.out _ (by go_grown)).mono ?_); rintro e w' ⟨rfl, rfl⟩))
      go_ret
      exact ⟨rfl, by go_grown⟩

set_option maxHeartbeats 1000000 in
theorem toWiring_x (v : Value) (p : Int) (xs : List Int) (yss : List (List Int)) (w : World) (ha : ReadsW w v p xs yss) {left : Int} (hf : FitW left xs yss) :
    Calls Try.prog 17 #[v] w fun e w' => ∃ a ca b cb B C, e = .returned (.agg #[.int .i64 p, .slice a xs.length ca, .slice b yss.length cb]) ∧ OwnW w' B C (.agg #[.int .i64 p, .slice a xs.length ca, .slice b yss.length cb]) p xs yss ∧ w.heap.size ≤ B ∧ (B ≤ C ∧ C ≤ w'.heap.size) ∧ Below w.heap.size w w' := by
  obtain ⟨a, ca, b, cb, rfl, h1, h2⟩ := ha
  have HA := Lib.hid (fun w' (h : Below w.heap.size w w') => toInt64S_any _ xs w' (h1.keep h) hf.l1)
  have HB := Lib.hid (fun w' (h : Below w.heap.size w w') => toInt64SS_any _ yss w' (h2.keep h) hf.n2 hf.l2)
  clear h1 h2 hf
  have k0 := ((C3.here w (.int .i64 p) (.slice a xs.length ca) (.slice b yss.length cb) 25).alloc (.cells #[.int .i64 0, .slice none 0 0, .slice none 0 0] 28)).alloc (.cells #[.int .i64 p, .slice none 0 0, .slice none 0 0] 28)
  have k1 := (C3.here (w.alloc (.cells #[.int .i64 p, .slice a xs.length ca, .slice b yss.length cb] 25)) (.int .i64 0) (.slice none 0 0) (.slice none 0 0) 28).alloc (.cells #[.int .i64 p, .slice none 0 0, .slice none 0 0] 28)
  have k2 := C3.here ((w.alloc (.cells #[.int .i64 p, .slice a xs.length ca, .slice b yss.length cb] 25)).alloc (.cells #[.int .i64 0, .slice none 0 0, .slice none 0 0] 28)) (.int .i64 p) (.slice none 0 0) (.slice none 0 0) 28
  simp only [World.size_alloc] at k1 k2
  have HX : Hid (xs.length = xs.length ∧ yss.length = yss.length) := ⟨rfl, rfl⟩
  generalize hn1 : xs.length = n1 at *
  generalize hn2 : yss.length = n2 at *
  have HN1 := Lib.hid hn1
  have HN2 := Lib.hid hn2
  clear HX hn1 hn2
  go_enter Try.func17, Try.ntmps17
  go_wp2_with fail
  refine (HA.out _ (by go_grown)).mono ?_
  rintro e wa ⟨u, rfl, ou, hb⟩
  obtain ⟨ua, uc, eu, _, _⟩ := ou.reads
  rw [HN1.out] at eu
  subst eu
  replace k0 := keepAt3 hb k0
  replace k1 := keepAt3 hb k1
  replace k2 := keepAt3 hb k2
  have hL := chain (B := w.heap.size) (a := w) (by go_grown) (Nat.le_refl _) hb
  have hzz := hb.size
  simp only [World.size_alloc] at hzz
  have OU : Hid (In wa (w.heap.size + 1 + 1 + 1) wa.heap.size (.slice ua n1 uc) xs) := In.of ou (by simp) (Nat.le_refl _)
  clear hb ou
  go_wp2_with fail
  replace k0 := k0.set (w.heap.size + 1 + 1) 1 (.slice ua n1 uc) (by omega)
  replace k1 := k1.set (w.heap.size + 1 + 1) 1 (.slice ua n1 uc) (by omega)
  replace k2 := k2.put1 (.slice ua n1 uc)
  have hL1 : Below w.heap.size w (wa.setCell ⟨w.heap.size + 1 + 1, 1, none⟩ (.slice ua n1 uc)) := hL.setCell (by simp only; omega) _
  replace OU : Hid (In (wa.setCell ⟨w.heap.size + 1 + 1, 1, none⟩ (.slice ua n1 uc)) (w.heap.size + 1 + 1 + 1) wa.heap.size (.slice ua n1 uc) xs) := ⟨rowSame OU.out.1 fun k hk _ => by rw [Below.heap_setCell _ _ _ k (by dsimp only; omega)], OU.out.2⟩
  refine (HB.out _ hL1).mono ?_
  rintro e wb ⟨u, rfl, ou, hb⟩
  obtain ⟨va, vc, eu, _, _⟩ := ou.reads
  rw [HN2.out] at eu
  subst eu
  replace k0 := keepAt3 hb k0
  replace k1 := keepAt3 hb k1
  replace k2 := keepAt3 hb k2
  have hL2 := chain (B := w.heap.size) (a := w) hL1 (by first | exact Nat.le_refl _ | simp) hb
  have hz2 := hb.size
  rw [World.size_setCell] at hz2
  have OV : Hid (Own2 wb wa.heap.size wb.heap.size (.slice va n2 vc) yss) := ou.mono (by simp) (Nat.le_refl _)
  replace OU := Lib.hid (OU.out.keep hb)
  clear hb ou hL hL1
  go_wp2_with fail
  refine bodyPost_ret (v := .agg #[.int .i64 p, .slice ua n1 uc, .slice va n2 vc]) (by simp [results, Try.results17, go_sem, *]) rfl ?_
  refine ⟨ua, uc, va, vc, w.heap.size + 1 + 1 + 1, wb.heap.size, rfl, ?_, by omega, ⟨by omega, by simp⟩, by go_grown⟩
  rw [OwnW]
  refine ⟨ua, uc, va, vc, wa.heap.size, by rw [HN1.out, HN2.out], by omega, by omega, ?_, ?_⟩
  · rw [HN1.out]
    refine ⟨rowSame OU.out.1 fun k hk _ => ?_, OU.out.2⟩
    repeat rw [Below.heap_setCell _ _ _ k (by dsimp only; omega)]
  · rw [HN2.out]
    refine Own2.same OV.out fun k hk _ _ => ?_
    repeat rw [Below.heap_setCell _ _ _ k (by dsimp only; omega)]

theorem eqWiring_same (va vb : Value) (p : Int) (xs : List Int) (yss : List (List Int)) (w : World) (ha : ReadsW w va p xs yss) (hb : ReadsW w vb p xs yss) :
    Calls Try.prog 19 #[va, vb] w fun e w' => e = .returned (.bool true) ∧ Below w.heap.size w w' := by
  obtain ⟨a, ca, b, cb, rfl, h1, h2⟩ := ha
  obtain ⟨c, cc, d, cd, rfl, h3, h4⟩ := hb
  have HA := Lib.hid (fun w' (h : Below w.heap.size w w') => eqInt64S_same _ _ xs w' (h1.keep h) (h3.keep h))
  have HB := Lib.hid (fun w' (h : Below w.heap.size w w') => eqInt64SS_same _ _ yss w' (h2.keep h) (h4.keep h))
  clear h1 h2 h3 h4
  have k0 := (C3.here w (.int .i64 p) (.slice a xs.length ca) (.slice b yss.length cb) 28).alloc (.cells #[.int .i64 p, .slice c xs.length cc, .slice d yss.length cd] 28)
  have k1 := C3.here (w.alloc (.cells #[.int .i64 p, .slice a xs.length ca, .slice b yss.length cb] 28)) (.int .i64 p) (.slice c xs.length cc) (.slice d yss.length cd) 28
  simp only [World.size_alloc] at k1
  generalize xs.length = n1 at *
  generalize yss.length = n2 at *
  go_enter Try.func19, Try.ntmps19
  go_wp2_with fail
  refine (HA.out _ (by go_grown)).mono ?_
  rintro e w1 ⟨rfl, hb⟩
  have hL := chain (B := w.heap.size) (a := w) (by go_grown) (Nat.le_refl _) hb
  replace k0 := keepAt3 hb k0
  replace k1 := keepAt3 hb k1
  clear hb
  go_wp2_with fail
  refine (HB.out _ hL).mono ?_
  rintro e w2 ⟨rfl, hb⟩
  have hL2 := chain (B := w.heap.size) (a := w) hL (Nat.le_refl _) hb
  clear hb
  go_wp2_with fail
  go_ret
  exact ⟨rfl, hL2⟩

/-- the rows of a wiring written over -/
theorem markWiring_any (v : Value) (p : Int) (B C : Nat) (xs : List Int) (yss : List (List Int)) (q : Int) (w : World) (h : OwnW w B C v p xs yss) (hC : C ≤ w.heap.size) (hl1 : xs.length ≤ 1048576) (hl2 : ∀ i, i < yss.length → (yss.getD i []).length ≤ 1048576) (q0 : 0 ≤ q)
    (hq : q + ((xs.length + (yss.length + sumLen yss yss.length) : Nat) : Int) ≤ 1048577) :
    Calls Try.prog 22 #[v, .int .i64 q] w fun e w' => e = .returned (.int .i64 (q + (xs.length : Int) + ((sumLen yss yss.length : Nat) : Int))) ∧ OwnW w' B C v p (iota q xs.length) (rowsK (q + (xs.length : Int)) yss yss.length) ∧ Only B C w w' := by
  obtain ⟨a, ca, b, cb, M, rfl, hB, hM, h1, h2⟩ := h
  obtain ⟨s2, hs2⟩ : ∃ s2 : Int, ((sumLen yss yss.length : Nat) : Int) = s2 := ⟨_, rfl⟩
  have HIL : (iota q xs.length).length = xs.length := by simp [iota]
  have HA : Hid (∀ w', In w' B M (.slice a xs.length ca) xs → Calls Try.prog 29 #[.slice a xs.length ca, .int .i64 q] w' fun e w'' => e = .returned (.int .i64 (q + (xs.length : Int))) ∧ In w'' B M (.slice a xs.length ca) (iota q xs.length) ∧ Only B M w' w'') := fun w' h => markIn_any _ B M xs q w' h hl1 q0 (by omega)
  have HB : Hid (∀ w', Own2 w' M C (.slice b yss.length cb) yss → Calls Try.prog 47 #[.slice b yss.length cb, .int .i64 (q + (xs.length : Int))] w' fun e w'' => e = .returned (.int .i64 (q + (xs.length : Int) + s2)) ∧ Own2 w'' M C (.slice b yss.length cb) (rowsK (q + (xs.length : Int)) yss yss.length) ∧ Only M C w' w'') := fun w' h => hs2 ▸ markInt64SS_any _ M C yss (q + (xs.length : Int)) w' h hl2 (by omega) (by omega)
  have k0 := C3.here w (.int .i64 p) (.slice a xs.length ca) (.slice b yss.length cb) 28
  have HO1 := Lib.hid (h1.keep ((Below.refl _ _).alloc (Nat.le_refl _) (.cells #[.int .i64 p, .slice a xs.length ca, .slice b yss.length cb] 28)))
  have HO2 := Lib.hid (h2.keep ((Below.refl _ _).alloc (Nat.le_refl _) (.cells #[.int .i64 p, .slice a xs.length ca, .slice b yss.length cb] 28)))
  have HF : Hid (∀ w', In w' B M (.slice a xs.length ca) (iota q xs.length) → Own2 w' M C (.slice b yss.length cb) (rowsK (q + (xs.length : Int)) yss yss.length) → OwnW w' B C (.agg #[.int .i64 p, .slice a xs.length ca, .slice b yss.length cb]) p (iota q xs.length) (rowsK (q + (xs.length : Int)) yss yss.length)) := fun w' x y =>
    ⟨a, ca, b, cb, M, by rw [rowsK_len, HIL], hB, hM, by rw [HIL]; exact x, by rw [rowsK_len]; exact y⟩
  rw [hs2]
  clear h1 h2 hl1 hl2 hs2 q0 hq HIL
  obtain ⟨L1, hL1⟩ : ∃ L1, iota q xs.length = L1 := ⟨_, rfl⟩
  obtain ⟨L2, hL2⟩ : ∃ L2, rowsK (q + (xs.length : Int)) yss yss.length = L2 := ⟨_, rfl⟩
  rw [hL1] at HA HF ⊢
  rw [hL2] at HB HF ⊢
  clear hL1 hL2
  generalize q + (xs.length : Int) = q1 at *
  generalize q1 + s2 = q2 at *
  generalize xs.length = n1 at *
  generalize yss.length = n2 at *
  go_enter Try.func22, Try.ntmps22
  go_wp2_with fail
  refine (HA.out _ HO1.out).mono ?_
  rintro e w1 ⟨rfl, om, oo⟩
  have hz := oo.size
  simp only [World.size_alloc] at hz
  have hA : Hid (Only B C w w1) := ⟨oo.os, oo.tape, oo.output, by omega, fun k hk ho => by
    rw [oo.block k (by simp; omega) (by omega)]
    exact Below.heap_alloc w _ k hk⟩
  replace k0 := k0.only oo (by omega)
  replace HO2 := Lib.hid (HO2.out.only oo (.inr (Nat.le_refl _)))
  have OM := Lib.hid om
  clear om oo
  go_wp2_with fail
  refine (HB.out _ HO2.out).mono ?_
  rintro e w2 ⟨rfl, om, oo⟩
  have hA2 : Hid (Only B C w w2) := ⟨oo.os.trans hA.out.os, oo.tape.trans hA.out.tape, oo.output.trans hA.out.output, Nat.le_trans hA.out.size oo.size, fun k hk ho => by
    rw [oo.block k (by have := hA.out.size; omega) (by omega)]
    exact hA.out.block k hk ho⟩
  have HH := Lib.hid (HF.out _ (OM.out.only oo (.inl (Nat.le_refl _))) om)
  clear om oo
  go_wp2_with fail
  go_ret
  exact ⟨rfl, HH.out, hA2.out⟩

theorem heldWiring_any (v : Value) (p : Int) (xs : List Int) (yss : List (List Int)) (q : Int) (w : World) (h : ReadsW w v p (iota q xs.length) (rowsK (q + (xs.length : Int)) yss yss.length)) (hl1 : xs.length ≤ 1048576) (hl2 : ∀ i, i < yss.length → (yss.getD i []).length ≤ 1048576) (q0 : 0 ≤ q)
    (hq : q + ((xs.length + (yss.length + sumLen yss yss.length) : Nat) : Int) ≤ 1048577) :
    Calls Try.prog 23 #[v, .int .i64 q] w fun e w' => e = .returned (.int .i64 (q + (xs.length : Int) + ((sumLen yss yss.length : Nat) : Int))) ∧ Below w.heap.size w w' := by
  obtain ⟨a, ca, b, cb, rfl, h1, h2⟩ := h
  obtain ⟨s2, hs2⟩ : ∃ s2 : Int, ((sumLen yss yss.length : Nat) : Int) = s2 := ⟨_, rfl⟩
  have HIL : (iota q xs.length).length = xs.length := by simp [iota]
  rw [HIL] at h1 ⊢
  rw [rowsK_len] at *
  have HA : Hid (∀ w', Below w.heap.size w w' → Calls Try.prog 30 #[.slice a xs.length ca, .int .i64 q] w' fun e w'' => e = .returned (.int .i64 (q + (xs.length : Int))) ∧ Below w'.heap.size w' w'') := fun w' h => heldInt64S_any _ xs.length q w' (h1.keep h) hl1 q0 (by omega)
  have HB : Hid (∀ w', Below w.heap.size w w' → Calls Try.prog 71 #[.slice b yss.length cb, .int .i64 (q + (xs.length : Int))] w' fun e w'' => e = .returned (.int .i64 (q + (xs.length : Int) + s2)) ∧ Below w'.heap.size w' w'') := fun w' h => hs2 ▸ heldInt64SS_any _ yss (q + (xs.length : Int)) w' (h2.keep h) hl2 (by omega) (by omega)
  have k0 := C3.here w (.int .i64 p) (.slice a xs.length ca) (.slice b yss.length cb) 28
  rw [hs2]
  have hn1 : ¬ q + (xs.length : Int) < 0 := by omega
  have hn2 : ¬ q + (xs.length : Int) + s2 < 0 := by omega
  clear h1 h2 hl1 hl2 hs2 q0 hq HIL
  generalize q + (xs.length : Int) = q1 at *
  generalize q1 + s2 = q2 at *
  generalize xs.length = n1 at *
  generalize yss.length = n2 at *
  go_enter Try.func23, Try.ntmps23
  go_wp2_with fail
  refine (HA.out _ (by go_grown)).mono ?_
  rintro e w1 ⟨rfl, hb⟩
  have hL := chain (B := w.heap.size) (a := w) (by go_grown) (Nat.le_refl _) hb
  replace k0 := keepAt3 hb k0
  clear hb
  go_wp2_with fail
  refine (HB.out _ hL).mono ?_
  rintro e w2 ⟨rfl, hb⟩
  have hL2 := chain (B := w.heap.size) (a := w) hL (Nat.le_refl _) hb
  clear hb
  go_wp2_with fail
  go_ret
  exact ⟨rfl, hL2⟩

theorem inAt {w w' : World} {lo hi : Nat} {v : Value} {xs : List Int} (hb : Below w.heap.size w w') (h : In w lo hi v xs) : In w' lo hi v xs := h.keep hb

end Go.Proofs.Ytkdidplpnhokiaa
