/- Fst, Fol, Cov, Cvs, Cvr, Ser, IcP, IcS, IcT in one text. -/
import Derived.Test.YtnlcnbkookmfaaaGoP
import Derived.Test.YtnlcnbkookmfaaaCoF
import Derived.Test.YtnlcnbkookmfaaaGoS
import Derived.Test.YtnlcnbkookmfaaaGoG
import Derived.Test.YtnlcnbkookmfaaaCin
namespace Go.Proofs.Ytnlcnbkookmfaaa
open Go.RowKit
set_option linter.unusedVariables false

/-- the set i has all members of P -/
noncomputable def hasB (Qs : Nat → Nat → Prop) (P : Nat → Prop) (i : Nat) : Bool := bP (∀ j, j < 8 → P j → Qs i j)
noncomputable def fstJ (Qs : Nat → Nat → Prop) (m : Nat) (P : Nat → Prop) : Nat := Classical.choose (firstB (hasB Qs P) m)
theorem fstJ_spec (Qs : Nat → Nat → Prop) (m : Nat) (P : Nat → Prop) : fstJ Qs m P ≤ m ∧ (∀ i, i < fstJ Qs m P → hasB Qs P i = false) ∧ (fstJ Qs m P < m → hasB Qs P (fstJ Qs m P) = true) := Classical.choose_spec (firstB (hasB Qs P) m)
noncomputable def fstR (Qs : Nat → Nat → Prop) (m : Nat) (P : Nat → Prop) : Int := if fstJ Qs m P < m then ((fstJ Qs m P : Nat) : Int) else -1
theorem fstR_neg {Qs : Nat → Nat → Prop} {m : Nat} {P : Nat → Prop} : fstR Qs m P < 0 ↔ ∀ i, i < m → hasB Qs P i = false := by
  obtain ⟨h1, h2, h3⟩ := fstJ_spec Qs m P
  unfold fstR
  split
  · rename_i h
    constructor
    · intro h4; omega
    · intro h4; rw [h4 _ h] at h3; exact absurd (h3 h) (by decide)
  · rename_i h
    exact ⟨fun _ i hi => h2 i (by omega), fun _ => by omega⟩
theorem fstJ_congr {Qs : Nat → Nat → Prop} {m : Nat} {P P' : Nat → Prop} (h : ∀ j, j < 8 → (P j ↔ P' j)) : fstR Qs m P = fstR Qs m P' := by
  have e : hasB Qs P = hasB Qs P' := funext fun i => bP_congr ⟨fun h2 j hj hp => h2 j hj ((h j hj).2 hp), fun h2 j hj hp => h2 j hj ((h j hj).1 hp)⟩
  unfold fstR fstJ
  simp only [e]
theorem has_andNot (P Q : Nat → Prop) : (bits .andNot .i64 ((rowN P : Nat) : Int) ((rowN Q : Nat) : Int) == 0) = bP (∀ j, j < 8 → P j → Q j) := by
  have h1 := rowN_sub P Q
  rw [i64_andNot _ _ (by have := rowN_lt P; omega) (by have := rowN_lt Q; omega)]
  by_cases h : rowN P &&& (2 ^ 63 - 1 - rowN Q) = 0
  · rw [h, bP_yes (h1.1 h)]; rfl
  · rw [bP_no fun hh => h (h1.2 hh)]
    simp only [beq_eq_false_iff_ne, ne_eq]; omega

theorem partIn_any (S x : Int) (bn : Nat) (w : World) (c0 : w.cell? ⟨bn, 0, none⟩ = some (.int .i64 S)) :
    Calls Try.prog 127 (#[.int .i64 x] ++ #[.pointer (some ⟨bn, 0, none⟩)]) w fun e w' => e = .returned (.bool (bits .andNot .i64 S x == 0)) ∧ Below w.heap.size w w' := by
  go_enter Try.func127, Try.ntmps127
  go_wp2_with fail
  go_ret
  exact ⟨rfl, Below.refl _ _⟩

set_option maxRecDepth 100000 in
set_option maxHeartbeats 2000000 in
theorem firstWith_any (v : Value) (zs : List Int) (Qs : Nat → Nat → Prop) (P : Nat → Prop) (w : World) (ha : Reads w v zs) (hz : ∀ i, i < zs.length → zs.getD i 0 = ((rowN (Qs i) : Nat) : Int)) :
    Calls Try.prog 107 #[v, .int .i64 ((rowN P : Nat) : Int)] w fun e w' => e = .returned (.int .i64 (fstR Qs zs.length P)) ∧ Below w.heap.size w w' := by
  obtain ⟨h1, h2, h3⟩ := fstJ_spec Qs zs.length P
  have hp : ∀ i, i < zs.length → (bits .andNot .i64 ((rowN P : Nat) : Int) (zs.getD i 0) == 0) = hasB Qs P i := fun i hi => by
    rw [hz i hi]; exact has_andNot P (Qs i)
  have HI := Lib.hid (fun w' bn (h : Below w.heap.size w w') (c0 : w'.cell? ⟨bn, 0, none⟩ = some (.int .i64 ((rowN P : Nat) : Int))) => indexFunc_any v zs 127 #[.pointer (some ⟨bn, 0, none⟩)] (fun x => bits .andNot .i64 ((rowN P : Nat) : Int) x == 0) (fstJ Qs zs.length P) w' (ha.keep h) h1 (fun i hi => by rw [hp i (by omega)]; exact h2 i hi) (fun hi => by rw [hp _ hi]; exact h3 hi) (fun x wx hx => partIn_any _ x bn wx (cell_later hx c0)) (enters_of Try.func127 (by kernel_rfl) rfl) (r := fstR Qs zs.length P) rfl)
  have c0 : (w.alloc (.cells #[.int .i64 ((rowN P : Nat) : Int)] 2)).cell? ⟨w.heap.size, 0, none⟩ = some (.int .i64 ((rowN P : Nat) : Int)) := by rw [World.cell?_alloc_at _ _ _ _ rfl]; rfl
  obtain ⟨a, ca, rfl, _, _⟩ := ha
  clear h1 h2 h3 hz hp
  generalize fstR Qs zs.length P = r at *
  generalize ((rowN P : Nat) : Int) = S at *
  generalize zs.length = m at *
  go_enter Try.func107, Try.ntmps107
  go_wp2_with fail
  refine (HI.out _ _ (by go_grown) c0).mono ?_
  rintro e w1 ⟨rfl, hb⟩
  have hL := chain (B := w.heap.size) (a := w) (by go_grown) (Nat.le_refl _) hb
  clear hb
  go_wp2_with fail
  go_ret
  exact ⟨rfl, hL⟩

theorem has_and (P Q : Nat → Prop) : (bits .and .i64 ((rowN Q : Nat) : Int) ((rowN P : Nat) : Int) == ((rowN P : Nat) : Int)) = bP (∀ j, j < 8 → P j → Q j) := by
  rw [i64_and _ _ (by have := rowN_lt Q; omega) (by have := rowN_lt P; omega), rowN_and]
  by_cases h : ∀ j, j < 8 → P j → Q j
  · rw [bP_yes h, rowN_congr (Q := P) fun j hj => ⟨fun h2 => h2.2, fun h2 => ⟨h j hj h2, h2⟩⟩]; simp
  · rw [bP_no h]
    simp only [beq_eq_false_iff_ne, ne_eq]
    intro e
    have e2 : rowN (fun b => Q b ∧ P b) = rowN P := by omega
    exact h fun j hj hp => ((rowN_inj e2 hj).2 hp).1

set_option maxRecDepth 100000 in
set_option maxHeartbeats 2000000 in
theorem l07First_any (v : Value) (zs : List Int) (Qs : Nat → Nat → Prop) (P : Nat → Prop) (w : World) (ha : Reads w v zs) (hz : ∀ i, i < zs.length → zs.getD i 0 = ((rowN (Qs i) : Nat) : Int)) :
    Calls Try.prog 89 #[v, .int .i64 ((rowN P : Nat) : Int)] w fun e w' => e = .returned (.int .i64 (fstR Qs zs.length P)) ∧ w = w' := by
  obtain ⟨h1, h2, h3⟩ := fstJ_spec Qs zs.length P
  have HP : Hid (∀ i, i < zs.length → (bits .and .i64 (zs.getD i 0) ((rowN P : Nat) : Int) == ((rowN P : Nat) : Int)) = hasB Qs P i) := fun i hi => by
    rw [hz i hi]; exact has_and P (Qs i)
  have HRR : Hid (fstR Qs zs.length P = if fstJ Qs zs.length P < zs.length then ((fstJ Qs zs.length P : Nat) : Int) else -1) := rfl
  have OU := Lib.hid ha
  obtain ⟨a, ca, rfl, hm, _⟩ := ha
  unfold maxLen at hm
  have HC : Hid (∀ i, i < zs.length → ∃ b off, a = some ⟨b, off, none⟩ ∧ w.cell? ⟨b, off + i, none⟩ = some (.int .i64 (zs.getD i 0))) := fun i hi => OU.out.cellR hi
  have H2 := Lib.hid h2
  have H3 := Lib.hid h3
  clear hz h2 h3 OU
  generalize fstR Qs zs.length P = r at *
  generalize fstJ Qs zs.length P = J at *
  generalize ((rowN P : Nat) : Int) = S at *
  generalize hl : zs.length = m at *
  clear hl
  go_enter Try.func89, Try.ntmps89
  go_wp2_with fail
  go_loop [5] (fun c => ∃ k : Nat, k ≤ J ∧ c = .int .i64 (k : Int)) (fun c => m - (intOf c).toNat)
  case atStart => exact ⟨0, Nat.zero_le _, rfl⟩
  case round =>
    obtain ⟨k, hk, rfl⟩ := hrel
    by_cases hlt : k < m
    · have hi1 : (k : Int) < (m : Int) := by omega
      have hi0 : (0 : Int) ≤ (k : Int) := by omega
      obtain ⟨ub, uo, rfl, hcu⟩ := HC.out k hlt
      have hq := HP.out k hlt
      by_cases hkJ : k < J
      · rw [H2.out k hkJ] at hq
        generalize zs.getD k 0 = z at *
        go_wp2_with fail
        go_round
        case rel => exact ⟨k + 1, by omega, by go_num⟩
        case measure => simp [intOf]; omega
      · have e : k = J := by omega
        subst e
        rw [H3.out hlt] at hq
        have HR : Hid (r = (k : Int)) := by have := HRR.out; rw [if_pos hlt] at this; exact this
        generalize zs.getD k 0 = z at *
        go_wp2_with fail
        go_ret
        exact ⟨by rw [HR.out]; rfl, rfl⟩
    · have hge : ¬ (k : Int) < (m : Int) := by omega
      have HR : Hid (r = -1) := by have := HRR.out; rw [if_neg (by omega)] at this; exact this
      go_wp2_with fail
      go_ret
      exact ⟨by rw [HR.out]; rfl, rfl⟩

/-- the sets of lists, as numbers -/
noncomputable def setZ (xss : List (List Int)) (k : Nat) : List Int := (List.range k).map fun i => ((rowN (memQ (xss.getD i []) (xss.getD i []).length) : Nat) : Int)
theorem setZ_len (xss : List (List Int)) (k : Nat) : (setZ xss k).length = k := by simp [setZ]
theorem setZ_succ (xss : List (List Int)) (k : Nat) : setZ xss (k + 1) = setZ xss k ++ [((rowN (memQ (xss.getD k []) (xss.getD k []).length) : Nat) : Int)] := by simp [setZ, List.range_succ]
theorem setZ_get (xss : List (List Int)) (k i : Nat) (h : i < k) : (setZ xss k).getD i 0 = ((rowN (memQ (xss.getD i []) (xss.getD i []).length) : Nat) : Int) := by
  simp [setZ, List.getD_eq_getElem?_getD, h]

set_option maxRecDepth 100000 in
set_option maxHeartbeats 2000000 in
theorem setsOf_any (v : Value) (xss : List (List Int)) (w : World) (ha : Reads2 w v xss) (hn : xss.length ≤ 1000) (hx : ∀ i, i < xss.length → ∀ k, k < (xss.getD i []).length → 0 ≤ (xss.getD i []).getD k 0 ∧ (xss.getD i []).getD k 0 < 8) :
    Calls Try.prog 85 #[v] w fun e w' => ∃ u, e = .returned u ∧ Owns w' w.heap.size u (setZ xss xss.length) ∧ Below w.heap.size w w' := by
  obtain ⟨j0, hj0_, jz0, jz1, jz2⟩ := info_parts info64
  have HA := Lib.hid ha
  obtain ⟨a, ca, rfl, hm, _⟩ := ha
  have HP : Hid (∀ k, k < xss.length → ∃ b off u, a = some ⟨b, off, none⟩ ∧ w.cell? ⟨b, off + k, none⟩ = some u ∧ Reads w u (xss.getD k [])) := fun k hk => HA.out.cellR hk
  have HX := Lib.hid hx
  have HZ0 : Hid (setZ xss 0 = []) := rfl
  have HSS := Lib.hid (fun k => setZ_succ xss k)
  have HSL := Lib.hid (fun k => setZ_len xss k)
  clear hm hx HA
  generalize hl : xss.length = l at *
  clear hl
  go_enter Try.func85, Try.ntmps85
  go_wp2_with fail
  go_loopw [3, 8] (fun u c wr => ∃ k : Nat, k ≤ l ∧ c = .int .i64 (k : Int) ∧ Below w.heap.size w wr ∧ Owns wr w.heap.size u (setZ xss k)) (fun _ c _ => l - (intOf c).toNat)
  case atStart => exact ⟨0, Nat.zero_le _, rfl, Below.refl _ _, by rw [HZ0.out]; exact World.ownsRow_nil _ _ _ _⟩
  case round =>
    obtain ⟨k, hk, rfl, hL, oo⟩ := hrel
    by_cases hlt : k < l
    · have hi1 : (k : Int) < (l : Int) := by omega
      have hi0 : (0 : Int) ≤ (k : Int) := by omega
      obtain ⟨b, off, u, rfl, hu, hr⟩ := HP.out k hlt
      have hca := cell_later hL hu
      have HS := Lib.hid (setOf8_any u _ wr (hr.keep hL) (HX.out k hlt))
      have HSk := HSS.out k
      have hsl := HSL.out k
      have HN := Lib.hid HSk
      clear hu hr HSk
      generalize ((rowN (memQ (xss.getD k []) (xss.getD k []).length) : Nat) : Int) = Z at *
      have OO := Lib.hid oo
      have hz := hL.size
      clear oo
      generalize hg : setZ xss k = L1 at *
      clear hg
      go_wp2_with (first | (go_at_call 71; (with_reducible refine (HS.out).mono ?_); rintro e w' ⟨rfl, rfl⟩) | (at_builtin; refine wpList_append_own _ rfl _ _ 36 rfl w.heap.size 2 j0 (.int .i64 0) 1 8 Try.underlying36 hj0_ jz0 jz1 jz2 rfl (by decide) _ L1.length (L1.map (Value.int .i64)) rfl (World.ownsRow.alloc OO.out _) ⟨wr.heap.size, 0, none⟩ 1 1 [.int .i64 Z] rfl rfl (cell_one_new _ _ _) (by simp [Value.oneCell']) (by unfold maxLen; omega) (by omega) (by simp; omega) ?_; intro v1 w5 hown1 hgrow1 hnil1))
      have hfrom := OO.out.rowsFrom (B := w.heap.size) (Nat.le_refl _)
      exact ⟨⟨k + 1, by omega, by go_num, (hL.alloc (by omega) _).grown hgrow1 (by simp; omega) hfrom, by rw [HN.out]; exact Owns.snoc hown1⟩, by simp [intOf]; omega⟩
    · have e : k = l := by omega
      subst e
      have hge : ¬ (k : Int) < (k : Int) := by omega
      go_wp2_with fail
      go_ret
      exact ⟨_, rfl, oo, hL⟩

/-- the rows that follow the first k rows of a list in a column -/
def folQ (xss : List (List Int)) (c : Nat) (xs : List Int) (k b : Nat) : Prop := ∃ i, i < k ∧ plZ xss (xs.getD i 0).toNat c = (b : Int)
theorem folQ_zero (xss : List (List Int)) (c : Nat) (xs : List Int) : rowN (folQ xss c xs 0) = 0 := by
  rw [rowN_congr (Q := fun _ => False) fun j _ => ⟨fun ⟨i, hi, _⟩ => by omega, False.elim⟩, rowN_none]
theorem folQ_hit {xss : List (List Int)} {c : Nat} {xs : List Int} {k y : Nat} (h : plZ xss (xs.getD k 0).toNat c = (y : Int)) (b : Nat) : (folQ xss c xs k b ∨ b = y) ↔ folQ xss c xs (k + 1) b := by
  constructor
  · rintro (⟨i, hi, e⟩ | rfl)
    · exact ⟨i, by omega, e⟩
    · exact ⟨k, by omega, h⟩
  · rintro ⟨i, hi, e⟩
    by_cases hk : i = k
    · subst hk; right; omega
    · exact .inl ⟨i, by omega, e⟩
theorem folQ_miss {xss : List (List Int)} {c : Nat} {xs : List Int} {k : Nat} (h : plZ xss (xs.getD k 0).toNat c < 0) (b : Nat) : folQ xss c xs k b ↔ folQ xss c xs (k + 1) b := by
  constructor
  · rintro ⟨i, hi, e⟩; exact ⟨i, by omega, e⟩
  · rintro ⟨i, hi, e⟩
    by_cases hk : i = k
    · subst hk; omega
    · exact ⟨i, by omega, e⟩

set_option maxRecDepth 100000 in
set_option maxHeartbeats 1000000 in
theorem l07List_any (s : Int) (w : World) (h0 : 0 ≤ s) (hx : s < 9223372036854775808) :
    Calls Try.prog 72 #[.int .i64 s] w fun e w' => ∃ u, e = .returned u ∧ Owns w' w.heap.size u (onesTo s 8) ∧ Below w.heap.size w w' := by
  obtain ⟨i0, hi, hz0, hz1, hz2⟩ := info_parts info64
  have oo : Owns (w.alloc (.cells #[] 2)) w.heap.size (.slice (some ⟨w.heap.size, 0, none⟩) 0 0) (onesTo s 0) :=
    World.ownsRow_made (base := w.heap.size) (e := 2) (size := 1) w #[] 0 (by simp) (by simp) rfl
  go_enter Try.func72, Try.ntmps72
  go_wp2_with fail
  go_loopw [3, 4] (fun u c wr => ∃ k : Nat, k ≤ 8 ∧ c = .int .i64 (k : Int) ∧ Below w.heap.size w wr ∧ Owns wr w.heap.size u (onesTo s k)) (fun _ c _ => (8 - intOf c).toNat)
  case atStart => exact ⟨0, by omega, rfl, by go_grown, oo⟩
  case round =>
    clear oo
    obtain ⟨k, hk, rfl, hL, oo⟩ := hrel
    by_cases hlt : k < 8
    · have hi1 : (k : Int) < 8 := by omega
      have hw : bits .and .i64 (s / 2 ^ k) 1 = digZ s (k : Int) := by have := digit_walk s k h0 hx (by omega); simpa using this
      by_cases hb : dig s.toNat k = 1
      · have hd1 : (bits .and .i64 (s / 2 ^ k) 1 == 1) = true := by rw [hw]; simp [digZ, hb]
        have Hn := Lib.hid (onesTo_hit s k hb)
        have Hl := Lib.hid (onesTo_len s k)
        clear hb hw
        go_wp2_with (at_builtin; refine wpList_append_own _ rfl _ _ 36 rfl w.heap.size 2 i0 (.int .i64 0) 1 8 Try.underlying36 hi hz0 hz1 hz2 rfl (by decide) _ _ _ rfl (World.ownsRow.alloc oo _) ⟨wr.heap.size, 0, none⟩ 1 1 [.int .i64 (k : Int)] rfl rfl (cell_one_new _ _ _) (by simp [Value.oneCell']) (by have := Hl.out; unfold maxLen; omega) (by have := Hl.out; omega) (by have := hL.size; simp; omega) ?_; intro v' w1 hown' hgrow hnil)
        have hz' := hL.size
        have hfrom := oo.rowsFrom (B := w.heap.size) (by omega)
        exact ⟨⟨k + 1, by omega, by go_num, (hL.alloc (by omega) _).grown hgrow (by simp; omega) hfrom, by rw [Hn.out]; exact Owns.snoc hown'⟩, by simp [intOf]; omega⟩
      · have hd1 : (bits .and .i64 (s / 2 ^ k) 1 == 1) = false := by
          have := dig_lt s.toNat k
          have e : dig s.toNat k = 0 := by omega
          rw [hw]; simp [digZ, e]
        have Hn := Lib.hid (onesTo_miss s k hb)
        clear hb hw
        go_wp2_with fail
        exact ⟨⟨k + 1, by omega, by go_num, hL, by rw [Hn.out]; exact oo⟩, by simp [intOf]; omega⟩
    · obtain rfl : k = 8 := by omega
      go_wp2_with fail
      go_ret
      exact ⟨_, rfl, oo, hL⟩

/-- what both walks want of the chart -/
theorem folP {w : World} {a b' : Option Addr} {ca : Nat} {p : Int} {xss yss : List (List Int)} {xs : List Int} {C : Nat} (hb : chaB p xss yss = true) (h1 : Reads2 w (.slice a xss.length ca) xss) (hC : (C : Int) < p) (hx : ∀ i, i < xs.length → 0 ≤ xs.getD i 0 ∧ xs.getD i 0 < (xss.length : Int)) :
    ∀ k, k < xs.length → ∃ R : Nat, xs.getD k 0 = (R : Int) ∧ (R : Int) < (xss.length : Int) ∧ ∃ b off ub uo ul uc, a = some ⟨b, off, none⟩ ∧ w.cell? ⟨b, off + R, none⟩ = some (.slice (some ⟨ub, uo, none⟩) ul uc) ∧ (C : Int) < (ul : Int) ∧ ∃ z, w.cell? ⟨ub, uo + C, none⟩ = some (.int .i64 z) ∧ ((z = -1 ∧ rowN (folQ xss C xs (k + 1)) = rowN (folQ xss C xs k)) ∨
      (∃ Y : Nat, z = (Y : Int) ∧ Y < 8 ∧ ∀ V, bits .or .i64 ((rowN (folQ xss C xs k) : Nat) : Int) (wrap64 (2 ^ Y)) = V → V = ((rowN (folQ xss C xs (k + 1)) : Nat) : Int))) := by
  intro k hk
  obtain ⟨⟨n1, n8⟩, ⟨p1, p4⟩, -⟩ := chaB_out hb
  obtain ⟨x0, x1⟩ := hx k hk
  obtain ⟨R, hR⟩ : ∃ R : Nat, xs.getD k 0 = (R : Int) := ⟨(xs.getD k 0).toNat, by omega⟩
  have hRn : R < xss.length := by omega
  have e := (row_len hb hRn).1
  obtain ⟨b, off, ub, uo, uc, g1, g2, g3⟩ := h1.place hRn (c := C) (by omega)
  refine ⟨R, hR, by omega, b, off, ub, uo, _, uc, g1, g2, by omega, plZ xss R C, g3, ?_⟩
  obtain ⟨z0, z1⟩ := nx_bd hb hRn hC
  by_cases hz : plZ xss R C = -1
  · left
    refine ⟨hz, rowN_congr fun j _ => (folQ_miss ?_ j).symm⟩
    rw [hR, Int.toNat_natCast, hz]; decide
  · right
    obtain ⟨Y, hY⟩ : ∃ Y : Nat, plZ xss R C = (Y : Int) := ⟨(plZ xss R C).toNat, by omega⟩
    refine ⟨Y, hY, by omega, fun V hV => ?_⟩
    rw [← hV, or_walk _ Y (by have := rowN_lt (folQ xss C xs k); omega) (by omega), rowN_or _ (by omega)]
    rw [rowN_congr fun j _ => folQ_hit (k := k) (y := Y) (by rw [hR, Int.toNat_natCast]; exact hY) j]

set_option maxRecDepth 100000 in
set_option maxHeartbeats 2000000 in
theorem followersOf_any (v : Value) (p : Int) (xss yss : List (List Int)) (Q : Nat → Prop) (C : Nat) (w : World) (ha : ReadsH w v p xss yss) (hb : chaB p xss yss = true) (hC : (C : Int) < p) (hQ : ∀ a, a < 8 → Q a → a < xss.length) :
    Calls Try.prog 108 #[v, .int .i64 ((rowN Q : Nat) : Int), .int .i64 (C : Int)] w fun e w' => e = .returned (.int .i64 ((rowN (folQ xss C (onesTo ((rowN Q : Nat) : Int) 62) (onesTo ((rowN Q : Nat) : Int) 62).length) : Nat) : Int)) ∧ Below w.heap.size w w' := by
  have HM := Lib.hid (fun w => membersOf_any ((rowN Q : Nat) : Int) w (by omega) (by have := rowN_lt Q; omega))
  have hx : ∀ i, i < (onesTo ((rowN Q : Nat) : Int) 62).length → 0 ≤ (onesTo ((rowN Q : Nat) : Int) 62).getD i 0 ∧ (onesTo ((rowN Q : Nat) : Int) 62).getD i 0 < (xss.length : Int) := fun i hi => by
    obtain ⟨x, e, h8, hq⟩ := ones8_get hi
    have := hQ x h8 hq
    rw [e]; omega
  have hl8 := ones8_len Q
  obtain ⟨xs, hxs⟩ : ∃ xs, onesTo ((rowN Q : Nat) : Int) 62 = xs := ⟨_, rfl⟩
  rw [hxs] at hx hl8 HM
  rw [hxs]
  clear hxs
  obtain ⟨a, ca, b', cb, rfl, h1, _⟩ := ha
  have HP := Lib.hid (folP (b' := b') (xs := xs) hb h1 hC hx)
  have H0 := Lib.hid (folQ_zero xss C xs)
  have h0 := C3.here w (.int .i64 p) (.slice a xss.length ca) (.slice b' yss.length cb) 27
  have hc0 : (0 : Int) ≤ (C : Int) := by omega
  clear hb h1 hx hQ hC
  generalize ((rowN Q : Nat) : Int) = S at *
  generalize xss.length = n at *
  generalize yss.length = m at *
  go_enter Try.func108, Try.ntmps108
  go_wp2_with fail
  refine (HM.out _).mono ?_
  rintro e w1 ⟨u, rfl, ou, hb⟩
  have hL := chain (B := w.heap.size) (a := w) (by go_grown) (Nat.le_refl _) hb
  have h0' := h0.keep hb
  have OU := Lib.hid ou.reads
  obtain ⟨ua, uc, rfl, hum, _⟩ := ou.reads
  have HC : Hid (∀ i, i < xs.length → ∃ b off, ua = some ⟨b, off, none⟩ ∧ w1.cell? ⟨b, off + i, none⟩ = some (.int .i64 (xs.getD i 0))) := fun i hi => OU.out.cellR hi
  clear hb ou h0 hum OU
  generalize hl : xs.length = l at *
  have HLL := Lib.hid hl
  clear hl
  go_wp2_with fail
  go_loop [7, 14] (fun s c => ∃ k : Nat, k ≤ l ∧ c = .int .i64 (k : Int) ∧ s = .int .i64 ((rowN (folQ xss C xs k) : Nat) : Int)) (fun _ c => l - (intOf c).toNat)
  case atStart => exact ⟨0, Nat.zero_le _, rfl, by rw [H0.out]; rfl⟩
  case round =>
    obtain ⟨k, hk, rfl, rfl⟩ := hrel
    by_cases hlt : k < l
    · have hi1 : (k : Int) < (l : Int) := by omega
      have hi0 : (0 : Int) ≤ (k : Int) := by omega
      obtain ⟨ub, uo, rfl, hcu⟩ := HC.out k hlt
      obtain ⟨R, hR, hRn, b, off, vb, vo, vl, vc, rfl, g2, hCl, z, g3, hz⟩ := HP.out k hlt
      rw [hR] at hcu
      have hc2 := cell_later hL g2
      have hc3 := cell_later hL g3
      have hR0 : (0 : Int) ≤ (R : Int) := by omega
      clear g2 g3 hR
      rcases hz with ⟨rfl, hz⟩ | ⟨Y, rfl, hY8, hV⟩
      · have HZ := Lib.hid hz
        clear hz
        obtain ⟨T, hT⟩ : ∃ T, ((rowN (folQ xss C xs k) : Nat) : Int) = T := ⟨_, rfl⟩
        have HT := Lib.hid hT
        rw [hT]
        clear hT
        go_wp2_with fail
        go_round
        case rel => exact ⟨k + 1, by omega, by go_num, by rw [HZ.out, HT.out]⟩
        case measure => simp [intOf]; omega
      · have hne : ((Y : Int) != -1) = true := by first | (simp; done) | (simp; omega)
        have hY0 : (0 : Int) ≤ (Y : Int) := by omega
        have hY63 : (Y : Int) < 63 := by omega
        obtain ⟨V, hVV⟩ : ∃ V, bits .or .i64 ((rowN (folQ xss C xs k) : Nat) : Int) (wrap64 (2 ^ Y)) = V := ⟨_, rfl⟩
        have HV := Lib.hid (hV V hVV)
        clear hV
        obtain ⟨T, hT⟩ : ∃ T, ((rowN (folQ xss C xs k) : Nat) : Int) = T := ⟨_, rfl⟩
        rw [hT] at hVV
        rw [hT]
        clear hT
        go_wp2_with fail
        go_round
        case rel => exact ⟨k + 1, by omega, by go_num, by rw [HV.out]⟩
        case measure => simp [intOf]; omega
    · have e : k = l := by omega
      subst e
      have hge : ¬ (k : Int) < (k : Int) := by omega
      obtain ⟨T, hT⟩ : ∃ T, ((rowN (folQ xss C xs k) : Nat) : Int) = T := ⟨_, rfl⟩
      have HT := Lib.hid hT
      rw [hT]
      clear hT
      go_wp2_with fail
      go_ret
      exact ⟨by first | rfl | (rw [HLL.out]; rfl) | (rw [HLL.out, HT.out]; rfl) | (rw [HT.out]; rfl) | (rw [← HT.out]; rfl), hL⟩

set_option maxRecDepth 100000 in
set_option maxHeartbeats 2000000 in
theorem l07Follow_any (v vs : Value) (p : Int) (xss yss : List (List Int)) (xs : List Int) (C : Nat) (w : World) (ha : ReadsH w v p xss yss) (hs : Reads w vs xs) (hb : chaB p xss yss = true) (hC : (C : Int) < p) (hx : ∀ i, i < xs.length → 0 ≤ xs.getD i 0 ∧ xs.getD i 0 < (xss.length : Int)) (hl8 : xs.length ≤ 1000) :
    Calls Try.prog 88 #[v, vs, .int .i64 (C : Int)] w fun e w' => e = .returned (.int .i64 ((rowN (folQ xss C xs xs.length) : Nat) : Int)) ∧ Below w.heap.size w w' := by
  obtain ⟨a, ca, b', cb, rfl, h1, _⟩ := ha
  have HP := Lib.hid (folP (b' := b') (xs := xs) hb h1 hC hx)
  have H0 := Lib.hid (folQ_zero xss C xs)
  have OU := Lib.hid hs
  obtain ⟨ua, uc, rfl, hum, _⟩ := hs
  have HC : Hid (∀ i, i < xs.length → ∃ b off, ua = some ⟨b, off, none⟩ ∧ w.cell? ⟨b, off + i, none⟩ = some (.int .i64 (xs.getD i 0))) := fun i hi => OU.out.cellR hi
  have h0 := C3.here w (.int .i64 p) (.slice a xss.length ca) (.slice b' yss.length cb) 27
  have hc0 : (0 : Int) ≤ (C : Int) := by omega
  clear hb h1 hx hC hum OU
  generalize xss.length = n at *
  generalize yss.length = m at *
  generalize hl : xs.length = l at *
  clear hl
  go_enter Try.func88, Try.ntmps88
  go_wp2_with fail
  go_loopw [7, 8] (fun s c wr => ∃ k : Nat, k ≤ l ∧ c = .int .i64 (k : Int) ∧ s = .int .i64 ((rowN (folQ xss C xs k) : Nat) : Int) ∧ Below w.heap.size w wr ∧ C3 wr w.heap.size (.int .i64 p) (.slice a n ca) (.slice b' m cb)) (fun _ c _ => l - (intOf c).toNat)
  case atStart => exact ⟨0, Nat.zero_le _, rfl, by rw [H0.out]; rfl, by go_grown, h0⟩
  case round =>
    clear h0
    obtain ⟨k, hk, rfl, rfl, hL, h0⟩ := hrel
    by_cases hlt : k < l
    · have hi1 : (k : Int) < (l : Int) := by omega
      have hi0 : (0 : Int) ≤ (k : Int) := by omega
      obtain ⟨ub, uo, rfl, hcu0⟩ := HC.out k hlt
      obtain ⟨R, hR, hRn, b, off, vb, vo, vl, vc, rfl, g2, hCl, z, g3, hz⟩ := HP.out k hlt
      rw [hR] at hcu0
      have hcu := cell_later hL hcu0
      have hc2 := cell_later hL g2
      have hc3 := cell_later hL g3
      have hR0 : (0 : Int) ≤ (R : Int) := by omega
      clear g2 g3 hR hcu0
      rcases hz with ⟨rfl, hz⟩ | ⟨Y, rfl, hY8, hV⟩
      · have HZ := Lib.hid hz
        clear hz
        obtain ⟨T, hT⟩ : ∃ T, ((rowN (folQ xss C xs k) : Nat) : Int) = T := ⟨_, rfl⟩
        have HT := Lib.hid hT
        rw [hT]
        clear hT
        go_wp2_with fail
        go_quiet (fail)
        go_wp2_with fail
        exact ⟨⟨k + 1, by omega, by go_num, by rw [HZ.out, HT.out], Bdrew hL _, C3.drewUN h0 _⟩, by simp [intOf]; omega⟩
      · have hne : (0 : Int) ≤ (Y : Int) := by omega
        have hY63 : (Y : Int) < 63 := by omega
        obtain ⟨V, hVV⟩ : ∃ V, bits .or .i64 ((rowN (folQ xss C xs k) : Nat) : Int) (wrap64 (2 ^ Y)) = V := ⟨_, rfl⟩
        have HV := Lib.hid (hV V hVV)
        clear hV
        obtain ⟨T, hT⟩ : ∃ T, ((rowN (folQ xss C xs k) : Nat) : Int) = T := ⟨_, rfl⟩
        rw [hT] at hVV
        rw [hT]
        clear hT
        go_wp2_with fail
        go_quiet (fail)
        go_wp2_with fail
        exact ⟨⟨k + 1, by omega, by go_num, by rw [HV.out], Bdrew hL _, C3.drewUN h0 _⟩, by simp [intOf]; omega⟩
    · have e : k = l := by omega
      subst e
      have hge : ¬ (k : Int) < (k : Int) := by omega
      obtain ⟨T, hT⟩ : ∃ T, ((rowN (folQ xss C xs k) : Nat) : Int) = T := ⟨_, rfl⟩
      have HT := Lib.hid hT
      rw [hT]
      clear hT
      go_wp2_with fail
      go_ret
      exact ⟨by first | rfl | (rw [HT.out]; rfl) | (rw [← HT.out]; rfl), hL⟩

theorem rowN_or2 (P Q : Nat → Prop) : rowN P ||| rowN Q = rowN (fun b => P b ∨ Q b) := by
  refine Nat.eq_of_testBit_eq fun j => ?_
  rw [Nat.testBit_or, rowN_testBit, rowN_testBit, rowN_testBit]
  by_cases hj : j < 8
  · cases e1 : bP (P j)
    · cases e2 : bP (Q j)
      · rw [bP_no (p := P j ∨ Q j) fun h => h.elim (bP_out e1) (bP_out e2)]; simp
      · rw [bP_yes (p := P j ∨ Q j) (.inr (bP_iff.1 e2))]; simp [hj]
    · rw [bP_yes (p := P j ∨ Q j) (.inl (bP_iff.1 e1))]; simp [hj]
  · simp [hj]
theorem rowN_below {n : Nat} (h : n ≤ 8) : rowN (fun b => b < n) = 2 ^ n - 1 := by
  refine Nat.eq_of_testBit_eq fun j => ?_
  rw [rowN_testBit, Nat.testBit_two_pow_sub_one]
  by_cases hj : j < n
  · rw [bP_yes hj, decide_eq_true hj, decide_eq_true (show j < 8 by omega)]; rfl
  · rw [bP_no hj, decide_eq_false hj]; simp
/-- the union of the first k sets -/
def uniQ (Qs : Nat → Nat → Prop) (k b : Nat) : Prop := ∃ i, i < k ∧ Qs i b
theorem uniQ_zero (Qs : Nat → Nat → Prop) : rowN (uniQ Qs 0) = 0 := by
  rw [rowN_congr (Q := fun _ => False) fun j _ => ⟨fun ⟨i, hi, _⟩ => by omega, False.elim⟩, rowN_none]
theorem uniQ_succ (Qs : Nat → Nat → Prop) (k : Nat) : bits .or .i64 ((rowN (uniQ Qs k) : Nat) : Int) ((rowN (Qs k) : Nat) : Int) = ((rowN (uniQ Qs (k + 1)) : Nat) : Int) := by
  rw [i64_or _ _ (by have := rowN_lt (uniQ Qs k); omega) (by have := rowN_lt (Qs k); omega), rowN_or2]
  rw [rowN_congr fun j _ => (show (uniQ Qs k j ∨ Qs k j) ↔ uniQ Qs (k + 1) j from ⟨fun h => h.elim (fun ⟨i, hi, e⟩ => ⟨i, by omega, e⟩) (fun e => ⟨k, by omega, e⟩), fun ⟨i, hi, e⟩ => by
    by_cases h : i = k
    · subst h; exact .inr e
    · exact .inl ⟨i, by omega, e⟩⟩)]
/-- the followers of a set in a column -/
def folR (xss : List (List Int)) (c : Nat) (Q : Nat → Prop) (b : Nat) : Prop := folQ xss c (onesTo ((rowN Q : Nat) : Int) 62) (onesTo ((rowN Q : Nat) : Int) 62).length b
/-- is a list of sets a cover -/
noncomputable def covB (T : Nat → Nat → Prop) (xss : List (List Int)) (M : Nat) (Qs : Nat → Nat → Prop) (m : Nat) : Bool :=
  bP ((∀ i, i < m → goB T (Qs i) = true) ∧ (∀ i, i < m → ∀ c, c < M → 0 ≤ fstR Qs m (folR xss c (Qs i))) ∧ rowN (uniQ Qs m) = 2 ^ xss.length - 1)
theorem cases8 {n : Int} (h1 : 1 ≤ n) (h8 : n ≤ 8) : n = 1 ∨ n = 2 ∨ n = 3 ∨ n = 4 ∨ n = 5 ∨ n = 6 ∨ n = 7 ∨ n = 8 := by omega
theorem rowCount8_any (n : Int) (w : World) (h1 : 1 ≤ n) (h8 : n ≤ 8) :
    Calls Try.prog 75 #[.int .i64 n] w fun e w' => e = .returned (.int .i64 (rcZ n)) ∧ w = w' := by
  rcases cases8 h1 h8 with rfl | rfl | rfl | rfl | rfl | rfl | rfl | rfl <;>
  · go_enter Try.func75, Try.ntmps75
    go_wp2
    go_ret
    exact ⟨rfl, rfl⟩
theorem rcZ_less {n : Nat} (h1 : 1 ≤ n) (h8 : n ≤ 8) : IntKind.i64.wrap (rcZ (n : Int) - 1) = ((2 ^ n - 1 : Nat) : Int) := by
  have h : n = 1 ∨ n = 2 ∨ n = 3 ∨ n = 4 ∨ n = 5 ∨ n = 6 ∨ n = 7 ∨ n = 8 := by omega
  rcases h with rfl | rfl | rfl | rfl | rfl | rfl | rfl | rfl <;> decide

set_option maxRecDepth 100000 in
set_option maxHeartbeats 4000000 in
theorem isCover_any (v vs : Value) (p : Int) (xss yss : List (List Int)) (zs : List Int) (Qs : Nat → Nat → Prop) (T : Nat → Nat → Prop) (w : World) (ha : ReadsH w v p xss yss) (hs : Reads w vs zs) (hb : chaB p xss yss = true) (hz : ∀ i, i < zs.length → zs.getD i 0 = ((rowN (Qs i) : Nat) : Int)) (hQ : ∀ i, i < zs.length → ∀ a, a < 8 → Qs i a → a < xss.length) :
    Calls Try.prog 84 #[v, arrV (matZ T), vs] w fun e w' => e = .returned (.bool (covB T xss p.toNat Qs zs.length)) ∧ Below w.heap.size w w' := by
  obtain ⟨⟨n1, n8⟩, ⟨p1, p4⟩, -⟩ := chaB_out hb
  obtain ⟨M, rfl⟩ : ∃ M : Nat, p = (M : Int) := ⟨p.toNat, by omega⟩
  rw [Int.toNat_natCast]
  have HRI := Lib.hid (fun w' (h : Below w.heap.size w w') => rowsIn_any v (M : Int) xss yss w' (ha.keep h))
  have HRC := Lib.hid (fun w => rowCount8_any (xss.length : Int) w (by omega) (by omega))
  have HGT := Lib.hid (fun k w => goTogether_any T (Qs k) w)
  have HFO : Hid (∀ w' (h : Below w.heap.size w w') k (hk : k < zs.length) (c : Nat) (hc : (c : Int) < (M : Int)), Calls Try.prog 108 #[v, .int .i64 ((rowN (Qs k) : Nat) : Int), .int .i64 (c : Int)] w' fun e w'' => e = .returned (.int .i64 ((rowN (folR xss c (Qs k)) : Nat) : Int)) ∧ Below w'.heap.size w' w'') :=
    fun w' h k hk c hc => followersOf_any v (M : Int) xss yss (Qs k) c w' (ha.keep h) hb hc (hQ k hk)
  have HFW := Lib.hid (fun w' (h : Below w.heap.size w w') P => firstWith_any vs zs Qs P w' (hs.keep h) hz)
  have HT : Hid ((∀ i, i < zs.length → goB T (Qs i) = true) → (∀ i, i < zs.length → ∀ c, c < M → 0 ≤ fstR Qs zs.length (folR xss c (Qs i))) → covB T xss M Qs zs.length = ((((rowN (uniQ Qs zs.length) : Nat) : Int)) == ((2 ^ xss.length - 1 : Nat) : Int))) := fun h1 h2 => by
    unfold covB
    by_cases h : rowN (uniQ Qs zs.length) = 2 ^ xss.length - 1
    · rw [bP_yes ⟨h1, h2, h⟩, h]; simp
    · rw [bP_no fun hh => h hh.2.2]
      symm
      simp only [beq_eq_false_iff_ne, ne_eq]; omega
  have HF1 : Hid (∀ i, i < zs.length → goB T (Qs i) = false → covB T xss M Qs zs.length = false) := fun i hi h => bP_no fun hh => by have := hh.1 i hi; rw [h] at this; cases this
  have HF2 : Hid (∀ i, i < zs.length → ∀ c, c < M → fstR Qs zs.length (folR xss c (Qs i)) < 0 → covB T xss M Qs zs.length = false) := fun i hi c hc h => bP_no fun hh => by have := hh.2.1 i hi c hc; omega
  have HU0 := Lib.hid (uniQ_zero Qs)
  have HUS := Lib.hid (fun k => uniQ_succ Qs k)
  have HLS := rcZ_less n1 n8
  have OU := Lib.hid hs
  obtain ⟨sa, sc, rfl, hsm, _⟩ := hs
  have HC : Hid (∀ i, i < zs.length → ∃ b off, sa = some ⟨b, off, none⟩ ∧ w.cell? ⟨b, off + i, none⟩ = some (.int .i64 ((rowN (Qs i) : Nat) : Int))) := fun i hi => by rw [← hz i hi]; exact OU.out.cellR hi
  obtain ⟨a, ca, b', cb, rfl, _, _⟩ := ha
  have h0 := (C3.here w (.int .i64 (M : Int)) (.slice a xss.length ca) (.slice b' yss.length cb) 27).alloc (.cells (arrC (matZ T)) 68)
  have a1 := Lib.hid (Arr8.here (w.alloc (.cells #[.int .i64 (M : Int), .slice a xss.length ca, .slice b' yss.length cb] 27)) (matZ T) 68)
  rw [World.size_alloc] at a1
  unfold arrC at h0 a1
  unfold arrV at HGT ⊢
  unfold maxLen at hsm
  have hM4 : M ≤ 4 := by omega
  clear hb hz hQ OU p1 p4
  generalize covB T xss M Qs zs.length = bR at *
  generalize ((2 ^ xss.length - 1 : Nat) : Int) = F at *
  generalize matZ T = A at *
  generalize hnn : xss.length = n at *
  generalize yss.length = m at *
  generalize hl : zs.length = l at *
  clear hnn hl
  go_enter Try.func84, Try.ntmps84
  go_wp2_with fail
  go_loopw [7, 13] (fun s c wr => ∃ k : Nat, k ≤ l ∧ c = .int .i64 (k : Int) ∧ s = .int .i64 ((rowN (uniQ Qs k) : Nat) : Int) ∧ Below w.heap.size w wr ∧ C3 wr w.heap.size (.int .i64 (M : Int)) (.slice a n ca) (.slice b' m cb) ∧ Hid (Arr8 wr (w.heap.size + 1) A) ∧ Hid ((∀ i, i < k → goB T (Qs i) = true) ∧ ∀ i, i < k → ∀ c, c < M → 0 ≤ fstR Qs l (folR xss c (Qs i)))) (fun _ c _ => l - (intOf c).toNat)
  case atStart => exact ⟨0, Nat.zero_le _, rfl, by rw [HU0.out]; rfl, by go_grown, h0, a1, by unfold Hid; exact ⟨fun i hi => by omega, fun i hi => by omega⟩⟩
  case round =>
    clear h0 a1 HU0
    obtain ⟨k, hk, rfl, rfl, hL, h0, a1, hok⟩ := hrel
    by_cases hlt : k < l
    · have hi1 : (k : Int) < (l : Int) := by omega
      have hi0 : (0 : Int) ≤ (k : Int) := by omega
      obtain ⟨ub, uo, rfl, hcu⟩ := HC.out k hlt
      have hca := cell_later hL hcu
      obtain ⟨q0, q1, q2, q3, q4, q5, q6, q7⟩ := a1.out.cells
      have HFk := Lib.hid (fun w' (h : Below w.heap.size w w') => HFO.out w' h k hlt)
      have HSk := Lib.hid (HUS.out k)
      have HG := Lib.hid (HGT.out k)
      have HFk1 := HF1.out k hlt
      have HFk2 := Lib.hid (HF2.out k hlt)
      clear hcu
      obtain ⟨U, hU⟩ : ∃ U, ((rowN (uniQ Qs k) : Nat) : Int) = U := ⟨_, rfl⟩
      rw [hU] at HSk
      rw [hU]
      clear hU
      obtain ⟨S, hS⟩ : ∃ S, ((rowN (Qs k) : Nat) : Int) = S := ⟨_, rfl⟩
      rw [hS] at HSk HG hca HFk
      clear hS
      cases hgo : goB T (Qs k)
      · have HR := Lib.hid (HFk1 hgo)
        rw [hgo] at HG
        clear HFk1 hgo
        go_wp2_with fail
        refine (HG.out _).mono ?_
        rintro e w2 ⟨rfl, hb⟩
        have hL2 := chain (B := w.heap.size) (a := w) hL (Nat.le_refl _) hb
        clear hb
        go_wp2_with fail
        go_ret
        exact ⟨by rw [HR.out]; rfl, hL2⟩
      · rw [hgo] at HG
        have HGO := Lib.hid hgo
        clear HFk1 hgo
        go_wp2_with fail
        refine (HG.out _).mono ?_
        rintro e w2 ⟨rfl, hb⟩
        have hL2 := chain (B := w.heap.size) (a := w) hL (Nat.le_refl _) hb
        have h02 := h0.keep hb
        have a2 := Lib.hid (a1.out.keep hb)
        clear hb hL h0 a1 q0 q1 q2 q3 q4 q5 q6 q7 hca
        go_wp2_with fail
        go_loopw [23] (fun c wy => ∃ j : Nat, j ≤ M ∧ c = .int .i64 (j : Int) ∧ Below w.heap.size w wy ∧ C3 wy w.heap.size (.int .i64 (M : Int)) (.slice a n ca) (.slice b' m cb) ∧ Hid (Arr8 wy (w.heap.size + 1) A) ∧ Hid (∀ c, c < j → 0 ≤ fstR Qs l (folR xss c (Qs k)))) (fun c _ => M - (intOf c).toNat)
        case atStart => exact ⟨0, Nat.zero_le _, rfl, hL2, h02, a2, fun c hc => by omega⟩
        case round =>
          clear hL2 h02 a2
          obtain ⟨j, hj, rfl, hL, h0, a1, hoj⟩ := hrel
          by_cases hjl : j < M
          · have hj1 : (j : Int) < (M : Int) := by omega
            have hj0 : (0 : Int) ≤ (j : Int) := by omega
            have HFj := Lib.hid (fun w' (h : Below w.heap.size w w') => HFk.out w' h j hj1)
            have HWj : Hid (∀ w' (h : Below w.heap.size w w'), _) := fun w' h => HFW.out w' h (folR xss j (Qs k))
            have HNj := HFk2.out j hjl
            have HFj' : Hid (∀ w', Below w.heap.size w w' → Calls Try.prog 108 #[.agg #[.int .i64 (M : Int), .slice a n ca, .slice b' m cb], .int .i64 S, .int .i64 (j : Int)] w' fun e w'' => e = .returned (.int .i64 ((rowN (folR xss j (Qs k)) : Nat) : Int)) ∧ Below w'.heap.size w' w'') := HFj.out
            clear HFj
            generalize ((rowN (folR xss j (Qs k)) : Nat) : Int) = G at *
            by_cases hneg : fstR Qs l (folR xss j (Qs k)) < 0
            · have HR := Lib.hid (HNj hneg)
              clear HNj hoj
              generalize fstR Qs l (folR xss j (Qs k)) = r at *
              go_wp2_with fail
              refine (HFj'.out _ hL).mono ?_
              rintro e w3 ⟨rfl, hb⟩
              have hL3 := chain (B := w.heap.size) (a := w) hL (Nat.le_refl _) hb
              clear hb
              go_wp2_with fail
              refine (HWj.out _ hL3).mono ?_
              rintro e w4 ⟨rfl, hb⟩
              have hL4 := chain (B := w.heap.size) (a := w) hL3 (Nat.le_refl _) hb
              clear hb
              go_wp2_with fail
              go_ret
              exact ⟨by rw [HR.out]; rfl, hL4⟩
            · have HNN : Hid (∀ c, c < j + 1 → 0 ≤ fstR Qs l (folR xss c (Qs k))) := fun c hc => by
                rcases Nat.lt_or_ge c j with h | h
                · exact hoj.out c h
                · have e : c = j := by omega
                  subst e; omega
              clear HNj hoj
              generalize fstR Qs l (folR xss j (Qs k)) = r at *
              go_wp2_with fail
              refine (HFj'.out _ hL).mono ?_
              rintro e w3 ⟨rfl, hb⟩
              have hL3 := chain (B := w.heap.size) (a := w) hL (Nat.le_refl _) hb
              have h03 := h0.keep hb
              have a3 := Lib.hid (a1.out.keep hb)
              clear hb
              go_wp2_with fail
              refine (HWj.out _ hL3).mono ?_
              rintro e w4 ⟨rfl, hb⟩
              have hL4 := chain (B := w.heap.size) (a := w) hL3 (Nat.le_refl _) hb
              have h04 := h03.keep hb
              have a4 := Lib.hid (a3.out.keep hb)
              clear hb hL h0 a1 hL3 h03 a3
              go_wp2_with fail
              exact ⟨⟨j + 1, by omega, by go_num, hL4, h04, a4, HNN⟩, by simp [intOf]; omega⟩
          · have e : j = M := by omega
            have hge : ¬ (j : Int) < (M : Int) := by omega
            rw [e] at hoj
            clear e
            have HKK : Hid ((∀ i, i < k + 1 → goB T (Qs i) = true) ∧ ∀ i, i < k + 1 → ∀ c, c < M → 0 ≤ fstR Qs l (folR xss c (Qs i))) := by
              unfold Hid
              refine ⟨fun i hi => ?_, fun i hi => ?_⟩ <;>
              · rcases Nat.lt_or_ge i k with h | h
                · first | exact hok.out.1 i h | exact hok.out.2 i h
                · have e : i = k := by omega
                  rw [e]; first | exact HGO.out | exact hoj.out
            clear hoj hok
            go_wp2_with fail
            exact ⟨⟨k + 1, by omega, by go_num, by rw [HSk.out], hL, h0, a1, HKK⟩, by simp [intOf]; omega⟩
    · have e : k = l := by omega
      subst e
      have hge : ¬ (k : Int) < (k : Int) := by omega
      have HR := Lib.hid (HT.out hok.out.1 hok.out.2)
      clear hok
      generalize ((rowN (uniQ Qs k) : Nat) : Int) = U at *
      generalize hrc : rcZ (n : Int) = RC at *
      go_wp2_with fail
      refine (HRI.out _ hL).mono ?_
      rintro e w2 ⟨rfl, hb⟩
      have hL2 := chain (B := w.heap.size) (a := w) hL (Nat.le_refl _) hb
      clear hb
      go_wp2_with ((go_at_call 75; (with_reducible refine (HRC.out _).mono ?_); rintro e w' ⟨rfl, rfl⟩))
      go_ret
      exact ⟨by rw [HR.out]; rfl, hL2⟩

/-- the second part of being a cover -/
noncomputable def cvsB (xss : List (List Int)) (M : Nat) (Qs : Nat → Nat → Prop) (m : Nat) : Bool :=
  bP ((∀ i, i < m → ∀ c, c < M → 0 ≤ fstR Qs m (folR xss c (Qs i))) ∧ rowN (uniQ Qs m) = 2 ^ xss.length - 1)
theorem pow_less {n : Nat} (h1 : 1 ≤ n) (h8 : n ≤ 8) : IntKind.i64.wrap (wrap64 (2 ^ n) - 1) = ((2 ^ n - 1 : Nat) : Int) := by
  rw [pow_walk n (by omega)]
  have h : n = 1 ∨ n = 2 ∨ n = 3 ∨ n = 4 ∨ n = 5 ∨ n = 6 ∨ n = 7 ∨ n = 8 := by omega
  rcases h with rfl | rfl | rfl | rfl | rfl | rfl | rfl | rfl <;> decide

set_option maxRecDepth 100000 in
set_option maxHeartbeats 4000000 in
theorem l07Covers_any (v vs : Value) (p : Int) (xss yss : List (List Int)) (zs : List Int) (Qs : Nat → Nat → Prop) (w : World) (ha : ReadsH w v p xss yss) (hs : Reads w vs zs) (hb : chaB p xss yss = true) (hz : ∀ i, i < zs.length → zs.getD i 0 = ((rowN (Qs i) : Nat) : Int)) (hQ : ∀ i, i < zs.length → ∀ a, a < 8 → Qs i a → a < xss.length) :
    Calls Try.prog 104 #[v, vs] w fun e w' => e = .returned (.bool (cvsB xss p.toNat Qs zs.length)) ∧ Below w.heap.size w w' := by
  obtain ⟨⟨n1, n8⟩, ⟨p1, p4⟩, -⟩ := chaB_out hb
  obtain ⟨M, rfl⟩ : ∃ M : Nat, p = (M : Int) := ⟨p.toNat, by omega⟩
  rw [Int.toNat_natCast]
  have HRI := Lib.hid (fun w' (h : Below w.heap.size w w') => l07N_any v (M : Int) xss yss w' (ha.keep h))
  have HLI := Lib.hid (fun k w => l07List_any ((rowN (Qs k) : Nat) : Int) w (by omega) (by have := rowN_lt (Qs k); omega))
  have HFO : Hid (∀ w' (h : Below w.heap.size w w') k (hk : k < zs.length) (c : Nat) (hc : (c : Int) < (M : Int)) (u : Value) (hu : Reads w' u (onesTo ((rowN (Qs k) : Nat) : Int) 8)), Calls Try.prog 88 #[v, u, .int .i64 (c : Int)] w' fun e w'' => e = .returned (.int .i64 ((rowN (folR xss c (Qs k)) : Nat) : Int)) ∧ Below w'.heap.size w' w'') :=
    fun w' h k hk c hc u hu => by
      have h1 := l07Follow_any v u (M : Int) xss yss (onesTo ((rowN (Qs k) : Nat) : Int) 62) c w' (ha.keep h) (by rw [ones8]; exact hu) hb hc (fun i hi => by
        obtain ⟨x, e, h8, hq⟩ := ones8_get hi
        have := hQ k hk x h8 hq
        rw [e]; omega) (by have := ones8_len (Qs k); omega)
      exact h1
  have HFW := Lib.hid (fun w' (h : Below w.heap.size w w') P => l07First_any vs zs Qs P w' (hs.keep h) hz)
  have HT : Hid ((∀ i, i < zs.length → ∀ c, c < M → 0 ≤ fstR Qs zs.length (folR xss c (Qs i))) → cvsB xss M Qs zs.length = ((((rowN (uniQ Qs zs.length) : Nat) : Int)) == ((2 ^ xss.length - 1 : Nat) : Int))) := fun h2 => by
    unfold cvsB
    by_cases h : rowN (uniQ Qs zs.length) = 2 ^ xss.length - 1
    · rw [bP_yes ⟨h2, h⟩, h]; simp
    · rw [bP_no fun hh => h hh.2]
      symm
      simp only [beq_eq_false_iff_ne, ne_eq]; omega
  have HF2 : Hid (∀ i, i < zs.length → ∀ c, c < M → fstR Qs zs.length (folR xss c (Qs i)) < 0 → cvsB xss M Qs zs.length = false) := fun i hi c hc h => bP_no fun hh => by have := hh.1 i hi c hc; omega
  have HU0 := Lib.hid (uniQ_zero Qs)
  have HUS := Lib.hid (fun k => uniQ_succ Qs k)
  have HLS := pow_less n1 n8
  have OU := Lib.hid hs
  obtain ⟨sa, sc, rfl, hsm, _⟩ := hs
  have HC : Hid (∀ i, i < zs.length → ∃ b off, sa = some ⟨b, off, none⟩ ∧ w.cell? ⟨b, off + i, none⟩ = some (.int .i64 ((rowN (Qs i) : Nat) : Int))) := fun i hi => by rw [← hz i hi]; exact OU.out.cellR hi
  obtain ⟨a, ca, b', cb, rfl, _, _⟩ := ha
  have h0 := C3.here w (.int .i64 (M : Int)) (.slice a xss.length ca) (.slice b' yss.length cb) 27
  unfold maxLen at hsm
  have hM4 : M ≤ 4 := by omega
  clear hb hz hQ OU p1 p4
  generalize cvsB xss M Qs zs.length = bR at *
  generalize ((2 ^ xss.length - 1 : Nat) : Int) = F at *
  generalize hnn : xss.length = n at *
  generalize yss.length = m at *
  generalize hl : zs.length = l at *
  clear hnn hl
  go_enter Try.func104, Try.ntmps104
  go_wp2_with fail
  go_loopw [5, 6] (fun s c wr => ∃ k : Nat, k ≤ l ∧ c = .int .i64 (k : Int) ∧ s = .int .i64 ((rowN (uniQ Qs k) : Nat) : Int) ∧ Below w.heap.size w wr ∧ C3 wr w.heap.size (.int .i64 (M : Int)) (.slice a n ca) (.slice b' m cb) ∧ Hid (∀ i, i < k → ∀ c, c < M → 0 ≤ fstR Qs l (folR xss c (Qs i)))) (fun _ c _ => l - (intOf c).toNat)
  case atStart => exact ⟨0, Nat.zero_le _, rfl, by rw [HU0.out]; rfl, by go_grown, h0, by unfold Hid; exact fun i hi => by omega⟩
  case round =>
    clear h0 HU0
    obtain ⟨k, hk, rfl, rfl, hL, h0, hok⟩ := hrel
    by_cases hlt : k < l
    · have hi1 : (k : Int) < (l : Int) := by omega
      have hi0 : (0 : Int) ≤ (k : Int) := by omega
      obtain ⟨ub, uo, rfl, hcu⟩ := HC.out k hlt
      have hca := cell_later hL hcu
      have HFk := Lib.hid (fun w' (h : Below w.heap.size w w') => HFO.out w' h k hlt)
      have HSk := HUS.out k
      have HLk := Lib.hid (HLI.out k)
      have HFk2 := Lib.hid (HF2.out k hlt)
      have HCU := Lib.hid hcu
      clear hcu
      obtain ⟨U, hU⟩ : ∃ U, ((rowN (uniQ Qs k) : Nat) : Int) = U := ⟨_, rfl⟩
      rw [hU] at HSk
      rw [hU]
      clear hU
      obtain ⟨S, hS⟩ : ∃ S, ((rowN (Qs k) : Nat) : Int) = S := ⟨_, rfl⟩
      rw [hS] at HSk hca HFk HLk HCU
      clear hS
      go_wp2_with fail
      go_loopw [7] (fun c wy => ∃ j : Nat, j ≤ M ∧ c = .int .i64 (j : Int) ∧ Below w.heap.size w wy ∧ C3 wy w.heap.size (.int .i64 (M : Int)) (.slice a n ca) (.slice b' m cb) ∧ Hid (∀ c, c < j → 0 ≤ fstR Qs l (folR xss c (Qs k)))) (fun c _ => M - (intOf c).toNat)
      case atStart => exact ⟨0, Nat.zero_le _, rfl, hL, h0, fun c hc => by omega⟩
      case round =>
        clear hL h0 hca
        obtain ⟨j, hj, rfl, hL, h0, hoj⟩ := hrel
        by_cases hjl : j < M
        · have hj1 : (j : Int) < (M : Int) := by omega
          have hj0 : (0 : Int) ≤ (j : Int) := by omega
          have HFj := Lib.hid (fun w' (h : Below w.heap.size w w') => HFk.out w' h j hj1)
          have HWj : Hid (∀ w' (h : Below w.heap.size w w'), _) := fun w' h => HFW.out w' h (folR xss j (Qs k))
          have HNj := HFk2.out j hjl
          have hca := cell_later hL HCU.out
          generalize ((rowN (folR xss j (Qs k)) : Nat) : Int) = G at *
          by_cases hneg : fstR Qs l (folR xss j (Qs k)) < 0
          · have HR := Lib.hid (HNj hneg)
            clear HNj hoj HSk
            generalize fstR Qs l (folR xss j (Qs k)) = r at *
            go_wp2_with fail
            go_region_with (first | (go_at_call 72; (with_reducible refine (HLk.out _).mono ?_); rintro e w2 ⟨u, rfl, ou, hb⟩; have hL2 := chain (B := w.heap.size) (a := w) (by first | exact hL | exact (show Below w.heap.size w _ from Bdrew hL 1) | go_grown) (Nat.le_refl _) hb; have h02 := keepAt3 hb (show C3 _ w.heap.size _ _ _ from h0); have OU := Lib.hid ou.reads; clear hb ou) | (go_at_call 88; (with_reducible refine (HFj.out _ hL2 _ OU.out).mono ?_); rintro e w3 ⟨rfl, hb⟩; have hL3 := chain (B := w.heap.size) (a := w) hL2 (Nat.le_refl _) hb; have h03 := keepAt3 hb h02; clear hb) | (go_at_call 89; (with_reducible refine (HWj.out _ hL3).mono ?_); rintro e w4 ⟨rfl, rfl⟩))
            all_goals go_wp2_with fail
            all_goals go_ret
            all_goals exact ⟨by rw [HR.out]; rfl, hL3⟩
          · have HNN : Hid (∀ c, c < j + 1 → 0 ≤ fstR Qs l (folR xss c (Qs k))) := fun c hc => by
              rcases Nat.lt_or_ge c j with h | h
              · exact hoj.out c h
              · have e : c = j := by omega
                subst e; omega
            clear HNj hoj HSk
            generalize fstR Qs l (folR xss j (Qs k)) = r at *
            go_wp2_with fail
            go_region_with (first | (go_at_call 72; (with_reducible refine (HLk.out _).mono ?_); rintro e w2 ⟨u, rfl, ou, hb⟩; have hL2 := chain (B := w.heap.size) (a := w) (by first | exact hL | exact (show Below w.heap.size w _ from Bdrew hL 1) | go_grown) (Nat.le_refl _) hb; have h02 := keepAt3 hb (show C3 _ w.heap.size _ _ _ from h0); have OU := Lib.hid ou.reads; clear hb ou) | (go_at_call 88; (with_reducible refine (HFj.out _ hL2 _ OU.out).mono ?_); rintro e w3 ⟨rfl, hb⟩; have hL3 := chain (B := w.heap.size) (a := w) hL2 (Nat.le_refl _) hb; have h03 := keepAt3 hb h02; clear hb) | (go_at_call 89; (with_reducible refine (HWj.out _ hL3).mono ?_); rintro e w4 ⟨rfl, rfl⟩))
            all_goals go_wp2_with fail
            all_goals exact ⟨⟨j + 1, by omega, by go_num, hL3, h03, HNN⟩, by simp [intOf]; omega⟩
        · have e : j = M := by omega
          have hge : ¬ (j : Int) < (M : Int) := by omega
          rw [e] at hoj
          clear e
          have HKK : Hid (∀ i, i < k + 1 → ∀ c, c < M → 0 ≤ fstR Qs l (folR xss c (Qs i))) := by
            unfold Hid
            intro i hi
            rcases Nat.lt_or_ge i k with h | h
            · exact hok.out i h
            · have e : i = k := by omega
              rw [e]; exact hoj.out
          have HSK := Lib.hid HSk
          clear hoj hok HSk
          go_wp2_with fail
          exact ⟨⟨k + 1, by omega, by go_num, by first | rfl | rw [HSK.out], hL, h0, HKK⟩, by simp [intOf]; omega⟩
    · have e : k = l := by omega
      subst e
      have hge : ¬ (k : Int) < (k : Int) := by omega
      have HR := Lib.hid (HT.out hok.out)
      clear hok
      generalize ((rowN (uniQ Qs k) : Nat) : Int) = U at *
      go_wp2_with fail
      refine (HRI.out _ hL).mono ?_
      rintro e w2 ⟨rfl, hb⟩
      have hL2 := chain (B := w.heap.size) (a := w) hL (Nat.le_refl _) hb
      clear hb
      go_wp2_with fail
      go_ret
      exact ⟨by rw [HR.out]; rfl, hL2⟩

theorem ones_asc {Q : Nat → Prop} {n : Nat} (hQ : ∀ a, a < 8 → Q a → a < n) : ascB (n : Int) (onesTo ((rowN Q : Nat) : Int) 62) := by
  intro i hi
  refine ⟨?_, fun h0 => ?_⟩
  · obtain ⟨x, e, h8, hq⟩ := ones8_get hi
    have := hQ x h8 hq
    rw [e]; omega
  · have hp : List.Pairwise (fun (a b : Nat) => a < b) ((List.range 62).filter fun j => dig ((rowN Q : Nat) : Int).toNat j == 1) := List.Pairwise.filter _ List.pairwise_lt_range
    unfold onesTo at hi ⊢
    generalize (List.range 62).filter (fun j => dig ((rowN Q : Nat) : Int).toNat j == 1) = L at *
    rw [List.length_map] at hi
    have h := List.pairwise_iff_getElem.1 hp (i - 1) i (by omega) hi (by omega)
    simp only [List.getD_eq_getElem?_getD, List.getElem?_map, List.getElem?_eq_getElem (show i - 1 < L.length by omega), List.getElem?_eq_getElem hi, Option.map_some, Option.getD_some]
    omega
theorem goB_congr {T : Nat → Nat → Prop} {P Q : Nat → Prop} (h : ∀ j, j < 8 → (P j ↔ Q j)) : goB T P = goB T Q :=
  bP_congr ⟨fun h2 a b ha hb h3 h4 => h2 a b ha hb ((h a ha).2 h3) ((h b hb).2 h4), fun h2 a b ha hb h3 h4 => h2 a b ha hb ((h a ha).1 h3) ((h b hb).1 h4)⟩
theorem go_ones {p : Int} {xss yss : List (List Int)} {n M : Nat} (hb : chaB p xss yss = true) (hn : xss.length = n) (hM : p = (M : Int)) {Q : Nat → Prop} (hQ : ∀ a, a < 8 → Q a → a < n) : goB (Tog xss yss n M) Q = goL (Tog xss yss n M) (onesTo ((rowN Q : Nat) : Int) 62) := by
  rw [← go_same hb hn hM (ones_asc hQ)]
  refine goB_congr fun j hj => ⟨fun h => ?_, fun ⟨i, hi, e⟩ => ?_⟩
  · obtain ⟨i, hi, e⟩ := ones8_has hj h
    exact ⟨i, hi, e⟩
  · obtain ⟨x, e2, h8, hq⟩ := ones8_get hi
    have : x = j := by omega
    subst this; exact hq

set_option maxRecDepth 100000 in
set_option maxHeartbeats 4000000 in
theorem l07Cover_any (v vs : Value) (p : Int) (xss yss : List (List Int)) (zs : List Int) (Qs : Nat → Nat → Prop) (w : World) (ha : ReadsH w v p xss yss) (hs : Reads w vs zs) (hb : chaB p xss yss = true) (hz : ∀ i, i < zs.length → zs.getD i 0 = ((rowN (Qs i) : Nat) : Int)) (hQ : ∀ i, i < zs.length → ∀ a, a < 8 → Qs i a → a < xss.length) :
    Calls Try.prog 82 #[v, vs] w fun e w' => e = .returned (.bool (covB (Tog xss yss xss.length p.toNat) xss p.toNat Qs zs.length)) ∧ Below w.heap.size w w' := by
  obtain ⟨⟨n1, n8⟩, ⟨p1, p4⟩, -⟩ := chaB_out hb
  obtain ⟨M, rfl⟩ : ∃ M : Nat, p = (M : Int) := ⟨p.toNat, by omega⟩
  rw [Int.toNat_natCast]
  have HTO := Lib.hid (fun w' (h : Below w.heap.size w w') => l07Together_any v (M : Int) xss yss w' (ha.keep h) hb)
  rw [Int.toNat_natCast] at HTO
  have HLI : Hid (∀ k w, Calls Try.prog 72 #[.int .i64 ((rowN (Qs k) : Nat) : Int)] w fun e w' => ∃ u, e = .returned u ∧ Owns w' w.heap.size u (onesTo ((rowN (Qs k) : Nat) : Int) 62) ∧ Below w.heap.size w w') := fun k w => by
    have h := l07List_any ((rowN (Qs k) : Nat) : Int) w (by omega) (by have := rowN_lt (Qs k); omega)
    rwa [← ones8] at h
  have HGO := Lib.hid (fun (u : Value) (B : Nat) (V : Nat → Value) k (hk : k < zs.length) w' us (hs' : Reads w' us (onesTo ((rowN (Qs k) : Nat) : Int) 62)) (hM : MatB w' B u xss.length xss.length V (fun a b => bP (Tog xss yss xss.length M a b))) => l07Good_any u us B xss.length V (Tog xss yss xss.length M) (onesTo ((rowN (Qs k) : Nat) : Int) 62) w' hM hs' (fun i hi => by
        obtain ⟨x, e, h8, hq⟩ := ones8_get hi
        have := hQ k hk x h8 hq
        rw [e]; omega) (by have := ones8_len (Qs k); omega))
  have HCV := Lib.hid (fun w' (h : Below w.heap.size w w') => l07Covers_any v vs (M : Int) xss yss zs Qs w' (ha.keep h) (hs.keep h) hb hz hQ)
  rw [Int.toNat_natCast] at HCV
  have hgo : ∀ i, i < zs.length → goB (Tog xss yss xss.length M) (Qs i) = goL (Tog xss yss xss.length M) (onesTo ((rowN (Qs i) : Nat) : Int) 62) := fun i hi => go_ones hb rfl rfl (hQ i hi)
  have HT : Hid ((∀ i, i < zs.length → goL (Tog xss yss xss.length M) (onesTo ((rowN (Qs i) : Nat) : Int) 62) = true) → covB (Tog xss yss xss.length M) xss M Qs zs.length = cvsB xss M Qs zs.length) := fun h1 => by
    unfold covB cvsB
    exact bP_congr ⟨fun h => h.2, fun h => ⟨fun i hi => by rw [hgo i hi]; exact h1 i hi, h⟩⟩
  have HF1 : Hid (∀ i, i < zs.length → goL (Tog xss yss xss.length M) (onesTo ((rowN (Qs i) : Nat) : Int) 62) = false → covB (Tog xss yss xss.length M) xss M Qs zs.length = false) := fun i hi h => bP_no fun hh => by have := hh.1 i hi; rw [hgo i hi, h] at this; cases this
  have OU := Lib.hid hs
  obtain ⟨sa, sc, rfl, hsm, _⟩ := hs
  have HC : Hid (∀ i, i < zs.length → ∃ b off, sa = some ⟨b, off, none⟩ ∧ w.cell? ⟨b, off + i, none⟩ = some (.int .i64 ((rowN (Qs i) : Nat) : Int))) := fun i hi => by rw [← hz i hi]; exact OU.out.cellR hi
  obtain ⟨a, ca, b', cb, rfl, _, _⟩ := ha
  have h0 := C3.here w (.int .i64 (M : Int)) (.slice a xss.length ca) (.slice b' yss.length cb) 27
  unfold maxLen at hsm
  clear hb hz hQ OU p1 p4 hgo
  generalize covB (Tog xss yss xss.length M) xss M Qs zs.length = bR at *
  generalize cvsB xss M Qs zs.length = bS at *
  generalize Tog xss yss xss.length M = T at *
  generalize hnn : xss.length = n at *
  generalize yss.length = m at *
  generalize hl : zs.length = l at *
  clear hnn hl
  go_enter Try.func82, Try.ntmps82
  go_wp2_with fail
  refine (HTO.out _ (by go_grown)).mono ?_
  rintro e w1 ⟨u, V, rfl, hM, hb⟩
  have hL := chain (B := w.heap.size) (a := w) (by go_grown) (Nat.le_refl _) hb
  have h1 := h0.keep hb
  have HM := Lib.hid hM
  obtain ⟨ua, uc, rfl⟩ := hM.form
  obtain ⟨BM, hBM⟩ : ∃ B, (w.alloc (.cells #[.int .i64 (M : Int), .slice a n ca, .slice b' m cb] 27)).heap.size = B := ⟨_, rfl⟩
  rw [hBM] at HM
  clear hb hM h0 hBM
  go_wp2_with fail
  go_loopw [6] (fun c wr => ∃ k : Nat, k ≤ l ∧ c = .int .i64 (k : Int) ∧ Below w.heap.size w wr ∧ C3 wr w.heap.size (.int .i64 (M : Int)) (.slice a n ca) (.slice b' m cb) ∧ Hid (MatB wr BM (.slice ua n uc) n n V (fun a b => bP (T a b))) ∧ Hid (∀ i, i < k → goL T (onesTo ((rowN (Qs i) : Nat) : Int) 62) = true)) (fun c _ => l - (intOf c).toNat)
  case atStart => exact ⟨0, Nat.zero_le _, rfl, hL, h1, HM, by unfold Hid; exact fun i hi => by omega⟩
  case round =>
    clear hL h1 HM
    obtain ⟨k, hk, rfl, hL, h0, HM, hok⟩ := hrel
    by_cases hlt : k < l
    · have hi1 : (k : Int) < (l : Int) := by omega
      have hi0 : (0 : Int) ≤ (k : Int) := by omega
      obtain ⟨ub, uo, rfl, hcu⟩ := HC.out k hlt
      have hca := cell_later hL hcu
      have HLk := Lib.hid (HLI.out k)
      have HGk := Lib.hid (fun u B V => HGO.out u B V k hlt)
      have HFk := HF1.out k hlt
      have HKK : Hid (goL T (onesTo ((rowN (Qs k) : Nat) : Int) 62) = true → ∀ i, i < k + 1 → goL T (onesTo ((rowN (Qs i) : Nat) : Int) 62) = true) := fun h i hi => by
        rcases Nat.lt_or_ge i k with h1 | h1
        · exact hok.out i h1
        · have e : i = k := by omega
          rw [e]; exact h
      clear hcu hok
      cases hg : goL T (onesTo ((rowN (Qs k) : Nat) : Int) 62)
      · have HR := Lib.hid (HFk hg)
        rw [hg] at HGk
        clear HFk hg HKK
        generalize onesTo ((rowN (Qs k) : Nat) : Int) 62 = L at *
        generalize ((rowN (Qs k) : Nat) : Int) = S at *
        go_wp2_with fail
        refine (HLk.out _).mono ?_
        rintro e w2 ⟨u2, rfl, ou, hb⟩
        have hL2 := chain (B := w.heap.size) (a := w) hL (Nat.le_refl _) hb
        have h02 := h0.keep hb
        replace HM := Lib.hid (HM.out.keep hb)
        have OU := Lib.hid ou.reads
        clear hb ou
        go_wp2_with fail
        refine (HGk.out _ _ _ _ _ OU.out HM.out).mono ?_
        rintro e w3 ⟨rfl, hb⟩
        have hL3 := chain (B := w.heap.size) (a := w) hL2 (Nat.le_refl _) hb
        clear hb
        go_wp2_with fail
        go_ret
        exact ⟨by rw [HR.out]; rfl, hL3⟩
      · have HOK := Lib.hid (HKK.out hg)
        rw [hg] at HGk
        clear HFk hg HKK
        generalize onesTo ((rowN (Qs k) : Nat) : Int) 62 = L at *
        generalize ((rowN (Qs k) : Nat) : Int) = S at *
        go_wp2_with fail
        refine (HLk.out _).mono ?_
        rintro e w2 ⟨u2, rfl, ou, hb⟩
        have hL2 := chain (B := w.heap.size) (a := w) hL (Nat.le_refl _) hb
        have h02 := h0.keep hb
        replace HM := Lib.hid (HM.out.keep hb)
        have OU := Lib.hid ou.reads
        clear hb ou
        go_wp2_with fail
        refine (HGk.out _ _ _ _ _ OU.out HM.out).mono ?_
        rintro e w3 ⟨rfl, hb⟩
        have hL3 := chain (B := w.heap.size) (a := w) hL2 (Nat.le_refl _) hb
        have h03 := h02.keep hb
        replace HM := Lib.hid (HM.out.keep hb)
        clear hb
        go_wp2_with fail
        exact ⟨⟨k + 1, by omega, by go_num, hL3, h03, HM, HOK⟩, by simp [intOf]; omega⟩
    · have e : k = l := by omega
      subst e
      have hge : ¬ (k : Int) < (k : Int) := by omega
      have HR := Lib.hid (HT.out hok.out)
      clear hok
      go_wp2_with fail
      refine (HCV.out _ hL).mono ?_
      rintro e w2 ⟨rfl, hb⟩
      have hL2 := chain (B := w.heap.size) (a := w) hL (Nat.le_refl _) hb
      clear hb
      go_wp2_with fail
      go_ret
      exact ⟨by rw [HR.out]; rfl, hL2⟩

set_option maxRecDepth 100000 in
set_option maxHeartbeats 1000000 in
theorem indexFuncR_any (v : Value) (L : List (List Int)) (F : Nat) (caps : Array Value) (p : List Int → Bool) (j : Nat) (w : World) (ha : Reads2 w v L)
    (hj : j ≤ L.length) (hno : ∀ i, i < j → p (L.getD i []) = false) (hyes : j < L.length → p (L.getD j []) = true)
    (hf : ∀ (u : Value) (x : List Int) (wx : World), Below w.heap.size w wx → Reads wx u x → Calls Try.prog F (#[u] ++ caps) wx fun e w' => e = .returned (.bool (p x)) ∧ Below wx.heap.size wx w')
    (hE : ∀ (args : Array Value) (w : World), (callFunc F args).run Try.prog w = .ok (.enter F args) w) {r : Int} (hr : (if j < L.length then (j : Int) else -1) = r) :
    Calls Try.prog 126 #[v, .func (.func F) #[] caps] w fun e w' => e = .returned (.int .i64 r) ∧ Below w.heap.size w w' := by
  have HA := Lib.hid ha
  obtain ⟨a, ca, rfl, hm, ha'⟩ := ha
  unfold maxLen at hm
  have Ha : Hid (∀ k, k < L.length → ∃ b off u, a = some ⟨b, off, none⟩ ∧ w.cell? ⟨b, off + k, none⟩ = some u ∧ Reads w u (L.getD k [])) := fun k hk => HA.out.cellR hk
  have Hf := Lib.hid hf
  have Hno := Lib.hid hno
  have Hyes := Lib.hid hyes
  have Hr := Lib.hid hr
  clear ha' hf hno hyes hr HA
  generalize hnn : L.length = n at *
  clear hnn
  go_enter Try.func126, Try.ntmps126
  go_wp2_with fail
  go_loopw [8] (fun c wr => ∃ k : Nat, k ≤ j ∧ c = .int .i64 (k : Int) ∧ Below w.heap.size w wr) (fun c _ => n - (intOf c).toNat)
  case atStart => exact ⟨0, Nat.zero_le _, rfl, Below.refl _ _⟩
  case round =>
    obtain ⟨k, hk, rfl, hL⟩ := hrel
    by_cases hlt : k < n
    · obtain ⟨b, off, u, rfl, hca0, hru⟩ := Ha.out k hlt
      have hca := cell_later hL hca0
      have HRU := Lib.hid hru
      have hi1 : (k : Int) < (n : Int) := by omega
      have hi0 : (0 : Int) ≤ (k : Int) := by omega
      by_cases hkj : k < j
      · have HC : Hid (∀ wx, Below w.heap.size w wx → Calls Try.prog F (#[u] ++ caps) wx fun e w' => e = .returned (.bool false) ∧ Below wx.heap.size wx w') := fun wx hb => by
          have := Hf.out u (L.getD k []) wx hb (HRU.out.keep hb)
          rwa [Hno.out k hkj] at this
        clear hca0 hru
        go_wp2_with ((with_reducible refine (HC.out _ (by first | exact hL | go_grown)).mono ?_); rintro e w' ⟨rfl, hb⟩; have hL := chain (B := w.heap.size) (a := w) hL (Nat.le_refl _) hb; clear hb)
        go_roundw
        case rel => exact ⟨k + 1, by omega, by go_num, hL⟩
        case measure => simp [intOf]; omega
      · have e : k = j := by omega
        subst e
        have HC : Hid (∀ wx, Below w.heap.size w wx → Calls Try.prog F (#[u] ++ caps) wx fun e w' => e = .returned (.bool true) ∧ Below wx.heap.size wx w') := fun wx hb => by
          have := Hf.out u (L.getD k []) wx hb (HRU.out.keep hb)
          rwa [Hyes.out hlt] at this
        have HR : Hid (r = (k : Int)) := by have := Hr.out; rw [if_pos hlt] at this; exact this.symm
        clear hca0 hru
        go_wp2_with ((with_reducible refine (HC.out _ (by first | exact hL | go_grown)).mono ?_); rintro e w' ⟨rfl, hb⟩; have hL := chain (B := w.heap.size) (a := w) hL (Nat.le_refl _) hb; clear hb)
        go_ret
        exact ⟨by rw [HR.out]; rfl, hL⟩
    · have HR : Hid (r = -1) := by have := Hr.out; rw [if_neg (by omega)] at this; exact this.symm
      go_wp2_with fail
      go_ret
      exact ⟨by rw [HR.out]; rfl, hL⟩

theorem containsFuncR_any (v : Value) (L : List (List Int)) (F : Nat) (caps : Array Value) (p : List Int → Bool) (w : World) (ha : Reads2 w v L)
    (hf : ∀ (u : Value) (x : List Int) (wx : World), Below w.heap.size w wx → Reads wx u x → Calls Try.prog F (#[u] ++ caps) wx fun e w' => e = .returned (.bool (p x)) ∧ Below wx.heap.size wx w')
    (hE : ∀ (args : Array Value) (w : World), (callFunc F args).run Try.prog w = .ok (.enter F args) w) {b : Bool} (hb : decide (∃ i, i < L.length ∧ p (L.getD i []) = true) = b) :
    Calls Try.prog 106 #[v, .func (.func F) #[] caps] w fun e w' => e = .returned (.bool b) ∧ Below w.heap.size w w' := by
  obtain ⟨j, hj, hno, hyes⟩ := firstB (fun i => p (L.getD i [])) L.length
  have hI : Hid (∀ {r : Int}, (if j < L.length then (j : Int) else -1) = r → Calls Try.prog 126 #[v, .func (.func F) #[] caps] w fun e w' => e = .returned (.int .i64 r) ∧ Below w.heap.size w w') :=
    fun h => indexFuncR_any v L F caps p j w ha hj hno hyes hf hE h
  by_cases hlt : j < L.length
  · have hB : Hid (b = true) := by
      rw [Hid, ← hb]
      exact decide_eq_true ⟨j, hlt, hyes hlt⟩
    have HI := Lib.hid (hI.out (if_pos hlt))
    clear hb hI hf hno hyes ha hlt hE
    go_enter Try.func106, Try.ntmps106
    go_wp2_with fail
    refine HI.out.mono ?_
    rintro e w' ⟨rfl, hL⟩
    go_wp2_with fail
    go_ret
    exact ⟨by rw [hB.out]; simp, hL⟩
  · have hB : Hid (b = false) := by
      rw [Hid, ← hb]
      refine decide_eq_false fun ⟨i, hi, h⟩ => ?_
      have := hno i (by omega)
      rw [this] at h; cases h
    have HI := Lib.hid (hI.out (if_neg hlt))
    clear hb hI hf hno hyes ha hlt hE
    go_enter Try.func106, Try.ntmps106
    go_wp2_with fail
    refine HI.out.mono ?_
    rintro e w' ⟨rfl, hL⟩
    go_wp2_with fail
    go_ret
    exact ⟨by rw [hB.out]; rfl, hL⟩

/-! ### setsError -/
/-- a list that is a set of rows, with a row -/
def setOk (n : Int) (x : List Int) : Bool := decide (0 < x.length ∧ ascB n x)
/-- the code of a chart and sets -/
def serC (p : Int) (xss yss L : List (List Int)) : Int := if chaB p xss yss = true then (if L.length ≤ 8 ∧ ∀ i, i < L.length → setOk (xss.length : Int) (L.getD i []) = true then 0 else 2) else 1

set_option maxRecDepth 100000 in
set_option maxHeartbeats 1000000 in
theorem noSet_any (p : Int) (xss yss : List (List Int)) (a b' : Option Addr) (ca cb bn : Nat) (u : Value) (x : List Int) (w : World) (ha : ReadsH w (.agg #[.int .i64 p, .slice a xss.length ca, .slice b' yss.length cb]) p xss yss) (h0 : C3 w bn (.int .i64 p) (.slice a xss.length ca) (.slice b' yss.length cb)) (hu : Reads w u x) :
    Calls Try.prog 105 (#[u] ++ #[.pointer (some ⟨bn, 0, none⟩)]) w fun e w' => e = .returned (.bool (!(setOk (xss.length : Int) x))) ∧ Below w.heap.size w w' := by
  have HRI := Lib.hid (fun w' (h : Below w.heap.size w w') => rowsIn_any _ p xss yss w' (ha.keep h))
  obtain ⟨d, hd⟩ : ∃ d, decide (ascB (xss.length : Int) x) = d := ⟨_, rfl⟩
  have HA := Lib.hid (fun w' (h : Below w.heap.size w w') => asc_b u (xss.length : Int) x w' (hu.keep h) hd)
  obtain ⟨ua, uc, rfl, hum, _⟩ := hu
  unfold maxLen at hum
  by_cases hz : x.length = 0
  · have HR : Hid (setOk (xss.length : Int) x = false) := decide_eq_false fun h => by omega
    have hz1 : ((x.length : Int) == 0) = true := by simp [hz]
    clear ha hd hz
    generalize setOk (xss.length : Int) x = bR at *
    generalize xss.length = n at *
    generalize yss.length = m at *
    generalize x.length = l at *
    go_enter Try.func105, Try.ntmps105
    go_wp2_with fail
    go_ret
    exact ⟨by rw [HR.out]; rfl, Below.refl _ _⟩
  · have HR : Hid (setOk (xss.length : Int) x = d) := by
      unfold Hid setOk
      rw [← hd]
      by_cases h : ascB (xss.length : Int) x
      · rw [decide_eq_true h, decide_eq_true ⟨by omega, h⟩]
      · rw [decide_eq_false h, decide_eq_false fun hh => h hh.2]
    have hz1 : ((x.length : Int) == 0) = false := by rw [beq_eq_false_iff_ne]; omega
    clear ha hd hz
    generalize setOk (xss.length : Int) x = bR at *
    generalize xss.length = n at *
    generalize yss.length = m at *
    generalize x.length = l at *
    go_enter Try.func105, Try.ntmps105
    go_wp2_with (first | (go_at_call 54; (with_reducible refine (HRI.out _ (by go_grown)).mono ?_); rintro e w' ⟨rfl, hb⟩; have hL := chain (B := w.heap.size) (a := w) (by go_grown) (Nat.le_refl _) hb; (first | replace h0 := keepAt3 hb h0 | replace h0 := keepAt3 hb (C3.alloc h0 _)); clear hb) | (go_at_call 69; (with_reducible refine (HA.out _ (by go_grown)).mono ?_); rintro e w' ⟨rfl, rfl⟩))
    go_ret
    exact ⟨by rw [HR.out]; rfl, by first | exact hL | exact Below.refl _ _⟩

set_option maxRecDepth 100000 in
set_option maxHeartbeats 1000000 in
theorem setsError_any (v vs : Value) (p : Int) (xss yss L : List (List Int)) (w : World) (ha : ReadsH w v p xss yss) (hs : Reads2 w vs L) :
    Calls Try.prog 83 #[v, vs] w fun e w' => e = .returned (.int .i64 (serC p xss yss L)) ∧ Below w.heap.size w w' := by
  obtain ⟨b, hb⟩ : ∃ b, chaB p xss yss = b := ⟨_, rfl⟩
  have HC := Lib.hid (fun w' (h : Below w.heap.size w w') => isChart_any v p xss yss w' (ha.keep h) hb)
  have ha' := ha
  have hs' := hs
  obtain ⟨sa, sc, rfl, hsm, _⟩ := hs
  unfold maxLen at hsm
  obtain ⟨a, ca, b', cb, rfl, _, _⟩ := ha
  have h0 := C3.here w (.int .i64 p) (.slice a xss.length ca) (.slice b' yss.length cb) 27
  cases b
  · have HR : Hid (serC p xss yss L = 1) := by unfold Hid serC; rw [hb]; rfl
    clear hb ha' hs'
    generalize serC p xss yss L = c at *
    generalize xss.length = n at *
    generalize yss.length = m at *
    generalize L.length = l at *
    go_enter Try.func83, Try.ntmps83
    go_wp2_with ((go_at_call 18; (with_reducible refine (HC.out _ (by go_grown)).mono ?_); rintro e w' ⟨rfl, hb⟩; have hL := chain (B := w.heap.size) (a := w) (by go_grown) (Nat.le_refl _) hb; (first | replace h0 := keepAt3 hb h0 | replace h0 := keepAt3 hb (C3.alloc h0 _)); clear hb))
    go_ret
    exact ⟨by rw [HR.out]; rfl, hL⟩
  · obtain ⟨d, hd⟩ : ∃ d, decide (∃ i, i < L.length ∧ (!(setOk (xss.length : Int) (L.getD i []))) = true) = d := ⟨_, rfl⟩
    have HCF := Lib.hid (fun w' bn (hk : Below w.heap.size w w') (h : C3 w' bn (.int .i64 p) (.slice a xss.length ca) (.slice b' yss.length cb)) => containsFuncR_any (.slice sa L.length sc) L 105 #[.pointer (some ⟨bn, 0, none⟩)] (fun x => !(setOk (xss.length : Int) x)) w' (hs'.keep hk) (fun u x wx hx hu => noSet_any p xss yss a b' ca cb bn u x wx ((ha'.keep hk).keep hx) (h.keep hx) hu) (enters_of Try.func105 (by kernel_rfl) rfl) hd)
    by_cases hbig : L.length ≤ 8
    · have hb1 : ¬ (8 : Int) < (L.length : Int) := by omega
      have HR : Hid (serC p xss yss L = if d = true then 2 else 0) := by
        unfold Hid serC
        rw [if_pos hb, ← hd]
        by_cases h : ∀ i, i < L.length → setOk (xss.length : Int) (L.getD i []) = true
        · rw [if_pos ⟨hbig, h⟩, decide_eq_false fun ⟨i, hi, hx⟩ => by rw [h i hi] at hx; cases hx]; rfl
        · rw [if_neg fun hh => h hh.2, decide_eq_true (Classical.byContradiction fun hno => h fun i hi => Classical.byContradiction fun hx => hno ⟨i, hi, by simpa using hx⟩)]; rfl
      clear hb ha' hs' hbig hd
      generalize serC p xss yss L = c at *
      generalize xss.length = n at *
      generalize yss.length = m at *
      generalize L.length = l at *
      cases d
      · go_enter Try.func83, Try.ntmps83
        go_wp2_with (first | (go_at_call 18; (with_reducible refine (HC.out _ (by go_grown)).mono ?_); rintro e w' ⟨rfl, hb⟩; have hL := chain (B := w.heap.size) (a := w) (by go_grown) (Nat.le_refl _) hb; (first | replace h0 := keepAt3 hb h0 | replace h0 := keepAt3 hb (C3.alloc h0 _)); clear hb) | (go_at_call 106; (with_reducible refine (HCF.out _ _ (by go_grown) h0).mono ?_); rintro e w' ⟨rfl, hb⟩; have hL := chain (B := w.heap.size) (a := w) (by go_grown) (Nat.le_refl _) hb; (first | replace h0 := keepAt3 hb h0 | replace h0 := keepAt3 hb (C3.alloc h0 _)); clear hb))
        go_ret
        exact ⟨by rw [HR.out]; rfl, hL⟩
      · go_enter Try.func83, Try.ntmps83
        go_wp2_with (first | (go_at_call 18; (with_reducible refine (HC.out _ (by go_grown)).mono ?_); rintro e w' ⟨rfl, hb⟩; have hL := chain (B := w.heap.size) (a := w) (by go_grown) (Nat.le_refl _) hb; (first | replace h0 := keepAt3 hb h0 | replace h0 := keepAt3 hb (C3.alloc h0 _)); clear hb) | (go_at_call 106; (with_reducible refine (HCF.out _ _ (by go_grown) h0).mono ?_); rintro e w' ⟨rfl, hb⟩; have hL := chain (B := w.heap.size) (a := w) (by go_grown) (Nat.le_refl _) hb; (first | replace h0 := keepAt3 hb h0 | replace h0 := keepAt3 hb (C3.alloc h0 _)); clear hb))
        go_ret
        exact ⟨by rw [HR.out]; rfl, hL⟩
    · have hb1 : (8 : Int) < (L.length : Int) := by omega
      have HR : Hid (serC p xss yss L = 2) := by unfold Hid serC; rw [if_pos hb, if_neg fun hh => hbig hh.1]
      clear hb ha' hs' hbig hd
      generalize serC p xss yss L = c at *
      generalize xss.length = n at *
      generalize yss.length = m at *
      generalize L.length = l at *
      go_enter Try.func83, Try.ntmps83
      go_wp2_with ((go_at_call 18; (with_reducible refine (HC.out _ (by go_grown)).mono ?_); rintro e w' ⟨rfl, hb⟩; have hL := chain (B := w.heap.size) (a := w) (by go_grown) (Nat.le_refl _) hb; (first | replace h0 := keepAt3 hb h0 | replace h0 := keepAt3 hb (C3.alloc h0 _)); clear hb))
      go_ret
      exact ⟨by rw [HR.out]; rfl, hL⟩

/-- the sets of lists -/
def memL (L : List (List Int)) (i : Nat) : Nat → Prop := memQ (L.getD i []) (L.getD i []).length
noncomputable def resIsCover_0 (p : Int) (xss yss L : List (List Int)) : Bool := if serC p xss yss L = 0 then covB (Tog xss yss xss.length p.toNat) xss p.toNat (memL L) L.length else false
def resIsCover_1 (p : Int) (xss yss L : List (List Int)) : Int := serC p xss yss L
theorem serC_zero {p : Int} {xss yss L : List (List Int)} (h : serC p xss yss L = 0) : chaB p xss yss = true ∧ L.length ≤ 8 ∧ ∀ i, i < L.length → 0 < (L.getD i []).length ∧ ascB (xss.length : Int) (L.getD i []) := by
  unfold serC at h
  by_cases h1 : chaB p xss yss = true
  · rw [if_pos h1] at h
    by_cases h2 : L.length ≤ 8 ∧ ∀ i, i < L.length → setOk (xss.length : Int) (L.getD i []) = true
    · exact ⟨h1, h2.1, fun i hi => of_decide_eq_true (h2.2 i hi)⟩
    · rw [if_neg h2] at h; cases h
  · rw [if_neg h1] at h; cases h
theorem memL_bd {n : Nat} {L : List (List Int)} (h : ∀ i, i < L.length → 0 < (L.getD i []).length ∧ ascB (n : Int) (L.getD i [])) : ∀ i, i < L.length → ∀ a, a < 8 → memL L i a → a < n := fun i hi a ha ⟨k, hk, e⟩ => by
  have := ((h i hi).2 k hk).1
  omega

set_option maxRecDepth 100000 in
set_option maxHeartbeats 2000000 in
theorem iIsCover_any (v : Value) (p : Int) (xss yss : List (List Int)) (vs : Value) (L : List (List Int)) (w : World) (ha : ReadsH w v p xss yss) (hs : Reads2 w vs L) :
    Calls Try.prog 43 #[v, vs] w fun e w' => e = .returned (.tuple #[.bool (resIsCover_0 p xss yss L), .int .i64 (resIsCover_1 p xss yss L)]) ∧ Below w.heap.size w w' := by
  have HSE := Lib.hid (fun w' (h : Below w.heap.size w w') => setsError_any v vs p xss yss L w' (ha.keep h) (hs.keep h))
  obtain ⟨c, hc⟩ : ∃ c, serC p xss yss L = c := ⟨_, rfl⟩
  rw [hc] at HSE
  by_cases h0c : c = 0
  · subst h0c
    obtain ⟨hb, hL8, hok⟩ := serC_zero hc
    obtain ⟨n1, n8⟩ := (chaB_out hb).1
    have HR : Hid (resIsCover_0 p xss yss L = covB (Tog xss yss xss.length p.toNat) xss p.toNat (memL L) L.length ∧ resIsCover_1 p xss yss L = 0) := by
      unfold resIsCover_0 resIsCover_1; rw [if_pos hc, hc]; exact ⟨rfl, rfl⟩
    have HCI := Lib.hid (fun w' (h : Below w.heap.size w w') => companyIn_any v p xss yss w' (ha.keep h) hb)
    have HSO := Lib.hid (fun w' (h : Below w.heap.size w w') => setsOf_any vs L w' (hs.keep h) (by omega) (fun i hi k hk => by have := ((hok i hi).2 k hk).1; omega))
    have HIS : Hid (∀ w' (h : Below w.heap.size w w') u (hu : Reads w' u (setZ L L.length)), Calls Try.prog 84 #[v, arrV (matZ (Tog xss yss xss.length p.toNat)), u] w' fun e w'' => e = .returned (.bool (covB (Tog xss yss xss.length p.toNat) xss p.toNat (memL L) L.length)) ∧ Below w'.heap.size w' w'') := fun w' h u hu => by
      have h1 := isCover_any v u p xss yss (setZ L L.length) (memL L) (Tog xss yss xss.length p.toNat) w' (ha.keep h) hu hb (fun i hi => setZ_get _ _ _ (by rwa [setZ_len] at hi)) (fun i hi => memL_bd hok i (by rwa [setZ_len] at hi))
      rwa [setZ_len] at h1
    unfold arrV at HCI HIS
    obtain ⟨a, ca, b', cb, rfl, _, _⟩ := ha
    obtain ⟨sa, sc, rfl, _, _⟩ := hs
    have h0 := C3.here w (.int .i64 p) (.slice a xss.length ca) (.slice b' yss.length cb) 27
    clear hb hc hok
    generalize covB (Tog xss yss xss.length p.toNat) xss p.toNat (memL L) L.length = gb at *
    generalize matZ (Tog xss yss xss.length p.toNat) = T at *
    generalize setZ L L.length = zs at *
    generalize xss.length = n at *
    generalize yss.length = m at *
    generalize L.length = l at *
    go_enter Try.func43, Try.ntmps43
    go_upto_region 4 with ((go_at_call 83; (with_reducible refine (HSE.out _ (by go_grown)).mono ?_); rintro e w' ⟨rfl, hb⟩; have hL := chain (B := w.heap.size) (a := w) (by go_grown) (Nat.le_refl _) hb; (first | replace h0 := keepAt3 hb h0 | replace h0 := keepAt3 hb (C3.alloc h0 _)); clear hb))
    go_region_with (first | (go_at_call 65; (with_reducible refine (HCI.out _ (by first | exact hL | exact (show Below w.heap.size w _ from Bdrew hL 1) | go_grown)).mono ?_); rintro e w2 ⟨rfl, hb⟩; have hL2 := chain (B := w.heap.size) (a := w) (by first | exact hL | exact (show Below w.heap.size w _ from Bdrew hL 1) | go_grown) (Nat.le_refl _) hb; have h02 := keepAt3 hb (show C3 _ w.heap.size _ _ _ from h0); clear hb) | (go_at_call 85; (with_reducible refine (HSO.out _ hL2).mono ?_); rintro e w3 ⟨u, rfl, ou, hb⟩; have hL3 := chain (B := w.heap.size) (a := w) hL2 (Nat.le_refl _) hb; have h03 := keepAt3 hb h02; have OU := Lib.hid ou.reads; clear hb ou) | (go_at_call 84; (with_reducible refine (HIS.out _ hL3 _ OU.out).mono ?_); rintro e w4 ⟨rfl, hb⟩; have hL4 := chain (B := w.heap.size) (a := w) hL3 (Nat.le_refl _) hb; clear hb))
    all_goals go_wp2_with fail
    all_goals go_ret2
    all_goals exact ⟨by rw [HR.out.1, HR.out.2]; rfl, hL4⟩
  · have HR : Hid (resIsCover_0 p xss yss L = false ∧ resIsCover_1 p xss yss L = c) := by
      unfold resIsCover_0 resIsCover_1; rw [hc, if_neg h0c]; exact ⟨rfl, rfl⟩
    have hne : (c != 0) = true := by simp [h0c]
    obtain ⟨a, ca, b', cb, rfl, _, _⟩ := ha
    obtain ⟨sa, sc, rfl, _, _⟩ := hs
    have h0 := C3.here w (.int .i64 p) (.slice a xss.length ca) (.slice b' yss.length cb) 27
    clear hc h0c
    generalize xss.length = n at *
    generalize yss.length = m at *
    generalize L.length = l at *
    go_enter Try.func43, Try.ntmps43
    go_wp2_with ((go_at_call 83; (with_reducible refine (HSE.out _ (by go_grown)).mono ?_); rintro e w' ⟨rfl, hb⟩; have hL := chain (B := w.heap.size) (a := w) (by go_grown) (Nat.le_refl _) hb; (first | replace h0 := keepAt3 hb h0 | replace h0 := keepAt3 hb (C3.alloc h0 _)); clear hb))
    go_ret2
    exact ⟨by rw [HR.out.1, HR.out.2]; rfl, hL⟩

set_option maxRecDepth 100000 in
set_option maxHeartbeats 4000000 in
theorem l07Sets_any (v vs : Value) (p : Int) (xss yss L : List (List Int)) (w : World) (ha : ReadsH w v p xss yss) (hs : Reads2 w vs L) (hLl : L.length ≤ 1048576) :
    Calls Try.prog 81 #[v, vs] w fun e w' => ∃ u, e = .returned (.tuple #[u, .int .i64 (serC p xss yss L)]) ∧ (serC p xss yss L = 0 → Reads w' u (setZ L L.length)) ∧ Below w.heap.size w w' := by
  obtain ⟨j0, hj0_, jz0, jz1, jz2⟩ := info_parts info64
  obtain ⟨b, hb⟩ : ∃ b, chaB p xss yss = b := ⟨_, rfl⟩
  have HC := Lib.hid (fun w' (h : Below w.heap.size w w') => l07Is_any v p xss yss w' (ha.keep h) hb)
  have ha' := ha
  have HS2 := Lib.hid hs
  obtain ⟨sa, sc, rfl, hsm, _⟩ := hs
  unfold maxLen at hsm
  obtain ⟨a, ca, b', cb, rfl, _, _⟩ := ha
  have h0 := C3.here w (.int .i64 p) (.slice a xss.length ca) (.slice b' yss.length cb) 27
  cases b
  · have HR : Hid (serC p xss yss L = 1) := by unfold Hid serC; rw [hb]; rfl
    clear hb ha' HS2
    generalize serC p xss yss L = c at *
    generalize xss.length = n at *
    generalize yss.length = m at *
    generalize L.length = l at *
    go_enter Try.func81, Try.ntmps81
    go_wp2_with ((go_at_call 53; (with_reducible refine (HC.out _ (by go_grown)).mono ?_); rintro e w' ⟨rfl, hb⟩; have hL := chain (B := w.heap.size) (a := w) (by go_grown) (Nat.le_refl _) hb; (first | replace h0 := keepAt3 hb h0 | replace h0 := keepAt3 hb (C3.alloc h0 _)); clear hb))
    go_ret2
    exact ⟨_, by rw [HR.out]; rfl, fun h => absurd (HR.out.symm.trans h) (by decide), hL⟩
  · obtain ⟨n1, n8⟩ := (chaB_out hb).1
    obtain ⟨J, hJ, hno, hyes⟩ := firstB (fun i => !(setOk (xss.length : Int) (L.getD i []))) L.length
    have HT : Hid (J = L.length → L.length ≤ 8 → serC p xss yss L = 0) := fun e h8 => by
      unfold serC; rw [if_pos hb, if_pos ⟨h8, fun i hi => by have := hno i (by omega); simpa using this⟩]
    have HF : Hid (J = L.length → ¬ L.length ≤ 8 → serC p xss yss L = 2) := fun e h8 => by
      unfold serC; rw [if_pos hb, if_neg fun hh => h8 hh.1]
    have HB : Hid (J < L.length → serC p xss yss L = 2) := fun h => by
      unfold serC; rw [if_pos hb, if_neg fun hh => by have h1 := hyes h; have h2 := hh.2 J h; rw [h2] at h1; cases h1]
    have Hno : Hid (∀ i, i < J → setOk (xss.length : Int) (L.getD i []) = true) := fun i hi => by have := hno i hi; simpa using this
    have Hyes : Hid (J < L.length → setOk (xss.length : Int) (L.getD J []) = false) := fun h => by have := hyes h; simpa using this
    have HRW := Lib.hid (fun w' u x d (h : Below w.heap.size w w') (hu : Reads w' u x) (hd : decide (ascB (xss.length : Int) x) = d) => l07Rows_any _ u p xss yss x w' (ha'.keep h) hu n1 n8 hd)
    have HP : Hid (∀ k, k < L.length → ∃ b off u, sa = some ⟨b, off, none⟩ ∧ w.cell? ⟨b, off + k, none⟩ = some u ∧ Reads w u (L.getD k [])) := fun k hk => HS2.out.cellR hk
    have HZ0 : Hid (setZ L 0 = []) := rfl
    have HSS := Lib.hid (fun k => setZ_succ L k)
    have HSL := Lib.hid (fun k => setZ_len L k)
    have hn8 : xss.length ≤ 8 := n8
    clear hb ha' hno hyes HS2
    generalize serC p xss yss L = c at *
    generalize xss.length = n at *
    generalize yss.length = m at *
    generalize hl : L.length = l at *
    clear hl
    go_enter Try.func81, Try.ntmps81
    go_wp2_with ((go_at_call 53; (with_reducible refine (HC.out _ (by go_grown)).mono ?_); rintro e w' ⟨rfl, hb⟩; have hL := chain (B := w.heap.size) (a := w) (by go_grown) (Nat.le_refl _) hb; (first | replace h0 := keepAt3 hb h0 | replace h0 := keepAt3 hb (C3.alloc h0 _)); clear hb))
    have hkb := h0.lt
    have hsz := hL.size
    have HI1 : Hid (Owns (w'.alloc (.cells #[] 2)) (w.heap.size + 1) (.slice (some ⟨w'.heap.size, 0, none⟩) 0 0) []) :=
      World.ownsRow_made (base := w.heap.size + 1) (e := 2) (size := 1) w' #[] 0 (by omega) (by simp) rfl
    go_loopw [6, 7] (fun u c wr => ∃ k : Nat, k ≤ J ∧ c = .int .i64 (k : Int) ∧ Below w.heap.size w wr ∧ C3 wr w.heap.size (.int .i64 p) (.slice a n ca) (.slice b' m cb) ∧ Owns wr (w.heap.size + 1) u (setZ L k)) (fun _ c _ => l - (intOf c).toNat)
    case atStart => exact ⟨0, Nat.zero_le _, rfl, by first | exact hL.alloc hL.size _ | go_grown, h0.alloc _, by rw [HZ0.out]; exact HI1.out⟩
    case round =>
      clear hL h0 hkb hsz HI1
      obtain ⟨k, hk, rfl, hL, h0, oo⟩ := hrel
      have OO := Lib.hid oo
      have hz := h0.lt
      clear oo
      by_cases hlt : k < l
      · have hi1 : (k : Int) < (l : Int) := by omega
        have hi0 : (0 : Int) ≤ (k : Int) := by omega
        obtain ⟨b, off, u, rfl, hu, hr⟩ := HP.out k hlt
        have hca := cell_later hL hu
        have HRd := Lib.hid (hr.keep hL)
        have HSk := Lib.hid (HSS.out k)
        have hsl := HSL.out k
        have Hkb : Hid (setOk (n : Int) (L.getD k []) = false → c = 2) := fun h => by
          refine HB.out ?_
          rcases Nat.lt_or_ge J l with h1 | h1
          · exact h1
          · have := Hno.out k (by omega); rw [h] at this; cases this
        have Hkj : Hid (setOk (n : Int) (L.getD k []) = true → k < J) := fun h => by
          rcases Nat.lt_or_ge k J with h1 | h1
          · exact h1
          · have e : k = J := by omega
            subst e
            have := Hyes.out hlt; rw [h] at this; cases this
        obtain ⟨ua, uc, rfl, hum, _⟩ := hr
        unfold maxLen at hum
        clear hu
        obtain ⟨x, hx⟩ : ∃ x, L.getD k [] = x := ⟨_, rfl⟩
        rw [hx] at HRd HSk Hkb Hkj hca hum
        clear hx
        have hLd : Below w.heap.size w wr.drew := Bdrew hL 1
        by_cases hz0 : x.length = 0
        · have HR := Lib.hid (Hkb.out (decide_eq_false fun h => by omega))
          have hz1 : ((x.length : Int) == 0) = true := by simp [hz0]
          clear Hkb Hkj HSk hz0
          generalize x.length = xl at *
          go_wp2_with fail
          go_quiet (fail)
          all_goals go_wp2_with fail
          all_goals go_ret2
          all_goals exact ⟨_, by rw [HR.out]; rfl, fun h => absurd (HR.out.symm.trans h) (by decide), by first | exact hL | exact Bdrew hL _ | exact hLd⟩
        · have hz1 : ((x.length : Int) == 0) = false := by rw [beq_eq_false_iff_ne]; omega
          by_cases hasc : ascB (n : Int) x
          · have hkJ := Hkj.out (decide_eq_true ⟨by omega, hasc⟩)
            have HRk := Lib.hid (fun w' (h : Below w.heap.size w w') (hu : Reads w' (.slice ua x.length uc) x) => HRW.out w' _ x true h hu (decide_eq_true hasc))
            have HX : Hid (∀ i, i < x.length → 0 ≤ x.getD i 0 ∧ x.getD i 0 < (n : Int)) := fun i hi => (hasc i hi).1
            clear Hkb Hkj hz0 hasc
            go_wp2_with fail
            go_region_with ((go_at_call 67; (with_reducible refine (HRk.out _ hLd (HRd.out.keep (show Below wr.heap.size wr wr.drew from Bdrew (Below.refl _ _) 1))).mono ?_); rintro e w2 ⟨rfl, hb⟩; have hL2 := chain (B := w.heap.size) (a := w) hLd (Nat.le_refl _) hb; have h02 := keepAt3 hb (show C3 _ w.heap.size _ _ _ from h0); have O2 := Lib.hid (Owns.keep (show Owns wr.drew _ _ _ from World.ownsRow.drew OO.out) hb); have R2 := Lib.hid (Reads.keep (show Reads wr.drew _ _ from HRd.out.keep (show Below wr.heap.size wr wr.drew from Bdrew (Below.refl _ _) 1)) hb); have hca2 := cell_later hb (show wr.drew.cell? _ = _ from hca); clear hb))
            all_goals (
              clear hL h0 hca hLd
              go_wp2_with fail
              have HCX : Hid (∀ i, i < x.length → ∃ b off, ua = some ⟨b, off, none⟩ ∧ w2.cell? ⟨b, off + i, none⟩ = some (.int .i64 (x.getD i 0))) := fun i hi => R2.out.cellR hi
              have HM0 : Hid (rowN (memQ x 0) = 0) := by
                unfold Hid
                rw [rowN_congr (Q := fun _ => False) fun j _ => ⟨fun ⟨i, hi, _⟩ => by omega, False.elim⟩, rowN_none]
              generalize hxl : x.length = xl at *
              clear hxl
              go_loop [8, 9] (fun s c => ∃ j : Nat, j ≤ xl ∧ c = .int .i64 (j : Int) ∧ s = .int .i64 ((rowN (memQ x j) : Nat) : Int)) (fun _ c => xl - (intOf c).toNat)
              case atStart => exact ⟨0, Nat.zero_le _, rfl, by rw [HM0.out]; rfl⟩
              case round =>
                obtain ⟨j, hj, rfl, rfl⟩ := hrel
                by_cases hjl : j < xl
                · obtain ⟨xb, xo, rfl, hc2⟩ := HCX.out j hjl
                  have hx2 := HX.out j hjl
                  obtain ⟨X, hXX⟩ : ∃ X : Nat, x.getD j 0 = (X : Int) := ⟨(x.getD j 0).toNat, by omega⟩
                  rw [hXX] at hc2 hx2
                  have hj1 : (j : Int) < (xl : Int) := by omega
                  have hj0 : (0 : Int) ≤ (j : Int) := by omega
                  have hX0 : (0 : Int) ≤ (X : Int) := by omega
                  have hX8 : X < 8 := by omega
                  obtain ⟨V, hV⟩ : ∃ V, bits .or .i64 ((rowN (memQ x j) : Nat) : Int) (wrap64 (2 ^ X)) = V := ⟨_, rfl⟩
                  have HV : Hid (V = ((rowN (memQ x (j + 1)) : Nat) : Int)) := by
                    rw [Hid, ← hV, or_walk (rowN (memQ x j)) X (by have := rowN_lt (memQ x j); omega) (by omega), rowN_or _ hX8]
                    rw [rowN_congr fun j _ => memQ_succ hXX j]
                  generalize ((rowN (memQ x j) : Nat) : Int) = S at *
                  clear hXX hx2
                  go_wp2_with fail
                  go_round
                  case rel => exact ⟨j + 1, by omega, by go_num, by rw [HV.out]⟩
                  case measure => simp [intOf]; omega
                · have e : j = xl := by omega
                  have hjn : ¬ (j : Int) < (xl : Int) := by omega
                  rw [e]
                  rw [e] at hjn
                  clear e
                  have hz2 := h02.lt
                  generalize ((rowN (memQ x xl) : Nat) : Int) = Z at *
                  generalize hg : setZ L k = L1 at *
                  clear hg
                  go_wp2_with (at_builtin; refine wpList_append_own _ rfl _ _ 36 rfl (w.heap.size + 1) 2 j0 (.int .i64 0) 1 8 Try.underlying36 hj0_ jz0 jz1 jz2 rfl (by decide) _ L1.length (L1.map (Value.int .i64)) rfl (World.ownsRow.alloc O2.out _) ⟨w2.heap.size, 0, none⟩ 1 1 [.int .i64 Z] rfl rfl (cell_one_new _ _ _) (by simp [Value.oneCell']) (by unfold maxLen; omega) (by omega) (by simp; omega) ?_; intro v1 w5 hown1 hgrow1 hnil1)
                  have hfrom := O2.out.rowsFrom (B := w.heap.size + 1) (Nat.le_refl _)
                  exact ⟨⟨k + 1, by omega, by go_num, (hL2.alloc (by omega) _).grown hgrow1 (by simp; omega) (fun q e => Nat.le_of_succ_le (hfrom q e)), (h02.alloc _).grown hgrow1 (fun e => absurd (hfrom _ e) (by omega)), by rw [HSk.out]; exact Owns.snoc hown1⟩, by simp [intOf]; omega⟩)
          · have HR := Lib.hid (Hkb.out (decide_eq_false fun h => hasc h.2))
            have HRk := Lib.hid (fun w' (h : Below w.heap.size w w') (hu : Reads w' (.slice ua x.length uc) x) => HRW.out w' _ x false h hu (decide_eq_false hasc))
            clear Hkb Hkj HSk hz0 hasc
            go_wp2_with fail
            go_region_with ((go_at_call 67; (with_reducible refine (HRk.out _ hLd (HRd.out.keep (show Below wr.heap.size wr wr.drew from Bdrew (Below.refl _ _) 1))).mono ?_); rintro e w2 ⟨rfl, hb⟩; have hL2 := chain (B := w.heap.size) (a := w) hLd (Nat.le_refl _) hb; clear hb))
            all_goals go_wp2_with fail
            all_goals go_ret2
            all_goals exact ⟨_, by rw [HR.out]; rfl, fun h => absurd (HR.out.symm.trans h) (by decide), hL2⟩
      · have hge : ¬ (k : Int) < (l : Int) := by omega
        have eJ : J = l := by omega
        have ek : k = l := by omega
        by_cases h8 : l ≤ 8
        · have HR := Lib.hid (HT.out eJ h8)
          have h81 : ¬ (8 : Int) < (l : Int) := by omega
          rw [ek] at OO
          clear ek
          go_wp2_with fail
          go_ret2
          exact ⟨_, by rw [HR.out]; rfl, fun _ => OO.out.reads, hL⟩
        · have HR := Lib.hid (HF.out eJ h8)
          have h81 : (8 : Int) < (l : Int) := by omega
          go_wp2_with fail
          go_ret2
          exact ⟨_, by rw [HR.out]; rfl, fun h => absurd (HR.out.symm.trans h) (by decide), hL⟩

theorem lenIsCover : True := trivial
set_option maxRecDepth 100000 in
set_option maxHeartbeats 2000000 in
theorem sIsCover_any (v : Value) (p : Int) (xss yss : List (List Int)) (vs : Value) (L : List (List Int)) (w : World) (ha : ReadsH w v p xss yss) (hs : Reads2 w vs L) (hLl : L.length ≤ 1048576) :
    Calls Try.prog 41 #[v, vs] w fun e w' => e = .returned (.tuple #[.bool (resIsCover_0 p xss yss L), .int .i64 (resIsCover_1 p xss yss L)]) ∧ Below w.heap.size w w' := by
  have HSE := Lib.hid (fun w' (h : Below w.heap.size w w') => l07Sets_any v vs p xss yss L w' (ha.keep h) (hs.keep h) hLl)
  obtain ⟨c, hc⟩ : ∃ c, serC p xss yss L = c := ⟨_, rfl⟩
  rw [hc] at HSE
  by_cases h0c : c = 0
  · subst h0c
    obtain ⟨hb, hL8, hok⟩ := serC_zero hc
    have HR : Hid (resIsCover_0 p xss yss L = covB (Tog xss yss xss.length p.toNat) xss p.toNat (memL L) L.length ∧ resIsCover_1 p xss yss L = 0) := by
      unfold resIsCover_0 resIsCover_1; rw [if_pos hc, hc]; exact ⟨rfl, rfl⟩
    have HIS : Hid (∀ w' (h : Below w.heap.size w w') u (hu : Reads w' u (setZ L L.length)), Calls Try.prog 82 #[v, u] w' fun e w'' => e = .returned (.bool (covB (Tog xss yss xss.length p.toNat) xss p.toNat (memL L) L.length)) ∧ Below w'.heap.size w' w'') := fun w' h u hu => by
      have h1 := l07Cover_any v u p xss yss (setZ L L.length) (memL L) w' (ha.keep h) hu hb (fun i hi => setZ_get _ _ _ (by rwa [setZ_len] at hi)) (fun i hi => memL_bd hok i (by rwa [setZ_len] at hi))
      rwa [setZ_len] at h1
    obtain ⟨a, ca, b', cb, rfl, _, _⟩ := ha
    obtain ⟨sa, sc, rfl, _, _⟩ := hs
    have h0 := C3.here w (.int .i64 p) (.slice a xss.length ca) (.slice b' yss.length cb) 27
    clear hb hc hok
    generalize covB (Tog xss yss xss.length p.toNat) xss p.toNat (memL L) L.length = gb at *
    generalize setZ L L.length = zs at *
    generalize xss.length = n at *
    generalize yss.length = m at *
    generalize L.length = l at *
    go_enter Try.func41, Try.ntmps41
    go_wp2_with fail
    refine (HSE.out _ (by go_grown)).mono ?_
    rintro e w1 ⟨u, rfl, hu, hb⟩
    have hL := chain (B := w.heap.size) (a := w) (by go_grown) (Nat.le_refl _) hb
    have HU := Lib.hid (hu (by first | exact rfl | trivial))
    have h1 := h0.keep hb
    clear hb hu
    go_wp2_with fail
    refine (HIS.out _ hL _ HU.out).mono ?_
    rintro e w2 ⟨rfl, hb⟩
    have hL2 := chain (B := w.heap.size) (a := w) hL (Nat.le_refl _) hb
    clear hb
    go_wp2_with fail
    go_ret2
    exact ⟨by rw [HR.out.1, HR.out.2]; rfl, hL2⟩
  · have HR : Hid (resIsCover_0 p xss yss L = false ∧ resIsCover_1 p xss yss L = c) := by
      unfold resIsCover_0 resIsCover_1; rw [hc, if_neg h0c]; exact ⟨rfl, rfl⟩
    have hne : (c != 0) = true := by simp [h0c]
    obtain ⟨a, ca, b', cb, rfl, _, _⟩ := ha
    obtain ⟨sa, sc, rfl, _, _⟩ := hs
    have h0 := C3.here w (.int .i64 p) (.slice a xss.length ca) (.slice b' yss.length cb) 27
    clear hc h0c
    generalize xss.length = n at *
    generalize yss.length = m at *
    generalize L.length = l at *
    go_enter Try.func41, Try.ntmps41
    go_wp2_with fail
    refine (HSE.out _ (by go_grown)).mono ?_
    rintro e w1 ⟨u, rfl, hu, hb⟩
    have hL := chain (B := w.heap.size) (a := w) (by go_grown) (Nat.le_refl _) hb
    clear hb hu
    go_wp2_with fail
    go_ret2
    exact ⟨by rw [HR.out.1, HR.out.2]; rfl, hL⟩

end Go.Proofs.Ytnlcnbkookmfaaa
