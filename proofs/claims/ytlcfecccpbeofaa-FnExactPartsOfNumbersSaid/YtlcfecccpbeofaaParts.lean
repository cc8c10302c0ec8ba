/- PartsOfNumbers: the program's and the model's. -/
import Derived.Test.YtlcfecccpbeofaaSym
import Derived.Test.YtlcfecccpbeofaaSSym
import Derived.Test.YtlcfecccpbeofaaSets
import Derived.Test.YtlcfecccpbeofaaIn
import Derived.Maps.AppendAt
namespace Go.Proofs.Ytlcfecccpbeofaa
open Go.RowKit
set_option linter.unusedVariables false

def ptOk (n : Int) (xs : List Int) : Prop := (2 ≤ n ∧ n ≤ 5) ∧ ascB (n + 1) xs
instance (n : Int) (xs : List Int) : Decidable (ptOk n xs) := by unfold ptOk; infer_instance
def fLo (n : Int) (xs : List Int) : List Int := xs.filter fun x => decide (x < n)
def fHi (xs : List Int) : List Int := (xs.filter fun x => decide (0 < x)).map fun x => x - 1
def ptLo (n : Int) (xs : List Int) : List Int := if ptOk n xs then fLo n xs else []
def ptHi (n : Int) (xs : List Int) : List Int := if ptOk n xs then fHi xs else []
def ptCode (n : Int) (xs : List Int) : Int := if ptOk n xs then 0 else 2

theorem lo_fin : ∀ (n : Fin 6) (S : Fin 64), S.val < 2 ^ (n.val + 1) → onesTo (bits .andNot .i64 (S.val : Int) (wrap64 (2 ^ n.val))) 62 = fLo (n.val : Int) (onesTo (S.val : Int) 62) := by decide +kernel
theorem lo_bd : ∀ (n : Fin 6) (S : Fin 64), 0 ≤ bits .andNot .i64 (S.val : Int) (wrap64 (2 ^ n.val)) ∧ bits .andNot .i64 (S.val : Int) (wrap64 (2 ^ n.val)) < 64 := by decide +kernel
theorem hi_fin : ∀ (S : Fin 64), onesTo ((S.val : Int) / 2) 62 = fHi (onesTo (S.val : Int) 62) := by decide +kernel

theorem lo_eq {n : Int} {xs : List Int} (h : ptOk n xs) : onesTo (bits .andNot .i64 (setL xs : Int) (wrap64 (2 ^ n.toNat))) 62 = ptLo n xs ∧ 0 ≤ bits .andNot .i64 (setL xs : Int) (wrap64 (2 ^ n.toNat)) ∧ bits .andNot .i64 (setL xs : Int) (wrap64 (2 ^ n.toNat)) < 64 := by
  obtain ⟨⟨n2, n5⟩, hx⟩ := h
  have hS := setL_bd hx (by omega)
  have hl := setL_list hx (by omega) n5 (m := 62) (by omega)
  obtain ⟨N, rfl⟩ := Int.eq_ofNat_of_zero_le (show 0 ≤ n by omega)
  rw [Int.toNat_natCast] at *
  have h64 : (2 : Nat) ^ (N + 1) ≤ 2 ^ 6 := Nat.pow_le_pow_right (by decide) (by omega)
  have := lo_fin ⟨N, by omega⟩ ⟨setL xs, by omega⟩ hS
  have hb := lo_bd ⟨N, by omega⟩ ⟨setL xs, by omega⟩
  refine ⟨?_, hb⟩
  unfold ptLo
  rw [if_pos ⟨⟨n2, n5⟩, hx⟩]
  simp only at this
  rw [this, hl]
theorem hi_eq {n : Int} {xs : List Int} (h : ptOk n xs) : onesTo ((setL xs : Int) / 2) 62 = ptHi n xs := by
  obtain ⟨⟨n2, n5⟩, hx⟩ := h
  have hS := setL_bd hx (by omega)
  have hl := setL_list hx (by omega) n5 (m := 62) (by omega)
  have h64 : (2 : Nat) ^ (n.toNat + 1) ≤ 2 ^ 6 := Nat.pow_le_pow_right (by decide) (by omega)
  have := hi_fin ⟨setL xs, by omega⟩
  unfold ptHi
  rw [if_pos ⟨⟨n2, n5⟩, hx⟩]
  simp only at this
  rw [this, hl]
theorem ownsNil (w : World) (base : Nat) : Owns w base (.slice none 0 0) [] := World.ownsRow_nil _ _ _ _

set_option maxHeartbeats 1000000 in
theorem iPartsOfNumbers_any (n : Int) (v : Value) (xs : List Int) (w : World) (ha : Reads w v xs) :
    Calls Try.prog 14 #[.int .i64 n, v] w fun e w' => ∃ u0 u1 M, e = .returned (.tuple #[u0, u1, .int .i64 (ptCode n xs)]) ∧ In w' w.heap.size M u0 (ptLo n xs) ∧ In w' M w'.heap.size u1 (ptHi n xs) ∧ w.heap.size ≤ M ∧ M ≤ w'.heap.size ∧ Below w.heap.size w w' := by
  have HA := Lib.hid ha
  by_cases h : ptOk n xs
  · have hn2 : ¬ n < 2 := by have := h.1; omega
    have n5 := h.1.2
    have HX := Lib.hid h.2
    have HB : Hid (decide ((1 ≤ n ∧ n ≤ 5) ∧ ascB (n + 1) xs) = true) := decide_eq_true ⟨⟨by omega, n5⟩, h.2⟩
    obtain ⟨e1, b1, b2⟩ := lo_eq h
    have H1 := Lib.hid e1
    have HB1 : Hid (0 ≤ bits .andNot .i64 (setL xs : Int) (wrap64 (2 ^ n.toNat)) ∧ bits .andNot .i64 (setL xs : Int) (wrap64 (2 ^ n.toNat)) < 64) := ⟨b1, b2⟩
    have H2 := Lib.hid (hi_eq h)
    have HC : Hid (ptCode n xs = 0) := if_pos h
    have HS : Hid (setL xs < 64) := sumTo_bd h.2 (by omega) n5 (Nat.le_refl _)
    clear h ha e1 b1 b2
    go_enter Try.func14, Try.ntmps14
    go_wp2_with (first | (go_at_call 28; (with_reducible refine (areB _ _ _ _ HA.out HB.out).mono ?_); rintro e w' ⟨rfl, rfl⟩) | (go_at_call 30; (with_reducible refine (setOf_any n _ _ _ HA.out HX.out (by omega) n5).mono ?_); rintro e w' ⟨rfl, rfl⟩))
    generalize setL xs = S at *
    refine (membersOf_any _ _ HB1.out.1 (by have := HB1.out.2; omega)).mono ?_
    rintro e w1 ⟨u0, rfl, o0, hb⟩
    rw [H1.out] at o0
    have hL := chain (B := w.heap.size) (a := w) (by go_grown) (Nat.le_refl _) hb
    have i0 : In w1 w.heap.size w1.heap.size u0 (ptLo n xs) := In.of o0 (by go_grown) (Nat.le_refl _)
    clear hb o0
    go_wp2_with fail
    refine (membersOf_any _ _ (by omega) (by have := HS.out; omega)).mono ?_
    rintro e w2 ⟨u1, rfl, o1, hb⟩
    rw [H2.out] at o1
    have hL2 := chain (B := w.heap.size) (a := w) hL (Nat.le_refl _) hb
    have i1 : In w2 w1.heap.size w2.heap.size u1 (ptHi n xs) := In.of o1 (Nat.le_refl _) (Nat.le_refl _)
    have i0' := i0.keep hb
    have hz1 := hL.size
    have hz2 := hb.size
    clear hb o1 i0
    go_wp2_with fail
    refine bodyPost_ret (v := .tuple #[u0, u1, .int .i64 0]) (by simp [results, Try.results14, go_sem, *]) rfl ?_
    exact ⟨u0, u1, w1.heap.size, by rw [HC.out], i0', i1, hz1, hz2, hL2⟩
  · have HC : Hid (ptCode n xs = 2) := if_neg h
    have HL : Hid (ptLo n xs = []) := if_neg h
    have HH : Hid (ptHi n xs = []) := if_neg h
    by_cases hn2 : n < 2
    · clear h ha
      go_enter Try.func14, Try.ntmps14
      go_wp2_with fail
      refine bodyPost_ret (v := .tuple #[.slice none 0 0, .slice none 0 0, .int .i64 2]) (by simp [results, Try.results14, go_sem, *]) rfl ?_
      exact ⟨_, _, w.heap.size, by rw [HC.out], by rw [HL.out]; exact In.of (ownsNil _ _) (Nat.le_refl _) (Nat.le_refl _), by rw [HH.out]; exact In.of (ownsNil _ _) (Nat.le_refl _) (Nat.le_refl _), Nat.le_refl _, Nat.le_refl _, Below.refl _ _⟩
    · have HB : Hid (decide ((1 ≤ n ∧ n ≤ 5) ∧ ascB (n + 1) xs) = false) := decide_eq_false fun hh => h ⟨⟨by omega, hh.1.2⟩, hh.2⟩
      clear h ha
      go_enter Try.func14, Try.ntmps14
      go_wp2_with (first | (go_at_call 28; (with_reducible refine (areB _ _ _ _ HA.out HB.out).mono ?_); rintro e w' ⟨rfl, rfl⟩))
      refine bodyPost_ret (v := .tuple #[.slice none 0 0, .slice none 0 0, .int .i64 2]) (by simp [results, Try.results14, go_sem, *]) rfl ?_
      exact ⟨_, _, w.heap.size, by rw [HC.out], by rw [HL.out]; exact In.of (ownsNil _ _) (Nat.le_refl _) (Nat.le_refl _), by rw [HH.out]; exact In.of (ownsNil _ _) (Nat.le_refl _) (Nat.le_refl _), Nat.le_refl _, Nat.le_refl _, Below.refl _ _⟩

/-- the lists so far -/
def sLo (n : Int) (xs : List Int) (k : Nat) : List Int := fLo n (xs.take k)
def sHi (xs : List Int) (k : Nat) : List Int := fHi (xs.take k)
theorem take_snoc {xs : List Int} {k : Nat} (h : k < xs.length) : xs.take (k + 1) = xs.take k ++ [xs.getD k 0] := by
  rw [List.take_succ_eq_append_getElem h]; simp [List.getD_eq_getElem?_getD, h]
theorem sLo_hit {n : Int} {xs : List Int} {k : Nat} (h : k < xs.length) (hx : xs.getD k 0 < n) : sLo n xs (k + 1) = sLo n xs k ++ [xs.getD k 0] := by
  unfold sLo fLo; rw [take_snoc h, List.filter_append]; generalize xs.getD k 0 = x at *; simp [hx]
theorem sLo_miss {n : Int} {xs : List Int} {k : Nat} (h : k < xs.length) (hx : ¬ xs.getD k 0 < n) : sLo n xs (k + 1) = sLo n xs k := by
  unfold sLo fLo; rw [take_snoc h, List.filter_append]; generalize xs.getD k 0 = x at *; simp [hx]
theorem sHi_hit {xs : List Int} {k : Nat} (h : k < xs.length) (hx : 0 < xs.getD k 0) : sHi xs (k + 1) = sHi xs k ++ [xs.getD k 0 - 1] := by
  unfold sHi fHi; rw [take_snoc h, List.filter_append, List.map_append]; generalize xs.getD k 0 = x at *; simp [hx]
theorem sHi_miss {xs : List Int} {k : Nat} (h : k < xs.length) (hx : ¬ 0 < xs.getD k 0) : sHi xs (k + 1) = sHi xs k := by
  unfold sHi fHi; rw [take_snoc h, List.filter_append, List.map_append]; generalize xs.getD k 0 = x at *; simp [hx]
theorem sLo_len (n : Int) (xs : List Int) (k : Nat) : (sLo n xs k).length ≤ k := by
  have := List.length_filter_le (fun x => decide (x < n)) (xs.take k)
  have h2 := List.length_take_le k xs
  unfold sLo fLo; omega
theorem sHi_len (xs : List Int) (k : Nat) : (sHi xs k).length ≤ k := by
  have := List.length_filter_le (fun x => decide (0 < x)) (xs.take k)
  have h2 := List.length_take_le k xs
  unfold sHi fHi; rw [List.length_map]; omega

/-- two slices in different blocks -/
def Apart (u v : Value) : Prop := ∀ b, u.ownBlock = some b → v.ownBlock ≠ some b
theorem Apart.symm {u v : Value} (h : Apart u v) : Apart v u := fun b e1 e2 => h b e2 e1
theorem Apart.sep {u v : Value} (h : Apart u v) : u.ownBlock = none ∨ u.ownBlock ≠ v.ownBlock := by
  rcases e : u.ownBlock with _ | b
  · exact .inl rfl
  · right; intro e2; exact h b e e2.symm
theorem Apart.grow {u v u' : Value} {H : Nat} (h : Apart u v) (hv : ∀ b, v.ownBlock = some b → b < H) (hu : u'.ownBlock = u.ownBlock ∨ u'.ownBlock = some H) : Apart u' v := by
  intro b e1 e2
  rcases hu with hu | hu
  · exact h b (by rw [← hu]; exact e1) e2
  · have := hv b e2
    rw [hu] at e1
    have : H = b := by simpa using e1
    omega

theorem two_new (w : World) : Owns ((w.alloc (.cells #[] 2)).alloc (.cells #[] 2)) w.heap.size (.slice (some ⟨w.heap.size, 0, none⟩) 0 0) [] ∧
    Owns ((w.alloc (.cells #[] 2)).alloc (.cells #[] 2)) w.heap.size (.slice (some ⟨w.heap.size + 1, 0, none⟩) 0 0) [] ∧ Apart (.slice (some ⟨w.heap.size, 0, none⟩) 0 0) (.slice (some ⟨w.heap.size + 1, 0, none⟩) 0 0) := by
  refine ⟨World.ownsRow.alloc (World.ownsRow_made (base := w.heap.size) (e := 2) (size := 1) w #[] 0 (by simp) (by simp) rfl) _, ?_, ?_⟩
  · have := World.ownsRow_made (base := w.heap.size) (e := 2) (size := 1) (w.alloc (.cells #[] 2)) #[] 0 (by simp) (by simp) rfl
    rw [World.size_alloc] at this
    exact this
  · intro b e1 e2
    simp [Value.ownBlock] at e1 e2
    omega

set_option maxRecDepth 100000 in
set_option maxHeartbeats 4000000 in
theorem sPartsOfNumbers_any (n : Int) (v : Value) (xs : List Int) (w : World) (ha : Reads w v xs) :
    Calls Try.prog 13 #[.int .i64 n, v] w fun e w' => ∃ u0 u1, e = .returned (.tuple #[u0, u1, .int .i64 (ptCode n xs)]) ∧ Owns w' w.heap.size u0 (ptLo n xs) ∧ Owns w' w.heap.size u1 (ptHi n xs) ∧ Below w.heap.size w w' := by
  obtain ⟨i0, hi, hz0, hz1, hz2⟩ := info_parts info64
  have HA := Lib.hid ha
  by_cases h : ptOk n xs
  · have HG : Hid (givCode n xs = 0) := if_pos ⟨⟨by have := h.1; omega, h.1.2⟩, h.2⟩
    have hn1 : (n == 1) = false := by have := h.1; simp; omega
    have HC : Hid (ptCode n xs = 0) := if_pos h
    have HL : Hid (ptLo n xs = fLo n xs) := if_pos h
    have HH : Hid (ptHi n xs = fHi xs) := if_pos h
    have H6 : Hid (xs.length ≤ 62) := by
      have := setL_list h.2 (by have := h.1; omega) h.1.2 (m := 62) (by omega)
      unfold Hid; rw [← this]; exact onesTo_len _ _
    have HB : Hid (∀ k, k < xs.length → 0 ≤ xs.getD k 0 ∧ xs.getD k 0 < 63) := fun k hk => by have := (h.2 k hk).1; have := h.1.2; omega
    have HE : Hid (sLo n xs xs.length = fLo n xs ∧ sHi xs xs.length = fHi xs) := by unfold Hid sLo sHi; rw [List.take_length]; exact ⟨rfl, rfl⟩
    clear h
    obtain ⟨a, ca, rfl, hm, ha'⟩ := ha
    unfold maxLen at hm
    have Ha : Hid (∀ i, i < xs.length → ∃ b off, a = some ⟨b, off, none⟩ ∧ w.cell? ⟨b, off + i, none⟩ = some (.int .i64 (xs.getD i 0))) := by
      rcases ha' with rfl | ⟨b, off, rfl, ha'⟩
      · intro i hi; simp at hi
      · intro i hi; exact ⟨b, off, rfl, ha' i hi⟩
    clear ha'
    have HX : Hid (∀ k, k < xs.length → (sLo n xs k).length ≤ k ∧ (sHi xs k).length ≤ k ∧ sLo n xs (k + 1) = (if xs.getD k 0 < n then sLo n xs k ++ [xs.getD k 0] else sLo n xs k) ∧ sHi xs (k + 1) = (if 0 < xs.getD k 0 then sHi xs k ++ [xs.getD k 0 - 1] else sHi xs k)) := fun k hk => by
      refine ⟨sLo_len n xs k, sHi_len xs k, ?_, ?_⟩
      · split
        · exact sLo_hit hk (by assumption)
        · exact sLo_miss hk (by assumption)
      · split
        · exact sHi_hit hk (by assumption)
        · exact sHi_miss hk (by assumption)
    generalize hnn : xs.length = m at *
    clear hnn
    go_enter Try.func13, Try.ntmps13
    go_wp2_with fail
    refine (givB _ _ _ _ HA.out HG.out).mono ?_
    rintro e w1 ⟨rfl, hb⟩
    obtain ⟨o0, o1, ap0⟩ := two_new w1
    have hz := hb.size
    have hL0 : Below w.heap.size w ((w1.alloc (.cells #[] 2)).alloc (.cells #[] 2)) := (hb.alloc hz _).alloc (by simp; omega) _
    replace o0 := o0.mono hz
    replace o1 := o1.mono hz
    clear hb HA
    go_wp2_with fail
    go_loopw [8, 9, 10] (fun uL uH c wr => ∃ k : Nat, k ≤ m ∧ c = .int .i64 (k : Int) ∧ Below w.heap.size w wr ∧ Owns wr w.heap.size uL (sLo n xs k) ∧ Owns wr w.heap.size uH (sHi xs k) ∧ Apart uL uH)
      (fun _ _ c _ => m - (intOf c).toNat)
    case atStart => exact ⟨0, Nat.zero_le _, rfl, hL0, o0, o1, ap0⟩
    case round =>
      clear o0 o1 ap0 hL0
      obtain ⟨k, hk, rfl, hL, oL, oH, ap⟩ := hrel
      by_cases hlt : k < m
      · obtain ⟨b, off, rfl, hca0⟩ := Ha.out k hlt
        have hca := cell_later hL hca0
        have HCa := Lib.hid hca0
        obtain ⟨x1, x2, x3, x4⟩ := HX.out k hlt
        obtain ⟨y1, y2⟩ := HB.out k hlt
        have HLL := Lib.hid x1
        have HLH := Lib.hid x2
        have HSL := Lib.hid x3
        have HSH := Lib.hid x4
        have hi1 : (k : Int) < (m : Int) := by omega
        have hi0 : (0 : Int) ≤ (k : Int) := by omega
        clear hca0 x1 x2 x3 x4
        generalize xs.getD k 0 = x at *
        have hwx : wrap64 (x - 1) = x - 1 := IntWalk.wrap64_in _ (by omega)
        by_cases c1 : x < n
        · rw [if_pos c1] at HSL
          by_cases c2 : 0 < x
          · rw [if_pos c2] at HSH
            go_wp2_with (first | (at_builtin; refine wpList_append_own_at _ rfl _ _ 22 rfl w.heap.size 2 i0 (.int .i64 0) 1 8 Try.underlying22 hi hz0 hz1 hz2 rfl (by decide) u8 _ _ rfl (World.ownsRow.alloc oL _) ⟨_, 0, none⟩ 1 1 [.int .i64 x] rfl rfl (cell_one_new _ _ _) (by simp [Value.oneCell']) (by have := HLL.out; have := H6.out; unfold maxLen; omega) (by have := HLL.out; have := H6.out; omega) (by have := hL.size; simp; omega) ?_; intro v1 w2 hown1 hgrow1 hnil1 hat1; have gL : Owns w2 w.heap.size v1 (sLo n xs k ++ [x]) := Owns.snoc hown1; have gH : Owns w2 w.heap.size u9 (sHi xs k) := World.ownsRow.kept (World.ownsRow.alloc oH _) hgrow1 ap.symm.sep; have gA : Apart v1 u9 := ap.grow (fun b e => by have := (World.ownsRow.lt (World.ownsRow.alloc oH (.cells #[.int .i64 x] 2)) b e).2; simpa using this) hat1; have gB : Below w.heap.size w w2 := (hL.alloc (by have := hL.size; omega) _).grown hgrow1 (by have := hL.size; simp; omega) (Owns.rowsFrom oL (Nat.le_refl _)); replace hca := cell_later gB HCa.out; clear hown1 hgrow1 hnil1 hat1 oL oH ap hL) | (at_builtin; refine wpList_append_own_at _ rfl _ _ 22 rfl w.heap.size 2 i0 (.int .i64 0) 1 8 Try.underlying22 hi hz0 hz1 hz2 rfl (by decide) u9 _ _ rfl (World.ownsRow.alloc gH _) ⟨_, 0, none⟩ 1 1 [.int .i64 (x - 1)] rfl rfl (cell_one_new _ _ _) (by simp [Value.oneCell']) (by have := HLH.out; have := H6.out; unfold maxLen; omega) (by have := HLH.out; have := H6.out; omega) (by have := gB.size; simp; omega) ?_; intro v2 w3 hown2 hgrow2 hnil2 hat2; have kH : Owns w3 w.heap.size v2 (sHi xs k ++ [x - 1]) := Owns.snoc hown2; have kL := World.ownsRow.kept (World.ownsRow.alloc gL _) hgrow2 gA.sep; have kA := gA.symm.grow (u' := v2) (fun b e => (World.ownsRow.lt (World.ownsRow.alloc gL (.cells #[.int .i64 (x - 1)] 2)) b e).2) hat2; have kB : Below w.heap.size w w3 := (gB.alloc (by have := gB.size; omega) _).grown hgrow2 (by have := gB.size; simp; omega) (Owns.rowsFrom gH (Nat.le_refl _)); clear hown2 hgrow2 hnil2 hat2))
            exact ⟨⟨k + 1, by omega, by go_num, kB, by rw [HSL.out]; exact kL, by rw [HSH.out]; exact kH, kA.symm⟩, by simp [intOf]; omega⟩
          · rw [if_neg c2] at HSH
            go_wp2_with (at_builtin; refine wpList_append_own_at _ rfl _ _ 22 rfl w.heap.size 2 i0 (.int .i64 0) 1 8 Try.underlying22 hi hz0 hz1 hz2 rfl (by decide) u8 _ _ rfl (World.ownsRow.alloc oL _) ⟨_, 0, none⟩ 1 1 [.int .i64 x] rfl rfl (cell_one_new _ _ _) (by simp [Value.oneCell']) (by have := HLL.out; have := H6.out; unfold maxLen; omega) (by have := HLL.out; have := H6.out; omega) (by have := hL.size; simp; omega) ?_; intro v1 w2 hown1 hgrow1 hnil1 hat1; have gL : Owns w2 w.heap.size v1 (sLo n xs k ++ [x]) := Owns.snoc hown1; have gH : Owns w2 w.heap.size u9 (sHi xs k) := World.ownsRow.kept (World.ownsRow.alloc oH _) hgrow1 ap.symm.sep; have gA : Apart v1 u9 := ap.grow (fun b e => by have := (World.ownsRow.lt (World.ownsRow.alloc oH (.cells #[.int .i64 x] 2)) b e).2; simpa using this) hat1; have gB : Below w.heap.size w w2 := (hL.alloc (by have := hL.size; omega) _).grown hgrow1 (by have := hL.size; simp; omega) (Owns.rowsFrom oL (Nat.le_refl _)); replace hca := cell_later gB HCa.out; clear hown1 hgrow1 hnil1 hat1 oL oH ap hL)
            exact ⟨⟨k + 1, by omega, by go_num, gB, by rw [HSL.out]; exact gL, by rw [HSH.out]; exact gH, gA⟩, by simp [intOf]; omega⟩
        · rw [if_neg c1] at HSL
          by_cases c2 : 0 < x
          · rw [if_pos c2] at HSH
            go_wp2_with (at_builtin; refine wpList_append_own_at _ rfl _ _ 22 rfl w.heap.size 2 i0 (.int .i64 0) 1 8 Try.underlying22 hi hz0 hz1 hz2 rfl (by decide) u9 _ _ rfl (World.ownsRow.alloc oH _) ⟨_, 0, none⟩ 1 1 [.int .i64 (x - 1)] rfl rfl (cell_one_new _ _ _) (by simp [Value.oneCell']) (by have := HLH.out; have := H6.out; unfold maxLen; omega) (by have := HLH.out; have := H6.out; omega) (by have := hL.size; simp; omega) ?_; intro v2 w3 hown2 hgrow2 hnil2 hat2; have kH : Owns w3 w.heap.size v2 (sHi xs k ++ [x - 1]) := Owns.snoc hown2; have kL := World.ownsRow.kept (World.ownsRow.alloc oL _) hgrow2 ap.sep; have kA := ap.symm.grow (u' := v2) (fun b e => (World.ownsRow.lt (World.ownsRow.alloc oL (.cells #[.int .i64 (x - 1)] 2)) b e).2) hat2; have kB : Below w.heap.size w w3 := (hL.alloc (by have := hL.size; omega) _).grown hgrow2 (by have := hL.size; simp; omega) (Owns.rowsFrom oH (Nat.le_refl _)); clear hown2 hgrow2 hnil2 hat2)
            exact ⟨⟨k + 1, by omega, by go_num, kB, by rw [HSL.out]; exact kL, by rw [HSH.out]; exact kH, kA.symm⟩, by simp [intOf]; omega⟩
          · rw [if_neg c2] at HSH
            go_wp2_with fail
            exact ⟨⟨k + 1, by omega, by go_num, hL, by rw [HSL.out]; exact oL, by rw [HSH.out]; exact oH, ap⟩, by simp [intOf]; omega⟩
      · have e : k = m := by omega
        rw [e] at oL oH
        have hi1 : ¬ (k : Int) < (m : Int) := by omega
        go_wp2_with fail
        refine bodyPost_ret (v := .tuple #[u8, u9, .int .i64 0]) (by simp [results, Try.results13, go_sem, *]) rfl ?_
        exact ⟨u8, u9, by rw [HC.out], by rw [HL.out, ← HE.out.1]; exact oL, by rw [HH.out, ← HE.out.2]; exact oH, hL⟩
  · have HC : Hid (ptCode n xs = 2) := if_neg h
    have HL : Hid (ptLo n xs = []) := if_neg h
    have HH : Hid (ptHi n xs = []) := if_neg h
    by_cases hg : (1 ≤ n ∧ n ≤ 5) ∧ ascB (n + 1) xs
    · have HG : Hid (givCode n xs = 0) := if_pos hg
      have hn1 : n = 1 := by
        rcases Int.lt_or_le 1 n with h1 | h1
        · exact absurd ⟨⟨by omega, hg.1.2⟩, hg.2⟩ h
        · have := hg.1; omega
      subst hn1
      clear h ha hg
      go_enter Try.func13, Try.ntmps13
      go_wp2_with ((go_at_call 26; (with_reducible refine (givB _ _ _ _ HA.out HG.out).mono ?_); rintro e w' ⟨rfl, hb⟩; have hL := chain (B := w.heap.size) (a := w) (by go_grown) (Nat.le_refl _) hb; clear hb))
      refine bodyPost_ret (v := .tuple #[.slice none 0 0, .slice none 0 0, .int .i64 2]) (by simp [results, Try.results13, go_sem, *]) rfl ?_
      exact ⟨_, _, by rw [HC.out], by rw [HL.out]; exact ownsNil _ _, by rw [HH.out]; exact ownsNil _ _, by go_grown⟩
    · have HG : Hid (givCode n xs = 2) := if_neg hg
      clear h ha hg
      by_cases hn1 : n = 1
      · subst hn1
        go_enter Try.func13, Try.ntmps13
        go_wp2_with ((go_at_call 26; (with_reducible refine (givB _ _ _ _ HA.out HG.out).mono ?_); rintro e w' ⟨rfl, hb⟩; have hL := chain (B := w.heap.size) (a := w) (by go_grown) (Nat.le_refl _) hb; clear hb))
        refine bodyPost_ret (v := .tuple #[.slice none 0 0, .slice none 0 0, .int .i64 2]) (by simp [results, Try.results13, go_sem, *]) rfl ?_
        exact ⟨_, _, by rw [HC.out], by rw [HL.out]; exact ownsNil _ _, by rw [HH.out]; exact ownsNil _ _, by go_grown⟩
      · have hn2 : (n == 1) = false := by simpa using hn1
        clear hn1
        go_enter Try.func13, Try.ntmps13
        go_wp2_with ((go_at_call 26; (with_reducible refine (givB _ _ _ _ HA.out HG.out).mono ?_); rintro e w' ⟨rfl, hb⟩; have hL := chain (B := w.heap.size) (a := w) (by go_grown) (Nat.le_refl _) hb; clear hb))
        refine bodyPost_ret (v := .tuple #[.slice none 0 0, .slice none 0 0, .int .i64 2]) (by simp [results, Try.results13, go_sem, *]) rfl ?_
        exact ⟨_, _, by rw [HC.out], by rw [HL.out]; exact ownsNil _ _, by rw [HH.out]; exact ownsNil _ _, by go_grown⟩

abbrev resPartsOfNumbers_0 (n : Int) (xs : List Int) : List Int := ptLo n xs
abbrev resPartsOfNumbers_1 (n : Int) (xs : List Int) : List Int := ptHi n xs
abbrev resPartsOfNumbers_2 (n : Int) (xs : List Int) : Int := ptCode n xs
theorem ptLen {n : Int} {xs : List Int} (h : ptOk n xs) : xs.length ≤ 62 := by
  have := setL_list h.2 (by have := h.1; omega) h.1.2 (m := 62) (by omega)
  rw [← this]; exact onesTo_len _ _
theorem lenPartsOfNumbers_0 (n : Int) (xs : List Int) : (resPartsOfNumbers_0 n xs).length ≤ 1000 := by
  unfold resPartsOfNumbers_0 ptLo
  split
  · rename_i h
    have := ptLen h
    have := List.length_filter_le (fun x => decide (x < n)) xs
    unfold fLo; omega
  · simp
theorem lenPartsOfNumbers_1 (n : Int) (xs : List Int) : (resPartsOfNumbers_1 n xs).length ≤ 1000 := by
  unfold resPartsOfNumbers_1 ptHi
  split
  · rename_i h
    have := ptLen h
    have := List.length_filter_le (fun x => decide (0 < x)) xs
    unfold fHi; rw [List.length_map]; omega
  · simp

end Go.Proofs.Ytlcfecccpbeofaa
