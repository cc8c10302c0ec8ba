/- Calm codes: the program's and the model's. -/
import Derived.Test.YtnlcnbkookmfaaaNei
import Derived.Test.YtnlcnbkookmfaaaRdF
namespace Go.Proofs.Ytnlcnbkookmfaaa
open Go.RowKit
set_option linter.unusedVariables false

/-- the digits 1 of a number below 16 -/
def pc (d : Nat) : Int := ((dig d 0 + dig d 1 + dig d 2 + dig d 3 : Nat) : Int)
theorem cases16 {D : Nat} (h : D < 16) : D = 0 ∨ D = 1 ∨ D = 2 ∨ D = 3 ∨ D = 4 ∨ D = 5 ∨ D = 6 ∨ D = 7 ∨ D = 8 ∨ D = 9 ∨ D = 10 ∨ D = 11 ∨ D = 12 ∨ D = 13 ∨ D = 14 ∨ D = 15 := by omega
theorem onesCount_any (D : Nat) (w : World) (h : D < 16) :
    Calls Try.prog 112 #[.int .u64 (D : Int)] w fun e w' => e = .returned (.int .i64 (pc D)) ∧ w = w' := by
  rcases cases16 h with rfl | rfl | rfl | rfl | rfl | rfl | rfl | rfl | rfl | rfl | rfl | rfl | rfl | rfl | rfl | rfl <;>
  · go_enter Try.func112, Try.ntmps112
    go_wp2
    go_ret
    exact ⟨by kernel_rfl, rfl⟩
/-- one digit 1 at most -/
def oneD (d : Nat) : Prop := d &&& (d - 1) = 0
instance (d : Nat) : Decidable (oneD d) := by unfold oneD; infer_instance
theorem pc_one : ∀ d, d < 16 → (1 < pc d ↔ ¬ oneD d) := by decide +kernel
theorem pc_zero : ∀ d, d < 16 → (pc d = 0 ↔ d = 0) := by decide +kernel

def codeN (cs : List Int) (a : Nat) : Nat := (cs.getD a 0).toNat
/-- are two of the codes well -/
def pairOk (xss : List (List Int)) (cs : List Int) (a b : Nat) : Prop := codeN cs a ≠ codeN cs b ∧ (Near xss a b → oneD (codeN cs a ^^^ codeN cs b))
/-- are codes calm -/
def Calm (xss : List (List Int)) (cs : List Int) : Prop := ∀ a, a < cs.length → ∀ b, b < a → pairOk xss cs a b
noncomputable def calmB (xss : List (List Int)) (cs : List Int) : Bool := bP (Calm xss cs)
/-- codes of four digits -/
def Cod (cs : List Int) : Prop := ∀ i, i < cs.length → 0 ≤ cs.getD i 0 ∧ cs.getD i 0 < 16
theorem codeN_lt {cs : List Int} (h : Cod cs) {a : Nat} (ha : a < cs.length) : codeN cs a < 16 ∧ cs.getD a 0 = (codeN cs a : Int) := by
  have := h a ha
  unfold codeN; omega
theorem xor_lt16 {x y : Nat} (hx : x < 16) (hy : y < 16) : x ^^^ y < 16 := Nat.xor_lt_two_pow (n := 4) hx hy
theorem xor_zero {x y : Nat} : x ^^^ y = 0 ↔ x = y := by
  constructor
  · intro h
    refine Nat.eq_of_testBit_eq fun j => ?_
    have := congrArg (fun n => n.testBit j) h
    simp only [Nat.testBit_xor, Nat.zero_testBit] at this
    cases h1 : x.testBit j <;> cases h2 : y.testBit j <;> simp_all
  · rintro rfl; exact Nat.xor_self x

set_option maxRecDepth 100000 in
set_option maxHeartbeats 1000000 in
theorem areCalm_any (v vs : Value) (p : Int) (xss yss : List (List Int)) (cs : List Int) (w : World) (ha : ReadsH w v p xss yss) (hs : ReadsF w vs cs) (hb : chaB p xss yss = true) (hl : cs.length = xss.length) (hc : Cod cs) :
    Calls Try.prog 94 #[v, vs] w fun e w' => e = .returned (.bool (calmB xss cs)) ∧ Below w.heap.size w w' := by
  have HN := Lib.hid (fun w' (h : Below w.heap.size w w') => neighbours_any v p xss yss w' (ha.keep h) hb)
  obtain ⟨⟨n1, n8⟩, -, -⟩ := chaB_out hb
  have hl8 : cs.length ≤ 8 := by omega
  have hl1 : 1 ≤ cs.length := by omega
  obtain ⟨⟨sa, sc, rfl, hsm, hs'⟩, hcap⟩ := hs
  have hsc : cs.length ≤ sc := hcap _ _ _ rfl
  have HT : Hid (Calm xss cs → calmB xss cs = true) := fun h => bP_yes h
  have HF : Hid (∀ a b, a < cs.length → b < a → ¬ pairOk xss cs a b → calmB xss cs = false) := fun a b h1 h2 h3 => bP_no fun h => h3 (h a h1 b h2)
  have HCD := Lib.hid (fun a (h : a < cs.length) => codeN_lt hc h)
  obtain ⟨cb, co, rfl, hcell⟩ : ∃ cb co, sa = some ⟨cb, co, none⟩ ∧ ∀ i, i < cs.length → w.cell? ⟨cb, co + i, none⟩ = some (.int .i64 (cs.getD i 0)) := by
    rcases hs' with rfl | ⟨b, o, rfl, h⟩
    · simp at hl1
    · exact ⟨b, o, rfl, h⟩
  have HCell : Hid (∀ i, i < cs.length → w.cell? ⟨cb, co + i, none⟩ = some (.int .i64 (codeN cs i : Int))) := fun i hi => by rw [hcell i hi, (HCD.out i hi).2]
  obtain ⟨a, ca, b', cb', rfl, _, _⟩ := ha
  have h0 := C3.here w (.int .i64 p) (.slice a xss.length ca) (.slice b' yss.length cb') 27
  unfold arrV at HN
  have HCM : Hid (Calm xss cs ↔ ∀ a, a < cs.length → ∀ b, b < a → pairOk xss cs a b) := Iff.rfl
  have HNB := Lib.hid (fun i => matZ_bd (Near xss) i)
  have HDG : Hid (∀ i j : Nat, j < 8 → digZ (matZ (Near xss) i) (j : Int) = ((bP (Near xss i j)).toNat : Int)) := fun i j hj => by
    unfold digZ matZ
    rw [Int.toNat_natCast, Int.toNat_natCast, rowN_dig _ hj]
  clear hb hl hc hs' hcap hcell
  have HEN : Hid (arrC (matZ (Near xss)) = #[.int .i64 (matZ (Near xss) 0), .int .i64 (matZ (Near xss) 1), .int .i64 (matZ (Near xss) 2), .int .i64 (matZ (Near xss) 3), .int .i64 (matZ (Near xss) 4), .int .i64 (matZ (Near xss) 5), .int .i64 (matZ (Near xss) 6), .int .i64 (matZ (Near xss) 7)]) := rfl
  generalize calmB xss cs = bR at *
  generalize hn : cs.length = n at *
  generalize xss.length = nx at *
  generalize yss.length = m at *
  go_enter Try.func94, Try.ntmps94
  go_wp2_with fail
  refine (HN.out _ (by go_grown)).mono ?_
  rintro e w1 ⟨rfl, hb⟩
  have hL := chain (B := w.heap.size) (a := w) (by go_grown) (Nat.le_refl _) hb
  have h0' := keepAt3 hb h0
  have a1 := Arr8.here w1 (matZ (Near xss)) 67
  rw [HEN.out] at a1
  have hL2 : Hid (Below w.heap.size w (w1.alloc (.cells #[.int .i64 (matZ (Near xss) 0), .int .i64 (matZ (Near xss) 1), .int .i64 (matZ (Near xss) 2), .int .i64 (matZ (Near xss) 3), .int .i64 (matZ (Near xss) 4), .int .i64 (matZ (Near xss) 5), .int .i64 (matZ (Near xss) 6), .int .i64 (matZ (Near xss) 7)] 67))) := by unfold Hid; go_grown
  have HC2 : Hid (∀ i, i < n → (w1.alloc (.cells #[.int .i64 (matZ (Near xss) 0), .int .i64 (matZ (Near xss) 1), .int .i64 (matZ (Near xss) 2), .int .i64 (matZ (Near xss) 3), .int .i64 (matZ (Near xss) 4), .int .i64 (matZ (Near xss) 5), .int .i64 (matZ (Near xss) 6), .int .i64 (matZ (Near xss) 7)] 67)).cell? ⟨cb, co + i, none⟩ = some (.int .i64 (codeN cs i : Int))) := fun i hi => cell_later hL2.out (HCell.out i hi)
  replace a1 := Lib.hid a1
  clear hb hL h0 h0'
  go_wp2_with fail
  generalize w1.alloc (.cells #[.int .i64 (matZ (Near xss) 0), .int .i64 (matZ (Near xss) 1), .int .i64 (matZ (Near xss) 2), .int .i64 (matZ (Near xss) 3), .int .i64 (matZ (Near xss) 4), .int .i64 (matZ (Near xss) 5), .int .i64 (matZ (Near xss) 6), .int .i64 (matZ (Near xss) 7)] 67) = W2 at *
  clear HEN HN HCell
  go_loop [15] (fun c => ∃ k : Nat, k ≤ n ∧ c = .int .i64 (k : Int) ∧ Hid (∀ a, a < k → ∀ b, b < a → pairOk xss cs a b)) (fun c => n - (intOf c).toNat)
  case atStart => exact ⟨0, Nat.zero_le _, rfl, fun a h => by omega⟩
  case round =>
    obtain ⟨k, hk, rfl, hP⟩ := hrel
    by_cases hkl : k < n
    · have hck := HC2.out k hkl
      have hk1 : (k : Int) < (n : Int) := by omega
      have hk0 : (0 : Int) ≤ (k : Int) := by omega
      have hksc : (k : Int) ≤ (sc : Int) := by omega
      have hX16 := (HCD.out k hkl).1
      have hkn := (a1.out.1 k (by omega)).1
      have HDGk := Lib.hid (fun j (hj : j < 8) => HDG.out k j hj)
      have HNBk := HNB.out k
      obtain ⟨NK, hNK⟩ : ∃ NK, matZ (Near xss) k = NK := ⟨_, rfl⟩
      rw [hNK] at hkn HDGk HNBk
      clear hNK
      go_wp2_with fail
      go_loop [24] (fun c => ∃ j : Nat, j ≤ k ∧ c = .int .i64 (j : Int) ∧ Hid (∀ b, b < j → pairOk xss cs k b)) (fun c => k - (intOf c).toNat)
      case atStart => exact ⟨0, Nat.zero_le _, rfl, fun b h => by omega⟩
      case round =>
        obtain ⟨j, hj, rfl, hQ⟩ := hrel
        by_cases hjl : j < k
        · have hcj := HC2.out j (by omega)
          have hj1 : (j : Int) < (k : Int) := by omega
          have hj0 : (0 : Int) ≤ (j : Int) := by omega
          have hY16 := (HCD.out j (by omega)).1
          have HXR : Hid (bits .xor .i64 (codeN cs k : Int) (codeN cs j : Int) = ((codeN cs k ^^^ codeN cs j : Nat) : Int)) := i64_xor _ _ (by omega) (by omega)
          have hD16 := xor_lt16 hX16 hY16
          have HPK : Hid (pairOk xss cs k j ↔ codeN cs k ^^^ codeN cs j ≠ 0 ∧ (Near xss k j → oneD (codeN cs k ^^^ codeN cs j))) := by
            unfold Hid pairOk; rw [Ne, Ne, xor_zero]
          have hF := Lib.hid (HF.out k j hkl hjl)
          have HDGj := HDGk.out j (by omega)
          have h1 := pc_one _ hD16
          have h2 := pc_zero _ hD16
          have HOC := Lib.hid (fun w => onesCount_any _ w hD16)
          have HDA := Lib.hid (fun w => digitAt_any NK (j : Int) w (by omega) (by omega) hj0 (by omega))
          rw [HDGj] at HDA
          have hxr := HXR.out
          generalize codeN cs k = X at *
          generalize codeN cs j = Y at *
          generalize X ^^^ Y = D at *
          have hcv : IntKind.u64.wrap (D : Int) = (D : Int) := IntWalk.u64_in _ (by omega)
          have hD : 0 ≤ pc D := by unfold pc; omega
          generalize pc D = P at *
          clear HDGj HXR
          by_cases hz : D = 0
          · have hp : P = 0 := h2.2 hz
            have HB := Lib.hid (hF.out fun h => (HPK.out.1 h).1 hz)
            subst hp
            clear h1 h2 hz
            go_wp2_with ((go_at_call 112; (with_reducible refine (HOC.out _).mono ?_); rintro e w' ⟨rfl, rfl⟩))
            go_ret
            exact ⟨by rw [HB.out]; rfl, hL2.out⟩
          · have hpz : ¬ P = 0 := fun h => hz (h2.1 h)
            have hd0 : (P == 0) = false := by simp [hpz]
            by_cases ho : 1 < P
            · have hno := h1.1 ho
              cases hnr : bP (Near xss k j)
              · have hn' := bP_out hnr
                have HOK : Hid (∀ b, b < j + 1 → pairOk xss cs k b) := fun b hb => by
                  rcases Nat.lt_or_ge b j with h | h
                  · exact hQ.out b h
                  · have e : b = j := by omega
                    subst e
                    exact HPK.out.2 ⟨hz, fun h => absurd h hn'⟩
                rw [hnr] at HDA
                clear h1 h2 hnr hn' hno hz
                go_wp2_with (first | (go_at_call 112; (with_reducible refine (HOC.out _).mono ?_); rintro e w' ⟨rfl, rfl⟩) | (go_at_call 66; (with_reducible refine (HDA.out _).mono ?_); rintro e w' ⟨rfl, rfl⟩))
                go_round
                case rel => exact ⟨j + 1, by omega, by go_num, HOK⟩
                case measure => simp [intOf]; omega
              · have hn' := bP_iff.1 hnr
                have HB := Lib.hid (hF.out fun h => hno ((HPK.out.1 h).2 hn'))
                rw [hnr] at HDA
                clear h1 h2 hnr hn' hno hz
                go_wp2_with (first | (go_at_call 112; (with_reducible refine (HOC.out _).mono ?_); rintro e w' ⟨rfl, rfl⟩) | (go_at_call 66; (with_reducible refine (HDA.out _).mono ?_); rintro e w' ⟨rfl, rfl⟩))
                go_ret
                exact ⟨by rw [HB.out]; rfl, hL2.out⟩
            · have HOK : Hid (∀ b, b < j + 1 → pairOk xss cs k b) := fun b hb => by
                rcases Nat.lt_or_ge b j with h | h
                · exact hQ.out b h
                · have e : b = j := by omega
                  subst e
                  exact HPK.out.2 ⟨hz, fun _ => Classical.byContradiction fun h => ho (h1.2 h)⟩
              clear h1 h2 hz
              go_wp2_with ((go_at_call 112; (with_reducible refine (HOC.out _).mono ?_); rintro e w' ⟨rfl, rfl⟩))
              go_round
              case rel => exact ⟨j + 1, by omega, by go_num, HOK⟩
              case measure => simp [intOf]; omega
        · have e : j = k := by omega
          have hjn : ¬ (j : Int) < (k : Int) := by omega
          have HOK : Hid (∀ a, a < k + 1 → ∀ b, b < a → pairOk xss cs a b) := fun a ha b hb => by
            rcases Nat.lt_or_ge a k with h | h
            · exact hP.out a h b hb
            · have e2 : a = k := by omega
              subst e2
              exact hQ.out b (by omega)
          clear e
          go_wp2_with fail
          go_round
          case rel => exact ⟨k + 1, by omega, by go_num, HOK⟩
          case measure => simp [intOf]; omega
    · have e : k = n := by omega
      have hkn : ¬ (k : Int) < (n : Int) := by omega
      have HB := Lib.hid (HT.out (HCM.out.2 (by rw [← e]; exact hP.out)))
      clear e
      go_wp2_with fail
      go_ret
      exact ⟨by rw [HB.out]; rfl, hL2.out⟩

theorem and_dec : ∀ d : Nat, d < 16 → bits .and .i64 (d : Int) ((d : Int) - 1) = ((d &&& (d - 1) : Nat) : Int) := by decide +kernel
theorem near_iff {p : Int} {xss yss : List (List Int)} (hb : chaB p xss yss = true) {a b : Nat} (ha : a < xss.length) (hb' : b < xss.length) :
    Near xss a b ↔ ∃ c : Nat, (c : Int) < p ∧ (plZ xss a c = (b : Int) ∨ plZ xss b c = (a : Int)) := by
  constructor
  · rintro ⟨r, c, h1, h2, h3⟩
    have := (row_len hb h1).1
    refine ⟨c, by omega, ?_⟩
    rcases h3 with ⟨rfl, h⟩ | ⟨rfl, h⟩
    · exact .inl h
    · exact .inr h
  · rintro ⟨c, h1, h | h⟩
    · exact ⟨a, c, ha, by have := (row_len hb ha).1; omega, .inl ⟨rfl, h⟩⟩
    · exact ⟨b, c, hb', by have := (row_len hb hb').1; omega, .inr ⟨rfl, h⟩⟩

set_option maxRecDepth 100000 in
set_option maxHeartbeats 1000000 in
theorem l07Calm_any (v vs : Value) (p : Int) (xss yss : List (List Int)) (cs : List Int) (w : World) (ha : ReadsH w v p xss yss) (hs : Reads w vs cs) (hb : chaB p xss yss = true) (hl : cs.length ≤ xss.length) (hc : Cod cs) :
    Calls Try.prog 92 #[v, vs] w fun e w' => e = .returned (.bool (calmB xss cs)) ∧ Below w.heap.size w w' := by
  obtain ⟨⟨n1, n8⟩, ⟨p1, p4⟩, -⟩ := chaB_out hb
  have hl8 : cs.length ≤ 8 := by omega
  have HT : Hid (Calm xss cs → calmB xss cs = true) := fun h => bP_yes h
  have HF : Hid (∀ a b, a < cs.length → b < a → ¬ pairOk xss cs a b → calmB xss cs = false) := fun a b h1 h2 h3 => bP_no fun h => h3 (h a h1 b h2)
  have HCD := Lib.hid (fun a (h : a < cs.length) => codeN_lt hc h)
  have HNI := Lib.hid (fun (a b : Nat) (h : a < xss.length) (h' : b < xss.length) => near_iff hb h h')
  have HLN := Lib.hid (fun r (hr : r < xss.length) => (row_len hb hr).1)
  have HCell : Hid (∀ i, i < cs.length → ∃ cb co ca, vs = .slice (some ⟨cb, co, none⟩) cs.length ca ∧ w.cell? ⟨cb, co + i, none⟩ = some (.int .i64 (codeN cs i : Int))) := by
    intro i hi
    obtain ⟨a, ca, rfl, hm, h⟩ := hs
    have h2 : Reads w (.slice a cs.length ca) cs := ⟨a, ca, rfl, hm, h⟩
    obtain ⟨b, off, rfl, hx⟩ := h2.cellR hi
    exact ⟨b, off, ca, rfl, by rw [hx, (HCD.out i hi).2]⟩
  obtain ⟨sa, sc, rfl, hsm, _⟩ := hs
  obtain ⟨a, ca, b', cb', rfl, h1, _⟩ := ha
  have h0 := C3.here w (.int .i64 p) (.slice a xss.length ca) (.slice b' yss.length cb') 27
  obtain ⟨M, rfl⟩ : ∃ M : Nat, p = (M : Int) := ⟨p.toNat, by omega⟩
  have HP : Hid (∀ r c, r < xss.length → c < M → ∃ b off ub uo ul uc, a = some ⟨b, off, none⟩ ∧ w.cell? ⟨b, off + r, none⟩ = some (.slice (some ⟨ub, uo, none⟩) ul uc) ∧ (c : Int) < (ul : Int) ∧ w.cell? ⟨ub, uo + c, none⟩ = some (.int .i64 (plZ xss r c))) := fun r c hr hc => by
    have e := HLN.out r hr
    obtain ⟨b, off, ub, uo, uc, h1', h2', h3'⟩ := h1.place hr (c := c) (by omega)
    exact ⟨b, off, ub, uo, _, uc, h1', h2', by omega, h3'⟩
  have HCM : Hid (Calm xss cs ↔ ∀ a, a < cs.length → ∀ b, b < a → pairOk xss cs a b) := Iff.rfl
  have hM4 : M ≤ 4 := by omega
  clear hb hc h1 hsm p1 p4
  generalize calmB xss cs = bR at *
  generalize hn : cs.length = n at *
  generalize hnx : xss.length = nx at *
  generalize yss.length = m at *
  clear hn hnx
  go_enter Try.func92, Try.ntmps92
  go_wp2_with fail
  go_loopw [5] (fun c wr => ∃ k : Nat, k ≤ n ∧ c = .int .i64 (k : Int) ∧ Below w.heap.size w wr ∧ C3 wr w.heap.size (.int .i64 (M : Int)) (.slice a nx ca) (.slice b' m cb') ∧ Hid (∀ a, a < k → ∀ b, b < a → pairOk xss cs a b)) (fun c _ => n - (intOf c).toNat)
  case atStart => exact ⟨0, Nat.zero_le _, rfl, by go_grown, h0, fun a h => by omega⟩
  case round =>
    clear h0
    obtain ⟨k, hk, rfl, hL, h0, hP⟩ := hrel
    by_cases hkl : k < n
    · have hk1 : (k : Int) < (n : Int) := by omega
      have hk0 : (0 : Int) ≤ (k : Int) := by omega
      have hX16 := (HCD.out k hkl).1
      go_wp2_with fail
      go_loopw [6] (fun c wr => ∃ j : Nat, j ≤ k ∧ c = .int .i64 (j : Int) ∧ Below w.heap.size w wr ∧ C3 wr w.heap.size (.int .i64 (M : Int)) (.slice a nx ca) (.slice b' m cb') ∧ Hid (∀ b, b < j → pairOk xss cs k b)) (fun c _ => k - (intOf c).toNat)
      case atStart => exact ⟨0, Nat.zero_le _, rfl, hL, h0, fun b h => by omega⟩
      case round =>
        clear h0 hL
        obtain ⟨j, hj, rfl, hL, h0, hQ⟩ := hrel
        by_cases hjl : j < k
        · obtain ⟨cb, co, sc', e1, hck0⟩ := HCell.out k hkl
          obtain ⟨cb2, co2, sc2, e2, hcj0⟩ := HCell.out j (by omega)
          simp only [Value.slice.injEq, true_and] at e1 e2
          obtain ⟨rfl, rfl⟩ := e1
          simp only [Option.some.injEq, Addr.mk.injEq, and_true] at e2
          obtain ⟨⟨rfl, rfl⟩, rfl⟩ := e2
          have hck := cell_later hL hck0
          have hcj := cell_later hL hcj0
          have HCK := Lib.hid hck0
          have HCJ := Lib.hid hcj0
          have hj1 : (j : Int) < (k : Int) := by omega
          have hjn1 : (j : Int) < (n : Int) := by omega
          have hj0 : (0 : Int) ≤ (j : Int) := by omega
          have hY16 := (HCD.out j (by omega)).1
          have HXR : Hid (bits .xor .i64 (codeN cs k : Int) (codeN cs j : Int) = ((codeN cs k ^^^ codeN cs j : Nat) : Int)) := i64_xor _ _ (by omega) (by omega)
          have hD16 := xor_lt16 hX16 hY16
          have HPK : Hid (pairOk xss cs k j ↔ codeN cs k ≠ codeN cs j ∧ (Near xss k j → oneD (codeN cs k ^^^ codeN cs j))) := Iff.rfl
          have hF := Lib.hid (HF.out k j hkl hjl)
          have HAN := Lib.hid (and_dec _ hD16)
          have HNIk := Lib.hid (HNI.out k j (by omega) (by omega))
          generalize codeN cs k = X at *
          generalize codeN cs j = Y at *
          clear hck0 hcj0
          by_cases hz : X = Y
          · have hd : ((X : Int) == (Y : Int)) = true := by simp [hz]
            have HB := Lib.hid (hF.out fun h => (HPK.out.1 h).1 hz)
            clear hz
            go_wp2_with fail
            go_quiet (fail)
            go_wp2_with fail
            go_ret
            exact ⟨by rw [HB.out]; rfl, by first | exact Bdrew hL _ | go_grown⟩
          · have hd : ((X : Int) == (Y : Int)) = false := by simp; omega
            have HPK2 : Hid (pairOk xss cs k j ↔ (Near xss k j → oneD (X ^^^ Y))) := ⟨fun h => (HPK.out.1 h).2, fun h => HPK.out.2 ⟨hz, h⟩⟩
            have hxr := HXR.out
            generalize X ^^^ Y = D at *
            have hw1 : IntKind.i64.wrap ((D : Int) - 1) = (D : Int) - 1 := IntWalk.i64_in _ (by omega)
            have han := HAN.out
            clear hz HXR HPK
            obtain ⟨E, hE⟩ : ∃ E, D &&& (D - 1) = E := ⟨_, rfl⟩
            have HOD : Hid (oneD D ↔ E = 0) := by rw [← hE]; exact Iff.rfl
            rw [hE] at han
            clear hE HAN
            go_wp2_with fail
            go_quiet (fail)
            go_wp2_with fail
            go_loopw [7] (fun c wr => ∃ i : Nat, i ≤ M ∧ c = .int .i64 (i : Int) ∧ Below w.heap.size w wr ∧ C3 wr w.heap.size (.int .i64 (M : Int)) (.slice a nx ca) (.slice b' m cb') ∧ Hid (∀ i', i' < i → (plZ xss k i' = (j : Int) ∨ plZ xss j i' = (k : Int)) → oneD D)) (fun c _ => M - (intOf c).toNat)
            case atStart => exact ⟨0, Nat.zero_le _, rfl, by first | exact Bdrew hL _ | go_grown, C3.drewUN h0 _, fun b h => by omega⟩
            case round =>
              clear h0 hL hck hcj
              obtain ⟨i, hi, rfl, hL, h0, hS⟩ := hrel
              by_cases hil : i < M
              · have hck := cell_later hL HCK.out
                have hcj := cell_later hL HCJ.out
                obtain ⟨ab, ao, ub, uo, ul, uc, rfl, hx, hul, hy⟩ := HP.out k i (by omega) hil
                obtain ⟨ab2, ao2, vb, vo, vl, vc, e3, hx2, hvl, hy2⟩ := HP.out j i (by omega) hil
                simp only [Option.some.injEq, Addr.mk.injEq, and_true] at e3
                obtain ⟨rfl, rfl⟩ := e3
                have d1 := cell_later hL hx
                have d2 := cell_later hL hy
                have d3 := cell_later hL hx2
                have d4 := cell_later hL hy2
                have hi1 : (i : Int) < (M : Int) := by omega
                have hi0 : (0 : Int) ≤ (i : Int) := by omega
                have hknx : (k : Int) < (nx : Int) := by omega
                have hjnx : (j : Int) < (nx : Int) := by omega
                have HNE : Hid ((plZ xss k i = (j : Int) ∨ plZ xss j i = (k : Int)) → Near xss k j) := fun h => HNIk.out.2 ⟨i, hi1, h⟩
                have HNX : Hid (((plZ xss k i = (j : Int) ∨ plZ xss j i = (k : Int)) → oneD D) → ∀ i', i' < i + 1 → (plZ xss k i' = (j : Int) ∨ plZ xss j i' = (k : Int)) → oneD D) := fun h i' hi' => by
                  rcases Nat.lt_or_ge i' i with h2 | h2
                  · exact hS.out i' h2
                  · have e : i' = i := by omega
                    subst e; exact h
                clear hx hy hx2 hy2
                generalize plZ xss k i = s at *
                generalize plZ xss j i = t at *
                by_cases hst : s = (j : Int) ∨ t = (k : Int)
                · have hn' := HNE.out hst
                  by_cases hE0 : E = 0
                  · have hO := Lib.hid (HNX.out fun _ => HOD.out.2 hE0)
                    have hd2 : (((E : Nat) : Int) != 0) = false := by simp [hE0]
                    rcases hst with h | h
                    · have hd3 : (s == (j : Int)) = true := by simp [h]
                      clear h hE0 hn'
                      go_wp2_with fail
                      go_quiet (fail)
                      go_wp2_with fail
                      go_roundw
                      case rel => exact ⟨i + 1, by omega, by go_num, Bdrew hL _, C3.drewUN h0 _, hO⟩
                      case measure => simp [intOf]; omega
                    · by_cases hs' : s = (j : Int)
                      · have hd3 : (s == (j : Int)) = true := by simp [hs']
                        clear h hE0 hn' hs'
                        go_wp2_with fail
                        go_quiet (fail)
                        go_wp2_with fail
                        go_roundw
                        case rel => exact ⟨i + 1, by omega, by go_num, Bdrew hL _, C3.drewUN h0 _, hO⟩
                        case measure => simp [intOf]; omega
                      · have hd3 : (s == (j : Int)) = false := by simp [hs']
                        have hd4 : (t == (k : Int)) = true := by simp [h]
                        clear h hE0 hn' hs'
                        go_wp2_with fail
                        go_quiet (fail)
                        go_wp2_with fail
                        go_roundw
                        case rel => exact ⟨i + 1, by omega, by go_num, Bdrew hL _, C3.drewUN h0 _, hO⟩
                        case measure => simp [intOf]; omega
                  · have HB := Lib.hid (hF.out fun h => hE0 (HOD.out.1 (HPK2.out.1 h hn')))
                    have hd2 : (((E : Nat) : Int) != 0) = true := by simp; omega
                    by_cases hs' : s = (j : Int)
                    · have hd3 : (s == (j : Int)) = true := by simp [hs']
                      clear hst hE0 hn' hs'
                      go_wp2_with fail
                      go_quiet (fail)
                      go_wp2_with fail
                      go_ret
                      exact ⟨by rw [HB.out]; rfl, by first | exact Bdrew hL _ | go_grown⟩
                    · have hd3 : (s == (j : Int)) = false := by simp [hs']
                      have ht : t = (k : Int) := hst.elim (fun h => absurd h hs') id
                      have hd4 : (t == (k : Int)) = true := by simp [ht]
                      clear hst hE0 hn' hs' ht
                      go_wp2_with fail
                      go_quiet (fail)
                      go_wp2_with fail
                      go_ret
                      exact ⟨by rw [HB.out]; rfl, by first | exact Bdrew hL _ | go_grown⟩
                · have hO := Lib.hid (HNX.out fun h => absurd h hst)
                  have hd3 : (s == (j : Int)) = false := by simp; exact fun h => hst (.inl h)
                  have hd4 : (t == (k : Int)) = false := by simp; exact fun h => hst (.inr h)
                  clear hst
                  go_wp2_with fail
                  go_quiet (fail)
                  go_wp2_with fail
                  go_roundw
                  case rel => exact ⟨i + 1, by omega, by go_num, Bdrew hL _, C3.drewUN h0 _, hO⟩
                  case measure => simp [intOf]; omega
              · have e : i = M := by omega
                have hin : ¬ (i : Int) < (M : Int) := by omega
                have HOK : Hid (∀ b, b < j + 1 → pairOk xss cs k b) := fun b hb => by
                  rcases Nat.lt_or_ge b j with h | h
                  · exact hQ.out b h
                  · have e2 : b = j := by omega
                    subst e2
                    refine HPK2.out.2 fun h => ?_
                    obtain ⟨c, h1, h2⟩ := HNIk.out.1 h
                    exact hS.out c (by omega) h2
                clear e
                go_wp2_with fail
                go_roundw
                case rel => exact ⟨j + 1, by omega, by go_num, hL, h0, HOK⟩
                case measure => simp [intOf]; omega
        · have e : j = k := by omega
          have hjn : ¬ (j : Int) < (k : Int) := by omega
          have HOK : Hid (∀ a, a < k + 1 → ∀ b, b < a → pairOk xss cs a b) := fun a ha b hb => by
            rcases Nat.lt_or_ge a k with h | h
            · exact hP.out a h b hb
            · have e2 : a = k := by omega
              subst e2
              exact hQ.out b (by omega)
          clear e
          go_wp2_with fail
          go_roundw
          case rel => exact ⟨k + 1, by omega, by go_num, hL, h0, HOK⟩
          case measure => simp [intOf]; omega
    · have e : k = n := by omega
      have hkn : ¬ (k : Int) < (n : Int) := by omega
      have HB := Lib.hid (HT.out (HCM.out.2 (by rw [← e]; exact hP.out)))
      clear e
      go_wp2_with fail
      go_ret
      exact ⟨by rw [HB.out]; rfl, hL⟩

end Go.Proofs.Ytnlcnbkookmfaaa
