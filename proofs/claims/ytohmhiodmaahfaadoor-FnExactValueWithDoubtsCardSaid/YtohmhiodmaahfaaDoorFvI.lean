/- The value of a formula in a row: the program's. -/
import Derived.Test.YtohmhiodmaahfaaDoorFvM
import Derived.Test.YtohmhiodmaahfaaDoorFmI
import Derived.Test.YtohmhiodmaahfaaDoorRfM
import Derived.Test.YtohmhiodmaahfaaDoorFvL
namespace Go.Proofs.YtohmhiodmaahfaaDoor
open Go.RowKit
set_option linter.unusedVariables false

def b2i (b : Bool) : Int := if b then 1 else 0
theorem b2i_and (a b : Bool) : bits .and .i64 (b2i a) (b2i b) = b2i (a && b) := by cases a <;> cases b <;> decide +kernel
theorem b2i_or (a b : Bool) : bits .or .i64 (b2i a) (b2i b) = b2i (a || b) := by cases a <;> cases b <;> decide +kernel
theorem b2i_xor {x k : Int} (hx : 0 ≤ x ∧ x ≤ 1) (hk : 0 ≤ k ∧ k ≤ 1) : bits .xor .i64 x k = b2i (x != k) := by
  have e1 : x = 0 ∨ x = 1 := by omega
  have e2 : k = 0 ∨ k = 1 := by omega
  rcases e1 with rfl | rfl <;> rcases e2 with rfl | rfl <;> decide +kernel

/-- the member k of a row of formulas in memory -/
theorem Hold.member {w : World} {B n cap : Nat} {a : Option Addr} {ts : List Fm} {bs : List Nat} (h : Hold w B (.slice a n cap) ts bs) {k : Nat} (hk : k < ts.length) :
    ∃ g u, a = some ⟨g, 0, none⟩ ∧ w.cell? ⟨g, k * 2, none⟩ = some (.int .u8 (ts.getD k noF).sign) ∧ w.cell? ⟨g, k * 2 + 1, none⟩ = some u ∧ ∃ bs', Hold w B u (ts.getD k noF).members bs' := by
  obtain ⟨V, hr, _, hm⟩ := h.row
  obtain ⟨bs', hb, _⟩ := hm k hk
  rcases hr.2 with ⟨hn, h0⟩ | ⟨g, cap', cur, e, _⟩
  · omega
  · injection e with e1 e2 e3
    subst e1 e2 e3
    have hc := cellsF_get (V := V) hk
    refine ⟨g, V k, rfl, ?_, ?_, bs', hb⟩
    · rw [hr.cellAt _ (by omega), Nat.mul_comm]; exact hc.1
    · rw [hr.cellAt _ (by omega), Nat.mul_comm]; exact hc.2

set_option maxRecDepth 100000 in
set_option maxHeartbeats 2000000 in
theorem formulaValue_any (m b : Int) (hm0 : 0 ≤ m) (hm1 : m ≤ 31) (hb0 : 0 ≤ b) (hb1 : b ≤ 31) : ∀ (N : Nat) (t : Fm) (w : World) (B : Nat) (v : Value) (bs : List Nat), wfF t → (txtF t).length ≤ N → (txtF t).length ≤ 1048576 → Hold w B v t.members bs →
    Calls Tryd.prog 68 #[.agg #[.int .u8 t.sign, v], .int .i64 m, .int .i64 b] w fun e w' => e = .returned (.int .i64 (b2i (valF (leafW (digZ m) (digZ b)) t))) ∧ Below w.heap.size w w' := by
  intro N
  induction N with
  | zero => intro t w B v bs _ h; have := txtF_pos t; omega
  | succ N ih =>
    intro t w B v bs hw hN hz hh
    obtain ⟨c, ms⟩ := t
    simp only [Fm.sign, Fm.members] at hh ⊢
    obtain ⟨va, vc, rfl⟩ := hh.form
    have k0 := C2.here w (.int .u8 c) (.slice va ms.length vc) 50
    cases ho : openC c
    · obtain ⟨hl, rfl, _, _⟩ := txtS_leaf hw ho
      have HV : Hid (valF (leafW (digZ m) (digZ b)) (.mk c []) = leafW (digZ m) (digZ b) c) := by
        unfold Hid valF
        have := of_decide_eq_false (show decide (c = 40 ∨ c = 91) = false from ho)
        rw [if_neg (by omega), if_neg (by omega)]
      cases hlt : letC c
      · have HC : c = 48 ∨ c = 49 := by
          have := leafC_eq c
          rw [hl, hlt] at this
          simp at this
          exact this
        clear hl hlt ho hw hN hz ih hh
        rcases HC with rfl | rfl
        · go_enter Tryd.func68, Tryd.ntmps68
          go_wp2_with fail
          go_ret
          exact ⟨by rw [HV.out]; rfl, by go_grown⟩
        · go_enter Tryd.func68, Tryd.ntmps68
          go_wp2_with fail
          go_ret
          exact ⟨by rw [HV.out]; rfl, by go_grown⟩
      · obtain ⟨i, hi⟩ : ∃ i, inpC c = i := ⟨_, rfl⟩
        obtain ⟨k, hk⟩ : ∃ k, kndC c = k := ⟨_, rfl⟩
        have HL := Lib.hid (leafW_dig (m := m) (b := b) hlt hi hk)
        have hbd := of_decide_eq_true (show decide ((97 ≤ c ∧ c ≤ 101) ∨ (65 ≤ c ∧ c ≤ 69)) = true from hlt)
        have hib := (letC_iff (c := c) (by omega)).1 hlt
        rw [hi] at hib
        have hkb : 0 ≤ k ∧ k ≤ 1 := by rw [← hk]; unfold kndC; split <;> omega
        have HI := Lib.hid (fun w => inputAndKind_any c w (by omega) (by omega) hi hk)
        have HX := Lib.hid (b2i_xor (digZ_bd (if k = 0 then m else b) i) hkb)
        have e48 : (c == 48) = false := by simp; omega
        have e49 : (c == 49) = false := by simp; omega
        have e40 : (c == 40) = false := by simp; omega
        have e91 : (c == 91) = false := by simp; omega
        obtain ⟨hi0, hi5⟩ := hib
        clear hl hlt ho hw hN hz ih hh hi hk hbd
        rcases (show k = 0 ∨ k = 1 by omega) with rfl | rfl
        · go_enter Tryd.func68, Tryd.ntmps68
          go_wp2_with (first | (go_at_call 83; (with_reducible refine (HI.out _).mono ?_); rintro e w' ⟨rfl, rfl⟩) | (go_at_call 72; (with_reducible refine (digitAt_any _ _ _ hm0 (by omega) hi0 (by omega)).mono ?_); rintro e w' ⟨rfl, rfl⟩))
          go_ret
          exact ⟨by rw [HV.out, HL.out, ← HX.out]; rfl, by go_grown⟩
        · go_enter Tryd.func68, Tryd.ntmps68
          go_wp2_with (first | (go_at_call 83; (with_reducible refine (HI.out _).mono ?_); rintro e w' ⟨rfl, rfl⟩) | (go_at_call 72; (with_reducible refine (digitAt_any _ _ _ hb0 (by omega) hi0 (by omega)).mono ?_); rintro e w' ⟨rfl, rfl⟩))
          go_ret
          exact ⟨by rw [HV.out, HL.out, ← HX.out]; rfl, by go_grown⟩
    · obtain ⟨h2, hwl, _, _, _⟩ := txtS_open hw ho
      have hml : ms.length ≤ 1048576 := by
        have : ∀ (l : List Fm), l.length ≤ (txtL l).length := by
          intro l
          induction l with
          | nil => simp
          | cons t ts ih => have := txtF_pos t; simp [txtL]; omega
        have := this ms
        rw [txtF_open ho] at hz
        simp only [List.length_cons, List.length_append, List.length_nil] at hz
        omega
      have HM : Hid (∀ k, k < ms.length → ∀ (w : World) (v : Value) (bs : List Nat), Hold w B v (ms.getD k noF).members bs → Calls Tryd.prog 68 #[.agg #[.int .u8 (ms.getD k noF).sign, v], .int .i64 m, .int .i64 b] w fun e w' => e = .returned (.int .i64 (b2i (valF (leafW (digZ m) (digZ b)) (ms.getD k noF)))) ∧ Below w.heap.size w w') := fun k hk w v bs hh => by
        have := txt_member ho hk
        exact ih _ w B v bs (wfL_at hwl hk) (by show (txtF (ms.getD k (.mk 0 []))).length ≤ N; omega) (by show (txtF (ms.getD k (.mk 0 []))).length ≤ _; omega) hh
      have HH := Lib.hid hh
      have hn63 : ms.length ≤ 9223372036854775807 := by omega
      have hlow : Hid (∀ k ∈ bs, k < w.heap.size) := fun k hk => (hh.lt k hk).2
      clear hwl hw hN hz ih h2
      have hc := of_decide_eq_true (show decide (c = 40 ∨ c = 91) = true from ho)
      clear ho hh
      rcases hc with rfl | rfl
      · have HV : Hid (valF (leafW (digZ m) (digZ b)) (.mk 40 ms) = andF (leafW (digZ m) (digZ b)) ms) := valF_and _ _
        go_enter Tryd.func68, Tryd.ntmps68
        go_wp2_with fail
        go_loopw [7, 27] (fun x c wr => ∃ k : Nat, k ≤ ms.length ∧ c = .int .i64 (k : Int) ∧ x = .int .i64 (b2i (andF (leafW (digZ m) (digZ b)) (ms.take k))) ∧ Below w.heap.size w wr) (fun _ c _ => ms.length - (intOf c).toNat)
        case atStart => exact ⟨0, Nat.zero_le _, rfl, rfl, by go_grown⟩
        case round =>
          clear k0
          obtain ⟨k, hk, rfl, rfl, hL⟩ := hrel
          by_cases hlt : k < ms.length
          · obtain ⟨g, u, rfl, hc0, hc1, bs', hu⟩ := Hold.member (HH.out.keep hL) hlt
            have hk1 : (k : Int) < (ms.length : Int) := by omega
            have hk0 : (0 : Int) ≤ (k : Int) := by omega
            have HC := Lib.hid (HM.out k hlt)
            have HB := Lib.hid (b2i_and (andF (leafW (digZ m) (digZ b)) (ms.take k)) (valF (leafW (digZ m) (digZ b)) (ms.getD k noF)))
            have HT : Hid (andF (leafW (digZ m) (digZ b)) (ms.take (k + 1)) = (andF (leafW (digZ m) (digZ b)) (ms.take k) && valF (leafW (digZ m) (digZ b)) (ms.getD k noF))) := andF_take hlt _
            have HU := Lib.hid (hu.keep ((Below.refl _ _).alloc (Nat.le_refl _) (.cells #[.int .u8 (ms.getD k noF).sign, u] 50)))
            obtain ⟨ua, uc, rfl⟩ := hu.form
            clear hu
            generalize (ms.getD k noF).sign = sg at *
            generalize (ms.getD k noF).members.length = un at *
            generalize (b2i (andF (leafW (digZ m) (digZ b)) (ms.take k))) = X at *
            generalize (b2i (valF (leafW (digZ m) (digZ b)) (ms.getD k noF))) = Y at *
            have hz0 := hL.size
            go_wp2_with (go_at_call 68; (with_reducible refine (HC.out _ _ bs' HU.out).mono ?_); rintro e w1 ⟨rfl, hb⟩; have hL := chain (B := w.heap.size) (a := w) (by go_grown) (Nat.le_refl _) hb)
            exact ⟨⟨k + 1, by omega, by go_num, by rw [HT.out, ← HB.out], hL⟩, by simp [intOf]; omega⟩
          · have e : k = ms.length := by omega
            subst e
            rw [List.take_length]
            go_wp2_with fail
            go_ret
            exact ⟨by rw [HV.out]; rfl, hL⟩
      · have HV : Hid (valF (leafW (digZ m) (digZ b)) (.mk 91 ms) = orF (leafW (digZ m) (digZ b)) ms) := valF_or _ _
        go_enter Tryd.func68, Tryd.ntmps68
        go_wp2_with fail
        go_loopw [10, 44] (fun x c wr => ∃ k : Nat, k ≤ ms.length ∧ c = .int .i64 (k : Int) ∧ x = .int .i64 (b2i (orF (leafW (digZ m) (digZ b)) (ms.take k))) ∧ Below w.heap.size w wr) (fun _ c _ => ms.length - (intOf c).toNat)
        case atStart => exact ⟨0, Nat.zero_le _, rfl, rfl, by go_grown⟩
        case round =>
          clear k0
          obtain ⟨k, hk, rfl, rfl, hL⟩ := hrel
          by_cases hlt : k < ms.length
          · obtain ⟨g, u, rfl, hc0, hc1, bs', hu⟩ := Hold.member (HH.out.keep hL) hlt
            have hk1 : (k : Int) < (ms.length : Int) := by omega
            have hk0 : (0 : Int) ≤ (k : Int) := by omega
            have HC := Lib.hid (HM.out k hlt)
            have HB := Lib.hid (b2i_or (orF (leafW (digZ m) (digZ b)) (ms.take k)) (valF (leafW (digZ m) (digZ b)) (ms.getD k noF)))
            have HT : Hid (orF (leafW (digZ m) (digZ b)) (ms.take (k + 1)) = (orF (leafW (digZ m) (digZ b)) (ms.take k) || valF (leafW (digZ m) (digZ b)) (ms.getD k noF))) := orF_take hlt _
            have HU := Lib.hid (hu.keep ((Below.refl _ _).alloc (Nat.le_refl _) (.cells #[.int .u8 (ms.getD k noF).sign, u] 50)))
            obtain ⟨ua, uc, rfl⟩ := hu.form
            clear hu
            generalize (ms.getD k noF).sign = sg at *
            generalize (ms.getD k noF).members.length = un at *
            generalize (b2i (orF (leafW (digZ m) (digZ b)) (ms.take k))) = X at *
            generalize (b2i (valF (leafW (digZ m) (digZ b)) (ms.getD k noF))) = Y at *
            have hz0 := hL.size
            go_wp2_with (go_at_call 68; (with_reducible refine (HC.out _ _ bs' HU.out).mono ?_); rintro e w1 ⟨rfl, hb⟩; have hL := chain (B := w.heap.size) (a := w) (by go_grown) (Nat.le_refl _) hb)
            exact ⟨⟨k + 1, by omega, by go_num, by rw [HT.out, ← HB.out], hL⟩, by simp [intOf]; omega⟩
          · have e : k = ms.length := by omega
            subst e
            rw [List.take_length]
            go_wp2_with fail
            go_ret
            exact ⟨by rw [HV.out]; rfl, hL⟩

theorem formulaValue_one (row : Int) (hr0 : 0 ≤ row) (hr1 : row ≤ 31) (N : Nat) (t : Fm) (w : World) (B : Nat) (v : Value) (bs : List Nat) (hw : wfF t) (hN : (txtF t).length ≤ N) (hz : (txtF t).length ≤ 1048576) (hh : Hold w B v t.members bs) :
    Calls Tryd.prog 68 #[.agg #[.int .u8 t.sign, v], .int .i64 row, .int .i64 row] w fun e w' => e = .returned (.int .i64 (b2i (valF (leafV (digZ row)) t))) ∧ Below w.heap.size w w' :=
  formulaValue_any row row hr0 hr1 hr0 hr1 N t w B v bs hw hN hz hh

end Go.Proofs.YtohmhiodmaahfaaDoor
