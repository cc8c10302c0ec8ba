/- PutInto: the program's and the model's. -/
import Derived.Test.YtibfenkaoaclfaaPolW
import Derived.Test.YtibfenkaoaclfaaPolP
import Derived.Test.YtibfenkaoaclfaaCo
import Derived.Test.YtibfenkaoaclfaaIn
namespace Go.Proofs.Ytibfenkaoaclfaa
open Go.RowKit
set_option linter.unusedVariables false

theorem W_small {M : Int} {xs : List Int} (h : inM M xs) (hM : M ≤ 9223372036854775807) : W xs = xs :=
  W_self xs fun x hx => by
    obtain ⟨i, hi, rfl⟩ := List.getElem_of_mem hx
    have := h i hi
    rw [List.getD_eq_getElem?_getD, List.getElem?_eq_getElem hi, Option.getD_some] at this
    exact IntWalk.wrap64_in _ (by omega)
def putOk (xs g : List Int) : Bool := coB 100 6 xs && coB 100 6 g
def putL (xs g : List Int) : List Int := W (putTo xs g xs.length)
def putIn (xs g : List Int) : Bool := coB 1000000000000 ((putL xs g).length : Int) (putL xs g)
def resPutInto_0 (xs g : List Int) : List Int := if putOk xs g = true then (if putIn xs g = true then putL xs g else []) else []
def resPutInto_1 (xs g : List Int) : Int := if putOk xs g = true then (if putIn xs g = true then 0 else 3) else 2
theorem put_no {xs g : List Int} (h : putOk xs g = false) : resPutInto_0 xs g = [] ∧ resPutInto_1 xs g = 2 := by
  have h' : ¬ putOk xs g = true := by rw [h]; exact Bool.false_ne_true
  exact ⟨if_neg h', if_neg h'⟩
theorem put_limit {xs g : List Int} (h : putOk xs g = true) (h2 : putIn xs g = false) : resPutInto_0 xs g = [] ∧ resPutInto_1 xs g = 3 := by
  have h' : ¬ putIn xs g = true := by rw [h2]; exact Bool.false_ne_true
  unfold resPutInto_0 resPutInto_1
  rw [if_pos h, if_pos h, if_neg h', if_neg h']
  exact ⟨rfl, rfl⟩
theorem put_yes {xs g : List Int} (h : putOk xs g = true) (h2 : putIn xs g = true) : resPutInto_0 xs g = putL xs g ∧ resPutInto_1 xs g = 0 := by
  unfold resPutInto_0 resPutInto_1
  rw [if_pos h, if_pos h, if_pos h2, if_pos h2]
  exact ⟨rfl, rfl⟩
theorem co6 {xs : List Int} (h : coB 100 6 xs = true) : 1 ≤ xs.length ∧ xs.length ≤ 6 ∧ inM 100 xs := by
  have := of_decide_eq_true (show decide (1 ≤ xs.length ∧ (xs.length : Int) ≤ 6 ∧ inM 100 xs) = true from h)
  exact ⟨this.1, by omega, this.2.2⟩
theorem putTo_small {xs g : List Int} (hg : 1 ≤ g.length) (hg2 : g.length ≤ 6) {i : Nat} (hi : i ≤ 6) : (putTo xs g i).length ≤ 100 ∧ 1 ≤ (putTo xs g i).length := by
  rw [putTo_len xs g hg]
  have : (g.length - 1) * (i - 1) ≤ 5 * 5 := Nat.mul_le_mul (by omega) (by omega)
  omega
theorem powL_small {g : List Int} (hg : 1 ≤ g.length) (hg2 : g.length ≤ 6) {i : Nat} (hi : i ≤ 6) : (powL g i).length ≤ 100 ∧ 1 ≤ (powL g i).length := by
  rw [powL_len g hg]
  have : (g.length - 1) * i ≤ 5 * 6 := Nat.mul_le_mul (by omega) hi
  omega
theorem lenPutInto_0 (xs g : List Int) : (resPutInto_0 xs g).length ≤ 100000 := by
  unfold resPutInto_0
  split
  · rename_i h
    split
    · unfold putOk at h
      rw [Bool.and_eq_true] at h
      have h1 := co6 h.1
      have h2 := co6 h.2
      unfold putL; rw [W_len]
      have := putTo_small (xs := xs) h2.1 h2.2.1 (i := xs.length) h1.2.1
      omega
    · simp
  · simp

set_option maxRecDepth 100000 in
set_option maxHeartbeats 4000000 in
theorem iPutInto_any (va : Value) (xs : List Int) (vb : Value) (g : List Int) (w : World) (ha : Reads w va xs) (hb : Reads w vb g) :
    Calls Try.prog 19 #[va, vb] w fun e w' => ∃ u, e = .returned (.tuple #[u, .int .i64 (resPutInto_1 xs g)]) ∧ In w' w.heap.size w'.heap.size u (resPutInto_0 xs g) ∧ Below w.heap.size w w' := by
  have HB := Lib.hid hb
  cases hc : coB 100 6 xs
  · obtain ⟨r0, r1⟩ := put_no (xs := xs) (g := g) (by unfold putOk; rw [hc]; rfl)
    rw [r0, r1]
    have HC := Lib.hid (areCo_any va xs 6 100 w ha (by decide) (by decide) hc)
    clear hc ha hb r0 r1
    go_enter Try.func19, Try.ntmps19
    go_wp2_with fail
    refine HC.out.mono ?_
    rintro e w1 ⟨rfl, hL⟩
    go_wp2_with fail
    go_ret2
    exact ⟨_, rfl, In.of (World.ownsRow_nil _ _ _ _ : Owns _ w.heap.size _ []) (Nat.le_refl _) (Nat.le_refl _), hL⟩
  · have HC := Lib.hid (areCo_any va xs 6 100 w ha (by decide) (by decide) hc)
    cases hd : coB 100 6 g
    · obtain ⟨r0, r1⟩ := put_no (xs := xs) (g := g) (by unfold putOk; rw [hc, hd]; rfl)
      rw [r0, r1]
      have HD := Lib.hid (fun w h => areCo_any vb g 6 100 w h (by decide) (by decide) hd)
      clear hc ha hb r0 r1 hd
      go_enter Try.func19, Try.ntmps19
      go_wp2_with fail
      refine HC.out.mono ?_
      rintro e w1 ⟨rfl, hL⟩
      go_wp2_with fail
      refine (HD.out _ (HB.out.keep hL)).mono ?_
      rintro e w2 ⟨rfl, hb⟩
      have hL2 := chain (B := w.heap.size) (a := w) hL (Nat.le_refl _) hb
      go_wp2_with fail
      go_ret2
      exact ⟨_, rfl, In.of (World.ownsRow_nil _ _ _ _ : Owns _ w.heap.size _ []) (Nat.le_refl _) (Nat.le_refl _), hL2⟩
    · have HD := Lib.hid (fun w h => areCo_any vb g 6 100 w h (by decide) (by decide) hd)
      obtain ⟨n1, n6, hx⟩ := co6 hc
      obtain ⟨m1, m6, hy⟩ := co6 hd
      have hok : putOk xs g = true := by unfold putOk; rw [hc, hd]; rfl
      have HOK := Lib.hid hok
      have HX := Lib.hid hx
      have HG : Hid (W g = g) := W_small hy (by decide)
      obtain ⟨aa, ca, rfl, hm, ha'⟩ := ha
      obtain ⟨ba, oa, rfl, ha0⟩ : ∃ b off, aa = some ⟨b, off, none⟩ ∧ ∀ i, i < xs.length → w.cell? ⟨b, off + i, none⟩ = some (.int .i64 (xs.getD i 0)) := by
        rcases ha' with rfl | h
        · simp at n1
        · exact h
      have Ha := Lib.hid ha0
      obtain ⟨n, hn⟩ : ∃ n, xs.length = n := ⟨_, rfl⟩
      have HN := Lib.hid hn
      rw [hn] at Ha HC n1 n6 ⊢
      clear hc hd hb hm ha' ha0 hx hy hok hn
      go_enter Try.func19, Try.ntmps19
      go_wp2_with fail
      refine HC.out.mono ?_
      rintro e w1 ⟨rfl, hL⟩
      go_wp2_with fail
      refine (HD.out _ (HB.out.keep hL)).mono ?_
      rintro e w2 ⟨rfl, hb⟩
      have hL2 := chain (B := w.heap.size) (a := w) hL (Nat.le_refl _) hb
      have hz2 := hL2.size
      have o1 := (owns_one w2 2 0 (by unfold wrap64; rfl)).mono hz2
      have hL3 : Below w.heap.size w (w2.alloc (.cells #[.int .i64 0] 2)) := hL2.alloc hz2 _
      clear hL hb hL2
      go_wp2_with fail
      go_loopw [6, 21] (fun u c wr => ∃ k : Nat, k ≤ n ∧ c = .int .i64 (k : Int) ∧ Below w.heap.size w wr ∧ Owns wr w.heap.size u (W (putTo xs g k))) (fun _ c _ => n - (intOf c).toNat)
      case atStart => exact ⟨0, Nat.zero_le _, rfl, hL3, o1⟩
      case round =>
        clear hL3 o1 hz2
        obtain ⟨k, hk, rfl, hL, oo⟩ := hrel
        by_cases hlt : k < n
        · have hca := cell_later hL (Ha.out k hlt)
          have hi1 : (k : Int) < (n : Int) := by omega
          have hi0 : (0 : Int) ≤ (k : Int) := by omega
          have hbx := HX.out k (by have := HN.out; omega)
          have HWx : Hid (wrap64 (xs.getD k 0) = xs.getD k 0) := IntWalk.wrap64_in _ (by omega)
          have HPS : Hid (putTo xs g (k + 1) = plusL (putTo xs g k) (timesL (powL g k) [xs.getD k 0])) := rfl
          have hps := putTo_small (xs := xs) m1 m6 (i := k) (by omega)
          have hpw := powL_small m1 m6 (i := k) (by omega)
          have hB2 := HB.out.keep hL
          rw [← HG.out] at hB2
          have HB2 := Lib.hid hB2
          have HOO := Lib.hid oo
          clear hbx hB2 oo
          generalize xs.getD k 0 = x at *
          go_wp2_with fail
          refine (power_any vb g k _ HB2.out m1 (by omega) (by omega)).mono ?_
          rintro e w3 ⟨u3, rfl, o3, hb3⟩
          have hL3 := chain (B := w.heap.size) (a := w) hL (Nat.le_refl _) hb3
          have hz3 := hL3.size
          have o4 := owns_one w3 2 x HWx.out
          have hb4 : Below w3.heap.size w3 (w3.alloc (.cells #[.int .i64 x] 2)) := (Below.refl _ _).alloc (Nat.le_refl _) _
          have HO3 := Lib.hid (ownsKeepAt hb4 o3)
          have HO4 := Lib.hid o4
          have HOs := Lib.hid (ownsKeepAt hb4 (ownsKeepAt hb3 HOO.out))
          have hL4 := chain (B := w.heap.size) (a := w) hL3 (Nat.le_refl _) hb4
          clear o3 o4 hb3 hb4 hL3 HOO
          go_wp2_with fail
          refine (times_any _ _ (powL g k) [x] _ HO3.out.reads HO4.out.reads hpw.2 (by omega) (by simp) (by simp)).mono ?_
          rintro e w5 ⟨u5, rfl, o5, hb5⟩
          have hL5 := chain (B := w.heap.size) (a := w) hL4 (Nat.le_refl _) hb5
          have HO5 := Lib.hid o5
          have HOs2 := Lib.hid (ownsKeepAt hb5 HOs.out)
          clear o5 hb5 hL4 HO3 HO4 HOs
          go_wp2_with fail
          refine (plus_any _ _ (putTo xs g k) (timesL (powL g k) [x]) _ HOs2.out.reads HO5.out.reads hps.2 (by omega) (by rw [timesL_len]; simp; omega) (by rw [timesL_len]; simp; omega)).mono ?_
          rintro e w6 ⟨u6, rfl, o6, hb6⟩
          have hL6 := chain (B := w.heap.size) (a := w) hL5 (Nat.le_refl _) hb6
          have hz5 := hL5.size
          have HO6 := Lib.hid o6
          clear o6 hb6 hL5 HO5 HOs2
          go_wp2_with fail
          exact ⟨⟨k + 1, by omega, by go_num, hL6, by rw [HPS.out]; exact HO6.out.mono hz5⟩, by simp [intOf]; omega⟩
        · have e : k = n := by omega
          subst e
          have hps := putTo_small (xs := xs) m1 m6 (i := k) (by omega)
          have HPL : Hid (W (putTo xs g k) = putL xs g) := by unfold Hid putL; rw [HN.out]
          rw [HPL.out] at oo
          have hrd := oo.reads
          have HOO := Lib.hid oo
          have HRD := Lib.hid hrd
          obtain ⟨a2, c2, hu, _, _⟩ := hrd
          subst hu
          cases hq : putIn xs g
          · obtain ⟨r0, r1⟩ := put_limit HOK.out hq
            have HR0 := Lib.hid r0
            have HR1 := Lib.hid r1
            have HQ := Lib.hid (fun w h => areCo_any (.slice a2 (putL xs g).length c2) (putL xs g) ((putL xs g).length : Int) 1000000000000 w h (by decide) (by decide) hq)
            clear oo hps r0 r1 hq
            go_wp2_with fail
            refine (HQ.out _ HRD.out).mono ?_
            rintro e w7 ⟨rfl, hb7⟩
            have hL7 := chain (B := w.heap.size) (a := w) hL (Nat.le_refl _) hb7
            go_wp2_with fail
            go_ret2
            refine ⟨.slice none 0 0, by rw [HR1.out]; rfl, ?_, hL7⟩
            rw [HR0.out]
            exact In.of (World.ownsRow_nil _ _ _ _ : Owns _ w.heap.size _ []) (Nat.le_refl _) (Nat.le_refl _)
          · obtain ⟨r0, r1⟩ := put_yes HOK.out hq
            have HR0 := Lib.hid r0
            have HR1 := Lib.hid r1
            have HQ := Lib.hid (fun w h => areCo_any (.slice a2 (putL xs g).length c2) (putL xs g) ((putL xs g).length : Int) 1000000000000 w h (by decide) (by decide) hq)
            clear oo hps r0 r1 hq
            go_wp2_with fail
            refine (HQ.out _ HRD.out).mono ?_
            rintro e w7 ⟨rfl, hb7⟩
            have hL7 := chain (B := w.heap.size) (a := w) hL (Nat.le_refl _) hb7
            have HO7 := Lib.hid (ownsKeepAt hb7 HOO.out)
            go_wp2_with fail
            go_ret2
            refine ⟨_, by rw [HR1.out]; rfl, ?_, hL7⟩
            rw [HR0.out]
            exact In.of HO7.out (Nat.le_refl _) (Nat.le_refl _)

end Go.Proofs.Ytibfenkaoaclfaa
