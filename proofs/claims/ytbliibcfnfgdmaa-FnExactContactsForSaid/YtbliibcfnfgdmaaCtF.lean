/- ContactsFor: both contracts. -/
import Derived.Test.YtbliibcfnfgdmaaCnt
import Derived.Test.YtbliibcfnfgdmaaTr3
import Derived.BigQuiet
namespace Go.Proofs.Ytbliibcfnfgdmaa
open Go.RowKit
set_option linter.unusedVariables false

def cfB (n : Int) (s : ByteArray) (xs : List Int) : Bool := isSel n s && decide (ascB (rcZ n) xs)
def resContactsFor_0 (n : Int) (s : ByteArray) (xs : List Int) : Int := if cfB n s xs = true then ((cntU n.toNat s xs 0 0 : Nat) : Int) else 0
def resContactsFor_1 (n : Int) (s : ByteArray) (xs : List Int) : Int := if cfB n s xs = true then 0 else 2
theorem resCf_in {n : Int} {s : ByteArray} {xs : List Int} (h : cfB n s xs = true) : resContactsFor_0 n s xs = ((cntU n.toNat s xs 0 0 : Nat) : Int) ∧ resContactsFor_1 n s xs = 0 := ⟨if_pos h, if_pos h⟩
theorem resCf_out {n : Int} {s : ByteArray} {xs : List Int} (h : cfB n s xs = false) : resContactsFor_0 n s xs = 0 ∧ resContactsFor_1 n s xs = 2 := ⟨if_neg (by rw [h]; decide), if_neg (by rw [h]; decide)⟩
theorem asc_low {n : Int} (n1 : 1 ≤ n) (n5 : n ≤ 5) {xs : List Int} (h : ascB (rcZ n) xs) : low32 xs := fun i hi => by
  have := (h i hi).1
  have := (rcZ_bd n1 n5).2
  omega

set_option maxRecDepth 100000 in
set_option maxHeartbeats 2000000 in
theorem iContactsFor_any (n : Int) (s : ByteArray) (hs : s.size ≤ 1048576) (v : Value) (xs : List Int) (w : World) (ha : Reads w v xs) :
    Calls Try.prog 31 #[.int .i64 n, .string s, v] w fun e w' => e = .returned (.tuple #[.int .i64 (resContactsFor_0 n s xs), .int .i64 (resContactsFor_1 n s xs)]) ∧ Below w.heap.size w w' := by
  have HI := Lib.hid (fun w => iIsSelector_any n s hs w)
  have HA := Lib.hid (fun wx (hb : Below w.heap.size w wx) => ha.keep hb)
  have HF := Lib.hid ha
  obtain ⟨va, vc, rfl, hm, _⟩ := ha
  cases h : isSel n s
  · have he : cfB n s xs = false := by unfold cfB; rw [h]; rfl
    rw [(resCf_out he).1, (resCf_out he).2]
    rw [h] at HI
    clear h he
    go_enter Try.func31, Try.ntmps31
    go_wp2_with (go_at_call 22; (with_reducible refine (HI.out _).mono ?_); rintro e w1 ⟨rfl, hL⟩)
    go_ret2
    exact ⟨rfl, hL⟩
  · obtain ⟨⟨n1, n5⟩, hS⟩ := isSel_out h
    have HR := Lib.hid (fun w => rowCount_any n w n1 n5)
    by_cases hx : ascB (rcZ n) xs
    · have he : cfB n s xs = true := by unfold cfB; rw [h, decide_eq_true hx]; rfl
      rw [(resCf_in he).1, (resCf_in he).2]
      rw [h] at HI
      have hlow := asc_low n1 n5 hx
      have HAs := Lib.hid (fun wx (hb : Below w.heap.size w wx) => asc_b _ _ _ wx (HA.out wx hb) (decide_eq_true hx))
      have HSo := Lib.hid (fun wx (hb : Below w.heap.size w wx) => setOf_or _ _ wx (HA.out wx hb) hlow)
      have hlt := orN_lt hlow xs.length (Nat.le_refl _)
      have hL5 : 2 ^ n.toNat - 1 < 32 := by have := pow5' (n := n.toNat) (by omega); have := Nat.two_pow_pos n.toNat; omega
      have hT := fun w => treeAt_any n.toNat (2 ^ n.toNat - 1) 0 s w hS (by omega) (by have := lenT_le (m := n.toNat) (by omega); omega)
      have HT := Lib.hid hT
      have hcount := brU_count n.toNat (p := 0) hS hL5 hlt (fun i _ _ => ⟨Nat.zero_testBit i, Nat.zero_testBit i⟩) (orN_set xs)
      rw [← hcount]
      generalize hTT : orN xs xs.length = T at *
      generalize hbr : brU n.toNat s 0 T = l at *
      have HBr := Lib.hid hbr
      have HLt := Lib.hid hlt
      generalize rcZ n = R at *
      clear h he hx hlow hlt hL5 hT hcount hTT hbr hS
      go_enter Try.func31, Try.ntmps31
      go_wp2_with (first | (go_at_call 22; (with_reducible refine (HI.out _).mono ?_); rintro e w1 ⟨rfl, hL⟩) | (go_at_call 51; (with_reducible refine (HR.out _).mono ?_); rintro e w' ⟨rfl, rfl⟩) | (go_at_call 61; (with_reducible refine (HAs.out _ (by exact hL)).mono ?_); rintro e w2 ⟨rfl, rfl⟩))
      refine (HT.out _).mono ?_
      rintro e w3 ⟨tv, rfl, ⟨F, caps, rfl, hF, hcall⟩, hb⟩
      replace hL := chain (B := w.heap.size) (a := w) hL (Nat.le_refl _) hb
      have HC := Lib.hid (hcall T w3 HLt.out (Agr2.refl _ _))
      clear hcall hb
      go_wp2_with (first | (go_at_call 63; (with_reducible refine (HSo.out _ (by exact hL)).mono ?_); rintro e w4 ⟨rfl, rfl⟩) | ((with_reducible refine HC.out.mono ?_); rintro e w5 ⟨q, rfl, hq, hb⟩; rw [HBr.out] at hq; obtain ⟨qa, qc, rfl, _, _⟩ := hq.rd; replace hL := chain (B := w.heap.size) (a := w) hL (Nat.le_refl _) hb; clear hb hq))
      go_ret2
      exact ⟨rfl, hL⟩
    · have he : cfB n s xs = false := by unfold cfB; rw [decide_eq_false hx]; simp
      rw [(resCf_out he).1, (resCf_out he).2]
      rw [h] at HI
      have HAs := Lib.hid (fun wx (hb : Below w.heap.size w wx) => asc_b _ _ _ wx (HA.out wx hb) (decide_eq_false hx))
      generalize rcZ n = R at *
      clear h he hx hS
      go_enter Try.func31, Try.ntmps31
      go_wp2_with (first | (go_at_call 22; (with_reducible refine (HI.out _).mono ?_); rintro e w1 ⟨rfl, hL⟩) | (go_at_call 51; (with_reducible refine (HR.out _).mono ?_); rintro e w' ⟨rfl, rfl⟩) | (go_at_call 61; (with_reducible refine (HAs.out _ (by exact hL)).mono ?_); rintro e w2 ⟨rfl, rfl⟩))
      go_ret2
      exact ⟨rfl, hL⟩

set_option maxRecDepth 100000 in
set_option maxHeartbeats 4000000 in
theorem sContactsFor_any (n : Int) (s : ByteArray) (hs : s.size ≤ 1048576) (v : Value) (xs : List Int) (w : World) (ha : Reads w v xs) :
    Calls Try.prog 30 #[.int .i64 n, .string s, v] w fun e w' => e = .returned (.tuple #[.int .i64 (resContactsFor_0 n s xs), .int .i64 (resContactsFor_1 n s xs)]) ∧ Below w.heap.size w w' := by
  have HI := Lib.hid (fun w => l09Is_any n s w hs)
  have HA := Lib.hid (fun wx (hb : Below w.heap.size w wx) => ha.keep hb)
  obtain ⟨a, ca, rfl, hm, ha'⟩ := ha
  unfold maxLen at hm
  cases h : isSel n s
  · have he : cfB n s xs = false := by unfold cfB; rw [h]; rfl
    rw [(resCf_out he).1, (resCf_out he).2]
    rw [h] at HI
    clear h he ha'
    go_enter Try.func30, Try.ntmps30
    go_wp2_with (go_at_call 49; (with_reducible refine (HI.out _).mono ?_); rintro e w1 ⟨rfl, hL⟩)
    go_ret2
    exact ⟨rfl, hL⟩
  · obtain ⟨⟨n1, n5⟩, hS⟩ := isSel_out h
    have hrn := rcZ_bd n1 n5
    obtain ⟨j, hj, hok, hbad⟩ : ∃ j, j ≤ xs.length ∧ (∀ i, i < j → okAt (rcZ n) xs i) ∧ (j < xs.length → ¬ okAt (rcZ n) xs j) := by
      by_cases h : ascB (rcZ n) xs
      · exact ⟨xs.length, Nat.le_refl _, h, fun hh => absurd hh (Nat.lt_irrefl _)⟩
      · obtain ⟨j, h1, h2, h3⟩ := first_bad _ _ h
        exact ⟨j, by omega, h2, fun _ => h3⟩
    have hres : Hid ((j = xs.length → resContactsFor_0 n s xs = ((cntU n.toNat s xs 0 0 : Nat) : Int) ∧ resContactsFor_1 n s xs = 0) ∧ (j < xs.length → resContactsFor_0 n s xs = 0 ∧ resContactsFor_1 n s xs = 2)) := by
      refine ⟨fun e => resCf_in ?_, fun e => resCf_out ?_⟩
      · unfold cfB; rw [h, decide_eq_true (show ascB (rcZ n) xs by subst e; exact hok)]; rfl
      · unfold cfB; rw [decide_eq_false (fun hh => hbad e (hh j e))]; simp
    have HC : Hid (j = xs.length → ∀ wx, Below w.heap.size w wx → Calls Try.prog 60 #[.string s, .slice a xs.length ca, .int .i64 0, .int .i64 0] wx fun e w' => e = .returned (.int .i64 ((cntU n.toNat s xs 0 0 : Nat) : Int)) ∧ Below wx.heap.size wx w') := fun e wx hb =>
      l09Count_any xs (asc_low n1 n5 (by subst e; exact hok)) n.toNat _ 0 0 s _ wx hS (by omega) (by decide) (by decide) (HA.out wx hb)
    have Ha : Hid (∀ i, i < xs.length → ∃ b off, a = some ⟨b, off, none⟩ ∧ w.cell? ⟨b, off + i, none⟩ = some (.int .i64 (xs.getD i 0))) := by
      rcases ha' with rfl | ⟨b, off, rfl, ha'⟩
      · intro i hi; simp at hi
      · intro i hi; exact ⟨b, off, rfl, ha' i hi⟩
    have Hok := Lib.hid hok
    have Hbad := Lib.hid hbad
    rw [h] at HI
    generalize cntU n.toNat s xs 0 0 = C at *
    clear ha' hok hbad h hS HA
    generalize hnn : xs.length = m at *
    clear hnn
    go_enter Try.func30, Try.ntmps30
    go_wp2_with (go_at_call 49; (with_reducible refine (HI.out _).mono ?_); rintro e w1 ⟨rfl, hL⟩)
    go_loopw [15] (fun c wr => ∃ k : Nat, k ≤ j ∧ c = .int .i64 (k : Int) ∧ Below w.heap.size w wr) (fun c _ => m - (intOf c).toNat)
    case atStart => exact ⟨0, Nat.zero_le _, rfl, hL⟩
    case round =>
      clear hL
      obtain ⟨k, hk, rfl, hL⟩ := hrel
      by_cases hlt : k < m
      · obtain ⟨b, off, rfl, hc0⟩ := Ha.out k hlt
        have hca := cell_later hL hc0
        have hi1 : (k : Int) < (m : Int) := by omega
        have hi0 : (0 : Int) ≤ (k : Int) := by omega
        have hw1 : IntKind.i64.wrap (rcZ n - 1) = rcZ n - 1 := IntWalk.i64_in _ (by omega)
        clear hc0
        by_cases hkj : k < j
        · have hK := Hok.out k hkj
          have HB : Hid (0 ≤ xs.getD k 0 ∧ xs.getD k 0 ≤ rcZ n - 1) := ⟨hK.1.1, by have := hK.1.2; omega⟩
          rcases Nat.eq_zero_or_pos k with hz | hp
          · subst hz
            have hd : decide ((0 : Int) < ((0 : Nat) : Int)) = false := by simp
            simp only [Nat.add_zero] at hca
            clear hK
            generalize xs.getD 0 0 = x at *
            go_wp2_with fail
            go_quiet ((first | (go_at_call 57; exact quiet1 (l01Rows_any _ _ n1 n5)) | (go_at_call 56; exact quiet1 (l01In_yes _ _ _ _ HB.out))))
            go_wp2_with fail
            exact ⟨⟨0 + 1, by omega, by go_num, Bdrew hL _⟩, by simp [intOf]; omega⟩
          · have hd : decide ((0 : Int) < (k : Int)) = true := decide_eq_true (by omega)
            obtain ⟨b', off', e', hcp0⟩ := Ha.out (k - 1) (by omega)
            injection e' with e1
            injection e1 with e2 e3
            subst e2 e3
            have hcp := cell_later hL hcp0
            have hp1 : (0 : Int) < (k : Int) := by omega
            have hp2 : (0 : Int) ≤ (k : Int) - 1 := by omega
            have hp3 : (k : Int) - 1 < (m : Int) := by omega
            have hp4 : ((k : Int) - 1).toNat = k - 1 := by omega
            have hw2 : IntKind.i64.wrap ((k : Int) - 1) = (k : Int) - 1 := IntWalk.i64_in _ (by omega)
            have hq : decide (xs.getD k 0 ≤ xs.getD (k - 1) 0) = false := decide_eq_false (by have := hK.2 hp; omega)
            have hq2 : ¬ xs.getD k 0 ≤ xs.getD (k - 1) 0 := by have := hK.2 hp; omega
            clear hK hcp0
            generalize xs.getD k 0 = x at *
            generalize xs.getD (k - 1) 0 = y at *
            go_wp2_with fail
            go_quiet ((first | (go_at_call 57; exact quiet1 (l01Rows_any _ _ n1 n5)) | (go_at_call 56; exact quiet1 (l01In_yes _ _ _ _ HB.out))))
            go_wp2_with fail
            exact ⟨⟨k + 1, by omega, by go_num, Bdrew hL _⟩, by simp [intOf]; omega⟩
        · have e : k = j := by omega
          subst e
          have hB := Hbad.out hlt
          have hr := Lib.hid (hres.out.2 hlt)
          by_cases hin : 0 ≤ xs.getD k 0 ∧ xs.getD k 0 ≤ rcZ n - 1
          · have HB := Lib.hid hin
            have hp : 0 < k ∧ xs.getD k 0 ≤ xs.getD (k - 1) 0 := by
              rcases Nat.eq_zero_or_pos k with hz | hp
              · exact absurd ⟨⟨hin.1, by omega⟩, fun h => by omega⟩ hB
              · refine ⟨hp, Int.not_lt.1 fun h => hB ⟨⟨hin.1, by omega⟩, fun _ => h⟩⟩
            obtain ⟨hp, hq2⟩ := hp
            have hd : decide ((0 : Int) < (k : Int)) = true := decide_eq_true (by omega)
            obtain ⟨b', off', e', hcp0⟩ := Ha.out (k - 1) (by omega)
            injection e' with e1
            injection e1 with e2 e3
            subst e2 e3
            have hcp := cell_later hL hcp0
            have hp1 : (0 : Int) < (k : Int) := by omega
            have hp2 : (0 : Int) ≤ (k : Int) - 1 := by omega
            have hp3 : (k : Int) - 1 < (m : Int) := by omega
            have hp4 : ((k : Int) - 1).toNat = k - 1 := by omega
            have hw2 : IntKind.i64.wrap ((k : Int) - 1) = (k : Int) - 1 := IntWalk.i64_in _ (by omega)
            have hq : decide (xs.getD k 0 ≤ xs.getD (k - 1) 0) = true := decide_eq_true hq2
            clear hB hin hcp0
            generalize xs.getD k 0 = x at *
            generalize xs.getD (k - 1) 0 = y at *
            go_wp2_with fail
            go_quiet ((first | (go_at_call 57; exact quiet1 (l01Rows_any _ _ n1 n5)) | (go_at_call 56; exact quiet1 (l01In_yes _ _ _ _ HB.out))))
            go_wp2_with fail
            go_ret2
            exact ⟨by rw [hr.out.1, hr.out.2]; rfl, Bdrew hL _⟩
          · have HB := Lib.hid hin
            clear hB hin
            rcases Nat.eq_zero_or_pos k with hz | hp
            · subst hz
              simp only [Nat.add_zero] at hca
              generalize xs.getD 0 0 = x at *
              go_wp2_with fail
              go_quiet ((first | (go_at_call 57; exact quiet1 (l01Rows_any _ _ n1 n5)) | (go_at_call 56; exact quiet1 (l01In_no _ _ _ _ HB.out))))
              go_wp2_with fail
              go_ret2
              exact ⟨by rw [hr.out.1, hr.out.2]; rfl, Bdrew hL _⟩
            · generalize xs.getD k 0 = x at *
              go_wp2_with fail
              go_quiet ((first | (go_at_call 57; exact quiet1 (l01Rows_any _ _ n1 n5)) | (go_at_call 56; exact quiet1 (l01In_no _ _ _ _ HB.out))))
              go_wp2_with fail
              go_ret2
              exact ⟨by rw [hr.out.1, hr.out.2]; rfl, Bdrew hL _⟩
      · have e : k = m ∧ j = m := by omega
        obtain ⟨e1, e2⟩ := e
        have hr := Lib.hid (hres.out.1 e2)
        have HC2 := Lib.hid (HC.out e2)
        clear e2
        subst e1
        go_wp2_with (go_at_call 60; (with_reducible refine (HC2.out _ (by exact hL)).mono ?_); rintro e w2 ⟨rfl, hb⟩; replace hL := chain (B := w.heap.size) (a := w) hL (Nat.le_refl _) hb; clear hb)
        go_ret2
        exact ⟨by rw [hr.out.1, hr.out.2]; rfl, hL⟩

end Go.Proofs.Ytbliibcfnfgdmaa
