/- Run, RunS in one text. -/
import Derived.Test.YtblbapehakcomaaCri
namespace Go.Proofs.Ytblbapehakcomaa
open Go.RowKit
set_option linter.unusedVariables false

def runC (p : Int) (xs : List Int) (s : Int) (l : List Int) : Int := if cirB p xs = true then (if inB s xs.length = true ∧ l.length ≤ 100 ∧ ∀ k, k < l.length → inB (l.getD k 0) p = true then 0 else 2) else 1
def runSt (p : Int) (xs l : List Int) (S : Nat) : Nat → Nat
  | 0 => S
  | k + 1 => (endsU p xs (l.getD k 0) (runSt p xs l S k)).getD 0 0
def runOkB (p : Int) (xs l : List Int) (S k : Nat) : Bool := sureB p xs (l.getD k 0) (runSt p xs l S k)
def runOk (p : Int) (xs l : List Int) (S : Nat) : Bool := (List.range l.length).all (runOkB p xs l S)
def runL (p : Int) (xs l : List Int) (S k : Nat) : List Int := (List.range k).map fun (j : Nat) => ((runSt p xs l S (j + 1) : Nat) : Int)
theorem runL_succ (p : Int) (xs l : List Int) (S k : Nat) : runL p xs l S (k + 1) = runL p xs l S k ++ [((runSt p xs l S (k + 1) : Nat) : Int)] := by
  unfold runL; rw [List.range_succ, List.map_append]; rfl
theorem runL_len (p : Int) (xs l : List Int) (S k : Nat) : (runL p xs l S k).length = k := by simp [runL]
theorem endsU_get {p : Int} {xs : List Int} {i : Int} {s : Nat} : (endsU p xs i s).getD 0 0 < 2 ^ xs.length := by
  rw [List.getD_eq_getElem?_getD]
  cases h : (endsU p xs i s)[0]? with
  | none => exact Nat.two_pow_pos _
  | some x =>
    have hm := List.mem_of_getElem? h
    unfold endsU ups at hm
    exact List.mem_range.1 (List.mem_filter.1 hm).1
theorem runSt_lt {p : Int} {xs l : List Int} {S : Nat} (hS : S < 2 ^ xs.length) (k : Nat) : runSt p xs l S k < 2 ^ xs.length := by
  cases k with
  | zero => exact hS
  | succ k => exact endsU_get
theorem runEnd {p : Int} {xs l : List Int} {S k : Nat} (h : runOkB p xs l S k = true) : endZ p xs (l.getD k 0) (runSt p xs l S k) = ((runSt p xs l S (k + 1) : Nat) : Int) := by
  unfold runOkB at h
  unfold endZ
  rw [if_pos h, intsN_at]; rfl
theorem runC_zero {p s : Int} {xs l : List Int} (h : runC p xs s l = 0) : cirB p xs = true ∧ inB s xs.length = true ∧ l.length ≤ 100 ∧ ∀ k, k < l.length → inB (l.getD k 0) p = true := by
  unfold runC at h
  by_cases h1 : cirB p xs = true
  · rw [if_pos h1] at h
    by_cases h2 : inB s xs.length = true ∧ l.length ≤ 100 ∧ ∀ k, k < l.length → inB (l.getD k 0) p = true
    · exact ⟨h1, h2⟩
    · rw [if_neg h2] at h; cases h
  · rw [if_neg h1] at h; cases h
def resRunInputs_0 (p : Int) (xs : List Int) (s : Int) (l : List Int) : List Int := if runC p xs s l = 0 then (if runOk p xs l s.toNat = true then runL p xs l s.toNat l.length else []) else []
def resRunInputs_1 (p : Int) (xs : List Int) (s : Int) (l : List Int) : Int := if runC p xs s l = 0 then (if runOk p xs l s.toNat = true then 0 else 5) else runC p xs s l
theorem lenRunInputs_0 (p : Int) (xs : List Int) (s : Int) (l : List Int) : (resRunInputs_0 p xs s l).length ≤ 100000 := by
  unfold resRunInputs_0
  by_cases h : runC p xs s l = 0
  · rw [if_pos h]
    by_cases h2 : runOk p xs l s.toNat = true
    · rw [if_pos h2, runL_len]; have := (runC_zero h).2.2.1; omega
    · rw [if_neg h2]; simp
  · rw [if_neg h]; simp

theorem noInputs_any (p x : Int) (bx : Nat) (v : Value) (xs : List Int) (w : World) (ha : Reads w v xs) (h1 : 1 ≤ p) (h5 : p ≤ 5) (kx : C2 w bx (.int .i64 p) v) :
    Calls Try.prog 77 #[.int .i64 x, .pointer (some ⟨bx, 0, none⟩)] w fun e w' => e = .returned (.bool (!(inB x p))) ∧ Below w.heap.size w w' := by
  obtain ⟨b, hb⟩ : ∃ b, inB x p = b := ⟨_, rfl⟩
  have HS := Lib.hid (fun w' (h : Below w.heap.size w w') => areInputs_any p x v xs w' (ha.keep h) h1 h5 hb)
  rw [hb]
  obtain ⟨a, ca, rfl, hm, _⟩ := ha
  have k0 := kx
  clear hb
  generalize xs.length = n at *
  go_enter Try.func77, Try.ntmps77
  go_wp2_with (go_at_call 65; (with_reducible refine (HS.out _ (by go_grown)).mono ?_); rintro e w' ⟨rfl, hb⟩; have hL := chain (B := w.heap.size) (a := w) (by go_grown) (Nat.le_refl _) hb; clear hb)
  go_ret
  exact ⟨rfl, hL⟩

theorem iRun_1 (p : Int) (v : Value) (xs : List Int) (s : Int) (vl : Value) (l : List Int) (w : World) (ha : Reads w v xs) (hb : cirB p xs = false) :
    Calls Try.prog 40 #[.agg #[.int .i64 p, v], .int .i64 s, vl] w fun e w' => e = .returned (.tuple #[.slice none 0 0, .int .i64 1]) ∧ Below w.heap.size w w' := by
  have HC := Lib.hid (fun w' (h : Below w.heap.size w w') => isCircuit_any p v xs w' (ha.keep h) hb)
  obtain ⟨a, ca, rfl, hm, _⟩ := ha
  have k0 := C2.here w (.int .i64 p) (.slice a xs.length ca) 27
  clear hb
  generalize xs.length = n at *
  go_enter Try.func40, Try.ntmps40
  go_wp2_with ((go_at_call 18; (with_reducible refine (HC.out _ (by go_grown)).mono ?_); rintro e w' ⟨rfl, hb⟩; have hL := chain (B := w.heap.size) (a := w) (by go_grown) (Nat.le_refl _) hb; (first | replace k0 := keepAt hb k0 | replace k0 := keepAt hb (C2.alloc k0 _)); clear hb))
  go_ret2
  exact ⟨rfl, hL⟩

theorem iRun_2 (p : Int) (v : Value) (xs : List Int) (s : Int) (vl : Value) (l : List Int) (w : World) (ha : Reads w v xs) (hl : Reads w vl l) (hb : cirB p xs = true) (h2 : inB s xs.length = false) :
    Calls Try.prog 40 #[.agg #[.int .i64 p, v], .int .i64 s, vl] w fun e w' => e = .returned (.tuple #[.slice none 0 0, .int .i64 2]) ∧ Below w.heap.size w w' := by
  obtain ⟨⟨p1, p4⟩, ⟨n1, n4⟩, _, _⟩ := cirB_out hb
  have HC := Lib.hid (fun w' (h : Below w.heap.size w w') => isCircuit_any p v xs w' (ha.keep h) hb)
  have HS := Lib.hid (fun w' (h : Below w.heap.size w w') => isState_any p s v xs w' (ha.keep h) n1 (by omega) h2)
  obtain ⟨a, ca, rfl, hm, _⟩ := ha
  obtain ⟨la, lc, rfl, hm2, _⟩ := hl
  have k0 := C2.here w (.int .i64 p) (.slice a xs.length ca) 27
  clear hb h2
  generalize xs.length = n at *
  generalize l.length = ln at *
  go_enter Try.func40, Try.ntmps40
  go_wp2_with (first | (go_at_call 18; (with_reducible refine (HC.out _ (by go_grown)).mono ?_); rintro e w' ⟨rfl, hb⟩; have hL := chain (B := w.heap.size) (a := w) (by go_grown) (Nat.le_refl _) hb; (first | replace k0 := keepAt hb k0 | replace k0 := keepAt hb (C2.alloc k0 _)); clear hb) | (go_at_call 78; (with_reducible refine (HS.out _ (by go_grown)).mono ?_); rintro e w' ⟨rfl, hb⟩; have hL := chain (B := w.heap.size) (a := w) (by go_grown) (Nat.le_refl _) hb; (first | replace k0 := keepAt hb k0 | replace k0 := keepAt hb (C2.alloc k0 _)); clear hb))
  go_ret2
  exact ⟨rfl, hL⟩

theorem iRun_3 (p : Int) (v : Value) (xs : List Int) (s : Int) (vl : Value) (l : List Int) (w : World) (ha : Reads w v xs) (hl : Reads w vl l) (hb : cirB p xs = true) (h2 : inB s xs.length = true) (h3 : 100 < l.length) :
    Calls Try.prog 40 #[.agg #[.int .i64 p, v], .int .i64 s, vl] w fun e w' => e = .returned (.tuple #[.slice none 0 0, .int .i64 2]) ∧ Below w.heap.size w w' := by
  obtain ⟨⟨p1, p4⟩, ⟨n1, n4⟩, _, _⟩ := cirB_out hb
  have HC := Lib.hid (fun w' (h : Below w.heap.size w w') => isCircuit_any p v xs w' (ha.keep h) hb)
  have HS := Lib.hid (fun w' (h : Below w.heap.size w w') => isState_any p s v xs w' (ha.keep h) n1 (by omega) h2)
  have h3I : (100 : Int) < (l.length : Int) := by omega
  obtain ⟨a, ca, rfl, hm, _⟩ := ha
  obtain ⟨la, lc, rfl, hm2, _⟩ := hl
  have k0 := C2.here w (.int .i64 p) (.slice a xs.length ca) 27
  clear hb h2 h3
  generalize xs.length = n at *
  generalize l.length = ln at *
  go_enter Try.func40, Try.ntmps40
  go_wp2_with (first | (go_at_call 18; (with_reducible refine (HC.out _ (by go_grown)).mono ?_); rintro e w' ⟨rfl, hb⟩; have hL := chain (B := w.heap.size) (a := w) (by go_grown) (Nat.le_refl _) hb; (first | replace k0 := keepAt hb k0 | replace k0 := keepAt hb (C2.alloc k0 _)); clear hb) | (go_at_call 78; (with_reducible refine (HS.out _ (by go_grown)).mono ?_); rintro e w' ⟨rfl, hb⟩; have hL := chain (B := w.heap.size) (a := w) (by go_grown) (Nat.le_refl _) hb; (first | replace k0 := keepAt hb k0 | replace k0 := keepAt hb (C2.alloc k0 _)); clear hb))
  go_ret2
  exact ⟨rfl, hL⟩

theorem iRun_4 (p : Int) (v : Value) (xs : List Int) (s : Int) (vl : Value) (l : List Int) (w : World) (ha : Reads w v xs) (hl : Reads w vl l) (hb : cirB p xs = true) (h2 : inB s xs.length = true) (h3 : l.length ≤ 100) (h4 : ¬ ∀ k, k < l.length → inB (l.getD k 0) p = true) :
    Calls Try.prog 40 #[.agg #[.int .i64 p, v], .int .i64 s, vl] w fun e w' => e = .returned (.tuple #[.slice none 0 0, .int .i64 2]) ∧ Below w.heap.size w w' := by
  obtain ⟨⟨p1, p4⟩, ⟨n1, n4⟩, _, _⟩ := cirB_out hb
  have HC := Lib.hid (fun w' (h : Below w.heap.size w w') => isCircuit_any p v xs w' (ha.keep h) hb)
  have HS := Lib.hid (fun w' (h : Below w.heap.size w w') => isState_any p s v xs w' (ha.keep h) n1 (by omega) h2)
  have hex : decide (∃ i, i < l.length ∧ (!(inB (l.getD i 0) p)) = true) = true := by
    refine decide_eq_true (Classical.byContradiction fun hno => h4 fun k hk => ?_)
    cases hh : inB (l.getD k 0) p
    · exact absurd ⟨k, hk, by rw [hh]; rfl⟩ hno
    · rfl
  have HF := Lib.hid (fun (bx : Nat) w' (h : Below w.heap.size w w') (kx : C2 w' bx (.int .i64 p) v) => containsFunc_any vl l 77 #[.pointer (some ⟨bx, 0, none⟩)] (fun x => !(inB x p)) w' (hl.keep h) (fun x wy hby => noInputs_any p x bx v xs wy (ha.keep (h.trans (hby.mono h.size))) p1 (by omega) (keepAt hby kx)) (enters_of Try.func77 (by kernel_rfl) rfl) hex)
  have h3I : ¬ (100 : Int) < (l.length : Int) := by omega
  obtain ⟨a, ca, rfl, hm, _⟩ := ha
  obtain ⟨la, lc, rfl, hm2, _⟩ := hl
  have k0 := C2.here w (.int .i64 p) (.slice a xs.length ca) 27
  clear hb h2 h3 h4 hex
  generalize xs.length = n at *
  generalize l.length = ln at *
  go_enter Try.func40, Try.ntmps40
  go_wp2_with (first | (go_at_call 18; (with_reducible refine (HC.out _ (by go_grown)).mono ?_); rintro e w' ⟨rfl, hb⟩; have hL := chain (B := w.heap.size) (a := w) (by go_grown) (Nat.le_refl _) hb; (first | replace k0 := keepAt hb k0 | replace k0 := keepAt hb (C2.alloc k0 _)); clear hb) | (go_at_call 78; (with_reducible refine (HS.out _ (by go_grown)).mono ?_); rintro e w' ⟨rfl, hb⟩; have hL := chain (B := w.heap.size) (a := w) (by go_grown) (Nat.le_refl _) hb; (first | replace k0 := keepAt hb k0 | replace k0 := keepAt hb (C2.alloc k0 _)); clear hb) | (go_at_call 57; (with_reducible refine (HF.out w.heap.size _ (by go_grown) (by first | exact k0 | assumption)).mono ?_); rintro e w' ⟨rfl, hb⟩; have hL := chain (B := w.heap.size) (a := w) (by go_grown) (Nat.le_refl _) hb; clear hb))
  go_ret2
  exact ⟨rfl, hL⟩

set_option maxRecDepth 100000 in
set_option maxHeartbeats 4000000 in
theorem iRun_5 (p : Int) (v : Value) (xs : List Int) (S : Nat) (vl : Value) (l : List Int) (w : World) (ha : Reads w v xs) (hl : Reads w vl l) (hc : runC p xs (S : Int) l = 0) :
    Calls Try.prog 40 #[.agg #[.int .i64 p, v], .int .i64 (S : Int), vl] w fun e w' => ∃ u, e = .returned (.tuple #[u, .int .i64 (if runOk p xs l S = true then 0 else 5)]) ∧ In w' w.heap.size w'.heap.size u (if runOk p xs l S = true then runL p xs l S l.length else []) ∧ Below w.heap.size w w' := by
  obtain ⟨i0, hi0, hz0, hz1, hz2⟩ := info_parts info64
  obtain ⟨rc, hrc⟩ : ∃ r, (if runOk p xs l S = true then (0 : Int) else 5) = r := ⟨_, rfl⟩
  obtain ⟨rl, hrl⟩ : ∃ r, (if runOk p xs l S = true then runL p xs l S l.length else []) = r := ⟨_, rfl⟩
  rw [hrc, hrl]
  have HRC := Lib.hid hrc
  have HRL := Lib.hid hrl
  clear hrc hrl
  obtain ⟨hb, h2, h3, h4⟩ := runC_zero hc
  obtain ⟨⟨p1, p4⟩, ⟨n1, n4⟩, _, _⟩ := cirB_out hb
  have hS : S < 2 ^ xs.length := by obtain ⟨T, e, hT⟩ := stateN h2; omega
  have HC := Lib.hid (fun w' (h : Below w.heap.size w w') => isCircuit_any p v xs w' (ha.keep h) hb)
  have HS := Lib.hid (fun w' (h : Below w.heap.size w w') => isState_any p (S : Int) v xs w' (ha.keep h) n1 (by omega) h2)
  have hex : decide (∃ i, i < l.length ∧ (!(inB (l.getD i 0) p)) = true) = false := by
    refine decide_eq_false fun ⟨k, hk, h⟩ => ?_
    rw [h4 k hk] at h; cases h
  have HF := Lib.hid (fun (bx : Nat) w' (h : Below w.heap.size w w') (kx : C2 w' bx (.int .i64 p) v) => containsFunc_any vl l 77 #[.pointer (some ⟨bx, 0, none⟩)] (fun x => !(inB x p)) w' (hl.keep h) (fun x wy hby => noInputs_any p x bx v xs wy (ha.keep (h.trans (hby.mono h.size))) p1 (by omega) (keepAt hby kx)) (enters_of Try.func77 (by kernel_rfl) rfl) hex)
  have HO := Lib.hid (fun (k : Nat) (hk : k < l.length) w' (h : Below w.heap.size w w') => onlyEnd_any p (l.getD k 0) (runSt p xs l S k) v xs w' (ha.keep h) hb (h4 k hk) (runSt_lt hS k))
  have HEnd : Hid (∀ k, runOkB p xs l S k = true → endZ p xs (l.getD k 0) (runSt p xs l S k) = ((runSt p xs l S (k + 1) : Nat) : Int)) := fun k h => runEnd h
  have HSure : Hid (∀ k, sureB p xs (l.getD k 0) (runSt p xs l S k) = runOkB p xs l S k) := fun k => rfl
  obtain ⟨j, hj, hno, hyes⟩ := firstB (fun k => !(runOkB p xs l S k)) l.length
  have HY : Hid (∀ k, k < j → runOkB p xs l S k = true) := fun k hk => by have := hno k hk; simpa using this
  have HNo : Hid (j < l.length → runOkB p xs l S j = false) := fun h => by have := hyes h; simpa using this
  have HOk : Hid (runOk p xs l S = true ↔ ¬ j < l.length) := by
    unfold Hid runOk
    rw [List.all_eq_true]
    constructor
    · intro h hlt
      have := h j (List.mem_range.2 hlt)
      rw [HNo.out hlt] at this; cases this
    · intro h k hk
      exact HY.out k (by have := List.mem_range.1 hk; omega)
  have HR0 : Hid (runL p xs l S 0 = []) := rfl
  have HRS := Lib.hid (runL_succ p xs l S)
  have HRl := Lib.hid (runL_len p xs l S)
  have HS0 : Hid (runSt p xs l S 0 = S) := rfl
  have h3I : ¬ (100 : Int) < (l.length : Int) := by omega
  have HLR := Lib.hid hl
  obtain ⟨a, ca, rfl, hm, _⟩ := ha
  obtain ⟨la, lc, rfl, hm2, _⟩ := hl
  have k0 := C2.here w (.int .i64 p) (.slice a xs.length ca) 27
  clear hb h2 h4 hex hno hyes hc hS
  generalize runOk p xs l S = ok at *
  generalize xs.length = n at *
  go_enter Try.func40, Try.ntmps40
  go_wp2_with (first | (go_at_call 18; (with_reducible refine (HC.out _ (by go_grown)).mono ?_); rintro e w' ⟨rfl, hb⟩; have hL := chain (B := w.heap.size) (a := w) (by go_grown) (Nat.le_refl _) hb; (first | replace k0 := keepAt hb k0 | replace k0 := keepAt hb (C2.alloc k0 _)); clear hb) | (go_at_call 78; (with_reducible refine (HS.out _ (by go_grown)).mono ?_); rintro e w' ⟨rfl, hb⟩; have hL := chain (B := w.heap.size) (a := w) (by go_grown) (Nat.le_refl _) hb; (first | replace k0 := keepAt hb k0 | replace k0 := keepAt hb (C2.alloc k0 _)); clear hb) | (go_at_call 57; (with_reducible refine (HF.out w.heap.size _ (by go_grown) (by first | exact k0 | assumption)).mono ?_); rintro e w' ⟨rfl, hb⟩; have hL := chain (B := w.heap.size) (a := w) (by go_grown) (Nat.le_refl _) hb; replace k0 := keepAt hb (by first | exact k0 | assumption); clear hb))
  go_loopw [1, 9, 34] (fun st u c wr => ∃ k : Nat, k ≤ j ∧ c = .int .i64 (k : Int) ∧ st = .int .i64 ((runSt p xs l S k : Nat) : Int) ∧ Below w.heap.size w wr ∧ C2 wr w.heap.size (.int .i64 p) (.slice a n ca) ∧ Owns wr (w.heap.size + 1) u (runL p xs l S k)) (fun _ _ c _ => l.length - (intOf c).toNat)
  case atStart => exact ⟨0, Nat.zero_le _, rfl, by rw [HS0.out], hL, k0, by rw [HR0.out]; exact World.ownsRow_nil _ _ _ _⟩
  case round =>
    clear hL k0
    obtain ⟨k, hk, rfl, rfl, hL, k0, oo⟩ := hrel
    have hkb := k0.2.2.2.2
    by_cases hlt : k < l.length
    · have HOk' := Lib.hid (HO.out k hlt)
      have hki0 : (0 : Int) ≤ (k : Int) := by omega
      have hki1 : (k : Int) < (l.length : Int) := by omega
      obtain ⟨la', lc', ev, _, hcv⟩ := HLR.out.keep hL
      injection ev with e1 e2 e3
      subst e1; subst e3
      clear e2
      rcases hcv with hnil | ⟨gl, offl, rfl, hcv⟩
      · rw [hnil] at hlt; simp at hlt
      have hd0 := hcv k hlt
      have HSu := Lib.hid (HSure.out k)
      have hll := HRl.out k
      clear hcv
      by_cases hkj : k < j
      · have hok := HY.out k hkj
        have HE := Lib.hid (HEnd.out k hok)
        rw [HSu.out, hok, HE.out] at HOk'
        have HN := Lib.hid (HRS.out k)
        clear hok HE
        generalize l.getD k 0 = inp at *
        obtain ⟨st1, hst1⟩ : ∃ x, runSt p xs l S (k + 1) = x := ⟨_, rfl⟩
        rw [hst1] at HOk' HN
        have HST1 := Lib.hid hst1
        clear hst1
        generalize runSt p xs l S k = st0 at *
        generalize runL p xs l S k = R at *
        go_wp2_with fail
        refine (HOk'.out _ hL).mono ?_
        rintro e w1 ⟨rfl, hb⟩
        replace hL := chain (B := w.heap.size) (a := w) hL (Nat.le_refl _) hb
        replace k0 := keepAt hb k0
        replace oo := ownsKeepAt hb oo
        have hz' := hL.size
        have hkb2 := k0.2.2.2.2
        have hfrom := oo.rowsFrom (B := w.heap.size) (by omega)
        have hsep := oo.notBlock (b := w.heap.size) (by omega)
        clear hb
        go_wp2_with (at_builtin; refine wpList_append_own _ rfl _ _ 22 rfl (w.heap.size + 1) 2 i0 (.int .i64 0) 1 8 Try.underlying22 hi0 hz0 hz1 hz2 rfl (by decide) _ _ _ rfl (World.ownsRow.alloc oo _) ⟨w1.heap.size, 0, none⟩ 1 1 [.int .i64 (st1 : Int)] rfl rfl (cell_one_new _ _ _) (by simp [Value.oneCell']) (by unfold maxLen; omega) (by omega) (by simp; omega) ?_; intro v' w3 hown' hgrow hnil)
        exact ⟨⟨k + 1, by omega, by go_num, by rw [HST1.out], (hL.alloc (by omega) _).grown hgrow (by simp; omega) hfrom, (k0.alloc _).grown hgrow hsep, by rw [HN.out]; exact Owns.snoc hown'⟩, by simp [intOf]; omega⟩
      · have e : k = j := by omega
        have hok := HNo.out (by omega)
        rw [← e] at hok
        rw [HSu.out, hok] at HOk'
        have HX : Hid (rc = 5 ∧ rl = []) := by
          have h := HOk.out
          have h1 := HRC.out
          have h2 := HRL.out
          cases ok
          · exact ⟨h1.symm, h2.symm⟩
          · exact absurd (by omega) (h.1 rfl)
        clear hok e
        generalize l.getD k 0 = inp at *
        generalize runSt p xs l S k = st0 at *
        generalize endZ p xs inp st0 = ez at *
        go_wp2_with fail
        refine (HOk'.out _ hL).mono ?_
        rintro e w1 ⟨rfl, hb⟩
        replace hL := chain (B := w.heap.size) (a := w) hL (Nat.le_refl _) hb
        clear hb
        go_wp2_with fail
        go_ret2
        exact ⟨_, by rw [HX.out.1]; rfl, by rw [HX.out.2]; exact inNil _ _ _, hL⟩
    · have hkn : ¬ (k : Int) < (l.length : Int) := by omega
      have HX : Hid (rc = 0 ∧ rl = runL p xs l S l.length) := by
        have h := HOk.out.2 (by omega)
        exact ⟨by rw [← HRC.out, if_pos h], by rw [← HRL.out, if_pos h]⟩
      have e : k = l.length := by omega
      rw [e] at oo
      clear e
      generalize runSt p xs l S k = st0 at *
      go_wp2_with fail
      go_ret2
      exact ⟨_, by rw [HX.out.1]; rfl, by rw [HX.out.2]; exact In.of oo (Nat.le_succ _) (Nat.le_refl _), hL⟩

theorem iRunInputs_any (p : Int) (v : Value) (xs : List Int) (s : Int) (vl : Value) (l : List Int) (w : World) (ha : Reads w v xs) (hl : Reads w vl l) :
    Calls Try.prog 40 #[.agg #[.int .i64 p, v], .int .i64 s, vl] w fun e w' => ∃ u, e = .returned (.tuple #[u, .int .i64 (resRunInputs_1 p xs s l)]) ∧ In w' w.heap.size w'.heap.size u (resRunInputs_0 p xs s l) ∧ Below w.heap.size w w' := by
  unfold resRunInputs_0 resRunInputs_1
  by_cases h : runC p xs s l = 0
  · rw [if_pos h, if_pos h]
    obtain ⟨S, rfl, hS⟩ := stateN (runC_zero h).2.1
    rw [Int.toNat_natCast]
    exact iRun_5 p v xs S vl l w ha hl h
  · rw [if_neg h, if_neg h]
    cases hb : cirB p xs
    · rw [show runC p xs s l = 1 by unfold runC; rw [hb]; rfl]
      exact (iRun_1 p v xs s vl l w ha hb).mono fun e w' h => ⟨_, h.1, inNil _ _ _, h.2⟩
    · rw [show runC p xs s l = 2 by
        unfold runC at h ⊢
        rw [if_pos hb] at h ⊢
        refine if_neg fun hx => h (if_pos hx)]
      cases h2 : inB s xs.length
      · exact (iRun_2 p v xs s vl l w ha hl hb h2).mono fun e w' h => ⟨_, h.1, inNil _ _ _, h.2⟩
      · by_cases h3 : l.length ≤ 100
        · have h4 : ¬ ∀ k, k < l.length → inB (l.getD k 0) p = true := fun hx => h (by unfold runC; rw [if_pos hb, if_pos ⟨h2, h3, hx⟩])
          exact (iRun_4 p v xs s vl l w ha hl hb h2 h3 h4).mono fun e w' h => ⟨_, h.1, inNil _ _ _, h.2⟩
        · exact (iRun_3 p v xs s vl l w ha hl hb h2 (by omega)).mono fun e w' h => ⟨_, h.1, inNil _ _ _, h.2⟩

theorem ownsHead {w : World} {base : Nat} {v : Value} {ys : List Int} (h : Owns w base v ys) (h1 : ys.length = 1) : ∃ g cap, v = .slice (some ⟨g, 0, none⟩) 1 cap ∧ w.cell? ⟨g, 0, none⟩ = some (.int .i64 (ys.getD 0 0)) := by
  have h' := h
  rcases h.2 with ⟨_, h0⟩ | ⟨g, cap, cur, rfl, hb, hg, hc, hm, _⟩
  · omega
  · refine ⟨g, cap, by rw [h1], ?_⟩
    have := World.ownsRow.cells (g := g) h' rfl 0 (.int .i64 (ys.getD 0 0)) (by
      match ys, h1 with
      | [y], _ => rfl)
    exact this
def linC (p : Int) (xs : List Int) (i : Int) : Int := if cirB p xs = true then (if inB i p = true then 0 else 2) else 1
theorem codeL_lin (p : Int) (xs : List Int) (i : Int) : codeL p xs i [] = linC p xs i := by
  unfold codeL linC; simp
theorem in_zero {p : Int} {xs : List Int} (h : cirB p xs = true) : inB 0 p = true := by
  obtain ⟨⟨p1, p4⟩, _, _, _⟩ := cirB_out h
  unfold inB rcZ
  refine decide_eq_true ⟨Int.le_refl _, ?_⟩
  have := Nat.two_pow_pos p.toNat
  omega

theorem sRun_1 (p : Int) (v : Value) (xs : List Int) (s : Int) (vl : Value) (l : List Int) (w : World) (ha : Reads w v xs) (hl : Reads w vl l) {c : Int} (hc : sitC p xs 0 s = c) (h0 : c ≠ 0) :
    Calls Try.prog 38 #[.agg #[.int .i64 p, v], .int .i64 s, vl] w fun e w' => e = .returned (.tuple #[.slice none 0 0, .int .i64 c]) ∧ Below w.heap.size w w' := by
  have HE := Lib.hid (fun w' vs (h : Below w.heap.size w w') (hs : Reads w' vs [s]) => l06Code_any p 0 v vs xs [s] w' (ha.keep h) hs (c := c) (by rw [codeL_one]; exact hc))
  obtain ⟨a, ca, rfl, hm, ha'⟩ := ha
  obtain ⟨la, lc, rfl, hm2, _⟩ := hl
  have HO := Lib.hid (reads_one (w.alloc (.cells #[.int .i64 p, .slice a xs.length ca] 27)) s 2)
  have k0 := (C2.here w (.int .i64 p) (.slice a xs.length ca) 27).alloc (.cells #[.int .i64 s] 2)
  have hne : (c != 0) = true := by simp [h0]
  have hne2 : (c == 0) = false := by simp [h0]
  clear hc ha'
  generalize xs.length = n at *
  by_cases hln : (0 : Int) < (l.length : Int)
  · generalize l.length = ln at *
    go_enter Try.func38, Try.ntmps38
    go_wp2_with ((go_at_call 58; (with_reducible refine (HE.out _ _ (by go_grown) (by simpa using HO.out)).mono ?_); rintro e w' ⟨rfl, hb⟩; have hL := chain (B := w.heap.size) (a := w) (by go_grown) (Nat.le_refl _) hb; (first | replace k0 := keepAt hb k0 | replace k0 := keepAt hb (C2.alloc k0 _)); clear hb))
    go_loopw [8, 9] (fun u d wr => u = .int .i64 c ∧ d = .int .i64 0 ∧ Below w.heap.size w wr) (fun _ _ _ => 0)
    case atStart => exact ⟨rfl, rfl, hL⟩
    case round =>
      obtain ⟨rfl, rfl, hL⟩ := hrel
      go_wp2_with fail
      go_ret2
      exact ⟨rfl, hL⟩
  · generalize l.length = ln at *
    go_enter Try.func38, Try.ntmps38
    go_wp2_with ((go_at_call 58; (with_reducible refine (HE.out _ _ (by go_grown) (by simpa using HO.out)).mono ?_); rintro e w' ⟨rfl, hb⟩; have hL := chain (B := w.heap.size) (a := w) (by go_grown) (Nat.le_refl _) hb; (first | replace k0 := keepAt hb k0 | replace k0 := keepAt hb (C2.alloc k0 _)); clear hb))
    go_loopw [8, 9] (fun u d wr => u = .int .i64 c ∧ d = .int .i64 0 ∧ Below w.heap.size w wr) (fun _ _ _ => 0)
    case atStart => exact ⟨rfl, rfl, hL⟩
    case round =>
      obtain ⟨rfl, rfl, hL⟩ := hrel
      go_wp2_with fail
      go_ret2
      exact ⟨rfl, hL⟩

theorem sRun_2 (p : Int) (v : Value) (xs : List Int) (s : Int) (vl : Value) (l : List Int) (w : World) (ha : Reads w v xs) (hl : Reads w vl l) (hc : sitC p xs 0 s = 0) (h0 : 100 < l.length) :
    Calls Try.prog 38 #[.agg #[.int .i64 p, v], .int .i64 s, vl] w fun e w' => e = .returned (.tuple #[.slice none 0 0, .int .i64 2]) ∧ Below w.heap.size w w' := by
  have HE := Lib.hid (fun w' vs (h : Below w.heap.size w w') (hs : Reads w' vs [s]) => l06Code_any p 0 v vs xs [s] w' (ha.keep h) hs (c := 0) (by rw [codeL_one]; exact hc))
  obtain ⟨a, ca, rfl, hm, ha'⟩ := ha
  obtain ⟨la, lc, rfl, hm2, _⟩ := hl
  have HO := Lib.hid (reads_one (w.alloc (.cells #[.int .i64 p, .slice a xs.length ca] 27)) s 2)
  have k0 := (C2.here w (.int .i64 p) (.slice a xs.length ca) 27).alloc (.cells #[.int .i64 s] 2)
  have hln : (0 : Int) < (l.length : Int) := by omega
  have hln2 : (100 : Int) < (l.length : Int) := by omega
  clear hc ha' h0
  generalize xs.length = n at *
  generalize l.length = ln at *
  go_enter Try.func38, Try.ntmps38
  go_wp2_with ((go_at_call 58; (with_reducible refine (HE.out _ _ (by go_grown) (by simpa using HO.out)).mono ?_); rintro e w' ⟨rfl, hb⟩; have hL := chain (B := w.heap.size) (a := w) (by go_grown) (Nat.le_refl _) hb; (first | replace k0 := keepAt hb k0 | replace k0 := keepAt hb (C2.alloc k0 _)); clear hb))
  go_loopw [8, 9] (fun u d wr => u = .int .i64 2 ∧ d = .int .i64 0 ∧ Below w.heap.size w wr) (fun _ _ _ => 0)
  case atStart => exact ⟨rfl, rfl, hL⟩
  case round =>
    obtain ⟨rfl, rfl, hL⟩ := hrel
    go_wp2_with fail
    go_ret2
    exact ⟨rfl, hL⟩

set_option maxRecDepth 100000 in
set_option maxHeartbeats 8000000 in
theorem sRun_3 (p : Int) (v : Value) (xs : List Int) (S : Nat) (vl : Value) (l : List Int) (w : World) (ha : Reads w v xs) (hl : Reads w vl l) (hb : cirB p xs = true) (h2 : inB (S : Int) xs.length = true) (h3 : l.length ≤ 100) {rc : Int} {rl : List Int}
    (HRC : (¬ ∀ k, k < l.length → inB (l.getD k 0) p = true) → rc = 2 ∧ rl = [])
    (HRC2 : (∀ k, k < l.length → inB (l.getD k 0) p = true) → rc = (if runOk p xs l S = true then 0 else 5) ∧ rl = (if runOk p xs l S = true then runL p xs l S l.length else [])) :
    Calls Try.prog 38 #[.agg #[.int .i64 p, v], .int .i64 (S : Int), vl] w fun e w' => ∃ u, e = .returned (.tuple #[u, .int .i64 rc]) ∧ Reads w' u rl ∧ Below w.heap.size w w' := by
  obtain ⟨i0, hi0, hz0, hz1, hz2⟩ := info_parts info64
  obtain ⟨⟨p1, p4⟩, ⟨n1, n4⟩, _, _⟩ := cirB_out hb
  have hS : S < 2 ^ xs.length := by obtain ⟨T, e, hT⟩ := stateN h2; omega
  have hc : sitC p xs 0 (S : Int) = 0 := sitC_ok hb (in_zero hb) h2
  have HE := Lib.hid (fun w' vs (h : Below w.heap.size w w') (hs : Reads w' vs [(S : Int)]) => l06Code_any p 0 v vs xs [(S : Int)] w' (ha.keep h) hs (c := 0) (by rw [codeL_one]; exact hc))
  have HE2 := Lib.hid (fun (i : Int) (b : Bool) (hb1 : inB i p = b) w' (h : Below w.heap.size w w') => l06Code_any p i v (.slice none 0 0) xs [] w' (ha.keep h) (inNil _ 0 0).reads (c := if b = true then 0 else 2) (by rw [codeL_lin]; unfold linC; rw [if_pos hb, hb1]))
  have HSu := Lib.hid (fun (k : Nat) (hk : inB (l.getD k 0) p = true) w' (h : Below w.heap.size w w') => l06Sure_any p (l.getD k 0) (runSt p xs l S k) v xs w' (ha.keep h) hb hk (runSt_lt hS k))
  have HEn := Lib.hid (fun (k : Nat) (hk : inB (l.getD k 0) p = true) w' (h : Below w.heap.size w w') => l06Ends_any p (l.getD k 0) (runSt p xs l S k) v xs w' (ha.keep h) hb hk (runSt_lt hS k))
  have HOne : Hid (∀ k, runOkB p xs l S k = true → (intsN (endsU p xs (l.getD k 0) (runSt p xs l S k))).length = 1 ∧ (intsN (endsU p xs (l.getD k 0) (runSt p xs l S k))).getD 0 0 = ((runSt p xs l S (k + 1) : Nat) : Int)) := fun k h => by
    refine ⟨?_, by rw [intsN_at]; rfl⟩
    rw [intsN_len]
    unfold runOkB sureB at h
    rw [Bool.and_eq_true] at h
    exact of_decide_eq_true h.1
  have HSure : Hid (∀ k, sureB p xs (l.getD k 0) (runSt p xs l S k) = runOkB p xs l S k) := fun k => rfl
  -- the first input that is none
  obtain ⟨j1, hj1, hno1, hyes1⟩ := firstB (fun k => !(inB (l.getD k 0) p)) l.length
  have HY1 : Hid (∀ k, k < j1 → inB (l.getD k 0) p = true) := fun k hk => by have := hno1 k hk; simpa using this
  have HN1 : Hid (j1 < l.length → inB (l.getD j1 0) p = false) := fun h => by have := hyes1 h; simpa using this
  have HRa : Hid (j1 < l.length → rc = 2 ∧ rl = []) := fun h => HRC fun hall => by have := hall j1 h; rw [HN1.out h] at this; cases this
  have HRb : Hid (¬ j1 < l.length → rc = (if runOk p xs l S = true then 0 else 5) ∧ rl = (if runOk p xs l S = true then runL p xs l S l.length else [])) := fun h => HRC2 fun k hk => HY1.out k (by omega)
  -- the first that does not settle
  obtain ⟨j, hj, hno, hyes⟩ := firstB (fun k => !(runOkB p xs l S k)) l.length
  have HY : Hid (∀ k, k < j → runOkB p xs l S k = true) := fun k hk => by have := hno k hk; simpa using this
  have HNo : Hid (j < l.length → runOkB p xs l S j = false) := fun h => by have := hyes h; simpa using this
  have HOk : Hid (runOk p xs l S = true ↔ ¬ j < l.length) := by
    unfold Hid runOk
    rw [List.all_eq_true]
    constructor
    · intro h hlt
      have := h j (List.mem_range.2 hlt)
      rw [HNo.out hlt] at this; cases this
    · intro h k hk
      exact HY.out k (by have := List.mem_range.1 hk; omega)
  have HR0 : Hid (runL p xs l S 0 = []) := rfl
  have HRS := Lib.hid (runL_succ p xs l S)
  have HRl := Lib.hid (runL_len p xs l S)
  have HS0 : Hid (runSt p xs l S 0 = S) := rfl
  have h3I : ¬ (100 : Int) < (l.length : Int) := by omega
  have HLR := Lib.hid hl
  obtain ⟨a, ca, rfl, hm, ha'⟩ := ha
  obtain ⟨la, lc, rfl, hm2, _⟩ := hl
  have HO := Lib.hid (reads_one (w.alloc (.cells #[.int .i64 p, .slice a xs.length ca] 27)) (S : Int) 2)
  have k0 := (C2.here w (.int .i64 p) (.slice a xs.length ca) 27).alloc (.cells #[.int .i64 (S : Int)] 2)
  clear hb h2 hc hS ha' hno hyes hno1 hyes1 HRC HRC2
  generalize runOk p xs l S = ok at *
  generalize xs.length = n at *
  go_enter Try.func38, Try.ntmps38
  go_wp2_with ((go_at_call 58; (with_reducible refine (HE.out _ _ (by go_grown) (by simpa using HO.out)).mono ?_); rintro e w' ⟨rfl, hb⟩; have hL := chain (B := w.heap.size) (a := w) (by go_grown) (Nat.le_refl _) hb; (first | replace k0 := keepAt hb k0 | replace k0 := keepAt hb (C2.alloc k0 _)); clear hb))
  have HK0 := Lib.hid k0
  clear k0
  go_loopw [8, 9] (fun u c wr => ∃ (k : Nat) (d : Int), k ≤ l.length ∧ c = .int .i64 (k : Int) ∧ u = .int .i64 d ∧ Below w.heap.size w wr ∧ C2 wr w.heap.size (.int .i64 p) (.slice a n ca) ∧ Hid ((d = 0 ∧ k ≤ j1) ∨ (d = 2 ∧ j1 < l.length))) (fun _ c _ => l.length - (intOf c).toNat)
  case atStart => exact ⟨0, 0, Nat.zero_le _, rfl, rfl, hL, HK0.out, .inl ⟨rfl, Nat.zero_le _⟩⟩
  case round =>
    clear hL HK0
    obtain ⟨k, d, hk, rfl, rfl, hL, k0, hd⟩ := hrel
    rcases hd with ⟨rfl, hkj⟩ | ⟨rfl, hjl⟩
    · by_cases hlt : k < l.length
      · have hki0 : (0 : Int) ≤ (k : Int) := by omega
        have hki1 : (k : Int) < (l.length : Int) := by omega
        obtain ⟨la', lc', ev, _, hcv⟩ := HLR.out.keep hL
        injection ev with e1 e2 e3
        subst e1; subst e3
        clear e2
        rcases hcv with hnil | ⟨gl, offl, rfl, hcv⟩
        · rw [hnil] at hlt; simp at hlt
        have hc0 := hcv k hlt
        obtain ⟨bb, hbb⟩ : ∃ bb, inB (l.getD k 0) p = bb := ⟨_, rfl⟩
        have HEk := Lib.hid (HE2.out (l.getD k 0) bb hbb)
        have HBB : Hid ((bb = true ∧ k < j1) ∨ (bb = false ∧ j1 < l.length)) := by
          by_cases h : k < j1
          · exact .inl ⟨by rw [← hbb]; exact HY1.out k h, h⟩
          · have e : k = j1 := by omega
            exact .inr ⟨by rw [← hbb, e]; exact HN1.out (by omega), by omega⟩
        obtain ⟨d', hd'⟩ : ∃ d' : Int, (if bb = true then 0 else 2) = d' := ⟨_, rfl⟩
        rw [hd'] at HEk
        have HD : Hid ((d' = 0 ∧ k + 1 ≤ j1) ∨ (d' = 2 ∧ j1 < l.length)) := by
          rcases HBB.out with ⟨h, h2⟩ | ⟨h, h2⟩
          · exact .inl ⟨by rw [← hd', if_pos h], h2⟩
          · exact .inr ⟨by rw [← hd', h]; rfl, h2⟩
        clear hcv hbb hd' HBB
        generalize l.getD k 0 = inp at *
        go_wp2_with fail
        go_region_held3 (fun w' => C2 w' w.heap.size (.int .i64 p) (.slice a n ca) ∧ w'.cell? ⟨gl, offl + k, none⟩ = some (.int .i64 inp)) ((refine ⟨?_, ?_⟩ <;> first | ((repeat' (first | (with_reducible assumption) | (with_reducible refine C2.drewU ?_) | (with_reducible refine C2.alloc ?_ _) | (with_reducible refine C2.set ?_ _ _ _ (by omega)))); done) | assumption)) ((go_at_call 58; (with_reducible refine (HEk.out _ (by go_grown)).mono ?_); rintro e w2 ⟨rfl, hb⟩; have hL := chain (B := w.heap.size) (a := w) (by go_grown) (Nat.le_refl _) hb; replace k0 := keepAt hb (show C2 _ w.heap.size (.int .i64 p) (.slice a n ca) from by (repeat' (first | (with_reducible assumption) | (with_reducible refine C2.drewU ?_) | (with_reducible refine C2.alloc ?_ _) | (with_reducible refine C2.set ?_ _ _ _ (by omega))))); replace hc0 := cell_later hb (by first | exact hc0 | assumption); clear hb))
        all_goals (go_wp2_with fail)
        all_goals (exact ⟨⟨k + 1, d', by omega, by go_num, rfl, by first | exact hL | go_grown, by first | exact k0 | (repeat' (first | (with_reducible assumption) | (with_reducible refine C2.drewU ?_) | (with_reducible refine C2.alloc ?_ _) | (with_reducible refine C2.set ?_ _ _ _ (by omega)))), HD⟩, by simp [intOf]; omega⟩)
      · have hkn : ¬ (k : Int) < (l.length : Int) := by omega
        have hRb := HRb.out (by omega)
        have HIn : Hid (∀ k, k < l.length → inB (l.getD k 0) p = true) := fun q hq => HY1.out q (by omega)
        have HX0 := Lib.hid hRb
        clear hRb
        have hkb := k0.2.2.2.2
        have HOO : Hid (Owns (wr.alloc (.cells #[] 2)) (w.heap.size + 1) (.slice (some ⟨wr.heap.size, 0, none⟩) 0 0) (runL p xs l S 0)) := World.ownsRow_made (base := w.heap.size + 1) (e := 2) (size := 1) wr #[] 0 (by omega) (by simp) rfl
        go_wp2_with fail
        go_loopw [1, 10, 11] (fun st u c wr => ∃ k : Nat, k ≤ j ∧ c = .int .i64 (k : Int) ∧ st = .int .i64 ((runSt p xs l S k : Nat) : Int) ∧ Below w.heap.size w wr ∧ C2 wr w.heap.size (.int .i64 p) (.slice a n ca) ∧ Hid (Owns wr (w.heap.size + 1) u (runL p xs l S k))) (fun _ _ c _ => l.length - (intOf c).toNat)
        case atStart => exact ⟨0, Nat.zero_le _, rfl, by rw [HS0.out], by go_grown, k0.alloc _, HOO⟩
        case round =>
          clear hL k0 hkb HOO hlt hk hkn hkj
          obtain ⟨k, hk, rfl, rfl, hL, k0, oo⟩ := hrel
          have hkb := k0.2.2.2.2
          by_cases hlt : k < l.length
          · have hin := HIn.out k hlt
            have HSk := Lib.hid (HSu.out k hin)
            have HEk := Lib.hid (HEn.out k hin)
            have hki0 : (0 : Int) ≤ (k : Int) := by omega
            have hki1 : (k : Int) < (l.length : Int) := by omega
            obtain ⟨la', lc', ev, _, hcv⟩ := HLR.out.keep hL
            injection ev with e1 e2 e3
            subst e1; subst e3
            clear e2
            rcases hcv with hnil | ⟨gl, offl, rfl, hcv⟩
            · rw [hnil] at hlt; simp at hlt
            have hc0 := hcv k hlt
            have HSq := Lib.hid (HSure.out k)
            have hll := HRl.out k
            clear hcv hin
            by_cases hkj : k < j
            · have hok := HY.out k hkj
              rw [HSq.out, hok] at HSk
              have HON := Lib.hid (HOne.out k hok)
              have HN := Lib.hid (HRS.out k)
              obtain ⟨st1, hst1⟩ : ∃ x, runSt p xs l S (k + 1) = x := ⟨_, rfl⟩
              rw [hst1] at HON HN
              have HST1 := Lib.hid hst1
              clear hst1 hok HSq
              generalize intsN (endsU p xs (l.getD k 0) (runSt p xs l S k)) = E at *
              generalize l.getD k 0 = inp at *
              generalize runSt p xs l S k = st0 at *
              generalize runL p xs l S k = R at *
              go_wp2_with fail
              go_region_held3 (fun w' => C2 w' w.heap.size (.int .i64 p) (.slice a n ca) ∧ w'.cell? ⟨gl, offl + k, none⟩ = some (.int .i64 inp)) ((refine ⟨?_, ?_⟩ <;> first | ((repeat' (first | (with_reducible assumption) | (with_reducible refine C2.drewU ?_) | (with_reducible refine C2.alloc ?_ _) | (with_reducible refine C2.set ?_ _ _ _ (by omega)))); done) | assumption)) ((go_at_call 76; (with_reducible refine (HSk.out _ (by go_grown)).mono ?_); rintro e w2 ⟨rfl, hb⟩; have hL := chain (B := w.heap.size) (a := w) (by go_grown) (Nat.le_refl _) hb; replace k0 := keepAt hb (show C2 _ w.heap.size (.int .i64 p) (.slice a n ca) from by (repeat' (first | (with_reducible assumption) | (with_reducible refine C2.drewU ?_) | (with_reducible refine C2.alloc ?_ _) | (with_reducible refine C2.set ?_ _ _ _ (by omega))))); replace hc0 := cell_later hb (by first | exact hc0 | assumption); replace oo := Lib.hid (ownsKeepAt hb (by exact oo.out)); clear hb))
              all_goals (go_wp2_with fail)
              all_goals (go_region_with ((go_at_call 70; (with_reducible refine (HEk.out _ (by go_grown)).mono ?_); rintro e w3 ⟨u3, rfl, o3, hb⟩; obtain ⟨ge, ec, rfl, he0⟩ := ownsHead o3 HON.out.1; rw [HON.out.2] at he0; have hL := chain (B := w.heap.size) (a := w) (by go_grown) (Nat.le_refl _) hb; replace k0 := keepAt hb (show C2 _ w.heap.size (.int .i64 p) (.slice a n ca) from by (repeat' (first | (with_reducible assumption) | (with_reducible refine C2.drewU ?_) | (with_reducible refine C2.alloc ?_ _) | (with_reducible refine C2.set ?_ _ _ _ (by omega))))); replace hc0 := cell_later hb (by first | exact hc0 | assumption); replace oo := Lib.hid (ownsKeepAt hb (by exact oo.out)); clear hb o3)))
              all_goals (have hz' := hL.size)
              all_goals (have hkb2 := k0.2.2.2.2)
              all_goals (have hfrom := oo.out.rowsFrom (B := w.heap.size) (by omega))
              all_goals (have hsep := oo.out.notBlock (b := w.heap.size) (by omega))
              all_goals (go_wp2_with (at_builtin; refine wpList_append_own _ rfl _ _ 22 rfl (w.heap.size + 1) 2 i0 (.int .i64 0) 1 8 Try.underlying22 hi0 hz0 hz1 hz2 rfl (by decide) _ _ _ rfl (World.ownsRow.alloc oo.out _) ⟨w3.heap.size, 0, none⟩ 1 1 [.int .i64 (st1 : Int)] rfl rfl (cell_one_new _ _ _) (by simp [Value.oneCell']) (by unfold maxLen; omega) (by omega) (by simp; omega) ?_; intro v' w5 hown' hgrow hnil))
              all_goals (exact ⟨⟨k + 1, by omega, by go_num, by rw [HST1.out], (hL.alloc (by omega) _).grown hgrow (by simp; omega) hfrom, (k0.alloc _).grown hgrow hsep, by rw [HN.out]; exact Owns.snoc hown'⟩, by simp [intOf]; omega⟩)
            · have e : k = j := by omega
              have hok := HNo.out (by omega)
              rw [← e] at hok
              rw [HSq.out, hok] at HSk
              have HX : Hid (rc = 5 ∧ rl = []) := by
                have h := HOk.out
                have h1 := HX0.out
                cases ok
                · exact ⟨h1.1, h1.2⟩
                · exact absurd (by omega) (h.1 rfl)
              clear hok e HSq HEk
              generalize l.getD k 0 = inp at *
              generalize runSt p xs l S k = st0 at *
              go_wp2_with fail
              go_region_held3 (fun w' => C2 w' w.heap.size (.int .i64 p) (.slice a n ca) ∧ w'.cell? ⟨gl, offl + k, none⟩ = some (.int .i64 inp)) ((refine ⟨?_, ?_⟩ <;> first | ((repeat' (first | (with_reducible assumption) | (with_reducible refine C2.drewU ?_) | (with_reducible refine C2.alloc ?_ _) | (with_reducible refine C2.set ?_ _ _ _ (by omega)))); done) | assumption)) ((go_at_call 76; (with_reducible refine (HSk.out _ (by go_grown)).mono ?_); rintro e w2 ⟨rfl, hb⟩; have hL := chain (B := w.heap.size) (a := w) (by go_grown) (Nat.le_refl _) hb; replace k0 := keepAt hb (show C2 _ w.heap.size (.int .i64 p) (.slice a n ca) from by (repeat' (first | (with_reducible assumption) | (with_reducible refine C2.drewU ?_) | (with_reducible refine C2.alloc ?_ _) | (with_reducible refine C2.set ?_ _ _ _ (by omega))))); replace hc0 := cell_later hb (by first | exact hc0 | assumption); clear hb))
              all_goals (go_wp2_with fail)
              all_goals go_ret2
              all_goals (exact ⟨_, by rw [HX.out.1]; rfl, by rw [HX.out.2]; exact (inNil _ 0 0).reads, by first | exact hL | go_grown⟩)
          · have hkn : ¬ (k : Int) < (l.length : Int) := by omega
            have HX : Hid (rc = 0 ∧ rl = runL p xs l S l.length) := by
              have h := HOk.out.2 (by omega)
              have h1 := HX0.out
              rw [if_pos h, if_pos h] at h1; exact h1
            have e : k = l.length := by omega
            rw [e] at oo
            clear e
            generalize runSt p xs l S k = st0 at *
            go_wp2_with fail
            go_ret2
            exact ⟨_, by rw [HX.out.1]; rfl, by rw [HX.out.2]; exact oo.out.reads, hL⟩
    · have HX := Lib.hid (HRa.out hjl)
      by_cases hlt : (k : Int) < (l.length : Int)
      · go_wp2_with fail
        go_ret2
        exact ⟨_, by rw [HX.out.1]; rfl, by rw [HX.out.2]; exact (inNil _ 0 0).reads, hL⟩
      · go_wp2_with fail
        go_ret2
        exact ⟨_, by rw [HX.out.1]; rfl, by rw [HX.out.2]; exact (inNil _ 0 0).reads, hL⟩

theorem sRunInputs_any (p : Int) (v : Value) (xs : List Int) (s : Int) (vl : Value) (l : List Int) (w : World) (ha : Reads w v xs) (hl : Reads w vl l) :
    Calls Try.prog 38 #[.agg #[.int .i64 p, v], .int .i64 s, vl] w fun e w' => ∃ u, e = .returned (.tuple #[u, .int .i64 (resRunInputs_1 p xs s l)]) ∧ Reads w' u (resRunInputs_0 p xs s l) ∧ Below w.heap.size w w' := by
  cases hb : cirB p xs
  · have e : runC p xs s l = 1 := by unfold runC; rw [hb]; rfl
    have h0 : runC p xs s l ≠ 0 := by rw [e]; decide
    unfold resRunInputs_0 resRunInputs_1
    rw [if_neg h0, if_neg h0, e]
    exact (sRun_1 p v xs s vl l w ha hl (sitC_inv hb) (by decide)).mono fun e w' h => ⟨_, h.1, (inNil _ 0 0).reads, h.2⟩
  · cases h2 : inB s xs.length
    · have e : runC p xs s l = 2 := by
        unfold runC; rw [if_pos hb]; exact if_neg fun h => by rw [h2] at h; cases h.1
      have h0 : runC p xs s l ≠ 0 := by rw [e]; decide
      unfold resRunInputs_0 resRunInputs_1
      rw [if_neg h0, if_neg h0, e]
      exact (sRun_1 p v xs s vl l w ha hl (sitC_s hb h2) (by decide)).mono fun e w' h => ⟨_, h.1, (inNil _ 0 0).reads, h.2⟩
    · by_cases h3 : l.length ≤ 100
      · obtain ⟨S, rfl, hS⟩ := stateN h2
        refine sRun_3 p v xs S vl l w ha hl hb h2 h3 (fun h => ?_) (fun h => ?_)
        · have h0 : runC p xs (S : Int) l = 2 := by unfold runC; rw [if_pos hb]; exact if_neg fun hx => h hx.2.2
          unfold resRunInputs_0 resRunInputs_1
          rw [if_neg (by rw [h0]; decide), if_neg (by rw [h0]; decide)]
          exact ⟨h0, rfl⟩
        · have h0 : runC p xs (S : Int) l = 0 := by unfold runC; rw [if_pos hb]; exact if_pos ⟨h2, h3, h⟩
          unfold resRunInputs_0 resRunInputs_1
          rw [if_pos h0, if_pos h0, Int.toNat_natCast]
          exact ⟨rfl, rfl⟩
      · have e : runC p xs s l = 2 := by
          unfold runC; rw [if_pos hb]; exact if_neg fun h => h3 h.2.1
        have h0 : runC p xs s l ≠ 0 := by rw [e]; decide
        unfold resRunInputs_0 resRunInputs_1
        rw [if_neg h0, if_neg h0, e]
        exact (sRun_2 p v xs s vl l w ha hl (sitC_ok hb (in_zero hb) h2) (by omega)).mono fun e w' h => ⟨_, h.1, (inNil _ 0 0).reads, h.2⟩

end Go.Proofs.Ytblbapehakcomaa
