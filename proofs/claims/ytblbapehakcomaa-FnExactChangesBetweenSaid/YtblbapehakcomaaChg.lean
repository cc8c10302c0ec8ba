/- ChangesBetween: the program's and the model's. -/
import Derived.Test.YtblbapehakcomaaPlc
namespace Go.Proofs.Ytblbapehakcomaa
open Go.RowKit
set_option linter.unusedVariables false

/-- nothing is appended where what is appended is nil -/
theorem run_appNone {P : Program} (w : World) (t ty e : TypeId) (i : TypeInfo) (ht : P.underlying t = some (.slice e)) (hi : P.info? e = some i) (g n cap : Nat) (hcap : n ≤ cap) :
    (Builtin.append_ #[t, t] ty #[.slice (some ⟨g, 0, none⟩) n cap, .slice none 0 0]).run P w = .ok (.slice (some ⟨g, 0, none⟩) n cap) w := by
  simp [Builtin.append_, run_underlying ht, sizeOf, typeInfo, hi, Builtin.lenOf, Builtin.firstCells, loadCells, hcap, storeCells]
theorem wpAppNone {P : Program} (w : World) {ops : Array Oper} {rest : List Oper} {o : Oper} {a : Act} {Q : Exit → Act → World → Prop} (hgd : o.guard = none) (s x : Operand) (t : TypeId)
    (ho : o.op = .call { callee := .builtin .append, args := #[s, x], argTypes := #[t, t] }) (e : TypeId) (i : TypeInfo) (ht : P.underlying t = some (.slice e)) (hi : P.info? e = some i)
    (g n cap : Nat) (hcap : n ≤ cap) (hs : a.eval s = .slice (some ⟨g, 0, none⟩) n cap) (hx : a.eval x = .slice none 0 0)
    (h : wpList P ops Q rest (a.put o.dst (.slice (some ⟨g, 0, none⟩) n cap)) w) : wpList P ops Q (o :: rest) a w := by
  refine wpList_plain hgd fun K hK => ?_
  have hr := run_appNone (P := P) w t o.type e i ht hi g n cap hcap
  unfold Oper.wp execOp
  simp only [ho, resolve, invoke, builtin, Sem.run_bind, Sem.run_pure, Result.andThen_ok, List.map_toArray, List.map_cons, List.map_nil, hs, hx, hr]
  exact hK _ _ h

theorem one_own {w : World} {base : Nat} {v : Value} {ys : List Int} (h : Owns w base v ys) : ∀ u ∈ [v], u.oneCell' = true := by
  intro u hu
  have : u = v := by simpa using hu
  subst this
  rcases h.2 with ⟨rfl, _⟩ | ⟨g, cap, cur, rfl, _⟩ <;> rfl
def chgC (p : Int) (xs : List Int) (i o : Int) : Int := if cirB p xs = true then (if inB i p = true ∧ inB o p = true then 0 else 2) else 1
theorem chgC_zero {p i o : Int} {xs : List Int} (h : chgC p xs i o = 0) : cirB p xs = true ∧ inB i p = true ∧ inB o p = true := by
  unfold chgC at h
  by_cases h1 : cirB p xs = true
  · rw [if_pos h1] at h
    by_cases h2 : inB i p = true ∧ inB o p = true
    · exact ⟨h1, h2⟩
    · rw [if_neg h2] at h; cases h
  · rw [if_neg h1] at h; cases h
def chgRow (p : Int) (xs : List Int) (o : Int) (j : Nat) : List Int := (j : Int) :: intsN (endsU p xs o j)
def stdU (p : Int) (xs : List Int) (i : Int) (k : Nat) : List Nat := ups k fun (j : Nat) => aimZ p xs i (j : Int) == (j : Int)
def chgTo (p : Int) (xs : List Int) (i o : Int) (k : Nat) : List (List Int) := (stdU p xs i k).map (chgRow p xs o)
theorem stdTo_U (p : Int) (xs : List Int) (i : Int) (k : Nat) : stdTo p xs i k = intsN (stdU p xs i k) := rfl
theorem chgTo_hit {p i o : Int} {xs : List Int} {k : Nat} (h : (aimZ p xs i (k : Int) == (k : Int)) = true) : chgTo p xs i o (k + 1) = chgTo p xs i o k ++ [chgRow p xs o k] := by
  unfold chgTo stdU; rw [ups_hit h, List.map_append]; rfl
theorem chgTo_miss {p i o : Int} {xs : List Int} {k : Nat} (h : (aimZ p xs i (k : Int) == (k : Int)) = false) : chgTo p xs i o (k + 1) = chgTo p xs i o k := by
  unfold chgTo stdU; rw [ups_miss h]
theorem stdU_len (p : Int) (xs : List Int) (i : Int) (k : Nat) : (stdU p xs i k).length ≤ k := ups_len _ _
theorem stdU_lt {p i : Int} {xs : List Int} {k x : Nat} (h : x ∈ stdU p xs i k) : x < k := by
  unfold stdU ups at h; exact List.mem_range.1 (List.mem_filter.1 h).1
def resChangesBetween_0 (p : Int) (xs : List Int) (i o : Int) : List (List Int) := if chgC p xs i o = 0 then chgTo p xs i o (2 ^ xs.length) else []
def resChangesBetween_1 (p : Int) (xs : List Int) (i o : Int) : Int := chgC p xs i o
theorem lenChangesBetween_0 (p : Int) (xs : List Int) (i o : Int) : (resChangesBetween_0 p xs i o).length ≤ 100000 ∧ (resChangesBetween_0 p xs i o).length + sumLen (resChangesBetween_0 p xs i o) (resChangesBetween_0 p xs i o).length ≤ 1000000 ∧ ∀ k, k < (resChangesBetween_0 p xs i o).length → ((resChangesBetween_0 p xs i o).getD k []).length ≤ 1048576 := by
  unfold resChangesBetween_0
  by_cases h : chgC p xs i o = 0
  · rw [if_pos h]
    have h16 := pow_le16 (cirB_out (chgC_zero h).1).2.1.2
    refine short (c := 17) (fun r hr => ?_) (by decide) ?_
    · unfold chgTo at hr
      obtain ⟨j, _, rfl⟩ := List.mem_map.1 hr
      unfold chgRow
      rw [List.length_cons, intsN_len]
      have := endsU_len p xs o j; omega
    · unfold chgTo; rw [List.length_map]; have := stdU_len p xs i (2 ^ xs.length); omega
  · rw [if_neg h]; exact short (c := 0) (fun r hr => by cases hr) (by decide) (by simp)

theorem iChg_no (p : Int) (v : Value) (xs : List Int) (i o : Int) (w : World) (ha : Reads w v xs) (h0 : chgC p xs i o ≠ 0) :
    Calls Try.prog 47 #[.agg #[.int .i64 p, v], .int .i64 i, .int .i64 o] w fun e w' => e = .returned (.tuple #[.slice none 0 0, .int .i64 (chgC p xs i o)]) ∧ Below w.heap.size w w' := by
  obtain ⟨b, hb⟩ : ∃ b, cirB p xs = b := ⟨_, rfl⟩
  have HC := Lib.hid (fun w' (h : Below w.heap.size w w') => isCircuit_any p v xs w' (ha.keep h) hb)
  cases b
  · have HR : Hid (chgC p xs i o = 1) := by unfold Hid chgC; rw [hb]; rfl
    obtain ⟨a, ca, rfl, hm, _⟩ := ha
    have k0 := C2.here w (.int .i64 p) (.slice a xs.length ca) 27
    clear hb h0
    generalize xs.length = n at *
    go_enter Try.func47, Try.ntmps47
    go_wp2_with ((go_at_call 18; (with_reducible refine (HC.out _ (by go_grown)).mono ?_); rintro e w' ⟨rfl, hb⟩; have hL := chain (B := w.heap.size) (a := w) (by go_grown) (Nat.le_refl _) hb; (first | replace k0 := keepAt hb k0 | replace k0 := keepAt hb (C2.alloc k0 _)); clear hb))
    go_ret2
    exact ⟨by rw [HR.out]; rfl, hL⟩
  · obtain ⟨⟨p1, p4⟩, _, _, _⟩ := cirB_out hb
    obtain ⟨b1, hb1⟩ : ∃ b, inB i p = b := ⟨_, rfl⟩
    have HI := Lib.hid (fun w' (h : Below w.heap.size w w') => areInputs_any p i v xs w' (ha.keep h) p1 (by omega) hb1)
    cases b1
    · have HR : Hid (chgC p xs i o = 2) := by unfold Hid chgC; rw [hb, hb1]; rfl
      obtain ⟨a, ca, rfl, hm, _⟩ := ha
      have k0 := C2.here w (.int .i64 p) (.slice a xs.length ca) 27
      clear hb hb1 h0
      generalize xs.length = n at *
      go_enter Try.func47, Try.ntmps47
      go_wp2_with (first | (go_at_call 18; (with_reducible refine (HC.out _ (by go_grown)).mono ?_); rintro e w' ⟨rfl, hb⟩; have hL := chain (B := w.heap.size) (a := w) (by go_grown) (Nat.le_refl _) hb; (first | replace k0 := keepAt hb k0 | replace k0 := keepAt hb (C2.alloc k0 _)); clear hb) | (go_at_call 65; (with_reducible refine (HI.out _ (by go_grown)).mono ?_); rintro e w' ⟨rfl, hb⟩; have hL := chain (B := w.heap.size) (a := w) (by go_grown) (Nat.le_refl _) hb; (first | replace k0 := keepAt hb k0 | replace k0 := keepAt hb (C2.alloc k0 _)); clear hb))
      go_ret2
      exact ⟨by rw [HR.out]; rfl, hL⟩
    · have hb2 : inB o p = false := by
        rcases h : inB o p with _ | _
        · rfl
        · exact absurd (by unfold chgC; rw [hb, hb1, h]; rfl) h0
      have HI2 := Lib.hid (fun w' (h : Below w.heap.size w w') => areInputs_any p o v xs w' (ha.keep h) p1 (by omega) hb2)
      have HR : Hid (chgC p xs i o = 2) := by unfold Hid chgC; rw [hb, hb1, hb2]; rfl
      obtain ⟨a, ca, rfl, hm, _⟩ := ha
      have k0 := C2.here w (.int .i64 p) (.slice a xs.length ca) 27
      clear hb hb1 hb2 h0
      generalize xs.length = n at *
      go_enter Try.func47, Try.ntmps47
      go_wp2_with (first | (go_at_call 18; (with_reducible refine (HC.out _ (by go_grown)).mono ?_); rintro e w' ⟨rfl, hb⟩; have hL := chain (B := w.heap.size) (a := w) (by go_grown) (Nat.le_refl _) hb; (first | replace k0 := keepAt hb k0 | replace k0 := keepAt hb (C2.alloc k0 _)); clear hb) | (go_at_call 65; (with_reducible refine (HI.out _ (by go_grown)).mono ?_); rintro e w' ⟨rfl, hb⟩; have hL := chain (B := w.heap.size) (a := w) (by go_grown) (Nat.le_refl _) hb; (first | replace k0 := keepAt hb k0 | replace k0 := keepAt hb (C2.alloc k0 _)); clear hb) | (go_at_call 65; (with_reducible refine (HI2.out _ (by go_grown)).mono ?_); rintro e w' ⟨rfl, hb⟩; have hL := chain (B := w.heap.size) (a := w) (by go_grown) (Nat.le_refl _) hb; (first | replace k0 := keepAt hb k0 | replace k0 := keepAt hb (C2.alloc k0 _)); clear hb))
      go_ret2
      exact ⟨by rw [HR.out]; rfl, hL⟩

set_option maxRecDepth 100000 in
set_option maxHeartbeats 4000000 in
theorem iChg_yes (p : Int) (v : Value) (xs : List Int) (i o : Int) (w : World) (ha : Reads w v xs) (h0 : chgC p xs i o = 0) :
    Calls Try.prog 47 #[.agg #[.int .i64 p, v], .int .i64 i, .int .i64 o] w fun e w' => ∃ u, e = .returned (.tuple #[u, .int .i64 0]) ∧ Own2 w' w.heap.size w'.heap.size u (chgTo p xs i o (2 ^ xs.length)) ∧ Below w.heap.size w w' := by
  obtain ⟨i0, hi0, hz0, hz1_, hz2⟩ := info_parts infoRow
  obtain ⟨j0, hj0_, jz0, jz1, jz2⟩ := info_parts info64
  obtain ⟨h1, h2, h3⟩ := chgC_zero h0
  obtain ⟨⟨p1, p4⟩, ⟨n1, n4⟩, _, _⟩ := cirB_out h1
  have hM16 := pow_le16 n4
  have HC := Lib.hid (fun w' (h : Below w.heap.size w w') => isCircuit_any p v xs w' (ha.keep h) h1)
  have HI := Lib.hid (fun w' (h : Below w.heap.size w w') => areInputs_any p i v xs w' (ha.keep h) p1 (by omega) h2)
  have HI2 := Lib.hid (fun w' (h : Below w.heap.size w w') => areInputs_any p o v xs w' (ha.keep h) p1 (by omega) h3)
  have HS := Lib.hid (fun w' (h : Below w.heap.size w w') => steadyStates_any p i v xs w' (ha.keep h) h1 h2)
  simp only [stdTo_U] at HS
  have HA : Hid (∀ (s : Nat) (hs : s < 2 ^ xs.length) w' (h : Below w.heap.size w w'), Calls Try.prog 69 #[.agg #[.int .i64 p, v], .agg #[.int .i64 o, .int .i64 (s : Int)]] w' fun e w'' => ∃ u, e = .returned u ∧ OwnsQ w'' w'.heap.size u o (rchL p xs o s) ∧ Below w'.heap.size w' w'') := fun s hs w' h => reachedFrom_any p o s v xs w' (ha.keep h) h1 h3 hs
  have HEn : Hid (∀ (s : Nat) (hs : s < 2 ^ xs.length) w' (u : Value) (h : Below w.heap.size w w') (hu : ReadsQ w' u o (rchL p xs o s)), Calls Try.prog 71 #[.agg #[.int .i64 p, v], u] w' fun e w'' => ∃ u, e = .returned u ∧ Owns w'' w'.heap.size u (intsN (endsU p xs o s)) ∧ Below w'.heap.size w' w'') := fun s hs w' u h hu => by
    have := endsAmong_any p o s v u xs w' (ha.keep h) h1 h3 hs hu
    rw [ends_asc hs] at this; exact this
  have HEl : Hid (∀ s, (intsN (endsU p xs o s)).length ≤ 16) := fun s => by rw [intsN_len]; have := endsU_len p xs o s; omega
  have HT : Hid (∀ k, k < (stdU p xs i (2 ^ xs.length)).length → ((stdU p xs i (2 ^ xs.length)).take (k + 1)).map (chgRow p xs o) = ((stdU p xs i (2 ^ xs.length)).take k).map (chgRow p xs o) ++ [((((stdU p xs i (2 ^ xs.length)).getD k 0 : Nat) : Int) :: intsN (endsU p xs o ((stdU p xs i (2 ^ xs.length)).getD k 0)))]) := fun k hk => by
    rw [List.take_succ_eq_append_getElem hk, List.map_append]
    simp [List.getD_eq_getElem?_getD, hk, chgRow]
  have HT0 : Hid (((stdU p xs i (2 ^ xs.length)).take 0).map (chgRow p xs o) = []) := by simp [Hid]
  have HTN : Hid (((stdU p xs i (2 ^ xs.length)).take (stdU p xs i (2 ^ xs.length)).length).map (chgRow p xs o) = chgTo p xs i o (2 ^ xs.length)) := by unfold Hid chgTo; rw [List.take_length]
  have HUl : Hid (∀ k, k < (stdU p xs i (2 ^ xs.length)).length → (stdU p xs i (2 ^ xs.length)).getD k 0 < 2 ^ xs.length) := fun k hk => by
    refine stdU_lt (p := p) (i := i) (xs := xs) ?_
    rw [List.getD_eq_getElem?_getD, List.getElem?_eq_getElem hk]; exact List.getElem_mem hk
  have hUL := stdU_len p xs i (2 ^ xs.length)
  generalize chgTo p xs i o (2 ^ xs.length) = RES at *
  generalize stdU p xs i (2 ^ xs.length) = U at *
  generalize 2 ^ xs.length = M at *
  obtain ⟨a, ca, rfl, hm, ha'⟩ := ha
  have k0 := C2.here w (.int .i64 p) (.slice a xs.length ca) 27
  clear ha' h0 h1 h2 h3
  generalize hn : xs.length = n at *
  clear hn
  go_enter Try.func47, Try.ntmps47
  go_wp2_with (first | (go_at_call 18; (with_reducible refine (HC.out _ (by go_grown)).mono ?_); rintro e w' ⟨rfl, hb⟩; have hL := chain (B := w.heap.size) (a := w) (by go_grown) (Nat.le_refl _) hb; (first | replace k0 := keepAt hb k0 | replace k0 := keepAt hb (C2.alloc k0 _)); clear hb) | (go_at_call 65; (with_reducible refine (HI.out _ (by go_grown)).mono ?_); rintro e w' ⟨rfl, hb⟩; have hL := chain (B := w.heap.size) (a := w) (by go_grown) (Nat.le_refl _) hb; (first | replace k0 := keepAt hb k0 | replace k0 := keepAt hb (C2.alloc k0 _)); clear hb) | (go_at_call 65; (with_reducible refine (HI2.out _ (by go_grown)).mono ?_); rintro e w' ⟨rfl, hb⟩; have hL := chain (B := w.heap.size) (a := w) (by go_grown) (Nat.le_refl _) hb; (first | replace k0 := keepAt hb k0 | replace k0 := keepAt hb (C2.alloc k0 _)); clear hb))
  refine (HS.out _ hL).mono ?_
  rintro e w1 ⟨u, rfl, ou, hb⟩
  replace hL := chain (B := w.heap.size) (a := w) hL (Nat.le_refl _) hb
  replace k0 := keepAt hb k0
  have HUR := Lib.hid ou.reads
  obtain ⟨ua, uc, rfl, _, _⟩ := ou.reads
  rw [intsN_len] at HUR ⊢
  have HL1 := Lib.hid hL
  have K1 := Lib.hid k0
  have hz1 := hL.size
  clear hb ou hL k0
  go_wp2_with fail
  go_loopw [8, 29] (fun r c wr => ∃ k : Nat, k ≤ U.length ∧ c = .int .i64 (k : Int) ∧ Below w1.heap.size w1 wr ∧ Hid (Own2 wr w1.heap.size wr.heap.size r ((U.take k).map (chgRow p xs o)))) (fun _ c _ => U.length - (intOf c).toNat)
  case atStart => exact ⟨0, Nat.zero_le _, rfl, Below.refl _ _, by rw [HT0.out]; exact own2Nil _ _ _⟩
  case round =>
    obtain ⟨k, hk, rfl, hLz, hO⟩ := hrel
    have hL := HL1.out.trans (hLz.mono hz1)
    have k0 := keepAt hLz K1.out
    have hzr := hLz.size
    by_cases hkl : k < U.length
    · obtain ⟨x, hx⟩ : ∃ x, U.getD k 0 = x := ⟨_, rfl⟩
      have hxM := HUl.out k hkl
      have HTk := Lib.hid (HT.out k hkl)
      rw [hx] at hxM HTk
      have HAx := Lib.hid (HA.out x hxM)
      have HEx := Lib.hid (HEn.out x hxM)
      have hEl := HEl.out x
      have hLl : ((U.take k).map (chgRow p xs o)).length ≤ 16 := by rw [List.length_map, List.length_take]; omega
      obtain ⟨ua', uc', ev, _, hcv⟩ := HUR.out.keep hLz
      injection ev with e1 e2 e3
      subst e1; subst e3
      clear e2
      rcases hcv with hnil | ⟨gu, offu, rfl, hcv⟩
      · have := intsN_len U; rw [hnil] at this; simp at this; omega
      have hd0 := hcv k (by rw [intsN_len]; exact hkl)
      rw [intsN_at, hx] at hd0
      have hkI0 : (0 : Int) ≤ (k : Int) := by omega
      have hkI1 : (k : Int) < (U.length : Int) := by omega
      clear hcv hx
      generalize (U.take k).map (chgRow p xs o) = L at *
      generalize intsN (endsU p xs o x) = E at *
      generalize rchL p xs o x = RR at *
      go_wp2_with fail
      go_region_held3 (fun w' => C2 w' w.heap.size (.int .i64 p) (.slice a n ca)) ((repeat' (first | (with_reducible assumption) | (with_reducible refine C2.drewU ?_) | (with_reducible refine C2.alloc ?_ _) | (with_reducible refine C2.set ?_ _ _ _ (by omega))))) (first | (go_at_call 69; (with_reducible refine (HAx.out _ (by go_grown)).mono ?_); rintro e w2 ⟨uq, rfl, ou, hb⟩; have hL := chain (B := w.heap.size) (a := w) (by go_grown) (Nat.le_refl _) hb; have hLz := chain (B := w1.heap.size) (a := w1) (by go_grown) (by first | exact hzr | go_num | omega) hb; replace k0 := keepAt hb (show C2 _ w.heap.size (.int .i64 p) (.slice a n ca) from by (repeat' (first | (with_reducible assumption) | (with_reducible refine C2.drewU ?_) | (with_reducible refine C2.alloc ?_ _) | (with_reducible refine C2.set ?_ _ _ _ (by omega))))); replace hO := Lib.hid (Own2.later (by exact hO.out) hb); have HOR := Lib.hid ou.reads; have hs1 := hb.size; obtain ⟨qa, qc, rfl, _, _⟩ := ou.reads; clear hb ou) | (go_at_call 71; (with_reducible refine (HEx.out _ _ (by go_grown) (by exact HOR.out.keep (by go_grown))).mono ?_); rintro e w3 ⟨u3, rfl, o3, hb⟩; have hs2 := hLz.size; have hL := chain (B := w.heap.size) (a := w) (by go_grown) (Nat.le_refl _) hb; have hLz := chain (B := w1.heap.size) (a := w1) (by go_grown) (by first | exact hs2 | go_num | omega) hb; replace k0 := keepAt hb (show C2 _ w.heap.size (.int .i64 p) (.slice a n ca) from by (repeat' (first | (with_reducible assumption) | (with_reducible refine C2.drewU ?_) | (with_reducible refine C2.alloc ?_ _) | (with_reducible refine C2.set ?_ _ _ _ (by omega))))); replace hO := Lib.hid (Own2.later (by exact hO.out) hb); have HO3 := Lib.hid o3; clear hb o3))
      all_goals (have hz3 := hLz.size)
      all_goals (have hfrom := Lib.hid hO.out.from)
      all_goals (have HOne := Lib.hid (ownsOne w3 (x : Int) w3.heap.size (Nat.le_refl _)))
      all_goals (rcases HO3.out.2 with ⟨rfl, hE0⟩ | ⟨ge, ec, cur, rfl, hbg, _⟩)
      all_goals first
        | (have hE : E = [] := List.eq_nil_of_length_eq_zero hE0
           subst hE
           have HB1 : Hid (Below w3.heap.size w3 (w3.alloc (.cells #[.int .i64 (x : Int)] 2))) := (Below.refl _ _).alloc (Nat.le_refl _) _
           have HRows := Lib.hid (fun o => hO.out.asRows HB1.out o)
           go_wp2_with (first | (at_builtin; refine wpAppNone _ rfl _ _ 22 rfl 2 j0 Try.underlying22 hj0_ w3.heap.size 1 1 (Nat.le_refl _) rfl rfl ?_) | (at_builtin; refine wpList_append_own_at _ rfl _ _ 48 rfl w1.heap.size 22 i0 (.slice none 0 0) 1 24 Try.underlying48 hi0 hz0 hz1_ hz2 rfl (by decide) _ L.length ((List.range L.length).map (Classical.choose hO.out)) rfl (HRows.out _) ⟨w3.heap.size + 1, 0, none⟩ 1 1 [.slice (some ⟨w3.heap.size, 0, none⟩) 1 1] rfl rfl (by have h := cell_one_new (w3.alloc (.cells #[.int .i64 (x : Int)] 2)) (.slice (some ⟨w3.heap.size, 0, none⟩) 1 1) 22; rw [World.size_alloc] at h; exact h) (by simp [Value.oneCell']) (by unfold maxLen; omega) (by omega) (by simp; omega) ?_; intro v' w5 hown' hgrow hnil hat))
           have HO5 := Lib.hid (Own2.more _ hO.out (by omega) HB1.out HOne.out hown' hgrow hat)
           exact ⟨⟨k + 1, by omega, by go_num, ((hLz.alloc (by omega) _).alloc (by simp; omega) _).grown hgrow (by simp; omega) (fun q e => hfrom.out q e), by rw [HTk.out]; exact HO5⟩, by simp [intOf]; omega⟩)
        | (have HEc := Lib.hid (World.ownsRow.cells (g := ge) (World.ownsRow.alloc HO3.out (.cells #[.int .i64 (x : Int)] 2)) rfl)
           go_wp2_with (first | (at_builtin; refine wpList_append_own_at _ rfl _ _ 22 rfl w3.heap.size 2 j0 (.int .i64 0) 1 8 Try.underlying22 hj0_ jz0 jz1 jz2 rfl (by decide) (.slice (some ⟨w3.heap.size, 0, none⟩) 1 1) 1 [.int .i64 (x : Int)] rfl HOne.out ⟨ge, 0, none⟩ E.length ec (E.map (Value.int .i64)) rfl (by simp) HEc.out (by simp [Value.oneCell']) (by unfold maxLen; omega) (by omega) (by simp) ?_; intro v1 w4 hown1 hgrow1 hnil1 hat1; have GO : Hid (Owns w4 w3.heap.size v1 ((x : Int) :: E)) := (by have h := hown1; rw [Nat.add_comm] at h; exact h); have HB4 : Hid (Below w3.heap.size w3 w4) := ((Below.refl _ _).alloc (Nat.le_refl _) _).grown hgrow1 (by simp) (fun q e => by have e1 : w3.heap.size = q := (by simpa [Value.ownBlock] using e); omega); have HRows := Lib.hid (fun o => hO.out.asRows HB4.out o); have hz4 := HB4.out.size; clear hown1 hgrow1 hnil1 hat1; obtain ⟨va1, vc1, hv1, _, _⟩ := GO.out.reads; obtain ⟨nl, hnl⟩ : ∃ nl, ((x : Int) :: E).length = nl := ⟨_, rfl⟩; rw [hnl] at hv1; subst hv1; clear hnl) | (at_builtin; refine wpList_append_own_at _ rfl _ _ 48 rfl w1.heap.size 22 i0 (.slice none 0 0) 1 24 Try.underlying48 hi0 hz0 hz1_ hz2 rfl (by decide) _ L.length ((List.range L.length).map (Classical.choose hO.out)) rfl (HRows.out _) ⟨w4.heap.size, 0, none⟩ 1 1 [.slice va1 nl vc1] rfl rfl (cell_one_new _ _ _) (by simp [Value.oneCell']) (by unfold maxLen; omega) (by omega) (by simp; omega) ?_; intro v' w5 hown' hgrow hnil hat))
           have HO5 := Lib.hid (Own2.more _ hO.out (by omega) HB4.out GO.out hown' hgrow hat)
           exact ⟨⟨k + 1, by omega, by go_num, ((hLz.trans (HB4.out.mono hz3)).alloc (by omega) _).grown hgrow (by simp; omega) (fun q e => hfrom.out q e), by rw [HTk.out]; exact HO5⟩, by simp [intOf]; omega⟩)
    · have e : k = U.length := by omega
      have hkn : ¬ (k : Int) < (U.length : Int) := by omega
      rw [e, HTN.out] at hO
      clear e
      go_wp2_with fail
      go_ret2
      exact ⟨_, rfl, hO.out.mono hz1 (Nat.le_refl _), hL⟩

theorem iChangesBetween_any (p : Int) (v : Value) (xs : List Int) (i o : Int) (w : World) (ha : Reads w v xs) :
    Calls Try.prog 47 #[.agg #[.int .i64 p, v], .int .i64 i, .int .i64 o] w fun e w' => ∃ u, e = .returned (.tuple #[u, .int .i64 (resChangesBetween_1 p xs i o)]) ∧ Own2 w' w.heap.size w'.heap.size u (resChangesBetween_0 p xs i o) ∧ Below w.heap.size w w' := by
  by_cases h0 : chgC p xs i o = 0
  · unfold resChangesBetween_0 resChangesBetween_1
    rw [if_pos h0, h0]
    exact iChg_yes p v xs i o w ha h0
  · unfold resChangesBetween_0 resChangesBetween_1
    rw [if_neg h0]
    exact (iChg_no p v xs i o w ha h0).mono fun e w' h => ⟨_, h.1, own2Nil _ _ _, h.2⟩

def cinC (p : Int) (xs : List Int) (i : Int) : Int := if cirB p xs = true then (if inB i p = true then 0 else 2) else 1
theorem codeL_cin (p : Int) (xs : List Int) (i : Int) : codeL p xs i [] = cinC p xs i := by
  unfold codeL cinC; simp
theorem chgC_first {p i o : Int} {xs : List Int} (h : cinC p xs i ≠ 0) : chgC p xs i o = cinC p xs i := by
  unfold chgC cinC at *
  by_cases h1 : cirB p xs = true
  · rw [if_pos h1] at h ⊢
    rw [if_pos h1]
    by_cases h2 : inB i p = true
    · rw [if_pos h2] at h; exact absurd rfl h
    · rw [if_neg h2, if_neg (fun e => h2 e.1)]
  · rw [if_neg h1, if_neg h1]
theorem chgC_second {p i o : Int} {xs : List Int} (h : cinC p xs i = 0) : chgC p xs i o = cinC p xs o := by
  unfold chgC cinC at *
  by_cases h1 : cirB p xs = true
  · rw [if_pos h1] at h
    rw [if_pos h1, if_pos h1]
    by_cases h2 : inB i p = true
    · by_cases h3 : inB o p = true
      · rw [if_pos h3, if_pos ⟨h2, h3⟩]
      · rw [if_neg h3, if_neg (fun e => h3 e.2)]
    · rw [if_neg h2] at h; cases h
  · rw [if_neg h1, if_neg h1]

set_option maxRecDepth 100000 in
set_option maxHeartbeats 4000000 in
theorem sChangesBetween_any (p : Int) (v : Value) (xs : List Int) (i o : Int) (w : World) (ha : Reads w v xs) :
    Calls Try.prog 46 #[.agg #[.int .i64 p, v], .int .i64 i, .int .i64 o] w fun e w' => ∃ u, e = .returned (.tuple #[u, .int .i64 (resChangesBetween_1 p xs i o)]) ∧ Reads2 w' u (resChangesBetween_0 p xs i o) ∧ Below w.heap.size w w' := by
  obtain ⟨i0, hi0, hz0, hz1_, hz2⟩ := info_parts infoRow
  obtain ⟨j0, hj0_, jz0, jz1, jz2⟩ := info_parts info64
  obtain ⟨c, hc⟩ : ∃ c, cinC p xs i = c := ⟨_, rfl⟩
  obtain ⟨d, hd⟩ : ∃ d, cinC p xs o = d := ⟨_, rfl⟩
  have HE := Lib.hid (fun w' (h : Below w.heap.size w w') => l06Code_any p i v (.slice none 0 0) xs [] w' (ha.keep h) (inNil _ 0 0).reads (c := c) (by rw [codeL_cin]; exact hc))
  have HE2 := Lib.hid (fun w' (h : Below w.heap.size w w') => l06Code_any p o v (.slice none 0 0) xs [] w' (ha.keep h) (inNil _ 0 0).reads (c := d) (by rw [codeL_cin]; exact hd))
  by_cases h0 : c = 0
  · subst h0
    by_cases hd0 : d = 0
    · subst hd0
      have hz : chgC p xs i o = 0 := by rw [chgC_second hc]; exact hd
      have HR : Hid (resChangesBetween_0 p xs i o = chgTo p xs i o (2 ^ xs.length) ∧ resChangesBetween_1 p xs i o = 0) := ⟨by unfold resChangesBetween_0; rw [if_pos hz], hz⟩
      obtain ⟨h1, h2, h3⟩ := chgC_zero hz
      obtain ⟨_, ⟨n1, n4⟩, _, _⟩ := cirB_out h1
      obtain ⟨M, hM⟩ : ∃ M, 2 ^ xs.length = M := ⟨_, rfl⟩
      have hM16 : M ≤ 16 := by rw [← hM]; exact pow_le16 n4
      have HIn : Hid (∀ k : Nat, k < M → inB (k : Int) xs.length = true) := fun k hk => by
        unfold inB rcZ; rw [Int.toNat_natCast, hM]; exact decide_eq_true (by omega)
      have HC : Hid (∀ w', Below w.heap.size w w' → Calls Try.prog 64 #[.agg #[.int .i64 p, v]] w' fun e w'' => e = .returned (.int .i64 (M : Int)) ∧ Below w'.heap.size w' w'') := fun w' h => by
        have := l06States_any p v xs w' (ha.keep h) n1 n4
        unfold rcZ at this; rw [Int.toNat_natCast, hM] at this; exact this
      have HA := Lib.hid (fun (k : Nat) (hk : k < M) w' (h : Below w.heap.size w w') => l06Aim_any p i (k : Int) v xs w' (ha.keep h) h1 h2 (HIn.out k hk))
      have HEn := Lib.hid (fun (k : Nat) (hk : k < M) w' (h : Below w.heap.size w w') => l06Ends_any p o k v xs w' (ha.keep h) h1 h3 (by rw [hM]; exact hk))
      have HEl : Hid (∀ s, (intsN (endsU p xs o s)).length ≤ 16) := fun s => by rw [intsN_len]; have := endsU_len p xs o s; omega
      have HTl : Hid (∀ k, k ≤ M → (chgTo p xs i o k).length ≤ 16) := fun k hk => by unfold chgTo; rw [List.length_map]; have := stdU_len p xs i k; omega
      have HT0 : Hid (chgTo p xs i o 0 = []) := rfl
      rw [hM] at HR
      obtain ⟨a, ca, rfl, hm, ha'⟩ := ha
      have k0 := C2.here w (.int .i64 p) (.slice a xs.length ca) 27
      clear hc hd h1 h2 h3 hz ha' hM
      generalize hn : xs.length = n at *
      clear hn
      go_enter Try.func46, Try.ntmps46
      go_wp2_with (first | (go_at_call 58; (with_reducible refine (HE.out _ (by go_grown)).mono ?_); rintro e w' ⟨rfl, hb⟩; have hL := chain (B := w.heap.size) (a := w) (by go_grown) (Nat.le_refl _) hb; (first | replace k0 := keepAt hb k0 | replace k0 := keepAt hb (C2.alloc k0 _)); clear hb) | (go_at_call 58; (with_reducible refine (HE2.out _ (by go_grown)).mono ?_); rintro e w' ⟨rfl, hb⟩; have hL := chain (B := w.heap.size) (a := w) (by go_grown) (Nat.le_refl _) hb; (first | replace k0 := keepAt hb k0 | replace k0 := keepAt hb (C2.alloc k0 _)); clear hb))
      have hsz := hL.size
      have hkb := k0.2.2.2.2
      have HOO := Lib.hid (own2Made w' (w.heap.size + 1) (by omega))
      go_loopw [9, 10] (fun u c wr => ∃ k : Nat, k ≤ M ∧ c = .int .i64 (k : Int) ∧ Below w.heap.size w wr ∧ C2 wr w.heap.size (.int .i64 p) (.slice a n ca) ∧ Hid (Own2 wr (w.heap.size + 1) wr.heap.size u (chgTo p xs i o k))) (fun _ c _ => M - (intOf c).toNat)
      case atStart => exact ⟨0, Nat.zero_le _, rfl, by go_grown, k0.alloc _, by rw [HT0.out]; exact HOO⟩
      case round =>
        clear k0 hL HOO hsz hkb
        obtain ⟨k, hk, rfl, hL, k0, hO⟩ := hrel
        by_cases hlt : k < M
        · have hk1 : (k : Int) < (M : Int) := by omega
          have HAk := Lib.hid (HA.out k hlt)
          have HEk := Lib.hid (HEn.out k hlt)
          have hEl := HEl.out k
          have hLl := HTl.out k hk
          cases hq : (aimZ p xs i (k : Int) == (k : Int))
          · have HN := Lib.hid (chgTo_miss (o := o) hq)
            generalize chgTo p xs i o k = L at *
            go_wp2_with fail
            refine (HC.out _ hL).mono ?_
            rintro e w1 ⟨rfl, hb⟩
            replace hL := chain (B := w.heap.size) (a := w) hL (Nat.le_refl _) hb
            replace k0 := keepAt hb k0
            replace hO := Lib.hid (hO.out.later hb)
            clear hb
            go_wp2_with fail
            refine (HAk.out _ hL).mono ?_
            rintro e w2 ⟨rfl, hb⟩
            replace hL := chain (B := w.heap.size) (a := w) hL (Nat.le_refl _) hb
            replace k0 := keepAt hb k0
            replace hO := Lib.hid (hO.out.later hb)
            clear hb
            go_wp2_with fail
            exact ⟨⟨k + 1, by omega, by go_num, hL, k0, by rw [HN.out]; exact hO⟩, by simp [intOf]; omega⟩
          · have HN : Hid (chgTo p xs i o (k + 1) = chgTo p xs i o k ++ [(k : Int) :: intsN (endsU p xs o k)]) := chgTo_hit hq
            generalize chgTo p xs i o k = L at *
            generalize intsN (endsU p xs o k) = E at *
            go_wp2_with fail
            refine (HC.out _ hL).mono ?_
            rintro e w1 ⟨rfl, hb⟩
            replace hL := chain (B := w.heap.size) (a := w) hL (Nat.le_refl _) hb
            replace k0 := keepAt hb k0
            replace hO := Lib.hid (hO.out.later hb)
            clear hb
            go_wp2_with fail
            refine (HAk.out _ hL).mono ?_
            rintro e w2 ⟨rfl, hb⟩
            replace hL := chain (B := w.heap.size) (a := w) hL (Nat.le_refl _) hb
            replace k0 := keepAt hb k0
            replace hO := Lib.hid (hO.out.later hb)
            clear hb
            have hkb := k0.2.2.2.2
            have hfrom := Lib.hid hO.out.from
            have hone := ownsOne w2 (k : Int) w2.heap.size (Nat.le_refl _)
            have hB2 : Below w2.heap.size w2 (w2.alloc (.cells #[.int .i64 (k : Int)] 2)) := (Below.refl _ _).alloc (Nat.le_refl _) _
            have HOne := Lib.hid hone
            have HB2 := Lib.hid hB2
            replace k0 := k0.alloc (.cells #[.int .i64 (k : Int)] 2)
            clear hone hB2
            go_wp2_with fail
            refine (HEk.out _ (by go_grown)).mono ?_
            rintro e w3 ⟨u3, rfl, o3, hb⟩
            replace k0 := keepAt hb k0
            replace HOne := Lib.hid (ownsKeepAt hb HOne.out)
            have HB3 : Hid (Below w2.heap.size w2 w3) := chain (B := w2.heap.size) (a := w2) HB2.out (by simp) hb
            have HO3 := Lib.hid o3
            have hz3 := HB3.out.size
            clear hb o3 HB2
            rcases HO3.out.2 with ⟨rfl, hE0⟩ | ⟨ge, ec, cur, rfl, hbg, _⟩
            · have hE : E = [] := List.eq_nil_of_length_eq_zero hE0
              subst hE
              have HRows := Lib.hid (fun o => hO.out.asRows HB3.out o)
              go_wp2_with (first | (at_builtin; refine wpAppNone _ rfl _ _ 22 rfl 2 j0 Try.underlying22 hj0_ w2.heap.size 1 1 (Nat.le_refl _) rfl rfl ?_) | (at_builtin; refine wpList_append_own_at _ rfl _ _ 48 rfl (w.heap.size + 1) 22 i0 (.slice none 0 0) 1 24 Try.underlying48 hi0 hz0 hz1_ hz2 rfl (by decide) _ L.length ((List.range L.length).map (Classical.choose hO.out)) rfl (HRows.out _) ⟨w3.heap.size, 0, none⟩ 1 1 [.slice (some ⟨w2.heap.size, 0, none⟩) 1 1] rfl rfl (cell_one_new _ _ _) (by simp [Value.oneCell']) (by unfold maxLen; omega) (by omega) (by simp; omega) ?_; intro v' w5 hown' hgrow hnil hat))
              have HO5 := Lib.hid (Own2.more _ hO.out (by omega) HB3.out HOne.out hown' hgrow hat)
              exact ⟨⟨k + 1, by omega, by go_num, ((hL.trans (HB3.out.mono hL.size)).alloc (by omega) _).grown hgrow (by simp; omega) (fun q e => Nat.le_of_succ_le (hfrom.out q e)), (k0.alloc _).grown hgrow (fun e => absurd (hfrom.out _ e) (by omega)), by rw [HN.out]; exact HO5⟩, by simp [intOf]; omega⟩
            · have HEc := Lib.hid (World.ownsRow.cells (g := ge) HO3.out rfl)
              go_wp2_with (first | (at_builtin; refine wpList_append_own_at _ rfl _ _ 22 rfl w2.heap.size 2 j0 (.int .i64 0) 1 8 Try.underlying22 hj0_ jz0 jz1 jz2 rfl (by decide) (.slice (some ⟨w2.heap.size, 0, none⟩) 1 1) 1 [.int .i64 (k : Int)] rfl HOne.out ⟨ge, 0, none⟩ E.length ec (E.map (Value.int .i64)) rfl (by simp) HEc.out (by simp [Value.oneCell']) (by unfold maxLen; omega) (by omega) (by omega) ?_; intro v1 w4 hown1 hgrow1 hnil1 hat1; have GO : Hid (Owns w4 w2.heap.size v1 ((k : Int) :: E)) := (by have h := hown1; rw [Nat.add_comm] at h; exact h); have HB4 : Hid (Below w2.heap.size w2 w4) := HB3.out.grown hgrow1 (by omega) (fun q e => by have e1 : w2.heap.size = q := (by simpa [Value.ownBlock] using e); omega); have HRows := Lib.hid (fun o => hO.out.asRows HB4.out o); have hz4 := HB4.out.size; have k04 := k0.grown hgrow1 (by simp [Value.ownBlock]; omega); clear hown1 hgrow1 hnil1 hat1; obtain ⟨va1, vc1, hv1, _, _⟩ := GO.out.reads; obtain ⟨nl, hnl⟩ : ∃ nl, ((k : Int) :: E).length = nl := ⟨_, rfl⟩; rw [hnl] at hv1; subst hv1; clear hnl) | (at_builtin; refine wpList_append_own_at _ rfl _ _ 48 rfl (w.heap.size + 1) 22 i0 (.slice none 0 0) 1 24 Try.underlying48 hi0 hz0 hz1_ hz2 rfl (by decide) _ L.length ((List.range L.length).map (Classical.choose hO.out)) rfl (HRows.out _) ⟨w4.heap.size, 0, none⟩ 1 1 [.slice va1 nl vc1] rfl rfl (cell_one_new _ _ _) (by simp [Value.oneCell']) (by unfold maxLen; omega) (by omega) (by simp; omega) ?_; intro v' w5 hown' hgrow hnil hat))
              have HO5 := Lib.hid (Own2.more _ hO.out (by omega) HB4.out GO.out hown' hgrow hat)
              exact ⟨⟨k + 1, by omega, by go_num, ((hL.trans (HB4.out.mono hL.size)).alloc (by omega) _).grown hgrow (by simp; omega) (fun q e => Nat.le_of_succ_le (hfrom.out q e)), (k04.alloc _).grown hgrow (fun e => absurd (hfrom.out _ e) (by omega)), by rw [HN.out]; exact HO5⟩, by simp [intOf]; omega⟩
        · have e : k = M := by omega
          rw [e] at hO
          rw [← HR.out.1] at hO
          clear e
          have hkn : ¬ (k : Int) < (M : Int) := by omega
          go_wp2_with fail
          refine (HC.out _ hL).mono ?_
          rintro e w1 ⟨rfl, hb⟩
          replace hL := chain (B := w.heap.size) (a := w) hL (Nat.le_refl _) hb
          replace hO := Lib.hid (hO.out.later hb)
          clear hb
          go_wp2_with fail
          go_ret2
          exact ⟨_, by rw [HR.out.2]; rfl, hO.out.reads, hL⟩
    · have hz : chgC p xs i o = d := by rw [chgC_second hc]; exact hd
      have HR : Hid (resChangesBetween_0 p xs i o = [] ∧ resChangesBetween_1 p xs i o = d) := ⟨by unfold resChangesBetween_0; rw [if_neg (by rw [hz]; exact hd0)], hz⟩
      have hne : (d != 0) = true := by simp [hd0]
      obtain ⟨a, ca, rfl, hm, ha'⟩ := ha
      have k0 := C2.here w (.int .i64 p) (.slice a xs.length ca) 27
      clear hc hd hd0 hz ha'
      generalize xs.length = n at *
      go_enter Try.func46, Try.ntmps46
      go_wp2_with (first | (go_at_call 58; (with_reducible refine (HE.out _ (by go_grown)).mono ?_); rintro e w' ⟨rfl, hb⟩; have hL := chain (B := w.heap.size) (a := w) (by go_grown) (Nat.le_refl _) hb; (first | replace k0 := keepAt hb k0 | replace k0 := keepAt hb (C2.alloc k0 _)); clear hb) | (go_at_call 58; (with_reducible refine (HE2.out _ (by go_grown)).mono ?_); rintro e w' ⟨rfl, hb⟩; have hL := chain (B := w.heap.size) (a := w) (by go_grown) (Nat.le_refl _) hb; (first | replace k0 := keepAt hb k0 | replace k0 := keepAt hb (C2.alloc k0 _)); clear hb))
      go_ret2
      exact ⟨_, by rw [HR.out.2]; rfl, by rw [HR.out.1]; exact (own2Nil _ 0 0).reads, hL⟩
  · have hz : chgC p xs i o = c := by rw [chgC_first (by rw [hc]; exact h0)]; exact hc
    have HR : Hid (resChangesBetween_0 p xs i o = [] ∧ resChangesBetween_1 p xs i o = c) := ⟨by unfold resChangesBetween_0; rw [if_neg (by rw [hz]; exact h0)], hz⟩
    have hne : (c != 0) = true := by simp [h0]
    have hne2 : (c == 0) = false := by simp [h0]
    obtain ⟨a, ca, rfl, hm, ha'⟩ := ha
    have k0 := C2.here w (.int .i64 p) (.slice a xs.length ca) 27
    clear hc hd h0 hz ha'
    generalize xs.length = n at *
    go_enter Try.func46, Try.ntmps46
    go_wp2_with ((go_at_call 58; (with_reducible refine (HE.out _ (by go_grown)).mono ?_); rintro e w' ⟨rfl, hb⟩; have hL := chain (B := w.heap.size) (a := w) (by go_grown) (Nat.le_refl _) hb; (first | replace k0 := keepAt hb k0 | replace k0 := keepAt hb (C2.alloc k0 _)); clear hb))
    go_ret2
    exact ⟨_, by rw [HR.out.2]; rfl, by rw [HR.out.1]; exact (own2Nil _ 0 0).reads, hL⟩

end Go.Proofs.Ytblbapehakcomaa
