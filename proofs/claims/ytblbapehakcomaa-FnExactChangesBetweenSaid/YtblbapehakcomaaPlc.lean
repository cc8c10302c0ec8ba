/- CriticalPlaces: the program's and the model's. Rows appended to rows. -/
import Derived.Test.YtblbapehakcomaaCri
namespace Go.Proofs.Ytblbapehakcomaa
open Go.RowKit
set_option linter.unusedVariables false

theorem own2Nil (w : World) (B C : Nat) : Own2 w B C (.slice none 0 0) [] :=
  ⟨fun _ => .slice none 0 0, World.ownsRow_nil _ _ _ _, fun k e => by simp [Value.ownBlock] at e, fun i hi => by simp at hi⟩
theorem own2Made (w : World) (B : Nat) (hB : B ≤ w.heap.size) : Own2 (w.alloc (.cells #[] 22)) B (w.alloc (.cells #[] 22)).heap.size (.slice (some ⟨w.heap.size, 0, none⟩) 0 0) [] := by
  have h := World.ownsRow_made (base := B) (e := 22) (size := 1) w #[] 0 hB (by simp) rfl
  exact ⟨fun _ => .slice none 0 0, h, fun k e => (World.ownsRow.lt h k e).2, fun i hi => by simp at hi⟩
theorem Own2.from {w : World} {B C : Nat} {v : Value} {xss : List (List Int)} (h : Own2 w B C v xss) : ∀ k, v.ownBlock = some k → B ≤ k := by
  obtain ⟨V, h1, _, _⟩ := h
  exact fun k e => (World.ownsRow.lt h1 k e).1
theorem Own2.later {w w' : World} {B : Nat} {v : Value} {xss : List (List Int)} (h : Own2 w B w.heap.size v xss) (hb : Below w.heap.size w w') : Own2 w' B w'.heap.size v xss := (h.keep hb).mono (Nat.le_refl _) hb.size
/-- the rows of a slice of slices, as the append's law wants them -/
theorem Own2.asRows {w w' : World} {B C : Nat} {v : Value} {xss : List (List Int)} (h : Own2 w B C v xss) (hb : Below w.heap.size w w') (o : Obj) : (w'.alloc o).ownsRow B 22 1 v xss.length ((List.range xss.length).map (Classical.choose h)) :=
  World.ownsRow.alloc (rowLater (Classical.choose_spec h).1 hb) o
/-- one row more -/
theorem Own2.more {w w1 w2 : World} {B : Nat} {v u v' : Value} {xss : List (List Int)} {c : List Int} (o : Obj) (h : Own2 w B w.heap.size v xss) (hB : B ≤ w.heap.size) (hb : Below w.heap.size w w1) (hu : Owns w1 w.heap.size u c)
    (ho : w2.ownsRow B 22 1 v' (xss.length + 1) ((List.range xss.length).map (Classical.choose h) ++ [u])) (hg : (w1.alloc o).grownBy w2 v.ownBlock) (hat : v'.ownBlock = v.ownBlock ∨ v'.ownBlock = some (w1.alloc o).heap.size) :
    Own2 w2 B w2.heap.size v' (xss ++ [c]) := by
  obtain ⟨h1, h2, h3⟩ := Classical.choose_spec h
  generalize Classical.choose h = V at *
  have hz := hb.size
  have hz1 : (w1.alloc o).heap.size = w1.heap.size + 1 := by simp
  rw [hz1] at hat
  have key : ∀ {x : Value} {ys : List Int} {base : Nat}, Owns (w1.alloc o) base x ys → (∀ k, x.ownBlock = some k → v.ownBlock ≠ some k) → Owns w2 base x ys := fun hx hk =>
    World.ownsRow.kept hx hg (by
      rename_i x ys base
      rcases e : x.ownBlock with _ | k
      · exact .inl rfl
      · right; intro e2; exact hk k e e2.symm)
  have hgz := hg.size
  rw [hz1] at hgz
  refine ⟨fun i => if i < xss.length then V i else u, ?_, fun k e => (World.ownsRow.lt ho k e).2, fun i hi => ?_⟩
  · have e : (List.range (xss ++ [c]).length).map (fun i => if i < xss.length then V i else u) = (List.range xss.length).map V ++ [u] := by
      rw [List.length_append, List.length_singleton, List.range_succ, List.map_append]
      congr 1
      · apply List.map_congr_left
        intro i hi
        rw [if_pos (by simpa using hi)]
      · simp
    rw [e, List.length_append, List.length_singleton]
    exact ho
  · rw [List.length_append, List.length_singleton] at hi
    by_cases hlt : i < xss.length
    · obtain ⟨a, bb⟩ := h3 i hlt
      have e : (xss ++ [c]).getD i [] = xss.getD i [] := by simp [List.getD_eq_getElem?_getD, List.getElem?_append_left hlt]
      simp only [if_pos hlt, e]
      refine ⟨key (World.ownsRow.alloc (a.keep hb) o) fun k e => (bb k e).2.1, fun k e => ?_⟩
      have hk := bb k e
      have hk2 := (World.ownsRow.lt a k e).2
      refine ⟨by omega, fun e2 => ?_, fun j hj => by rw [if_pos (by omega)]; exact hk.2.2 j hj⟩
      rcases hat with hat | hat
      · exact hk.2.1 (by rw [← hat]; exact e2)
      · rw [hat] at e2
        have : w1.heap.size + 1 = k := by simpa using e2
        omega
    · have e : i = xss.length := by omega
      subst e
      have e : (xss ++ [c]).getD xss.length [] = c := by simp [List.getD_eq_getElem?_getD]
      simp only [if_neg (Nat.lt_irrefl _), e]
      refine ⟨key (World.ownsRow.alloc (hu.mono hB) o) fun k e e2 => ?_, fun k e => ?_⟩
      · have := (World.ownsRow.lt hu k e).1
        have := h2 k e2
        omega
      · have a1 := (World.ownsRow.lt hu k e).1
        have a2 := (World.ownsRow.lt hu k e).2
        refine ⟨by omega, fun e2 => ?_, fun j hj => ?_⟩
        · rcases hat with hat | hat
          · have := h2 k (by rw [← hat]; exact e2)
            omega
          · rw [hat] at e2
            have : w1.heap.size + 1 = k := by simpa using e2
            omega
        · rw [if_pos hj]
          intro e2
          have := ((h3 j hj).2 k e2).1
          omega
theorem ownsTwo (w : World) (x y : Int) (base : Nat) (hb : base ≤ w.heap.size) : Owns (w.alloc (.cells #[.int .i64 x, .int .i64 y] 2)) base (.slice (some ⟨w.heap.size, 0, none⟩) 2 2) [x, y] :=
  ⟨by simp, .inr ⟨w.heap.size, 2, #[.int .i64 x, .int .i64 y], rfl, hb, heap_alloc_new w _, Nat.le_refl _, by simp [maxLen], by simp, by simp⟩⟩

/-- the rows are short -/
theorem sumLen_le {L : List (List Int)} {c : Nat} (h : ∀ r ∈ L, r.length ≤ c) (k : Nat) (hk : k ≤ L.length) : sumLen L k ≤ c * k := by
  induction k with
  | zero => exact Nat.le_refl _
  | succ k ih =>
    have e : (L.getD k []).length ≤ c := h _ (by simp [List.getD_eq_getElem?_getD, show k < L.length by omega])
    simp only [sumLen]
    have := ih (by omega)
    rw [Nat.mul_succ]; omega
theorem short {L : List (List Int)} {c : Nat} (h : ∀ r ∈ L, r.length ≤ c) (hc : c ≤ 20) (h1 : L.length ≤ 1000) : L.length ≤ 100000 ∧ L.length + sumLen L L.length ≤ 1000000 ∧ ∀ i, i < L.length → (L.getD i []).length ≤ 1048576 := by
  have h2 := sumLen_le h L.length (Nat.le_refl _)
  have h3 : c * L.length ≤ 20 * 1000 := Nat.mul_le_mul hc h1
  refine ⟨by omega, by omega, fun i hi => ?_⟩
  have e : (L.getD i []).length ≤ c := h _ (by simp [List.getD_eq_getElem?_getD, hi])
  omega

def plRow (p : Int) (xs : List Int) (i : Int) (j : Nat) : List (List Int) := (ups j fun s => criB p xs i s).map fun (s : Nat) => [i, (s : Int)]
def plTo (p : Int) (xs : List Int) (k : Nat) : List (List Int) := (List.range k).flatMap fun (i : Nat) => plRow p xs (i : Int) (2 ^ xs.length)
theorem plRow_hit {p i : Int} {xs : List Int} {j : Nat} (h : criB p xs i j = true) : plRow p xs i (j + 1) = plRow p xs i j ++ [[i, (j : Int)]] := by
  unfold plRow; rw [ups_hit h, List.map_append]; rfl
theorem plRow_miss {p i : Int} {xs : List Int} {j : Nat} (h : criB p xs i j = false) : plRow p xs i (j + 1) = plRow p xs i j := by
  unfold plRow; rw [ups_miss h]
theorem plRow_len (p i : Int) (xs : List Int) (j : Nat) : (plRow p xs i j).length ≤ j := by unfold plRow; rw [List.length_map]; exact ups_len _ _
theorem plTo_succ (p : Int) (xs : List Int) (k : Nat) : plTo p xs (k + 1) = plTo p xs k ++ plRow p xs (k : Int) (2 ^ xs.length) := by
  unfold plTo; rw [List.range_succ, List.flatMap_append]; simp
theorem plTo_len (p : Int) (xs : List Int) (h : 2 ^ xs.length ≤ 16) (k : Nat) : (plTo p xs k).length ≤ 16 * k := by
  induction k with
  | zero => exact Nat.le_refl _
  | succ k ih => rw [plTo_succ, List.length_append]; have := plRow_len p (k : Int) xs (2 ^ xs.length); omega
theorem plTo_two (p : Int) (xs : List Int) (k : Nat) : ∀ r ∈ plTo p xs k, r.length ≤ 2 := by
  intro r hr
  unfold plTo at hr
  obtain ⟨i, _, h⟩ := List.mem_flatMap.1 hr
  unfold plRow at h
  obtain ⟨s, _, rfl⟩ := List.mem_map.1 h
  exact Nat.le_refl _

def resCriticalPlaces_0 (p : Int) (xs : List Int) : List (List Int) := if cirB p xs = true then plTo p xs (2 ^ p.toNat) else []
def resCriticalPlaces_1 (p : Int) (xs : List Int) : Int := if cirB p xs = true then 0 else 1
theorem lenCriticalPlaces_0 (p : Int) (xs : List Int) : (resCriticalPlaces_0 p xs).length ≤ 100000 ∧ (resCriticalPlaces_0 p xs).length + sumLen (resCriticalPlaces_0 p xs) (resCriticalPlaces_0 p xs).length ≤ 1000000 ∧ ∀ i, i < (resCriticalPlaces_0 p xs).length → ((resCriticalPlaces_0 p xs).getD i []).length ≤ 1048576 := by
  unfold resCriticalPlaces_0
  by_cases h : cirB p xs = true
  · rw [if_pos h]
    obtain ⟨⟨p1, p4⟩, ⟨n1, n4⟩, _, _⟩ := cirB_out h
    have h1 := plTo_len p xs (pow_le16 n4) (2 ^ p.toNat)
    have h2 := pow_le16 (show p.toNat ≤ 4 by omega)
    exact short (plTo_two p xs _) (by decide) (by omega)
  · rw [if_neg h]; exact short (c := 0) (fun r hr => by cases hr) (by decide) (by simp)

set_option maxRecDepth 100000 in
set_option maxHeartbeats 4000000 in
theorem iCriticalPlaces_g (p : Int) (v : Value) (xs : List Int) (w : World) (ha : Reads w v xs) :
    Calls Try.prog 42 #[.agg #[.int .i64 p, v]] w fun e w' => ∃ sa sc, e = .returned (.tuple #[.slice sa (resCriticalPlaces_0 p xs).length sc, .int .i64 (resCriticalPlaces_1 p xs)]) ∧ Own2 w' w.heap.size w'.heap.size (.slice sa (resCriticalPlaces_0 p xs).length sc) (resCriticalPlaces_0 p xs) ∧ Below w.heap.size w w' := by
  obtain ⟨i0, hi0, hz0, hz1, hz2⟩ := info_parts infoRow
  obtain ⟨b, hb⟩ : ∃ b, cirB p xs = b := ⟨_, rfl⟩
  have HC := Lib.hid (fun w' (h : Below w.heap.size w w') => isCircuit_any p v xs w' (ha.keep h) hb)
  cases b
  · have HR : Hid (resCriticalPlaces_0 p xs = [] ∧ resCriticalPlaces_1 p xs = 1) := by
      unfold resCriticalPlaces_0 resCriticalPlaces_1; rw [hb]; exact ⟨rfl, rfl⟩
    obtain ⟨a, ca, rfl, hm, _⟩ := ha
    have k0 := C2.here w (.int .i64 p) (.slice a xs.length ca) 27
    clear hb
    generalize xs.length = n at *
    go_enter Try.func42, Try.ntmps42
    go_wp2_with ((go_at_call 18; (with_reducible refine (HC.out _ (by go_grown)).mono ?_); rintro e w' ⟨rfl, hb⟩; have hL := chain (B := w.heap.size) (a := w) (by go_grown) (Nat.le_refl _) hb; (first | replace k0 := keepAt hb k0 | replace k0 := keepAt hb (C2.alloc k0 _)); clear hb))
    go_ret2
    exact ⟨none, 0, by rw [HR.out.1, HR.out.2]; rfl, by rw [HR.out.1]; exact own2Nil _ _ _, hL⟩
  · obtain ⟨⟨p1, p4⟩, ⟨n1, n4⟩, _, _⟩ := cirB_out hb
    have HR : Hid (resCriticalPlaces_0 p xs = plTo p xs (2 ^ p.toNat) ∧ resCriticalPlaces_1 p xs = 0) := by
      unfold resCriticalPlaces_0 resCriticalPlaces_1; rw [hb]; exact ⟨rfl, rfl⟩
    obtain ⟨M, hM⟩ : ∃ M, 2 ^ xs.length = M := ⟨_, rfl⟩
    obtain ⟨PN, hPN⟩ : ∃ PN, 2 ^ p.toNat = PN := ⟨_, rfl⟩
    have hM16 : M ≤ 16 := by rw [← hM]; exact pow_le16 n4
    have hP16 : PN ≤ 16 := by rw [← hPN]; exact pow_le16 (by omega)
    have HPC : Hid (∀ w, Calls Try.prog 81 #[.int .i64 p] w fun e w' => e = .returned (.int .i64 (PN : Int)) ∧ w = w') := fun w => by
      have := rowCount_any p w p1 (by omega); unfold rcZ at this; rw [hPN] at this; exact this
    have HSC : Hid (∀ w', Below w.heap.size w w' → Calls Try.prog 82 #[.agg #[.int .i64 p, v]] w' fun e w'' => e = .returned (.int .i64 (M : Int)) ∧ Below w'.heap.size w' w'') := fun w' h => by
      have := stateCount_any p v xs w' (ha.keep h) n1 (by omega); unfold rcZ at this; rw [Int.toNat_natCast, hM] at this; exact this
    have HIn : Hid (∀ k : Nat, k < PN → inB (k : Int) p = true) := fun k hk => by
      unfold inB rcZ; rw [hPN]; exact decide_eq_true (by omega)
    have HCr := Lib.hid (fun (k j : Nat) (hk : k < PN) (hj : j < M) w' (h : Below w.heap.size w w') => isCritical_any p (k : Int) j v xs w' (ha.keep h) hb (HIn.out k hk) (by rw [hM]; exact hj))
    have HL1 := Lib.hid (fun k => plTo_len p xs (by rw [hM]; exact hM16) k)
    have HS1 := Lib.hid (fun k => plTo_succ p xs k)
    have H00 : Hid (plTo p xs 0 = []) := rfl
    have HR0 : Hid (∀ k, plRow p xs k 0 = []) := fun k => rfl
    rw [hM] at HS1
    rw [hPN] at HR
    obtain ⟨a, ca, rfl, hm, _⟩ := ha
    have k0 := C2.here w (.int .i64 p) (.slice a xs.length ca) 27
    clear hb hM hPN
    generalize hn : xs.length = n at *
    clear hn
    go_enter Try.func42, Try.ntmps42
    go_wp2_with (first | (go_at_call 18; (with_reducible refine (HC.out _ (by go_grown)).mono ?_); rintro e w' ⟨rfl, hb⟩; have hL := chain (B := w.heap.size) (a := w) (by go_grown) (Nat.le_refl _) hb; (first | replace k0 := keepAt hb k0 | replace k0 := keepAt hb (C2.alloc k0 _)); clear hb) | (go_at_call 81; (with_reducible refine (HPC.out _).mono ?_); rintro e w' ⟨rfl, rfl⟩))
    have hkb := k0.2.2.2.2
    go_loopw [4, 13] (fun u c wr => ∃ k : Nat, k ≤ PN ∧ c = .int .i64 (k : Int) ∧ Below w.heap.size w wr ∧ C2 wr w.heap.size (.int .i64 p) (.slice a n ca) ∧ Hid (Own2 wr (w.heap.size + 1) wr.heap.size u (plTo p xs k))) (fun _ c _ => PN - (intOf c).toNat)
    case atStart => exact ⟨0, Nat.zero_le _, rfl, hL, k0, own2Nil _ _ _⟩
    case round =>
      clear hL k0 hkb
      obtain ⟨k, hk, rfl, hL, k0, hO⟩ := hrel
      by_cases hkl : k < PN
      · have hk1 : (k : Int) < (PN : Int) := by omega
        have HCk := Lib.hid (fun j hj => HCr.out k j hkl hj)
        have HTk := HL1.out k
        go_wp2_with fail
        refine (HSC.out _ hL).mono ?_
        rintro e w1 ⟨rfl, hb⟩
        replace hL := chain (B := w.heap.size) (a := w) hL (Nat.le_refl _) hb
        replace k0 := keepAt hb k0
        replace hO := Lib.hid (hO.out.later hb)
        clear hb
        go_wp2_with fail
        go_loopw [4, 18] (fun u c wy => ∃ j : Nat, j ≤ M ∧ c = .int .i64 (j : Int) ∧ Below w.heap.size w wy ∧ C2 wy w.heap.size (.int .i64 p) (.slice a n ca) ∧ Hid (Own2 wy (w.heap.size + 1) wy.heap.size u (plTo p xs k ++ plRow p xs (k : Int) j))) (fun _ c _ => M - (intOf c).toNat)
        case atStart => exact ⟨0, Nat.zero_le _, rfl, hL, k0, by rw [HR0.out, List.append_nil]; exact hO⟩
        case round =>
          clear hL k0 hO
          obtain ⟨j, hj, rfl, hL, k0, hO⟩ := hrel
          by_cases hjl : j < M
          · have hj1 : (j : Int) < (M : Int) := by omega
            have HCj := Lib.hid (HCk.out j hjl)
            have Hl : (plTo p xs k ++ plRow p xs (k : Int) j).length ≤ 400 := by rw [List.length_append]; have := plRow_len p (k : Int) xs j; omega
            cases hq : criB p xs (k : Int) j
            · have HN : Hid (plTo p xs k ++ plRow p xs (k : Int) (j + 1) = plTo p xs k ++ plRow p xs (k : Int) j) := by rw [Hid, plRow_miss hq]
              rw [hq] at HCj
              clear hq
              generalize plTo p xs k ++ plRow p xs (k : Int) j = L at *
              go_wp2_with fail
              refine (HCj.out _ hL).mono ?_
              rintro e w2 ⟨rfl, hb⟩
              replace hL := chain (B := w.heap.size) (a := w) hL (Nat.le_refl _) hb
              replace k0 := keepAt hb k0
              replace hO := Lib.hid (hO.out.later hb)
              clear hb
              go_wp2_with fail
              exact ⟨⟨j + 1, by omega, by go_num, hL, k0, by rw [HN.out]; exact hO⟩, by simp [intOf]; omega⟩
            · have HN : Hid (plTo p xs k ++ plRow p xs (k : Int) (j + 1) = (plTo p xs k ++ plRow p xs (k : Int) j) ++ [[(k : Int), (j : Int)]]) := by rw [Hid, plRow_hit hq, List.append_assoc]
              rw [hq] at HCj
              clear hq
              generalize plTo p xs k ++ plRow p xs (k : Int) j = L at *
              go_wp2_with fail
              refine (HCj.out _ hL).mono ?_
              rintro e w2 ⟨rfl, hb⟩
              replace hL := chain (B := w.heap.size) (a := w) hL (Nat.le_refl _) hb
              replace k0 := keepAt hb k0
              replace hO := Lib.hid (hO.out.later hb)
              clear hb
              have hkb := k0.2.2.2.2
              have hfrom := Lib.hid hO.out.from
              have hB1 : Below w2.heap.size w2 (w2.alloc (.cells #[.int .i64 (k : Int), .int .i64 (j : Int)] 2)) := (Below.refl _ _).alloc (Nat.le_refl _) _
              have HB1 := Lib.hid hB1
              have HRows := Lib.hid (fun o => hO.out.asRows HB1.out o)
              have HTwo := Lib.hid (ownsTwo w2 (k : Int) (j : Int) w2.heap.size (Nat.le_refl _))
              clear hB1
              go_wp2_with (at_builtin; refine wpList_append_own_at _ rfl _ _ 48 rfl (w.heap.size + 1) 22 i0 (.slice none 0 0) 1 24 Try.underlying48 hi0 hz0 hz1 hz2 rfl (by decide) _ L.length ((List.range L.length).map (Classical.choose hO.out)) rfl (HRows.out _) ⟨w2.heap.size + 1, 0, none⟩ 1 1 [.slice (some ⟨w2.heap.size, 0, none⟩) 2 2] rfl rfl (by have h := cell_one_new (w2.alloc (.cells #[.int .i64 (k : Int), .int .i64 (j : Int)] 2)) (.slice (some ⟨w2.heap.size, 0, none⟩) 2 2) 22; rw [World.size_alloc] at h; exact h) (by simp [Value.oneCell']) (by unfold maxLen; omega) (by omega) (by simp; omega) ?_; intro v' w3 hown' hgrow hnil hat)
              have HO3 := Lib.hid (Own2.more _ hO.out (by omega) HB1.out HTwo.out hown' hgrow hat)
              exact ⟨⟨j + 1, by omega, by go_num, ((hL.alloc (by omega) _).alloc (by simp; omega) _).grown hgrow (by simp; omega) (fun q e => Nat.le_of_succ_le (hfrom.out q e)), ((k0.alloc _).alloc _).grown hgrow (fun e => absurd (hfrom.out _ e) (by omega)), by rw [HN.out]; exact HO3⟩, by simp [intOf]; omega⟩
          · have e : j = M := by omega
            have hjn : ¬ (j : Int) < (M : Int) := by omega
            rw [e, ← HS1.out] at hO
            clear e
            go_wp2_with fail
            exact ⟨⟨k + 1, by omega, by go_num, hL, k0, hO⟩, by simp [intOf]; omega⟩
      · have e : k = PN := by omega
        have hkn : ¬ (k : Int) < (PN : Int) := by omega
        rw [e, ← HR.out.1] at hO
        clear e
        obtain ⟨sa, sc, rfl, _⟩ := hO.out.reads
        go_wp2_with fail
        go_ret2
        exact ⟨sa, sc, by rw [HR.out.2]; rfl, hO.out.mono (Nat.le_succ _) (Nat.le_refl _), hL⟩

set_option maxRecDepth 100000 in
set_option maxHeartbeats 4000000 in
theorem sCriticalPlaces_g (p : Int) (v : Value) (xs : List Int) (w : World) (ha : Reads w v xs) :
    Calls Try.prog 41 #[.agg #[.int .i64 p, v]] w fun e w' => ∃ sa sc, e = .returned (.tuple #[.slice sa (resCriticalPlaces_0 p xs).length sc, .int .i64 (resCriticalPlaces_1 p xs)]) ∧ Reads2 w' (.slice sa (resCriticalPlaces_0 p xs).length sc) (resCriticalPlaces_0 p xs) ∧ Below w.heap.size w w' := by
  obtain ⟨i0, hi0, hz0, hz1, hz2⟩ := info_parts infoRow
  obtain ⟨b, hb⟩ : ∃ b, cirB p xs = b := ⟨_, rfl⟩
  have HC := Lib.hid (fun w' (h : Below w.heap.size w w') => l06Is_any p v xs w' (ha.keep h) hb)
  cases b
  · have HR : Hid (resCriticalPlaces_0 p xs = [] ∧ resCriticalPlaces_1 p xs = 1) := by
      unfold resCriticalPlaces_0 resCriticalPlaces_1; rw [hb]; exact ⟨rfl, rfl⟩
    obtain ⟨a, ca, rfl, hm, _⟩ := ha
    have k0 := C2.here w (.int .i64 p) (.slice a xs.length ca) 27
    clear hb
    generalize xs.length = n at *
    go_enter Try.func41, Try.ntmps41
    go_wp2_with ((go_at_call 52; (with_reducible refine (HC.out _ (by go_grown)).mono ?_); rintro e w' ⟨rfl, hb⟩; have hL := chain (B := w.heap.size) (a := w) (by go_grown) (Nat.le_refl _) hb; (first | replace k0 := keepAt hb k0 | replace k0 := keepAt hb (C2.alloc k0 _)); clear hb))
    go_ret2
    exact ⟨none, 0, by rw [HR.out.1, HR.out.2]; rfl, by rw [HR.out.1]; exact (own2Nil _ 0 0).reads, hL⟩
  · obtain ⟨⟨p1, p4⟩, ⟨n1, n4⟩, _, _⟩ := cirB_out hb
    have HR : Hid (resCriticalPlaces_0 p xs = plTo p xs (2 ^ p.toNat) ∧ resCriticalPlaces_1 p xs = 0) := by
      unfold resCriticalPlaces_0 resCriticalPlaces_1; rw [hb]; exact ⟨rfl, rfl⟩
    obtain ⟨M, hM⟩ : ∃ M, 2 ^ xs.length = M := ⟨_, rfl⟩
    obtain ⟨PN, hPN⟩ : ∃ PN, 2 ^ p.toNat = PN := ⟨_, rfl⟩
    have hM16 : M ≤ 16 := by rw [← hM]; exact pow_le16 n4
    have hP16 : PN ≤ 16 := by rw [← hPN]; exact pow_le16 (by omega)
    have HPC : Hid (∀ w, Calls Try.prog 80 #[.int .i64 p] w fun e w' => e = .returned (.int .i64 (PN : Int)) ∧ w = w') := fun w => by
      have := l01Rows_any p w p1 (by omega); unfold rcZ at this; rw [hPN] at this; exact this
    have HSC : Hid (∀ w', Below w.heap.size w w' → Calls Try.prog 64 #[.agg #[.int .i64 p, v]] w' fun e w'' => e = .returned (.int .i64 (M : Int)) ∧ Below w'.heap.size w' w'') := fun w' h => by
      have := l06States_any p v xs w' (ha.keep h) n1 n4; unfold rcZ at this; rw [Int.toNat_natCast, hM] at this; exact this
    have HIn : Hid (∀ k : Nat, k < PN → inB (k : Int) p = true) := fun k hk => by
      unfold inB rcZ; rw [hPN]; exact decide_eq_true (by omega)
    have HCr := Lib.hid (fun (k j : Nat) (hk : k < PN) (hj : j < M) w' (h : Below w.heap.size w w') => l06Critical_any p (k : Int) j v xs w' (ha.keep h) hb (HIn.out k hk) (by rw [hM]; exact hj))
    have HL1 := Lib.hid (fun k => plTo_len p xs (by rw [hM]; exact hM16) k)
    have HS1 := Lib.hid (fun k => plTo_succ p xs k)
    have H00 : Hid (plTo p xs 0 = []) := rfl
    have HR0 : Hid (∀ k, plRow p xs k 0 = []) := fun k => rfl
    rw [hM] at HS1
    rw [hPN] at HR
    obtain ⟨a, ca, rfl, hm, _⟩ := ha
    have k0 := C2.here w (.int .i64 p) (.slice a xs.length ca) 27
    clear hb hM hPN
    generalize hn : xs.length = n at *
    clear hn
    go_enter Try.func41, Try.ntmps41
    go_wp2_with ((go_at_call 52; (with_reducible refine (HC.out _ (by go_grown)).mono ?_); rintro e w' ⟨rfl, hb⟩; have hL := chain (B := w.heap.size) (a := w) (by go_grown) (Nat.le_refl _) hb; (first | replace k0 := keepAt hb k0 | replace k0 := keepAt hb (C2.alloc k0 _)); clear hb))
    have hkb := k0.2.2.2.2
    have HOO := Lib.hid (own2Made w' (w.heap.size + 1) (by omega))
    go_loopw [4, 5] (fun u c wr => ∃ k : Nat, k ≤ PN ∧ c = .int .i64 (k : Int) ∧ Below w.heap.size w wr ∧ C2 wr w.heap.size (.int .i64 p) (.slice a n ca) ∧ Hid (Own2 wr (w.heap.size + 1) wr.heap.size u (plTo p xs k))) (fun _ c _ => PN - (intOf c).toNat)
    case atStart => exact ⟨0, Nat.zero_le _, rfl, by go_grown, k0.alloc _, HOO⟩
    case round =>
      clear hL k0 hkb HOO
      obtain ⟨k, hk, rfl, hL, k0, hO⟩ := hrel
      by_cases hkl : k < PN
      · have hk1 : (k : Int) < (PN : Int) := by omega
        have HCk := Lib.hid (fun j hj => HCr.out k j hkl hj)
        have HTk := HL1.out k
        go_wp2_with ((go_at_call 80; (with_reducible refine (HPC.out _).mono ?_); rintro e w' ⟨rfl, rfl⟩))
        go_loopw [4, 6] (fun u c wy => ∃ j : Nat, j ≤ M ∧ c = .int .i64 (j : Int) ∧ Below w.heap.size w wy ∧ C2 wy w.heap.size (.int .i64 p) (.slice a n ca) ∧ Hid (Own2 wy (w.heap.size + 1) wy.heap.size u (plTo p xs k ++ plRow p xs (k : Int) j))) (fun _ c _ => M - (intOf c).toNat)
        case atStart => exact ⟨0, Nat.zero_le _, rfl, hL, k0, by rw [HR0.out, List.append_nil]; exact hO⟩
        case round =>
          clear hL k0 hO
          obtain ⟨j, hj, rfl, hL, k0, hO⟩ := hrel
          by_cases hjl : j < M
          · have hj1 : (j : Int) < (M : Int) := by omega
            have HCj := Lib.hid (HCk.out j hjl)
            have Hl : (plTo p xs k ++ plRow p xs (k : Int) j).length ≤ 400 := by rw [List.length_append]; have := plRow_len p (k : Int) xs j; omega
            cases hq : criB p xs (k : Int) j
            · have HN : Hid (plTo p xs k ++ plRow p xs (k : Int) (j + 1) = plTo p xs k ++ plRow p xs (k : Int) j) := by rw [Hid, plRow_miss hq]
              rw [hq] at HCj
              clear hq
              generalize plTo p xs k ++ plRow p xs (k : Int) j = L at *
              go_wp2_with fail
              refine (HSC.out _ hL).mono ?_
              rintro e w1 ⟨rfl, hb⟩
              replace hL := chain (B := w.heap.size) (a := w) hL (Nat.le_refl _) hb
              replace k0 := keepAt hb k0
              replace hO := Lib.hid (hO.out.later hb)
              clear hb
              go_wp2_with fail
              refine (HCj.out _ hL).mono ?_
              rintro e w2 ⟨rfl, hb⟩
              replace hL := chain (B := w.heap.size) (a := w) hL (Nat.le_refl _) hb
              replace k0 := keepAt hb k0
              replace hO := Lib.hid (hO.out.later hb)
              clear hb
              go_wp2_with fail
              exact ⟨⟨j + 1, by omega, by go_num, hL, k0, by rw [HN.out]; exact hO⟩, by simp [intOf]; omega⟩
            · have HN : Hid (plTo p xs k ++ plRow p xs (k : Int) (j + 1) = (plTo p xs k ++ plRow p xs (k : Int) j) ++ [[(k : Int), (j : Int)]]) := by rw [Hid, plRow_hit hq, List.append_assoc]
              rw [hq] at HCj
              clear hq
              generalize plTo p xs k ++ plRow p xs (k : Int) j = L at *
              go_wp2_with fail
              refine (HSC.out _ hL).mono ?_
              rintro e w1 ⟨rfl, hb⟩
              replace hL := chain (B := w.heap.size) (a := w) hL (Nat.le_refl _) hb
              replace k0 := keepAt hb k0
              replace hO := Lib.hid (hO.out.later hb)
              clear hb
              go_wp2_with fail
              refine (HCj.out _ hL).mono ?_
              rintro e w2 ⟨rfl, hb⟩
              replace hL := chain (B := w.heap.size) (a := w) hL (Nat.le_refl _) hb
              replace k0 := keepAt hb k0
              replace hO := Lib.hid (hO.out.later hb)
              clear hb
              have hkb := k0.2.2.2.2
              have hfrom := Lib.hid hO.out.from
              have hB1 : Below w2.heap.size w2 (w2.alloc (.cells #[.int .i64 (k : Int), .int .i64 (j : Int)] 2)) := (Below.refl _ _).alloc (Nat.le_refl _) _
              have HB1 := Lib.hid hB1
              have HRows := Lib.hid (fun o => hO.out.asRows HB1.out o)
              have HTwo := Lib.hid (ownsTwo w2 (k : Int) (j : Int) w2.heap.size (Nat.le_refl _))
              clear hB1
              go_wp2_with (at_builtin; refine wpList_append_own_at _ rfl _ _ 48 rfl (w.heap.size + 1) 22 i0 (.slice none 0 0) 1 24 Try.underlying48 hi0 hz0 hz1 hz2 rfl (by decide) _ L.length ((List.range L.length).map (Classical.choose hO.out)) rfl (HRows.out _) ⟨w2.heap.size + 1, 0, none⟩ 1 1 [.slice (some ⟨w2.heap.size, 0, none⟩) 2 2] rfl rfl (by have h := cell_one_new (w2.alloc (.cells #[.int .i64 (k : Int), .int .i64 (j : Int)] 2)) (.slice (some ⟨w2.heap.size, 0, none⟩) 2 2) 22; rw [World.size_alloc] at h; exact h) (by simp [Value.oneCell']) (by unfold maxLen; omega) (by omega) (by simp; omega) ?_; intro v' w3 hown' hgrow hnil hat)
              have HO3 := Lib.hid (Own2.more _ hO.out (by omega) HB1.out HTwo.out hown' hgrow hat)
              exact ⟨⟨j + 1, by omega, by go_num, ((hL.alloc (by omega) _).alloc (by simp; omega) _).grown hgrow (by simp; omega) (fun q e => Nat.le_of_succ_le (hfrom.out q e)), ((k0.alloc _).alloc _).grown hgrow (fun e => absurd (hfrom.out _ e) (by omega)), by rw [HN.out]; exact HO3⟩, by simp [intOf]; omega⟩
          · have e : j = M := by omega
            have hjn : ¬ (j : Int) < (M : Int) := by omega
            rw [e, ← HS1.out] at hO
            clear e
            go_wp2_with fail
            refine (HSC.out _ hL).mono ?_
            rintro e w1 ⟨rfl, hb⟩
            replace hL := chain (B := w.heap.size) (a := w) hL (Nat.le_refl _) hb
            replace k0 := keepAt hb k0
            replace hO := Lib.hid (hO.out.later hb)
            clear hb
            go_wp2_with fail
            exact ⟨⟨k + 1, by omega, by go_num, hL, k0, hO⟩, by simp [intOf]; omega⟩
      · have e : k = PN := by omega
        have hkn : ¬ (k : Int) < (PN : Int) := by omega
        rw [e, ← HR.out.1] at hO
        clear e
        obtain ⟨sa, sc, rfl, _⟩ := hO.out.reads
        go_wp2_with ((go_at_call 80; (with_reducible refine (HPC.out _).mono ?_); rintro e w' ⟨rfl, rfl⟩))
        go_ret2
        exact ⟨sa, sc, by rw [HR.out.2]; rfl, hO.out.reads, hL⟩

theorem iCriticalPlaces_any (p : Int) (v : Value) (xs : List Int) (w : World) (ha : Reads w v xs) :
    Calls Try.prog 42 #[.agg #[.int .i64 p, v]] w fun e w' => ∃ u, e = .returned (.tuple #[u, .int .i64 (resCriticalPlaces_1 p xs)]) ∧ Own2 w' w.heap.size w'.heap.size u (resCriticalPlaces_0 p xs) ∧ Below w.heap.size w w' :=
  (iCriticalPlaces_g p v xs w ha).mono fun e w' ⟨sa, sc, h⟩ => ⟨_, h⟩
theorem sCriticalPlaces_any (p : Int) (v : Value) (xs : List Int) (w : World) (ha : Reads w v xs) :
    Calls Try.prog 41 #[.agg #[.int .i64 p, v]] w fun e w' => ∃ u, e = .returned (.tuple #[u, .int .i64 (resCriticalPlaces_1 p xs)]) ∧ Reads2 w' u (resCriticalPlaces_0 p xs) ∧ Below w.heap.size w w' :=
  (sCriticalPlaces_g p v xs w ha).mono fun e w' ⟨sa, sc, h⟩ => ⟨_, h⟩

end Go.Proofs.Ytblbapehakcomaa
