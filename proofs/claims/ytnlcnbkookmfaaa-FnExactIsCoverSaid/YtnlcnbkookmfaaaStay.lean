/- StayingPlaces: the program's and the model's. -/
import Derived.Test.YtnlcnbkookmfaaaApp
import Derived.Test.YtnlcnbkookmfaaaChS
namespace Go.Proofs.Ytnlcnbkookmfaaa
open Go.RowKit
set_option linter.unusedVariables false

/-- does a place stay -/
def stayB (xss : List (List Int)) (r c : Nat) : Bool := plZ xss r c == (r : Int)
def resStayingPlaces_0 (p : Int) (xss yss : List (List Int)) : List (List Int) := if chaB p xss yss = true then prTo (stayB xss) p.toNat xss.length else []
def resStayingPlaces_1 (p : Int) (xss yss : List (List Int)) : Int := if chaB p xss yss = true then 0 else 1
theorem lenStayingPlaces_0 (p : Int) (xss yss : List (List Int)) : (resStayingPlaces_0 p xss yss).length ≤ 100000 ∧ (resStayingPlaces_0 p xss yss).length + sumLen (resStayingPlaces_0 p xss yss) (resStayingPlaces_0 p xss yss).length ≤ 1000000 ∧ ∀ i, i < (resStayingPlaces_0 p xss yss).length → ((resStayingPlaces_0 p xss yss).getD i []).length ≤ 1048576 := by
  unfold resStayingPlaces_0
  by_cases h : chaB p xss yss = true
  · rw [if_pos h]
    obtain ⟨⟨n1, n8⟩, ⟨p1, p4⟩, _⟩ := chaB_out h
    have h1 := prTo_len (stayB xss) (M := p.toNat) (by omega) xss.length
    exact short (prTo_two _ _ _) (by decide) (by omega)
  · rw [if_neg h]; exact short (c := 0) (fun r hr => by cases hr) (by decide) (by simp)

set_option maxRecDepth 100000 in
set_option maxHeartbeats 4000000 in
theorem iStayingPlaces_g (v : Value) (p : Int) (xss yss : List (List Int)) (w : World) (ha : ReadsH w v p xss yss) :
    Calls Try.prog 21 #[v] w fun e w' => ∃ sa sc, e = .returned (.tuple #[.slice sa (resStayingPlaces_0 p xss yss).length sc, .int .i64 (resStayingPlaces_1 p xss yss)]) ∧ Own2 w' w.heap.size w'.heap.size (.slice sa (resStayingPlaces_0 p xss yss).length sc) (resStayingPlaces_0 p xss yss) ∧ Below w.heap.size w w' := by
  obtain ⟨i0, hi0, hz0, hz1, hz2⟩ := info_parts infoRow
  obtain ⟨b, hb⟩ : ∃ b, chaB p xss yss = b := ⟨_, rfl⟩
  have HC := Lib.hid (fun w' (h : Below w.heap.size w w') => isChart_any v p xss yss w' (ha.keep h) hb)
  cases b
  · have HR : Hid (resStayingPlaces_0 p xss yss = [] ∧ resStayingPlaces_1 p xss yss = 1) := by
      unfold resStayingPlaces_0 resStayingPlaces_1; rw [hb]; exact ⟨rfl, rfl⟩
    obtain ⟨a, ca, b', cb, rfl, _, _⟩ := ha
    have h0 := C3.here w (.int .i64 p) (.slice a xss.length ca) (.slice b' yss.length cb) 27
    clear hb
    generalize xss.length = n at *
    generalize yss.length = m at *
    go_enter Try.func21, Try.ntmps21
    go_wp2_with ((go_at_call 18; (with_reducible refine (HC.out _ (by go_grown)).mono ?_); rintro e w' ⟨rfl, hb⟩; have hL := chain (B := w.heap.size) (a := w) (by go_grown) (Nat.le_refl _) hb; (first | replace h0 := keepAt3 hb h0 | replace h0 := keepAt3 hb (C3.alloc h0 _)); clear hb))
    go_ret2
    exact ⟨none, 0, by rw [HR.out.1, HR.out.2]; rfl, by rw [HR.out.1]; exact own2Nil _ _ _, hL⟩
  · obtain ⟨⟨n1, n8⟩, ⟨p1, p4⟩, -⟩ := chaB_out hb
    have HR : Hid (resStayingPlaces_0 p xss yss = prTo (stayB xss) p.toNat xss.length ∧ resStayingPlaces_1 p xss yss = 0) := by
      unfold resStayingPlaces_0 resStayingPlaces_1; rw [hb]; exact ⟨rfl, rfl⟩
    have HRI := Lib.hid (fun w' (h : Below w.heap.size w w') => rowsIn_any v p xss yss w' (ha.keep h))
    have HLN := Lib.hid (fun r (hr : r < xss.length) => (row_len hb hr).1)
    obtain ⟨a, ca, b', cb, rfl, h1, _⟩ := ha
    obtain ⟨M, rfl⟩ : ∃ M : Nat, p = (M : Int) := ⟨p.toNat, by omega⟩
    rw [Int.toNat_natCast] at HR
    have HP : Hid (∀ r c, r < xss.length → c < M → ∃ b off ub uo ul uc, a = some ⟨b, off, none⟩ ∧ w.cell? ⟨b, off + r, none⟩ = some (.slice (some ⟨ub, uo, none⟩) ul uc) ∧ (c : Int) < (ul : Int) ∧ w.cell? ⟨ub, uo + c, none⟩ = some (.int .i64 (plZ xss r c))) := fun r c hr hc => by
      have e := HLN.out r hr
      obtain ⟨b, off, ub, uo, uc, h1', h2', h3'⟩ := h1.place hr (c := c) (by omega)
      exact ⟨b, off, ub, uo, _, uc, h1', h2', by omega, h3'⟩
    have h0 := C3.here w (.int .i64 (M : Int)) (.slice a xss.length ca) (.slice b' yss.length cb) 27
    have HL1 := Lib.hid (fun k => prTo_len (stayB xss) (M := M) (by omega) k)
    have HS1 := Lib.hid (fun k => prTo_succ (stayB xss) M k)
    have HST : Hid (∀ r c, stayB xss r c = (plZ xss r c == (r : Int))) := fun r c => rfl
    have hM4 : M ≤ 4 := by omega
    clear hb h1 HLN p1 p4
    generalize hn : xss.length = n at *
    generalize yss.length = m at *
    clear hn
    go_enter Try.func21, Try.ntmps21
    go_wp2_with (first | (go_at_call 18; (with_reducible refine (HC.out _ (by go_grown)).mono ?_); rintro e w' ⟨rfl, hb⟩; have hL := chain (B := w.heap.size) (a := w) (by go_grown) (Nat.le_refl _) hb; (first | replace h0 := keepAt3 hb h0 | replace h0 := keepAt3 hb (C3.alloc h0 _)); clear hb) | (go_at_call 54; (with_reducible refine (HRI.out _ (by go_grown)).mono ?_); rintro e w' ⟨rfl, hb⟩; have hL := chain (B := w.heap.size) (a := w) (by go_grown) (Nat.le_refl _) hb; (first | replace h0 := keepAt3 hb h0 | replace h0 := keepAt3 hb (C3.alloc h0 _)); clear hb))
    have hkb := h0.lt
    go_loopw [4, 12] (fun u c wr => ∃ k : Nat, k ≤ n ∧ c = .int .i64 (k : Int) ∧ Below w.heap.size w wr ∧ C3 wr w.heap.size (.int .i64 (M : Int)) (.slice a n ca) (.slice b' m cb) ∧ Hid (Own2 wr (w.heap.size + 1) wr.heap.size u (prTo (stayB xss) M k))) (fun _ c _ => n - (intOf c).toNat)
    case atStart => exact ⟨0, Nat.zero_le _, rfl, hL, h0, own2Nil _ _ _⟩
    case round =>
      clear hL h0 hkb
      obtain ⟨k, hk, rfl, hL, h0, hO⟩ := hrel
      by_cases hkl : k < n
      · have hk1 : (k : Int) < (n : Int) := by omega
        have hk0 : (0 : Int) ≤ (k : Int) := by omega
        have HTk := HL1.out k
        go_wp2_with fail
        go_loopw [4, 17] (fun u c wy => ∃ j : Nat, j ≤ M ∧ c = .int .i64 (j : Int) ∧ Below w.heap.size w wy ∧ C3 wy w.heap.size (.int .i64 (M : Int)) (.slice a n ca) (.slice b' m cb) ∧ Hid (Own2 wy (w.heap.size + 1) wy.heap.size u (prTo (stayB xss) M k ++ prRow (stayB xss) k j))) (fun _ c _ => M - (intOf c).toNat)
        case atStart => exact ⟨0, Nat.zero_le _, rfl, hL, h0, by rw [prRow_zero, List.append_nil]; exact hO⟩
        case round =>
          clear hL h0 hO
          obtain ⟨j, hj, rfl, hL, h0, hO⟩ := hrel
          by_cases hjl : j < M
          · have hj1 : (j : Int) < (M : Int) := by omega
            have hj0 : (0 : Int) ≤ (j : Int) := by omega
            obtain ⟨ab, ao, ub, uo, ul, uc, rfl, hx, hul, hy⟩ := HP.out k j hkl hjl
            have hca := cell_later hL hx
            have hcb := cell_later hL hy
            have Hl : (prTo (stayB xss) M k ++ prRow (stayB xss) k j).length ≤ 400 := by rw [List.length_append]; have := prRow_len (stayB xss) k j; omega
            have hq' := HST.out k j
            clear hx hy
            cases hq : stayB xss k j
            · have HN : Hid (prTo (stayB xss) M k ++ prRow (stayB xss) k (j + 1) = prTo (stayB xss) M k ++ prRow (stayB xss) k j) := by rw [Hid, prRow_miss hq]
              have hd : (plZ xss k j == (k : Int)) = false := by rw [← hq', hq]
              clear hq hq'
              generalize plZ xss k j = z at *
              generalize prTo (stayB xss) M k ++ prRow (stayB xss) k j = L at *
              go_wp2_with fail
              exact ⟨⟨j + 1, by omega, by go_num, hL, h0, by rw [HN.out]; exact hO⟩, by simp [intOf]; omega⟩
            · have HN : Hid (prTo (stayB xss) M k ++ prRow (stayB xss) k (j + 1) = (prTo (stayB xss) M k ++ prRow (stayB xss) k j) ++ [[(k : Int), (j : Int)]]) := by rw [Hid, prRow_hit hq, List.append_assoc]
              have hd : (plZ xss k j == (k : Int)) = true := by rw [← hq', hq]
              clear hq hq'
              generalize plZ xss k j = z at *
              generalize prTo (stayB xss) M k ++ prRow (stayB xss) k j = L at *
              have hkb := h0.lt
              have hfrom := Lib.hid hO.out.from
              have HRows := Lib.hid (fun o => hO.out.asRows ((Below.refl _ _).alloc (Nat.le_refl _) (.cells #[.int .i64 (k : Int), .int .i64 (j : Int)] 2)) o)
              have HTwo := Lib.hid (ownsTwo wr (k : Int) (j : Int) wr.heap.size (Nat.le_refl _))
              go_wp2_with (at_builtin; refine wpList_append_own_at _ rfl _ _ 22 rfl (w.heap.size + 1) 36 i0 (.slice none 0 0) 1 24 Try.underlying22 hi0 hz0 hz1 hz2 rfl (by decide) _ L.length ((List.range L.length).map (Classical.choose hO.out)) rfl (HRows.out _) ⟨wr.heap.size + 1, 0, none⟩ 1 1 [.slice (some ⟨wr.heap.size, 0, none⟩) 2 2] rfl rfl (by have h := cell_one_new (wr.alloc (.cells #[.int .i64 (k : Int), .int .i64 (j : Int)] 2)) (.slice (some ⟨wr.heap.size, 0, none⟩) 2 2) 36; rw [World.size_alloc] at h; exact h) (by simp [Value.oneCell']) (by unfold maxLen; omega) (by omega) (by simp; omega) ?_; intro v' w3 hown' hgrow hnil hat)
              have HO3 := Lib.hid (Own2.more _ hO.out (by omega) ((Below.refl _ _).alloc (Nat.le_refl _) _) HTwo.out hown' hgrow hat)
              exact ⟨⟨j + 1, by omega, by go_num, ((hL.alloc (by omega) _).alloc (by simp; omega) _).grown hgrow (by simp; omega) (fun q e => Nat.le_of_succ_le (hfrom.out q e)), ((h0.alloc _).alloc _).grown hgrow (fun e => absurd (hfrom.out _ e) (by omega)), by rw [HN.out]; exact HO3⟩, by simp [intOf]; omega⟩
          · have e : j = M := by omega
            have hjn : ¬ (j : Int) < (M : Int) := by omega
            rw [e, ← HS1.out] at hO
            clear e
            go_wp2_with fail
            exact ⟨⟨k + 1, by omega, by go_num, hL, h0, hO⟩, by simp [intOf]; omega⟩
      · have e : k = n := by omega
        have hkn : ¬ (k : Int) < (n : Int) := by omega
        rw [e, ← HR.out.1] at hO
        clear e
        obtain ⟨sa, sc, rfl, _⟩ := hO.out.reads
        go_wp2_with fail
        go_ret2
        exact ⟨sa, sc, by rw [HR.out.2]; rfl, hO.out.mono (Nat.le_succ _) (Nat.le_refl _), hL⟩

theorem l07N_any (v : Value) (p : Int) (xss yss : List (List Int)) (w : World) (ha : ReadsH w v p xss yss) :
    Calls Try.prog 57 #[v] w fun e w' => e = .returned (.int .i64 (xss.length : Int)) ∧ Below w.heap.size w w' := by
  obtain ⟨a, ca, b, cb, rfl, ⟨_, _, _, hm, _⟩, _⟩ := ha
  unfold maxLen at hm
  generalize xss.length = n at *
  generalize yss.length = m at *
  go_enter Try.func57, Try.ntmps57
  go_wp2
  go_ret
  exact ⟨rfl, by go_grown⟩

set_option maxRecDepth 100000 in
set_option maxHeartbeats 4000000 in
theorem sStayingPlaces_g (v : Value) (p : Int) (xss yss : List (List Int)) (w : World) (ha : ReadsH w v p xss yss) :
    Calls Try.prog 20 #[v] w fun e w' => ∃ sa sc, e = .returned (.tuple #[.slice sa (resStayingPlaces_0 p xss yss).length sc, .int .i64 (resStayingPlaces_1 p xss yss)]) ∧ Reads2 w' (.slice sa (resStayingPlaces_0 p xss yss).length sc) (resStayingPlaces_0 p xss yss) ∧ Below w.heap.size w w' := by
  obtain ⟨i0, hi0, hz0, hz1, hz2⟩ := info_parts infoRow
  obtain ⟨b, hb⟩ : ∃ b, chaB p xss yss = b := ⟨_, rfl⟩
  have HC := Lib.hid (fun w' (h : Below w.heap.size w w') => l07Is_any v p xss yss w' (ha.keep h) hb)
  cases b
  · have HR : Hid (resStayingPlaces_0 p xss yss = [] ∧ resStayingPlaces_1 p xss yss = 1) := by
      unfold resStayingPlaces_0 resStayingPlaces_1; rw [hb]; exact ⟨rfl, rfl⟩
    obtain ⟨a, ca, b', cb, rfl, _, _⟩ := ha
    have h0 := C3.here w (.int .i64 p) (.slice a xss.length ca) (.slice b' yss.length cb) 27
    clear hb
    generalize xss.length = n at *
    generalize yss.length = m at *
    go_enter Try.func20, Try.ntmps20
    go_wp2_with ((go_at_call 53; (with_reducible refine (HC.out _ (by go_grown)).mono ?_); rintro e w' ⟨rfl, hb⟩; have hL := chain (B := w.heap.size) (a := w) (by go_grown) (Nat.le_refl _) hb; (first | replace h0 := keepAt3 hb h0 | replace h0 := keepAt3 hb (C3.alloc h0 _)); clear hb))
    go_ret2
    exact ⟨none, 0, by rw [HR.out.1, HR.out.2]; rfl, by rw [HR.out.1]; exact (own2Nil _ 0 0).reads, hL⟩
  · obtain ⟨⟨n1, n8⟩, ⟨p1, p4⟩, -⟩ := chaB_out hb
    have HR : Hid (resStayingPlaces_0 p xss yss = prTo (stayB xss) p.toNat xss.length ∧ resStayingPlaces_1 p xss yss = 0) := by
      unfold resStayingPlaces_0 resStayingPlaces_1; rw [hb]; exact ⟨rfl, rfl⟩
    have HRI := Lib.hid (fun w' (h : Below w.heap.size w w') => l07N_any v p xss yss w' (ha.keep h))
    have HLN := Lib.hid (fun r (hr : r < xss.length) => (row_len hb hr).1)
    obtain ⟨a, ca, b', cb, rfl, h1, _⟩ := ha
    obtain ⟨M, rfl⟩ : ∃ M : Nat, p = (M : Int) := ⟨p.toNat, by omega⟩
    rw [Int.toNat_natCast] at HR
    have HP : Hid (∀ r c, r < xss.length → c < M → ∃ b off ub uo ul uc, a = some ⟨b, off, none⟩ ∧ w.cell? ⟨b, off + r, none⟩ = some (.slice (some ⟨ub, uo, none⟩) ul uc) ∧ (c : Int) < (ul : Int) ∧ w.cell? ⟨ub, uo + c, none⟩ = some (.int .i64 (plZ xss r c))) := fun r c hr hc => by
      have e := HLN.out r hr
      obtain ⟨b, off, ub, uo, uc, h1', h2', h3'⟩ := h1.place hr (c := c) (by omega)
      exact ⟨b, off, ub, uo, _, uc, h1', h2', by omega, h3'⟩
    have h0 := C3.here w (.int .i64 (M : Int)) (.slice a xss.length ca) (.slice b' yss.length cb) 27
    have HL1 := Lib.hid (fun k => prTo_len (stayB xss) (M := M) (by omega) k)
    have HS1 := Lib.hid (fun k => prTo_succ (stayB xss) M k)
    have HST : Hid (∀ r c, stayB xss r c = (plZ xss r c == (r : Int))) := fun r c => rfl
    have hM4 : M ≤ 4 := by omega
    clear hb h1 HLN p1 p4
    generalize hn : xss.length = n at *
    generalize yss.length = m at *
    clear hn
    go_enter Try.func20, Try.ntmps20
    go_wp2_with ((go_at_call 53; (with_reducible refine (HC.out _ (by go_grown)).mono ?_); rintro e w' ⟨rfl, hb⟩; have hL := chain (B := w.heap.size) (a := w) (by go_grown) (Nat.le_refl _) hb; (first | replace h0 := keepAt3 hb h0 | replace h0 := keepAt3 hb (C3.alloc h0 _)); clear hb))
    have hkb := h0.lt
    have HOO := Lib.hid (own2Made w' (w.heap.size + 1) (by omega))
    go_loopw [4, 5] (fun u c wr => ∃ k : Nat, k ≤ n ∧ c = .int .i64 (k : Int) ∧ Below w.heap.size w wr ∧ C3 wr w.heap.size (.int .i64 (M : Int)) (.slice a n ca) (.slice b' m cb) ∧ Hid (Own2 wr (w.heap.size + 1) wr.heap.size u (prTo (stayB xss) M k))) (fun _ c _ => n - (intOf c).toNat)
    case atStart => exact ⟨0, Nat.zero_le _, rfl, by go_grown, h0.alloc _, HOO⟩
    case round =>
      clear hL h0 hkb HOO
      obtain ⟨k, hk, rfl, hL, h0, hO⟩ := hrel
      by_cases hkl : k < n
      · have hk1 : (k : Int) < (n : Int) := by omega
        have hk0 : (0 : Int) ≤ (k : Int) := by omega
        have HTk := HL1.out k
        go_wp2_with fail
        refine (HRI.out _ hL).mono ?_
        rintro e w1 ⟨rfl, hb⟩
        replace hL := chain (B := w.heap.size) (a := w) hL (Nat.le_refl _) hb
        replace h0 := keepAt3 hb h0
        replace hO := Lib.hid (hO.out.later hb)
        clear hb
        go_wp2_with fail
        go_loopw [4, 6] (fun u c wy => ∃ j : Nat, j ≤ M ∧ c = .int .i64 (j : Int) ∧ Below w.heap.size w wy ∧ C3 wy w.heap.size (.int .i64 (M : Int)) (.slice a n ca) (.slice b' m cb) ∧ Hid (Own2 wy (w.heap.size + 1) wy.heap.size u (prTo (stayB xss) M k ++ prRow (stayB xss) k j))) (fun _ c _ => M - (intOf c).toNat)
        case atStart => exact ⟨0, Nat.zero_le _, rfl, hL, h0, by rw [prRow_zero, List.append_nil]; exact hO⟩
        case round =>
          clear hL h0 hO
          obtain ⟨j, hj, rfl, hL, h0, hO⟩ := hrel
          by_cases hjl : j < M
          · have hj1 : (j : Int) < (M : Int) := by omega
            have hj0 : (0 : Int) ≤ (j : Int) := by omega
            obtain ⟨ab, ao, ub, uo, ul, uc, rfl, hx, hul, hy⟩ := HP.out k j hkl hjl
            have hca := cell_later hL hx
            have hcb := cell_later hL hy
            have Hl : (prTo (stayB xss) M k ++ prRow (stayB xss) k j).length ≤ 400 := by rw [List.length_append]; have := prRow_len (stayB xss) k j; omega
            have hq' := HST.out k j
            clear hx hy
            cases hq : stayB xss k j
            · have HN : Hid (prTo (stayB xss) M k ++ prRow (stayB xss) k (j + 1) = prTo (stayB xss) M k ++ prRow (stayB xss) k j) := by rw [Hid, prRow_miss hq]
              have hd : (plZ xss k j == (k : Int)) = false := by rw [← hq', hq]
              clear hq hq'
              generalize plZ xss k j = z at *
              generalize prTo (stayB xss) M k ++ prRow (stayB xss) k j = L at *
              go_wp2_with fail
              exact ⟨⟨j + 1, by omega, by go_num, hL, h0, by rw [HN.out]; exact hO⟩, by simp [intOf]; omega⟩
            · have HN : Hid (prTo (stayB xss) M k ++ prRow (stayB xss) k (j + 1) = (prTo (stayB xss) M k ++ prRow (stayB xss) k j) ++ [[(k : Int), (j : Int)]]) := by rw [Hid, prRow_hit hq, List.append_assoc]
              have hd : (plZ xss k j == (k : Int)) = true := by rw [← hq', hq]
              clear hq hq'
              generalize plZ xss k j = z at *
              generalize prTo (stayB xss) M k ++ prRow (stayB xss) k j = L at *
              have hkb := h0.lt
              have hfrom := Lib.hid hO.out.from
              have HRows := Lib.hid (fun o => hO.out.asRows ((Below.refl _ _).alloc (Nat.le_refl _) (.cells #[.int .i64 (k : Int), .int .i64 (j : Int)] 2)) o)
              have HTwo := Lib.hid (ownsTwo wr (k : Int) (j : Int) wr.heap.size (Nat.le_refl _))
              go_wp2_with (at_builtin; refine wpList_append_own_at _ rfl _ _ 22 rfl (w.heap.size + 1) 36 i0 (.slice none 0 0) 1 24 Try.underlying22 hi0 hz0 hz1 hz2 rfl (by decide) _ L.length ((List.range L.length).map (Classical.choose hO.out)) rfl (HRows.out _) ⟨wr.heap.size + 1, 0, none⟩ 1 1 [.slice (some ⟨wr.heap.size, 0, none⟩) 2 2] rfl rfl (by have h := cell_one_new (wr.alloc (.cells #[.int .i64 (k : Int), .int .i64 (j : Int)] 2)) (.slice (some ⟨wr.heap.size, 0, none⟩) 2 2) 36; rw [World.size_alloc] at h; exact h) (by simp [Value.oneCell']) (by unfold maxLen; omega) (by omega) (by simp; omega) ?_; intro v' w3 hown' hgrow hnil hat)
              have HO3 := Lib.hid (Own2.more _ hO.out (by omega) ((Below.refl _ _).alloc (Nat.le_refl _) _) HTwo.out hown' hgrow hat)
              exact ⟨⟨j + 1, by omega, by go_num, ((hL.alloc (by omega) _).alloc (by simp; omega) _).grown hgrow (by simp; omega) (fun q e => Nat.le_of_succ_le (hfrom.out q e)), ((h0.alloc _).alloc _).grown hgrow (fun e => absurd (hfrom.out _ e) (by omega)), by rw [HN.out]; exact HO3⟩, by simp [intOf]; omega⟩
          · have e : j = M := by omega
            have hjn : ¬ (j : Int) < (M : Int) := by omega
            rw [e, ← HS1.out] at hO
            clear e
            go_wp2_with fail
            exact ⟨⟨k + 1, by omega, by go_num, hL, h0, hO⟩, by simp [intOf]; omega⟩
      · have e : k = n := by omega
        have hkn : ¬ (k : Int) < (n : Int) := by omega
        rw [e, ← HR.out.1] at hO
        clear e
        obtain ⟨sa, sc, rfl, _⟩ := hO.out.reads
        go_wp2_with fail
        refine (HRI.out _ hL).mono ?_
        rintro e w1 ⟨rfl, hb⟩
        replace hL := chain (B := w.heap.size) (a := w) hL (Nat.le_refl _) hb
        replace h0 := keepAt3 hb h0
        replace hO := Lib.hid (hO.out.later hb)
        clear hb
        go_wp2_with fail
        go_ret2
        exact ⟨sa, sc, by rw [HR.out.2]; rfl, hO.out.reads, hL⟩

theorem iStayingPlaces_any (v : Value) (p : Int) (xss yss : List (List Int)) (w : World) (ha : ReadsH w v p xss yss) :
    Calls Try.prog 21 #[v] w fun e w' => ∃ u, e = .returned (.tuple #[u, .int .i64 (resStayingPlaces_1 p xss yss)]) ∧ Own2 w' w.heap.size w'.heap.size u (resStayingPlaces_0 p xss yss) ∧ Below w.heap.size w w' :=
  (iStayingPlaces_g v p xss yss w ha).mono fun e w' ⟨sa, sc, h⟩ => ⟨_, h⟩
theorem sStayingPlaces_any (v : Value) (p : Int) (xss yss : List (List Int)) (w : World) (ha : ReadsH w v p xss yss) :
    Calls Try.prog 20 #[v] w fun e w' => ∃ u, e = .returned (.tuple #[u, .int .i64 (resStayingPlaces_1 p xss yss)]) ∧ Reads2 w' u (resStayingPlaces_0 p xss yss) ∧ Below w.heap.size w w' :=
  (sStayingPlaces_g v p xss yss w ha).mono fun e w' ⟨sa, sc, h⟩ => ⟨_, h⟩

end Go.Proofs.Ytnlcnbkookmfaaa
