/- Two networks in one: what the program and the model have in common. -/
import Derived.Test.YtibfenkaoaclfaaEx
import Derived.Laws.AppendOwnNone
namespace Go.Proofs.Ytibfenkaoaclfaa
open Go.RowKit
set_option linter.unusedVariables false

theorem cellsC_append (xss yss : List (List Int)) : cellsC xss xss.length xss.length ++ cellsC yss yss.length yss.length = cellsC (xss ++ yss) (xss ++ yss).length (xss ++ yss).length := by
  unfold cellsC
  apply List.ext_getElem
  · simp only [List.length_append, List.length_map, List.length_range]; omega
  · intro q h1 h2
    simp only [List.length_append, List.length_map, List.length_range] at h1 h2
    by_cases hq : q < xss.length * 4
    · rw [List.getElem_append_left (by simpa using hq)]
      simp only [List.getElem_map, List.getElem_range, List.length_append]
      have e : (xss ++ yss).getD (q / 4) [] = xss.getD (q / 4) [] := by simp only [List.getD_eq_getElem?_getD]; rw [List.getElem?_append_left (by omega)]
      rw [if_pos (by omega), if_pos (by omega), e]
    · rw [List.getElem_append_right (by simp; omega)]
      simp only [List.getElem_map, List.getElem_range, List.length_append, List.length_map, List.length_range]
      have e1 : (q - xss.length * 4) / 4 = q / 4 - xss.length := by omega
      have e2 : (q - xss.length * 4) % 4 = q % 4 := by omega
      have e : (xss ++ yss).getD (q / 4) [] = yss.getD (q / 4 - xss.length) [] := by simp only [List.getD_eq_getElem?_getD]; rw [List.getElem?_append_right (by omega)]
      rw [e1, e2, if_pos (by omega), if_pos (by omega), e]
theorem cellsC_len (xss : List (List Int)) (n k : Nat) : (cellsC xss n k).length = n * 4 := by simp [cellsC]
theorem cellsC_one (xss : List (List Int)) (n k : Nat) : ∀ u ∈ cellsC xss n k, u.oneCell' = true := by
  intro u hu
  unfold cellsC at hu
  obtain ⟨q, _, rfl⟩ := List.mem_map.1 hu
  rfl
theorem OwnsC.joined {w : World} {base : Nat} {v : Value} {xss yss : List (List Int)} (h : w.ownsRow base 77 4 v (xss.length + yss.length) (cellsC xss xss.length xss.length ++ cellsC yss yss.length yss.length)) : OwnsC w base v (xss ++ yss) := by
  unfold OwnsC
  rw [cellsC_append] at h
  rw [List.length_append] at *
  exact h
/-- the cells of a slice of arrays, as an append of all of them wants them -/
theorem OwnsC.news {w : World} {base : Nat} {ad : Addr} {n c : Nat} {xss : List (List Int)} (h : OwnsC w base (.slice (some ad) n c) xss) : ∀ j u, (cellsC xss xss.length xss.length)[j]? = some u → w.cell? (ad.add j) = some u := by
  intro j u hu
  rcases h.2 with ⟨hv, _⟩ | ⟨g, cap, cur, hv, hb, hg, hc, hm, hs, ht⟩
  · cases hv
  · have hn : n = xss.length := by
      have := h.2
      rcases this with ⟨h0, _⟩ | ⟨g', cap', cur', h0, _⟩
      · cases h0
      · simp only [Value.slice.injEq] at h0; exact h0.2.1
    subst hn
    have h1 : w.ownsRow base 77 4 (.slice (some ad) xss.length c) xss.length (cellsC xss xss.length xss.length) := h
    simp only [Value.slice.injEq, Option.some.injEq] at hv
    obtain ⟨rfl, _, _⟩ := hv
    have hj : j < xss.length * 4 := by
      have := List.getElem?_eq_some_iff.1 hu
      obtain ⟨h2, _⟩ := this
      rwa [cellsC_len] at h2
    have e := World.ownsRow.cellAt h1 j hj
    rw [addr_add, Nat.zero_add]
    exact e.trans hu

/-- an append of all elements of a slice of the call's own, nil let in -/
theorem run_append_two {P : Program} {w : World} (base base2 : Nat) (t ty e : TypeId) (i : TypeInfo) (z : Value) (size bytes : Nat) (ht : P.underlying t = some (.slice e)) (hi : P.info? e = some i) (hz : i.zero = some z)
    (hsize : i.size = size) (hby : i.bytes = bytes) (hzs : z.cells.size = size) (hsz : 0 < size)
    (v u : Value) (n m : Nat) (xs news : List Value) (hown : w.ownsRow base e size v n xs) (hu : w.ownsRow base2 e size u m news) (h1 : ∀ x ∈ news, x.oneCell' = true)
    (h63 : n + m ≤ maxLen) (hbytes : (n + m) * bytes ≤ 140737488355328) (hbase : base ≤ w.heap.size) :
    ∃ v' w', (Builtin.append_ #[t, t] ty #[v, u]).run P w = .ok v' w' ∧ w'.ownsRow base e size v' (n + m) (xs ++ news) ∧ w.grownBy w' v.ownBlock ∧ (v'.ownBlock = v.ownBlock ∨ v'.ownBlock = some w.heap.size) := by
  rcases hu.2 with ⟨rfl, rfl⟩ | ⟨g, cap, cur, rfl, hb, hg, hc, hm, hs, htk⟩
  · have hn : news = [] := List.eq_nil_of_length_eq_zero (by simpa using hu.1)
    subst hn
    refine ⟨v, w, run_append_owned_none (P := P) (w := w) base t ty e i size ht hi v n xs hown, by simpa using hown, ⟨rfl, rfl, rfl, Nat.le_refl _, fun _ _ _ => rfl⟩, .inl rfl⟩
  · obtain ⟨v', w', h2, h3, h4, _, h5⟩ := run_append_own_at (P := P) (w := w) base t ty e i z size bytes ht hi hz hsize hby hzs hsz v n xs hown ⟨g, 0, none⟩ m cap news hu.1 (hu.cells (g := g) rfl) h1 h63 hbytes hbase
    exact ⟨v', w', h2, h3, h4, h5⟩
theorem step_append_two {P : Program} {w : World} {ops : Array Oper} {o : Oper} {a : Act} {K : Act → World → Prop} {Q : Exit → Act → World → Prop} {E : Prop} (hgd : o.guard = none) (s x : Operand) (t : TypeId)
    (ho : o.op = .call { callee := .builtin .append, args := #[s, x], argTypes := #[t, t] })
    (base base2 : Nat) (e : TypeId) (i : TypeInfo) (z : Value) (size bytes : Nat) (ht : P.underlying t = some (.slice e)) (hi : P.info? e = some i) (hz : i.zero = some z)
    (hsize : i.size = size) (hby : i.bytes = bytes) (hzs : z.cells.size = size) (hsz : 0 < size)
    (v u : Value) (n m : Nat) (xs news : List Value) (hs : a.eval s = v) (hx : a.eval x = u) (hown : w.ownsRow base e size v n xs) (hu : w.ownsRow base2 e size u m news) (h1 : ∀ x ∈ news, x.oneCell' = true)
    (h63 : n + m ≤ maxLen) (hbytes : (n + m) * bytes ≤ 140737488355328) (hbase : base ≤ w.heap.size)
    (h : ∀ v' w', w'.ownsRow base e size v' (n + m) (xs ++ news) → w.grownBy w' v.ownBlock → (v'.ownBlock = v.ownBlock ∨ v'.ownBlock = some w.heap.size) → K (a.put o.dst v') w') :
    if Region.wanted o (yielded ops a.tmps) = true then Oper.wp P o a w K Q else E := by
  have hw : Region.wanted o (yielded ops a.tmps) = true := by simp [Region.wanted, hgd]
  rw [if_pos hw]
  obtain ⟨v', w', hr, h2, h3, h4⟩ := run_append_two (P := P) (w := w) base base2 t o.type e i z size bytes ht hi hz hsize hby hzs hsz v u n m xs news hown hu h1 h63 hbytes hbase
  unfold Oper.wp execOp
  simp only [ho, resolve, invoke, builtin, Sem.run_bind, Sem.run_pure, Result.andThen_ok, List.map_toArray, List.map_cons, List.map_nil, hs, hx, hr]
  exact h v' w' h2 h3 h4

set_option maxRecDepth 100000 in
set_option maxHeartbeats 2000000 in
theorem limits_ok (p : Int) (v : Value) (L : List (List Int)) (base : Nat) (w : World) (h8 : p ≤ 8) (hn12 : L.length ≤ 12) (h4 : ∀ c, c ∈ L → c.length = 4) (hb : base ≤ w.heap.size) (ho : OwnsC w base v L) :
    Calls Try.prog 50 #[.int .i64 p, v] w fun e w' => ∃ sa sc, e = .returned (.tuple #[.agg #[.int .i64 p, .slice sa L.length sc], .int .i64 0]) ∧ Own2 w' w.heap.size w'.heap.size (.slice sa L.length sc) (sortL L) ∧ Below base w w' := by
  have HO := Lib.hid (show OwnsC (w.alloc (.cells #[.int .i64 0, .slice none 0 0] 37)) base v L from World.ownsRow.alloc ho _)
  have ko := C2.here w (.int .i64 0) (.slice none 0 0) 37
  have h8' : ¬ (8 : Int) < p := by omega
  have h12' : ¬ (12 : Int) < (L.length : Int) := by omega
  have HB : Hid (base ≤ (w.alloc (.cells #[.int .i64 0, .slice none 0 0] 37)).heap.size) := by unfold Hid; simp; omega
  have HL : Hid (Below base w (w.alloc (.cells #[.int .i64 0, .slice none 0 0] 37))) := (Below.refl _ w).alloc hb _
  have H4 := Lib.hid h4
  have H12 := Lib.hid hn12
  have HO0 := Lib.hid ho
  have HB0 := Lib.hid hb
  obtain ⟨a, cap, rfl, _, _⟩ := ho.reads
  clear ho h4 hn12 hb h8
  go_enter Try.func50, Try.ntmps50
  go_wp2_with fail
  refine (networkOf_any p _ L base _ H12.out H4.out HB.out HO.out).mono ?_
  rintro e w1 ⟨sa, sc, rfl, hW, hb⟩
  have ko1 := C2.apart ko hb (fun e => by have := (World.ownsRow.lt HO0.out _ e).2; omega)
  have hs1 := hb.low.size
  rw [World.size_alloc] at hs1
  have hO1 := Lib.hid (((hW.setCell ⟨w.heap.size, 0, none⟩ (.int .i64 p) (by simp)).setCell ⟨w.heap.size, 1, none⟩ (.slice sa L.length sc) (by simp)).wide (show w.heap.size ≤ (w.alloc (.cells #[.int .i64 0, .slice none 0 0] 37)).heap.size by simp) (show w1.heap.size ≤ (((w1.setCell ⟨w.heap.size, 0, none⟩ (.int .i64 p)).setCell ⟨w.heap.size, 1, none⟩ (.slice sa L.length sc))).heap.size by rw [World.size_setCell, World.size_setCell]; exact Nat.le_refl _))
  have ko2 := (ko1.put0 (.int .i64 p)).put1 (.slice sa L.length sc)
  have hL1 : Below base w w1 := HL.out.trans hb.low
  have hL2 := (hL1.setCell (p := ⟨w.heap.size, 0, none⟩) HB0.out (.int .i64 p)).setCell (p := ⟨w.heap.size, 1, none⟩) HB0.out (.slice sa L.length sc)
  clear hb hW hL1
  go_wp2_with fail
  refine bodyPost_ret (v := .tuple #[.agg #[.int .i64 p, .slice sa L.length sc], .int .i64 0]) (by simp [results, Try.results50, go_sem, *]) rfl ?_
  exact ⟨sa, sc, rfl, hO1.out, hL2⟩

set_option maxRecDepth 100000 in
set_option maxHeartbeats 2000000 in
theorem limits_no (p : Int) (v : Value) (L : List (List Int)) (base : Nat) (w : World) (hb : base ≤ w.heap.size) (ho : OwnsC w base v L) (h : 8 < p ∨ 12 < L.length) :
    Calls Try.prog 50 #[.int .i64 p, v] w fun e w' => e = .returned (.tuple #[.agg #[.int .i64 0, .slice none 0 0], .int .i64 3]) ∧ Below base w w' := by
  have ko := C2.here w (.int .i64 0) (.slice none 0 0) 37
  have HB0 := Lib.hid hb
  obtain ⟨a, cap, rfl, _, _⟩ := ho.reads
  clear ho hb
  by_cases h8 : 8 < p
  · clear h
    go_enter Try.func50, Try.ntmps50
    go_wp2_with fail
    refine bodyPost_ret (v := .tuple #[.agg #[.int .i64 0, .slice none 0 0], .int .i64 3]) (by simp [results, Try.results50, go_sem, *]) rfl ?_
    exact ⟨rfl, (Below.refl base w).alloc HB0.out _⟩
  · have h12 : (12 : Int) < (L.length : Int) := by omega
    have h8' : ¬ (8 : Int) < p := h8
    clear h h8
    go_enter Try.func50, Try.ntmps50
    go_wp2_with fail
    refine bodyPost_ret (v := .tuple #[.agg #[.int .i64 0, .slice none 0 0], .int .i64 3]) (by simp [results, Try.results50, go_sem, *]) rfl ?_
    exact ⟨rfl, (Below.refl base w).alloc HB0.out _⟩

/-- both are networks, and within the limits with so many points -/
def Two (pt px py : Int) (xss yss : List (List Int)) : Prop := Net px xss ∧ Net py yss ∧ pt ≤ 8 ∧ xss.length + yss.length ≤ 12
instance (pt px py : Int) (xss yss : List (List Int)) : Decidable (Two pt px py xss yss) := by unfold Two; infer_instance
def twoC (pt px py : Int) (xss yss : List (List Int)) : Int := if Net px xss ∧ Net py yss then (if pt ≤ 8 ∧ xss.length + yss.length ≤ 12 then 0 else 3) else 1
def twoP (pt px py : Int) (xss yss : List (List Int)) : Int := if Two pt px py xss yss then pt else 0
def twoL (pt px py z1 o1 x1 z2 o2 x2 : Int) (xss yss : List (List Int)) : List (List Int) := if Two pt px py xss yss then sortL (xss.map (renC z1 o1 x1) ++ yss.map (renC z2 o2 x2)) else []
theorem two_cases (pt px py : Int) (xss yss : List (List Int)) :
    (¬ Net px xss ∧ ¬ Two pt px py xss yss ∧ twoC pt px py xss yss = 1) ∨ (Net px xss ∧ ¬ Net py yss ∧ ¬ Two pt px py xss yss ∧ twoC pt px py xss yss = 1) ∨
    (Net px xss ∧ Net py yss ∧ 8 < pt ∧ ¬ Two pt px py xss yss ∧ twoC pt px py xss yss = 3) ∨ (Net px xss ∧ Net py yss ∧ pt ≤ 8 ∧ 12 < xss.length + yss.length ∧ ¬ Two pt px py xss yss ∧ twoC pt px py xss yss = 3) ∨
    (Two pt px py xss yss ∧ twoC pt px py xss yss = 0) := by
  unfold Two twoC
  by_cases h1 : Net px xss
  · by_cases h2 : Net py yss
    · by_cases h3 : pt ≤ 8
      · by_cases h4 : xss.length + yss.length ≤ 12
        · exact .inr (.inr (.inr (.inr ⟨⟨h1, h2, h3, h4⟩, by rw [if_pos ⟨h1, h2⟩, if_pos ⟨h3, h4⟩]⟩)))
        · exact .inr (.inr (.inr (.inl ⟨h1, h2, h3, by omega, fun h => h4 h.2.2.2, by rw [if_pos ⟨h1, h2⟩, if_neg (fun h => h4 h.2)]⟩)))
      · exact .inr (.inr (.inl ⟨h1, h2, by omega, fun h => h3 h.2.2.1, by rw [if_pos ⟨h1, h2⟩, if_neg (fun h => h3 h.1)]⟩))
    · exact .inr (.inl ⟨h1, h2, fun h => h2 h.2.1, by rw [if_neg (fun h => h2 h.2)]⟩)
  · exact .inl ⟨h1, fun h => h1 h.1, by rw [if_neg (fun h => h1 h.1)]⟩

end Go.Proofs.Ytibfenkaoaclfaa
