/- slices.Clone at numbers; a slice of slices of the call's own, one row more. -/
import Derived.Test.YtkbgboooidfloaaOwn2
import Derived.Maps.AppendAt
namespace Go.Proofs.Ytkbgboooidfloaa
open Go.RowKit
set_option linter.unusedVariables false

theorem addr_add (b off i : Nat) : (⟨b, off, none⟩ : Addr).add i = ⟨b, off + i, none⟩ := by
  unfold Addr.add; split
  · rename_i h; subst h; rfl
  · rfl

theorem sliceNil_some (a : Addr) (n ca : Nat) (w : World) : (binOp .eql 41 (.slice (some a) n ca) (.slice none 0 0)).run Try.prog w = .ok (.bool false) w := by kernel_rfl

set_option maxRecDepth 100000 in
set_option maxHeartbeats 1000000 in
/-- a slice of one cell or more copied into a block of the call's own -/
theorem clone_any (b off n ca : Nat) (xs : List Int) (w : World) (hn : xs.length = n) (hm : n ≤ 1048576) (hc : ∀ i, i < n → w.cell? ⟨b, off + i, none⟩ = some (.int .i64 (xs.getD i 0))) :
    Calls Try.prog 87 #[.slice (some ⟨b, off, none⟩) n ca] w fun e w' => ∃ u, e = .returned u ∧ Owns w' w.heap.size u xs ∧ Below w.heap.size w w' := by
  obtain ⟨i0, hi, hz0, hz1, hz2⟩ := info_parts info64
  have oo : Owns (w.alloc (.cells #[] 2)) w.heap.size (.slice (some ⟨w.heap.size, 0, none⟩) 0 0) [] :=
    World.ownsRow_made (base := w.heap.size) (e := 2) (size := 1) w #[] 0 (by simp) (by simp) rfl
  have HNews : Hid (∀ j u, (xs.map (Value.int .i64))[j]? = some u → (w.alloc (.cells #[] 2)).cell? ((⟨b, off, none⟩ : Addr).add j) = some u) := fun j u hj => by
    have hjl : j < xs.length := by
      rcases Nat.lt_or_ge j xs.length with h | h
      · exact h
      · rw [List.getElem?_eq_none (by simpa using h)] at hj; cases hj
    have h1 := cell_later ((Below.refl _ w).alloc (Nat.le_refl _) (.cells #[] 2)) (hc j (by omega))
    rw [addr_add, h1]
    rw [List.getElem?_map, List.getElem?_eq_getElem hjl] at hj
    simp only [Option.map_some] at hj
    rw [← hj]
    simp [List.getD_eq_getElem?_getD, hjl]
  have HOne : Hid (∀ u ∈ xs.map (Value.int .i64), u.oneCell' = true) := fun u hu => by
    obtain ⟨x, _, rfl⟩ := List.mem_map.1 hu; rfl
  have HLen : Hid ((xs.map (Value.int .i64)).length = n * 1) := by unfold Hid; rw [List.length_map, hn, Nat.mul_one]
  have HM : Hid (n ≤ 1048576) := hm
  have HN := Lib.hid hn
  clear hc hm hn
  have hsn := fun w => sliceNil_some ⟨b, off, none⟩ n ca w
  go_enter Try.func87, Try.ntmps87
  go_wp2_with (at_builtin; refine wpList_append_own_at _ rfl _ _ 41 rfl w.heap.size 2 i0 (.int .i64 0) 1 8 Try.underlying41 hi hz0 hz1 hz2 rfl (by decide) (.slice (some ⟨w.heap.size, 0, none⟩) 0 0) 0 [] rfl oo ⟨b, off, none⟩ n ca (xs.map (Value.int .i64)) rfl HLen.out HNews.out HOne.out (by have := HM.out; unfold maxLen; omega) (by have := HM.out; omega) (by simp) ?_; intro v1 w2 hown1 hgrow1 hnil1 hat1; have gB : Below w.heap.size w w2 := ((Below.refl _ w).alloc (Nat.le_refl _) _).grown hgrow1 (by simp) (Owns.rowsFrom oo (Nat.le_refl _)); have gO : Owns w2 w.heap.size v1 xs := (by have h := hown1; rw [Nat.zero_add, List.nil_append, ← HN.out] at h; exact h); clear hown1 hgrow1 hnil1 hat1)
  go_ret
  exact ⟨_, rfl, gO, gB⟩

/-- one row more -/
theorem Own2.snoc {w w1 w2 : World} {B : Nat} {v u v' : Value} {xss : List (List Int)} {c : List Int} (o : Obj) (h : Own2 w B w.heap.size v xss) (hB : B ≤ w.heap.size) (hb : Below w.heap.size w w1) (hu : Owns w1 w.heap.size u c)
    (ho : w2.ownsRow B 41 1 v' (xss.length + 1) ((List.range xss.length).map (Classical.choose h) ++ [u])) (hg : (w1.alloc o).grownBy w2 v.ownBlock) (hat : v'.ownBlock = v.ownBlock ∨ v'.ownBlock = some (w1.alloc o).heap.size) :
    Own2 w2 B w2.heap.size v' (xss ++ [c]) := by
  obtain ⟨h1, h2, h3⟩ := Classical.choose_spec h
  generalize Classical.choose h = V at *
  have hz := hb.size
  have hz1 : (w1.alloc o).heap.size = w1.heap.size + 1 := by simp
  rw [hz1] at hat
  have key : ∀ {x : Value} {ys : List Int} {base : Nat}, Owns (w1.alloc o) base x ys → (∀ k, x.ownBlock = some k → v.ownBlock ≠ some k) → Owns w2 base x ys := fun hx hk =>
    World.ownsRow.kept hx hg (by
      rename_i x ys base
      rcases e : x.ownBlock with _ | k
      · exact .inl rfl
      · right; intro e2; exact hk k e e2.symm)
  have hgz := hg.size
  rw [hz1] at hgz
  refine ⟨fun i => if i < xss.length then V i else u, ?_, fun k e => (World.ownsRow.lt ho k e).2, fun i hi => ?_⟩
  · have e : (List.range (xss ++ [c]).length).map (fun i => if i < xss.length then V i else u) = (List.range xss.length).map V ++ [u] := by
      rw [List.length_append, List.length_singleton, List.range_succ, List.map_append]
      congr 1
      · apply List.map_congr_left
        intro i hi
        rw [if_pos (by simpa using hi)]
      · simp
    rw [e, List.length_append, List.length_singleton]
    exact ho
  · rw [List.length_append, List.length_singleton] at hi
    by_cases hlt : i < xss.length
    · obtain ⟨a, bb⟩ := h3 i hlt
      have e : (xss ++ [c]).getD i [] = xss.getD i [] := by simp [List.getD_eq_getElem?_getD, List.getElem?_append_left hlt]
      simp only [if_pos hlt, e]
      refine ⟨key (World.ownsRow.alloc (a.keep hb) o) fun k e => (bb k e).2.1, fun k e => ?_⟩
      have hk := bb k e
      have hk2 := (World.ownsRow.lt a k e).2
      refine ⟨by omega, fun e2 => ?_, fun j hj => by rw [if_pos (by omega)]; exact hk.2.2 j hj⟩
      rcases hat with hat | hat
      · exact hk.2.1 (by rw [← hat]; exact e2)
      · rw [hat] at e2
        have : w1.heap.size + 1 = k := by simpa using e2
        omega
    · have e : i = xss.length := by omega
      subst e
      have e : (xss ++ [c]).getD xss.length [] = c := by simp [List.getD_eq_getElem?_getD]
      simp only [if_neg (Nat.lt_irrefl _), e]
      refine ⟨key (World.ownsRow.alloc (hu.mono hB) o) fun k e e2 => ?_, fun k e => ?_⟩
      · have := (World.ownsRow.lt hu k e).1
        have := h2 k e2
        omega
      · have a1 := (World.ownsRow.lt hu k e).1
        have a2 := (World.ownsRow.lt hu k e).2
        refine ⟨by omega, fun e2 => ?_, fun j hj => ?_⟩
        · rcases hat with hat | hat
          · have := h2 k (by rw [← hat]; exact e2)
            omega
          · rw [hat] at e2
            have : w1.heap.size + 1 = k := by simpa using e2
            omega
        · rw [if_pos hj]
          intro e2
          have := ((h3 j hj).2 k e2).1
          omega

end Go.Proofs.Ytkbgboooidfloaa
