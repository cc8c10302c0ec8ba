/- WidenTable: the program's and the model's. -/
import Derived.Test.YtgcdpbikeimelabSPart
namespace Go.Proofs.Ytgcdpbikeimelab
open Go.RowKit
set_option linter.unusedVariables false

/-- the row of the first inputs -/
def lowRow (n : Int) (k : Int) : Int := bits .and .i64 k (rcZ n - 1)
theorem lowRow_fin : ∀ (n : Fin 6) (k : Fin 32), 0 < n.val → lowRow (n.val : Int) (k.val : Int) = (k.val : Int).tmod (rcZ (n.val : Int)) ∧ 0 ≤ lowRow (n.val : Int) (k.val : Int) ∧ lowRow (n.val : Int) (k.val : Int) ≤ 31 ∧ (k.val : Int) % (rcZ (n.val : Int)) = lowRow (n.val : Int) (k.val : Int) := by
  decide +kernel
theorem lowRow_bd {n : Int} {k : Nat} (n1 : 1 ≤ n) (n5 : n ≤ 5) (hk : k < 32) : lowRow n k = (k : Int).tmod (rcZ n) ∧ 0 ≤ lowRow n k ∧ lowRow n k ≤ 31 ∧ (k : Int) % (rcZ n) = lowRow n k := by
  obtain ⟨N, rfl⟩ := Int.eq_ofNat_of_zero_le (show 0 ≤ n by omega)
  exact lowRow_fin ⟨N, by omega⟩ ⟨k, by omega⟩ (show 0 < N by omega)
/-- the values of the wider table -/
def widVals (n v m : Int) : Int := buildZ (fun j => dig v.toNat (lowRow n j).toNat) (2 ^ m.toNat)

theorem widClos_any (n k : Int) (bi : Nat) (w : World) (hi : w.cell? ⟨bi, 0, none⟩ = some (.int .i64 (rcZ n - 1))) :
    Calls Try.prog 60 #[.int .i64 k, .pointer (some ⟨bi, 0, none⟩)] w fun e w' => e = .returned (.int .i64 (lowRow n k)) ∧ Below w.heap.size w w' := by
  go_enter Try.func60, Try.ntmps60
  go_wp2
  go_ret
  exact ⟨rfl, Below.refl _ _⟩

/-- what WidenTable gives -/
def widRes (n v m : Int) : Value :=
  if isTab n v = true then (if n ≤ m ∧ m ≤ 5 then .tuple #[.agg #[.int .i64 m, .int .i64 (widVals n v m)], .int .i64 0] else .tuple #[.agg #[.int .i64 0, .int .i64 0], .int .i64 2])
  else .tuple #[.agg #[.int .i64 0, .int .i64 0], .int .i64 1]
theorem widRes_cases (n v m : Int) : ∃ a b c : Int, widRes n v m = .tuple #[.agg #[.int .i64 a, .int .i64 b], .int .i64 c] := by
  unfold widRes; split
  · split <;> exact ⟨_, _, _, rfl⟩
  · exact ⟨_, _, _, rfl⟩

set_option maxRecDepth 100000 in
set_option maxHeartbeats 1000000 in
theorem iWidenTable_any (n v m : Int) (w : World) :
    Calls Try.prog 32 #[.agg #[.int .i64 n, .int .i64 v], .int .i64 m] w fun e w' => e = .returned (widRes n v m) ∧ Below w.heap.size w w' := by
  have k0 : C2 ((w.alloc (.cells #[.int .i64 n, .int .i64 v] 27)).alloc (.cells #[.int .i64 0, .int .i64 0] 27)) (w.heap.size) (.int .i64 n) (.int .i64 v) := by simpa using (C2.here w (.int .i64 n) (.int .i64 v) 27).alloc (.cells #[.int .i64 0, .int .i64 0] 27)
  have k1 : C2 ((w.alloc (.cells #[.int .i64 n, .int .i64 v] 27)).alloc (.cells #[.int .i64 0, .int .i64 0] 27)) (w.heap.size + 1) (.int .i64 0) (.int .i64 0) := by simpa using C2.here (w.alloc (.cells #[.int .i64 n, .int .i64 v] 27)) (.int .i64 0) (.int .i64 0) 27
  by_cases ht : isTab n v = true
  · obtain ⟨n1, n5, h0, hv⟩ := tab_bd ht
    by_cases hm : n ≤ m
    · by_cases hm5 : m ≤ 5
      · have hr : Hid (widRes n v m = .tuple #[.agg #[.int .i64 m, .int .i64 (widVals n v m)], .int .i64 0]) := by unfold Hid widRes; rw [if_pos ht, if_pos ⟨hm, hm5⟩]
        have Ht := Lib.hid ht
        clear ht
        have T := fun (wx : World) (bi : Nat) => tableFrom_any n v m 60 #[.pointer (some ⟨bi, 0, none⟩)] (fun j => (lowRow n j).toNat) wx h0 hv (by omega) hm5
        have HT := Lib.hid T
        clear T
        have hrn := rcZ_bd n1 n5
        have hw : wrap64 (rcZ n - 1) = rcZ n - 1 := IntWalk.wrap64_in _ (by omega)
        go_enter Try.func32, Try.ntmps32
        go_wp2_with (first | (go_at_call 41; (with_reducible refine (isTable_b _ _ _ Ht.out).mono ?_); rintro e w' ⟨rfl, hb⟩; have hL := chain (B := w.heap.size) (a := w) (by go_grown) (Nat.le_refl _) hb; (first | replace k0 := keepAt hb k0 | replace k0 := keepAt hb (C2.alloc k0 _)); (first | replace k1 := keepAt hb k1 | replace k1 := keepAt hb (C2.alloc k1 _)); clear hb) | (go_at_call 59; (with_reducible refine (rowCount_any _ _ n1 n5).mono ?_); rintro e w' ⟨rfl, rfl⟩))
        have z1 := k1.2.2.2.2
        replace k1 := k1.alloc (.cells #[.int .i64 (rcZ n - 1)] 2)
        have c2 : (w'.alloc (.cells #[.int .i64 (rcZ n - 1)] 2)).cell? ⟨w'.heap.size, 0, none⟩ = some (.int .i64 (rcZ n - 1)) := by rw [World.cell?_alloc_at _ _ _ _ rfl]; rfl
        refine (HT.out _ _ ?_ ?_ (enters_of Try.func60 (by kernel_rfl) rfl)).mono ?_
        · intro k wx hk hb
          have h32 : 2 ^ m.toNat ≤ 2 ^ 5 := Nat.pow_le_pow_right (by decide) (by omega)
          have hbd := lowRow_bd (n := n) (k := k) n1 n5 (by omega)
          refine (widClos_any n k _ wx (cell_later hb c2)).mono ?_
          rintro e w' ⟨rfl, hb'⟩
          exact ⟨by rw [Int.toNat_of_nonneg hbd.2.1], hb'⟩
        · intro k hk
          have h32 : 2 ^ m.toNat ≤ 2 ^ 5 := Nat.pow_le_pow_right (by decide) (by omega)
          have hbd := lowRow_bd (n := n) (k := k) n1 n5 (by omega)
          omega
        rintro e w1 ⟨rfl, hb⟩
        have hL := chain (B := w.heap.size) (a := w) (by go_grown) (Nat.le_refl _) hb
        replace k1 := keepAt hb k1
        go_wp2_with fail
        refine bodyPost_ret (v := .tuple #[.agg #[.int .i64 m, .int .i64 (buildZ (fun j => dig v.toNat (lowRow n (j : Int)).toNat) (2 ^ m.toNat))], .int .i64 0]) (by simp [results, Try.results32, go_sem, *]) rfl ?_
        exact ⟨by rw [hr.out]; rfl, by go_grown⟩
      · have hr : Hid (widRes n v m = .tuple #[.agg #[.int .i64 0, .int .i64 0], .int .i64 2]) := by unfold Hid widRes; rw [if_pos ht, if_neg (fun h => hm5 h.2)]
        have Ht := Lib.hid ht
        clear ht
        go_enter Try.func32, Try.ntmps32
        go_wp2_with (first | (go_at_call 41; (with_reducible refine (isTable_b _ _ _ Ht.out).mono ?_); rintro e w' ⟨rfl, hb⟩; have hL := chain (B := w.heap.size) (a := w) (by go_grown) (Nat.le_refl _) hb; (first | replace k0 := keepAt hb k0 | replace k0 := keepAt hb (C2.alloc k0 _)); (first | replace k1 := keepAt hb k1 | replace k1 := keepAt hb (C2.alloc k1 _)); clear hb) | (go_at_call 59; (with_reducible refine (rowCount_any _ _ n1 n5).mono ?_); rintro e w' ⟨rfl, rfl⟩))
        refine bodyPost_ret (v := .tuple #[.agg #[.int .i64 0, .int .i64 0], .int .i64 2]) (by simp [results, Try.results32, go_sem, *]) rfl ?_
        exact ⟨by rw [hr.out], by go_grown⟩
    · have hr : Hid (widRes n v m = .tuple #[.agg #[.int .i64 0, .int .i64 0], .int .i64 2]) := by unfold Hid widRes; rw [if_pos ht, if_neg (fun h => hm h.1)]
      have Ht := Lib.hid ht
      clear ht
      go_enter Try.func32, Try.ntmps32
      go_wp2_with (first | (go_at_call 41; (with_reducible refine (isTable_b _ _ _ Ht.out).mono ?_); rintro e w' ⟨rfl, hb⟩; have hL := chain (B := w.heap.size) (a := w) (by go_grown) (Nat.le_refl _) hb; (first | replace k0 := keepAt hb k0 | replace k0 := keepAt hb (C2.alloc k0 _)); (first | replace k1 := keepAt hb k1 | replace k1 := keepAt hb (C2.alloc k1 _)); clear hb) | (go_at_call 59; (with_reducible refine (rowCount_any _ _ n1 n5).mono ?_); rintro e w' ⟨rfl, rfl⟩))
      refine bodyPost_ret (v := .tuple #[.agg #[.int .i64 0, .int .i64 0], .int .i64 2]) (by simp [results, Try.results32, go_sem, *]) rfl ?_
      exact ⟨by rw [hr.out], by go_grown⟩
  · have hr : Hid (widRes n v m = .tuple #[.agg #[.int .i64 0, .int .i64 0], .int .i64 1]) := by unfold Hid widRes; rw [if_neg ht]
    have Ht : Hid (isTab n v = false) := by unfold Hid; simpa using ht
    clear ht
    go_enter Try.func32, Try.ntmps32
    go_wp2_with (first | (go_at_call 41; (with_reducible refine (isTable_b _ _ _ Ht.out).mono ?_); rintro e w' ⟨rfl, hb⟩; have hL := chain (B := w.heap.size) (a := w) (by go_grown) (Nat.le_refl _) hb; (first | replace k0 := keepAt hb k0 | replace k0 := keepAt hb (C2.alloc k0 _)); (first | replace k1 := keepAt hb k1 | replace k1 := keepAt hb (C2.alloc k1 _)); clear hb))
    refine bodyPost_ret (v := .tuple #[.agg #[.int .i64 0, .int .i64 0], .int .i64 1]) (by simp [results, Try.results32, go_sem, *]) rfl ?_
    exact ⟨by rw [hr.out], by go_grown⟩

end Go.Proofs.Ytgcdpbikeimelab
