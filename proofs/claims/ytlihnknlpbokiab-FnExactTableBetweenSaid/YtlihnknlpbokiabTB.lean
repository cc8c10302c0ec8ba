/- TableBetween: the model's, and what both give. -/
import Derived.Test.YtlihnknlpbokiabClosed
import Derived.Test.YtlihnknlpbokiabCode
import Derived.Test.YtlihnknlpbokiabSJoin
import Derived.Test.YtlihnknlpbokiabTf
import Derived.Deep.RegionWith
import Derived.Deep.DeepCutAuto
namespace Go.Proofs.Ytlihnknlpbokiab
open Go.RowKit
set_option linter.unusedVariables false

theorem build_stepG (F : Nat → Nat) (k : Nat) (hk : k < 32) (hF : F k < 2) : bits .or .i64 (buildZ F k) (wrap64 ((F k : Int) * 2 ^ k)) = buildZ F (k + 1) := by
  have hb := build_lt F k
  have hp : 2 ^ k < 2 ^ 32 := Nat.pow_lt_pow_right (by decide) hk
  have e : (F k : Int) * 2 ^ k = ((F k * 2 ^ k : Nat) : Int) := by simp
  have hm : F k * 2 ^ k < 2 ^ 33 := by
    have : F k * 2 ^ k ≤ 1 * 2 ^ k := Nat.mul_le_mul_right _ (by omega)
    omega
  have e2 : F k % 2 = F k := by omega
  rw [e, IntWalk.wrap64_in _ (by omega)]
  unfold buildZ
  rw [i64_or _ _ (by omega) (by omega)]
  have := build_or F k
  rw [e2] at this
  rw [this]
theorem build_step1 (F : Nat → Nat) (k : Nat) (hk : k < 32) (hF : F k = 1) : bits .or .i64 (buildZ F k) (wrap64 (2 ^ k)) = buildZ F (k + 1) := by
  have h := build_stepG F k hk (by omega)
  rw [hF] at h
  simpa using h
theorem build_step0 (F : Nat → Nat) (k : Nat) (hF : F k = 0) : buildZ F (k + 1) = buildZ F k := by
  unfold buildZ; simp [build, hF]

/-- is the point q joined with the point p in a row -/
def betw (xss : List (List Int)) (pt q : Int) (row : Nat) : Nat := dig (joinS xss (inB (closedS xss (row : Int))) pt.toNat) q.toNat
theorem betw_lt (xss : List (List Int)) (pt q : Int) (row : Nat) : betw xss pt q row < 2 := dig_lt _ _
/-- the errors of a table between two points -/
def tbOk (p : Int) (xss : List (List Int)) (n pt q : Int) : Prop := (1 ≤ n ∧ n ≤ 5) ∧ (0 ≤ pt ∧ pt < p) ∧ (0 ≤ q ∧ q < p) ∧ ∀ i, i < xss.length → (xss.getD i []).getD 2 0 < n
instance (p : Int) (xss : List (List Int)) (n pt q : Int) : Decidable (tbOk p xss n pt q) := by unfold tbOk; infer_instance
def tbRes (p : Int) (xss : List (List Int)) (n pt q : Int) : Value :=
  if Net p xss then (if tbOk p xss n pt q then .tuple #[.agg #[.int .i64 n, .int .i64 (buildZ (betw xss pt q) (2 ^ n.toNat))], .int .i64 0] else .tuple #[.agg #[.int .i64 0, .int .i64 0], .int .i64 2]) else .tuple #[.agg #[.int .i64 0, .int .i64 0], .int .i64 1]
theorem tbRes_cases (p : Int) (xss : List (List Int)) (n pt q : Int) : ∃ a b c : Int, tbRes p xss n pt q = .tuple #[.agg #[.int .i64 a, .int .i64 b], .int .i64 c] := by
  unfold tbRes; split
  · split <;> exact ⟨_, _, _, rfl⟩
  · exact ⟨_, _, _, rfl⟩

/-- one more than the greatest input of the first k contacts, at least 1 -/
def inpTo (xss : List (List Int)) : Nat → Int
  | 0 => 1
  | k + 1 => max (inpTo xss k) ((xss.getD k []).getD 2 0 + 1)
theorem inpTo_ge (xss : List (List Int)) (n : Int) (k : Nat) : inpTo xss k ≤ n ↔ 1 ≤ n ∧ ∀ i, i < k → (xss.getD i []).getD 2 0 < n := by
  induction k with
  | zero => simp [inpTo]
  | succ k ih =>
    simp only [inpTo, Int.max_le, ih]
    constructor
    · rintro ⟨⟨h1, h2⟩, h3⟩
      refine ⟨h1, fun i hi => ?_⟩
      rcases Nat.lt_or_ge i k with h | h
      · exact h2 i h
      · have : i = k := by omega
        subst this; omega
    · rintro ⟨h1, h2⟩
      exact ⟨⟨h1, fun i hi => h2 i (by omega)⟩, by have := h2 k (by omega); omega⟩
theorem inpTo_bd (xss : List (List Int)) (k : Nat) (h : ∀ i, i < k → 0 ≤ (xss.getD i []).getD 2 0 ∧ (xss.getD i []).getD 2 0 < 5) : 1 ≤ inpTo xss k ∧ inpTo xss k ≤ 5 := by
  induction k with
  | zero => simp [inpTo]
  | succ k ih =>
    have h1 := ih fun i hi => h i (by omega)
    have h2 := h k (by omega)
    simp only [inpTo]
    omega

set_option maxRecDepth 100000 in
set_option maxHeartbeats 2000000 in
theorem l02Inputs_any (p : Int) (v : Value) (xss : List (List Int)) (w : World) (ha : Reads2 w v xss) (h4 : ∀ i, i < xss.length → (xss.getD i []).length = 4) (hq : ∀ i, i < xss.length → 0 ≤ (xss.getD i []).getD 2 0 ∧ (xss.getD i []).getD 2 0 < 5) (hn : xss.length ≤ 12) :
    Calls Try.prog 45 #[.agg #[.int .i64 p, v]] w fun e w' => e = .returned (.int .i64 (inpTo xss xss.length)) ∧ Below w.heap.size w w' := by
  obtain ⟨a, ca, rfl, hm, ha⟩ := ha
  have k0 := C2.here w (.int .i64 p) (.slice a xss.length ca) 30
  have Ha : Hid (∀ i, i < xss.length → ∃ b off cb co cc, a = some ⟨b, off, none⟩ ∧ w.cell? ⟨b, off + i, none⟩ = some (.slice (some ⟨cb, co, none⟩) 4 cc) ∧ ∀ j, j < 4 → w.cell? ⟨cb, co + j, none⟩ = some (.int .i64 ((xss.getD i []).getD j 0))) := fun i hi => by
    rcases ha with rfl | ⟨b, off, rfl, ha⟩
    · simp at hi
    · obtain ⟨u, hu, hr⟩ := ha i hi
      obtain ⟨cb, co, cc, rfl, h⟩ := hr.four (h4 i hi)
      exact ⟨b, off, cb, co, cc, rfl, hu, h⟩
  have HQ := Lib.hid hq
  clear ha h4 hq
  generalize hnn : xss.length = n at *
  clear hnn
  go_enter Try.func45, Try.ntmps45
  go_wp2_with fail
  go_loopw [3, 4] (fun s c wr => ∃ (k : Nat) (m : Int), k ≤ n ∧ c = .int .i64 (k : Int) ∧ s = .int .i64 m ∧ 1 ≤ m ∧ m ≤ 5 ∧ Hid (m = inpTo xss k) ∧ Below w.heap.size w wr ∧ C2 wr w.heap.size (.int .i64 p) (.slice a n ca)) (fun _ c _ => n - (intOf c).toNat)
  case atStart => exact ⟨0, 1, Nat.zero_le _, rfl, rfl, by omega, by omega, rfl, by go_grown, k0⟩
  case round =>
    clear k0
    obtain ⟨k, m, hk, rfl, rfl, m1, m5, HM, hL, k0⟩ := hrel
    by_cases hlt : k < n
    · obtain ⟨b, off, cb, co, cc, rfl, hu, hcs⟩ := Ha.out k hlt
      have hca := cell_later hL hu
      have c2 := cell_later hL (hcs 2 (by omega))
      obtain ⟨q0, q1⟩ := HQ.out k hlt
      have hi1 : (k : Int) < (n : Int) := by omega
      have hi0 : (0 : Int) ≤ (k : Int) := by omega
      have HS : Hid (max m ((xss.getD k []).getD 2 0 + 1) = inpTo xss (k + 1)) := by unfold Hid; rw [HM.out]; rfl
      clear hcs hu
      generalize (xss.getD k []).getD 2 0 = x2 at *
      by_cases hmx : m < x2 + 1
      · have HS2 : Hid (x2 + 1 = inpTo xss (k + 1)) := by have := HS.out; unfold Hid; omega
        go_wp2_with fail
        go_roundw
        case rel => exact ⟨k + 1, x2 + 1, by omega, by go_num, rfl, by omega, by omega, HS2, hL, k0⟩
        case measure => simp [intOf]; omega
      · have HS2 : Hid (m = inpTo xss (k + 1)) := by have := HS.out; unfold Hid; omega
        go_wp2_with fail
        go_roundw
        case rel => exact ⟨k + 1, m, by omega, by go_num, rfl, m1, m5, HS2, hL, k0⟩
        case measure => simp [intOf]; omega
    · have e : k = n := by omega
      subst e
      go_wp2_with fail
      go_ret
      exact ⟨by rw [← HM.out]; rfl, hL⟩

end Go.Proofs.Ytlihnknlpbokiab
