/- A map whose keys are situations, as a set. -/
import Derived.Test.YtblbapehakcomaaTool
import Derived.Test.YtblbapehakcomaaBfsM
import Derived.Maps.OwnSet
import Derived.DeepKeys4
import Derived.Test.YtblbapehakcomaaFrame
namespace Go.Proofs.Ytblbapehakcomaa
open Go.RowKit Go.Maps
open Go.WideShapes
set_option linter.unusedVariables false

theorem sitWide : (match Try.prog.underlying 68 with | some (.array _ _) | some (.struct _) => true | _ => false) = true := by rw [Try.underlying68]
theorem sitRow : (68 : TypeId) < Try.prog.types.size := of_decide_eq_true (by kernel_rfl)
set_option maxRecDepth 100000 in
theorem sitKeyed : Keyed Try.prog 68 := Keyed.of_law (deep_law_laid laidOut (m := 3) (by omega) sitRow (by kernel_rfl) sitWide)
set_option maxRecDepth 100000 in
theorem sitType : Try.prog.keyType 68 = true := by kernel_rfl
set_option maxRecDepth 100000 in
theorem sitCells : Try.prog.cellsOf 68 = 2 := by kernel_rfl
theorem sitInt : Try.prog.cellsOf 2 = 1 := by kernel_rfl
theorem sitSome : ∃ n, Try.prog.types.size = n + 1 := by
  have h : 0 < Try.prog.types.size := Nat.lt_of_le_of_lt (Nat.zero_le _) sitRow
  exact ⟨Try.prog.types.size - 1, by omega⟩

/-- the key of a situation -/
def sitK (i s : Int) : Lit := .string (keyBytes [.int .i64 i, .int .i64 s])
theorem keyOf_sit {i s : Int} (hi : (Lit.int .i64 i).wf = true) (hs : (Lit.int .i64 s).wf = true) : keyOf Try.prog 68 (.agg #[.int .i64 i, .int .i64 s]) = some (sitK i s) := by
  obtain ⟨n, hn⟩ := sitSome
  unfold keyOf
  rw [Try.underlying68, sitType, hn]
  have hf : (Value.agg #[.int .i64 i, .int .i64 s]).formed Try.prog 68 = true := by simp [Value.formed, Try.underlying68, sitCells]
  simp [hf, Program.keyLits, Try.underlying68, Try.underlying2, sitCells, sitInt, hi, hs, sitK, Value.cells]

theorem wfSmall {x : Int} (h0 : 0 ≤ x) (h1 : x < 1000) : (Lit.int .i64 x).wf = true := by
  have e1 : IntKind.i64.min = -9223372036854775808 := by rfl
  have e2 : IntKind.i64.max = 9223372036854775807 := by rfl
  simp [Lit.wf, e1, e2]
  omega
theorem sitK_inj {i s s' : Int} (hi : (Lit.int .i64 i).wf = true) (hs : (Lit.int .i64 s).wf = true) (hs' : (Lit.int .i64 s').wf = true) (h : sitK i s = sitK i s') : s = s' := by
  have h1 := keyOf_sit hi hs
  have h2 := keyOf_sit hi hs'
  rw [← h] at h2
  have := sitKeyed.inj h1 h2
  simpa using this
theorem sitK_key {i s : Int} : WideAt.IsKeyLit (sitK i s) := trivial

abbrev tt : DataW Unit := .lit (.bool true)
abbrev ff : DataW Unit := .lit (.bool false)
/-- the map in block b has just the situations of the inputs i and the states of E, each with true -/
def MapS (w : World) (b : Nat) (i : Int) (E : List Nat) : Prop :=
  E.Nodup ∧ (∀ s ∈ E, s < 1000) ∧ ∃ D : DataW Unit, w.ownsMap Try.prog 68 (plainElem Try.prog 4) b E.length D ∧ Maps.size D = E.length ∧ ∀ s : Nat, s < 1000 → ∀ z, D.atKey (sitK i (s : Int)) z = if s ∈ E then tt else z
def insS (E : List Nat) (s : Nat) : List Nat := if s ∈ E then E else E ++ [s]

theorem MapS.made (w : World) (i : Int) : MapS (w.alloc (.map #[] 0)) w.heap.size i [] :=
  ⟨by simp, by simp, .map [], World.ownsMap_made w _ _ _, rfl, fun s _ z => by simp [DataW.atKey]⟩
theorem MapS.lt {w : World} {b : Nat} {i : Int} {E : List Nat} (h : MapS w b i E) : b < w.heap.size := by
  obtain ⟨_, _, D, hD, _⟩ := h; exact hD.lt
theorem MapS.keep {w w' : World} {b : Nat} {i : Int} {E : List Nat} (h : MapS w b i E) (hb : Below w.heap.size w w') : MapS w' b i E := by
  obtain ⟨h1, h2, D, ⟨es, clock, he, F, hs, hD⟩, r⟩ := h
  have hlt : b < w.heap.size := (Array.getElem?_eq_some_iff.1 he).1
  exact ⟨h1, h2, D, ⟨es, clock, (hb.block b hlt).trans he, F, hs, hD⟩, r⟩
theorem mapSAt {w w' : World} {b : Nat} {i : Int} {E : List Nat} (hb : Below w.heap.size w w') (h : MapS w b i E) : MapS w' b i E := h.keep hb
theorem MapS.grown {w w' : World} {b : Nat} {i : Int} {E : List Nat} {row : Option Nat} (h : MapS w b i E) (hg : w.grownBy w' row) (hne : some b ≠ row) : MapS w' b i E := by
  obtain ⟨h1, h2, D, hD, r⟩ := h
  exact ⟨h1, h2, D, hD.kept hg hne, r⟩
theorem MapS.setCell {w : World} {b : Nat} {i : Int} {E : List Nat} (h : MapS w b i E) {a : Addr} (ha : b ≠ a.block) (u : Value) : MapS (w.setCell a u) b i E := by
  obtain ⟨h1, h2, D, hD, r⟩ := h
  exact ⟨h1, h2, D, hD.setCell ha u, r⟩
theorem MapS.alloc {w : World} {b : Nat} {i : Int} {E : List Nat} (h : MapS w b i E) (o : Obj) : MapS (w.alloc o) b i E := h.keep ((Below.refl _ _).alloc (Nat.le_refl _) o)
theorem MapS.drewU {w : World} {b : Nat} {i : Int} {E : List Nat} (h : MapS w b i E) : MapS w.drew b i E := h

set_option maxRecDepth 100000 in
theorem zeroBool (w : World) : (zeroValue 4).run Try.prog w = .ok (.bool false) w := by kernel_rfl

set_option maxRecDepth 100000 in
theorem plainBool_inv {v : Value} {x : Bool} {ps : List MemPlace} (h : plainElem (H := Unit) Try.prog 4 v = some (.lit (.bool x), ps)) : v = .bool x := by
  unfold plainElem at h
  rw [Try.underlying4] at h
  cases v <;> simp at h
  rw [h.1]

set_option maxRecDepth 100000 in
theorem MapS.look {w : World} {b : Nat} {i : Int} {E : List Nat} (h : MapS w b i E) (hi : (Lit.int .i64 i).wf = true) (s : Nat) (hs : s < 1000) :
    (Instr.lookup 93 (.map (some b)) (.agg #[.int .i64 i, .int .i64 (s : Int)]) false).run Try.prog w = .ok (.bool (decide (s ∈ E))) w := by
  obtain ⟨h1, h2, D, hD, hsz, hat⟩ := h
  obtain ⟨v, ps, hrun, hv⟩ := hD.lookup sitKeyed Try.underlying93 (zeroBool w) (plainElem_bool Try.underlying4 false) (keyOf_sit hi (wfSmall (x := (s : Int)) (by omega) (by omega)))
  rw [hat s hs] at hv
  rw [hrun]
  by_cases hm : s ∈ E
  · rw [if_pos hm] at hv
    rw [plainBool_inv hv, decide_eq_true hm]
  · rw [if_neg hm] at hv
    rw [plainBool_inv hv, decide_eq_false hm]

set_option maxRecDepth 100000 in
theorem MapS.put {w : World} {b : Nat} {i : Int} {E : List Nat} (h : MapS w b i E) (hi : (Lit.int .i64 i).wf = true) (s : Nat) (hs : s < 1000) :
    ∃ w', (Instr.mapUpdate 93 (.map (some b)) (.agg #[.int .i64 i, .int .i64 (s : Int)]) (.bool true)).run Try.prog w = .ok () w' ∧ MapS w' b i (insS E s) ∧ w.grownBy w' (some b) := by
  obtain ⟨h1, h2, D, hD, hsz, hat⟩ := h
  have hwf : ∀ {t : Nat}, t < 1000 → (Lit.int .i64 (t : Int)).wf = true := fun {t} ht => wfSmall (x := (t : Int)) (by omega) (by omega)
  have hlen : E.length ≤ 1000 := nodup_len h1 h2
  obtain ⟨w', hrun, hown, hg⟩ := hD.update sitKeyed Try.underlying93 (by unfold maxLen; omega) (keyOf_sit hi (hwf hs)) (plainElem_bool Try.underlying4 true)
  have htidy := hD.tidy sitKeyed
  have hhas : Maps.has D (sitK i (s : Int)) = decide (s ∈ E) := by
    by_cases hm : s ∈ E
    · rw [decide_eq_true hm]
      exact has_true_of_atKey (y := tt) fun z => by rw [hat s hs, if_pos hm]
    · rw [decide_eq_false hm]
      exact has_false_of_atKey fun z => by rw [hat s hs, if_neg hm]
  have hsz2 : Maps.size (D.put (sitK i (s : Int)) tt) = (insS E s).length := by
    rw [size_put htidy, hhas, hsz]
    unfold insS
    by_cases hm : s ∈ E
    · simp [hm]
    · simp [hm]
  refine ⟨w', hrun, ⟨?_, ?_, _, ?_, hsz2, ?_⟩, hg⟩
  · unfold insS
    by_cases hm : s ∈ E
    · rw [if_pos hm]; exact h1
    · rw [if_neg hm, List.nodup_append]
      exact ⟨h1, by simp, fun a ha c hc e => hm (by simp at hc; rw [← hc, ← e]; exact ha)⟩
  · intro t ht
    unfold insS at ht
    by_cases hm : s ∈ E
    · rw [if_pos hm] at ht; exact h2 t ht
    · rw [if_neg hm] at ht
      rcases List.mem_append.1 ht with h | h
      · exact h2 t h
      · have : t = s := by simpa using h
        omega
  · obtain ⟨es, clock, he, F, hs', hDe⟩ := hown
    refine ⟨es, clock, he, F, ?_, hDe⟩
    have : Maps.size (D.put (sitK i (s : Int)) tt) = es.size := by rw [hDe, size_eq, length_read]
    omega
  · intro t ht z
    by_cases e : t = s
    · subst e
      rw [atKey_put_same htidy.isMap sitK_key, if_pos (by unfold insS; by_cases hm : t ∈ E <;> simp [hm])]
    · rw [atKey_put_other (fun h => e (by have := sitK_inj hi (hwf ht) (hwf hs) h; omega)), hat t ht]
      have : (t ∈ insS E s) ↔ t ∈ E := by
        unfold insS
        by_cases hm : s ∈ E
        · rw [if_pos hm]
        · rw [if_neg hm]; simp [e]
      simp only [this]

theorem MapS.len {w : World} {b : Nat} {i : Int} {E : List Nat} (h : MapS w b i E) (ty : TypeId) : (Builtin.len_ #[93] ty #[.map (some b)]).run Try.prog w = .ok (.int .i64 (E.length : Int)) w := by
  obtain ⟨h1, h2, D, hD, hsz, hat⟩ := h
  rw [hD.len Try.underlying93 ty, hsz]

end Go.Proofs.Ytblbapehakcomaa
