/- Tables of weights: mathematics; append of a make onto a row of the call's own. -/
import Derived.Test.YtkbgboooidfloaaTvM
import Derived.Test.YtkbgboooidfloaaOwn
import Derived.Lib.AppendZerosOnto
import Derived.Lib.AppendStr
namespace Go.Proofs.Ytkbgboooidfloaa
open Go.RowKit
set_option linter.unusedVariables false

theorem zeros_list (z : Value) (k : Nat) : (Builtin.zeroCells #[z] k).toList = List.replicate k z := by
  apply List.ext_getElem
  · simp [Builtin.zeroCells]
  · intro i h1 h2
    simp [Builtin.zeroCells, Nat.mod_one]

section
variable {P : Program} (w : World)

/-- the arm with room -/
theorem run_append_room_zeros (t tn ty e : TypeId) (i : TypeInfo) (k0 kq kn : IntKind) (ht : P.underlying t = some (.slice e)) (htn : P.underlying tn = some (.int kn)) (hi : P.info? e = some i) (hz : i.zero = some (.int k0 0)) (hs1 : i.size = 1)
    (g sLen sCap : Nat) (cur : Array Value) (hg : w.heap[g]? = some (.cells cur e (0, 0))) (k : Nat) (h0 : 0 < k) (h63 : k ≤ 1000000) (hby : i.bytes ≤ 8)
    (hroom : sLen + k ≤ sCap) (hfit : sLen + k ≤ cur.size) :
    (Builtin.append_ #[t, tn] ty #[.slice (some ⟨g, 0, none⟩) sLen sCap, .int kq k]).run P w =
      .ok (.slice (some ⟨g, 0, none⟩) (sLen + k) sCap) (w.setRow g (cur.toList.take sLen ++ List.replicate k (Value.int k0 0) ++ cur.toList.drop (sLen + k)).toArray) := by
  have hw : IntKind.i64.wrap (k : Int) = k := by rw [IntKind.wrap_i64]; omega
  have hneg : ¬ ((k : Int) < 0) := by omega
  have hns : k ≠ 0 := by omega
  have hm : (k : Int) * (i.bytes : Int) ≤ 1000000 * 8 := Int.mul_le_mul (by omega) (by omega) (by omega) (by omega)
  have h48i : ¬ (281474976710656 < (k : Int) * (i.bytes : Int)) := by omega
  have hst := run_storeCells_at P g sLen e (List.replicate k (.int k0 0)) 0 cur w hg (by simpa using hfit) (by intro v hv; rw [List.mem_replicate] at hv; rw [hv.2]; rfl)
  simp only [Nat.add_zero, List.length_replicate] at hst
  have hzl : (Builtin.zeroCells (Value.int k0 0).cells k).toList = List.replicate k (.int k0 0) := zeros_list _ k
  simp [Builtin.append_, run_underlying ht, run_underlying htn, sizeOf, typeInfo, zeroValue, hi, hz, hs1, asInt, asIntOf, hw, hns, hneg, h48i, hroom, Addr.add_lit, hzl, hst]

/-- onto a row that has something -/
theorem run_append_own_zeros (base : Nat) (t tn ty e : TypeId) (i : TypeInfo) (k0 kq kn : IntKind) (ht : P.underlying t = some (.slice e)) (htn : P.underlying tn = some (.int kn)) (hi : P.info? e = some i) (hz : i.zero = some (.int k0 0))
    (hsize : i.size = 1) (hby : i.bytes = 8)
    (v : Value) (n : Nat) (xs : List Value) (hown : w.ownsRow base e 1 v n xs) (h1 : 1 ≤ n) (hn : n ≤ 1000000) (k : Nat) (h0 : 0 < k) (hk : k ≤ 1000000) (hbase : base ≤ w.heap.size) :
    ∃ v' w', (Builtin.append_ #[t, tn] ty #[v, .int kq k]).run P w = .ok v' w' ∧ w'.ownsRow base e 1 v' (n + k) (xs ++ List.replicate k (.int k0 0)) ∧ w.grownBy w' v.ownBlock := by
  have hxl : xs.length = n := by simpa using hown.1
  have hlen : (xs ++ List.replicate k (Value.int k0 0)).length = (n + k) * 1 := by rw [List.length_append, hxl, List.length_replicate, Nat.mul_one]
  rcases hown.2 with ⟨rfl, rfl⟩ | ⟨g, cap, cur, rfl, hbg, hg, hnc, hcm, hcs, htake⟩
  · omega
  · by_cases hroom : n + k ≤ cap
    · have hcs' : cur.size = cap := by simpa using hcs
      have hr := run_append_room_zeros (P := P) w t tn ty e i k0 kq kn ht htn hi hz hsize g n cap cur hg k h0 hk (by omega) hroom (by omega)
      refine ⟨_, _, hr, ⟨hlen, .inr ⟨g, cap, _, rfl, hbg, setRow_heap w g cur _ e _ hg, hroom, hcm, ?_, ?_⟩⟩, ⟨rfl, rfl, rfl, by simp, fun k _ hk => setRow_other w g k _ (fun e => hk (by simp [Value.ownBlock, e]))⟩⟩
      · simp only [List.size_toArray, List.length_append, List.length_take, List.length_drop, Array.length_toList, List.length_replicate]
        omega
      · have ht' : cur.toList.take n = xs := by simpa using htake
        rw [ht', ← hlen]
        exact List.take_left
    · have holds : ∀ j u, xs[j]? = some u → w.drew.cell? ((⟨g, 0, none⟩ : Addr).add j) = some u := hown.cells (g := g) rfl
      have hold := run_firstCells_some (P := P) w.drew i.size n ⟨g, 0, none⟩ n cap xs (by rw [hsize]; simpa using hxl) holds
      have hr := Lib.run_append_grow_zeros (P := P) w t tn ty e i (.int k0 0) kq kn ht htn hi hz (some ⟨g, 0, none⟩) n cap xs hold k h0 (by omega) (by omega) (by omega) (by rw [hby]; omega) (growslice_fits (by omega) (by rw [hby]; omega))
      have hge := grownCap_ge w (n + k) cap e
      have hcm2 : grownCap w (n + k) cap e ≤ maxLen := grownCap_le_maxLen w (n + k) cap e (by unfold maxLen; omega)
      refine ⟨_, _, hr, ⟨hlen, .inr ⟨w.heap.size, _, _, rfl, hbase, heap_alloc_new w.drew _, hge, hcm2, ?_, ?_⟩⟩, ⟨rfl, rfl, rfl, by simp, fun k hk _ => Below.heap_alloc w.drew _ k hk⟩⟩
      · have hz1 : (Value.int k0 0).cells.size = 1 := rfl
        simp only [Array.size_append, List.size_toArray, size_zeroCells, hz1, hxl]
        omega
      · have hzl : (Builtin.zeroCells (Value.int k0 0).cells k).toList = List.replicate k (.int k0 0) := zeros_list _ k
        rw [Array.toList_append, Array.toList_append, hzl, ← hlen]
        exact List.take_left
end

/-- the weight of a row: the first k inputs -/
def wsum (xs : List Int) (r : Int) : Nat → Int
  | 0 => 0
  | k + 1 => wsum xs r k + xs.getD k 0 * digZ r (k : Int)
theorem wsum_succ (xs : List Int) (r : Int) (k : Nat) : wsum xs r (k + 1) = wsum xs r k + xs.getD k 0 * digZ r (k : Int) := rfl
theorem wsum_bd {xs : List Int} (h : ∀ i, 0 ≤ xs.getD i 0 ∧ xs.getD i 0 ≤ 10) (r : Int) : ∀ k : Nat, 0 ≤ wsum xs r k ∧ wsum xs r k ≤ 10 * (k : Int)
  | 0 => by unfold wsum; omega
  | k + 1 => by
    have ih := wsum_bd h r k
    have hd := digZ_bd r (k : Int)
    have hx := h k
    have e : digZ r (k : Int) = 0 ∨ digZ r (k : Int) = 1 := by omega
    unfold wsum
    rcases e with e | e <;> rw [e] <;> constructor <;> push_cast <;> omega
theorem wsum_more {xs : List Int} (r : Int) : ∀ k : Nat, xs.length ≤ k → wsum xs r k = wsum xs r xs.length
  | 0, h => by rw [show xs.length = 0 by omega]
  | k + 1, h => by
    rcases Nat.lt_or_ge k xs.length with hk | hk
    · rw [show xs.length = k + 1 by omega]
    · rw [wsum_succ, wsum_more r k hk]
      have : xs.getD k 0 = 0 := by rw [List.getD_eq_getElem?_getD, List.getElem?_eq_none (by omega)]; rfl
      rw [this]; simp

def wN (xs : List Int) (b : Int) (j : Nat) : Nat := if b ≤ wsum xs (j : Int) xs.length then 1 else 0
def wTo (xs : List Int) (b : Int) (k : Nat) : Int := ((build (wN xs b) k : Nat) : Int)
theorem wN_mod (xs : List Int) (b : Int) (j : Nat) : wN xs b j % 2 = wN xs b j := by unfold wN; split <;> rfl
theorem wTo_one {xs : List Int} {b : Int} {k : Nat} (hk : k < 32) (h : b ≤ wsum xs (k : Int) xs.length) : bits .or .i64 (wTo xs b k) (wrap64 (2 ^ k)) = wTo xs b (k + 1) := by
  have hb := build_lt (wN xs b) k
  have hp : 2 ^ k < 2 ^ 32 := Nat.pow_lt_pow_right (by decide) hk
  have e : ((2 : Int) ^ k) = (((1 * 2 ^ k : Nat)) : Int) := by simp
  rw [e, IntWalk.wrap64_in _ (by omega)]
  unfold wTo
  rw [i64_or _ _ (by omega) (by omega)]
  have := build_or (wN xs b) k
  rw [wN_mod] at this
  have e1 : wN xs b k = 1 := by unfold wN; rw [if_pos h]
  rw [e1] at this
  rw [this]
theorem wTo_zero {xs : List Int} {b : Int} {k : Nat} (h : ¬ b ≤ wsum xs (k : Int) xs.length) : wTo xs b (k + 1) = wTo xs b k := by
  unfold wTo
  have e : build (wN xs b) (k + 1) = build (wN xs b) k := by
    rw [← build_or, wN_mod]
    have : wN xs b k = 0 := by unfold wN; rw [if_neg h]
    rw [this]; simp
  rw [e]

/-- is a weight too large -/
def farW (x : Int) : Bool := decide (x < 0 ∨ 10 < x)
def okW (xs : List Int) (b : Int) : Prop := (1 ≤ xs.length ∧ xs.length ≤ 5) ∧ (∀ i, i < xs.length → 0 ≤ xs.getD i 0 ∧ xs.getD i 0 ≤ 10) ∧ 0 ≤ b ∧ b ≤ 100
instance (xs : List Int) (b : Int) : Decidable (okW xs b) := by unfold okW; infer_instance
def resTableOfWeights_0n (xs : List Int) (b : Int) : Int := if okW xs b then (xs.length : Int) else 0
def resTableOfWeights_0m (xs : List Int) (b : Int) : Int := if okW xs b then wTo xs b (2 ^ xs.length) else 0
def resTableOfWeights_1 (xs : List Int) (b : Int) : Int := if okW xs b then 0 else 2
theorem wdefault {xs : List Int} (h : ∀ i, i < xs.length → 0 ≤ xs.getD i 0 ∧ xs.getD i 0 ≤ 10) : ∀ i, 0 ≤ xs.getD i 0 ∧ xs.getD i 0 ≤ 10 := fun i => by
  rcases Nat.lt_or_ge i xs.length with hi | hi
  · exact h i hi
  · rw [List.getD_eq_getElem?_getD, List.getElem?_eq_none hi]; simp

end Go.Proofs.Ytkbgboooidfloaa
