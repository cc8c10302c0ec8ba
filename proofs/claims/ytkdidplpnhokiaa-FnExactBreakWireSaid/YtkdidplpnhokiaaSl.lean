/- Slices of int64: two compared, marked, looked at again. -/
import Derived.Test.YtkdidplpnhokiaaBase
import Derived.LoopTactic
import Derived.OwnWalk
import Derived.Laws.OwnMore
import Derived.Laws.MakeOwn
namespace Go.Proofs.Ytkdidplpnhokiaa
open Go.RowKit
set_option linter.unusedVariables false

/-- the slice v reads as the numbers xs -/
def Reads (w : World) (v : Value) (xs : List Int) : Prop :=
  ∃ (a : Option Addr) (cap : Nat), v = .slice a xs.length cap ∧ xs.length ≤ maxLen ∧
    (xs = [] ∨ ∃ b off, a = some ⟨b, off, none⟩ ∧ ∀ i, i < xs.length → w.cell? ⟨b, off + i, none⟩ = some (.int .i64 (xs.getD i 0)))
/-- the slice v lies in a block of its own, from block base on, and reads as the numbers xs -/
def Owns (w : World) (base : Nat) (v : Value) (xs : List Int) : Prop := w.ownsRow base 2 1 v xs.length (xs.map (Value.int .i64))

theorem Reads.keep {w w' : World} {v : Value} {xs : List Int} (h : Reads w v xs) (hb : Below w.heap.size w w') : Reads w' v xs := by
  obtain ⟨a, cap, rfl, hm, h⟩ := h
  refine ⟨a, cap, rfl, hm, ?_⟩
  rcases h with h | ⟨b, off, rfl, h⟩
  · exact .inl h
  · exact .inr ⟨b, off, rfl, fun i hi => cell_later hb (h i hi)⟩
theorem Owns.reads {w : World} {base : Nat} {v : Value} {xs : List Int} (h : Owns w base v xs) : Reads w v xs := by
  obtain ⟨h1, h2⟩ := h
  rcases h2 with ⟨rfl, hn⟩ | ⟨g, cap, cur, rfl, hb, hg, hc, hm, hs, ht⟩
  · have e : xs = [] := List.length_eq_zero_iff.1 hn
    subst e
    exact ⟨none, 0, rfl, by simp, .inl rfl⟩
  · refine ⟨_, cap, rfl, by omega, .inr ⟨g, 0, rfl, fun i hi => ?_⟩⟩
    have hw : w.ownsRow base 2 1 (.slice (some ⟨g, 0, none⟩) xs.length cap) xs.length (xs.map (Value.int .i64)) := ⟨h1, .inr ⟨g, cap, cur, rfl, hb, hg, hc, hm, hs, ht⟩⟩
    rw [Nat.zero_add, hw.cellAt i (by omega)]
    simp [List.getElem?_map, List.getD_eq_getElem?_getD, List.getElem?_eq_getElem hi]
theorem Owns.keep {w w' : World} {base : Nat} {v : Value} {xs : List Int} (h : Owns w base v xs) (hb : Below w.heap.size w w') : Owns w' base v xs := by
  obtain ⟨h1, h2⟩ := h
  refine ⟨h1, ?_⟩
  rcases h2 with h2 | ⟨g, cap, cur, hv, hbg, hg, r⟩
  · exact .inl h2
  · have hlt : g < w.heap.size := by
      rcases Nat.lt_or_ge g w.heap.size with h | h
      · exact h
      · rw [Array.getElem?_eq_none h] at hg; cases hg
    exact .inr ⟨g, cap, cur, hv, hbg, by rw [hb.block g hlt]; exact hg, r⟩
theorem ownsKeepAt {w w' : World} {base : Nat} {v : Value} {xs : List Int} (hb : Below w.heap.size w w') (h : Owns w base v xs) : Owns w' base v xs := h.keep hb
theorem Owns.mono {w : World} {base base' : Nat} {v : Value} {xs : List Int} (h : Owns w base v xs) (hb : base' ≤ base) : Owns w base' v xs := by
  obtain ⟨h1, h2⟩ := h
  refine ⟨h1, ?_⟩
  rcases h2 with h2 | ⟨g, cap, cur, hv, hbg, r⟩
  · exact .inl h2
  · exact .inr ⟨g, cap, cur, hv, Nat.le_trans hb hbg, r⟩

/-- two slices that read as the same numbers are found equal -/
theorem eqInt64S_same (va vb : Value) (xs : List Int) (w : World) (ha : Reads w va xs) (hb : Reads w vb xs) :
    Calls Try.prog 28 #[va, vb] w fun e w' => e = .returned (.bool true) ∧ Below w.heap.size w w' := by
  obtain ⟨a, ca, rfl, hm, ha⟩ := ha
  obtain ⟨b, cb, rfl, _, hb⟩ := hb
  unfold maxLen at hm
  rcases ha with rfl | ⟨ba, oa, rfl, ha⟩
  · go_enter Try.func28, Try.ntmps28
    go_wp2
    refine wp_loop_rounds 1 ?_
    rw [rounds_succ]
    go_wp2
    go_ret
    exact ⟨rfl, Below.refl _ _⟩
  · rcases hb with rfl | ⟨bb, ob, rfl, hb⟩
    · go_enter Try.func28, Try.ntmps28
      go_wp2
      refine wp_loop_rounds 1 ?_
      rw [rounds_succ]
      go_wp2
      go_ret
      exact ⟨rfl, Below.refl _ _⟩
    · generalize hn : xs.length = n at *
      have Ha := Lib.hid ha
      have Hb := Lib.hid hb
      clear ha hb hn
      go_enter Try.func28, Try.ntmps28
      go_wp2
      go_loopw [5] (fun c wr => ∃ k : Nat, k ≤ n ∧ c = .int .i64 (k : Int) ∧ Below w.heap.size w wr) (fun c _ => n - (intOf c).toNat)
      case atStart => exact ⟨0, Nat.zero_le _, rfl, Below.refl _ _⟩
      case round =>
        obtain ⟨k, hk, rfl, hL⟩ := hrel
        by_cases hlt : k < n
        · have hca := cell_later hL (Ha.out k hlt)
          have hcb := cell_later hL (Hb.out k hlt)
          generalize xs.getD k 0 = x at hca hcb
          have hi1 : (k : Int) < (n : Int) := by omega
          have hi0 : (0 : Int) ≤ (k : Int) := by omega
          go_wp2_with fail
          go_quiet (fail)
          go_wp2
          go_roundw
          case rel => exact ⟨k + 1, by omega, by go_num, Bdrew hL _⟩
          case measure => simp [intOf]; omega
        · go_wp2
          go_ret
          exact ⟨rfl, hL⟩

/-- n numbers from q on -/
def iota (q : Int) (n : Nat) : List Int := (List.range n).map fun (i : Nat) => q + (i : Int)
theorem iota_len (q : Int) (n : Nat) : (iota q n).length = n := by simp [iota]
theorem iota_get (q : Int) (n i : Nat) (h : i < n) : (iota q n).getD i 0 = q + (i : Int) := by
  simp [iota, List.getD_eq_getElem?_getD, h]

/-- the first k numbers of xs written over by those from q on -/
def markTo (q : Int) (xs : List Int) (k : Nat) : List Int := iota q k ++ xs.drop k
theorem markTo_set (q : Int) (xs : List Int) (k : Nat) (h : k < xs.length) : (markTo q xs (k + 1)).map (Value.int .i64) = ((markTo q xs k).map (Value.int .i64)).set k (.int .i64 (q + (k : Int))) := by
  have e1 : iota q (k + 1) = iota q k ++ [q + (k : Int)] := by simp [iota, List.range_succ]
  have e2 : xs.drop k = xs[k] :: xs.drop (k + 1) := List.drop_eq_getElem_cons h
  unfold markTo
  rw [e1, e2, ← List.map_set, List.set_append_right _ _ (by simp [iota_len]), iota_len, Nat.sub_self, List.append_assoc]
  rfl
theorem markTo_all (q : Int) (xs : List Int) (n : Nat) (h : xs.length = n) : markTo q xs n = iota q n := by
  unfold markTo
  rw [List.drop_of_length_le (by omega), List.append_nil]

/-- a slice that reads as the numbers from q on is found so -/
theorem heldInt64S_any (va : Value) (n : Nat) (q : Int) (w : World) (ha : Reads w va (iota q n)) (hn : n ≤ 1048576) (q0 : 0 ≤ q) (q1 : q ≤ 1000000000000) :
    Calls Try.prog 30 #[va, .int .i64 q] w fun e w' => e = .returned (.int .i64 (q + n)) ∧ Below w.heap.size w w' := by
  obtain ⟨a, ca, rfl, hm, ha⟩ := ha
  rw [iota_len] at *
  rcases ha with ha | ⟨ba, oa, rfl, ha⟩
  · have hn0 : n = 0 := by have := iota_len q n; rw [ha] at this; simpa using this.symm
    subst hn0
    go_enter Try.func30, Try.ntmps30
    go_wp2
    refine wp_loop_rounds 1 ?_
    rw [rounds_succ]
    go_wp2
    go_ret
    exact ⟨by simp, Below.refl _ _⟩
  · have Ha : Hid (∀ i, i < n → w.cell? ⟨ba, oa + i, none⟩ = some (.int .i64 (q + (i : Int)))) := fun i hi => by rw [ha i hi, iota_get q n i hi]
    clear ha
    go_enter Try.func30, Try.ntmps30
    go_wp2_with fail
    go_loopw [1, 5] (fun kk c wr => ∃ k : Nat, k ≤ n ∧ kk = .int .i64 (q + (k : Int)) ∧ c = .int .i64 (k : Int) ∧ Below w.heap.size w wr) (fun _ c _ => n - (intOf c).toNat)
    case atStart => exact ⟨0, Nat.zero_le _, by simp, rfl, Below.refl _ _⟩
    case round =>
      obtain ⟨k, hk, rfl, rfl, hL⟩ := hrel
      by_cases hlt : k < n
      · have hca := cell_later hL (Ha.out k hlt)
        have hi1 : (k : Int) < (n : Int) := by omega
        have hi0 : (0 : Int) ≤ (k : Int) := by omega
        go_wp2
        go_roundw
        case rel => exact ⟨k + 1, by omega, by simp; omega, by go_num, hL⟩
        case measure => simp [intOf]; omega
      · have e : k = n := by omega
        subst e
        go_wp2
        go_ret
        exact ⟨rfl, hL⟩

theorem markInt64S_any (v : Value) (base : Nat) (xs : List Int) (q : Int) (w : World) (h : Owns w base v xs) (hn : xs.length ≤ 1048576) (q0 : 0 ≤ q) (q1 : q ≤ 1000000000000) :
    Calls Try.prog 29 #[v, .int .i64 q] w fun e w' => e = .returned (.int .i64 (q + xs.length)) ∧ Owns w' base v (iota q xs.length) ∧ w.grownBy w' v.ownBlock := by
  obtain ⟨h1, h2⟩ := h
  rcases h2 with ⟨rfl, hn0⟩ | ⟨g, cap, cur, rfl, hb, hg, hc, hm, hs, ht⟩
  · have e : xs = [] := List.length_eq_zero_iff.1 hn0
    subst e
    go_enter Try.func29, Try.ntmps29
    go_wp2
    refine wp_loop_rounds 1 ?_
    rw [rounds_succ]
    go_wp2
    go_ret
    exact ⟨by simp, ⟨by simp [iota], .inl ⟨rfl, by simp [iota]⟩⟩, World.grownBy.refl _ _⟩
  · generalize hxs : xs.length = n at *
    have H0 : Hid (w.ownsRow base 2 1 (.slice (some ⟨g, 0, none⟩) n cap) n (xs.map (Value.int .i64))) := ⟨h1, .inr ⟨g, cap, cur, rfl, hb, hg, hc, hm, hs, ht⟩⟩
    have Hx := Lib.hid hxs
    clear hxs h1 hs ht hg
    go_enter Try.func29, Try.ntmps29
    go_wp2_with fail
    go_loopw [1, 5] (fun kk c wr => ∃ k : Nat, k ≤ n ∧ kk = .int .i64 (q + (k : Int)) ∧ c = .int .i64 (k : Int) ∧ wr.ownsRow base 2 1 (.slice (some ⟨g, 0, none⟩) n cap) n ((markTo q xs k).map (Value.int .i64)) ∧ w.grownBy wr (some g)) (fun _ c _ => n - (intOf c).toNat)
    case atStart => exact ⟨0, Nat.zero_le _, by simp, rfl, by simpa [markTo, iota] using H0.out, World.grownBy.refl _ _⟩
    case round =>
      obtain ⟨k, hk, rfl, rfl, hO, hG⟩ := hrel
      by_cases hlt : k < n
      · have hcell : ∃ u, wr.cell? ⟨g, k, none⟩ = some u := by
          rw [hO.cellAt k (by omega)]
          have hlen := hO.1
          exact ⟨_, List.getElem?_eq_getElem (by omega)⟩
        obtain ⟨u, hcell⟩ := hcell
        have hfr := hO.frozenAt k
        have hi1 : (k : Int) < (n : Int) := by omega
        have hi0 : (0 : Int) ≤ (k : Int) := by omega
        have HS := Lib.hid (hO.stored k (.int .i64 (q + (k : Int))))
        have HO := Lib.hid hO
        have HG := Lib.hid hG
        clear hO hG
        go_wp2
        go_roundw
        case rel => exact ⟨k + 1, by omega, by simp; omega, by go_num, by rw [markTo_set q xs k (by have := Hx.out; omega)]; exact HS.out.1, HG.out.trans HS.out.2⟩
        case measure => simp [intOf]; omega
      · have e : k = n := by omega
        subst e
        go_wp2
        go_ret
        refine ⟨rfl, ?_, hG⟩
        show World.ownsRow _ _ _ _ _ _ _
        rw [iota_len, ← markTo_all q xs k Hx.out]
        exact hO

end Go.Proofs.Ytkdidplpnhokiaa
