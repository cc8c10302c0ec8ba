/- Rows put behind those that are there: slices.Insert at the end, impl.inOrder of rows where none is greater. -/
import Derived.Test.YtkdidplpnhokiaaFaI
import Derived.Test.YtkdidplpnhokiaaWoS
import Derived.Test.YtkdidplpnhokiaaGro2
import Derived.Deep.RegionHeld3
namespace Go.Proofs.Ytkdidplpnhokiaa
open Go.RowKit
set_option linter.unusedVariables false

theorem cells_one {w : World} {e : Nat} {u : Value} (h : w.cell? ⟨e, 0, none⟩ = some u) : ∀ j x, [u][j]? = some x → w.cell? ((⟨e, 0, none⟩ : Addr).add j) = some x := by
  intro j x hj
  rcases j with _ | j
  · simp at hj; subst hj; exact h
  · simp at hj

set_option maxRecDepth 100000 in
set_option maxHeartbeats 1000000 in
theorem insert_end (B n e : Nat) (v : Value) (vs : List Value) (ua : Option Addr) (un uc : Nat) (w : World) (h : w.ownsRow B 22 1 v n vs) (he : w.cell? ⟨e, 0, none⟩ = some (.slice ua un uc)) (hn : n ≤ 1000) (hv : v = .slice none 0 0 ∨ 0 < n) (hB : B ≤ w.heap.size) :
    Calls Try.prog 142 #[v, .int .i64 (n : Int), .slice (some ⟨e, 0, none⟩) 1 1] w fun e' w' => ∃ v', e' = .returned v' ∧ w'.ownsRow B 22 1 v' (n + 1) (vs ++ [.slice ua un uc]) ∧ w.grownBy w' v.ownBlock ∧ (v'.ownBlock = v.ownBlock ∨ v'.ownBlock = some w.heap.size) := by
  obtain ⟨i0, hi, hz0, hz1, hz2⟩ := info_parts infoRow
  have HO := Lib.hid h
  have HC := Lib.hid (cells_one he)
  rcases h.2 with ⟨rfl, rfl⟩ | ⟨g, cap, cur, rfl, _, _, hnc, hcm, _⟩
  · clear h hv
    go_enter Try.func142, Try.ntmps142
    go_wp2_with (at_builtin; refine wpList_append_own_at _ rfl _ _ 23 rfl B 22 i0 (.slice none 0 0) 1 24 Try.underlying23 hi hz0 hz1 hz2 rfl (by decide) (.slice none 0 0) 0 vs rfl HO.out ⟨e, 0, none⟩ 1 1 [.slice ua un uc] rfl rfl HC.out (by simp [Value.oneCell']) (by unfold maxLen; omega) (by omega) hB ?_; intro v' w' hown hgrow hnil hat; have HH := Lib.hid (And.intro hown (And.intro hgrow hat)); clear hown hgrow hnil hat)
    go_ret
    exact ⟨_, rfl, HH.out.1, HH.out.2.1, HH.out.2.2⟩
  · have hn0 : 0 < n := hv.elim (fun e => by simp at e) id
    unfold maxLen at hcm
    have e1 : (0 : Int) ≤ (n : Int) := by omega
    have e2 : (n : Int) ≤ (cap : Int) := by omega
    have e3 : ¬ cap = 0 := by omega
    have e4 : ((n : Int) == (n : Int)) = true := by simp
    have e5 : ¬ n = 0 := by omega
    clear h hv
    go_enter Try.func142, Try.ntmps142
    go_wp2_with (at_builtin; refine wpList_append_own_at _ rfl _ _ 23 rfl B 22 i0 (.slice none 0 0) 1 24 Try.underlying23 hi hz0 hz1 hz2 rfl (by decide) (.slice (some ⟨g, 0, none⟩) n cap) n vs rfl HO.out ⟨e, 0, none⟩ 1 1 [.slice ua un uc] rfl rfl HC.out (by simp [Value.oneCell']) (by unfold maxLen; omega) (by omega) hB ?_; intro v' w' hown hgrow hnil hat; have HH := Lib.hid (And.intro hown (And.intro hgrow hat)); clear hown hgrow hnil hat)
    all_goals go_ret
    all_goals exact ⟨_, rfl, HH.out.1, HH.out.2.1, HH.out.2.2⟩

/-- the predicate of inOrder: is a row greater than the added one -/
theorem greater_any (ue u : Value) (x r : List Int) (bf bu : Nat) (w : World) (hf : w.cell? ⟨bf, 0, none⟩ = some (.func (.func 64) #[] #[])) (hu : w.cell? ⟨bu, 0, none⟩ = some u) (hx : Reads w ue x) (hr : Reads w u r) (lx : x.length = 2) (lr : r.length = 2) :
    Calls Try.prog 141 (#[ue] ++ #[.pointer (some ⟨bf, 0, none⟩), .pointer (some ⟨bu, 0, none⟩)]) w fun e w' => e = .returned (.bool (decide (0 < cmpL x r))) ∧ Below w.heap.size w w' := by
  have HC := Lib.hid (compare2 ue u x r w hx hr lx lr rfl)
  obtain ⟨a1, k1, rfl, _, _⟩ := hx
  obtain ⟨a2, k2, rfl, _, _⟩ := hr
  rw [lx, lr] at HC
  rw [lr] at hu
  rw [lx]
  clear lx lr
  generalize cmpL x r = z at *
  by_cases h : 0 < z
  · have HT : Hid (decide (0 < z) = true) := decide_eq_true h
    go_enter Try.func141, Try.ntmps141
    go_wp2_with (go_at_call 64; (with_reducible refine (HC.out).mono ?_); rintro e w' ⟨rfl, rfl⟩)
    go_ret
    exact ⟨by rw [HT.out]; rfl, Below.refl _ _⟩
  · have HT : Hid (decide (0 < z) = false) := decide_eq_false h
    go_enter Try.func141, Try.ntmps141
    go_wp2_with (go_at_call 64; (with_reducible refine (HC.out).mono ?_); rintro e w' ⟨rfl, rfl⟩)
    go_ret
    exact ⟨by rw [HT.out]; rfl, Below.refl _ _⟩

set_option maxRecDepth 100000 in
set_option maxHeartbeats 1000000 in
/-- a row put behind rows none of which is greater -/
theorem inOrder_end (B : Nat) (v u : Value) (L : List (List Int)) (r : List Int) (w w1 : World) (h : Own2 w B w.heap.size v L) (hB : B ≤ w.heap.size) (hb : Below w.heap.size w w1) (hu : Owns w1 w.heap.size u r) (hl : L.length ≤ 1000) (h2 : ∀ i, i < L.length → (L.getD i []).length = 2) (lr : r.length = 2)
    (hle : ∀ i, i < L.length → cmpL (L.getD i []) r ≤ 0) (hvn : v = .slice none 0 0 ∨ 0 < L.length) :
    Calls Try.prog 119 #[v, u, .func (.func 64) #[] #[]] w1 fun e w' => ∃ v', e = .returned v' ∧ Own2 w' B w'.heap.size v' (L ++ [r]) ∧ Below B w1 w' := by
  have hs := hb.size
  have hR2 := (h.keep hb).reads
  have hru := hu.reads
  obtain ⟨ua, uc, rfl, _, _⟩ := id hru
  obtain ⟨va, vc, rfl, hvm, _⟩ := id hR2
  unfold maxLen at hvm
  have hb1 : Below w1.heap.size w1 ((w1.alloc (.cells #[.slice ua r.length uc] 22)).alloc (.cells #[.func (.func 64) #[] #[]] 72)) := by go_grown
  have c0 : ((w1.alloc (.cells #[.slice ua r.length uc] 22)).alloc (.cells #[.func (.func 64) #[] #[]] 72)).cell? ⟨w1.heap.size, 0, none⟩ = some (.slice ua r.length uc) := by
    refine cell_later ((Below.refl _ _).alloc (Nat.le_refl _) _) ?_
    rw [World.cell?_alloc_at _ _ _ _ rfl]; rfl
  have c1 : ((w1.alloc (.cells #[.slice ua r.length uc] 22)).alloc (.cells #[.func (.func 64) #[] #[]] 72)).cell? ⟨w1.heap.size + 1, 0, none⟩ = some (.func (.func 64) #[] #[]) := by
    rw [World.cell?_alloc_at _ _ _ _ (by simp)]; rfl
  have HIF : Hid (∀ wx, Below w1.heap.size w1 wx → wx.cell? ⟨w1.heap.size, 0, none⟩ = some (.slice ua r.length uc) → wx.cell? ⟨w1.heap.size + 1, 0, none⟩ = some (.func (.func 64) #[] #[]) → Calls Try.prog 115 #[.slice va L.length vc, .func (.func 141) #[] #[.pointer (some ⟨w1.heap.size + 1, 0, none⟩), .pointer (some ⟨w1.heap.size, 0, none⟩)]] wx fun e w' => e = .returned (.int .i64 (-1)) ∧ Below wx.heap.size wx w') := fun wx hx k0 k1 =>
    indexFuncRK_any _ L 141 #[.pointer (some ⟨w1.heap.size + 1, 0, none⟩), .pointer (some ⟨w1.heap.size, 0, none⟩)] (fun x => decide (0 < cmpL x r)) L.length wx (hR2.keep hx) (Nat.le_refl _) (fun i hi => decide_eq_false (by have := hle i hi; omega)) (fun hh => absurd hh (Nat.lt_irrefl _))
      (fun k u' wy hk hy hu' => greater_any u' (.slice ua r.length uc) (L.getD k []) r (w1.heap.size + 1) w1.heap.size wy (cell_later hy k1) (cell_later hy k0) hu' (hru.keep (chain (B := w1.heap.size) (a := w1) hx (Nat.le_refl _) hy)) (h2 k hk) lr) (enters_of Try.func141 (by kernel_rfl) rfl) (if_neg (Nat.lt_irrefl _))
  have HIN : Hid (∀ w3, Below w1.heap.size w1 w3 → Calls Try.prog 142 #[.slice va L.length vc, .int .i64 (L.length : Int), .slice (some ⟨w3.heap.size, 0, none⟩) 1 1] (w3.alloc (.cells #[.slice ua r.length uc] 22)) fun e' w' => ∃ v', e' = .returned v' ∧ Own2 w' B w'.heap.size v' (L ++ [r]) ∧ Below B w1 w') := fun w3 hx => by
    have hx3 := chain (B := w.heap.size) (a := w) hb (Nat.le_refl _) hx
    refine (insert_end B L.length w3.heap.size _ _ ua r.length uc _ (h.asRows hx3 (.cells #[.slice ua r.length uc] 22)) (by rw [World.cell?_alloc_at _ _ _ _ rfl]; rfl) hl hvn (by have := hx3.size; simp; omega)).mono ?_
    rintro e w' ⟨v', rfl, ho, hg, hat⟩
    have hz3 := hx3.size
    exact ⟨v', rfl, Own2.more _ h hB hx3 (hu.keep hx) ho hg hat, ((hx.mono (show B ≤ w1.heap.size by omega)).alloc (by omega) _).grown hg (by simp; omega) (fun q e => h.from q e)⟩
  clear h hu hru hR2 h2 hle hvn lr
  generalize hll : L.length = l at *
  clear hll
  go_enter Try.func119, Try.ntmps119
  go_wp2_with (go_at_call 115; (with_reducible refine (HIF.out _ hb1 c0 c1).mono ?_); rintro e w3 ⟨rfl, hb3⟩; have hx3 := chain (B := w1.heap.size) (a := w1) hb1 (Nat.le_refl _) hb3; replace c0 := cell_later hb3 c0; clear hb3)
  refine (HIN.out _ hx3).mono ?_
  rintro e w5 ⟨v', rfl, ho, hbf⟩
  have HH := Lib.hid (And.intro ho hbf)
  clear ho hbf
  go_wp2_with fail
  go_ret
  exact ⟨_, rfl, HH.out.1, HH.out.2⟩

end Go.Proofs.Ytkdidplpnhokiaa
