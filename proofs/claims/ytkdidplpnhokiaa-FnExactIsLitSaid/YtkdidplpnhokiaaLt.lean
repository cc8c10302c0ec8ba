/- Lamps that are lit: the model's l10Lit. -/
import Derived.Test.YtkdidplpnhokiaaLvS
import Derived.Test.YtkdidplpnhokiaaLvP
import Derived.Shelf.SlSortCmp.QuietGrown
namespace Go.Proofs.Ytkdidplpnhokiaa
open Go.RowKit
set_option linter.unusedVariables false

/-- a wiring but for its wires' order -/
def WirW (p : Int) (xs : List Int) (yss : List (List Int)) : Prop := SwOk xs ∧ p = termZ xs xs.length ∧ yss.length ≤ 16 ∧ ∀ i, i < yss.length → WOk p (yss.getD i [])
theorem Wir.weak {p : Int} {xs : List Int} {yss : List (List Int)} (h : Wir p xs yss) : WirW p xs yss := ⟨h.1, h.2.1, h.2.2.1, fun i hi => (h.2.2.2 i hi).1⟩
theorem WirW.p22 {p : Int} {xs : List Int} {yss : List (List Int)} (h : WirW p xs yss) : 5 ≤ p ∧ p ≤ 22 := by
  have h1 := termZ_bd h.1 (Nat.le_refl _)
  have h2 := h.1.1
  rw [h.2.1]; omega
theorem WirW.two {p : Int} {xs : List Int} {yss : List (List Int)} (h : WirW p xs yss) : ∀ i, i < yss.length → (yss.getD i []).length = 2 := fun i hi => (h.2.2.2 i hi).1
theorem WirW.w22 {p : Int} {xs : List Int} {yss : List (List Int)} (h : WirW p xs yss) : Wires22 yss := fun i hi => by
  have h1 := h.2.2.2 i hi
  have h2 := h.p22
  unfold WOk at h1
  omega

theorem mem_lnTo {xs : List Int} {pos : Int} {k : Nat} {r : List Int} : r ∈ lnTo xs pos k ↔ ∃ i, i < k ∧ r ∈ pairsL (termZ xs i) (xs.getD i 0) (dig pos.toNat i) := by
  unfold lnTo
  simp only [List.mem_flatMap, List.mem_range]
theorem links_mem {xs : List Int} {yss : List (List Int)} {pos : Int} {r : List Int} : r ∈ linksL xs yss pos ↔ r ∈ yss ∨ ∃ i, i < xs.length ∧ r ∈ pairsL (termZ xs i) (xs.getD i 0) (dig pos.toNat i) := by
  unfold linksL
  rw [List.mem_append, mem_lnTo]
theorem linkE_mem {L : List (List Int)} {a b : Nat} : linkE L a b ↔ ∃ r ∈ L, (r.getD 0 0).toNat = a ∧ (r.getD 1 0).toNat = b := by
  unfold linkE
  constructor
  · rintro ⟨i, hi, h⟩; exact ⟨_, getD_mem hi, h⟩
  · rintro ⟨r, hr, h⟩
    obtain ⟨i, hi, e⟩ := mem_getD hr
    exact ⟨i, hi, by rw [e]; exact h⟩
theorem links_E (xs : List Int) (yss : List (List Int)) (pos : Int) (a b : Nat) : linkE (linksL xs yss pos) a b ↔ wirE xs yss (fun _ => false) pos a b := by
  rw [linkE_mem]
  unfold wirE
  constructor
  · rintro ⟨r, hr, h⟩
    rcases links_mem.1 hr with hr | ⟨i, hi, hr⟩
    · obtain ⟨i, hi, e⟩ := mem_getD hr
      exact .inl ⟨i, hi, rfl, by rw [e]; exact h⟩
    · exact .inr ⟨i, hi, r, hr, h⟩
  · rintro (⟨i, hi, _, h⟩ | ⟨i, hi, r, hr, h⟩)
    · exact ⟨_, links_mem.2 (.inl (getD_mem hi)), h⟩
    · exact ⟨r, links_mem.2 (.inr ⟨i, hi, hr⟩), h⟩
theorem links_bd {p : Int} {xs : List Int} {yss : List (List Int)} (h : WirW p xs yss) (pos : Int) : ∀ i, i < (linksL xs yss pos).length → ((linksL xs yss pos).getD i []).length = 2 ∧ (0 ≤ ((linksL xs yss pos).getD i []).getD 0 0 ∧ ((linksL xs yss pos).getD i []).getD 0 0 < p) ∧ (0 ≤ ((linksL xs yss pos).getD i []).getD 1 0 ∧ ((linksL xs yss pos).getD i []).getD 1 0 < p) := by
  intro i hi
  have hm := getD_mem hi
  generalize (linksL xs yss pos).getD i [] = r at *
  rcases links_mem.1 hm with hr | ⟨j, hj, hr⟩
  · obtain ⟨j, hj, e⟩ := mem_getD hr
    have := h.2.2.2 j hj
    rw [e] at this
    unfold WOk at this
    omega
  · have h1 := pairs_bd (h.1.2 j hj) (dig_lt _ _) hr
    have h2 := term_in h.1 hj
    have h3 := termZ_bd h.1 (k := j) (by omega)
    rw [h.2.1]
    refine ⟨?_, by omega, by omega⟩
    unfold pairsL at hr
    split at hr
    · simp only [List.mem_singleton] at hr; subst hr; rfl
    · simp only [List.mem_cons, List.not_mem_nil, or_false] at hr
      rcases hr with rfl | rfl <;> rfl
/-- is the lamp lit -/
noncomputable def litB (xs : List Int) (yss : List (List Int)) (pos : Int) : Bool := bP (Live (wirE xs yss (fun _ => false) pos) 0 1)
theorem links_lit (xs : List Int) (yss : List (List Int)) (pos : Int) (t : Nat) : bP (Live (linkE (linksL xs yss pos)) 0 t) = bP (Live (wirE xs yss (fun _ => false) pos) 0 t) :=
  bP_congr (Live.congr (links_E xs yss pos) 0 t)

set_option maxRecDepth 100000 in
set_option maxHeartbeats 2000000 in
theorem l10Lit_any (v : Value) (p : Int) (xs : List Int) (yss : List (List Int)) (pos : Int) (w : World) (ha : ReadsW w v p xs yss) (hw : WirW p xs yss) (p0 : 0 ≤ pos) (p1 : pos < 32) {b : Bool} (hb : litB xs yss pos = b) :
    Calls Try.prog 73 #[v, .int .i64 pos] w fun e w' => e = .returned (.bool b) ∧ Below w.heap.size w w' := by
  have HLN := Lib.hid (fun w' (h : Below w.heap.size w w') => l10Links_any v p xs yss pos w' (ha.keep h) hw.1 hw.two hw.2.2.1 p0 p1)
  obtain ⟨hp5, hp22⟩ := hw.p22
  obtain ⟨T, hT⟩ := Int.eq_ofNat_of_zero_le (show 0 ≤ p by omega)
  have HLV : Hid (∀ (w' : World) (u : Value), Reads2 w' u (linksL xs yss pos) → Calls Try.prog 78 #[.int .i64 p, u, .int .i64 0] w' fun e w'' => ∃ g, e = .returned (.slice (some ⟨g, 0, none⟩) T T) ∧ w''.cell? ⟨g, 1, none⟩ = some (.bool b) ∧ Below w'.heap.size w' w'') := fun w' u h => by
    have := l10Live_any T 0 u (linksL xs yss pos) w' h (by rw [← hT]; exact links_bd hw pos) (by omega) (by omega)
    rw [hT]
    refine this.mono ?_
    rintro e w'' ⟨g, he, hf, hbl⟩
    refine ⟨g, he, ?_, hbl⟩
    rw [(hf.cell (t := 1) (by omega)).1, links_lit, ← hb]
    rfl
  have hT2 : (1 : Int) < (T : Int) := by omega
  obtain ⟨a, ca, b', cb, rfl, _, _⟩ := ha
  have h0 := C3.here w (.int .i64 p) (.slice a xs.length ca) (.slice b' yss.length cb) 28
  have hL0 : Below w.heap.size w (w.alloc (.cells #[.int .i64 p, .slice a xs.length ca, .slice b' yss.length cb] 28)) := by go_grown
  clear hb hw hT hp5 hp22
  generalize xs.length = n at *
  generalize yss.length = m at *
  go_enter Try.func73, Try.ntmps73
  go_wp2_with fail
  go_region_with (first | (go_at_call 79; (with_reducible refine (HLN.out _ (by go_grown)).mono ?_); rintro e wa ⟨u, rfl, hu, hb⟩; have hL := chain (B := w.heap.size) (a := w) (by go_grown) (Nat.le_refl _) hb; replace h0 := keepAt3 hb (show C3 _ w.heap.size (.int .i64 p) (.slice a n ca) (.slice b' m cb) from by (repeat' (first | (with_reducible assumption) | (with_reducible refine C3.drewU ?_) | (with_reducible refine C3.alloc ?_ _)))); have HU := Lib.hid hu; clear hb hu) | (go_at_call 78; (with_reducible refine (HLV.out _ _ (HU.out.keep (by go_grown))).mono ?_); rintro e wb ⟨g, rfl, hc, hb⟩; replace hL := chain (B := w.heap.size) (a := w) (by go_grown) (Nat.le_refl _) hb; replace h0 := keepAt3 hb (show C3 _ w.heap.size (.int .i64 p) (.slice a n ca) (.slice b' m cb) from by (repeat' (first | (with_reducible assumption) | (with_reducible refine C3.drewU ?_) | (with_reducible refine C3.alloc ?_ _)))); clear hb))
  all_goals go_wp2_with fail
  all_goals go_ret
  all_goals exact ⟨rfl, by go_grown⟩

end Go.Proofs.Ytkdidplpnhokiaa
