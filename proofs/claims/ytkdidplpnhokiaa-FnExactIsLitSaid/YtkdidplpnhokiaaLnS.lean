/- Links of a wiring: the model's. -/
import Derived.Test.YtkdidplpnhokiaaAr
import Derived.Test.YtkdidplpnhokiaaLvL
namespace Go.Proofs.Ytkdidplpnhokiaa
open Go.RowKit
set_option linter.unusedVariables false

theorem r2_new (w : World) (x y : Int) (t : TypeId) (X : Option Nat) (hX : ∀ b, X = some b → b < w.heap.size) : R2 (w.alloc (.cells #[.int .i64 x, .int .i64 y] t)) X (.slice (some ⟨w.heap.size, 0, none⟩) 2 2) [x, y] := by
  refine ⟨rfl, w.heap.size, 0, 2, rfl, fun e => absurd (hX _ e) (Nat.lt_irrefl _), ?_, ?_⟩
  · rw [World.cell?_alloc_at _ _ _ _ rfl]; rfl
  · rw [World.cell?_alloc_at _ _ _ _ rfl]; rfl
theorem r2_newG {g : Nat} (w : World) (hg : g = w.heap.size) (x y : Int) (t : TypeId) (X : Option Nat) (hX : ∀ b, X = some b → b < w.heap.size) : R2 (w.alloc (.cells #[.int .i64 x, .int .i64 y] t)) X (.slice (some ⟨g, 0, none⟩) 2 2) [x, y] := by
  subst hg; exact r2_new w x y t X hX
theorem rws_one {w : World} {X : Option Nat} {v : Value} {r : List Int} (h : R2 w X v r) : Rws w X [v] [r] :=
  ⟨rfl, fun i hi => by have : i = 0 := by simpa using hi
                       subst this; exact ⟨v, rfl, h⟩⟩
theorem rws_two {w : World} {X : Option Nat} {v v' : Value} {r r' : List Int} (h : R2 w X v r) (h' : R2 w X v' r') : Rws w X [v, v'] [r, r'] :=
  ⟨rfl, fun i hi => by
    have hi' : i = 0 ∨ i = 1 := by have : i < 2 := hi; omega
    rcases hi' with rfl | rfl
    · exact ⟨v, rfl, h⟩
    · exact ⟨v', rfl, h'⟩⟩
theorem news_new {g : Nat} (w : World) (hg : g = w.heap.size) (vs : List Value) (t : TypeId) : ∀ j u, vs[j]? = some u → (w.alloc (.cells vs.toArray t)).cell? ((⟨g, 0, none⟩ : Addr).add j) = some u := by
  subst hg
  intro j u h
  refine World.news_of_block (cs := vs.toArray) (t := t) (fr := (0, 0)) (heap_alloc_new w _) j u ?_
  simpa using h

set_option maxRecDepth 100000 in
set_option maxHeartbeats 2000000 in
theorem l10Pairs_any (t size : Int) (q : Nat) (w : World) (hs : size = 3 ∨ size = 4) (hq : q < 2) (h0 : 0 ≤ t) (h1 : t ≤ 1000) :
    Calls Try.prog 105 #[.int .i64 size, .int .i64 t, .int .i64 (q : Int)] w fun e w' => ∃ b vs, e = .returned (.slice (some ⟨b, 0, none⟩) (pairsL t size q).length (pairsL t size q).length) ∧
      (∀ X, (∀ b, X = some b → b < w.heap.size) → Rws w' X vs (pairsL t size q)) ∧ (∀ j u, vs[j]? = some u → w'.cell? ((⟨b, 0, none⟩ : Addr).add j) = some u) ∧ Below w.heap.size w w' := by
  have hq2 : q = 0 ∨ q = 1 := by omega
  have key : ∀ (w : World) (x y : Int) (o : Obj) (X : Option Nat), (∀ b, X = some b → b < w.heap.size) → Rws ((w.alloc (.cells #[.int .i64 x, .int .i64 y] 2)).alloc o) X [.slice (some ⟨w.heap.size, 0, none⟩) 2 2] [[x, y]] := fun w x y o X hX =>
    rws_one ((r2_new w x y 2 X hX).keep ((Below.refl _ _).alloc (Nat.le_refl _) o))
  have key2 : ∀ (w : World) (x y x' y' : Int) (o : Obj) (X : Option Nat), (∀ b, X = some b → b < w.heap.size) → Rws (((w.alloc (.cells #[.int .i64 x, .int .i64 y] 2)).alloc (.cells #[.int .i64 x', .int .i64 y'] 2)).alloc o) X [.slice (some ⟨w.heap.size, 0, none⟩) 2 2, .slice (some ⟨w.heap.size + 1, 0, none⟩) 2 2] [[x, y], [x', y']] := fun w x y x' y' o X hX =>
    rws_two ((r2_new w x y 2 X hX).keep (((Below.refl _ _).alloc (Nat.le_refl _) _).alloc (by simp) o)) ((r2_newG (w.alloc (.cells #[.int .i64 x, .int .i64 y] 2)) (by simp) x' y' 2 X (fun b e => by have := hX b e; simp; omega)).keep ((Below.refl _ _).alloc (Nat.le_refl _) o))
  rcases hs with rfl | rfl
  · rcases hq2 with rfl | rfl
    · have HP : Hid (pairsL t 3 0 = [[t, t + 1]]) := by unfold Hid pairsL; simp
      rw [HP.out]
      go_enter Try.func105, Try.ntmps105
      go_wp2
      go_ret
      exact ⟨_, [.slice (some ⟨w.heap.size, 0, none⟩) 2 2], rfl, fun X hX => key w t (t + 1) _ X hX, news_new _ (by simp) [.slice (some ⟨w.heap.size, 0, none⟩) 2 2] _, by go_grown⟩
    · have HP : Hid (pairsL t 3 1 = [[t, t + 1 + 1]]) := by unfold Hid pairsL; simp
      rw [HP.out]
      go_enter Try.func105, Try.ntmps105
      go_wp2
      go_ret
      exact ⟨_, [.slice (some ⟨w.heap.size, 0, none⟩) 2 2], rfl, fun X hX => key w t (t + 1 + 1) _ X hX, news_new _ (by simp) [.slice (some ⟨w.heap.size, 0, none⟩) 2 2] _, by go_grown⟩
  · rcases hq2 with rfl | rfl
    · have HP : Hid (pairsL t 4 0 = [[t, t + 2], [t + 1, t + 3]]) := by unfold Hid pairsL; simp
      rw [HP.out]
      go_enter Try.func105, Try.ntmps105
      go_wp2
      go_ret
      exact ⟨_, [.slice (some ⟨w.heap.size, 0, none⟩) 2 2, .slice (some ⟨w.heap.size + 1, 0, none⟩) 2 2], rfl, fun X hX => key2 w t (t + 2) (t + 1) (t + 3) _ X hX, news_new _ (by simp) [.slice (some ⟨w.heap.size, 0, none⟩) 2 2, .slice (some ⟨w.heap.size + 1, 0, none⟩) 2 2] _, by go_grown⟩
    · have HP : Hid (pairsL t 4 1 = [[t, t + 3], [t + 1, t + 2]]) := by unfold Hid pairsL; simp; omega
      rw [HP.out]
      go_enter Try.func105, Try.ntmps105
      go_wp2
      go_ret
      exact ⟨_, [.slice (some ⟨w.heap.size, 0, none⟩) 2 2, .slice (some ⟨w.heap.size + 1, 0, none⟩) 2 2], rfl, fun X hX => key2 w t (t + 3) (t + 1) (t + 2) _ X hX, news_new _ (by simp) [.slice (some ⟨w.heap.size, 0, none⟩) 2 2, .slice (some ⟨w.heap.size + 1, 0, none⟩) 2 2] _, by go_grown⟩

/-- the links of the first k switches -/
def lnTo (xs : List Int) (pos : Int) (k : Nat) : List (List Int) := (List.range k).flatMap fun i => pairsL (termZ xs i) (xs.getD i 0) (dig pos.toNat i)
theorem lnTo_succ (xs : List Int) (pos : Int) (k : Nat) : lnTo xs pos (k + 1) = lnTo xs pos k ++ pairsL (termZ xs k) (xs.getD k 0) (dig pos.toNat k) := by unfold lnTo; rw [List.range_succ, List.flatMap_append]; simp
theorem lnTo_len (xs : List Int) (pos : Int) (k : Nat) : (lnTo xs pos k).length ≤ 2 * k := by
  induction k with
  | zero => exact Nat.le_refl _
  | succ k ih => rw [lnTo_succ, List.length_append]; have := pairsL_len (termZ xs k) (xs.getD k 0) (dig pos.toNat k); omega
def linksL (xs : List Int) (yss : List (List Int)) (pos : Int) : List (List Int) := yss ++ lnTo xs pos xs.length

theorem ar_append {w : World} {B n c : Nat} {u : Value} {L M : List (List Int)} {ad : Addr} {vs ns : List Value} (h1 : w.ownsRow B 22 1 u L.length vs) (h2 : Rws w u.ownBlock vs L) (h3 : Rws w u.ownBlock ns M) (h4 : ∀ j x, ns[j]? = some x → w.cell? (ad.add j) = some x)
    (hn : M.length = n) (hl : L.length + M.length ≤ 1000000) (hB : B ≤ w.heap.size) :
    ∃ v' w', (Builtin.append_ #[23, 23] 23 #[u, .slice (some ad) n c]).run Try.prog w = .ok v' w' ∧ Ar w' B v' (L ++ M) ∧ w.grownBy w' u.ownBlock := by
  subst hn
  obtain ⟨i0, hi, hz0, hz1, hz2⟩ := info_parts infoRow
  obtain ⟨v', w', hr, ho, hg, _, hat⟩ := run_append_own_at (P := Try.prog) (w := w) B 23 23 22 i0 (.slice none 0 0) 1 24 Try.underlying23 hi hz0 hz1 hz2 rfl (by decide) u L.length vs h1 ad M.length c ns (by rw [h3.1, Nat.mul_one]) h4 h3.one (by unfold maxLen; omega) (by omega) hB
  exact ⟨v', w', hr, Ar.more h2 h3 ho hg hat, hg⟩
theorem ar_start {w : World} {B m c : Nat} {u : Value} {yss : List (List Int)} {b' : Option Addr} (ho : w.ownsRow B 22 1 u 0 []) (hm : yss.length = m)
    (hrw : 0 < yss.length → ∃ b off vs, b' = some ⟨b, off, none⟩ ∧ Rws w u.ownBlock vs yss ∧ ∀ j x, vs[j]? = some x → w.cell? ((⟨b, off, none⟩ : Addr).add j) = some x) (h16 : yss.length ≤ 16) (hB : B ≤ w.heap.size) :
    ∃ v' w', (Builtin.append_ #[23, 23] 23 #[u, .slice b' m c]).run Try.prog w = .ok v' w' ∧ Ar w' B v' yss ∧ w.grownBy w' u.ownBlock := by
  subst hm
  obtain ⟨i0, hi, hz0, hz1, hz2⟩ := info_parts infoRow
  by_cases h : yss.length = 0
  · have e := List.length_eq_zero_iff.1 h
    subst e
    exact ⟨u, w, run_append_zero (P := Try.prog) (w := w) B _ _ 22 i0 1 Try.underlying23 hi u 0 [] ho b' c, ⟨[], ho, Rws.nil _ _⟩, ⟨rfl, rfl, rfl, Nat.le_refl _, fun _ _ _ => rfl⟩⟩
  · obtain ⟨b, off, vs, rfl, h3, h4⟩ := hrw (by omega)
    have := ar_append (L := []) (M := yss) (c := c) ho (Rws.nil _ _) h3 h4 rfl (by simp; omega) hB
    rwa [List.nil_append] at this

set_option maxRecDepth 100000 in
set_option maxHeartbeats 4000000 in
theorem l10Links_any (v : Value) (p : Int) (xs : List Int) (yss : List (List Int)) (pos : Int) (w : World) (ha : ReadsW w v p xs yss) (hs : SwOk xs) (h2 : ∀ i, i < yss.length → (yss.getD i []).length = 2) (h16 : yss.length ≤ 16) (p0 : 0 ≤ pos) (p1 : pos < 32) :
    Calls Try.prog 79 #[v, .int .i64 pos] w fun e w' => ∃ u, e = .returned u ∧ Reads2 w' u (linksL xs yss pos) ∧ Below w.heap.size w w' := by
  obtain ⟨i0, hi, hz0, hz1, hz2⟩ := info_parts infoRow
  obtain ⟨a, ca, b', cb, rfl, hA, hB⟩ := ha
  have HX : Hid (∀ k, k < xs.length → ∃ b off, a = some ⟨b, off, none⟩ ∧ w.cell? ⟨b, off + k, none⟩ = some (.int .i64 (xs.getD k 0))) := fun k hk => hA.cellW hk
  have hm1 : xs.length ≤ 2 ^ 63 - 1 := by obtain ⟨_, _, _, hm, _⟩ := hA; exact hm
  have h0 := C3.here w (.int .i64 p) (.slice a xs.length ca) (.slice b' yss.length cb) 28
  have hn5 := hs.1.2
  have HPR : Hid (∀ (k : Nat) (w' : World), k < xs.length → Calls Try.prog 105 #[.int .i64 (xs.getD k 0), .int .i64 (termZ xs k), .int .i64 (digZ pos (k : Int))] w' fun e w'' => ∃ b vs, e = .returned (.slice (some ⟨b, 0, none⟩) (pairsL (termZ xs k) (xs.getD k 0) (dig pos.toNat k)).length (pairsL (termZ xs k) (xs.getD k 0) (dig pos.toNat k)).length) ∧
      (∀ X, (∀ b, X = some b → b < w'.heap.size) → Rws w'' X vs (pairsL (termZ xs k) (xs.getD k 0) (dig pos.toNat k))) ∧ (∀ j u, vs[j]? = some u → w''.cell? ((⟨b, 0, none⟩ : Addr).add j) = some u) ∧ Below w'.heap.size w' w'') := fun k w' hk => by
    have hb := termZ_bd hs (k := k) (by omega)
    exact l10Pairs_any _ _ _ w' (hs.2 k hk) (dig_lt _ _) (by omega) (by omega)
  have HST : Hid (∀ k, termZ xs (k + 1) = termZ xs k + xs.getD k 0) := fun k => rfl
  have HBD : Hid (∀ k, k < xs.length → (0 ≤ termZ xs k ∧ termZ xs k ≤ 22) ∧ (0 ≤ xs.getD k 0 ∧ xs.getD k 0 ≤ 4)) := fun k hk => by
    have hb := termZ_bd hs (k := k) (by omega)
    have := hs.2 k hk
    omega
  have HLT : Hid (∀ k, k < xs.length → lnTo xs pos (k + 1) = lnTo xs pos k ++ pairsL (termZ xs k) (xs.getD k 0) (dig pos.toNat k)) := fun k _ => lnTo_succ xs pos k
  have HLL : Hid (∀ k, k < xs.length → (yss ++ lnTo xs pos k).length ≤ 26 ∧ (pairsL (termZ xs k) (xs.getD k 0) (dig pos.toNat k)).length ≤ 2) := fun k hk => ⟨by have := lnTo_len xs pos k; rw [List.length_append]; omega, pairsL_len _ _ _⟩
  have HEND : Hid (yss ++ lnTo xs pos xs.length = linksL xs yss pos) := rfl
  have HRW : Hid (0 < yss.length → ∀ X, (∀ b, X = some b → w.heap.size ≤ b) → ∃ b off vs, b' = some ⟨b, off, none⟩ ∧ Rws w X vs yss ∧ ∀ j u, vs[j]? = some u → w.cell? ((⟨b, off, none⟩ : Addr).add j) = some u) := fun h X hX => hB.rws h2 X hX h
  have HAS : Hid (∃ v' w', (Builtin.append_ #[23, 23] 23 #[.slice (some ⟨w.heap.size + 1, 0, none⟩) 0 0, .slice b' yss.length cb]).run Try.prog ((w.alloc (.cells #[.int .i64 p, .slice a xs.length ca, .slice b' yss.length cb] 28)).alloc (.cells #[] 22)) = .ok v' w' ∧
      Ar w' (w.heap.size + 1) v' yss ∧ ((w.alloc (.cells #[.int .i64 p, .slice a xs.length ca, .slice b' yss.length cb] 28)).alloc (.cells #[] 22)).grownBy w' (some (w.heap.size + 1))) := by
    have ho : ((w.alloc (.cells #[.int .i64 p, .slice a xs.length ca, .slice b' yss.length cb] 28)).alloc (.cells #[] 22)).ownsRow (w.heap.size + 1) 22 1 (.slice (some ⟨w.heap.size + 1, 0, none⟩) 0 0) 0 [] := by
      have h := World.ownsRow_made (base := w.heap.size + 1) (e := 22) (size := 1) (w.alloc (.cells #[.int .i64 p, .slice a xs.length ca, .slice b' yss.length cb] 28)) #[] 0 (by simp) (by simp) rfl
      simpa using h
    refine ar_start ho rfl (fun h => ?_) h16 (by simp)
    obtain ⟨b, off, vs, rfl, h3, h4⟩ := hB.rws h2 (some (w.heap.size + 1)) (fun b e => by injection e with e; omega) h
    have hb : Below w.heap.size w ((w.alloc (.cells #[.int .i64 p, .slice a xs.length ca, .slice (some ⟨b, off, none⟩) yss.length cb] 28)).alloc (.cells #[] 22)) := by go_grown
    exact ⟨b, off, vs, rfl, h3.keep hb, fun j x hj => cell_later hb (h4 j x hj)⟩
  clear hA hB hs h2
  have h03 := h0.alloc (.cells #[] 22)
  have hN5 : Hid (xs.length ≤ 5) := hn5
  obtain ⟨v2, w2, hr2, hAr, hgr2⟩ := HAS.out
  have h02 := C3.grown h03 hgr2 (by simp)
  have hL2 : Below w.heap.size w w2 := Below.grown (by go_grown) hgr2 (by simp; omega) (fun q e => by injection e with e; omega)
  have HAR := Lib.hid hAr
  clear HAS h0 h03 hgr2 hAr
  generalize yss.length = m at *
  generalize xs.length = n at *
  go_enter Try.func79, Try.ntmps79
  go_wp2_with (at_builtin; refine Lib.wpList_append_run _ rfl _ _ _ _ rfl _ _ rfl rfl _ _ hr2 ?_)
  go_loopw [5, 6, 7] (fun u t c wr => ∃ (k : Nat) (tz : Int), k ≤ n ∧ c = .int .i64 (k : Int) ∧ t = .int .i64 tz ∧ Hid (tz = termZ xs k) ∧ Below w.heap.size w wr ∧ C3 wr w.heap.size (.int .i64 p) (.slice a n ca) (.slice b' m cb) ∧ Hid (Ar wr (w.heap.size + 1) u (yss ++ lnTo xs pos k))) (fun _ _ c _ => n - (intOf c).toNat)
  case atStart => exact ⟨0, 2, Nat.zero_le _, rfl, rfl, rfl, hL2, h02, by have := HAR.out; unfold Hid; simpa [lnTo] using this⟩
  case round =>
    clear hL2 h02 HAR
    obtain ⟨k, tz, hk, rfl, rfl, HT, hL, h0, HAR⟩ := hrel
    by_cases hlt : k < n
    · obtain ⟨sb, so, rfl, hca0⟩ := HX.out k hlt
      have hca := cell_later hL hca0
      have hi1 : (k : Int) < (n : Int) := by omega
      have hi0 : (0 : Int) ≤ (k : Int) := by omega
      have hw : bits .and .i64 (pos / 2 ^ k) 1 = digZ pos (k : Int) := by have := digit_walk pos k p0 (by omega) (by omega); simpa using this
      have HP := Lib.hid (fun w' => HPR.out k w' hlt)
      have HT' : Hid (tz + xs.getD k 0 = termZ xs (k + 1)) := by unfold Hid; rw [HST.out k, ← HT.out]
      obtain ⟨⟨b0, b1⟩, b2, b3⟩ := HBD.out k hlt
      have HLK := Lib.hid (HLT.out k hlt)
      have HLB := Lib.hid (HLL.out k hlt)
      rw [← HT.out] at HP HLK HLB b0 b1
      have hdb := digZ_bd pos (k : Int)
      generalize pairsL tz (xs.getD k 0) (dig pos.toNat k) = M at *
      generalize hx : xs.getD k 0 = x at *
      have HXX := Lib.hid hx
      clear hx
      have hu64 := IntWalk.u64_in (k : Int) (by omega)
      have hmn : min (k : Int).toNat 64 = k := by omega
      have HCA := Lib.hid hca0
      clear hca0
      obtain ⟨vs, hvs, hrws⟩ := HAR.out
      have HVS := Lib.hid hvs
      have HRS := Lib.hid hrws
      clear hvs hrws HAR
      go_wp2_with fail
      refine (HP.out _).mono ?_
      rintro e w4 ⟨b, ns, rfl, hns, hnc, hb4⟩
      have hL4 := chain (B := w.heap.size) (a := w) hL (Nat.le_refl _) hb4
      have h04 := keepAt3 hb4 h0
      have hz4 := hL4.size
      have hz0 := h04.lt
      have hX : ∀ bb, u5.ownBlock = some bb → bb < wr.heap.size := fun bb e => (World.ownsRow.lt HVS.out bb e).2
      obtain ⟨v5, w5, hr5, hAr5, hgr5⟩ := ar_append (c := M.length) (rowLater HVS.out hb4) (HRS.out.keep hb4) (hns _ hX) hnc rfl (by have := HLB.out; omega) (by omega)
      have hL5 := hL4.grown hgr5 (by omega) (fun q e => by have := (World.ownsRow.lt HVS.out q e).1; omega)
      have h05 := C3.grown h04 hgr5 (fun e => by have := (World.ownsRow.lt HVS.out _ e).1; omega)
      have HAR5 : Hid (Ar w5 (w.heap.size + 1) v5 (yss ++ lnTo xs pos (k + 1))) := by rw [Hid, HLK.out, ← List.append_assoc]; exact hAr5
      have hca5 := cell_later hL5 HCA.out
      clear hns hnc hb4 hX hgr5 hAr5 h0 h04 hL hL4 hca HRS HVS
      go_wp2_with (at_builtin; refine Lib.wpList_append_run _ rfl _ _ _ _ rfl _ _ rfl rfl _ _ hr5 ?_)
      exact ⟨⟨k + 1, tz + x, by omega, by go_num, by go_num, HT', hL5, h05, HAR5⟩, by simp [intOf]; omega⟩
    · have e : k = n := by omega
      subst e
      have HE := HAR.out.reads
      rw [HEND.out] at HE
      clear HAR
      go_wp2_with fail
      go_ret
      exact ⟨_, rfl, HE, hL⟩

end Go.Proofs.Ytkdidplpnhokiaa
