/- Which rows go together: the model's. -/
import Derived.Test.YtnlcnbkookmfaaaMbb
import Derived.Test.YtnlcnbkookmfaaaStay
import Derived.WalkMore
namespace Go.Proofs.Ytnlcnbkookmfaaa
open Go.RowKit
set_option linter.unusedVariables false

/-- no outputs against it in the first columns -/
noncomputable def gdB (yss : List (List Int)) (a b i : Nat) : Bool := bP (∀ c, c < i → out1 yss a b c = true)
theorem gdB_zero (yss : List (List Int)) (a b : Nat) : gdB yss a b 0 = true := bP_yes fun c hc => by omega
theorem gdB_succ (yss : List (List Int)) (a b i : Nat) : gdB yss a b (i + 1) = (gdB yss a b i && out1 yss a b i) := by
  cases h : gdB yss a b i
  · have h1 := bP_out h
    rw [Bool.false_and]
    exact bP_no fun h2 => h1 fun c hc => h2 c (by omega)
  · have h1 := bP_iff.1 h
    rw [Bool.true_and]
    cases h2 : out1 yss a b i
    · exact bP_no fun h3 => by rw [h3 i (by omega)] at h2; cases h2
    · refine bP_yes fun c hc => ?_
      rcases Nat.lt_or_ge c i with h3 | h3
      · exact h1 c h3
      · have e : c = i := by omega
        subst e; exact h2
/-- is a pair as the rows that follow ask -/
def OkR (xss : List (List Int)) (M : Nat) (R : Nat → Nat → Bool) (a b : Nat) : Prop := R a b = true → ∀ c, c < M → plZ xss a c < 0 ∨ plZ xss b c < 0 ∨ R (plZ xss a c).toNat (plZ xss b c).toNat = true
/-- what the rounds keep -/
def InvR (xss yss : List (List Int)) (n M : Nat) (R : Nat → Nat → Bool) : Prop := (∀ a b, a < n → b < n → Tog xss yss n M a b → R a b = true) ∧ (∀ a b, a < n → b < n → R a b = true → ∀ c, c < M → out1 yss a b c = true)
theorem inv_end {p : Int} {xss yss : List (List Int)} {n M : Nat} (hb : chaB p xss yss = true) (hn : xss.length = n) (hM : p = (M : Int)) {R : Nat → Nat → Bool} (hi : InvR xss yss n M R) (hok : ∀ a, a < n → ∀ b, b < n → OkR xss M R a b) (a b : Nat) (ha : a < n) (hb' : b < n) : R a b = bP (Tog xss yss n M a b) := by
  cases h : R a b
  · exact (bP_no fun ht => by rw [hi.1 a b ha hb' ht] at h; cases h).symm
  · refine (bP_yes ⟨fun x y => x < n ∧ y < n ∧ R x y = true, ?_, ha, hb', h⟩).symm
    rintro x y ⟨hx, hy, hxy⟩
    refine ⟨hx, hy, fun c hc => ⟨hi.2 x y hx hy hxy c hc, ?_⟩⟩
    have b1 := nx_bd hb (r := x) (c := c) (by omega) (by omega)
    have b2 := nx_bd hb (r := y) (c := c) (by omega) (by omega)
    rcases hok x hx y hy hxy c hc with h4 | h4 | h4
    · exact .inl (by omega)
    · exact .inr (.inl (by omega))
    · by_cases z1 : plZ xss x c = -1
      · exact .inl z1
      · by_cases z2 : plZ xss y c = -1
        · exact .inr (.inl z2)
        · exact .inr (.inr ⟨by omega, by omega, h4⟩)
theorem inv_put {xss yss : List (List Int)} {n M : Nat} {R : Nat → Nat → Bool} {r s c X Y : Nat} (hi : InvR xss yss n M R) (hc : c < M) (hX : plZ xss r c = (X : Int)) (hY : plZ xss s c = (Y : Int)) (hXn : X < n) (hYn : Y < n) (h : R X Y = false) : InvR xss yss n M (updB R r s) := by
  refine ⟨fun a b ha hb ht => ?_, fun a b ha hb h2 => ?_⟩
  · unfold updB
    by_cases e : a = r ∧ b = s
    · obtain ⟨rfl, rfl⟩ := e
      have hu := tog_fix ht
      rcases (hu.2.2 c hc).2 with h4 | h4 | h4
      · omega
      · omega
      · rw [hX, hY, Int.toNat_natCast, Int.toNat_natCast] at h4
        rw [hi.1 X Y hXn hYn h4] at h; cases h
    · rw [if_neg e]; exact hi.1 a b ha hb ht
  · unfold updB at h2
    by_cases e : a = r ∧ b = s
    · rw [if_pos e] at h2; cases h2
    · rw [if_neg e] at h2; exact hi.2 a b ha hb h2
theorem inv_start (xss yss : List (List Int)) (n M : Nat) : InvR xss yss n M (fun a b => gdB yss a b M) :=
  ⟨fun a b ha hb ht => bP_yes fun c hc => ((tog_fix ht).2.2 c hc).1, fun a b ha hb h => bP_iff.1 h⟩

def tvN : Value → Nat
  | .bool true => 1
  | _ => 0
/-- how far a pass has come: nothing turned and all as told, or something turned -/
def Dch (n : Nat) (R0 R : Nat → Nat → Bool) (tb : Bool) (extra : Prop) : Prop := (tb = false ∧ R = R0 ∧ extra) ∨ (tb = true ∧ cntR n R < cntR n R0)
theorem Dch.imp {n : Nat} {R0 R : Nat → Nat → Bool} {tb : Bool} {e e' : Prop} (h : Dch n R0 R tb e) (hi : tb = false → R = R0 → e → e') : Dch n R0 R tb e' :=
  h.elim (fun ⟨a, b, c⟩ => .inl ⟨a, b, hi a b c⟩) .inr
theorem Dch.put {n r s : Nat} {R0 R : Nat → Nat → Bool} {tb : Bool} {e e' : Prop} (h : Dch n R0 R tb e) (hr : r < n) (hs : s < n) (ht : R r s = true) : Dch n R0 (updB R r s) true e' := by
  have h1 := cntR_put hr hs ht
  refine .inr ⟨rfl, ?_⟩
  rcases h with ⟨_, h2, _⟩ | ⟨_, h2⟩
  · rw [h2] at h1 ⊢; exact h1
  · omega

set_option maxRecDepth 100000 in
set_option maxHeartbeats 1000000 in
theorem l07Together_any (v : Value) (p : Int) (xss yss : List (List Int)) (w : World) (ha : ReadsH w v p xss yss) (hb : chaB p xss yss = true) :
    Calls Try.prog 64 #[v] w fun e w' => ∃ u V, e = .returned u ∧ MatB w' w.heap.size u xss.length xss.length V (fun a b => bP (Tog xss yss xss.length p.toNat a b)) ∧ Below w.heap.size w w' := by
  obtain ⟨i0, hib0, iz0, iz1, iz2⟩ := info_parts infoRowB
  obtain ⟨j0, hj0_, jz0, jz1, jz2⟩ := info_parts infoBool
  obtain ⟨⟨n1, n8⟩, ⟨p1, p4⟩, hl, -⟩ := chaB_out hb
  have HRI := Lib.hid (fun w' (h : Below w.heap.size w w') => l07N_any v p xss yss w' (ha.keep h))
  obtain ⟨M, rfl⟩ : ∃ M : Nat, p = (M : Int) := ⟨p.toNat, by omega⟩
  rw [Int.toNat_natCast]
  have HLN := Lib.hid (fun r (hr : r < xss.length) => row_len hb hr)
  have HNX := Lib.hid (fun (r c : Nat) (hr : r < xss.length) (hc : c < M) => nx_bd hb hr (c := c) (by omega))
  have HOT := Lib.hid (fun (r c : Nat) (hr : r < xss.length) (hc : c < M) => ot_bd hb hr (c := c) (by omega))
  have HEND := Lib.hid (fun R hi hok a b ha hb' => inv_end hb rfl rfl (n := xss.length) (M := M) (R := R) hi hok a b ha hb')
  have HPUT := Lib.hid (fun R r s c X Y hi hc hX hY hXn hYn h => inv_put (xss := xss) (yss := yss) (n := xss.length) (M := M) (R := R) (r := r) (s := s) (c := c) (X := X) (Y := Y) hi hc hX hY hXn hYn h)
  have HST := Lib.hid (inv_start xss yss xss.length M)
  obtain ⟨a, ca, b', cb, rfl, h1, h2⟩ := ha
  have HP : Hid (∀ r c, r < xss.length → c < M → ∃ b off ub uo ul uc, a = some ⟨b, off, none⟩ ∧ w.cell? ⟨b, off + r, none⟩ = some (.slice (some ⟨ub, uo, none⟩) ul uc) ∧ (c : Int) < (ul : Int) ∧ w.cell? ⟨ub, uo + c, none⟩ = some (.int .i64 (plZ xss r c))) := fun r c hr hc => by
    have e := (HLN.out r hr).1
    obtain ⟨b, off, ub, uo, uc, h1', h2', h3'⟩ := h1.place hr (c := c) (by omega)
    exact ⟨b, off, ub, uo, _, uc, h1', h2', by omega, h3'⟩
  have HPo : Hid (∀ r c, r < xss.length → c < M → ∃ b off ub uo ul uc, b' = some ⟨b, off, none⟩ ∧ w.cell? ⟨b, off + r, none⟩ = some (.slice (some ⟨ub, uo, none⟩) ul uc) ∧ (c : Int) < (ul : Int) ∧ w.cell? ⟨ub, uo + c, none⟩ = some (.int .i64 (plZ yss r c))) := fun r c hr hc => by
    have e := (HLN.out r hr).2
    obtain ⟨b, off, ub, uo, uc, h1', h2', h3'⟩ := h2.place (r := r) (by omega) (c := c) (by omega)
    exact ⟨b, off, ub, uo, _, uc, h1', h2', by omega, h3'⟩
  have HO1 : Hid (∀ r s c, out1 yss r s c = decide (plZ yss r c = -1 ∨ plZ yss s c = -1 ∨ plZ yss r c = plZ yss s c)) := fun r s c => rfl
  have HOKD : Hid (∀ R a b, OkR xss M R a b ↔ (R a b = true → ∀ c, c < M → plZ xss a c < 0 ∨ plZ xss b c < 0 ∨ R (plZ xss a c).toNat (plZ xss b c).toNat = true)) := fun R a b => Iff.rfl
  have h0 := C3.here w (.int .i64 (M : Int)) (.slice a xss.length ca) (.slice b' yss.length cb) 27
  have hM4 : M ≤ 4 := by omega
  clear hb h1 h2 p1 p4 HLN
  rw [hl] at h0 HRI ⊢
  clear hl
  generalize InvR xss yss xss.length M = IV at *
  generalize OkR xss M = OK at *
  generalize Tog xss yss xss.length M = TT at *
  generalize hn : xss.length = n at *
  clear hn
  go_enter Try.func64, Try.ntmps64
  go_wp2_with fail
  have HM0 : Hid (MatB ((w.alloc (.cells #[.int .i64 (M : Int), .slice a n ca, .slice b' n cb] 27)).alloc (.cells #[] 66)) (w.heap.size + 1) (.slice (some ⟨w.heap.size + 1, 0, none⟩) 0 0) 0 n (fun _ => .slice none 0 0) (fun a b => gdB yss a b M)) := by
    have h := matB_made (w.alloc (.cells #[.int .i64 (M : Int), .slice a n ca, .slice b' n cb] 27)) (w.heap.size + 1) n (by simp) (fun a b => gdB yss a b M)
    rw [World.size_alloc] at h; exact h
  go_loopw [3, 4] (fun u c wr => ∃ (k : Nat) (V : Nat → Value), k ≤ n ∧ c = .int .i64 (k : Int) ∧ Below w.heap.size w wr ∧ C3 wr w.heap.size (.int .i64 (M : Int)) (.slice a n ca) (.slice b' n cb) ∧ Hid (MatB wr (w.heap.size + 1) u k n V (fun a b => gdB yss a b M))) (fun _ c _ => n - (intOf c).toNat)
  case atStart => exact ⟨0, _, Nat.zero_le _, rfl, by go_grown, h0.alloc _, HM0⟩
  case round =>
    clear h0 HM0
    obtain ⟨k, V, hk, rfl, hL, h0, hM⟩ := hrel
    obtain ⟨oa, oc, rfl⟩ := hM.out.form
    by_cases hkl : k < n
    · have hk1 : (k : Int) < (n : Int) := by omega
      have hk0 : (0 : Int) ≤ (k : Int) := by omega
      go_wp2_with fail
      refine (HRI.out _ hL).mono ?_
      rintro e w1 ⟨rfl, hb⟩
      replace hL := chain (B := w.heap.size) (a := w) hL (Nat.le_refl _) hb
      replace h0 := keepAt3 hb h0
      replace hM := Lib.hid (hM.out.keep hb)
      clear hb
      have HLT := Lib.hid hM.out.lt
      have hB1 := h0.lt
      have HR0 : Hid (OwnB (w1.alloc (.cells #[] 4)) w1.heap.size (.slice (some ⟨w1.heap.size, 0, none⟩) 0 0) 0 (fun j => gdB yss k j M)) := ownB_made w1 w1.heap.size (Nat.le_refl _) _
      go_wp2_with fail
      go_loopw [5, 6] (fun u c wy => ∃ j : Nat, j ≤ n ∧ c = .int .i64 (j : Int) ∧ Below w.heap.size w wy ∧ w1.heap.size ≤ wy.heap.size ∧ C3 wy w.heap.size (.int .i64 (M : Int)) (.slice a n ca) (.slice b' n cb) ∧ Hid (MatB wy (w.heap.size + 1) (.slice oa k oc) k n V (fun a b => gdB yss a b M)) ∧ Hid (OwnB wy w1.heap.size u j (fun j => gdB yss k j M))) (fun _ c _ => n - (intOf c).toNat)
      case atStart => exact ⟨0, Nat.zero_le _, rfl, by go_grown, by simp, h0.alloc _, hM.out.keep ((Below.refl _ _).alloc (Nat.le_refl _) _), HR0⟩
      case round =>
        clear h0 hL hM HR0
        obtain ⟨j, hj, rfl, hL, hS, h0, hM, hO⟩ := hrel
        obtain ⟨ra, rc, rfl⟩ := hO.out.form
        by_cases hjl : j < n
        · have hj1 : (j : Int) < (n : Int) := by omega
          have hj0 : (0 : Int) ≤ (j : Int) := by omega
          go_wp2_with fail
          refine (HRI.out _ hL).mono ?_
          rintro e w2 ⟨rfl, hb⟩
          replace hL := chain (B := w.heap.size) (a := w) hL (Nat.le_refl _) hb
          replace h0 := keepAt3 hb h0
          replace hM := Lib.hid (hM.out.keep hb)
          replace hO := Lib.hid (hO.out.keep hb)
          replace hS := Nat.le_trans hS hb.size
          clear hb
          go_wp2_with fail
          go_loopw [7, 8] (fun g c wy => ∃ i : Nat, i ≤ M ∧ g = .bool (gdB yss k j i) ∧ c = .int .i64 (i : Int) ∧ Below w.heap.size w wy ∧ w1.heap.size ≤ wy.heap.size ∧ C3 wy w.heap.size (.int .i64 (M : Int)) (.slice a n ca) (.slice b' n cb) ∧ Hid (MatB wy (w.heap.size + 1) (.slice oa k oc) k n V (fun a b => gdB yss a b M)) ∧ Hid (OwnB wy w1.heap.size (.slice ra j rc) j (fun j => gdB yss k j M))) (fun _ c _ => M - (intOf c).toNat)
          case atStart => exact ⟨0, Nat.zero_le _, by rw [gdB_zero], rfl, hL, hS, h0, hM, hO⟩
          case round =>
            clear h0 hL hM hO hS
            obtain ⟨i, hi, rfl, rfl, hL, hS, h0, hM, hO⟩ := hrel
            by_cases hil : i < M
            · have hi1 : (i : Int) < (M : Int) := by omega
              have hi0 : (0 : Int) ≤ (i : Int) := by omega
              obtain ⟨ab, ao, ub, uo, ul, uc, rfl, hx, hul, hy⟩ := HPo.out k i hkl hil
              obtain ⟨ab2, ao2, vb, vo, vl, vc, e3, hx2, hvl, hy2⟩ := HPo.out j i hjl hil
              simp only [Option.some.injEq, Addr.mk.injEq, and_true] at e3
              obtain ⟨rfl, rfl⟩ := e3
              have d1 := cell_later hL hx
              have d2 := cell_later hL hy
              have d3 := cell_later hL hx2
              have d4 := cell_later hL hy2
              have b1 := HOT.out k i hkl hil
              have b2 := HOT.out j i hjl hil
              have HG := Lib.hid (gdB_succ yss k j i)
              have ho := HO1.out k j i
              generalize plZ yss k i = s at *
              generalize plZ yss j i = t at *
              generalize out1 yss k j i = o1 at *
              obtain ⟨g', hge⟩ : ∃ g', gdB yss k j (i + 1) = g' := ⟨_, rfl⟩
              have HGE := Lib.hid hge
              rw [hge] at HG
              clear hge
              generalize gdB yss k j i = g at *
              clear hx hx2 hy hy2
              cases g
              · have hg' : g' = false := by rw [HG.out]; rfl
                clear ho b1 b2
                go_wp2_with fail
                go_quiet (fail)
                go_wp2_with fail
                go_roundw
                case rel => exact ⟨i + 1, by omega, by rw [HGE.out, hg'], by go_num, Bdrew hL _, hS, C3.drewUN h0 _, hM.out.drewN _, hO⟩
                case measure => simp [intOf]; omega
              · have hg' : g' = o1 := by rw [HG.out]; simp
                have HG' := Lib.hid hg'
                clear hg' HG
                by_cases hs : s < 0
                · have HO' : Hid (o1 = true) := by rw [Hid, ho]; exact decide_eq_true (.inl (by omega))
                  have hds : decide (s < 0) = true := decide_eq_true hs
                  clear ho b1 b2
                  go_wp2_with fail
                  go_quiet (fail)
                  go_wp2_with fail
                  go_roundw
                  case rel => exact ⟨i + 1, by omega, by rw [HGE.out, HG'.out, HO'.out], by go_num, Bdrew hL _, hS, C3.drewUN h0 _, hM.out.drewN _, hO⟩
                  case measure => simp [intOf]; omega
                · have hds : decide (s < 0) = false := decide_eq_false hs
                  by_cases ht : t < 0
                  · have HO' : Hid (o1 = true) := by rw [Hid, ho]; exact decide_eq_true (.inr (.inl (by omega)))
                    have hdt : decide (t < 0) = true := decide_eq_true ht
                    clear ho b1 b2
                    go_wp2_with fail
                    go_quiet (fail)
                    go_wp2_with fail
                    go_roundw
                    case rel => exact ⟨i + 1, by omega, by rw [HGE.out, HG'.out, HO'.out], by go_num, Bdrew hL _, hS, C3.drewUN h0 _, hM.out.drewN _, hO⟩
                    case measure => simp [intOf]; omega
                  · have hdt : decide (t < 0) = false := decide_eq_false ht
                    have HO' : Hid (o1 = (s == t)) := by
                      rw [Hid, ho, Bool.eq_iff_iff]
                      simp only [decide_eq_true_eq, beq_iff_eq]
                      exact ⟨fun h => h.elim (fun h => by omega) fun h => h.elim (fun h => by omega) id, fun h => .inr (.inr h)⟩
                    clear ho b1 b2
                    go_wp2_with fail
                    go_quiet (fail)
                    go_wp2_with fail
                    go_roundw
                    case rel => exact ⟨i + 1, by omega, by rw [HGE.out, HG'.out, HO'.out], by go_num, Bdrew hL _, hS, C3.drewUN h0 _, hM.out.drewN _, hO⟩
                    case measure => simp [intOf]; omega
            · have e : i = M := by omega
              have hin : ¬ (i : Int) < (M : Int) := by omega
              rw [e]
              clear e
              have hB := h0.lt
              have hfrom : Hid (∀ b, (Value.slice ra j rc).ownBlock = some b → w1.heap.size ≤ b) := fun b e => (World.ownsRow.lt hO.out b e).1
              have hOO := Lib.hid hO.out
              obtain ⟨G, hG⟩ : ∃ G, gdB yss k j M = G := ⟨_, rfl⟩
              have HGG := Lib.hid hG
              have hOr := hO.out
              unfold OwnB at hOr
              rw [hG]
              clear hG
              go_wp2_with (at_builtin; refine wpList_append_own_at _ rfl _ _ 66 rfl w1.heap.size 4 j0 (.bool false) 1 1 Try.underlying66 hj0_ jz0 jz1 jz2 rfl (by decide) (.slice ra j rc) j ((List.range j).map fun j => Value.bool (gdB yss k j M)) rfl (World.ownsRow.alloc hOr _) ⟨wr.heap.size, 0, none⟩ 1 1 [.bool G] rfl rfl (cell_one_new _ _ _) (by simp [Value.oneCell']) (by unfold maxLen; omega) (by omega) (by simp; omega) ?_; intro v' w5 hown' hgrow hnil hat)
              have hz5 := hgrow.size
              rw [World.size_alloc] at hz5
              have hM5 : Hid (MatB w5 (w.heap.size + 1) (.slice oa k oc) k n V (fun a b => gdB yss a b M)) := hM.out.grown hgrow hfrom.out (fun b e => (HLT.out.1 b e).1) (fun i hi b e => (HLT.out.2 i hi b e).1)
              have hO5 : Hid (OwnB w5 w1.heap.size v' (j + 1) (fun j => gdB yss k j M)) := OwnB.snoc (by rw [HGG.out]; exact hown')
              go_roundw
              case rel => exact ⟨j + 1, by omega, by go_num, (hL.alloc (by omega) _).grown hgrow (by simp; omega) (fun q e => by have := hfrom.out q e; omega), by omega, (h0.alloc _).grown hgrow (fun e => by have := hfrom.out _ e; omega), hM5, hO5⟩
              case measure => simp [intOf]; omega
        · have e : j = n := by omega
          have hjn : ¬ (j : Int) < (n : Int) := by omega
          rw [e] at hO
          go_wp2_with fail
          refine (HRI.out _ hL).mono ?_
          rintro e w2 ⟨rfl, hb⟩
          replace hL := chain (B := w.heap.size) (a := w) hL (Nat.le_refl _) hb
          replace h0 := keepAt3 hb h0
          replace hM := Lib.hid (hM.out.keep hb)
          replace hO := Lib.hid (hO.out.keep hb)
          replace hS := Nat.le_trans hS hb.size
          clear hb
          have hsep : Hid (∀ b, (Value.slice ra n rc).ownBlock = some b → (Value.slice oa k oc).ownBlock ≠ some b ∧ ∀ j, j < k → (V j).ownBlock ≠ some b) := fun b e => by
            have h5 := (World.ownsRow.lt hO.out b e).1
            exact ⟨fun e2 => by have := (HLT.out.1 b e2).1; omega, fun j hj e2 => by have := (HLT.out.2 j hj b e2).1; omega⟩
          have hB := h0.lt
          have hfrom : Hid (∀ b, (Value.slice oa k oc).ownBlock = some b → w.heap.size + 1 ≤ b) := fun b e => (HLT.out.1 b e).2
          clear hjn e
          go_wp2_with (at_builtin; refine wpList_append_own_at _ rfl _ _ 64 rfl (w.heap.size + 1) 66 i0 (.slice none 0 0) 1 24 Try.underlying64 hib0 iz0 iz1 iz2 rfl (by decide) (.slice oa k oc) k ((List.range k).map V) rfl (World.ownsRow.alloc hM.out.1 _) ⟨w2.heap.size, 0, none⟩ 1 1 [.slice ra n rc] rfl rfl (cell_one_new _ _ _) (by simp [Value.oneCell']) (by unfold maxLen; omega) (by omega) (by simp; omega) ?_; intro v' w5 hown' hgrow hnil hat)
          have hM5 := Lib.hid (MatB.more _ hM.out (hO.out.mono (by omega)) hsep.out hown' hgrow hat)
          go_roundw
          case rel => exact ⟨k + 1, _, by omega, by go_num, (hL.alloc (by omega) _).grown hgrow (by simp; omega) (fun q e => by have := hfrom.out q e; omega), (h0.alloc _).grown hgrow (fun e => by have := hfrom.out _ e; omega), hM5⟩
          case measure => simp [intOf]; omega
    · have e : k = n := by omega
      have hkn : ¬ (k : Int) < (n : Int) := by omega
      subst e
      go_wp2_with fail
      refine (HRI.out _ hL).mono ?_
      rintro e wq ⟨rfl, hb⟩
      replace hL := chain (B := w.heap.size) (a := w) hL (Nat.le_refl _) hb
      replace h0 := keepAt3 hb h0
      replace hM := Lib.hid (hM.out.keep hb)
      clear hb
      go_wp2_with fail
      go_loopw [9] (fun tv wr => ∃ (tb : Bool) (R : Nat → Nat → Bool), tv = .bool tb ∧ Below w.heap.size w wr ∧ C3 wr w.heap.size (.int .i64 (M : Int)) (.slice a k ca) (.slice b' k cb) ∧ Hid (MatB wr (w.heap.size + 1) (.slice oa k oc) k k V R) ∧ Hid (IV R ∧ (tb = false → ∀ a, a < k → ∀ b, b < k → OK R a b))) (fun tv wr => 2 * cntW wr (.slice oa k oc) k + tvN tv)
      case atStart => exact ⟨true, _, rfl, hL, h0, hM, HST.out, fun h => by cases h⟩
      case round =>
        clear hL h0 hM
        obtain ⟨tb, R0, rfl, hL, h0, hM, hI⟩ := hrel
        cases tb
        · have hEQ := Lib.hid (HEND.out R0 hI.out.1 (hI.out.2 rfl))
          have hM' : Hid (MatB wr (w.heap.size + 1) (.slice oa k oc) k k V (fun a b => bP (TT a b))) := hM.out.congr fun i j hi hj => hEQ.out i j hi hj
          clear hM hI
          go_wp2_with fail
          go_ret
          exact ⟨_, V, rfl, ⟨World.ownsRow.monoB hM'.out.1 (Nat.le_succ _), fun i hi => ⟨(hM'.out.2 i hi).1.mono (Nat.le_succ _), (hM'.out.2 i hi).2⟩⟩, hL⟩
        · have hI1 := Lib.hid hI.out.1
          have hCN : Hid (cntW wr (.slice oa k oc) k = cntR k R0) := cntW_eq hM.out
          have HME : Hid (∀ (tb : Bool) (w' : World) (R : Nat → Nat → Bool), MatB w' (w.heap.size + 1) (.slice oa k oc) k k V R → Dch k R0 R tb (∀ a, a < k → ∀ b, b < k → OK R0 a b) → 2 * cntW w' (.slice oa k oc) k + tvN (.bool tb) < 2 * cntW wr (.slice oa k oc) k + tvN (.bool true)) := fun tb w' R hm hd => by
            rw [cntW_eq hm, hCN.out]
            rcases hd with ⟨rfl, rfl, _⟩ | ⟨rfl, h⟩
            · simp only [tvN]; omega
            · simp only [tvN]; omega
          clear hI hCN
          go_wp2_with fail
          go_loopw [9, 10] (fun tv c wr => ∃ (tb : Bool) (R : Nat → Nat → Bool) (r : Nat), r ≤ k ∧ tv = .bool tb ∧ c = .int .i64 (r : Int) ∧ Below w.heap.size w wr ∧ C3 wr w.heap.size (.int .i64 (M : Int)) (.slice a k ca) (.slice b' k cb) ∧ Hid (MatB wr (w.heap.size + 1) (.slice oa k oc) k k V R) ∧ Hid (IV R ∧ Dch k R0 R tb (∀ a, a < r → ∀ b, b < k → OK R0 a b))) (fun _ c _ => k - (intOf c).toNat)
          case atStart => exact ⟨false, R0, 0, Nat.zero_le _, rfl, rfl, hL, h0, hM, hI1.out, .inl ⟨rfl, rfl, fun a ha => by omega⟩⟩
          case round =>
            clear hL h0 hM hI1
            obtain ⟨tb, R, r, hr, rfl, rfl, hL, h0, hM, hI⟩ := hrel
            by_cases hrl : r < k
            · have hr1 : (r : Int) < (k : Int) := by omega
              have hr0 : (0 : Int) ≤ (r : Int) := by omega
              obtain ⟨gb, gc, eO, hVc, _, _⟩ := hM.out.cell hrl
              obtain ⟨vb, vc, hVr, _, _, _, _⟩ := (hM.out.2 r hrl).1.cell hrl
              simp only [Value.slice.injEq, true_and] at eO
              obtain ⟨rfl, rfl⟩ := eO
              have HVr := Lib.hid hVr
              rw [hVr] at hVc
              clear hVr
              go_wp2_with fail
              refine (HRI.out _ hL).mono ?_
              rintro e wq ⟨rfl, hb⟩
              replace hL := chain (B := w.heap.size) (a := w) hL (Nat.le_refl _) hb
              replace h0 := keepAt3 hb h0
              replace hM := Lib.hid (hM.out.keep hb)
              replace hVc := cell_later hb hVc
              clear hb
              go_wp2_with fail
              go_loopw [9, 12] (fun tv c wr => ∃ (tb : Bool) (R : Nat → Nat → Bool) (s : Nat), s ≤ k ∧ tv = .bool tb ∧ c = .int .i64 (s : Int) ∧ Below w.heap.size w wr ∧ C3 wr w.heap.size (.int .i64 (M : Int)) (.slice a k ca) (.slice b' k cb) ∧ Hid (MatB wr (w.heap.size + 1) (.slice (some ⟨gb, 0, none⟩) k oc) k k V R) ∧ Hid (IV R ∧ Dch k R0 R tb ((∀ a, a < r → ∀ b, b < k → OK R0 a b) ∧ ∀ b, b < s → OK R0 r b))) (fun _ c _ => k - (intOf c).toNat)
              case atStart => exact ⟨tb, R, 0, Nat.zero_le _, rfl, rfl, hL, h0, hM, hI.out.1, hI.out.2.imp fun _ _ h => ⟨h, fun b hb => by omega⟩⟩
              case round =>
                clear hL h0 hM hI hVc
                obtain ⟨tb, R, s, hs, rfl, rfl, hL, h0, hM, hI⟩ := hrel
                by_cases hsl : s < k
                · have hs1 : (s : Int) < (k : Int) := by omega
                  have hs0 : (0 : Int) ≤ (s : Int) := by omega
                  go_wp2_with fail
                  refine (HRI.out _ hL).mono ?_
                  rintro e wq ⟨rfl, hb⟩
                  replace hL := chain (B := w.heap.size) (a := w) hL (Nat.le_refl _) hb
                  replace h0 := keepAt3 hb h0
                  replace hM := Lib.hid (hM.out.keep hb)
                  clear hb
                  go_wp2_with fail
                  go_loopw [9, 13] (fun tv c wr => ∃ (tb : Bool) (R : Nat → Nat → Bool) (i : Nat), i ≤ M ∧ tv = .bool tb ∧ c = .int .i64 (i : Int) ∧ Below w.heap.size w wr ∧ C3 wr w.heap.size (.int .i64 (M : Int)) (.slice a k ca) (.slice b' k cb) ∧ Hid (MatB wr (w.heap.size + 1) (.slice (some ⟨gb, 0, none⟩) k oc) k k V R) ∧ Hid (IV R ∧ Dch k R0 R tb (((∀ a, a < r → ∀ b, b < k → OK R0 a b) ∧ ∀ b, b < s → OK R0 r b) ∧ (R0 r s = true → ∀ c, c < i → plZ xss r c < 0 ∨ plZ xss s c < 0 ∨ R0 (plZ xss r c).toNat (plZ xss s c).toNat = true)))) (fun _ c _ => M - (intOf c).toNat)
                  case atStart => exact ⟨tb, R, 0, Nat.zero_le _, rfl, rfl, hL, h0, hM, hI.out.1, hI.out.2.imp fun _ _ h => ⟨h, fun _ c hc => by omega⟩⟩
                  case round =>
                    clear hL h0 hM hI
                    obtain ⟨tb, R, i, hi, rfl, rfl, hL, h0, hM, hI⟩ := hrel
                    obtain ⟨vb2, vc2, hV2, hrs, hfz, hvz, hvB⟩ := (hM.out.2 r hrl).1.cell hsl
                    rw [HVr.out] at hV2
                    simp only [Value.slice.injEq, Option.some.injEq, Addr.mk.injEq, and_true, true_and] at hV2
                    obtain ⟨rfl, rfl⟩ := hV2
                    by_cases hil : i < M
                    · have hi1 : (i : Int) < (M : Int) := by omega
                      have hi0 : (0 : Int) ≤ (i : Int) := by omega
                      cases hR : R r s
                      · -- told no more
                        have HSN : Hid (IV R ∧ Dch k R0 R tb ((∀ a, a < r → ∀ b, b < k → OK R0 a b) ∧ ∀ b, b < s + 1 → OK R0 r b)) := ⟨hI.out.1, hI.out.2.imp fun _ e h => ⟨h.1.1, fun b hb => by
                          rcases Nat.lt_or_ge b s with h2 | h2
                          · exact h.1.2 b h2
                          · have e2 : b = s := by omega
                            subst e2
                            refine (HOKD.out R0 r b).2 fun h3 => ?_
                            rw [← e, hR] at h3; cases h3⟩⟩
                        rw [hR] at hrs
                        clear hR hI
                        go_wp2_with fail
                        go_roundw
                        case rel => exact ⟨tb, R, s + 1, by omega, rfl, by go_num, hL, h0, hM, HSN⟩
                        case measure => simp [intOf]; omega
                      · obtain ⟨ab, ao, ub, uo, ul, uc, rfl, hx, hul, hy⟩ := HP.out r i hrl hil
                        obtain ⟨ab2, ao2, wb, wo, wl, wc, e3, hx2, hvl, hy2⟩ := HP.out s i hsl hil
                        simp only [Option.some.injEq, Addr.mk.injEq, and_true] at e3
                        obtain ⟨rfl, rfl⟩ := e3
                        have d1 := cell_later hL hx
                        have d2 := cell_later hL hy
                        have d3 := cell_later hL hx2
                        have d4 := cell_later hL hy2
                        have b1 := HNX.out r i hrl hil
                        have b2 := HNX.out s i hsl hil
                        have HRT := Lib.hid hR
                        rw [hR] at hrs
                        have HGO : Hid ((plZ xss r i < 0 ∨ plZ xss s i < 0 ∨ R (plZ xss r i).toNat (plZ xss s i).toNat = true) → IV R ∧ Dch k R0 R tb (((∀ a, a < r → ∀ b, b < k → OK R0 a b) ∧ ∀ b, b < s → OK R0 r b) ∧ (R0 r s = true → ∀ c, c < i + 1 → plZ xss r c < 0 ∨ plZ xss s c < 0 ∨ R0 (plZ xss r c).toNat (plZ xss s c).toNat = true))) := fun h9 => ⟨hI.out.1, hI.out.2.imp fun _ e h => ⟨h.1, fun h3 c hc => by
                          rcases Nat.lt_or_ge c i with h2 | h2
                          · exact h.2 h3 c h2
                          · have e2 : c = i := by omega
                            subst e2
                            rw [← e]; exact h9⟩⟩
                        clear hx hx2 hy hy2 hR
                        by_cases hxn : plZ xss r i < 0
                        · have HSN := Lib.hid (HGO.out (.inl hxn))
                          clear HGO hI b1 b2
                          generalize plZ xss r i = x at *
                          generalize plZ xss s i = y at *
                          go_wp2_with fail
                          go_quiet (fail)
                          go_wp2_with fail
                          go_roundw
                          case rel => exact ⟨tb, R, i + 1, by omega, rfl, by go_num, Bdrew hL _, C3.drewUN h0 _, hM.out.drewN _, HSN⟩
                          case measure => simp [intOf]; omega
                        · by_cases hyn : plZ xss s i < 0
                          · have HSN := Lib.hid (HGO.out (.inr (.inl hyn)))
                            clear HGO hI b1 b2
                            generalize plZ xss r i = x at *
                            generalize plZ xss s i = y at *
                            go_wp2_with fail
                            go_quiet (fail)
                            go_wp2_with fail
                            go_roundw
                            case rel => exact ⟨tb, R, i + 1, by omega, rfl, by go_num, Bdrew hL _, C3.drewUN h0 _, hM.out.drewN _, HSN⟩
                            case measure => simp [intOf]; omega
                          · obtain ⟨X, hX⟩ : ∃ X : Nat, plZ xss r i = (X : Int) := ⟨(plZ xss r i).toNat, by omega⟩
                            obtain ⟨Y, hY⟩ : ∃ Y : Nat, plZ xss s i = (Y : Int) := ⟨(plZ xss s i).toNat, by omega⟩
                            have hXk : X < k := by omega
                            have hYk : Y < k := by omega
                            have HPU := Lib.hid (HPUT.out R r s i X Y hI.out.1 hil hX hY hXk hYk)
                            have HDP : Hid (R X Y = false → Dch k R0 (updB R r s) true (((∀ a, a < r → ∀ b, b < k → OK R0 a b) ∧ ∀ b, b < s → OK R0 r b) ∧ (R0 r s = true → ∀ c, c < i + 1 → plZ xss r c < 0 ∨ plZ xss s c < 0 ∨ R0 (plZ xss r c).toNat (plZ xss s c).toNat = true))) := fun _ => hI.out.2.put hrl hsl HRT.out
                            have HGO' : Hid (R X Y = true → IV R ∧ Dch k R0 R tb (((∀ a, a < r → ∀ b, b < k → OK R0 a b) ∧ ∀ b, b < s → OK R0 r b) ∧ (R0 r s = true → ∀ c, c < i + 1 → plZ xss r c < 0 ∨ plZ xss s c < 0 ∨ R0 (plZ xss r c).toNat (plZ xss s c).toNat = true))) := fun h => HGO.out (.inr (.inr (by rw [hX, hY]; exact h)))
                            rw [hX] at d2
                            rw [hY] at d4
                            clear HGO hI b1 b2 hX hY hxn hyn
                            obtain ⟨gb3, gc3, eO3, hc3, _, _⟩ := hM.out.cell hXk
                            obtain ⟨xb, xc, hVX, hxy, _, _, _⟩ := (hM.out.2 X hXk).1.cell hYk
                            simp only [Value.slice.injEq, Option.some.injEq, Addr.mk.injEq, and_true, true_and] at eO3
                            obtain ⟨rfl, rfl⟩ := eO3
                            rw [hVX] at hc3
                            clear hVX
                            have hX0 : (0 : Int) ≤ (X : Int) := by omega
                            have hX1 : (X : Int) < (k : Int) := by omega
                            have hY0 : (0 : Int) ≤ (Y : Int) := by omega
                            have hY1 : (Y : Int) < (k : Int) := by omega
                            cases hRXY : R X Y
                            · have hi1' := Lib.hid (HPU.out hRXY)
                              have hi2' := Lib.hid (HDP.out hRXY)
                              rw [hRXY] at hxy
                              clear HPU HDP HGO' hRXY
                              go_wp2_with fail
                              go_quiet (fail)
                              go_wp2_with fail
                              go_roundw
                              case rel => exact ⟨true, updB R r s, i + 1, by omega, rfl, by go_num, (Bdrew hL _).setCell (by dsimp only; omega) _, (C3.drewUN h0 _).set _ _ _ (by omega), (hM.out.drewN _).put hrl hsl HVr.out, hi1'.out, hi2'.out⟩
                              case measure => simp [intOf]; omega
                            · have HSN := Lib.hid (HGO'.out hRXY)
                              rw [hRXY] at hxy
                              clear HPU HDP HGO' hRXY
                              go_wp2_with fail
                              go_quiet (fail)
                              go_wp2_with fail
                              go_roundw
                              case rel => exact ⟨tb, R, i + 1, by omega, rfl, by go_num, Bdrew hL _, C3.drewUN h0 _, hM.out.drewN _, HSN⟩
                              case measure => simp [intOf]; omega
                    · have e : i = M := by omega
                      have hin : ¬ (i : Int) < (M : Int) := by omega
                      have HSN : Hid (IV R ∧ Dch k R0 R tb ((∀ a, a < r → ∀ b, b < k → OK R0 a b) ∧ ∀ b, b < s + 1 → OK R0 r b)) := ⟨hI.out.1, hI.out.2.imp fun _ _ h => ⟨h.1.1, fun b hb => by
                        rcases Nat.lt_or_ge b s with h2 | h2
                        · exact h.1.2 b h2
                        · have e2 : b = s := by omega
                          subst e2
                          exact (HOKD.out R0 r b).2 fun h3 c hc => h.2 h3 c (by omega)⟩⟩
                      clear e hI
                      go_wp2_with fail
                      go_roundw
                      case rel => exact ⟨tb, R, s + 1, by omega, rfl, by go_num, hL, h0, hM, HSN⟩
                      case measure => simp [intOf]; omega
                · have e : s = k := by omega
                  have hsn : ¬ (s : Int) < (k : Int) := by omega
                  have HSN : Hid (IV R ∧ Dch k R0 R tb (∀ a, a < r + 1 → ∀ b, b < k → OK R0 a b)) := ⟨hI.out.1, hI.out.2.imp fun _ _ h => fun a' ha' b hb => by
                    rcases Nat.lt_or_ge a' r with h2 | h2
                    · exact h.1 a' h2 b hb
                    · have e2 : a' = r := by omega
                      subst e2
                      exact h.2 b (by omega)⟩
                  clear e hI
                  go_wp2_with fail
                  refine (HRI.out _ hL).mono ?_
                  rintro e wq ⟨rfl, hb⟩
                  replace hL := chain (B := w.heap.size) (a := w) hL (Nat.le_refl _) hb
                  replace h0 := keepAt3 hb h0
                  replace hM := Lib.hid (hM.out.keep hb)
                  clear hb
                  go_wp2_with fail
                  go_roundw
                  case rel => exact ⟨tb, R, r + 1, by omega, rfl, by go_num, hL, h0, hM, HSN⟩
                  case measure => simp [intOf]; omega
            · have e : r = k := by omega
              have hrn : ¬ (r : Int) < (k : Int) := by omega
              rw [e] at hI
              clear e
              go_wp2_with fail
              refine (HRI.out _ hL).mono ?_
              rintro e wq ⟨rfl, hb⟩
              replace hL := chain (B := w.heap.size) (a := w) hL (Nat.le_refl _) hb
              replace h0 := keepAt3 hb h0
              replace hM := Lib.hid (hM.out.keep hb)
              clear hb
              go_wp2_with fail
              go_roundw
              case rel => exact ⟨tb, R, rfl, hL, h0, hM, hI.out.1, fun h => by
                rcases hI.out.2 with ⟨_, h1, h2⟩ | ⟨h1, _⟩
                · rw [h1]; exact h2
                · rw [h] at h1; cases h1⟩
              case measure => exact HME.out tb _ R hM.out hI.out.2

end Go.Proofs.Ytnlcnbkookmfaaa
