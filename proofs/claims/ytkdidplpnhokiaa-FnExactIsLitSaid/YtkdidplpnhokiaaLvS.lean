/- What links lead to: the model's. -/
import Derived.Test.YtkdidplpnhokiaaLnS
namespace Go.Proofs.Ytkdidplpnhokiaa
open Go.RowKit
set_option linter.unusedVariables false

theorem infoBoolW : (Try.prog.info? 4).map (fun i => (i.zero, i.size, i.bytes)) = some (some (.bool false), 1, 1) := by kernel_rfl
/-- what links join -/
def linkE (L : List (List Int)) (a b : Nat) : Prop := ∃ i, i < L.length ∧ ((L.getD i []).getD 0 0).toNat = a ∧ ((L.getD i []).getD 1 0).toNat = b

/-- the slice in block g tells f -/
def FlagsF (w : World) (B g T : Nat) (f : Nat → Bool) : Prop := w.ownsRow B 4 1 (.slice (some ⟨g, 0, none⟩) T T) T ((List.range T).map fun t => Value.bool (f t))
theorem FlagsF.cell {w : World} {B g T : Nat} {f : Nat → Bool} (h : FlagsF w B g T f) {t : Nat} (ht : t < T) : w.cell? ⟨g, t, none⟩ = some (.bool (f t)) ∧ w.frozen? ⟨g, t, none⟩ = false := by
  have h' : w.ownsRow B 4 1 (.slice (some ⟨g, 0, none⟩) T T) T ((List.range T).map fun t => Value.bool (f t)) := h
  refine ⟨?_, h'.frozenAt t⟩
  rw [h'.cellAt t (by omega)]
  simp [ht]
theorem FlagsF.keep {w w' : World} {B g T : Nat} {f : Nat → Bool} (h : FlagsF w B g T f) (hb : Below w.heap.size w w') : FlagsF w' B g T f := rowLater h hb
theorem FlagsF.set {w : World} {B g T : Nat} {f : Nat → Bool} (h : FlagsF w B g T f) (t : Nat) : FlagsF (w.setCell ⟨g, t, none⟩ (.bool true)) B g T (fun x => if x = t then true else f x) := by
  have h1 := (World.ownsRow.stored (w := w) h t (.bool true)).1
  have e : ((List.range T).map fun t => Value.bool (f t)).set t (.bool true) = (List.range T).map fun x => Value.bool (if x = t then true else f x) := by
    apply List.ext_getElem
    · simp
    · intro i h1 h2
      simp only [List.getElem_set, List.getElem_map, List.getElem_range]
      by_cases e : t = i
      · subst e; simp
      · rw [if_neg e, if_neg (Ne.symm e)]
  rw [e] at h1
  exact h1
theorem FlagsF.congr {w : World} {B g T : Nat} {f f' : Nat → Bool} (h : FlagsF w B g T f) (he : ∀ t, t < T → f t = f' t) : FlagsF w B g T f' := by
  unfold FlagsF at *
  have e : ((List.range T).map fun t => Value.bool (f t)) = (List.range T).map fun t => Value.bool (f' t) := by
    apply List.map_congr_left
    intro t ht
    rw [he t (List.mem_range.1 ht)]
  rw [← e]; exact h
theorem made_falseW (m : Nat) : (madeCells (Value.bool false).cells (m * 1)).toList = (List.range m).map fun _ => Value.bool false := by
  simp only [madeCells, Value.cells, Nat.mul_one]
  apply List.ext_getElem
  · simp
  · intro i h1 h2
    simp [Nat.mod_one]

theorem Reads.two {w : World} {v : Value} {c : List Int} (h : Reads w v c) (h2 : c.length = 2) :
    ∃ cb co cc, v = .slice (some ⟨cb, co, none⟩) 2 cc ∧ ∀ j, j < 2 → w.cell? ⟨cb, co + j, none⟩ = some (.int .i64 (c.getD j 0)) := by
  obtain ⟨a, cap, rfl, _, h⟩ := h
  rcases h with rfl | ⟨cb, co, rfl, h⟩
  · cases h2
  · exact ⟨cb, co, cap, by rw [h2], fun j hj => h j (by omega)⟩

/-- how many are not told -/
def cntNo (f : Nat → Bool) : Nat → Nat
  | 0 => 0
  | T + 1 => cntNo f T + (if f T = true then 0 else 1)
theorem cntNo_mono {f f' : Nat → Bool} (h : ∀ t, f t = true → f' t = true) (T : Nat) : cntNo f' T ≤ cntNo f T := by
  induction T with
  | zero => exact Nat.le_refl _
  | succ T ih =>
    simp only [cntNo]
    by_cases e : f T = true
    · rw [if_pos e, if_pos (h T e)]; omega
    · rw [if_neg e]; split <;> omega
theorem cntNo_lt {f f' : Nat → Bool} (h : ∀ t, f t = true → f' t = true) {T t : Nat} (ht : t < T) (h1 : f t = false) (h2 : f' t = true) : cntNo f' T < cntNo f T := by
  induction T with
  | zero => omega
  | succ T ih =>
    simp only [cntNo]
    have hm := cntNo_mono h T
    by_cases e : t = T
    · subst e
      rw [if_pos h2, if_neg (by rw [h1]; simp)]; omega
    · have := ih (by omega)
      by_cases e : f T = true
      · rw [if_pos e, if_pos (h T e)]; omega
      · rw [if_neg e]; split <;> omega
theorem cntNo_congr {f f' : Nat → Bool} {T : Nat} (h : ∀ t, t < T → f t = f' t) : cntNo f T = cntNo f' T := by
  induction T with
  | zero => rfl
  | succ T ih => simp only [cntNo]; rw [ih fun t ht => h t (by omega), h T (by omega)]
def bitW (w : World) (g t : Nat) : Bool := match w.cell? ⟨g, t, none⟩ with | some (.bool b) => b | _ => false
def cntWd (w : World) (g T : Nat) : Nat := cntNo (bitW w g) T
theorem cntWd_eq {w : World} {B g T : Nat} {f : Nat → Bool} (h : FlagsF w B g T f) : cntWd w g T = cntNo f T :=
  cntNo_congr fun t ht => by unfold bitW; rw [(h.cell ht).1]
def boolM : Value → Nat
  | .bool true => 1
  | _ => 0

set_option maxRecDepth 100000 in
set_option maxHeartbeats 4000000 in
theorem l10Live_any (T s : Nat) (v : Value) (L : List (List Int)) (w : World) (ha : Reads2 w v L) (h2 : ∀ i, i < L.length → (L.getD i []).length = 2 ∧ (0 ≤ (L.getD i []).getD 0 0 ∧ (L.getD i []).getD 0 0 < (T : Int)) ∧ (0 ≤ (L.getD i []).getD 1 0 ∧ (L.getD i []).getD 1 0 < (T : Int))) (hT : T ≤ 22) (hs : s < T) :
    Calls Try.prog 78 #[.int .i64 (T : Int), v, .int .i64 (s : Int)] w fun e w' => ∃ g, e = .returned (.slice (some ⟨g, 0, none⟩) T T) ∧ FlagsF w' w.heap.size g T (fun t => bP (Live (linkE L) s t)) ∧ Below w.heap.size w w' := by
  obtain ⟨i0, hi, hz0, hz1, hz2⟩ := info_parts infoBoolW
  have HA := Lib.hid ha
  obtain ⟨a, ca, rfl, hm, _⟩ := ha
  unfold maxLen at hm
  have Ha : Hid (∀ k, k < L.length → ∃ b off u, a = some ⟨b, off, none⟩ ∧ w.cell? ⟨b, off + k, none⟩ = some u ∧ Reads w u (L.getD k [])) := fun k hk => HA.out.cellW hk
  have H2 := Lib.hid h2
  have HE : Hid (∀ i, i < L.length → linkE L ((L.getD i []).getD 0 0).toNat ((L.getD i []).getD 1 0).toNat) := fun i h => ⟨i, h, rfl, rfl⟩
  have HFIN : Hid (∀ f : Nat → Bool, (f s = true ∧ ∀ t, f t = true → Live (linkE L) s t) → (∀ i, i < L.length → f ((L.getD i []).getD 0 0).toNat = f ((L.getD i []).getD 1 0).toNat) → ∀ t, f t = bP (Live (linkE L) s t)) := by
    intro f h1 h2 t
    cases e : f t
    · refine (bP_no fun hl => ?_).symm
      have := hl (fun t => f t = true) h1.1 (fun a b ⟨i, hi, ea, eb⟩ => by rw [← ea, ← eb, h2 i hi])
      rw [e] at this; cases this
    · exact (bP_yes (h1.2 t e)).symm
  clear HA h2
  generalize hnn : L.length = n at *
  clear hnn
  go_enter Try.func78, Try.ntmps78
  go_wp2_with (at_make; refine wpList_make_full _ rfl _ _ 84 rfl w.heap.size 4 i0 (.bool false) 1 Try.underlying84 hi hz0 hz1 .i64 .i64 (T : Int) (T : Int) T rfl rfl rfl rfl (by rw [hz2]; omega) (by unfold maxLen; omega) (Nat.le_refl _) ?_; intro w1 oo hg; have hL : Below w.heap.size w w1 := Below.grown (Below.refl _ w) hg (Nat.le_refl _) (by simp); rw [made_falseW] at oo; have HF : Hid (FlagsF w1 w.heap.size w.heap.size T (fun _ => false)) := oo; have hc0 := (HF.out.cell hs).1; have hf0 := (HF.out.cell hs).2; have hsT : (s : Int) < (T : Int) := (by omega); have hs0 : (0 : Int) ≤ (s : Int) := (by omega))
  have HF1 := Lib.hid (HF.out.set s)
  have hL1 := hL.setCell (p := ⟨w.heap.size, s, none⟩) (Nat.le_refl _) (.bool true)
  clear oo hg HF hc0 hf0 hL
  go_loopw [8] (fun c wr => ∃ (mb : Bool) (f : Nat → Bool), c = .bool mb ∧ Below w.heap.size w wr ∧ Hid (FlagsF wr w.heap.size w.heap.size T f) ∧ Hid (f s = true ∧ ∀ t, f t = true → Live (linkE L) s t) ∧ Hid (mb = false → ∀ i, i < n → f ((L.getD i []).getD 0 0).toNat = f ((L.getD i []).getD 1 0).toNat)) (fun c wr => 2 * cntWd wr w.heap.size T + boolM c)
  case atStart => exact ⟨true, _, rfl, hL1, HF1, ⟨by simp, fun t ht => by by_cases e : t = s <;> simp [e] at ht; subst e; exact Live.self _ _⟩, fun h => by cases h⟩
  case round =>
    clear hL1 HF1
    obtain ⟨mb, f, rfl, hL, HF, HI, HC⟩ := hrel
    cases mb
    · have HR : Hid (FlagsF wr w.heap.size w.heap.size T (fun t => bP (Live (linkE L) s t))) := HF.out.congr fun t _ => HFIN.out f HI.out (HC.out rfl) t
      clear HF HI HC HFIN
      go_wp2_with fail
      go_ret
      exact ⟨_, rfl, HR.out, hL⟩
    · have HCN := Lib.hid (cntWd_eq HF.out)
      obtain ⟨wo, hwo⟩ : ∃ wo : World, wo = wr := ⟨_, rfl⟩
      have HLo : Hid (Below w.heap.size w wo) := by rw [hwo]; exact hL
      have HFo : Hid (FlagsF wo w.heap.size w.heap.size T f) := by rw [hwo]; exact HF
      subst hwo
      clear hL HF HC
      go_wp2_with fail
      go_loopw [8, 9] (fun cm c wr => ∃ (k : Nat) (mb : Bool) (f2 : Nat → Bool), k ≤ n ∧ c = .int .i64 (k : Int) ∧ cm = .bool mb ∧ Below w.heap.size w wr ∧ Hid (FlagsF wr w.heap.size w.heap.size T f2) ∧ Hid (f2 s = true ∧ ∀ t, f2 t = true → Live (linkE L) s t) ∧ Hid (mb = false → f2 = f ∧ ∀ i, i < k → f ((L.getD i []).getD 0 0).toNat = f ((L.getD i []).getD 1 0).toNat) ∧ Hid (mb = true → cntNo f2 T < cntNo f T)) (fun _ c _ => n - (intOf c).toNat)
      case atStart => exact ⟨0, false, f, Nat.zero_le _, rfl, rfl, HLo.out, HFo, HI, fun _ => ⟨rfl, fun i hi => by omega⟩, fun h => by cases h⟩
      case round =>
        obtain ⟨k, mb, f2, hk, rfl, rfl, hL, HF, HI2, HN, HY⟩ := hrel
        by_cases hlt : k < n
        · obtain ⟨b, off, u, rfl, hca0, hru⟩ := Ha.out k hlt
          have hca := cell_later hL hca0
          obtain ⟨hl2, ⟨x0, x1⟩, ⟨y0, y1⟩⟩ := H2.out k hlt
          obtain ⟨ub, uo, uc, rfl, hcu⟩ := (hru.keep hL).two hl2
          have c0 := hcu 0 (by omega)
          have c1 := hcu 1 (by omega)
          rw [Nat.add_zero] at c0
          have HEk := Lib.hid (HE.out k hlt)
          have hi1 : (k : Int) < (n : Int) := by omega
          have hi0 : (0 : Int) ≤ (k : Int) := by omega
          have HSK : Hid (∀ P : Nat → Prop, (∀ i, i < k → P i) → P k → ∀ i, i < k + 1 → P i) := fun P h1 h2 i hi => by
            by_cases e : i = k
            · subst e; exact h2
            · exact h1 i (by omega)
          have HQ : Hid (f ((L.getD k []).getD 0 0).toNat = f ((L.getD k []).getD 1 0).toNat → mb = false → ∀ i, i < k + 1 → f ((L.getD i []).getD 0 0).toNat = f ((L.getD i []).getD 1 0).toNat) := fun h hm => HSK.out (fun i => f ((L.getD i []).getD 0 0).toNat = f ((L.getD i []).getD 1 0).toNat) (HN.out hm).2 h
          clear hcu hl2 hca0 hru HSK
          generalize (L.getD k []).getD 0 0 = x at *
          generalize (L.getD k []).getD 1 0 = y at *
          obtain ⟨X, rfl⟩ := Int.eq_ofNat_of_zero_le x0
          obtain ⟨Y, rfl⟩ := Int.eq_ofNat_of_zero_le y0
          simp only [Int.toNat_natCast] at HEk HQ
          obtain ⟨fx0, fx1⟩ := HF.out.cell (t := X) (by omega)
          obtain ⟨fy0, fy1⟩ := HF.out.cell (t := Y) (by omega)
          have hXT : (X : Int) < (T : Int) := x1
          have hYT : (Y : Int) < (T : Int) := y1
          have hX0 : (0 : Int) ≤ (X : Int) := by omega
          have hY0 : (0 : Int) ≤ (Y : Int) := by omega
          have HXY : Hid (X < T ∧ Y < T) := ⟨by omega, by omega⟩
          have hzz := hL.size
          by_cases hpq : f2 X = f2 Y
          · have hne : (f2 X != f2 Y) = false := by rw [hpq]; simp
            have HN' : Hid (mb = false → f2 = f ∧ ∀ i, i < k + 1 → f ((L.getD i []).getD 0 0).toNat = f ((L.getD i []).getD 1 0).toNat) := fun hm => ⟨(HN.out hm).1, HQ.out (by rw [← (HN.out hm).1]; exact hpq) hm⟩
            clear hpq HN HQ
            generalize f2 X = p at *
            generalize f2 Y = q at *
            have hcs : (p = true ∧ q = true) ∨ (p = false ∧ q = false) := by cases p <;> cases q <;> simp at hne ⊢
            clear hne
            rcases hcs with ⟨rfl, rfl⟩ | ⟨rfl, rfl⟩ <;>
            · go_wp2_with fail
              go_quiet (fail)
              go_wp2_with fail
              go_quiet (fail)
              go_wp2_with fail
              go_roundw
              case rel => exact ⟨k + 1, mb, f2, by omega, by go_num, rfl, Bdrew hL _, HF.out.keep (Bdrew (Below.refl _ _) _), HI2, HN', HY⟩
              case measure => simp [intOf]; omega
          · have hne : (f2 X != f2 Y) = true := by simpa using hpq
            obtain ⟨f3, hf3⟩ : ∃ f3 : Nat → Bool, (fun t => if t = Y then true else (fun t => if t = X then true else f2 t) t) = f3 := ⟨_, rfl⟩
            have HS : Hid (∀ wx, FlagsF wx w.heap.size w.heap.size T f2 → FlagsF ((wx.setCell ⟨w.heap.size, X, none⟩ (.bool true)).setCell ⟨w.heap.size, Y, none⟩ (.bool true)) w.heap.size w.heap.size T f3) := fun wx h => by rw [← hf3]; exact (h.set X).set Y
            have h3a : ∀ t, f2 t = true → f3 t = true := fun t h => by rw [← hf3]; by_cases e : t = Y <;> by_cases e2 : t = X <;> simp [e, e2, h]
            have h3x : f3 X = true := by rw [← hf3]; simp
            have h3y : f3 Y = true := by rw [← hf3]; simp
            have h3l : ∀ t, f3 t = true → Live (linkE L) s t := fun t h => by
              have hst := Live.step (s := s) HEk.out
              have hxy : Live (linkE L) s X ∧ Live (linkE L) s Y := by
                cases e1 : f2 X
                · cases e2 : f2 Y
                  · rw [e1, e2] at hpq; exact absurd rfl hpq
                  · have := HI2.out.2 Y e2; exact ⟨hst.2 this, this⟩
                · have := HI2.out.2 X e1; exact ⟨this, hst.1 this⟩
              rw [← hf3] at h
              by_cases e1 : t = Y
              · subst e1; exact hxy.2
              · by_cases e2 : t = X
                · subst e2; exact hxy.1
                · simp only [if_neg e1, if_neg e2] at h; exact HI2.out.2 t h
            have HI3 : Hid (f3 s = true ∧ ∀ t, f3 t = true → Live (linkE L) s t) := ⟨h3a s HI2.out.1, h3l⟩
            have HLT : Hid (cntNo f3 T < cntNo f T) := by
              have h1 : cntNo f3 T < cntNo f2 T := by
                cases e1 : f2 X
                · exact cntNo_lt h3a HXY.out.1 e1 h3x
                · cases e2 : f2 Y
                  · exact cntNo_lt h3a HXY.out.2 e2 h3y
                  · rw [e1, e2] at hpq; exact absurd rfl hpq
              have h2 : cntNo f2 T ≤ cntNo f T := by
                cases mb
                · rw [(HN.out rfl).1]; exact Nat.le_refl _
                · exact Nat.le_of_lt (HY.out rfl)
              exact Nat.lt_of_lt_of_le h1 h2
            have hXne : X ≠ Y := fun e => hpq (by rw [e])
            have hYne : Y ≠ X := Ne.symm hXne
            clear hf3 h3a h3x h3y h3l hpq HN HQ
            generalize f2 X = p at *
            generalize f2 Y = q at *
            have hcs : (p = true ∧ q = false) ∨ (p = false ∧ q = true) := by cases p <;> cases q <;> simp at hne ⊢
            clear hne
            rcases hcs with ⟨rfl, rfl⟩ | ⟨rfl, rfl⟩ <;>
            · go_wp2_with fail
              go_quiet (fail)
              go_wp2_with fail
              go_quiet (fail)
              go_wp2_with fail
              go_roundw
              case rel => exact ⟨k + 1, true, f3, by omega, by go_num, rfl, ((Bdrew hL _).setCell (p := ⟨w.heap.size, X, none⟩) (Nat.le_refl _) _).setCell (p := ⟨w.heap.size, Y, none⟩) (Nat.le_refl _) _, HS.out (wr.drewN _) (HF.out.keep (Bdrew (Below.refl _ _) _)), HI3, (fun h => by cases h), fun _ => HLT.out⟩
              case measure => simp [intOf]; omega
        · have e : k = n := by omega
          subst e
          have HCN2 := Lib.hid (cntWd_eq HF.out)
          have HME : Hid (2 * cntWd wr w.heap.size T + boolM (.bool mb) < 2 * cntWd wo w.heap.size T + boolM (.bool true)) := by
            rw [Hid, HCN.out, HCN2.out]
            cases mb
            · rw [(HN.out rfl).1]; simp [boolM]
            · have := HY.out rfl
              show 2 * cntNo f2 T + 1 < 2 * cntNo f T + 1
              omega
          have HC2 : Hid (mb = false → ∀ i, i < k → f2 ((L.getD i []).getD 0 0).toNat = f2 ((L.getD i []).getD 1 0).toNat) := fun h => by rw [(HN.out h).1]; exact (HN.out h).2
          clear HN HY
          go_wp2_with fail
          go_roundw
          case rel => exact ⟨mb, f2, rfl, hL, HF, HI2, HC2⟩
          case measure => exact HME.out

end Go.Proofs.Ytkdidplpnhokiaa
