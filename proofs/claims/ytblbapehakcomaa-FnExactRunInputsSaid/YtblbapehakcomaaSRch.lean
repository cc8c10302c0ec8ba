/- l06Reached: the model's search. -/
import Derived.Test.YtblbapehakcomaaCirT
import Derived.Test.YtblbapehakcomaaRch
namespace Go.Proofs.Ytblbapehakcomaa
open Go.RowKit
set_option linter.unusedVariables false

theorem infoBool : (Try.prog.info? 4).map (fun i => (i.zero, i.size, i.bytes)) = some (some (.bool false), 1, 1) := by kernel_rfl

/-- which of the first M are in E -/
def flagsL (M : Nat) (E : List Nat) : List Value := (List.range M).map fun s => .bool (decide (s ∈ E))
theorem flagsL_len (M : Nat) (E : List Nat) : (flagsL M E).length = M := by simp [flagsL]
theorem flagsL_at {M : Nat} {E : List Nat} {s : Nat} (h : s < M) : (flagsL M E)[s]? = some (.bool (decide (s ∈ E))) := by simp [flagsL, h]
theorem flagsL_congr {M : Nat} {E E' : List Nat} (h : ∀ s, s < M → (s ∈ E ↔ s ∈ E')) : flagsL M E = flagsL M E' := by
  unfold flagsL
  apply List.map_congr_left
  intro s hs
  rw [decide_eq_decide.2 (h s (List.mem_range.1 hs))]
theorem flagsL_set {M : Nat} {E : List Nat} {y : Nat} : (flagsL M E).set y (.bool true) = flagsL M (E ++ [y]) := by
  apply List.ext_getElem
  · simp [flagsL]
  · intro i h1 h2
    rw [List.getElem_set]
    simp only [flagsL, List.getElem_map, List.getElem_range, List.mem_append, List.mem_singleton]
    by_cases e : y = i
    · rw [if_pos e]; simp [e]
    · rw [if_neg e]; simp [Ne.symm e]
theorem flagsL_unset {M : Nat} {E : List Nat} {y : Nat} : (flagsL M E).set y (.bool false) = flagsL M (E.filter (fun s => s != y)) := by
  apply List.ext_getElem
  · simp [flagsL]
  · intro i h1 h2
    rw [List.getElem_set]
    simp only [flagsL, List.getElem_map, List.getElem_range, List.mem_filter]
    by_cases e : y = i
    · rw [if_pos e]; simp [e]
    · rw [if_neg e]; simp [Ne.symm e]
theorem made_false (m : Nat) : (madeCells (Value.bool false).cells (m * 1)).toList = flagsL m [] := by
  unfold flagsL
  simp only [madeCells, Value.cells, Nat.mul_one]
  apply List.ext_getElem
  · simp
  · intro i h1 h2
    simp [Nat.mod_one]
/-- the slice in block g tells which of the first M are in E -/
def Flags (w : World) (base g M : Nat) (E : List Nat) : Prop := w.ownsRow base 4 1 (.slice (some ⟨g, 0, none⟩) M M) M (flagsL M E)
theorem Flags.keep {w w' : World} {base g M : Nat} {E : List Nat} (h : Flags w base g M E) (hb : Below w.heap.size w w') : Flags w' base g M E :=
  rowSame h fun k hk e => hb.block k (World.ownsRow.lt h k e).2
theorem flagsAt {w w' : World} {base g M : Nat} {E : List Nat} (hb : Below w.heap.size w w') (h : Flags w base g M E) : Flags w' base g M E := h.keep hb
theorem Flags.alloc {w : World} {base g M : Nat} {E : List Nat} (h : Flags w base g M E) (o : Obj) : Flags (w.alloc o) base g M E := h.keep ((Below.refl _ _).alloc (Nat.le_refl _) o)
theorem Flags.drewU {w : World} {base g M : Nat} {E : List Nat} (h : Flags w base g M E) : Flags w.drew base g M E := h
theorem Flags.drewUN {w : World} {base g M : Nat} {E : List Nat} (h : Flags w base g M E) (n : Nat) : Flags (w.drewN n) base g M E := h
theorem Flags.grown {w w' : World} {base g M : Nat} {E : List Nat} {row : Option Nat} (h : Flags w base g M E) (hg : w.grownBy w' row) (hne : row ≠ some g) : Flags w' base g M E :=
  rowSame h fun k _ e => hg.block k (World.ownsRow.lt h k e).2 (by have e2 : g = k := by simpa [Value.ownBlock] using e
                                                                   rw [← e2]; exact Ne.symm hne)
theorem Flags.lt {w : World} {base g M : Nat} {E : List Nat} (h : Flags w base g M E) : base ≤ g ∧ g < w.heap.size := World.ownsRow.lt h g rfl
theorem Flags.cell {w : World} {base g M : Nat} {E : List Nat} (h : Flags w base g M E) {s : Nat} (hs : s < M) : w.cell? ⟨g, s, none⟩ = some (.bool (decide (s ∈ E))) ∧ w.frozen? ⟨g, s, none⟩ = false := by
  refine ⟨?_, World.ownsRow.frozenAt h s⟩
  have := World.ownsRow.cellAt h s (by omega)
  rw [this]; exact flagsL_at hs
theorem Flags.put {w : World} {base g M : Nat} {E : List Nat} (h : Flags w base g M E) (s : Nat) : Flags (w.setCell ⟨g, s, none⟩ (.bool true)) base g M (E ++ [s]) ∧ w.grownBy (w.setCell ⟨g, s, none⟩ (.bool true)) (some g) := by
  have := World.ownsRow.stored h s (.bool true)
  rw [flagsL_set] at this
  exact this
theorem Flags.unput {w : World} {base g M : Nat} {E : List Nat} (h : Flags w base g M E) (s : Nat) : Flags (w.setCell ⟨g, s, none⟩ (.bool false)) base g M (E.filter (fun x => x != s)) ∧ w.grownBy (w.setCell ⟨g, s, none⟩ (.bool false)) (some g) := by
  have := World.ownsRow.stored h s (.bool false)
  rw [flagsL_unset] at this
  exact this

/-- numbers as integers -/
def intsN (E : List Nat) : List Int := E.map fun (s : Nat) => (s : Int)
theorem intsN_snoc (E : List Nat) (s : Nat) : intsN (E ++ [s]) = intsN E ++ [(s : Int)] := by simp [intsN]
theorem intsN_len (E : List Nat) : (intsN E).length = E.length := by simp [intsN]
theorem intsN_at {E : List Nat} {k : Nat} : (intsN E).getD k 0 = ((E.getD k 0 : Nat) : Int) := by
  simp only [intsN, List.getD_eq_getElem?_getD, List.getElem?_map]
  cases E[k]? <;> rfl
theorem Owns.grownU {w w' : World} {base : Nat} {v : Value} {xs : List Int} {row : Option Nat} (h : Owns w base v xs) (hg : w.grownBy w' row) (hne : ∀ k, v.ownBlock = some k → row ≠ some k) : Owns w' base v xs :=
  rowSame h fun k _ e => hg.block k (World.ownsRow.lt h k e).2 (Ne.symm (hne k e))

set_option maxRecDepth 100000 in
set_option maxHeartbeats 4000000 in
theorem l06Reached_any (p i : Int) (s : Nat) (v : Value) (xs : List Int) (w : World) (ha : Reads w v xs) (hc : cirB p xs = true) (hi : inB i p = true) (hs : s < 2 ^ xs.length) :
    Calls Try.prog 67 #[.agg #[.int .i64 p, v], .int .i64 i, .int .i64 (s : Int)] w fun e w' => ∃ g, e = .returned (.slice (some ⟨g, 0, none⟩) (2 ^ xs.length) (2 ^ xs.length)) ∧ Flags w' w.heap.size g (2 ^ xs.length) (reach (stepsN p xs i) (2 ^ xs.length) s) ∧ Below w.heap.size w w' := by
  obtain ⟨i0, hi0, hz0, hz1, hz2⟩ := info_parts infoBool
  obtain ⟨j0, hj0_, jz0, jz1, jz2⟩ := info_parts info64
  obtain ⟨⟨p1, p4⟩, ⟨n1, n4⟩, _, _⟩ := cirB_out hc
  have hs16 : s < 16 := Nat.lt_of_lt_of_le hs (Nat.pow_le_pow_right (by decide) n4)
  obtain ⟨M, hM⟩ : ∃ M, 2 ^ xs.length = M := ⟨_, rfl⟩
  have hM16 : M ≤ 16 := by rw [← hM]; exact Nat.pow_le_pow_right (by decide) n4
  have hM2 : 1 ≤ M := by omega
  have HSC : Hid (∀ w', Below w.heap.size w w' → Calls Try.prog 64 #[.agg #[.int .i64 p, v]] w' fun e w'' => e = .returned (.int .i64 (M : Int)) ∧ Below w'.heap.size w' w'') := fun w' h => by
    have := l06States_any p v xs w' (ha.keep h) n1 n4
    unfold rcZ at this; rw [Int.toNat_natCast, hM] at this; exact this
  have HIn : ∀ x : Nat, x < M → inB (x : Int) xs.length = true := fun x hx => by
    unfold inB rcZ; rw [Int.toNat_natCast, hM]; exact decide_eq_true (by omega)
  have HST := Lib.hid (fun (x : Nat) (hx : x < M) w' (h : Below w.heap.size w w') => l06Change_any p i (x : Int) v xs w' (ha.keep h) hc hi (HIn x hx))
  have HSLT : ∀ x, x < M → ∀ y ∈ stepsN p xs i x, y < M := fun x hx y hy => by rw [← hM]; exact stepsN_lt (by rw [hM]; exact hx) y hy
  have HMem : Hid (∀ x, x < M → ∀ k, k < (chL p xs i (x : Int)).length → ∃ r : Nat, r < 4 ∧ (chL p xs i (x : Int)).getD k 0 = (r : Int) ∧ (stepsN p xs i x).getD k 0 = x ^^^ 2 ^ r) := fun x hx k hk => by
    have hmem : (chL p xs i (x : Int)).getD k 0 ∈ chL p xs i (x : Int) := by
      rw [List.getD_eq_getElem?_getD, List.getElem?_eq_getElem hk]; exact List.getElem_mem hk
    obtain ⟨r, hr, e⟩ := ch_mem (by rw [hM]; exact hx) hmem
    refine ⟨r, by omega, e, ?_⟩
    have e2 : (chL p xs i (x : Int))[k] = (r : Int) := by rw [List.getD_eq_getElem?_getD, List.getElem?_eq_getElem hk] at e; exact e
    simp [stepsN, List.getD_eq_getElem?_getD, hk, e2]
  have HCL : Hid (∀ x : Nat, (chL p xs i (x : Int)).length ≤ 62) := fun x => ch_len p i xs (x : Int)
  have HSL : Hid (∀ x : Nat, (stepsN p xs i x).length = (chL p xs i (x : Int)).length) := fun x => by simp [stepsN]
  rw [hM] at hs ⊢
  obtain ⟨st, hst⟩ : ∃ st, stepsN p xs i = st := ⟨_, rfl⟩
  obtain ⟨ch, hch⟩ : ∃ ch : Nat → List Int, (fun x => chL p xs i ((x : Nat) : Int)) = ch := ⟨_, rfl⟩
  have hch' : ∀ x : Nat, chL p xs i (x : Int) = ch x := fun x => by rw [← hch]
  rw [hst] at HSLT HMem HSL ⊢
  simp only [hch'] at HST HMem HSL HCL
  have HLT := Lib.hid (fun k => bfs_lt hs HSLT k)
  have HLEN := Lib.hid (fun k => bfs_len hs HSLT k)
  have HEND : Hid (∀ k, (bfs st s k).length ≤ k → k ≤ M → bfs st s k = reach st M s) := fun k h1 h2 => reach_end hs HSLT h1 h2
  have HQ0 : Hid (intsN (bfs st s 0) = [(s : Int)]) := rfl
  have HF0 : Hid (flagsL M ([] ++ [s]) = flagsL M (bfs st s 0)) := rfl
  obtain ⟨a, ca, rfl, hm, ha'⟩ := ha
  have k0 := C2.here w (.int .i64 p) (.slice a xs.length ca) 27
  clear ha' hc hi hM hst hch hch' HIn
  generalize xs.length = n at *
  have hsI : (s : Int) < (M : Int) := by omega
  have hsI0 : (0 : Int) ≤ (s : Int) := by omega
  go_enter Try.func67, Try.ntmps67
  go_wp2_with fail
  refine (HSC.out _ (by go_grown)).mono ?_
  rintro e w1 ⟨rfl, hb⟩
  have hL := chain (B := w.heap.size) (a := w) (by go_grown) (Nat.le_refl _) hb
  replace k0 := keepAt hb k0
  have hz0' := k0.2.2.2.2
  clear hb
  go_wp2_with (at_make; refine wpList_make_full _ rfl _ _ 73 rfl (w.heap.size + 1) 4 i0 (.bool false) 1 Try.underlying73 hi0 hz0 hz1 .i64 .i64 (M : Int) (M : Int) M rfl rfl rfl rfl (by rw [hz2]; omega) (by unfold maxLen; omega) (by omega) ?_; intro w2 oo hg; have hF : Flags w2 (w.heap.size + 1) w1.heap.size M [] := (by unfold Flags; rw [← made_false]; exact oo); obtain ⟨hcF, hfF⟩ := hF.cell hs; have hbF := hF.lt.2; have HF := Lib.hid hF; clear hF oo)
  clear hcF hfF
  have k02 := k0.grown hg (by simp)
  have hL2 := hL.grown hg hL.size (fun q e => by cases e)
  obtain ⟨gF, hgF⟩ : ∃ g, w1.heap.size = g := ⟨_, rfl⟩
  rw [hgF] at HF hbF ⊢
  have hgz : w.heap.size < gF := by omega
  clear hg k0 hL hz0' hgF
  obtain ⟨hP, hPg⟩ := HF.out.put s
  have HP : Hid (Flags ((w2.setCell ⟨gF, s, none⟩ (.bool true)).alloc (.cells #[.int .i64 (s : Int)] 2)) (w.heap.size + 1) gF M (bfs st s 0)) := Flags.alloc hP _
  have HQ := Lib.hid (ownsOne (w2.setCell ⟨gF, s, none⟩ (.bool true)) (s : Int) (gF + 1) (by rw [World.size_setCell]; omega))
  rw [World.size_setCell] at HQ
  have k03 := (k02.grown hPg (by intro e; injection e with e; omega)).alloc (.cells #[.int .i64 (s : Int)] 2)
  have hL3 := (hL2.grown hPg (by have := hL2.size; omega) (fun q e => by injection e with e; omega)).alloc (by rw [World.size_setCell]; omega) (.cells #[.int .i64 (s : Int)] 2)
  clear hP hPg k02 hL2 HF hbF
  go_loopw [8, 9] (fun u c wr => ∃ k : Nat, k ≤ M ∧ c = .int .i64 (k : Int) ∧ Below w.heap.size w wr ∧ C2 wr w.heap.size (.int .i64 p) (.slice a n ca) ∧ Hid (Flags wr (w.heap.size + 1) gF M (bfs st s k)) ∧ Hid (Owns wr (gF + 1) u (intsN (bfs st s k)))) (fun _ c _ => M - (intOf c).toNat)
  case atStart => exact ⟨0, Nat.zero_le _, rfl, hL3, k03, HP, by rw [HQ0.out]; exact HQ⟩
  case round =>
    clear hL3 k03 HP HQ hsI hsI0
    obtain ⟨k, hk, rfl, hL, k0, hFl, hOO⟩ := hrel
    have hlenM := HLEN.out k
    have hiL := intsN_len (bfs st s k)
    obtain ⟨ua, uc, rfl, hum, hua⟩ := hOO.out.reads
    rw [hiL] at hum ⊢
    by_cases hlt : k < (bfs st s k).length
    · have hkM : k < M := by omega
      obtain ⟨x, hx⟩ : ∃ x, (bfs st s k).getD k 0 = x := ⟨_, rfl⟩
      have hxM : x < M := by
        refine HLT.out k x ?_
        rw [← hx, List.getD_eq_getElem?_getD, List.getElem?_eq_getElem hlt]; exact List.getElem_mem hlt
      rcases hua with h0 | ⟨g, off, rfl, hcs⟩
      · rw [h0] at hiL; simp at hiL; omega
      have hc0 := hcs k (by rw [hiL]; exact hlt)
      rw [intsN_at, hx] at hc0
      have hgz2 : gF + 1 ≤ g ∧ g < wr.heap.size := World.ownsRow.lt hOO.out g rfl
      have HNext : Hid (bfs st s (k + 1) = visit (bfs st s k) (st x)) := by
        show bfs st s (k + 1) = _
        simp only [bfs]; rw [if_pos hlt, hx]
      have HSx := Lib.hid (HST.out x hxM)
      have HVL : Hid (∀ j, (visit (bfs st s k) ((st x).take j)).length ≤ M ∧ ∀ y ∈ visit (bfs st s k) ((st x).take j), y < M) := fun j => by
        have hlt' : ∀ y ∈ visit (bfs st s k) ((st x).take j), y < M := fun y hy => by
          rcases (visit_mem _ _ _).1 hy with h | h
          · exact HLT.out k y h
          · exact HSLT x hxM y (List.mem_of_mem_take h)
        exact ⟨nodup_len (visit_nodup _ _ (bfs_nodup st s k)) hlt', hlt'⟩
      have HVK : Hid (∀ j, k < (visit (bfs st s k) ((st x).take j)).length ∧ (visit (bfs st s k) ((st x).take j)).getD k 0 = x) := fun j => by
        obtain ⟨r, hr⟩ := visit_pre (bfs st s k) ((st x).take j)
        rw [hr]
        refine ⟨by simp; omega, ?_⟩
        rw [← hx, List.getD_eq_getElem?_getD, List.getElem?_append_left hlt, List.getD_eq_getElem?_getD]
      have HYL : Hid (∀ y ∈ st x, y < M) := fun y hy => HSLT x hxM y hy
      have HV0 : Hid (visit (bfs st s k) ((st x).take 0) = bfs st s k) := by unfold Hid; simp [visit]
      have HVN : Hid (visit (bfs st s k) ((st x).take (st x).length) = visit (bfs st s k) (st x)) := by unfold Hid; rw [List.take_length]
      have HVS : Hid (∀ j (hj : j < (st x).length), visit (bfs st s k) ((st x).take (j + 1)) = if (st x).getD j 0 ∈ visit (bfs st s k) ((st x).take j) then visit (bfs st s k) ((st x).take j) else visit (bfs st s k) ((st x).take j) ++ [(st x).getD j 0]) := fun j hj => by
        rw [List.take_succ_eq_append_getElem hj, visit_snoc]
        simp [List.getD_eq_getElem?_getD, hj]
      have HME := Lib.hid (HMem.out x hxM)
      have HSLx := Lib.hid (HSL.out x)
      have hi0' : (0 : Int) ≤ (k : Int) := by omega
      have HCx := HCL.out x
      clear hum hx hcs hiL
      generalize st x = ys at *
      generalize ch x = cs at *
      generalize bfs st s k = Q at *
      have hi1 : (k : Int) < (Q.length : Int) := by omega
      go_wp2_with fail
      go_region_held3 (fun w' => C2 w' w.heap.size (.int .i64 p) (.slice a n ca) ∧ w'.cell? ⟨g, off + k, none⟩ = some (.int .i64 (x : Int))) ((refine ⟨?_, ?_⟩ <;> first | ((repeat' (first | (with_reducible assumption) | (with_reducible refine C2.drewU ?_) | (with_reducible refine C2.alloc ?_ _) | (with_reducible refine C2.set ?_ _ _ _ (by omega)))); done) | assumption)) ((go_at_call 62; (with_reducible refine (HSx.out _ (by go_grown)).mono ?_); rintro e w2_ ⟨u, rfl, ou, hb⟩; have hL := chain (B := w.heap.size) (a := w) (by go_grown) (Nat.le_refl _) hb; replace k0 := keepAt hb (show C2 _ w.heap.size (.int .i64 p) (.slice a n ca) from by (repeat' (first | (with_reducible assumption) | (with_reducible refine C2.drewU ?_) | (with_reducible refine C2.alloc ?_ _) | (with_reducible refine C2.set ?_ _ _ _ (by omega))))); replace hc0 := cell_later hb (by first | exact hc0 | assumption); replace hFl := Lib.hid (flagsAt hb hFl.out.drewU); replace hOO := Lib.hid (ownsKeepAt hb (show Owns wr.drew _ _ _ from hOO.out)); have hzz := hb.size; obtain ⟨va, vc, rfl, hvm, _⟩ := ou.reads; have OU := Lib.hid ou; clear hb ou))
      go_wp2_with fail
      have hz3 := k0.2.2.2.2
      obtain ⟨zlo, hzlo⟩ : ∃ z, wr.drew.heap.size = z := ⟨_, rfl⟩
      obtain ⟨zhi, hzhi⟩ : ∃ z, w2_.heap.size = z := ⟨_, rfl⟩
      have HBV : Hid (∀ q, (Value.slice va cs.length vc).ownBlock = some q → zlo ≤ q ∧ q < zhi) := by rw [← hzlo, ← hzhi]; exact World.ownsRow.lt OU.out
      rw [hzlo] at OU
      have HBU : Hid (∀ q, (Value.slice (some ⟨g, off, none⟩) Q.length uc).ownBlock = some q → ¬ (zlo ≤ q ∧ q < zhi)) := fun q e => by
        have e1 : g = q := by simpa [Value.ownBlock] using e
        have : wr.drew.heap.size = wr.heap.size := rfl
        omega
      have hzh : zhi ≤ w2_.heap.size := by omega
      have hmz : gF < zlo := by have : wr.drew.heap.size = wr.heap.size := rfl; omega
      clear hzlo hzhi hc0 hlt hi0' hi1 hk hgz2
      rw [show (intsN Q).length = Q.length from intsN_len Q] at hOO
      go_loopw [8, 11] (fun u c wy => ∃ j : Nat, j ≤ cs.length ∧ c = .int .i64 (j : Int) ∧ Below w.heap.size w wy ∧ C2 wy w.heap.size (.int .i64 p) (.slice a n ca) ∧ Hid (Flags wy (w.heap.size + 1) gF M (visit Q (ys.take j))) ∧ Hid (Owns wy (gF + 1) u (intsN (visit Q (ys.take j)))) ∧ Hid (Owns wy zlo (.slice va cs.length vc) cs) ∧ Hid (∀ q, u.ownBlock = some q → ¬ (zlo ≤ q ∧ q < zhi)) ∧ zhi ≤ wy.heap.size) (fun _ c _ => cs.length - (intOf c).toNat)
      case atStart => exact ⟨0, Nat.zero_le _, rfl, hL, k0, by rw [HV0.out]; exact hFl, by rw [HV0.out]; exact hOO, OU, HBU, hzh⟩
      case round =>
        clear hL k0 hFl hOO OU HBU hz3 hzh
        obtain ⟨j, hj, rfl, hL, k0, hFl, hOO, OU, HBU, hzy⟩ := hrel
        have hz3 := k0.2.2.2.2
        have hVl := (HVL.out j).1
        obtain ⟨hVk1, hVk2⟩ := HVK.out j
        have hiL := intsN_len (visit Q (ys.take j))
        obtain ⟨ua, uc2, rfl, hum, hua⟩ := hOO.out.reads
        by_cases hlj : j < cs.length
        · obtain ⟨r, hr4, hcr, hyr⟩ := HME.out j hlj
          obtain ⟨y, hy⟩ : ∃ y, x ^^^ 2 ^ r = y := ⟨_, rfl⟩
          have hljy : j < ys.length := by rw [HSLx.out]; exact hlj
          rw [hy] at hyr
          have hyM : y < M := by
            refine HYL.out y ?_
            rw [← hyr, List.getD_eq_getElem?_getD, List.getElem?_eq_getElem hljy]; exact List.getElem_mem hljy
          have HN := Lib.hid (HVS.out j hljy)
          rw [hyr] at HN
          obtain ⟨q1, hq1, hq2⟩ := xor_walk (s := x) (r := r) (by omega) hr4
          rw [hy] at hq2
          have HQ1 := Lib.hid hq1
          have HQ2 := Lib.hid hq2
          obtain ⟨va', vc', ev, hvm', hcv⟩ := OU.out.reads
          cases ev
          rcases hcv with h0 | ⟨gv, offv, rfl, hcv⟩
          · rw [h0] at hlj; simp at hlj
          have hd0 := hcv j hlj
          rw [hcr] at hd0
          rw [hiL] at hum hOO HBU ⊢
          rcases hua with h0 | ⟨gu, offu, rfl, hcu⟩
          · rw [h0] at hiL; simp at hiL; omega
          have hu0 := hcu k (by rw [hiL]; exact hVk1)
          rw [intsN_at, hVk2] at hu0
          have HUM := Lib.hid hum
          have HVM := Lib.hid hvm'
          have hj0 : (0 : Int) ≤ (j : Int) := by omega
          have hj1 : (j : Int) < (cs.length : Int) := by omega
          have hk0 : (0 : Int) ≤ (k : Int) := by omega
          have hk1 : (k : Int) < ((visit Q (ys.take j)).length : Int) := by omega
          have HR4 := Lib.hid hr4
          have HYY := Lib.hid hy
          clear hcv hum hvm' hcu hcr hq1 hq2 hyr hy hVk2
          generalize visit Q (ys.take j) = R at *
          go_wp2_with fail
          have hq1 := HQ1.out
          have hq2 := HQ2.out
          go_quiet (fail)
          clear hq1 hq2
          obtain ⟨hcF, hfF⟩ := hFl.out.cell hyM
          have hFlt := hFl.out.lt
          have hy0 : (0 : Int) ≤ (y : Int) := by omega
          have hy1 : (y : Int) < (M : Int) := by omega
          have hfrom := Lib.hid (hOO.out.rowsFrom (B := w.heap.size) (by omega))
          have hsep := Lib.hid (hOO.out.notBlock (b := w.heap.size) (by omega))
          have hsepF := Lib.hid (hOO.out.notBlock (b := gF) (by omega))
          by_cases hmem : y ∈ R
          · rw [decide_eq_true hmem] at hcF
            have HN2 : Hid (visit Q (ys.take (j + 1)) = R) := by rw [Hid, HN.out, if_pos hmem]
            clear hmem
            go_wp2_with fail
            exact ⟨⟨j + 1, by omega, by go_num, Bdrew hL _, k0, by rw [HN2.out]; exact hFl, by rw [HN2.out]; exact hOO, OU, HBU, hzy⟩, by simp [intOf]; omega⟩
          · rw [decide_eq_false hmem] at hcF
            have HN2 : Hid (visit Q (ys.take (j + 1)) = R ++ [y]) := by rw [Hid, HN.out, if_neg hmem]
            clear hmem
            obtain ⟨wd, hwd⟩ : ∃ wd, wr.drewN nq = wd := ⟨_, rfl⟩
            have hL' : Below w.heap.size w wd := by rw [← hwd]; exact Bdrew hL _
            have k0' : C2 wd w.heap.size (.int .i64 p) (.slice a n ca) := by rw [← hwd]; exact k0
            have HFl' : Hid (Flags wd (w.heap.size + 1) gF M R) := by rw [← hwd]; exact hFl
            have HOO' : Hid (Owns wd (gF + 1) (.slice (some ⟨gu, offu, none⟩) R.length uc2) (intsN R)) := by rw [← hwd]; exact hOO
            have OU' : Hid (Owns wd zlo (.slice (some ⟨gv, offv, none⟩) cs.length vc) cs) := by rw [← hwd]; exact OU
            have hcF' : wd.cell? ⟨gF, y, none⟩ = some (.bool false) := by rw [← hwd]; exact hcF
            have hfF' : wd.frozen? ⟨gF, y, none⟩ = false := by rw [← hwd]; exact hfF
            have hzy' : zhi ≤ wd.heap.size := by rw [← hwd]; exact hzy
            have hFlt' : gF < wd.heap.size := by rw [← hwd]; exact hFlt.2
            rw [hwd]
            clear hwd hL k0 hFl hOO OU hcF hfF hzy hd0 hu0 hz3
            obtain ⟨hP, hPg⟩ := HFl'.out.put y
            have k05 := C2.grown k0' hPg (by intro e; injection e with e; omega)
            have hL5 := hL'.grown hPg (by have := k0'.2.2.2.2; omega) (fun q e => by injection e with e; omega)
            have HOO5 := Lib.hid (HOO'.out.grownU hPg (fun q e e2 => by injection e2 with e2; exact hsepF.out (by rw [e, e2])))
            have OU5 := Lib.hid (OU'.out.grownU hPg (fun q e e2 => by injection e2 with e2; have := HBV.out q e; omega))
            have HP := Lib.hid hP
            have hz5 : zhi ≤ (wd.setCell ⟨gF, y, none⟩ (.bool true)).heap.size := by rw [World.size_setCell]; exact hzy'
            have hz6 := k05.2.2.2.2
            have hg6 := HP.out.lt.2
            have hVl5 : R.length ≤ 16 := by omega
            clear hP hPg
            go_wp2_with (at_builtin; refine wpList_append_own_at _ rfl _ _ 22 rfl (gF + 1) 2 j0 (.int .i64 0) 1 8 Try.underlying22 hj0_ jz0 jz1 jz2 rfl (by decide) (.slice (some ⟨gu, offu, none⟩) R.length uc2) R.length ((intsN R).map (Value.int .i64)) rfl (World.ownsRow.alloc (by have h := HOO5.out; unfold Owns at h; rw [intsN_len] at h; exact h) _) ⟨wd.heap.size, 0, none⟩ 1 1 [.int .i64 (y : Int)] rfl rfl (by have h := cell_one_new (wd.setCell ⟨gF, y, none⟩ (.bool true)) (Value.int .i64 (y : Int)) 2; rw [World.size_setCell] at h; exact h) (by simp [Value.oneCell']) (by unfold maxLen; omega) (by omega) (by simp; omega) ?_; intro v' w6 hown' hgrow hnil hat)
            have HO6 := Lib.hid (Owns.snoc (by rw [intsN_len]; exact hown'))
            have hfr6 : ∀ q, (Value.slice (some ⟨gu, offu, none⟩) R.length uc2).ownBlock = some q → w.heap.size ≤ q := hfrom.out
            refine ⟨⟨j + 1, by omega, by go_num, (hL5.alloc (by omega) _).grown hgrow (by simp; omega) hfr6, (k05.alloc _).grown hgrow hsep.out, ?_, by rw [HN2.out, intsN_snoc]; exact HO6, ?_, ?_, ?_⟩, by simp [intOf]; omega⟩
            · rw [HN2.out]; exact (HP.out.alloc _).grown hgrow hsepF.out
            · exact Owns.grownU (ownsKeepAt ((Below.refl _ _).alloc (Nat.le_refl _) _) OU5.out) hgrow (fun q e e2 => by have h1 := HBV.out q e; have h2 := HBU.out q e2; omega)
            · intro q e
              rcases hat with h | h
              · exact HBU.out q (by rw [← h]; exact e)
              · rw [h] at e; injection e with e; simp at e; omega
            · have := hgrow.size; simp at this; omega
        · have e : j = ys.length := by have := HSLx.out; omega
          have HV : visit Q (ys.take j) = bfs st s (k + 1) := by rw [e, HVN.out, ← HNext.out]
          rw [HV] at hFl hOO ⊢
          clear HV hiL hVk1 hVk2
          have hjn : ¬ (j : Int) < (cs.length : Int) := by have := HSLx.out; omega
          go_wp2_with fail
          exact ⟨⟨k + 1, by omega, by go_num, hL, k0, hFl, hOO⟩, by simp [intOf]; omega⟩
    · have hR := HEND.out k (by omega) (by omega)
      have hlk : ¬ (k : Int) < ((bfs st s k).length : Int) := by omega
      rw [hR] at hFl hlk ⊢
      clear hR hiL hum hua hOO hlenM
      go_wp2_with fail
      go_ret
      exact ⟨gF, rfl, ⟨hFl.out.1, by rcases hFl.out.2 with h | ⟨g, cap, cur, hv, hbg, r⟩
                                     · exact .inl h
                                     · exact .inr ⟨g, cap, cur, hv, by omega, r⟩⟩, hL⟩

end Go.Proofs.Ytblbapehakcomaa
