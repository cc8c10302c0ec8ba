/- Orders: the model's l01Order (parts of XSRch, XCirS, XOrd). -/
import Derived.Test.YthomnhbkmopjnaaOwn
import Derived.Test.YthomnhbkmopjnaaOwn2
import Derived.Test.YthomnhbkmopjnaaAt
import Derived.Test.YthomnhbkmopjnaaCo0
import Derived.Test.YthomnhbkmopjnaaBfsM
import Derived.LoopTactic
import Derived.Deep.RegionWith
import Derived.Maps.AppendAt
namespace Go.Proofs.Ythomnhbkmopjnaa
open Go.RowKit
set_option linter.unusedVariables false

theorem infoBool : (Try.prog.info? 4).map (fun i => (i.zero, i.size, i.bytes)) = some (some (.bool false), 1, 1) := by kernel_rfl

/-- which of the first M are in E -/
def flagsL (M : Nat) (E : List Nat) : List Value := (List.range M).map fun s => .bool (decide (s ∈ E))
theorem flagsL_len (M : Nat) (E : List Nat) : (flagsL M E).length = M := by simp [flagsL]
theorem flagsL_at {M : Nat} {E : List Nat} {s : Nat} (h : s < M) : (flagsL M E)[s]? = some (.bool (decide (s ∈ E))) := by simp [flagsL, h]
theorem flagsL_congr {M : Nat} {E E' : List Nat} (h : ∀ s, s < M → (s ∈ E ↔ s ∈ E')) : flagsL M E = flagsL M E' := by
  unfold flagsL
  apply List.map_congr_left
  intro s hs
  rw [decide_eq_decide.2 (h s (List.mem_range.1 hs))]
theorem flagsL_set {M : Nat} {E : List Nat} {y : Nat} : (flagsL M E).set y (.bool true) = flagsL M (E ++ [y]) := by
  apply List.ext_getElem
  · simp [flagsL]
  · intro i h1 h2
    rw [List.getElem_set]
    simp only [flagsL, List.getElem_map, List.getElem_range, List.mem_append, List.mem_singleton]
    by_cases e : y = i
    · rw [if_pos e]; simp [e]
    · rw [if_neg e]; simp [Ne.symm e]
theorem flagsL_unset {M : Nat} {E : List Nat} {y : Nat} : (flagsL M E).set y (.bool false) = flagsL M (E.filter (fun s => s != y)) := by
  apply List.ext_getElem
  · simp [flagsL]
  · intro i h1 h2
    rw [List.getElem_set]
    simp only [flagsL, List.getElem_map, List.getElem_range, List.mem_filter]
    by_cases e : y = i
    · rw [if_pos e]; simp [e]
    · rw [if_neg e]; simp [Ne.symm e]
theorem made_false (m : Nat) : (madeCells (Value.bool false).cells (m * 1)).toList = flagsL m [] := by
  unfold flagsL
  simp only [madeCells, Value.cells, Nat.mul_one]
  apply List.ext_getElem
  · simp
  · intro i h1 h2
    simp [Nat.mod_one]
/-- the slice in block g tells which of the first M are in E -/
def Flags (w : World) (base g M : Nat) (E : List Nat) : Prop := w.ownsRow base 4 1 (.slice (some ⟨g, 0, none⟩) M M) M (flagsL M E)
theorem Flags.keep {w w' : World} {base g M : Nat} {E : List Nat} (h : Flags w base g M E) (hb : Below w.heap.size w w') : Flags w' base g M E :=
  rowSame h fun k hk e => hb.block k (World.ownsRow.lt h k e).2
theorem flagsAt {w w' : World} {base g M : Nat} {E : List Nat} (hb : Below w.heap.size w w') (h : Flags w base g M E) : Flags w' base g M E := h.keep hb
theorem Flags.alloc {w : World} {base g M : Nat} {E : List Nat} (h : Flags w base g M E) (o : Obj) : Flags (w.alloc o) base g M E := h.keep ((Below.refl _ _).alloc (Nat.le_refl _) o)
theorem Flags.drewU {w : World} {base g M : Nat} {E : List Nat} (h : Flags w base g M E) : Flags w.drew base g M E := h
theorem Flags.drewUN {w : World} {base g M : Nat} {E : List Nat} (h : Flags w base g M E) (n : Nat) : Flags (w.drewN n) base g M E := h
theorem Flags.grown {w w' : World} {base g M : Nat} {E : List Nat} {row : Option Nat} (h : Flags w base g M E) (hg : w.grownBy w' row) (hne : row ≠ some g) : Flags w' base g M E :=
  rowSame h fun k _ e => hg.block k (World.ownsRow.lt h k e).2 (by have e2 : g = k := by simpa [Value.ownBlock] using e
                                                                   rw [← e2]; exact Ne.symm hne)
theorem Flags.lt {w : World} {base g M : Nat} {E : List Nat} (h : Flags w base g M E) : base ≤ g ∧ g < w.heap.size := World.ownsRow.lt h g rfl
theorem Flags.cell {w : World} {base g M : Nat} {E : List Nat} (h : Flags w base g M E) {s : Nat} (hs : s < M) : w.cell? ⟨g, s, none⟩ = some (.bool (decide (s ∈ E))) ∧ w.frozen? ⟨g, s, none⟩ = false := by
  refine ⟨?_, World.ownsRow.frozenAt h s⟩
  have := World.ownsRow.cellAt h s (by omega)
  rw [this]; exact flagsL_at hs
theorem Flags.put {w : World} {base g M : Nat} {E : List Nat} (h : Flags w base g M E) (s : Nat) : Flags (w.setCell ⟨g, s, none⟩ (.bool true)) base g M (E ++ [s]) ∧ w.grownBy (w.setCell ⟨g, s, none⟩ (.bool true)) (some g) := by
  have := World.ownsRow.stored h s (.bool true)
  rw [flagsL_set] at this
  exact this

theorem l01In_b (n lo hi : Int) (w : World) {b : Bool} (hb : decide (lo ≤ n ∧ n ≤ hi) = b) :
    Calls Try.prog 16 #[.int .i64 n, .int .i64 lo, .int .i64 hi] w fun e w' => e = .returned (.bool b) ∧ w = w' := hb ▸ l01In_any n lo hi w

/-- the i-th is one of 0 to n - 1, and none before it is the same -/
def ordAt (ps : List Int) (n : Nat) (i : Nat) : Bool := decide (0 ≤ ps.getD i 0 ∧ ps.getD i 0 ≤ (n : Int) - 1) && !decide ((ps.getD i 0).toNat ∈ (ps.take i).map Int.toNat)
def ordB (ps : List Int) (n : Nat) : Bool := (List.range ps.length).all (ordAt ps n) && decide (ps.length = n)

set_option maxRecDepth 100000 in
set_option maxHeartbeats 4000000 in
theorem l01Order_any (n : Nat) (v : Value) (ps : List Int) (w : World) (ha : Reads w v ps) (n5 : n ≤ 5) :
    Calls Try.prog 11 #[v, .int .i64 (n : Int)] w fun e w' => e = .returned (.bool (ordB ps n)) ∧ Below w.heap.size w w' := by
  obtain ⟨i0, hi0, hz0, hz1, hz2⟩ := info_parts infoBool
  obtain ⟨j, hj, hno, hyes⟩ := firstB (fun k => !(ordAt ps n k)) ps.length
  have HY : Hid (∀ k, k < j → ordAt ps n k = true) := fun k hk => by have := hno k hk; simpa using this
  have HNo : Hid (j < ps.length → ordAt ps n j = false) := fun h => by have := hyes h; simpa using this
  have HAt : Hid (∀ k, ordAt ps n k = (decide (0 ≤ ps.getD k 0 ∧ ps.getD k 0 ≤ (n : Int) - 1) && !decide ((ps.getD k 0).toNat ∈ (ps.take k).map Int.toNat))) := fun k => rfl
  have HB1 : Hid (j < ps.length → ordB ps n = false) := fun h => by
    unfold ordB
    have : (List.range ps.length).all (ordAt ps n) = false := by
      rw [List.all_eq_false]
      exact ⟨j, List.mem_range.2 h, by rw [HNo.out h]; simp⟩
    rw [this]; rfl
  have HB2 : Hid (¬ j < ps.length → ordB ps n = decide (ps.length = n)) := fun h => by
    unfold ordB
    have : (List.range ps.length).all (ordAt ps n) = true := by
      rw [List.all_eq_true]
      exact fun k hk => HY.out k (by have := List.mem_range.1 hk; omega)
    rw [this]; rfl
  have HT : Hid (∀ k, k < ps.length → (ps.take (k + 1)).map Int.toNat = (ps.take k).map Int.toNat ++ [(ps.getD k 0).toNat]) := fun k hk => by
    rw [List.take_succ_eq_append_getElem hk, List.map_append]
    simp [List.getD_eq_getElem?_getD, hk]
  have HT0 : Hid ((ps.take 0).map Int.toNat = []) := rfl
  have HIn := Lib.hid (fun (x : Int) (b : Bool) (hb : decide (0 ≤ x ∧ x ≤ (n : Int) - 1) = b) w => l01In_b x 0 ((n : Int) - 1) w (b := b) hb)
  have HR := Lib.hid ha
  generalize ordB ps n = ob at *
  obtain ⟨a, ca, rfl, hm, ha'⟩ := ha
  have hps := Lib.hid hm
  clear ha' hno hyes hm
  go_enter Try.func11, Try.ntmps11
  go_wp2_with (at_make; refine wpList_make_full _ rfl _ _ 38 rfl w.heap.size 4 i0 (.bool false) 1 Try.underlying38 hi0 hz0 hz1 .i64 .i64 (n : Int) (n : Int) n rfl rfl rfl rfl (by rw [hz2]; omega) (by unfold maxLen; omega) (by omega) ?_; intro w2 oo hg; have hF : Flags w2 w.heap.size w.heap.size n [] := (by unfold Flags; rw [← made_false]; exact oo); have HF := Lib.hid hF; clear hF oo)
  have hL2 : Below w.heap.size w w2 := (Below.refl _ _).grown hg (Nat.le_refl _) (fun q e => by cases e)
  have hz2' := HF.out.lt.2
  clear hg
  go_loopw [6] (fun c wr => ∃ k : Nat, k ≤ j ∧ c = .int .i64 (k : Int) ∧ Below w.heap.size w wr ∧ Hid (Flags wr w.heap.size w.heap.size n ((ps.take k).map Int.toNat))) (fun c _ => ps.length - (intOf c).toNat)
  case atStart => exact ⟨0, Nat.zero_le _, rfl, hL2, by rw [HT0.out]; exact HF⟩
  case round =>
    clear hL2 HF hz2'
    obtain ⟨k, hk, rfl, hL, hF⟩ := hrel
    have hzF := hF.out.lt.2
    by_cases hlt : k < ps.length
    · have hki0 : (0 : Int) ≤ (k : Int) := by omega
      have hki1 : (k : Int) < (ps.length : Int) := by omega
      have hkm : (k : Int) ≤ 9223372036854775806 := by have := hps.out; unfold maxLen at this; omega
      obtain ⟨a', c', ev, _, hcv⟩ := HR.out.keep hL
      injection ev with e1 e2 e3
      subst e1; subst e3
      clear e2
      rcases hcv with hnil | ⟨gl, offl, rfl, hcv⟩
      · rw [hnil] at hlt; simp at hlt
      have hc0 := hcv k hlt
      have HAk := Lib.hid (HAt.out k)
      have HTk := Lib.hid (HT.out k hlt)
      obtain ⟨x, hx⟩ : ∃ x, ps.getD k 0 = x := ⟨_, rfl⟩
      rw [hx] at hc0 HAk HTk
      obtain ⟨b, hb⟩ : ∃ b, decide (0 ≤ x ∧ x ≤ (n : Int) - 1) = b := ⟨_, rfl⟩
      have HI := Lib.hid (HIn.out x b hb)
      clear hcv hx
      by_cases hkj : k < j
      · have hok := HY.out k hkj
        rw [HAk.out, Bool.and_eq_true] at hok
        have hxb := of_decide_eq_true hok.1
        rw [hb] at hok
        have hbt := hok.1
        subst hbt
        obtain ⟨X, rfl⟩ := Int.eq_ofNat_of_zero_le hxb.1
        rw [Int.toNat_natCast] at HTk hok
        have hXn : X < n := by omega
        have hnm := hok.2
        obtain ⟨hcF, hfF⟩ := hF.out.cell hXn
        have hdm : decide (X ∈ (ps.take k).map Int.toNat) = false := by simpa using hnm
        rw [hdm] at hcF
        obtain ⟨hP, hPg⟩ := hF.out.put X
        have HP := Lib.hid hP
        have hL5 := hL.grown hPg hL.size (fun q e => by injection e with e; omega)
        have hX0 : (0 : Int) ≤ (X : Int) := by omega
        have hX1 : (X : Int) < (n : Int) := by omega
        clear hok hnm hdm hP hPg hxb hb HAk
        go_wp2_with ((go_at_call 16; (with_reducible refine (HI.out _).mono ?_); rintro e w' ⟨rfl, rfl⟩))
        exact ⟨⟨k + 1, by omega, by go_num, hL5, by rw [HTk.out]; exact HP⟩, by simp [intOf]; omega⟩
      · have e : k = j := by omega
        have hok := HNo.out (by omega)
        rw [← e, HAk.out, hb] at hok
        have HX := Lib.hid (HB1.out (by omega))
        cases b
        · clear hok hb HAk HTk e
          go_wp2_with ((go_at_call 16; (with_reducible refine (HI.out _).mono ?_); rintro e w' ⟨rfl, rfl⟩))
          go_ret
          exact ⟨by rw [HX.out]; rfl, hL⟩
        · have hxb := of_decide_eq_true hb
          obtain ⟨X, rfl⟩ := Int.eq_ofNat_of_zero_le hxb.1
          rw [Int.toNat_natCast] at hok
          have hXn : X < n := by omega
          obtain ⟨hcF, hfF⟩ := hF.out.cell hXn
          have hdm : decide (X ∈ (ps.take k).map Int.toNat) = true := by simpa using hok
          rw [hdm] at hcF
          have hX0 : (0 : Int) ≤ (X : Int) := by omega
          have hX1 : (X : Int) < (n : Int) := by omega
          clear hok hdm hb HAk HTk e hxb
          go_wp2_with ((go_at_call 16; (with_reducible refine (HI.out _).mono ?_); rintro e w' ⟨rfl, rfl⟩))
          go_ret
          exact ⟨by rw [HX.out]; rfl, hL⟩
    · have hkn : ¬ (k : Int) < (ps.length : Int) := by omega
      have HX := Lib.hid (HB2.out (by omega))
      have hdd : ((ps.length : Int) == (n : Int)) = decide (ps.length = n) := by
        by_cases h : ps.length = n
        · rw [decide_eq_true h, h]; simp
        · rw [decide_eq_false h]; simp; omega
      go_wp2_with fail
      go_ret
      exact ⟨by rw [HX.out]; simp, hL⟩

end Go.Proofs.Ythomnhbkmopjnaa
