/- TableText: the program's own walk. -/
import Derived.Test.YtapcblibokkhcaaDoorTtI
namespace Go.Proofs.YtapcblibokkhcaaDoor
open Go.RowKit
set_option linter.unusedVariables false

theorem OwnsU.base {w : World} {base b : Nat} {v : Value} {l : List Int} (h : OwnsU w base v l) (hb : b ≤ base) : OwnsU w b v l := by
  obtain ⟨h1, h2⟩ := h
  refine ⟨h1, ?_⟩
  rcases h2 with h2 | ⟨g, cap, cur, hv, hbg, hg, r⟩
  · exact .inl h2
  · exact .inr ⟨g, cap, cur, hv, Nat.le_trans hb hbg, hg, r⟩
theorem OwnsU.rowsFrom {w : World} {base : Nat} {v : Value} {l : List Int} (h : OwnsU w base v l) : ∀ k, v.ownBlock = some k → base ≤ k :=
  fun k e => (World.ownsRow.lt (w := w) (base := base) (e := 5) (size := 1) (v := v) (n := l.length) (xs := l.map (Value.int .u8)) h k e).1
theorem resTT_tab {n v : Int} (h : isTab n v = true) : resTableText_0 n v = strZ (txtZ n v (2 ^ n.toNat)) ∧ resTableText_1 n v = 0 := by
  unfold resTableText_0 resTableText_1; rw [if_pos h, if_pos h]; exact ⟨rfl, rfl⟩
theorem ownsUKeepAt {w w' : World} {B base : Nat} {v : Value} {l : List Int} (hb : Below B w w') (hB : w.heap.size ≤ B) (h : OwnsU w base v l) : OwnsU w' base v l := h.keep (hb.mono hB)

set_option maxRecDepth 100000 in
set_option maxHeartbeats 1000000 in
theorem iTableText_any (n v : Int) (w : World) :
    Calls Tryd.prog 10 #[.agg #[.int .i64 n, .int .i64 v]] w fun e w' => e = .returned (.tuple #[.string (resTableText_0 n v), .int .i64 (resTableText_1 n v)]) ∧ Below w.heap.size w w' := by
  have k0 : C2 (w.alloc (.cells #[.int .i64 n, .int .i64 v] 26)) (w.heap.size) (.int .i64 n) (.int .i64 v) := by simpa using C2.here w (.int .i64 n) (.int .i64 v) 26
  by_cases ht : isTab n v = true
  · obtain ⟨n1, n5, h0, hv⟩ := tab_bd ht
    have hr := Lib.hid (resTT_tab ht)
    have Ht := Lib.hid ht
    have Hr : Hid (rcZ n = ((2 ^ n.toNat : Nat) : Int)) := rfl
    have hr5 := rcZ_bd n1 n5
    obtain ⟨i0, hi, hz0, hz1, hz2⟩ := info_parts infoU8
    have HA := Lib.hid (fun w => strAppendInt_any n w n1 n5)
    clear ht
    go_enter Tryd.func10, Tryd.ntmps10
    go_wp2_with (first | (go_at_call 27; (with_reducible refine (isTable_b _ _ _ Ht.out).mono ?_); rintro e w' ⟨rfl, hb⟩; have hL := chain (B := w.heap.size) (a := w) (by go_grown) (Nat.le_refl _) hb; (first | replace k0 := keepAt hb k0 | replace k0 := keepAt hb (C2.alloc k0 _)); clear hb) | (go_at_call 28; (with_reducible refine (HA.out _).mono ?_); rintro e w1 ⟨u, rfl, hown, hb⟩; have oo : OwnsU w1 (w.heap.size + 1) u [48 + n] := hown.base (by go_num); have hL := chain (B := w.heap.size) (a := w) (by go_grown) (by go_num) hb; replace k0 := keepAt hb k0; clear hb hown) | (at_builtin; refine wpList_append_own _ rfl _ _ 43 rfl (w.heap.size + 1) 5 i0 (.int .u8 0) 1 1 Tryd.underlying43 hi hz0 hz1 hz2 rfl (by decide) _ _ _ rfl (World.ownsRow.alloc oo _) ⟨w1.heap.size, 0, none⟩ 1 1 [.int .u8 58] rfl rfl (cell_one_new _ _ _) (by simp [Value.oneCell']) (by show 1 + 1 ≤ maxLen; decide) (by show (1 + 1) * 1 ≤ 140737488355328; decide) (by have := hL.size; simp; omega) ?_; intro v' w2 hown' hgrow hnil; have hfrom := oo.rowsFrom; have hgr : Below w.heap.size w w2 := (hL.alloc (by have := hL.size; omega) _).grown hgrow (by have := hL.size; simp; omega) (fun k e => by have := hfrom k e; omega); have k2 := (k0.alloc (.cells #[.int .u8 58] 5)).grown hgrow (fun e => by have := hfrom _ e; omega); have oo2 : OwnsU w2 (w.heap.size + 1) v' (txtZ n v 0) := OwnsU.snoc hown'; clear k0 oo hown' hgrow hnil hfrom hL) | (go_at_call 29; (with_reducible refine (rowCount_any _ _ n1 n5).mono ?_); rintro e w' ⟨rfl, rfl⟩))
    go_loopw [17, 4] (fun c u wr => ∃ k : Nat, (k : Int) ≤ rcZ n ∧ c = .int .i64 (k : Int) ∧ OwnsU wr (w.heap.size + 1) u (txtZ n v k) ∧ Below w.heap.size w wr ∧ C2 wr w.heap.size (.int .i64 n) (.int .i64 v))
      (fun c _ _ => (rcZ n - intOf c).toNat)
    case atStart => exact ⟨0, by omega, rfl, oo2, by go_grown, k2⟩
    case round =>
      clear k2 hgr oo2
      obtain ⟨k, hk, rfl, oo, hL, k0⟩ := hrel
      have Hl := Lib.hid (txtZ_len n v k)
      by_cases hlt : (k : Int) < rcZ n
      · have hd := digZ_bd v (k : Int)
        have hW : IntKind.u8.wrap (digZ v (k : Int)) = digZ v (k : Int) := IntWalk.u8_in _ (by omega)
        have hW2 : IntKind.u8.wrap (48 + digZ v (k : Int)) = 48 + digZ v (k : Int) := IntWalk.u8_in _ (by omega)
        have HS := Lib.hid (txtZ_succ n v k)
        have HV := Lib.hid (fun w => valueAt_any n v (k : Int) w h0 hv (by omega) (by omega))
        generalize hdz : digZ v (k : Int) = d at *
        go_wp2_with (first | (go_at_call 30; (with_reducible refine (HV.out _).mono ?_); rintro e w3 ⟨rfl, hb⟩; have hL3 := chain (B := w.heap.size) (a := w) (by go_grown) (Nat.le_refl _) hb; replace k0 := keepAt hb k0; have oo3 := ownsUKeepAt hb (by go_num) oo; clear hb) | (at_builtin; refine wpList_append_own _ rfl _ _ 43 rfl (w.heap.size + 1) 5 i0 (.int .u8 0) 1 1 Tryd.underlying43 hi hz0 hz1 hz2 rfl (by decide) _ _ _ rfl (World.ownsRow.alloc oo3 _) ⟨w3.heap.size, 0, none⟩ 1 1 [.int .u8 (48 + d)] rfl rfl (cell_one_new _ _ _) (by simp [Value.oneCell']) (by have := Hl.out; unfold maxLen; omega) (by have := Hl.out; omega) (by have := hL3.size; simp; omega) ?_; intro v' w2 hown' hgrow hnil))
        have hfrom := oo3.rowsFrom
        exact ⟨⟨k + 1, by omega, by go_num, by rw [HS.out]; exact OwnsU.snoc hown', (hL3.alloc (by have := hL3.size; omega) _).grown hgrow (by have := hL3.size; simp; omega) (fun k e => by have := hfrom k e; omega), (k0.alloc _).grown hgrow (fun e => by have := hfrom _ e; omega)⟩, by simp [intOf]; omega⟩
      · have Hk : Hid ((k : Nat) = 2 ^ n.toNat) := by have := Hr.out; unfold Hid; omega
        obtain ⟨g, cap, rfl⟩ := oo.form (by have := Hl.out; omega)
        have hT := OwnsU.text (P := Tryd.prog) oo (fun x hx => txtZ_bd (by omega) (by omega) k x hx) 43 9 5 Tryd.underlying43 Tryd.underlying5 Tryd.underlying9
        clear oo
        go_wp2_with fail
        refine bodyPost_ret (v := .tuple #[.string (strZ (txtZ n v k)), .int .i64 0]) (by simp [results, Tryd.results10, go_sem, *]) rfl ?_
        exact ⟨by rw [hr.out.1, hr.out.2, Hk.out], by go_grown⟩
  · have hr : Hid (resTableText_0 n v = ⟨#[]⟩ ∧ resTableText_1 n v = 1) := by unfold Hid resTableText_0 resTableText_1; rw [if_neg ht, if_neg ht]; exact ⟨rfl, rfl⟩
    have Ht : Hid (isTab n v = false) := by unfold Hid; simpa using ht
    clear ht
    go_enter Tryd.func10, Tryd.ntmps10
    go_wp2_with (first | (go_at_call 27; (with_reducible refine (isTable_b _ _ _ Ht.out).mono ?_); rintro e w' ⟨rfl, hb⟩; have hL := chain (B := w.heap.size) (a := w) (by go_grown) (Nat.le_refl _) hb; (first | replace k0 := keepAt hb k0 | replace k0 := keepAt hb (C2.alloc k0 _)); clear hb))
    refine bodyPost_ret (v := .tuple #[.string ⟨#[]⟩, .int .i64 1]) (by simp [results, Tryd.results10, go_sem, *]) rfl ?_
    exact ⟨by rw [hr.out.1, hr.out.2], by go_grown⟩

end Go.Proofs.YtapcblibokkhcaaDoor
