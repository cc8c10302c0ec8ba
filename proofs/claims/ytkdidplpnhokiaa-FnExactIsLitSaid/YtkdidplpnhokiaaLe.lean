/- Wires and switches as contacts between terminals. -/
import Derived.Test.YtkdidplpnhokiaaSwc
import Derived.Test.YtkdidplpnhokiaaApp2
import Derived.Lib.AppendZeros
import Derived.Deep.RegionLaw
namespace Go.Proofs.Ytkdidplpnhokiaa
open Go.RowKit
set_option linter.unusedVariables false

def wireC (r : List Int) : List Int := [r.getD 0 0, r.getD 1 0, 5, 1]
def leadsL (xs : List Int) (yss : List (List Int)) : List (List Int) := yss.map wireC ++ swC xs
theorem wires_snoc {yss : List (List Int)} {k : Nat} (h : k < yss.length) : (yss.take (k + 1)).map wireC = (yss.take k).map wireC ++ [wireC (yss.getD k [])] := by
  rw [take_snoc h, List.map_append]; rfl

set_option maxRecDepth 100000 in
set_option maxHeartbeats 4000000 in
theorem leadsOf_any (v : Value) (p : Int) (xs : List Int) (yss : List (List Int)) (w : World) (ha : ReadsW w v p xs yss) (hs : SwOk xs) (h2 : ∀ i, i < yss.length → (yss.getD i []).length = 2) (h16 : yss.length ≤ 16) :
    Calls Try.prog 77 #[v] w fun e w' => ∃ u, e = .returned u ∧ OwnsC w' w.heap.size u (leadsL xs yss) ∧ Below w.heap.size w w' := by
  obtain ⟨i0, hi, hz0, hz1, hz2⟩ := info_parts infoCon
  obtain ⟨a, ca, b', cb, rfl, hA, hB⟩ := ha
  have HSC := Lib.hid (fun w' (h : Below w.heap.size w w') => switchContacts_any _ xs w' (hA.keep h) hs)
  have HY : Hid (∀ k, k < yss.length → ∃ b off u, b' = some ⟨b, off, none⟩ ∧ w.cell? ⟨b, off + k, none⟩ = some u ∧ Reads w u (yss.getD k [])) := fun k hk => hB.cellW hk
  have HY2 := Lib.hid h2
  have h0 := C3.here w (.int .i64 p) (.slice a xs.length ca) (.slice b' yss.length cb) 28
  have HLS : Hid ((swC xs).length ≤ 20) := by have := swTo_len xs xs.length; have := hs.1.2; unfold Hid swC; omega
  have HEND : Hid (∀ k, k = yss.length → (yss.take k).map wireC ++ swC xs = leadsL xs yss) := fun k h => by subst h; rw [List.take_length]; rfl
  have HTL : Hid (∀ k, k ≤ yss.length → ((yss.take k).map wireC).length = k) := fun k h => by rw [List.length_map, List.length_take]; omega
  have HTS : Hid (∀ k, k < yss.length → (yss.take (k + 1)).map wireC = (yss.take k).map wireC ++ [wireC (yss.getD k [])]) := fun k h => wires_snoc h
  clear hA hB hs h2
  generalize swC xs = SL at *
  generalize xs.length = n at *
  generalize yss.length = m at *
  go_enter Try.func77, Try.ntmps77
  go_wp2_with fail
  go_loopw [3, 9] (fun u c wr => ∃ k : Nat, k ≤ m ∧ c = .int .i64 (k : Int) ∧ Below w.heap.size w wr ∧ C3 wr w.heap.size (.int .i64 p) (.slice a n ca) (.slice b' m cb) ∧ Hid (OwnsC wr (w.heap.size + 1) u ((yss.take k).map wireC))) (fun _ c _ => m - (intOf c).toNat)
  case atStart => exact ⟨0, Nat.zero_le _, rfl, by go_grown, h0, (World.ownsRow_nil _ _ _ _ : OwnsC _ (w.heap.size + 1) _ [])⟩
  case round =>
    clear h0
    obtain ⟨k, hk, rfl, hL, h0, HO⟩ := hrel
    by_cases hlt : k < m
    · obtain ⟨b, off, tu, rfl, hca0, hru⟩ := HY.out k hlt
      have hca := cell_later hL hca0
      have HT := Lib.hid (HTS.out k hlt)
      have HLK := Lib.hid (HTL.out k hk)
      obtain ⟨x, y, hxy⟩ := list2 (HY2.out k hlt)
      have HRU := Lib.hid (hru.keep hL)
      rw [hxy] at HT HRU
      obtain ⟨ua, uc, rfl, _, hcu⟩ := HRU.out
      rcases hcu with hcu | ⟨ub, uo, rfl, hcu⟩
      · cases hcu
      · have c0 : wr.cell? ⟨ub, uo, none⟩ = some (.int .i64 x) := by simpa using hcu 0 (by simp)
        have c1 : wr.cell? ⟨ub, uo + 1, none⟩ = some (.int .i64 y) := by simpa using hcu 1 (by simp)
        have hi1 : (k : Int) < (m : Int) := by omega
        have hi0 : (0 : Int) ≤ (k : Int) := by omega
        have hzb := h0.lt
        have HNB : Hid (u3.ownBlock ≠ some w.heap.size) := fun e => by have := (World.ownsRow.lt HO.out _ e).1; omega
        clear hca0 hru hxy hcu
        generalize (yss.take k).map wireC = L at *
        have HLK1 : Hid (L.length ≤ 16) := by rw [Hid, HLK.out]; omega
        go_wp2_with fail
        go_region_law (refine step_append_lies _ (by rfl) _ _ 82 (by rfl) (w.heap.size + 1) 116 i0 (.agg #[.int .i64 0, .int .i64 0, .int .i64 0, .int .i64 0]) 4 32 Try.underlying82 hi hz0 hz1 hz2 (by rfl) (by decide) u3 L.length (cellsC L L.length L.length) (by rfl) (World.ownsRow.drew (World.ownsRow.alloc HO.out _)) ⟨wr.heap.size, 0, none⟩ 1 1 [.int .i64 x, .int .i64 y, .int .i64 5, .int .i64 1] (by rfl) (by rfl) (World.news_of_block (cs := #[.int .i64 x, .int .i64 y, .int .i64 5, .int .i64 1]) (t := 116) (fr := (0, 0)) (heap_alloc_new wr _)) (by simp [Value.oneCell']) (by decide) (by have := HLK1.out; unfold maxLen; omega) (by have := HLK1.out; omega) (by simp; omega) (wr.heap.size + 1) (by simp) ?_; intro gv cap2 w3 hown hgrow_ hat hlt3; have hgrow : (wr.alloc (.cells #[.int .i64 x, .int .i64 y, .int .i64 5, .int .i64 1] 116)).grownBy w3 u3.ownBlock := ⟨hgrow_.os, hgrow_.tape, hgrow_.output, hgrow_.size, hgrow_.block⟩; have HO3 := Lib.hid (OwnsC.snoc hown); have hL3 := (hL.alloc hL.size _).grown hgrow (by have := hL.size; simp; omega) (fun q e => by have := (World.ownsRow.lt HO.out q e).1; omega); have h03 := (h0.alloc _).grown hgrow HNB.out; clear hown hat hgrow hgrow_)
        all_goals go_wp2_with fail
        all_goals exact ⟨⟨k + 1, by omega, by go_num, hL3, h03, by rw [Hid, HT.out]; exact HO3.out⟩, by simp [intOf]; omega⟩
    · have e := HEND.out k (by omega)
      have HE := Lib.hid e
      have HLK := Lib.hid (HTL.out k hk)
      have HOK := Lib.hid HO
      go_wp2_with fail
      refine (HSC.out _ hL).mono ?_
      rintro e w2 ⟨su, rfl, hs2, hb⟩
      have hL2 := chain (B := w.heap.size) (a := w) hL (Nat.le_refl _) hb
      have HO2 := HO.out.keep hb
      have hzz := hb.size
      have hz0' := h0.lt
      generalize (yss.take k).map wireC = L at *
      obtain ⟨v4, w4, hr4, hown4, hgr4, _⟩ := run_append_two (P := Try.prog) (w := w2) (w.heap.size + 1) _ 82 82 116 i0 (.agg #[.int .i64 0, .int .i64 0, .int .i64 0, .int .i64 0]) 4 32 Try.underlying82 hi hz0 hz1 hz2 (by rfl) (by decide) u3 su L.length SL.length (cellsC L L.length L.length) (cellsC SL SL.length SL.length) HO2 hs2 (cellsC_cells SL SL.length SL.length) (by have := HLK.out; have := HLS.out; unfold maxLen; omega) (by have := HLK.out; have := HLS.out; omega) (by omega)
      have hL4 := hL2.grown ⟨hgr4.os, hgr4.tape, hgr4.output, hgr4.size, hgr4.block⟩ (by omega) (fun q e => by have := (World.ownsRow.lt HO2 q e).1; omega)
      have HO4 : Hid (OwnsC w4 w.heap.size v4 (L ++ SL)) := by
        refine OwnsC.low (B := w.heap.size + 1) ?_ (by omega)
        unfold OwnsC
        rw [← cellsC_app, List.length_append]
        exact hown4
      rw [HE.out] at HO4
      clear hown4 hgr4 hs2 hb HO2
      go_wp2_with (at_builtin; refine Lib.wpList_append_run _ rfl _ _ _ _ rfl _ _ rfl rfl _ _ hr4 ?_)
      go_ret
      exact ⟨_, rfl, HO4.out, hL4⟩

end Go.Proofs.Ytkdidplpnhokiaa
