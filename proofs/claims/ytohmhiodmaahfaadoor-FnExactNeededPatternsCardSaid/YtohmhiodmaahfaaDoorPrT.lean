/- Prime patterns as texts: the program's patternTexts, PrimePatterns. -/
import Derived.Test.YtohmhiodmaahfaaDoorPrP
namespace Go.Proofs.YtohmhiodmaahfaaDoor
open Go.RowKit
set_option linter.unusedVariables false

theorem mapS_id (s : ByteArray) : mapS (fun x => x) s = s := by
  apply bytes_ext
  · show (mapL (fun x => x) s).toArray.size = s.size
    rw [List.size_toArray, mapL_len]
  · intro k hk
    have hk' : k < (mapL (fun x => x) s).length := by
      have : (mapL (fun x => x) s).toArray.size = (mapL (fun x => x) s).length := by simp
      have h2 : (mapS (fun x => x) s).size = (mapL (fun x => x) s).toArray.size := rfl
      omega
    unfold mapS
    rw [byteAt_mk _ _ hk', mapL_get s (fun c h0 h1 => ⟨h0, h1⟩) k hk']
/-- the text of the first signs of an array -/
theorem sgn_text (w : World) (s : ByteArray) (cap : Nat) (hs : s.size ≤ 5) (t : TypeId) :
    (convert 92 9 (.slice (some ⟨w.heap.size, 0, none⟩) s.size cap)).run Tryd.prog (w.alloc (.cells #[.int .u8 (sgn s 0), .int .u8 (sgn s 1), .int .u8 (sgn s 2), .int .u8 (sgn s 3), .int .u8 (sgn s 4)] t)) = .ok (.string s) (w.alloc (.cells #[.int .u8 (sgn s 0), .int .u8 (sgn s 1), .int .u8 (sgn s 2), .int .u8 (sgn s 3), .int .u8 (sgn s 4)] t)) := by
  have hB : Byt (w.alloc (.cells #[.int .u8 (sgn s 0), .int .u8 (sgn s 1), .int .u8 (sgn s 2), .int .u8 (sgn s 3), .int .u8 (sgn s 4)] t)) w.heap.size s.size (sgn s) := by
    refine ⟨by simp, fun j hj => ⟨?_, World.frozen?_alloc_at _ _ _ _ rfl⟩⟩
    rw [World.cell?_alloc_at _ _ _ _ rfl]
    rcases (show j = 0 ∨ j = 1 ∨ j = 2 ∨ j = 3 ∨ j = 4 by omega) with rfl | rfl | rfl | rfl | rfl <;> rfl
  have := Byt.text (P := Tryd.prog) (f := fun x => x) hB (fun j hj => by unfold sgn; rw [if_pos hj]) (fun x h0 h1 => ⟨h0, h1⟩) 92 9 5 cap Tryd.underlying92 Tryd.underlying5 Tryd.underlying9
  rw [mapS_id] at this
  exact this

theorem slice_signs (N : Nat) (hN : N ≤ 5) (a : Addr) (w : World) : (Instr.sliceAt 62 (.pointer (some a)) none (some (.int .i64 (N : Int))) none).run Tryd.prog w = .ok (.slice (some a) N 5) w := by
  rcases (show N = 0 ∨ N = 1 ∨ N = 2 ∨ N = 3 ∨ N = 4 ∨ N = 5 by omega) with rfl | rfl | rfl | rfl | rfl | rfl <;> kernel_rfl

set_option maxRecDepth 100000 in
set_option maxHeartbeats 4000000 in
theorem patternTexts_any (u : Value) (l : List ByteArray) (N : Nat) (w : World) (hu : RdP w u l) (hl : l.length ≤ 1000) (hN : N ≤ 5) (hs : ∀ s ∈ l, s.size = N) :
    Calls Tryd.prog 49 #[u, .int .i64 (N : Int)] w fun e w' => ∃ q, e = .returned q ∧ OwnsS w' w.heap.size q l ∧ Below w.heap.size w w' := by
  obtain ⟨i0, hi0, hz0, hz1, hz2⟩ := info_parts infoStr
  obtain ⟨ua, uc, rfl, hu⟩ := hu
  have HU := Lib.hid hu
  have HS : Hid (∀ i, i < l.length → (l.getD i ByteArray.empty).size = N) := fun i hi => by
    rw [List.getD_eq_getElem?_getD, List.getElem?_eq_getElem hi]
    exact hs _ (List.getElem_mem hi)
  have HT : Hid (∀ i, i < l.length → l.take (i + 1) = l.take i ++ [l.getD i ByteArray.empty]) := fun i hi => by
    rw [List.take_add_one, List.getD_eq_getElem?_getD, List.getElem?_eq_getElem hi]; rfl
  have HE : Hid (l.take l.length = l) := List.take_length
  have HLn : Hid (∀ k, (l.take k).length ≤ 1000) := fun k => by rw [List.length_take]; omega
  clear hu hs
  generalize l.length = n at *
  go_enter Tryd.func49, Tryd.ntmps49
  go_wp2_with fail
  go_loopw [5, 10] (fun q c wr => ∃ k : Nat, k ≤ n ∧ c = .int .i64 (k : Int) ∧ Below w.heap.size w wr ∧ Hid (OwnsS wr w.heap.size q (l.take k))) (fun _ c _ => n - (intOf c).toNat)
  case atStart => exact ⟨0, Nat.zero_le _, rfl, Below.refl _ _, World.ownsRow_nil _ _ _ _⟩
  case round =>
    obtain ⟨k, hk, rfl, hL, oo⟩ := hrel
    by_cases hkl : k < n
    · obtain ⟨g, rfl, hc⟩ := HU.out k hkl
      have c0 := cell_later hL (hc 0 (by omega))
      have c1 := cell_later hL (hc 1 (by omega))
      have c2 := cell_later hL (hc 2 (by omega))
      have c3 := cell_later hL (hc 3 (by omega))
      have c4 := cell_later hL (hc 4 (by omega))
      simp only [Nat.add_zero] at c0
      have hk1 : (k : Int) < (n : Int) := by omega
      have hk0 : (0 : Int) ≤ (k : Int) := by omega
      have hsz := HS.out k hkl
      have HN := Lib.hid (HT.out k hkl)
      have hlen := HLn.out k
      have hz := hL.size
      have hfrom := Lib.hid oo.out.lt
      generalize l.getD k ByteArray.empty = s at *
      have hcv : (convert 92 9 (.slice (some ⟨wr.heap.size, 0, none⟩) N 5)).run Tryd.prog (wr.alloc (.cells #[.int .u8 (sgn s 0), .int .u8 (sgn s 1), .int .u8 (sgn s 2), .int .u8 (sgn s 3), .int .u8 (sgn s 4)] 62)) = .ok (.string s) (wr.alloc (.cells #[.int .u8 (sgn s 0), .int .u8 (sgn s 1), .int .u8 (sgn s 2), .int .u8 (sgn s 3), .int .u8 (sgn s 4)] 62)) := by
        have := sgn_text wr s 5 (by omega) 62
        rw [hsz] at this; exact this
      have hsl := fun (a : Addr) (w : World) => slice_signs N hN a w
      have HOa := Lib.hid (fun o o2 => World.ownsRow.alloc (World.ownsRow.alloc oo.out o) o2)
      clear hc hsz oo
      generalize l.take k = L at *
      generalize sgn s 0 = x0 at *
      generalize sgn s 1 = x1 at *
      generalize sgn s 2 = x2 at *
      generalize sgn s 3 = x3 at *
      generalize sgn s 4 = x4 at *
      go_wp2_with (at_builtin; refine wpList_append_own _ rfl _ _ 38 rfl w.heap.size 9 i0 (.string ByteArray.empty) 1 16 Tryd.underlying38 hi0 hz0 hz1 hz2 rfl (by decide) _ L.length (L.map Value.string) rfl (HOa.out _ _) ⟨wr.heap.size + 1, 0, none⟩ 1 1 [.string s] rfl rfl (by have h := cell_one_new (wr.alloc (.cells #[.int .u8 x0, .int .u8 x1, .int .u8 x2, .int .u8 x3, .int .u8 x4] 62)) (.string s) 9; rw [World.size_alloc] at h; exact h) (by simp [Value.oneCell']) (by unfold maxLen; omega) (by omega) (by simp; omega) ?_; intro v' w1 hown' hgrow hnil)
      exact ⟨⟨k + 1, by omega, by go_num, ((hL.alloc (by omega) _).alloc (by simp; omega) _).grown hgrow (by simp; omega) (fun b e => (hfrom.out b e).1), by rw [HN.out]; exact OwnsS.snoc hown'⟩, by simp [intOf]; omega⟩
    · have e : k = n := by omega
      have hkn : ¬ (k : Int) < (n : Int) := by omega
      rw [e, HE.out] at oo
      clear e
      go_wp2_with fail
      go_ret
      exact ⟨_, rfl, oo.out, hL⟩

end Go.Proofs.YtohmhiodmaahfaaDoor
