/- Bytes of a text in a block of the call's own; the place of a byte in a text. -/
import Derived.Test.YtohmhiodmaahfaaDoorSwM
import Derived.Test.YtohmhiodmaahfaaDoorBase
import Derived.LoopTactic
import Derived.Laws.IdiomStrings
import Derived.Laws.StandIn
import Derived.Lib.Bytealg
namespace Go.Proofs.YtohmhiodmaahfaaDoor
open Go.RowKit
set_option linter.unusedVariables false

/-- block g holds n bytes c 0, c 1 .., none of them frozen -/
def Byt (w : World) (g n : Nat) (c : Nat → Int) : Prop := g < w.heap.size ∧ ∀ j, j < n → w.cell? ⟨g, j, none⟩ = some (.int .u8 (c j)) ∧ w.frozen? ⟨g, j, none⟩ = false
theorem Byt.keep {w w' : World} {g n : Nat} {c : Nat → Int} (h : Byt w g n c) (hb : Below w.heap.size w w') : Byt w' g n c := by
  have := hb.size
  exact ⟨by have := h.1; omega, fun j hj => ⟨(hb.cell (p := ⟨g, j, none⟩) h.1).trans (h.2 j hj).1, (hb.frozen (p := ⟨g, j, none⟩) h.1).trans (h.2 j hj).2⟩⟩
theorem Byt.set {w : World} {g n : Nat} {c c' : Nat → Int} (h : Byt w g n c) (i : Nat) (v : Int) (h1 : c' i = v) (h2 : ∀ j, j ≠ i → c' j = c j) (hi : i < n) : Byt (w.setCell ⟨g, i, none⟩ (.int .u8 v)) g n c' := by
  refine ⟨by rw [World.size_setCell]; exact h.1, fun j hj => ⟨?_, by rw [World.frozen?_setCell]; exact (h.2 j hj).2⟩⟩
  by_cases e : j = i
  · subst e
    rw [h1]
    exact World.cell?_setCell_same w ⟨g, j, none⟩ _ (h.2 j hj).1
  · rw [h2 j e]
    exact (World.cell?_setCell_other w ⟨g, i, none⟩ ⟨g, j, none⟩ _ (by intro h; injection h with _ h2; exact e h2.symm)).trans (h.2 j hj).1
theorem Byt.congr {w : World} {g n : Nat} {c c' : Nat → Int} (h : Byt w g n c) (he : ∀ j, j < n → c' j = c j) : Byt w g n c' := ⟨h.1, fun j hj => by rw [he j hj]; exact h.2 j hj⟩
theorem bytesRow_get (s : ByteArray) (cap j : Nat) (h : j < s.size) : (bytesRow s cap)[j]? = some (.int .u8 (byteAt s j)) := by
  have h' : j < (s.data.map (fun b => Value.int .u8 b.toNat)).size := by rw [Array.size_map]; exact h
  unfold bytesRow
  rw [Array.getElem?_append_left h', Array.getElem?_eq_getElem h', Array.getElem_map, byteAt_eq _ _ h]
  rfl
theorem bytesRow_size (s : ByteArray) (cap : Nat) : s.size ≤ (bytesRow s cap).size := by
  unfold bytesRow
  rw [Array.size_append, Array.size_map]
  exact Nat.le_add_right _ _
theorem Byt.new (w : World) (s : ByteArray) (cap : Nat) (e : TypeId) : Byt (w.alloc (.cells (bytesRow s cap) e ((bytesRow s cap).size, (bytesRow s cap).size + 1))) w.heap.size s.size (byteAt s) := by
  refine ⟨by simp, fun j hj => ⟨?_, ?_⟩⟩
  · rw [World.cell?_alloc_mark, bytesRow_get s cap j hj]
  · rw [World.frozen?_alloc_mark]
    have := bytesRow_size s cap
    have : ¬ (bytesRow s cap).size ≤ j := by omega
    simp [this]
/-- the text of such bytes -/
theorem Byt.text {P : Program} {w : World} {g : Nat} {c : Nat → Int} {s : ByteArray} {f : Int → Int} (h : Byt w g s.size c) (hc : ∀ j, j < s.size → c j = f (byteAt s j)) (hf : ∀ x, 0 ≤ x → x < 256 → 0 ≤ f x ∧ f x < 256)
    (src dst e : TypeId) (cap : Nat) (hs : P.underlying src = some (.slice e)) (he : P.underlying e = some (.int .u8)) (hd : P.underlying dst = some .string) :
    (convert src dst (.slice (some ⟨g, 0, none⟩) s.size cap)).run P w = .ok (.string (mapS f s)) w := by
  have := run_convert_bytes_back (P := P) w src dst e ⟨g, 0, none⟩ cap (mapL f s) hs he hd (fun j hj => by
    have hj' : j < s.size := by rw [mapL_len] at hj; exact hj
    rw [mapL_get s hf j hj, ← hc j hj', Addr.add_lit, Nat.zero_add]
    exact (h.2 j hj').1)
  rw [mapL_len] at this
  exact this

/-! ### the place of a byte in a text -/
set_option maxRecDepth 100000 in
set_option maxHeartbeats 1000000 in
theorem stringsliteIndexByte (s : ByteArray) (c : Int) (w : World) :
    Calls Tryd.prog 92 #[.string s, .int .u8 c] w fun e w' => e = .returned (.int .i64 (Lib.indexByte s.data.toList c.toNat.toUInt8)) ∧ w = w' := by
  go_enter Tryd.func92, Tryd.ntmps92
  go_wp2
  rw [run_callFunc_extern Tryd.func105 (by kernel_rfl) (by kernel_rfl) (by kernel_rfl) (e := Extern.BytealgIndexByte.indexByte) (by kernel_rfl), Lib.run_indexByteString]
  simp only [Result.andThen]
  rw [Oper.upon_value]
  go_wp2
  go_ret
  exact ⟨rfl, rfl⟩
theorem stringsIndexByte (s : ByteArray) (c : Int) (w : World) {r : Int} (hr : Lib.indexByte s.data.toList c.toNat.toUInt8 = r) :
    Calls Tryd.prog 67 #[.string s, .int .u8 c] w fun e w' => e = .returned (.int .i64 r) ∧ w = w' := by
  have HC := Lib.hid (stringsliteIndexByte s c w)
  subst hr
  go_enter Tryd.func67, Tryd.ntmps67
  go_wp2_with (go_at_call 92; refine HC.out.mono ?_; rintro e w' ⟨rfl, rfl⟩)
  go_ret
  exact ⟨rfl, rfl⟩

end Go.Proofs.YtohmhiodmaahfaaDoor
