/- The text of a table: mathematics, and what TableText gives. -/
import Derived.Test.YtglbndobbmgjmaaDoorSwM
import Derived.Test.YtglbndobbmgjmaaDoorBase
import Derived.Lib.AppendStr
namespace Go.Proofs.YtglbndobbmgjmaaDoor
open Go.RowKit
set_option linter.unusedVariables false

/-- the signs of the text up to row k -/
def txtZ (n v : Int) (k : Nat) : List Int := [48 + n, 58] ++ (List.range k).map (fun (r : Nat) => 48 + digZ v (r : Int))
theorem txtZ_succ (n v : Int) (k : Nat) : txtZ n v (k + 1) = txtZ n v k ++ [48 + digZ v (k : Int)] := by
  unfold txtZ; rw [List.range_succ, List.map_append, List.append_assoc]; rfl
theorem txtZ_len (n v : Int) (k : Nat) : (txtZ n v k).length = k + 2 := by unfold txtZ; simp
theorem txtZ_bd {n v : Int} (n1 : 0 ≤ n) (n5 : n ≤ 9) (k : Nat) : ∀ x ∈ txtZ n v k, 0 ≤ x ∧ x < 256 := by
  intro x hx
  unfold txtZ at hx
  simp only [List.mem_append, List.mem_cons, List.not_mem_nil, or_false, List.mem_map, List.mem_range] at hx
  rcases hx with (rfl | rfl) | ⟨r, _, rfl⟩
  · omega
  · omega
  · have := digZ_bd v (r : Int); omega
/-- signs as a text -/
def strZ (l : List Int) : ByteArray := ⟨(l.map u8).toArray⟩
theorem strZ_append (a b : List Int) : strZ a ++ strZ b = strZ (a ++ b) := by
  apply ByteArray.ext
  rw [ByteArray.data_append]
  simp [strZ]
theorem strZ_len (l : List Int) : (l.map u8).length = l.length := by simp

def resTableText_0 (n v : Int) : ByteArray := if isTab n v then strZ (txtZ n v (2 ^ n.toNat)) else ⟨#[]⟩
def resTableText_1 (n v : Int) : Int := if isTab n v then 0 else 1

/-- the slice v has the bytes l, in a row of its own -/
def OwnsU (w : World) (base : Nat) (v : Value) (l : List Int) : Prop := w.ownsRow base 5 1 v l.length (l.map (Value.int .u8))
theorem OwnsU.keep {w w' : World} {base : Nat} {v : Value} {l : List Int} (h : OwnsU w base v l) (hb : Below w.heap.size w w') : OwnsU w' base v l := by
  obtain ⟨h1, h2⟩ := h
  refine ⟨h1, ?_⟩
  rcases h2 with h2 | ⟨g, cap, cur, hv, hbg, hg, r⟩
  · exact .inl h2
  · have hlt : g < w.heap.size := by
      rcases Nat.lt_or_ge g w.heap.size with h | h
      · exact h
      · rw [Array.getElem?_eq_none h] at hg; cases hg
    exact .inr ⟨g, cap, cur, hv, hbg, by rw [hb.block g hlt]; exact hg, r⟩
theorem OwnsU.snoc {w : World} {base : Nat} {v : Value} {l : List Int} {x : Int} (h : w.ownsRow base 5 1 v (l.length + 1) (l.map (Value.int .u8) ++ [.int .u8 x])) : OwnsU w base v (l ++ [x]) := by
  unfold OwnsU
  rw [List.length_append, List.length_singleton, List.map_append]
  exact h
theorem OwnsU.form {w : World} {base : Nat} {v : Value} {l : List Int} (h : OwnsU w base v l) (hn : 1 ≤ l.length) : ∃ g cap, v = .slice (some ⟨g, 0, none⟩) l.length cap := by
  obtain ⟨h1, h2⟩ := h
  rcases h2 with ⟨rfl, hn0⟩ | ⟨g, cap, cur, rfl, _⟩
  · omega
  · exact ⟨g, cap, rfl⟩
theorem OwnsU.text {P : Program} {w : World} {base g cap : Nat} {l : List Int} (h : OwnsU w base (.slice (some ⟨g, 0, none⟩) l.length cap) l) (hb : ∀ x ∈ l, 0 ≤ x ∧ x < 256)
    (src dst e : TypeId) (hs : P.underlying src = some (.slice e)) (he : P.underlying e = some (.int .u8)) (hd : P.underlying dst = some .string) :
    (convert src dst (.slice (some ⟨g, 0, none⟩) l.length cap)).run P w = .ok (.string (strZ l)) w := by
  have h0 : w.ownsRow base 5 1 (.slice (some ⟨g, 0, none⟩) l.length cap) l.length (l.map (Value.int .u8)) := h
  have := run_convert_bytes_back (P := P) w src dst e ⟨g, 0, none⟩ cap (l.map u8) hs he hd (fun j hj => by
    have hj' : j < l.length := by simpa using hj
    have hm : l[j] ∈ l := List.getElem_mem hj'
    have hbj := hb _ hm
    rw [List.getElem_map, u8_nat hbj.1 hbj.2, Addr.add_lit, Nat.zero_add, h0.cellAt j (by omega)]
    simp [hj'])
  rw [List.length_map] at this
  exact this
theorem infoU8 : (Tryd.prog.info? 5).map (fun i => (i.zero, i.size, i.bytes)) = some (some (.int .u8 0), 1, 1) := by kernel_rfl

end Go.Proofs.YtglbndobbmgjmaaDoor
