/- Signs exchanged in a text: plain mathematics. -/
import Derived.Test.YtkdidplpnhokiaaSplitM
import Derived.Lib.Bytealg
namespace Go.Proofs.Ytkdidplpnhokiaa
open Go.RowKit
set_option linter.unusedVariables false

/-- a byte by its number -/
def u8 (c : Int) : UInt8 := UInt8.ofNat c.toNat
theorem u8_nat {c : Int} (h0 : 0 ≤ c) (h1 : c < 256) : ((u8 c).toNat : Int) = c := by
  unfold u8
  rw [UInt8.toNat_ofNat_of_lt' (by show c.toNat < 256; omega)]
  omega
theorem byteAt_u8 (s : ByteArray) (k : Nat) : ((u8 (byteAt s k)).toNat : Int) = byteAt s k := u8_nat (byteAt_bd s k).1 (byteAt_bd s k).2
/-- a text byte by byte -/
theorem byteAt_mk (l : List UInt8) (k : Nat) (h : k < l.length) : byteAt ⟨l.toArray⟩ k = (l[k].toNat : Int) := by
  rw [byteAt_eq ⟨l.toArray⟩ k (show k < l.toArray.size by simpa using h)]; rfl
theorem bytes_ext {s t : ByteArray} (h : s.size = t.size) (hb : ∀ k, k < s.size → byteAt s k = byteAt t k) : s = t := by
  apply ByteArray.ext
  apply Array.ext h
  intro i h1 h2
  have := hb i h1
  rw [byteAt_eq _ _ h1, byteAt_eq _ _ h2] at this
  have e : s[i].toNat = t[i].toNat := by omega
  exact UInt8.toNat_inj.1 e

/-- the bytes of a text, each by its own -/
def mapL (g : Int → Int) (s : ByteArray) : List UInt8 := (List.range s.size).map fun j => u8 (g (byteAt s j))
def mapS (g : Int → Int) (s : ByteArray) : ByteArray := ⟨(mapL g s).toArray⟩
theorem mapL_len (g : Int → Int) (s : ByteArray) : (mapL g s).length = s.size := by simp [mapL]
theorem mapL_get {g : Int → Int} (s : ByteArray) (hg : ∀ c, 0 ≤ c → c < 256 → 0 ≤ g c ∧ g c < 256) (j : Nat) (h : j < (mapL g s).length) : ((mapL g s)[j].toNat : Int) = g (byteAt s j) := by
  have hb := byteAt_bd s j
  have := hg _ hb.1 hb.2
  simp only [mapL, List.getElem_map, List.getElem_range]
  exact u8_nat this.1 this.2
theorem mapS_congr {g g' : Int → Int} (s : ByteArray) (h : ∀ c, 0 ≤ c → c < 256 → g c = g' c) : mapS g s = mapS g' s := by
  unfold mapS mapL
  congr 2
  apply List.map_congr_left
  intro j _
  have hb := byteAt_bd s j
  rw [h _ hb.1 hb.2]
theorem all256 {p : Int → Prop} (h : ∀ i : Fin 256, p (i.val : Int)) : ∀ c, 0 ≤ c → c < 256 → p c := by
  intro c h0 h1
  have := h ⟨c.toNat, by omega⟩
  have e : ((c.toNat : Nat) : Int) = c := by omega
  simpa [e] using this

/-- what stands in the place of the byte c: the byte of t at the last place below n where f has c -/
def swK (f t : ByteArray) (c : Int) : Nat → Int
  | 0 => c
  | k + 1 => if c = byteAt f k then byteAt t k else swK f t c k
theorem swK_bd (f t : ByteArray) (c : Int) (h0 : 0 ≤ c) (h1 : c < 256) (n : Nat) : 0 ≤ swK f t c n ∧ swK f t c n < 256 := by
  induction n with
  | zero => exact ⟨h0, h1⟩
  | succ n ih =>
    simp only [swK]; split
    · exact byteAt_bd t n
    · exact ih
/-- .. the byte of t at the first place where f has c -/
def sw1 (f t : ByteArray) (c : Int) : Int := if 0 ≤ Lib.indexByte f.data.toList c.toNat.toUInt8 then byteAt t (Lib.indexByte f.data.toList c.toNat.toUInt8).toNat else c
theorem sw1_bd (f t : ByteArray) (c : Int) (h0 : 0 ≤ c) (h1 : c < 256) : 0 ≤ sw1 f t c ∧ sw1 f t c < 256 := by
  unfold sw1; split
  · exact byteAt_bd t _
  · exact ⟨h0, h1⟩

def oppA : ByteArray := ⟨#[48, 49, 40, 41, 91, 93, 97, 98, 99, 100, 101, 65, 66, 67, 68, 69]⟩
def oppB : ByteArray := ⟨#[49, 48, 91, 93, 40, 41, 65, 66, 67, 68, 69, 97, 98, 99, 100, 101]⟩
def oppC : ByteArray := ⟨#[97, 98, 99, 100, 101, 65, 66, 67, 68, 69, 48, 49, 40, 41, 91, 93]⟩
def oppD : ByteArray := ⟨#[65, 66, 67, 68, 69, 97, 98, 99, 100, 101, 49, 48, 91, 93, 40, 41]⟩
def duaA : ByteArray := ⟨#[48, 49, 40, 41, 91, 93]⟩
def duaB : ByteArray := ⟨#[49, 48, 91, 93, 40, 41]⟩
theorem opp_same : ∀ c, 0 ≤ c → c < 256 → sw1 oppA oppB c = swK oppC oppD c 16 := all256 (by decide +kernel)
theorem dua_same : ∀ c, 0 ≤ c → c < 256 → sw1 duaA duaB c = swK duaA duaB c 6 := all256 (by decide +kernel)

end Go.Proofs.Ytkdidplpnhokiaa
