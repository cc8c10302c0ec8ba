/- Signs exchanged in a text: the program's and the model's. -/
import Derived.Test.YtkbgboooidfloaaByt
import Derived.Lib.IndexLaws
import Derived.Deep.QuietTactic
import Derived.BigQuiet
namespace Go.Proofs.Ytkbgboooidfloaa
open Go.RowKit
set_option linter.unusedVariables false

/-- the bytes when those below i are done -/
def doneB (f : Int → Int) (s : ByteArray) (i j : Nat) : Int := if j < i then f (byteAt s j) else byteAt s j
theorem doneB_zero (f : Int → Int) (s : ByteArray) (j : Nat) : doneB f s 0 j = byteAt s j := by unfold doneB; rw [if_neg (by omega)]
theorem doneB_at (f : Int → Int) (s : ByteArray) (i : Nat) : doneB f s i i = byteAt s i := by unfold doneB; rw [if_neg (by omega)]
theorem doneB_new (f : Int → Int) (s : ByteArray) (i : Nat) : doneB f s (i + 1) i = f (byteAt s i) := by unfold doneB; rw [if_pos (by omega)]
theorem doneB_old (f : Int → Int) (s : ByteArray) (i j : Nat) (h : j ≠ i) : doneB f s (i + 1) j = doneB f s i j := by
  unfold doneB
  by_cases e : j < i
  · rw [if_pos (by omega), if_pos e]
  · rw [if_neg (by omega), if_neg e]
theorem doneB_all (f : Int → Int) (s : ByteArray) (j : Nat) (h : j < s.size) : doneB f s s.size j = f (byteAt s j) := by unfold doneB; rw [if_pos h]
theorem doneB_skip (f : Int → Int) (s : ByteArray) (i : Nat) (h : f (byteAt s i) = byteAt s i) (j : Nat) : doneB f s (i + 1) j = doneB f s i j := by
  by_cases e : j = i
  · subst e; rw [doneB_new, doneB_at, h]
  · exact doneB_old f s i j e

theorem Byt.drew {w : World} {g n : Nat} {c : Nat → Int} (h : Byt w g n c) : Byt w.drew g n c := h
theorem indexByte_lt' (l : List UInt8) (c : UInt8) (h : 0 ≤ Lib.indexByte l c) : (Lib.indexByte l c).toNat < l.length := by
  obtain ⟨o, ho⟩ : ∃ o : Nat, Lib.indexByte l c = (o : Int) := ⟨(Lib.indexByte l c).toNat, by omega⟩
  have := (Lib.indexByte_some ho).1
  rw [ho, Int.toNat_natCast]
  exact (List.getElem?_eq_some_iff.1 this).1

set_option maxRecDepth 100000 in
set_option maxHeartbeats 2000000 in
theorem withSigns_any (s f t : ByteArray) (hs : s.size ≤ 1048576) (hft : f.size = t.size) (hf : f.size ≤ 100) (w : World) :
    Calls Try.prog 36 #[.string s, .string f, .string t] w fun e w' => e = .returned (.string (mapS (sw1 f t) s)) ∧ Below w.heap.size w w' := by
  have hcv := fun (w : World) => run_bytes_of_string (P := Try.prog) w 9 48 5 s Try.underlying9 Try.underlying48 Try.underlying5
  have HB := Lib.hid (fun (w : World) (cap : Nat) => Byt.new w s cap 5)
  have hs63 : s.size ≤ 9223372036854775807 := by omega
  go_enter Try.func36, Try.ntmps36
  go_wp2_with fail
  clear hcv
  generalize grownCap w s.size 0 5 = cap at *
  have hB0 := HB.out w cap
  have hL0 : Below w.heap.size w (w.alloc (.cells (bytesRow s cap) 5 ((bytesRow s cap).size, (bytesRow s cap).size + 1))) := (Below.refl _ _).alloc (Nat.le_refl _) _
  go_loopw [15] (fun c wr => ∃ k : Nat, k ≤ s.size ∧ c = .int .i64 (k : Int) ∧ Below w.heap.size w wr ∧ Byt wr w.heap.size s.size (doneB (sw1 f t) s k)) (fun c _ => s.size - (intOf c).toNat)
  case atStart => exact ⟨0, Nat.zero_le _, rfl, Bdrew hL0 1, Byt.drew <| hB0.congr fun j _ => doneB_zero _ _ _⟩
  case round =>
    clear hB0 hL0
    obtain ⟨k, hk, rfl, hL, hB⟩ := hrel
    by_cases hlt : k < s.size
    · have hca := (hB.2 k hlt).1
      have hfr := (hB.2 k hlt).2
      rw [doneB_at] at hca
      have hi1 : (k : Int) < (s.size : Int) := by omega
      have hi0 : (0 : Int) ≤ (k : Int) := by omega
      obtain ⟨r, hr⟩ : ∃ r, Lib.indexByte f.data.toList (byteAt s k).toNat.toUInt8 = r := ⟨_, rfl⟩
      have HI := Lib.hid (stringsIndexByte f (byteAt s k) · hr)
      have Hb := Lib.hid hB
      by_cases h0 : 0 ≤ r
      · have hrl : r.toNat < f.size := by
          have := indexByte_lt' f.data.toList (byteAt s k).toNat.toUInt8 (by rw [hr]; exact h0)
          rw [hr] at this
          simpa using this
        have hrt : r.toNat < t.size := by omega
        have hri : r < (t.size : Int) := by omega
        have hd : decide (0 ≤ r) = true := decide_eq_true h0
        have hby := byteAt_eq t r.toNat hrt
        have HS : Hid (sw1 f t (byteAt s k) = (t[r.toNat].toNat : Int)) := by unfold Hid sw1; rw [hr, if_pos h0, hby]
        have HT := Lib.hid (fun v (h : v = sw1 f t (byteAt s k)) => hB.set k v (by rw [doneB_new, h]) (fun j hj => doneB_old (sw1 f t) s k j hj) hlt)
        clear hr hB hby
        generalize byteAt s k = x at *
        go_wp2_with (go_at_call 50; refine (HI.out _).mono ?_; rintro e w' ⟨rfl, rfl⟩)
        go_roundw
        case rel => exact ⟨k + 1, by omega, by go_num, hL.setCell (p := ⟨w.heap.size, k, none⟩) (Nat.le_refl _) _, HT.out _ HS.out.symm⟩
        case measure => simp [intOf]; omega
      · have hd : decide (0 ≤ r) = false := decide_eq_false h0
        have HS : Hid (sw1 f t (byteAt s k) = byteAt s k) := by unfold Hid sw1; rw [hr, if_neg h0]
        clear hr hB
        generalize hxx : byteAt s k = x at *
        go_wp2_with (go_at_call 50; refine (HI.out _).mono ?_; rintro e w' ⟨rfl, rfl⟩)
        go_roundw
        case rel => exact ⟨k + 1, by omega, by go_num, hL, Hb.out.congr fun j _ => doneB_skip (sw1 f t) s k (by rw [hxx]; exact HS.out) j⟩
        case measure => simp [intOf]; omega
    · have e : k = s.size := by omega
      subst e
      have hback := Byt.text (P := Try.prog) hB (fun j hj => doneB_all _ _ _ hj) (sw1_bd f t) 48 9 5 cap Try.underlying48 Try.underlying5 Try.underlying9
      go_wp2_with fail
      go_ret
      exact ⟨rfl, hL⟩

/-- the bytes when those below i are done, and the first k places are looked at for the byte i -/
def partB (f t s : ByteArray) (i k j : Nat) : Int := if j = i then swK f t (byteAt s j) k else doneB (fun c => swK f t c f.size) s i j
theorem partB_zero (f t s : ByteArray) (i j : Nat) : partB f t s i 0 j = doneB (fun c => swK f t c f.size) s i j := by
  unfold partB; split
  · rename_i e; subst e; rw [doneB_at]; rfl
  · rfl
theorem partB_all (f t s : ByteArray) (i j : Nat) : partB f t s i f.size j = doneB (fun c => swK f t c f.size) s (i + 1) j := by
  unfold partB; split
  · rename_i e; subst e; rw [doneB_new]
  · rename_i e; rw [doneB_old _ _ _ _ e]
theorem partB_at (f t s : ByteArray) (i k : Nat) : partB f t s i k i = swK f t (byteAt s i) k := by unfold partB; rw [if_pos rfl]
theorem partB_old (f t s : ByteArray) (i k k' j : Nat) (h : j ≠ i) : partB f t s i k j = partB f t s i k' j := by unfold partB; rw [if_neg h, if_neg h]
theorem partB_skip (f t s : ByteArray) (i k : Nat) (h : byteAt s i ≠ byteAt f k) (j : Nat) : partB f t s i (k + 1) j = partB f t s i k j := by
  by_cases e : j = i
  · subst e; rw [partB_at, partB_at]; simp only [swK]; rw [if_neg h]
  · exact partB_old f t s i _ _ j e

set_option maxRecDepth 100000 in
set_option maxHeartbeats 2000000 in
theorem l04Exchange_any (s f t : ByteArray) (hs : s.size ≤ 1048576) (hft : f.size = t.size) (hf : f.size ≤ 100) (w : World) :
    Calls Try.prog 34 #[.string s, .string f, .string t] w fun e w' => e = .returned (.string (mapS (fun c => swK f t c f.size) s)) ∧ Below w.heap.size w w' := by
  have hcv := fun (w : World) => run_bytes_of_string (P := Try.prog) w 9 48 5 s Try.underlying9 Try.underlying48 Try.underlying5
  have HB := Lib.hid (fun (w : World) (cap : Nat) => Byt.new w s cap 5)
  have hs63 : s.size ≤ 9223372036854775807 := by omega
  have hf63 : f.size ≤ 9223372036854775807 := by omega
  have HFT := Lib.hid hft
  clear hft
  go_enter Try.func34, Try.ntmps34
  go_wp2_with fail
  clear hcv
  generalize grownCap w s.size 0 5 = cap at *
  have hB0 := HB.out w cap
  have hL0 : Below w.heap.size w (w.alloc (.cells (bytesRow s cap) 5 ((bytesRow s cap).size, (bytesRow s cap).size + 1))) := (Below.refl _ _).alloc (Nat.le_refl _) _
  go_loopw [8] (fun c wr => ∃ i : Nat, i ≤ s.size ∧ c = .int .i64 (i : Int) ∧ Below w.heap.size w wr ∧ Byt wr w.heap.size s.size (doneB (fun c => swK f t c f.size) s i)) (fun c _ => s.size - (intOf c).toNat)
  case atStart => exact ⟨0, Nat.zero_le _, rfl, Bdrew hL0 1, Byt.drew <| hB0.congr fun j _ => doneB_zero _ _ _⟩
  case round =>
    clear hB0 hL0 HB
    obtain ⟨i, hi, rfl, hL, hB⟩ := hrel
    by_cases hlt : i < s.size
    · have hi1 : (i : Int) < (s.size : Int) := by omega
      have hi0 : (0 : Int) ≤ (i : Int) := by omega
      have hLo := hL
      have hBo := hB.congr (c' := partB f t s i 0) fun j _ => partB_zero f t s i j
      clear hL hB
      obtain ⟨wo, hwo⟩ : ∃ wo : World, wo = wr := ⟨_, rfl⟩
      subst hwo
      go_wp2_with fail
      go_loopw [9] (fun c wr => ∃ k : Nat, k ≤ f.size ∧ c = .int .i64 (k : Int) ∧ Below w.heap.size w wr ∧ Byt wr w.heap.size s.size (partB f t s i k)) (fun c _ => f.size - (intOf c).toNat)
      case atStart => exact ⟨0, Nat.zero_le _, rfl, hLo, hBo⟩
      case round =>
        clear hLo hBo
        obtain ⟨k, hk, rfl, hL, hB⟩ := hrel
        by_cases hlk : k < f.size
        · have hca := (hB.2 i hlt).1
          have hfr := (hB.2 i hlt).2
          have hk1 : (k : Int) < (f.size : Int) := by omega
          have hk0 : (0 : Int) ≤ (k : Int) := by omega
          have hkt : k < t.size := by have := HFT.out; omega
          have hkt1 : (k : Int) < (t.size : Int) := by omega
          have hbs := byteAt_eq s i hlt
          have hbf := byteAt_eq f k hlk
          have hbt := byteAt_eq t k hkt
          by_cases hbb : byteAt s i = byteAt f k
          · have hd : ((s[i].toNat : Int) == (f[k].toNat : Int)) = true := by rw [← hbs, ← hbf, hbb]; simp
            have HT : Hid (Byt (wr.setCell ⟨w.heap.size, i, none⟩ (.int .u8 (t[k].toNat : Int))) w.heap.size s.size (partB f t s i (k + 1))) :=
              hB.set i _ (by rw [partB_at, ← hbt]; simp only [swK]; rw [if_pos hbb]) (fun j hj => partB_old f t s i _ _ j hj) hlt
            clear hB hbs hbf hbt hbb
            go_wp2_with fail
            go_quiet (fail)
            go_wp2_with fail
            exact ⟨⟨k + 1, by omega, by go_num, Bdrew (hL.setCell (p := ⟨w.heap.size, i, none⟩) (Nat.le_refl _) _) _, HT.out⟩, by simp [intOf]; omega⟩
          · have hd : ((s[i].toNat : Int) == (f[k].toNat : Int)) = false := by rw [← hbs, ← hbf]; simpa using hbb
            have HT : Hid (Byt wr w.heap.size s.size (partB f t s i (k + 1))) := hB.congr fun j _ => partB_skip f t s i k hbb j
            clear hB hbs hbf hbt hbb
            go_wp2_with fail
            go_quiet (fail)
            go_wp2_with fail
            exact ⟨⟨k + 1, by omega, by go_num, Bdrew hL _, HT.out⟩, by simp [intOf]; omega⟩
        · have e : k = f.size := by omega
          subst e
          have hB2 := hB.congr (c' := doneB (fun c => swK f t c f.size) s (i + 1)) fun j _ => (partB_all f t s i j).symm
          clear hB
          go_wp2_with fail
          exact ⟨⟨i + 1, by omega, by go_num, hL, hB2⟩, by simp [intOf]; omega⟩
    · have e : i = s.size := by omega
      subst e
      have hback := Byt.text (P := Try.prog) hB (fun j hj => doneB_all _ _ _ hj) (fun x h0 h1 => swK_bd f t x h0 h1 f.size) 48 9 5 cap Try.underlying48 Try.underlying5 Try.underlying9
      go_wp2_with fail
      go_ret
      exact ⟨rfl, hL⟩

end Go.Proofs.Ytkbgboooidfloaa
