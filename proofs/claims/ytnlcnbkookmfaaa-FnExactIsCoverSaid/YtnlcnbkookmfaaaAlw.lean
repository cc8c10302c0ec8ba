/- The rules that two rows keep: the program's methods. -/
import Derived.Test.YtnlcnbkookmfaaaApp
import Derived.Test.YtnlcnbkookmfaaaChS
import Derived.Test.YtnlcnbkookmfaaaArrE
import Derived.Test.YtnlcnbkookmfaaaBitM
import Derived.Test.YtnlcnbkookmfaaaLkH
namespace Go.Proofs.Ytnlcnbkookmfaaa
open Go.RowKit
set_option linter.unusedVariables false

def out1 (yss : List (List Int)) (A B C : Nat) : Bool := decide (plZ yss A C = -1 ∨ plZ yss B C = -1 ∨ plZ yss A C = plZ yss B C)
def fol1 (K : Nat → Int) (xss : List (List Int)) (A B C : Nat) : Bool := decide (plZ xss A C = -1 ∨ plZ xss B C = -1 ∨ digZ (K (plZ xss A C).toNat) (plZ xss B C) = 1)

set_option maxRecDepth 100000 in
set_option maxHeartbeats 1000000 in
theorem likeOutputs_any (v : Value) (p : Int) (xss yss : List (List Int)) (A B C : Nat) (w : World) (ha : ReadsH w v p xss yss) (hb : chaB p xss yss = true) (hA : A < xss.length) (hB : B < xss.length) (hC : (C : Int) < p) :
    Calls Try.prog 155 #[v, .int .i64 (A : Int), .int .i64 (B : Int), .int .i64 (C : Int)] w fun e w' => e = .returned (.bool (out1 yss A B C)) ∧ Below w.heap.size w w' := by
  obtain ⟨a, ca, b', cb, rfl, _, h2⟩ := ha
  obtain ⟨-, -, hl, -, -⟩ := chaB_out hb
  have h0 := C3.here w (.int .i64 p) (.slice a xss.length ca) (.slice b' yss.length cb) 97
  obtain ⟨ab, ao, ub, uo, uc, rfl, hx, hy⟩ := h2.place (r := A) (by omega) (c := C) (by have := (row_len hb hA).2; omega)
  obtain ⟨ab2, ao2, vb, vo, vc, e, hx2, hy2⟩ := h2.place (r := B) (by omega) (c := C) (by have := (row_len hb hB).2; omega)
  simp only [Option.some.injEq, Addr.mk.injEq, and_true] at e
  obtain ⟨rfl, rfl⟩ := e
  have c1 : (C : Int) < ((yss.getD A []).length : Int) := by have := (row_len hb hA).2; omega
  have c2 : (C : Int) < ((yss.getD B []).length : Int) := by have := (row_len hb hB).2; omega
  have hA1 : (A : Int) < (yss.length : Int) := by omega
  have hB1 : (B : Int) < (yss.length : Int) := by omega
  have hA0 : (0 : Int) ≤ (A : Int) := by omega
  have hB0 : (0 : Int) ≤ (B : Int) := by omega
  have hC0 : (0 : Int) ≤ (C : Int) := by omega
  have hR : Hid (out1 yss A B C = (plZ yss A C == -1 || (plZ yss B C == -1 || plZ yss A C == plZ yss B C))) := by
    unfold Hid out1; rw [Bool.eq_iff_iff]; simp
  have hbl : Hid (Below w.heap.size w (w.alloc (.cells #[.int .i64 p, .slice a xss.length ca, .slice (some ⟨ab, ao, none⟩) yss.length cb] 97))) := by unfold Hid; go_grown
  have d1 := cell_later hbl.out hx
  have d2 := cell_later hbl.out hy
  have d3 := cell_later hbl.out hx2
  have d4 := cell_later hbl.out hy2
  clear hx hy hx2 hy2 hb hl h2
  generalize plZ yss A C = s at *
  generalize plZ yss B C = t at *
  generalize (yss.getD A []).length = l1 at *
  generalize (yss.getD B []).length = l2 at *
  generalize xss.length = n at *
  generalize yss.length = m at *
  cases hs : (s == -1)
  · cases ht : (t == -1)
    · go_enter Try.func155, Try.ntmps155
      go_wp2_with fail
      go_quiet (fail)
      go_wp2_with fail
      go_ret
      exact ⟨by rw [hR.out, hs, ht]; rfl, by first | exact Bdrew hbl.out _ | go_grown⟩
    · go_enter Try.func155, Try.ntmps155
      go_wp2_with fail
      go_quiet (fail)
      go_wp2_with fail
      go_ret
      exact ⟨by rw [hR.out, hs, ht]; rfl, by first | exact Bdrew hbl.out _ | go_grown⟩
  · go_enter Try.func155, Try.ntmps155
    go_wp2_with fail
    go_quiet (fail)
    go_wp2_with fail
    go_ret
    exact ⟨by rw [hR.out, hs]; rfl, by first | exact Bdrew hbl.out _ | go_grown⟩

set_option maxRecDepth 100000 in
set_option maxHeartbeats 1000000 in
theorem likeFollowers_any (p : Int) (s1 s2 : Value) (xss yss : List (List Int)) (K : Nat → Int) (A B C : Nat) (w : World) (ha : ReadsH w (.agg #[.int .i64 p, s1, s2]) p xss yss) (hb : chaB p xss yss = true) (hK : ∀ i, 0 ≤ K i ∧ K i < 256) (hA : A < xss.length) (hB : B < xss.length) (hC : (C : Int) < p) :
    Calls Try.prog 156 #[.agg #[.int .i64 p, s1, s2, .int .i64 (K 0), .int .i64 (K 1), .int .i64 (K 2), .int .i64 (K 3), .int .i64 (K 4), .int .i64 (K 5), .int .i64 (K 6), .int .i64 (K 7)], .int .i64 (A : Int), .int .i64 (B : Int), .int .i64 (C : Int)] w fun e w' => e = .returned (.bool (fol1 K xss A B C)) ∧ Below w.heap.size w w' := by
  obtain ⟨a, ca, b', cb, e, h1, _⟩ := ha
  simp only [Value.agg.injEq, Array.mk.injEq, List.cons.injEq, and_true, true_and] at e
  obtain ⟨rfl, rfl⟩ := e
  obtain ⟨⟨n1, n8⟩, -, -⟩ := chaB_out hb
  obtain ⟨ab, ao, ub, uo, uc, rfl, hx, hy⟩ := h1.place (r := A) (by omega) (c := C) (by have := (row_len hb hA).1; omega)
  obtain ⟨ab2, ao2, vb, vo, vc, e, hx2, hy2⟩ := h1.place (r := B) (by omega) (c := C) (by have := (row_len hb hB).1; omega)
  simp only [Option.some.injEq, Addr.mk.injEq, and_true] at e
  obtain ⟨rfl, rfl⟩ := e
  have c1 : (C : Int) < ((xss.getD A []).length : Int) := by have := (row_len hb hA).1; omega
  have c2 : (C : Int) < ((xss.getD B []).length : Int) := by have := (row_len hb hB).1; omega
  have b1 := nx_bd hb hA hC
  have b2 := nx_bd hb hB hC
  have hA1 : (A : Int) < (xss.length : Int) := by omega
  have hB1 : (B : Int) < (xss.length : Int) := by omega
  have hA0 : (0 : Int) ≤ (A : Int) := by omega
  have hB0 : (0 : Int) ≤ (B : Int) := by omega
  have hC0 : (0 : Int) ≤ (C : Int) := by omega
  have hR : Hid (fol1 K xss A B C = (plZ xss A C == -1 || (plZ xss B C == -1 || digZ (K (plZ xss A C).toNat) (plZ xss B C) == 1))) := by
    unfold Hid fol1; rw [Bool.eq_iff_iff]; simp
  obtain ⟨W, hW⟩ : ∃ W, w.alloc (.cells #[.int .i64 p, .slice (some ⟨ab, ao, none⟩) xss.length ca, .slice b' yss.length cb, .int .i64 (K 0), .int .i64 (K 1), .int .i64 (K 2), .int .i64 (K 3), .int .i64 (K 4), .int .i64 (K 5), .int .i64 (K 6), .int .i64 (K 7)] 99) = W := ⟨_, rfl⟩
  have hbl : Hid (Below w.heap.size w W) := by unfold Hid; rw [← hW]; go_grown
  have d1 := cell_later hbl.out hx
  have d2 := cell_later hbl.out hy
  have d3 := cell_later hbl.out hx2
  have d4 := cell_later hbl.out hy2
  have e1 : W.cell? ⟨w.heap.size, 1, none⟩ = some (.slice (some ⟨ab, ao, none⟩) xss.length ca) := by rw [← hW, World.cell?_alloc_at _ _ _ _ rfl]; rfl
  have HK : Hid (∀ i, i < 8 → W.cell? ⟨w.heap.size, 3 + i, none⟩ = some (.int .i64 (K i))) := fun i hi => by
    rw [← hW, World.cell?_alloc_at _ _ _ _ rfl]
    have : i = 0 ∨ i = 1 ∨ i = 2 ∨ i = 3 ∨ i = 4 ∨ i = 5 ∨ i = 6 ∨ i = 7 := by omega
    rcases this with rfl | rfl | rfl | rfl | rfl | rfl | rfl | rfl <;> rfl
  have HW := Lib.hid hW
  clear hx hy hx2 hy2 hb h1 hW
  have n8' : (xss.length : Int) ≤ 8 := by omega
  generalize plZ xss A C = s at *
  generalize plZ xss B C = t at *
  generalize (xss.getD A []).length = l1 at *
  generalize (xss.getD B []).length = l2 at *
  generalize xss.length = n at *
  generalize yss.length = m at *
  cases hs : (s == -1)
  · cases ht : (t == -1)
    · have hs' : s ≠ -1 := by simpa using hs
      have ht' : t ≠ -1 := by simpa using ht
      obtain ⟨S, rfl⟩ : ∃ S : Nat, s = (S : Int) := ⟨s.toNat, by omega⟩
      have hkS := HK.out S (by omega)
      have hkb := hK S
      rw [Int.toNat_natCast] at hR
      generalize K S = ks at *
      have HD := Lib.hid (fun w => digitAt_any ks t w hkb.1 (by omega) (by omega) (by omega))
      generalize digZ ks t = d at *
      have hS0 : (0 : Int) ≤ (S : Int) := by omega
      have hS1 : (S : Int) < 8 := by omega
      clear b1 b2 hs' ht' hK
      go_enter Try.func156, Try.ntmps156
      go_upto_region 1 with fail
      rw [HW.out]
      go_quiet (fail)
      go_wp2_with ((go_at_call 66; (with_reducible refine (HD.out _).mono ?_); rintro e w' ⟨rfl, rfl⟩))
      go_ret
      exact ⟨by rw [hR.out, hs, ht]; rfl, by first | exact Bdrew hbl.out _ | go_grown⟩
    · clear b1 b2 hK
      go_enter Try.func156, Try.ntmps156
      go_upto_region 1 with fail
      rw [HW.out]
      go_quiet (fail)
      go_wp2_with fail
      go_ret
      exact ⟨by rw [hR.out, hs, ht]; rfl, by first | exact Bdrew hbl.out _ | go_grown⟩
  · clear b1 b2 hK
    go_enter Try.func156, Try.ntmps156
    go_upto_region 1 with fail
    rw [HW.out]
    go_quiet (fail)
    go_wp2_with fail
    go_ret
    exact ⟨by rw [hR.out, hs]; rfl, by first | exact Bdrew hbl.out _ | go_grown⟩

end Go.Proofs.Ytnlcnbkookmfaaa
