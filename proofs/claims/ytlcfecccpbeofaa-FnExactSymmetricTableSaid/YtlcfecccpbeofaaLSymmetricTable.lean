/- The walk of FnExactSymmetricTable. -/
import Derived.Test.YtlcfecccpbeofaaSym
import Derived.Test.YtlcfecccpbeofaaSSym
import Derived.Test.YtlcfecccpbeofaaRowRd
namespace Go.Proofs.Ytlcfecccpbeofaa
open Go.RowKit
set_option linter.unusedVariables false

set_option maxHeartbeats 2000000 in
theorem walkFnExactSymmetricTable (n : Int) (wn : (Lit.int .i64 n).wf = true) (a : Option Addr) (len cap : Nat) (zs : List Int) (w : World) (hrow : IsRow .i64 w a len cap zs) :
    Calls Try.prog 3 #[.int .i64 n, .slice a len cap] w fun e w' => e = .returned (.bool true) ∧ Below w.heap.size w w' := by
  have hR := hrow.reads
  have hl : (zs.take len).length ≤ len ∧ ((zs.take len).length = len) := by
    rcases hrow with ⟨rfl, rfl, rfl, rfl⟩ | ⟨x, rfl, h1, h2, h3, _, _⟩
    · simp
    · simp; omega
  clear hrow
  by_cases hbig : 1048576 < len
  · have hb1 : (1048576 : Int) < (len : Int) := by omega
    clear hl hR
    go_enter Try.func3, Try.ntmps3
    go_wp2
    go_ret
    exact ⟨rfl, Below.refl _ _⟩
  · have hb1 : ¬ (1048576 : Int) < (len : Int) := by omega
    have hlen : Hid ((zs.take len).length ≤ 1048576) := by unfold Hid; omega
    obtain ⟨x1, x2, x3, hres⟩ := symRes_cases n (zs.take len)
    have D1 : Hid (∀ (v : Value) (w : World), Reads w v (zs.take len) → Calls Try.prog 10 #[.int .i64 n, v] w fun e w' => e = .returned (.tuple #[.agg #[.int .i64 x1, .int .i64 x2], .int .i64 x3]) ∧ Below w.heap.size w w') := fun v w h => hres ▸ iSymmetricTable_any n v _ w h
    have D2 : Hid (∀ (v : Value) (w : World), Reads w v (zs.take len) → Calls Try.prog 8 #[.int .i64 n, v] w fun e w' => e = .returned (.tuple #[.agg #[.int .i64 x1, .int .i64 x2], .int .i64 x3]) ∧ Below w.heap.size w w') := fun v w h => hres ▸ sSymmetricTable_any n v _ w h
    clear hres hl
    generalize zs.take len = xs at *
    have HR := Lib.hid hR
    clear hR
    go_enter Try.func3, Try.ntmps3
    go_wp2_with fail
    refine (toInt64S_any _ xs _ HR.out hlen.out).mono ?_
    rintro e wa ⟨u1, rfl, o1, hL⟩
    go_wp2_with fail
    refine (D2.out _ _ o1.reads).mono ?_
    rintro e wb ⟨rfl, hb⟩
    replace hL := chain (B := w.heap.size) (a := w) (by go_grown) (Nat.le_refl _) hb
    clear hb o1
    have kw := C2.here wb (.int .i64 x1) (.int .i64 x2) 24
    have hzb := hL.size
    go_wp2_with fail
    refine (toInt64S_any _ xs _ (HR.out.keep (by go_grown)) hlen.out).mono ?_
    rintro e wc ⟨u2, rfl, o2, hb⟩
    replace hL := chain (B := w.heap.size) (a := w) (by go_grown) (Nat.le_refl _) hb
    replace kw := keepAt hb kw
    clear hb
    go_wp2_with fail
    refine (D1.out _ _ o2.reads).mono ?_
    rintro e wd ⟨rfl, hb⟩
    replace hL := chain (B := w.heap.size) (a := w) (by go_grown) (Nat.le_refl _) hb
    replace kw := keepAt hb kw
    replace o2 := ownsKeepAt hb o2
    clear hb
    have kg := C2.here wd (.int .i64 x1) (.int .i64 x2) 24
    replace kw := kw.alloc (.cells #[.int .i64 x1, .int .i64 x2] 24)
    have o3 : Owns (wd.alloc (.cells #[.int .i64 x1, .int .i64 x2] 24)) _ u2 xs := World.ownsRow.alloc o2 _
    have hL3 : Below w.heap.size w (wd.alloc (.cells #[.int .i64 x1, .int .i64 x2] 24)) := hL.alloc hL.size _
    clear o2 hL
    go_wp2_with fail
    refine (eqTable_same _ _ _).mono ?_
    rintro e we ⟨rfl, hb⟩
    have hL := chain (B := w.heap.size) (a := w) hL3 (Nat.le_refl _) hb
    replace o3 := ownsKeepAt hb o3
    clear hb hL3 kw kg
    go_wp2_with fail
    refine (toInt64S_any _ xs _ (HR.out.keep hL) hlen.out).mono ?_
    rintro e wf ⟨u3, rfl, o4, hb⟩
    replace hL := chain (B := w.heap.size) (a := w) hL (Nat.le_refl _) hb
    replace o3 := ownsKeepAt hb o3
    clear hb
    go_wp2_with fail
    refine (eqInt64S_same _ _ xs _ o3.reads o4.reads).mono ?_
    rintro e wg ⟨rfl, hb⟩
    replace hL := chain (B := w.heap.size) (a := w) hL (Nat.le_refl _) hb
    go_wp2_with fail
    go_ret
    exact ⟨rfl, hL⟩

end Go.Proofs.Ytlcfecccpbeofaa
