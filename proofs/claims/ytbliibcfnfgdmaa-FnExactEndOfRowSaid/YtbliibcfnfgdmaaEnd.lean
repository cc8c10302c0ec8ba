/- RowsOfEnds: both contracts. -/
import Derived.Test.YtbliibcfnfgdmaaRoE
import Derived.Test.YtbliibcfnfgdmaaEnS
namespace Go.Proofs.Ytbliibcfnfgdmaa
open Go.RowKit
set_option linter.unusedVariables false

def resRowsOfEnds_0 (n : Int) (s : ByteArray) : List Int := if isSel n s = true then rowsU n.toNat s 0 else []
def resRowsOfEnds_1 (n : Int) (s : ByteArray) : Int := if isSel n s = true then 0 else 2
theorem resRoe_in {n : Int} {s : ByteArray} (h : isSel n s = true) : resRowsOfEnds_0 n s = rowsU n.toNat s 0 ∧ resRowsOfEnds_1 n s = 0 := ⟨if_pos h, if_pos h⟩
theorem resRoe_out {n : Int} {s : ByteArray} (h : isSel n s = false) : resRowsOfEnds_0 n s = [] ∧ resRowsOfEnds_1 n s = 2 := ⟨if_neg (by rw [h]; decide), if_neg (by rw [h]; decide)⟩
theorem lenRowsOfEnds_0 (n : Int) (s : ByteArray) : (resRowsOfEnds_0 n s).length ≤ 100000 := by
  cases h : isSel n s
  · rw [(resRoe_out h).1]; simp
  · rw [(resRoe_in h).1, rowsU_len]
    have := (isSel_out h).1
    have h2 : 2 ^ n.toNat ≤ 2 ^ 5 := Nat.pow_le_pow_right (by decide) (by omega)
    omega

set_option maxRecDepth 100000 in
set_option maxHeartbeats 1000000 in
theorem iRowsOfEnds_any (n : Int) (s : ByteArray) (hs : s.size ≤ 1048576) (w : World) :
    Calls Try.prog 24 #[.int .i64 n, .string s] w fun e w' => ∃ u, e = .returned (.tuple #[u, .int .i64 (resRowsOfEnds_1 n s)]) ∧ In w' w.heap.size w'.heap.size u (resRowsOfEnds_0 n s) ∧ Below w.heap.size w w' := by
  have HI := Lib.hid (fun w => iIsSelector_any n s hs w)
  cases h : isSel n s
  · rw [(resRoe_out h).1, (resRoe_out h).2]
    rw [h] at HI
    clear h
    go_enter Try.func24, Try.ntmps24
    go_wp2_with (go_at_call 22; (with_reducible refine (HI.out _).mono ?_); rintro e w1 ⟨rfl, hL⟩)
    go_ret2
    exact ⟨.slice none 0 0, rfl, In.of (World.ownsRow_nil _ _ _ _) (Nat.le_refl _) (Nat.le_refl _), hL⟩
  · rw [(resRoe_in h).1, (resRoe_in h).2]
    obtain ⟨⟨n1, n5⟩, hS⟩ := isSel_out h
    rw [h] at HI
    obtain ⟨N, rfl⟩ : ∃ N : Nat, n = (N : Int) := ⟨n.toNat, by omega⟩
    rw [Int.toNat_natCast] at hS ⊢
    have HR := Lib.hid (fun w => rowsOfEnds_any N s w (by omega) (by omega) hS)
    generalize rowsU N s 0 = xs at *
    clear h hS
    go_enter Try.func24, Try.ntmps24
    go_wp2_with (go_at_call 22; (with_reducible refine (HI.out _).mono ?_); rintro e w1 ⟨rfl, hL⟩)
    refine (HR.out _).mono ?_
    rintro e w2 ⟨u, rfl, ho, hb⟩
    have hz := hL.size
    replace hL := chain (B := w.heap.size) (a := w) hL (Nat.le_refl _) hb
    clear hb
    go_wp2_with fail
    go_ret2
    exact ⟨u, rfl, In.of ho hz (Nat.le_refl _), hL⟩

set_option maxRecDepth 100000 in
set_option maxHeartbeats 1000000 in
theorem sRowsOfEnds_any (n : Int) (s : ByteArray) (hs : s.size ≤ 1048576) (w : World) :
    Calls Try.prog 23 #[.int .i64 n, .string s] w fun e w' => ∃ u, e = .returned (.tuple #[u, .int .i64 (resRowsOfEnds_1 n s)]) ∧ Reads w' u (resRowsOfEnds_0 n s) ∧ Below w.heap.size w w' := by
  have HI := Lib.hid (fun w => l09Is_any n s w hs)
  cases h : isSel n s
  · rw [(resRoe_out h).1, (resRoe_out h).2]
    rw [h] at HI
    clear h
    go_enter Try.func23, Try.ntmps23
    go_wp2_with (go_at_call 49; (with_reducible refine (HI.out _).mono ?_); rintro e w1 ⟨rfl, hL⟩)
    go_ret2
    exact ⟨.slice none 0 0, rfl, Owns.reads (World.ownsRow_nil _ 0 _ _), hL⟩
  · rw [(resRoe_in h).1, (resRoe_in h).2]
    obtain ⟨⟨n1, n5⟩, hS⟩ := isSel_out h
    rw [h] at HI
    obtain ⟨N, rfl⟩ : ∃ N : Nat, n = (N : Int) := ⟨n.toNat, by omega⟩
    rw [Int.toNat_natCast] at hS ⊢
    have HR := Lib.hid (fun w => l09Rows_any N _ 0 s w hS (by omega) (by decide))
    generalize rowsU N s 0 = xs at *
    clear h hS
    go_enter Try.func23, Try.ntmps23
    go_wp2_with (go_at_call 49; (with_reducible refine (HI.out _).mono ?_); rintro e w1 ⟨rfl, hL⟩)
    refine (HR.out _).mono ?_
    rintro e w2 ⟨u, rfl, ho, hb⟩
    replace hL := chain (B := w.heap.size) (a := w) hL (Nat.le_refl _) hb
    clear hb
    have hR := Lib.hid ho.reads
    obtain ⟨_, _, rfl, _⟩ := ho.reads
    clear ho
    go_wp2_with fail
    go_ret2
    exact ⟨_, rfl, hR.out, hL⟩

end Go.Proofs.Ytbliibcfnfgdmaa
