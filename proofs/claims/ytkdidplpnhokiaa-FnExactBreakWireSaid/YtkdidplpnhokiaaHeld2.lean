/- Slices of slices looked at again. -/
import Derived.Test.YtkdidplpnhokiaaMark2
namespace Go.Proofs.Ytkdidplpnhokiaa
open Go.RowKit
set_option linter.unusedVariables false

set_option maxHeartbeats 1000000 in
theorem heldInt64SS_any (v : Value) (xss : List (List Int)) (q : Int) (w : World) (h : Reads2 w v (rowsK q xss xss.length)) (hs : ∀ i, i < xss.length → (xss.getD i []).length ≤ 1048576) (q0 : 0 ≤ q) (hq : q + (xss.length + sumLen xss xss.length : Nat) ≤ 1048577) :
    Calls Try.prog 71 #[v, .int .i64 q] w fun e w' => e = .returned (.int .i64 (q + (sumLen xss xss.length : Nat))) ∧ Below w.heap.size w w' := by
  obtain ⟨a, ca, rfl, hm, h⟩ := h
  have HG : Hid (∀ k, k < xss.length → (rowsK q xss xss.length).getD k [] = iota (q + sumLen xss k) (xss.getD k []).length) := fun k hk => by rw [rowsK_get _ _ _ _ hk, if_pos hk]
  have HLEN := rowsK_len q xss xss.length
  rw [HLEN] at hm h ⊢
  have HL : Hid (∀ k, k < xss.length → sumLen xss (k + 1) = sumLen xss k + (xss.getD k []).length ∧ sumLen xss (k + 1) ≤ sumLen xss xss.length) := fun k hk => ⟨rfl, sumLen_mono xss hk⟩
  have HS := Lib.hid hs
  clear hs
  rcases h with h | ⟨b, off, rfl, h⟩
  · have e : xss = [] := by rw [h] at HLEN; exact List.length_eq_zero_iff.1 HLEN.symm
    subst e
    clear HG HL h HLEN
    go_enter Try.func71, Try.ntmps71
    go_wp2
    refine wp_loop_rounds 1 ?_
    rw [rounds_succ]
    go_wp2
    go_ret
    exact ⟨by simp [sumLen], Below.refl _ _⟩
  · have Ha := Lib.hid h
    clear h HLEN
    generalize hnn : xss.length = n at *
    clear hnn
    go_enter Try.func71, Try.ntmps71
    go_wp2_with fail
    go_loopw [1, 5] (fun kk c wr => ∃ (k : Nat) (r : Int), k ≤ n ∧ kk = .int .i64 r ∧ c = .int .i64 (k : Int) ∧ Hid (r = q + (sumLen xss k : Nat)) ∧ Below w.heap.size w wr) (fun _ c _ => n - (intOf c).toNat)
    case atStart => exact ⟨0, q, Nat.zero_le _, rfl, rfl, by unfold Hid; simp [sumLen], Below.refl _ _⟩
    case round =>
      obtain ⟨k, r, hk, rfl, rfl, Hr, hL⟩ := hrel
      by_cases hlt : k < n
      · obtain ⟨u, hu, hr⟩ := Ha.out k hlt
        have hca := cell_later hL hu
        rw [HG.out k hlt] at hr
        have HR := Lib.hid (hr.keep hL)
        have hl1 := HS.out k hlt
        obtain ⟨hs1, hs2⟩ := HL.out k hlt
        have hi1 : (k : Int) < (n : Int) := by omega
        have hi0 : (0 : Int) ≤ (k : Int) := by omega
        have hrq : 0 ≤ r ∧ r ≤ 1048576 := by have := Hr.out; omega
        obtain ⟨r0, r1⟩ := hrq
        obtain ⟨r', hr'⟩ : ∃ r', r + ((xss.getD k []).length : Nat) = r' := ⟨_, rfl⟩
        have HSZ : Hid (r' = q + (sumLen xss (k + 1) : Nat)) := by have := Hr.out; unfold Hid; omega
        have hneg : ¬ r' < 0 := by omega
        have HR' := Lib.hid hr'
        clear hu hr hs1 hs2 hr'
        go_wp2_with fail
        refine (heldInt64S_any _ (xss.getD k []).length r _ (by rw [Hr.out]; exact HR.out) hl1 r0 (by omega)).mono ?_
        rintro e w2 ⟨rfl, hb⟩
        rw [HR'.out]
        have hL2 := chain (B := w.heap.size) (a := w) hL (Nat.le_refl _) hb
        clear hb
        go_wp2_with fail
        go_roundw
        case rel => exact ⟨k + 1, r', by omega, rfl, by go_num, HSZ, hL2⟩
        case measure => simp [intOf]; omega
      · have e : k = n := by omega
        subst e
        have HE : Hid (r = q + (sumLen xss k : Nat)) := Hr
        go_wp2_with fail
        go_ret
        exact ⟨by rw [← HE.out]; rfl, hL⟩

end Go.Proofs.Ytkdidplpnhokiaa
