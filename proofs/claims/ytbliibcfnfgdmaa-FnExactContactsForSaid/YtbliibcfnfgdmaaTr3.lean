/- Trees of closures: treeAt. -/
import Derived.Test.YtbliibcfnfgdmaaTr2
import Derived.Test.YtbliibcfnfgdmaaLet
namespace Go.Proofs.Ytbliibcfnfgdmaa
open Go.RowKit
set_option linter.unusedVariables false

theorem letVals_mask (d : Nat) : letVals 5 (d : Int) = (maskN d : Int) := by
  unfold letVals maskN buildZ
  rw [Int.toNat_natCast]; rfl
theorem letter5 (d : Nat) (w : World) (hd : d < 5) :
    Calls Try.prog 93 #[.int .i64 5, .int .i64 (d : Int)] w fun e w' => e = .returned (.tuple #[.agg #[.int .i64 5, .int .i64 (maskN d : Int)], .int .i64 0]) ∧ Below w.heap.size w w' := by
  have h := iLetterTable_any 5 (d : Int) w
  unfold letRes at h
  rw [if_pos ⟨by decide, by omega, by omega⟩, letVals_mask] at h
  exact h

theorem C2.hereE' {w : World} {b : Nat} {x y : Value} {t : TypeId} (e : b = w.heap.size) : C2 (w.alloc (.cells #[x, y] t)) b x y := e ▸ C2.here w x y t

set_option maxRecDepth 100000 in
set_option maxHeartbeats 4000000 in
theorem treeAt_any : ∀ (m L p : Nat) (u : ByteArray) (w : World), SelU m L u → m ≤ 5 → p + lenT m ≤ 1000 →
    Calls Try.prog 62 #[.int .i64 (p : Int), .string u] w fun e w' => ∃ v, e = .returned v ∧ TreeV w' w.heap.size v (brU m u p) ∧ Below w.heap.size w w' := by
  intro m
  induction m with
  | zero =>
    intro L p u w hu hm hp
    have e := hu.leaf
    subst e
    clear hu
    go_enter Try.func62, Try.ntmps62
    go_wp2
    go_ret
    exact ⟨_, rfl, treeLeaf _ _, by go_grown⟩
  | succ m ih =>
    intro L p u w hu hm hp
    obtain ⟨⟨b0, b1, hd, hde⟩, hbit, hlo, hhi⟩ := hu.fork
    rw [lenT_succ] at hp
    have hlen := lenT_le (m := m) (by omega)
    have hll := lenT_pos m
    have hsz : 0 < u.size := by rw [hu.1]; exact lenT_pos _
    have hby := byteAt_eq u 0 hsz
    have hne : (u.toList == [46]) = false := by
      have h2 : u.size = u.toList.length := by rw [Lib.toList_data, Array.length_toList]; rfl
      cases hx : (u.toList == [46])
      · rfl
      · have h3 : u.toList = [46] := by simpa using hx
        have h4 : u.size = 1 := by rw [h2, h3]; rfl
        have h5 := hu.1
        rw [lenT_succ] at h5; omega
    have HH := Lib.hid (fun w => halves_any u m w hu.1 (by omega))
    have HLt := Lib.hid (fun w => letter5 (dgt u 0) w hd)
    have HI0 := Lib.hid (fun w => ih _ (p + 1) (loU m u) w hlo (by omega) (by omega))
    have HI1 := Lib.hid (fun w => ih _ (p + 1 + lenT m) (hiU m u) w hhi (by omega) (by omega))
    have hsl := lo_size hu.1
    obtain ⟨d, hdd⟩ : ∃ d, dgt u 0 = d := ⟨_, rfl⟩
    have hw8 : ((u[0].toNat : Int) - 48) % 256 = (d : Int) := by
      rw [← hdd, hde, ← hby]; omega
    have HV : Hid (brU (m + 1) u p = fun S => sideU (brU m (loU m u) (p + 1)) p (p + 1) d 1 (loS S d) ++ sideU (brU m (hiU m u) (p + 1 + lenT m)) p (p + 1 + lenT m) d 0 (hiS S d)) := by
      unfold Hid; funext S; rw [brU_succ, hdd]
    have HL0 : Hid (∀ T, (brU m (loU m u) (p + 1) T).length ≤ 100) := fun T => by have := brU_len m (loU m u) (p + 1) T; omega
    have HL1 : Hid (∀ T, (brU m (hiU m u) (p + 1 + lenT m) T).length ≤ 100) := fun T => by have := brU_len m (hiU m u) (p + 1 + lenT m) T; omega
    rw [HV.out]
    rw [hdd] at HLt
    generalize brU m (loU m u) (p + 1) = f0 at *
    obtain ⟨q, hq⟩ : ∃ q, p + 1 + lenT m = q := ⟨_, rfl⟩
    rw [hq] at HI1 HL1 ⊢
    generalize brU m (hiU m u) q = f1 at *
    generalize loU m u = lo at *
    generalize hiU m u = hi at *
    have e0 : ((p + 1 : Nat) : Int) = (p : Int) + 1 := by omega
    have e1 : ((q : Nat) : Int) = (p : Int) + 1 + (lo.size : Int) := by rw [hsl]; omega
    have hpb : (p : Int) ≤ 1000 := by omega
    have hlb : (lo.size : Int) ≤ 1000 := by omega
    rw [e0] at HI0
    rw [e1] at HI1
    have E0 := Lib.hid e0
    have E1 := Lib.hid e1
    clear HV hdd hde hby b0 b1 hd hbit hlo hhi hlen hll hu ih hp hm e0 e1 hsl hq
    go_enter Try.func62, Try.ntmps62
    go_wp2_with (first | (go_at_call 93; (with_reducible refine (HLt.out _).mono ?_); rintro e w1 ⟨rfl, hb1⟩; have kp : U1 w1 w.heap.size 0 (.int .i64 (p : Int)) := u1At hb1 (by (repeat' (first | (with_reducible assumption) | (with_reducible refine U1.drewU ?_) | (with_reducible refine U1.hereE (by first | (with_reducible rfl) | omega | (simp; done) | (simp; omega))) | (with_reducible refine U1.alloc ?_ _) | (with_reducible refine U1.fill ?_ _) | (with_reducible refine U1.set ?_ _ _ _ (by omega)) | (with_reducible exact U1e.of (by assumption)) | (with_reducible refine U1e.drewU ?_) | (with_reducible refine U1e.hereE (by first | (with_reducible rfl) | omega | (simp; done) | (simp; omega))) | (with_reducible refine U1e.alloc ?_ _) | (with_reducible refine U1e.set ?_ _ _ _ (by omega))))); have ki : U1 w1 (w.heap.size + 1) 0 (.int .i64 (d : Int)) := u1At hb1 (by (repeat' (first | (with_reducible assumption) | (with_reducible refine U1.drewU ?_) | (with_reducible refine U1.hereE (by first | (with_reducible rfl) | omega | (simp; done) | (simp; omega))) | (with_reducible refine U1.alloc ?_ _) | (with_reducible refine U1.fill ?_ _) | (with_reducible refine U1.set ?_ _ _ _ (by omega)) | (with_reducible exact U1e.of (by assumption)) | (with_reducible refine U1e.drewU ?_) | (with_reducible refine U1e.hereE (by first | (with_reducible rfl) | omega | (simp; done) | (simp; omega))) | (with_reducible refine U1e.alloc ?_ _) | (with_reducible refine U1e.set ?_ _ _ _ (by omega))))); have hL1 := chain (B := w.heap.size) (a := w) (by go_grown) (Nat.le_refl _) hb1; clear hb1) | (go_at_call 87; (with_reducible refine (HH.out _).mono ?_); rintro e w2 ⟨rfl, hb2⟩; have kp2 := u1At hb2 (kp.alloc _); have ki2 := u1At hb2 (ki.alloc _); have kl := keepAt hb2 (C2.here w1 (.int .i64 5) (.int .i64 (maskN d : Int)) 53); have hL2 := chain (B := w.heap.size) (a := w) (by go_grown) (Nat.le_refl _) hb2; obtain ⟨kp0, _, zp⟩ := kp2; obtain ⟨ki0, _, zi⟩ := ki2; clear hb2 kp ki))
    have kg0 : C2 ((w2.alloc (.cells #[.int .i64 ((p : Int) + 1), .int .i64 ((p : Int) + 1 + (lo.size : Int))] 2)).alloc (.cells #[.slice (some ⟨w2.heap.size, 0, none⟩) 2 2] 22)) w2.heap.size (.int .i64 ((p : Int) + 1)) (.int .i64 ((p : Int) + 1 + (lo.size : Int))) := (C2.here w2 _ _ _).alloc _
    have ks0 : U1 ((w2.alloc (.cells #[.int .i64 ((p : Int) + 1), .int .i64 ((p : Int) + 1 + (lo.size : Int))] 2)).alloc (.cells #[.slice (some ⟨w2.heap.size, 0, none⟩) 2 2] 22)) (w2.heap.size + 1) 0 (.slice (some ⟨w2.heap.size, 0, none⟩) 2 2) := by (repeat' (first | (with_reducible assumption) | (with_reducible refine U1.drewU ?_) | (with_reducible refine U1.hereE (by first | (with_reducible rfl) | omega | (simp; done) | (simp; omega))) | (with_reducible refine U1.alloc ?_ _) | (with_reducible refine U1.fill ?_ _) | (with_reducible refine U1.set ?_ _ _ _ (by omega)) | (with_reducible exact U1e.of (by assumption)) | (with_reducible refine U1e.drewU ?_) | (with_reducible refine U1e.hereE (by first | (with_reducible rfl) | omega | (simp; done) | (simp; omega))) | (with_reducible refine U1e.alloc ?_ _) | (with_reducible refine U1e.set ?_ _ _ _ (by omega))))
    have hL3 : Below w.heap.size w ((w2.alloc (.cells #[.int .i64 ((p : Int) + 1), .int .i64 ((p : Int) + 1 + (lo.size : Int))] 2)).alloc (.cells #[.slice (some ⟨w2.heap.size, 0, none⟩) 2 2] 22)) := by go_grown
    have hX3 : Below w2.heap.size w2 ((w2.alloc (.cells #[.int .i64 ((p : Int) + 1), .int .i64 ((p : Int) + 1 + (lo.size : Int))] 2)).alloc (.cells #[.slice (some ⟨w2.heap.size, 0, none⟩) 2 2] 22)) := by go_grown
    have kp3 := cell_later hX3 kp0
    have ki3 := cell_later hX3 ki0
    have kl3 := (keepAt hX3 kl).2.1
    have hzx := hX3.size
    have hzl : w1.heap.size < w2.heap.size := kl.2.2.2.2
    have hzw := hL1.size
    have hzg : w2.heap.size < ((w2.alloc (.cells #[.int .i64 ((p : Int) + 1), .int .i64 ((p : Int) + 1 + (lo.size : Int))] 2)).alloc (.cells #[.slice (some ⟨w2.heap.size, 0, none⟩) 2 2] 22)).heap.size := kg0.2.2.2.2
    have hzs : w2.heap.size + 1 < ((w2.alloc (.cells #[.int .i64 ((p : Int) + 1), .int .i64 ((p : Int) + 1 + (lo.size : Int))] 2)).alloc (.cells #[.slice (some ⟨w2.heap.size, 0, none⟩) 2 2] 22)).heap.size := ks0.2.2
    generalize ((w2.alloc (.cells #[.int .i64 ((p : Int) + 1), .int .i64 ((p : Int) + 1 + (lo.size : Int))] 2)).alloc (.cells #[.slice (some ⟨w2.heap.size, 0, none⟩) 2 2] 22)) = w3 at *
    have KP := Lib.hid kp3
    have KI := Lib.hid ki3
    have KL := Lib.hid kl3
    have KG := Lib.hid kg0
    have KS := Lib.hid ks0
    have HL3 := Lib.hid hL3
    have HZ : Hid ((w.heap.size ≤ w1.heap.size ∧ w1.heap.size < w3.heap.size) ∧ w.heap.size + 1 < w3.heap.size ∧ (w.heap.size ≤ w2.heap.size ∧ w2.heap.size < w3.heap.size) ∧ (w.heap.size ≤ w2.heap.size + 1 ∧ w2.heap.size + 1 < w3.heap.size)) := ⟨by omega, by omega, by omega, by omega⟩
    generalize hgb : w2.heap.size = gs at *
    generalize hbb : gs + 1 = bs at *
    clear hX3 kp0 ki0 kl kp3 ki3 kl3 hL1 hL2 hgb hbb hzx hzl hzw hzg hzs zp zi
    have hL : Below w3.heap.size w3 w3 := Below.refl _ _
    go_cut [11] (fun v11 wx => ∃ bt gt v0 v1, v11 = .pointer (some ⟨bt, 0, none⟩) ∧ Hid (Below w3.heap.size w3 wx) ∧ Hid (TreeV wx w3.heap.size v0 f0) ∧ Hid (TreeV wx w3.heap.size v1 f1) ∧ Hid ((w3.heap.size ≤ bt ∧ bt < wx.heap.size) ∧ wx.cell? ⟨bt, 0, none⟩ = some (.slice (some ⟨gt, 0, none⟩) 2 2)) ∧ Hid ((w3.heap.size ≤ gt ∧ gt < wx.heap.size) ∧ wx.cell? ⟨gt, 0, none⟩ = some v0 ∧ wx.cell? ⟨gt, 1, none⟩ = some v1))
    case first =>
      go_region_held3 (fun w' => U1 w' bs 0 (.slice (some ⟨gs, 0, none⟩) 2 2) ∧ C2 w' gs (.int .i64 ((p : Int) + 1)) (.int .i64 ((p : Int) + 1 + (lo.size : Int)))) (exact ⟨by (repeat' (first | (with_reducible assumption) | (with_reducible refine U1.drewU ?_) | (with_reducible refine U1.hereE (by first | (with_reducible rfl) | omega | (simp; done) | (simp; omega))) | (with_reducible refine U1.alloc ?_ _) | (with_reducible refine U1.fill ?_ _) | (with_reducible refine U1.set ?_ _ _ _ (by omega)) | (with_reducible exact U1e.of (by assumption)) | (with_reducible refine U1e.drewU ?_) | (with_reducible refine U1e.hereE (by first | (with_reducible rfl) | omega | (simp; done) | (simp; omega))) | (with_reducible refine U1e.alloc ?_ _) | (with_reducible refine U1e.set ?_ _ _ _ (by omega)))), by (repeat' (first | (with_reducible assumption) | (with_reducible refine C2.drewU ?_) | (with_reducible refine C2.alloc ?_ _) | (with_reducible refine C2.set ?_ _ _ _ (by omega))))⟩) ((go_at_call 62; (first | ((with_reducible refine (HI0.out _).mono ?_); rintro e w4 ⟨v0, rfl, ht0, hb⟩; have HT0 := Lib.hid ht0; obtain ⟨F0, caps0, rfl, _, _⟩ := ht0; have hz4 := hb.size; (repeat (first | rw [World.size_alloc] at hz4 | rw [World.size_drew] at hz4)); have hx := chain (B := w3.heap.size) (a := w3) (by go_grown) (Nat.le_refl _) hb; have kx1 := u1At hx KS.out; have kx2 := keepAt hx KG.out; (first | (refine cutH (fun (kA : U1 w4 w3.heap.size 0 (.slice none 0 0)) => ?_) ?_; rotate_left; focus (refine u1At hb ?_; (repeat' (first | (with_reducible assumption) | (with_reducible refine U1.drewU ?_) | (with_reducible refine U1.hereE (by first | (with_reducible rfl) | omega | (simp; done) | (simp; omega))) | (with_reducible refine U1.alloc ?_ _) | (with_reducible refine U1.fill ?_ _) | (with_reducible refine U1.set ?_ _ _ _ (by omega)) | (with_reducible exact U1e.of (by assumption)) | (with_reducible refine U1e.drewU ?_) | (with_reducible refine U1e.hereE (by first | (with_reducible rfl) | omega | (simp; done) | (simp; omega))) | (with_reducible refine U1e.alloc ?_ _) | (with_reducible refine U1e.set ?_ _ _ _ (by omega)))); done)) | skip); have HX4 := Lib.hid hx; clear hb) | ((with_reducible refine (HI1.out _).mono ?_); rintro e w5 ⟨v1, rfl, ht1, hb⟩; have HT1 := Lib.hid ht1; obtain ⟨F1, caps1, rfl, _, _⟩ := ht1; have hz5 := hb.size; (repeat (first | rw [World.size_alloc] at hz5 | rw [World.size_drew] at hz5)); have hx5 := chain (B := w4.heap.size) (a := w4) (by go_grown) (Nat.le_refl _) hb; have HA5 := Lib.hid hx5; have kx3 := u1At hx5 kx1; have kx4 := keepAt hx5 kx2; (first | (refine cutH (fun (kA5 : U1 w5 w3.heap.size 0 (.slice none 0 0)) => ?_) ?_; rotate_left; focus (refine u1At hb ?_; (repeat' (first | (with_reducible assumption) | (with_reducible refine U1.drewU ?_) | (with_reducible refine U1.hereE (by first | (with_reducible rfl) | omega | (simp; done) | (simp; omega))) | (with_reducible refine U1.alloc ?_ _) | (with_reducible refine U1.fill ?_ _) | (with_reducible refine U1.set ?_ _ _ _ (by omega)) | (with_reducible exact U1e.of (by assumption)) | (with_reducible refine U1e.drewU ?_) | (with_reducible refine U1e.hereE (by first | (with_reducible rfl) | omega | (simp; done) | (simp; omega))) | (with_reducible refine U1e.alloc ?_ _) | (with_reducible refine U1e.set ?_ _ _ _ (by omega)))); done)) | skip); (first | (refine cutH (fun (kB5 : U1 w5 w4.heap.size 0 (.slice none 0 0)) => ?_) ?_; rotate_left; focus (refine u1At hb ?_; (repeat' (first | (with_reducible assumption) | (with_reducible refine U1.drewU ?_) | (with_reducible refine U1.hereE (by first | (with_reducible rfl) | omega | (simp; done) | (simp; omega))) | (with_reducible refine U1.alloc ?_ _) | (with_reducible refine U1.fill ?_ _) | (with_reducible refine U1.set ?_ _ _ _ (by omega)) | (with_reducible exact U1e.of (by assumption)) | (with_reducible refine U1e.drewU ?_) | (with_reducible refine U1e.hereE (by first | (with_reducible rfl) | omega | (simp; done) | (simp; omega))) | (with_reducible refine U1e.alloc ?_ _) | (with_reducible refine U1e.set ?_ _ _ _ (by omega)))); done)) | skip); have HX5 := Lib.hid (HX4.out.trans (hx5.mono HX4.out.size)); clear hb hx5))))
      all_goals (go_wp2_with fail; go_meet)
      all_goals (
        have hz35 := HX5.out.size
        first
          | refine ⟨w5.heap.size + 1, w5.heap.size, .func (.func F0) #[] caps0, .func (.func F1) #[] caps1, rfl, ?_, ?_, ?_, ⟨⟨?_, ?_⟩, ?_⟩, ⟨⟨?_, ?_⟩, ?_⟩⟩
          | refine ⟨w5.heap.size, w5.heap.size + 1, .func (.func F0) #[] caps0, .func (.func F1) #[] caps1, rfl, ?_, ?_, ?_, ⟨⟨?_, ?_⟩, ?_⟩, ⟨⟨?_, ?_⟩, ?_⟩⟩
          | refine ⟨w4.heap.size, w5.heap.size, .func (.func F0) #[] caps0, .func (.func F1) #[] caps1, rfl, ?_, ?_, ?_, ⟨⟨?_, ?_⟩, ?_⟩, ⟨⟨?_, ?_⟩, ?_⟩⟩
          | refine ⟨w3.heap.size, w5.heap.size, .func (.func F0) #[] caps0, .func (.func F1) #[] caps1, rfl, ?_, ?_, ?_, ⟨⟨?_, ?_⟩, ?_⟩, ⟨⟨?_, ?_⟩, ?_⟩⟩
        · have h := HX5.out
          unfold Hid; go_grown
        · exact (HT0.out.agr (by (repeat' (first | exact Agr2.refl _ _ | exact Agr2.of HA5.out | refine Agr2.drew ?_ | refine Agr2.alloc ?_ _ | refine Agr2.set ?_ _ _ _ (by first | (left; (first | exact Nat.le_refl _ | omega | (simp; done) | (simp; omega) | ((repeat (first | rw [World.size_alloc] | rw [World.size_drew] | rw [World.size_setCell])); omega))) | (right; (first | exact Nat.le_refl _ | omega | (simp; done) | (simp; omega) | ((repeat (first | rw [World.size_alloc] | rw [World.size_drew] | rw [World.size_setCell])); omega)))))))).mono (by (first | exact Nat.le_refl _ | omega | (simp; done) | (simp; omega) | ((repeat (first | rw [World.size_alloc] | rw [World.size_drew] | rw [World.size_setCell])); omega)))
        · exact (HT1.out.agr (by (repeat' (first | exact Agr2.refl _ _ | exact Agr2.of HA5.out | refine Agr2.drew ?_ | refine Agr2.alloc ?_ _ | refine Agr2.set ?_ _ _ _ (by first | (left; (first | exact Nat.le_refl _ | omega | (simp; done) | (simp; omega) | ((repeat (first | rw [World.size_alloc] | rw [World.size_drew] | rw [World.size_setCell])); omega))) | (right; (first | exact Nat.le_refl _ | omega | (simp; done) | (simp; omega) | ((repeat (first | rw [World.size_alloc] | rw [World.size_drew] | rw [World.size_setCell])); omega)))))))).mono (by (first | exact Nat.le_refl _ | omega | (simp; done) | (simp; omega) | ((repeat (first | rw [World.size_alloc] | rw [World.size_drew] | rw [World.size_setCell])); omega)))
        · (first | exact Nat.le_refl _ | omega | (simp; done) | (simp; omega) | ((repeat (first | rw [World.size_alloc] | rw [World.size_drew] | rw [World.size_setCell])); omega))
        · (first | exact Nat.le_refl _ | omega | (simp; done) | (simp; omega) | ((repeat (first | rw [World.size_alloc] | rw [World.size_drew] | rw [World.size_setCell])); omega))
        · exact (show U1 _ _ 0 _ by (repeat' (first | (with_reducible assumption) | (with_reducible refine U1.drewU ?_) | (with_reducible refine U1.hereE (by first | (with_reducible rfl) | omega | (simp; done) | (simp; omega))) | (with_reducible refine U1.alloc ?_ _) | (with_reducible refine U1.fill ?_ _) | (with_reducible refine U1.set ?_ _ _ _ (by omega)) | (with_reducible exact U1e.of (by assumption)) | (with_reducible refine U1e.drewU ?_) | (with_reducible refine U1e.hereE (by first | (with_reducible rfl) | omega | (simp; done) | (simp; omega))) | (with_reducible refine U1e.alloc ?_ _) | (with_reducible refine U1e.set ?_ _ _ _ (by omega))))).1
        · (first | exact Nat.le_refl _ | omega | (simp; done) | (simp; omega) | ((repeat (first | rw [World.size_alloc] | rw [World.size_drew] | rw [World.size_setCell])); omega))
        · (first | exact Nat.le_refl _ | omega | (simp; done) | (simp; omega) | ((repeat (first | rw [World.size_alloc] | rw [World.size_drew] | rw [World.size_setCell])); omega))
        · refine (fun (h : C2 _ _ _ _) => ⟨h.1, h.2.1⟩) ?_
          repeat' (first | (with_reducible assumption) | exact C2.hereE' (by (first | exact Nat.le_refl _ | omega | (simp; done) | (simp; omega) | ((repeat (first | rw [World.size_alloc] | rw [World.size_drew] | rw [World.size_setCell])); omega))) | refine C2.drewU ?_ | refine C2.alloc ?_ _ | refine C2.set ?_ _ _ _ (by (first | exact Nat.le_refl _ | omega | (simp; done) | (simp; omega) | ((repeat (first | rw [World.size_alloc] | rw [World.size_drew] | rw [World.size_setCell])); omega)))))
    case rest =>
    obtain ⟨bt, gt, v0, v1, rfl, hB, h0, h1, hct, hcg⟩ := hcut
    have hz := hB.out.size
    have HC : Hid (Caps wc w1.heap.size w.heap.size bs (w.heap.size + 1) bt gs gt d p (p + 1) q v0 v1) := ⟨cell_later hB.out KL.out, cell_later hB.out KP.out, cell_later hB.out KI.out, cell_later hB.out KS.out.1, by rw [E0.out]; exact cell_later hB.out KG.out.1, by rw [E1.out]; exact cell_later hB.out KG.out.2.1, hct.out.2, hcg.out.2.1, hcg.out.2.2⟩
    go_wp2_with fail
    go_ret
    refine ⟨_, rfl, ⟨94, _, rfl, enters_of Try.func94 (by kernel_rfl) rfl, fun S wx hS hx => ?_⟩, HL3.out.trans (hB.out.mono HL3.out.size)⟩
    obtain ⟨⟨z1, z2⟩, z3, ⟨z4, z5⟩, z6⟩ := HZ.out
    have z8 := hct.out.1
    have z9 := hcg.out.1
    have zz := HL3.out.size
    have hx3 : Agr2 w3.heap.size wc wx := hx.mono zz
    exact treeClos_any w1.heap.size w.heap.size bs (w.heap.size + 1) bt gs gt d p (p + 1) q S v0 v1 f0 f1 wx hS (HC.out.agr hx (by omega) (by omega) (by omega) (by omega) (by omega) (by omega) (by omega)) (h0.out.agr hx3) (h1.out.agr hx3) HL0.out HL1.out

end Go.Proofs.Ytbliibcfnfgdmaa
