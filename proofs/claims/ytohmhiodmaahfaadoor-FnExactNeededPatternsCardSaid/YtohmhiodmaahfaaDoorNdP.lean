/- Needed patterns: the program's rowsUnderOne, its closure, slices.DeleteFunc with it. -/
import Derived.Test.YtohmhiodmaahfaaDoorNdD
import Derived.Test.YtohmhiodmaahfaaDoorNdM
import Derived.Deep.RegionWith
namespace Go.Proofs.YtohmhiodmaahfaaDoor
open Go.RowKit
set_option linter.unusedVariables false

theorem sgn_size (L : List ByteArray) (k : Nat) : ByteF (sgn (L.getD k ByteArray.empty)) := sgn_byte _
theorem pow_32 {n : Int} (h : n ≤ 5) : 2 ^ n.toNat ≤ 32 := Nat.pow_le_pow_right (n := 2) (by decide) (show n.toNat ≤ 5 by omega)

set_option maxRecDepth 100000 in
set_option maxHeartbeats 4000000 in
theorem rowsUnderOne_any (u : Value) (L : List ByteArray) (n : Int) (w : World) (hu : RdP w u L) (hl : L.length ≤ 1000) (n1 : 1 ≤ n) (n5 : n ≤ 5) :
    Calls Tryd.prog 52 #[u, .int .i64 n] w fun e w' => e = .returned (.int .i64 ((aloneN L (2 ^ n.toNat) : Nat) : Int)) ∧ Below w.heap.size w w' := by
  obtain ⟨ua, uc, rfl, hu⟩ := hu
  have HU := Lib.hid hu
  have h32 := pow_32 n5
  have HRU := Lib.hid (fun k w => rowsUnder_any (sgn (L.getD k ByteArray.empty)) (sgn_byte _) n w n1 n5)
  have HO := Lib.hid (fun k => once_step L h32 k)
  have HA := Lib.hid (fun k => again_step L h32 k)
  have HE := Lib.hid (alone_step L h32)
  have H0 : Hid (onceN L (2 ^ n.toNat) 0 = 0 ∧ againN L (2 ^ n.toNat) 0 = 0) := ⟨rfl, rfl⟩
  clear hu h32 n1 n5
  generalize 2 ^ n.toNat = M at *
  generalize L.length = m at *
  go_enter Tryd.func52, Tryd.ntmps52
  go_wp2_with fail
  go_loopw [5, 6, 12] (fun o a c wr => ∃ k : Nat, k ≤ m ∧ c = .int .i64 (k : Int) ∧ o = .int .i64 ((onceN L M k : Nat) : Int) ∧ a = .int .i64 ((againN L M k : Nat) : Int) ∧ Below w.heap.size w wr) (fun _ _ c _ => m - (intOf c).toNat)
  case atStart => exact ⟨0, Nat.zero_le _, rfl, by rw [H0.out.1]; rfl, by rw [H0.out.2]; rfl, by go_grown⟩
  case round =>
    obtain ⟨k, hk, rfl, rfl, rfl, hL⟩ := hrel
    by_cases hkl : k < m
    · obtain ⟨g, rfl, hc⟩ := HU.out k hkl
      have c0 := cell_later hL (hc 0 (by omega))
      have c1 := cell_later hL (hc 1 (by omega))
      have c2 := cell_later hL (hc 2 (by omega))
      have c3 := cell_later hL (hc 3 (by omega))
      have c4 := cell_later hL (hc 4 (by omega))
      simp only [Nat.add_zero] at c0
      have hk1 : (k : Int) < (m : Int) := by omega
      have hk0 : (0 : Int) ≤ (k : Int) := by omega
      have hz := hL.size
      have HR := Lib.hid (HRU.out k)
      have hN1 := HO.out k
      have hN2 := HA.out k
      unfold patA at HR
      clear hc
      generalize L.getD k ByteArray.empty = s at *
      generalize rowsF (sgn s) M = R at *
      obtain ⟨O2, hO2⟩ : ∃ x, onceN L M (k + 1) = x := ⟨_, rfl⟩
      obtain ⟨A2, hA2⟩ : ∃ x, againN L M (k + 1) = x := ⟨_, rfl⟩
      rw [hO2] at hN1
      rw [hA2] at hN2
      have HO2 := Lib.hid hO2
      have HA2 := Lib.hid hA2
      clear hO2 hA2
      generalize onceN L M k = O at *
      generalize againN L M k = A at *
      generalize sgn s 0 = x0 at *
      generalize sgn s 1 = x1 at *
      generalize sgn s 2 = x2 at *
      generalize sgn s 3 = x3 at *
      generalize sgn s 4 = x4 at *
      go_wp2_with (go_at_call 47; (with_reducible refine (HR.out _).mono ?_); rintro e w2 ⟨rfl, hb⟩; replace hL := chain (B := w.heap.size) (a := w) (hL.alloc (by omega) _) (by omega) hb; clear hb)
      exact ⟨⟨k + 1, by omega, by go_num, by rw [HO2.out], by rw [HA2.out], hL⟩, by simp [intOf]; omega⟩
    · have e : k = m := by omega
      have hkn : ¬ (k : Int) < (m : Int) := by omega
      have hE := HE.out
      rw [← e] at hE
      clear e
      obtain ⟨Z, hZ⟩ : ∃ Z, aloneN L M = Z := ⟨_, rfl⟩
      rw [hZ] at hE
      have HZ := Lib.hid hZ
      clear hZ HE
      generalize onceN L M k = O at *
      generalize againN L M k = A at *
      go_wp2_with fail
      go_ret
      exact ⟨by rw [HZ.out]; rfl, hL⟩

/-- what the closure's boxes hold -/
def QNd (tb ab g : Nat) (n v z : Int) (w : World) : Prop := (C2 w tb (.int .i64 n) (.int .i64 v) ∧ tb ≠ g) ∧ (w.cell? ⟨ab, 0, none⟩ = some (.int .i64 z) ∧ ab < w.heap.size) ∧ ab ≠ g
theorem QNd.keep {tb ab g : Nat} {n v z : Int} {w w' : World} (h : QNd tb ab g n v z w) (hb : Below w.heap.size w w') : QNd tb ab g n v z w' := by
  have := hb.size
  have := h.2.1.2
  exact ⟨⟨h.1.1.keep hb, h.1.2⟩, ⟨(hb.cell (p := ⟨ab, 0, none⟩) h.2.1.2).trans h.2.1.1, by omega⟩, h.2.2⟩
theorem QNd.set {tb ab g : Nat} {n v z : Int} {w : World} (h : QNd tb ab g n v z w) (m : Nat) (x : Nat → Int) : QNd tb ab g n v z (set5 w g m x) := by
  obtain ⟨⟨⟨h0, h1, f0, f1, hz⟩, ht⟩, ⟨hc, hz2⟩, ha⟩ := h
  exact ⟨⟨⟨by rw [set5_other _ _ _ _ _ _ (.inl ht)]; exact h0, by rw [set5_other _ _ _ _ _ _ (.inl ht)]; exact h1, by rw [set5_frozen]; exact f0, by rw [set5_frozen]; exact f1, by rw [set5_size]; exact hz⟩, ht⟩, ⟨by rw [set5_other _ _ _ _ _ _ (.inl ha)]; exact hc, by rw [set5_size]; exact hz2⟩, ha⟩

set_option maxRecDepth 100000 in
set_option maxHeartbeats 4000000 in
theorem notNeeded_any (f : Nat → Int) (hf : ByteF f) (n v : Int) (z tb ab : Nat) (w : World) (n1 : 1 ≤ n) (n5 : n ≤ 5) (kt : C2 w tb (.int .i64 n) (.int .i64 v)) (ka : w.cell? ⟨ab, 0, none⟩ = some (.int .i64 (z : Int))) (hab : ab < w.heap.size) {b : Bool} (hb : (bits .and .i64 ((rowsF f (2 ^ n.toNat) : Nat) : Int) (z : Int) == 0) = b) :
    Calls Tryd.prog 53 #[patA f, .pointer (some ⟨tb, 0, none⟩), .pointer (some ⟨ab, 0, none⟩)] w fun e w' => e = .returned (.bool b) ∧ Below w.heap.size w w' := by
  have HR := Lib.hid (fun w => rowsUnder_any f hf n w n1 n5)
  have HB := Lib.hid hb
  clear hf hb
  generalize rowsF f (2 ^ n.toNat) = R at *
  unfold patA at HR ⊢
  have hba : Below w.heap.size w (w.alloc (.cells #[.int .u8 (f 0), .int .u8 (f 1), .int .u8 (f 2), .int .u8 (f 3), .int .u8 (f 4)] 62)) := by go_grown
  have k0 := kt.keep hba
  have kz := (hba.cell (p := ⟨ab, 0, none⟩) hab).trans ka
  have hza : ab < (w.alloc (.cells #[.int .u8 (f 0), .int .u8 (f 1), .int .u8 (f 2), .int .u8 (f 3), .int .u8 (f 4)] 62)).heap.size := by simp; omega
  clear kt ka hba
  obtain ⟨x0, h0⟩ : ∃ x, f 0 = x := ⟨_, rfl⟩
  obtain ⟨x1, h1⟩ : ∃ x, f 1 = x := ⟨_, rfl⟩
  obtain ⟨x2, h2⟩ : ∃ x, f 2 = x := ⟨_, rfl⟩
  obtain ⟨x3, h3⟩ : ∃ x, f 3 = x := ⟨_, rfl⟩
  obtain ⟨x4, h4⟩ : ∃ x, f 4 = x := ⟨_, rfl⟩
  rw [h0, h1, h2, h3, h4] at HR k0 kz hza
  rw [h0, h1, h2, h3, h4]
  clear h0 h1 h2 h3 h4
  go_enter Tryd.func53, Tryd.ntmps53
  go_wp2_with fail
  go_region_with ((go_at_call 47; (with_reducible refine (HR.out _).mono ?_); rintro e w2 ⟨rfl, hb⟩; have hL := chain (B := w.heap.size) (a := w) (by go_grown) (Nat.le_refl _) hb; replace k0 := keepAt hb k0; replace kz := (hb.cell (p := ⟨ab, 0, none⟩) hza).trans kz; clear hb))
  all_goals (go_wp2_with fail)
  all_goals go_ret
  all_goals exact ⟨by rw [← HB.out]; rfl, by first | exact hL | exact Bdrew hL 1 | go_grown⟩

set_option maxRecDepth 100000 in
set_option maxHeartbeats 1000000 in
theorem indexFuncP_none (F : Nat) (caps : Array Value) (w : World) :
    Calls Tryd.prog 79 #[.slice none 0 0, .func (.func F) #[] caps] w fun e w' => e = .returned (.int .i64 (-1)) ∧ Below w.heap.size w w' := by
  go_enter Tryd.func79, Tryd.ntmps79
  go_wp2_with fail
  go_loopw [8] (fun c wr => c = .int .i64 0 ∧ Below w.heap.size w wr) (fun c _ => 0)
  case atStart => exact ⟨rfl, Below.refl _ _⟩
  case round =>
    obtain ⟨rfl, hL⟩ := hrel
    go_wp2_with fail
    go_ret
    exact ⟨rfl, hL⟩
set_option maxRecDepth 100000 in
set_option maxHeartbeats 1000000 in
theorem deleteFuncP_none (F : Nat) (caps : Array Value) (w : World) :
    Calls Tryd.prog 54 #[.slice none 0 0, .func (.func F) #[] caps] w fun e w' => e = .returned (.slice none 0 0) ∧ Below w.heap.size w w' := by
  have HI := Lib.hid (indexFuncP_none F caps)
  go_enter Tryd.func54, Tryd.ntmps54
  go_wp2_with fail
  refine (HI.out _).mono ?_
  rintro e w1 ⟨rfl, hL1⟩
  go_wp2_with fail
  go_ret
  exact ⟨rfl, hL1⟩

theorem delPat_any (L : List ByteArray) (n v : Int) (tb ab base : Nat) (q : Value) (w : World) (n1 : 1 ≤ n) (n5 : n ≤ 5) (hl : L.length ≤ 1000) (ho : OwnsP w base q L) (htb : tb < base) (hab : ∀ g, q.ownBlock = some g → ab ≠ g) (kt : C2 w tb (.int .i64 n) (.int .i64 v)) (ka : w.cell? ⟨ab, 0, none⟩ = some (.int .i64 ((aloneN L (2 ^ n.toNat) : Nat) : Int))) (haz : ab < w.heap.size) (hbz : base ≤ w.heap.size) :
    Calls Tryd.prog 54 #[q, .func (.func 53) #[] #[.pointer (some ⟨tb, 0, none⟩), .pointer (some ⟨ab, 0, none⟩)]] w fun e w' => ∃ q', e = .returned q' ∧ RdP w' q' (neededL L (2 ^ n.toNat)) ∧ Below base w w' := by
  have h32 := pow_32 n5
  rcases ho.2 with ⟨rfl, hn⟩ | ⟨g, cap, cur, rfl, hbg, hg, hc, hm, hs, ht⟩
  · have e : L = [] := List.length_eq_zero_iff.1 hn
    subst e
    refine (deleteFuncP_none _ _ w).mono ?_
    rintro e w' ⟨rfl, hb⟩
    exact ⟨_, rfl, ⟨none, 0, rfl, fun i hi => by simp [neededL] at hi⟩, hb.mono hbz⟩
  · have ho' : w.ownsRow base 62 5 (.slice (some ⟨g, 0, none⟩) L.length cap) L.length (cellsP L) := ho
    have hgz := (Array.getElem?_eq_some_iff.1 hg).1
    have hPB : PatB w g L.length (fun c => sgn (L.getD c.toNat ByteArray.empty)) (fun i => (i : Int)) := ⟨hgz, fun j hj t ht => ⟨by rw [World.ownsRow.cellAt ho' (j * 5 + t) (by omega), cellsP_at L j t hj ht]; simp, World.ownsRow.frozenAt ho' _⟩⟩
    have hp : ∀ i : Nat, (fun c : Int => !needTo L (sgn (L.getD c.toNat ByteArray.empty)) (2 ^ n.toNat)) (i : Int) = !needTo L (sgn (L.getD i ByteArray.empty)) (2 ^ n.toNat) := fun i => by simp
    have hK := kept_needed L (fun c : Int => !needTo L (sgn (L.getD c.toNat ByteArray.empty)) (2 ^ n.toNat)) (2 ^ n.toNat) L.length (Nat.le_refl _) hp
    rw [neededTo_all] at hK
    have hq : QNd tb ab g n v ((aloneN L (2 ^ n.toNat) : Nat) : Int) w := ⟨⟨kt, by omega⟩, ⟨ka, haz⟩, hab g rfl⟩
    have hEnt := enters_of Tryd.func53 (by kernel_rfl) rfl
    refine (deleteFuncP_any (fun c => sgn (L.getD c.toNat ByteArray.empty)) g L.length cap (fun i => (i : Int)) 53 #[.pointer (some ⟨tb, 0, none⟩), .pointer (some ⟨ab, 0, none⟩)] (fun c : Int => !needTo L (sgn (L.getD c.toNat ByteArray.empty)) (2 ^ n.toNat)) (QNd tb ab g n v ((aloneN L (2 ^ n.toNat) : Nat) : Int)) w (by omega) hc (by unfold maxLen at hm; omega) hPB hq ⟨fun k wx hk hqx => ?_, hEnt, fun w w' h hb => h.keep hb, fun w m x h => h.set m x⟩).mono ?_
    · exact notNeeded_any (sgn (L.getD ((k : Int)).toNat ByteArray.empty)) (sgn_byte _) n v _ tb ab wx n1 n5 hqx.1.1 hqx.2.1.1 hqx.2.1.2 (need_bits L _ h32)
    · rintro e w' ⟨rfl, hB, hb⟩
      have hlen := congrArg List.length hK
      rw [List.length_map] at hlen
      refine ⟨_, rfl, ⟨some ⟨g, 0, none⟩, cap, by rw [hlen], fun i hi => ⟨g, rfl, fun j hj => ?_⟩⟩, hb.mono hbg⟩
      rw [(hB.2 i (by omega) j hj).1]
      clear hB hq hPB
      generalize keptTo (fun c : Int => !needTo L (sgn (L.getD c.toNat ByteArray.empty)) (2 ^ n.toNat)) (fun i => (i : Int)) L.length = K at *
      rw [← hK]
      show some (Value.int .u8 (sgn (L.getD (K.getD i 0).toNat ByteArray.empty) j)) = _
      rw [List.getD_eq_getElem?_getD (l := K), List.getD_eq_getElem?_getD (l := List.map _ K), List.getElem?_map, List.getElem?_eq_getElem (show i < K.length by omega)]
      rfl

end Go.Proofs.YtohmhiodmaahfaaDoor
