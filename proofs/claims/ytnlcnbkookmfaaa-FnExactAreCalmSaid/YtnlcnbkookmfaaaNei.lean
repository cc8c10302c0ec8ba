/- Rows that follow one another: the program's neighbours. -/
import Derived.Test.YtnlcnbkookmfaaaChf
import Derived.Test.YtnlcnbkookmfaaaArr
import Derived.Test.YtnlcnbkookmfaaaBitM
import Derived.Deep.RegionWith
import Derived.Deep.RegionHeld3
namespace Go.Proofs.Ytnlcnbkookmfaaa
open Go.RowKit
set_option linter.unusedVariables false

/-- told in the first rows, and the first columns of row k: b follows a, or a follows b -/
def NearTo (xss : List (List Int)) (k j : Nat) (a b : Nat) : Prop :=
  ∃ r c, (r < k ∨ (r = k ∧ c < j)) ∧ r < xss.length ∧ c < (xss.getD r []).length ∧ ((a = r ∧ plZ xss r c = (b : Int)) ∨ (b = r ∧ plZ xss r c = (a : Int)))
/-- b follows a, or a follows b -/
def Near (xss : List (List Int)) (a b : Nat) : Prop := ∃ r c, r < xss.length ∧ c < (xss.getD r []).length ∧ ((a = r ∧ plZ xss r c = (b : Int)) ∨ (b = r ∧ plZ xss r c = (a : Int)))
theorem nearTo_zero (xss : List (List Int)) (a b : Nat) : ¬ NearTo xss 0 0 a b := fun ⟨r, c, h, _⟩ => by omega
theorem nearTo_all (xss : List (List Int)) (a b : Nat) : NearTo xss xss.length 0 a b ↔ Near xss a b :=
  ⟨fun ⟨r, c, h, h1, h2, h3⟩ => ⟨r, c, h1, h2, h3⟩, fun ⟨r, c, h1, h2, h3⟩ => ⟨r, c, .inl h1, h1, h2, h3⟩⟩
theorem nearTo_row {xss : List (List Int)} {k : Nat} (a b : Nat) : NearTo xss k (xss.getD k []).length a b ↔ NearTo xss (k + 1) 0 a b := by
  constructor
  · rintro ⟨r, c, h, h1, h2, h3⟩
    exact ⟨r, c, .inl (by omega), h1, h2, h3⟩
  · rintro ⟨r, c, h, h1, h2, h3⟩
    refine ⟨r, c, ?_, h1, h2, h3⟩
    by_cases e : r = k
    · subst e; exact .inr ⟨rfl, h2⟩
    · left; omega
theorem nearTo_none {xss : List (List Int)} {k j : Nat} (h : plZ xss k j = -1) (a b : Nat) : NearTo xss k j a b ↔ NearTo xss k (j + 1) a b := by
  constructor
  · rintro ⟨r, c, h0, h1⟩
    exact ⟨r, c, by omega, h1⟩
  · rintro ⟨r, c, h0, h1, h2, h3⟩
    refine ⟨r, c, ?_, h1, h2, h3⟩
    rcases h0 with h0 | ⟨rfl, h0⟩
    · exact .inl h0
    · by_cases e : c = j
      · subst e; rw [h] at h3; omega
      · right; exact ⟨rfl, by omega⟩
theorem nearTo_some {xss : List (List Int)} {k j X : Nat} (h : plZ xss k j = (X : Int)) (hk : k < xss.length) (hj : j < (xss.getD k []).length) (a b : Nat) :
    ((NearTo xss k j a b ∨ (a = k ∧ b = X)) ∨ (a = X ∧ b = k)) ↔ NearTo xss k (j + 1) a b := by
  constructor
  · rintro ((⟨r, c, h0, h1⟩ | ⟨rfl, rfl⟩) | ⟨rfl, rfl⟩)
    · exact ⟨r, c, by omega, h1⟩
    · exact ⟨a, j, by omega, hk, hj, .inl ⟨rfl, h⟩⟩
    · exact ⟨b, j, by omega, hk, hj, .inr ⟨rfl, h⟩⟩
  · rintro ⟨r, c, h0, h1, h2, h3⟩
    by_cases e : r = k ∧ c = j
    · obtain ⟨rfl, rfl⟩ := e
      rw [h] at h3
      rcases h3 with ⟨rfl, h3⟩ | ⟨rfl, h3⟩
      · left; right; exact ⟨rfl, by omega⟩
      · right; exact ⟨by omega, rfl⟩
    · left; left
      exact ⟨r, c, by omega, h1, h2, h3⟩

set_option maxRecDepth 100000 in
set_option maxHeartbeats 1000000 in
theorem neighbours_any (v : Value) (p : Int) (xss yss : List (List Int)) (w : World) (ha : ReadsH w v p xss yss) (hb : chaB p xss yss = true) :
    Calls Try.prog 111 #[v] w fun e w' => e = .returned (arrV (matZ (Near xss))) ∧ Below w.heap.size w w' := by
  have HNX := Lib.hid (fun (r c : Nat) (hr : r < xss.length) (hc : (c : Int) < p) => nx_bd hb hr hc)
  have HLN := Lib.hid (fun r (hr : r < xss.length) => (row_len hb hr).1)
  obtain ⟨⟨n1, n8⟩, ⟨p1, p4⟩, -⟩ := chaB_out hb
  obtain ⟨a, ca, b', cb, rfl, h1, _⟩ := ha
  have Ha : Hid (∀ k, k < xss.length → ∃ b off u, a = some ⟨b, off, none⟩ ∧ w.cell? ⟨b, off + k, none⟩ = some u ∧ Reads w u (xss.getD k [])) := fun k hk => h1.cellR hk
  have h0 := ((C3.here w (.int .i64 p) (.slice a xss.length ca) (.slice b' yss.length cb) 27).alloc (.cells (arrC fun _ => 0) 67)).alloc (.cells (arrC fun _ => 0) 67)
  have a1 := (Arr8.here (w.alloc (.cells #[.int .i64 p, .slice a xss.length ca, .slice b' yss.length cb] 27)) (fun _ => 0) 67).alloc (.cells (arrC fun _ => 0) 67)
  have a2 := Arr8.here ((w.alloc (.cells #[.int .i64 p, .slice a xss.length ca, .slice b' yss.length cb] 27)).alloc (.cells (arrC fun _ => 0) 67)) (fun _ => 0) 67
  simp only [World.size_alloc] at a1 a2
  have HZ : Hid (∀ i, i < 8 → (0 : Int) = matZ (NearTo xss 0 0) i) := fun i _ => by
    unfold matZ; rw [rowN_congr (Q := fun _ => False) fun j _ => ⟨fun h => nearTo_zero xss i j h, False.elim⟩, rowN_none]; rfl
  have A2 := Lib.hid (a2.congr HZ.out)
  have HALL : Hid (∀ i, matZ (NearTo xss xss.length 0) i = matZ (Near xss) i) := fun i => matZ_congr fun j _ => nearTo_all xss i j
  obtain ⟨r0, e0⟩ : ∃ r, matZ (Near xss) 0 = r := ⟨_, rfl⟩
  obtain ⟨r1, e1⟩ : ∃ r, matZ (Near xss) 1 = r := ⟨_, rfl⟩
  obtain ⟨r2, e2⟩ : ∃ r, matZ (Near xss) 2 = r := ⟨_, rfl⟩
  obtain ⟨r3, e3⟩ : ∃ r, matZ (Near xss) 3 = r := ⟨_, rfl⟩
  obtain ⟨r4, e4⟩ : ∃ r, matZ (Near xss) 4 = r := ⟨_, rfl⟩
  obtain ⟨r5, e5⟩ : ∃ r, matZ (Near xss) 5 = r := ⟨_, rfl⟩
  obtain ⟨r6, e6⟩ : ∃ r, matZ (Near xss) 6 = r := ⟨_, rfl⟩
  obtain ⟨r7, e7⟩ : ∃ r, matZ (Near xss) 7 = r := ⟨_, rfl⟩
  rw [show arrV (matZ (Near xss)) = .agg #[.int .i64 r0, .int .i64 r1, .int .i64 r2, .int .i64 r3, .int .i64 r4, .int .i64 r5, .int .i64 r6, .int .i64 r7] by unfold arrV; rw [e0, e1, e2, e3, e4, e5, e6, e7]]
  have E0 := Lib.hid e0
  have E1 := Lib.hid e1
  have E2 := Lib.hid e2
  have E3 := Lib.hid e3
  have E4 := Lib.hid e4
  have E5 := Lib.hid e5
  have E6 := Lib.hid e6
  have E7 := Lib.hid e7
  clear e0 e1 e2 e3 e4 e5 e6 e7
  clear hb h1 HZ
  unfold arrC at h0 a1 a2 A2
  generalize hn : xss.length = n at *
  generalize yss.length = m at *
  have hnx := Lib.hid hn
  clear hn a2
  go_enter Try.func111, Try.ntmps111
  go_wp2_with fail
  go_loopw [11] (fun c wr => ∃ k : Nat, k ≤ n ∧ c = .int .i64 (k : Int) ∧ Below w.heap.size w wr ∧ C3 wr w.heap.size (.int .i64 p) (.slice a n ca) (.slice b' m cb) ∧ Hid (Arr8 wr (w.heap.size + 1) (fun _ => 0)) ∧ Hid (Arr8 wr (w.heap.size + 1 + 1) (matZ (NearTo xss k 0)))) (fun c _ => n - (intOf c).toNat)
  case atStart => exact ⟨0, Nat.zero_le _, rfl, by go_grown, h0, a1, A2⟩
  case round =>
    clear h0 a1 A2
    obtain ⟨k, hk, rfl, hL, h0, a1, a2⟩ := hrel
    by_cases hkl : k < n
    · obtain ⟨ab, ao, u, rfl, hu, hr⟩ := Ha.out k hkl
      have hca := cell_later hL hu
      have hr' := hr
      obtain ⟨ua, uc, rfl, hum, _⟩ := hr
      unfold maxLen at hum
      have hk1 : (k : Int) < (n : Int) := by omega
      have hk0 : (0 : Int) ≤ (k : Int) := by omega
      have hrl := HLN.out k hkl
      obtain ⟨rl, hrl'⟩ : ∃ rl, (xss.getD k []).length = rl := ⟨_, rfl⟩
      rw [hrl'] at hrl hca hum
      have HRL := Lib.hid hrl'
      have HP : Hid (∀ i, i < rl → ∃ b off, ua = some ⟨b, off, none⟩ ∧ w.cell? ⟨b, off + i, none⟩ = some (.int .i64 (plZ xss k i))) := fun i hi => hr'.cellR (by rw [HRL.out]; exact hi)
      have HLE : Hid (∀ i, matZ (NearTo xss k rl) i = matZ (NearTo xss (k + 1) 0) i) := fun i => matZ_congr fun j _ => by rw [← HRL.out]; exact nearTo_row i j
      clear hu hr' hrl'
      go_wp2_with fail
      go_loopw [18] (fun c wy => ∃ j : Nat, j ≤ rl ∧ c = .int .i64 (j : Int) ∧ Below w.heap.size w wy ∧ wr.heap.size ≤ wy.heap.size ∧ C3 wy w.heap.size (.int .i64 p) (.slice (some ⟨ab, ao, none⟩) n ca) (.slice b' m cb) ∧ Hid (Arr8 wy (w.heap.size + 1) (fun _ => 0)) ∧ Hid (Arr8 wy (w.heap.size + 1 + 1) (matZ (NearTo xss k j)))) (fun c _ => rl - (intOf c).toNat)
      case atStart => exact ⟨0, Nat.zero_le _, rfl, hL, Nat.le_refl _, h0, a1, a2⟩
      case round =>
        clear hL h0 a1 a2
        obtain ⟨j, hj, rfl, hL, hzz, h0, a1, a2⟩ := hrel
        by_cases hjl : j < rl
        · obtain ⟨ub, uo, rfl, hx⟩ := HP.out j hjl
          have hcb := cell_later hL hx
          have hj1 : (j : Int) < (rl : Int) := by omega
          have hj0 : (0 : Int) ≤ (j : Int) := by omega
          obtain ⟨b0, b1⟩ := HNX.out k j hkl (by omega)
          clear hx
          by_cases hneg : plZ xss k j = -1
          · have HEQ : Hid (∀ i, matZ (NearTo xss k j) i = matZ (NearTo xss k (j + 1)) i) := fun i => matZ_congr fun b _ => nearTo_none hneg i b
            rw [hneg] at hcb
            clear hneg b0 b1
            go_wp2_with fail
            exact ⟨⟨j + 1, by omega, by go_num, hL, hzz, h0, a1, a2.out.congr fun i _ => HEQ.out i⟩, by simp [intOf]; omega⟩
          · obtain ⟨X, hX⟩ : ∃ X : Nat, plZ xss k j = (X : Int) := ⟨(plZ xss k j).toNat, by omega⟩
            have hX8 : X < 8 := by omega
            have hk8 : k < 8 := by omega
            have hd : ((X : Int) != -1) = true := by simp
            have HEQ : Hid (∀ i, matZ (fun a b => (NearTo xss k j a b ∨ (a = k ∧ b = X)) ∨ (a = X ∧ b = k)) i = matZ (NearTo xss k (j + 1)) i) := fun i => matZ_congr fun b _ => nearTo_some hX (by rw [hnx.out]; exact hkl) (by rw [HRL.out]; exact hjl) i b
            rw [hX] at hcb
            clear hneg b0 b1 hX
            have hXi0 : (0 : Int) ≤ (X : Int) := by omega
            have hXi1 : (X : Int) < 8 := by omega
            have hki1 : (k : Int) < 8 := by omega
            obtain ⟨c1, f1⟩ := a2.out.1 k hk8
            obtain ⟨V, hV⟩ : ∃ V, bits .or .i64 (matZ (NearTo xss k j) k) (IntKind.i64.wrap (2 ^ X)) = V := ⟨_, rfl⟩
            have HV : Hid (V = ((rowN (NearTo xss k j k) ||| 2 ^ X : Nat) : Int)) := by
              rw [Hid, ← hV, IntWalk.i64_left]
              exact or_walk (rowN (NearTo xss k j k)) X (by have := rowN_lt (NearTo xss k j k); omega) (by omega)
            have HA1 : Hid (∀ i, (if i = k then V else matZ (NearTo xss k j) i) = matZ (fun a b => NearTo xss k j a b ∨ (a = k ∧ b = X)) i) := fun i => by
              rw [HV.out]; exact matZ_put _ hX8 i
            obtain ⟨T, hT⟩ : ∃ T, matZ (fun a b => NearTo xss k j a b ∨ (a = k ∧ b = X)) X = T := ⟨_, rfl⟩
            obtain ⟨V2, hV2⟩ : ∃ V2, bits .or .i64 T (IntKind.i64.wrap (2 ^ k)) = V2 := ⟨_, rfl⟩
            have HV2 : Hid (V2 = ((rowN (fun b => NearTo xss k j X b ∨ (X = k ∧ b = X)) ||| 2 ^ k : Nat) : Int)) := by
              rw [Hid, ← hV2, ← hT, IntWalk.i64_left]
              exact or_walk (rowN (fun b => NearTo xss k j X b ∨ (X = k ∧ b = X))) k (by have := rowN_lt (fun b => NearTo xss k j X b ∨ (X = k ∧ b = X)); omega) (by omega)
            have HA2 : Hid (∀ i, (if i = X then V2 else matZ (fun a b => NearTo xss k j a b ∨ (a = k ∧ b = X)) i) = matZ (NearTo xss k (j + 1)) i) := fun i => by
              rw [HV2.out, ← HEQ.out]; exact matZ_put (fun a b => NearTo xss k j a b ∨ (a = k ∧ b = X)) hk8 i
            have a3 := Lib.hid ((a2.out.store hk8 V).congr fun i _ => HA1.out i)
            have c2 := (a3.out.1 X hX8).1
            have f2 := (a3.out.1 X hX8).2
            rw [hT] at c2
            have a4 := Lib.hid ((a3.out.store hX8 V2).congr fun i _ => HA2.out i)
            have hg := a2.out.2
            generalize matZ (NearTo xss k j) k = S at *
            clear hT HV HA1 HV2 HA2 HEQ
            have c2' : ((wr.setCell ⟨w.heap.size + 1 + 1, k, none⟩ (.int .i64 V)).drew).cell? ⟨w.heap.size + 1 + 1, X, none⟩ = some (.int .i64 T) := c2
            have f2' : ((wr.setCell ⟨w.heap.size + 1 + 1, k, none⟩ (.int .i64 V)).drew).frozen? ⟨w.heap.size + 1 + 1, X, none⟩ = false := f2
            go_wp2_with fail
            go_region_with fail
            all_goals go_wp2_with fail
            all_goals go_region_with fail
            all_goals go_wp2_with fail
            all_goals exact ⟨⟨j + 1, by omega, by go_num, by go_grown, by simp; omega, (h0.set _ _ _ (by omega)).set _ _ _ (by omega), (a1.out.set _ _ _ (by omega)).set _ _ _ (by omega), a4.out⟩, by simp [intOf]; omega⟩
        · have e : j = rl := by omega
          have hjn : ¬ (j : Int) < (rl : Int) := by omega
          have a3 : Hid (Arr8 wr (w.heap.size + 1 + 1) (matZ (NearTo xss (k + 1) 0))) := a2.out.congr fun i _ => by rw [e]; exact HLE.out i
          clear e a2
          go_wp2_with fail
          exact ⟨⟨k + 1, by omega, by go_num, hL, h0, a1, a3⟩, by simp [intOf]; omega⟩
    · have e : k = n := by omega
      have hkn : ¬ (k : Int) < (n : Int) := by omega
      have a3 : Hid (Arr8 wr (w.heap.size + 1 + 1) (matZ (Near xss))) := a2.out.congr fun i _ => by rw [e]; exact HALL.out i
      obtain ⟨q0, q1, q2, q3, q4, q5, q6, q7⟩ := a3.out.cells
      rw [E0.out] at q0
      rw [E1.out] at q1
      rw [E2.out] at q2
      rw [E3.out] at q3
      rw [E4.out] at q4
      rw [E5.out] at q5
      rw [E6.out] at q6
      rw [E7.out] at q7
      have hg := a3.out.2
      obtain ⟨x0, x1, x2, x3, x4, x5, x6, x7⟩ := a1.out.cells
      have y0 := (a1.out.1 0 (by decide)).2
      have y1 := (a1.out.1 1 (by decide)).2
      have y2 := (a1.out.1 2 (by decide)).2
      have y3 := (a1.out.1 3 (by decide)).2
      have y4 := (a1.out.1 4 (by decide)).2
      have y5 := (a1.out.1 5 (by decide)).2
      have y6 := (a1.out.1 6 (by decide)).2
      have y7 := (a1.out.1 7 (by decide)).2
      clear e a2 a3 a1
      go_wp2_with fail
      refine bodyPost_ret (v := .agg #[.int .i64 r0, .int .i64 r1, .int .i64 r2, .int .i64 r3, .int .i64 r4, .int .i64 r5, .int .i64 r6, .int .i64 r7]) (by simp [results, Try.results111, go_sem, *]) rfl ?_
      exact ⟨rfl, by go_grown⟩

end Go.Proofs.Ytnlcnbkookmfaaa
