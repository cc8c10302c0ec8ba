/- Trees of closures: the program's treeAt. -/
import Derived.Test.YtbliibcfnfgdmaaBrM
import Derived.Test.YtbliibcfnfgdmaaApp2
import Derived.Test.YtbliibcfnfgdmaaSeI
import Derived.Test.YtbliibcfnfgdmaaTool
import Derived.LoopTactic
import Derived.Shelf.Abstract
namespace Go.Proofs.Ytbliibcfnfgdmaa
open Go.RowKit
set_option linter.unusedVariables false

theorem infoBr : (Try.prog.info? 103).map (fun i => (i.zero, i.size, i.bytes)) = some (some (.agg #[.int .i64 0, .int .i64 0, .int .i64 0, .int .i64 0, .int .i64 0]), 5, 40) := by kernel_rfl
/-- the cells of branches -/
def cellsBr (b : Br) : List Value := [.int .i64 (b.fr : Int), .int .i64 (b.to : Int), .int .i64 (b.inp : Int), .int .i64 (b.kd : Int), .int .i64 (b.rs : Int)]
def cellsE (l : List Br) : List Value := l.flatMap cellsBr
theorem cellsE_append (l k : List Br) : cellsE (l ++ k) = cellsE l ++ cellsE k := by unfold cellsE; rw [List.flatMap_append]
theorem cellsE_snoc (l : List Br) (b : Br) : cellsE (l ++ [b]) = cellsE l ++ cellsBr b := by rw [cellsE_append]; simp [cellsE]
theorem cellsE_len (l : List Br) : (cellsE l).length = l.length * 5 := by
  induction l with
  | nil => rfl
  | cons a l ih => show (cellsBr a ++ cellsE l).length = _; rw [List.length_append, ih, List.length_cons, Nat.succ_mul]; show 5 + _ = _; omega
theorem cellsE_one (l : List Br) : ∀ u ∈ cellsE l, u.oneCell' = true := by
  intro u hu
  obtain ⟨b, _, hb⟩ := List.mem_flatMap.1 hu
  simp only [cellsBr, List.mem_cons, List.not_mem_nil, or_false] at hb
  rcases hb with rfl | rfl | rfl | rfl | rfl <;> rfl
theorem cellsE_at : ∀ (l : List Br) (k : Nat), k < l.length → ∃ b, l[k]? = some b ∧ ∀ j u, (cellsBr b)[j]? = some u → (cellsE l)[k * 5 + j]? = some u
  | [], k, hk => by simp at hk
  | a :: l, 0, _ => ⟨a, rfl, fun j u hj => by
    show (cellsBr a ++ cellsE l)[0 * 5 + j]? = _
    have h5 : j < (cellsBr a).length := (List.getElem?_eq_some_iff.1 hj).1
    rw [Nat.zero_mul, Nat.zero_add, List.getElem?_append_left h5]; exact hj⟩
  | a :: l, k + 1, hk => by
    obtain ⟨b, h1, h2⟩ := cellsE_at l k (by simpa using hk)
    refine ⟨b, h1, fun j u hj => ?_⟩
    show (cellsBr a ++ cellsE l)[(k + 1) * 5 + j]? = _
    have h5 : (cellsBr a).length = 5 := rfl
    rw [List.getElem?_append_right (by omega), h5, show (k + 1) * 5 + j - 5 = k * 5 + j by omega]
    exact h2 j u hj
/-- the slice v lies in a block of its own, from block base on, and has these branches -/
def OwnsE (w : World) (base : Nat) (v : Value) (l : List Br) : Prop := w.ownsRow base 103 5 v l.length (cellsE l)
theorem OwnsE.keep {w w' : World} {base : Nat} {v : Value} {l : List Br} (h : OwnsE w base v l) (hb : Below w.heap.size w w') : OwnsE w' base v l := by
  rcases h.2 with ⟨rfl, hn⟩ | ⟨g, cap, cur, rfl, hbg, hg, hc, hm, hs, ht⟩
  · exact ⟨h.1, .inl ⟨rfl, hn⟩⟩
  · exact ⟨h.1, .inr ⟨g, cap, cur, rfl, hbg, (hb.block g (Array.getElem?_eq_some_iff.1 hg).1).trans hg, hc, hm, hs, ht⟩⟩
theorem OwnsE.monoB {w : World} {b b' : Nat} {v : Value} {l : List Br} (h : OwnsE w b v l) (hb : b' ≤ b) : OwnsE w b' v l := by
  rcases h.2 with ⟨rfl, hn⟩ | ⟨g, cap, cur, rfl, hbg, hr⟩
  · exact ⟨h.1, .inl ⟨rfl, hn⟩⟩
  · exact ⟨h.1, .inr ⟨g, cap, cur, rfl, Nat.le_trans hb hbg, hr⟩⟩
theorem OwnsE.from {w : World} {base : Nat} {v : Value} {l : List Br} (h : OwnsE w base v l) (k : Nat) (e : v.ownBlock = some k) : base ≤ k := (World.ownsRow.lt h k e).1
theorem OwnsE.snoc {w : World} {base : Nat} {v : Value} {l : List Br} {b : Br} (h : w.ownsRow base 103 5 v (l.length + 1) (cellsE l ++ cellsBr b)) : OwnsE w base v (l ++ [b]) := by
  unfold OwnsE
  rw [List.length_append, List.length_singleton, cellsE_snoc]
  exact h
theorem OwnsE.joined {w : World} {base : Nat} {v : Value} {l k : List Br} (h : w.ownsRow base 103 5 v (l.length + k.length) (cellsE l ++ cellsE k)) : OwnsE w base v (l ++ k) := by
  unfold OwnsE
  rw [List.length_append, cellsE_append]
  exact h
/-- the form of the slice, and its branches in memory -/
theorem OwnsE.rd {w : World} {base : Nat} {v : Value} {l : List Br} (h : OwnsE w base v l) : ∃ a cap, v = .slice a l.length cap ∧ l.length ≤ maxLen ∧ ∀ k, k < l.length → ∃ g b, a = some ⟨g, 0, none⟩ ∧ l[k]? = some b ∧ ∀ j u, (cellsBr b)[j]? = some u → w.cell? ⟨g, k * 5 + j, none⟩ = some u := by
  rcases h.2 with ⟨rfl, hn⟩ | ⟨g, cap, cur, rfl, hbg, hg, hc, hm, hs, ht⟩
  · have e : l = [] := List.length_eq_zero_iff.1 hn
    subst e
    exact ⟨none, 0, rfl, by simp, fun i hi => by simp at hi⟩
  · have h' := h
    refine ⟨_, cap, rfl, by omega, fun k hk => ?_⟩
    obtain ⟨b, h1, h2⟩ := cellsE_at l k hk
    refine ⟨g, b, rfl, h1, fun j u hj => ?_⟩
    have h5 : j < 5 := (List.getElem?_eq_some_iff.1 hj).1
    rw [World.ownsRow.cellAt h' (k * 5 + j) (by omega)]
    exact h2 j u hj
theorem newBr (w : World) (x0 x1 x2 x3 x4 : Value) (t : TypeId) : ∀ j u, ([x0, x1, x2, x3, x4] : List Value)[j]? = some u → (w.alloc (.cells #[x0, x1, x2, x3, x4] t)).cell? ((⟨w.heap.size, 0, none⟩ : Addr).add j) = some u :=
  World.news_of_block (cs := #[x0, x1, x2, x3, x4]) (t := t) (fr := (0, 0)) (heap_alloc_new w _)

/-! ### the loads of the two contacts of a digit -/
theorem loS_walk {S d : Nat} (hS : S < 4294967296) : bits .andNot .i64 (S : Int) (maskN d : Int) = ((loS S d : Nat) : Int) := by
  have := maskN_lt d
  exact i64_andNot _ _ (by omega) (by omega)
theorem hiS_walk {S d : Nat} (hS : S < 4294967296) : bits .and .i64 (S : Int) (maskN d : Int) = ((hiS S d : Nat) : Int) := by
  have := maskN_lt d
  exact i64_and _ _ (by omega) (by omega)
theorem breakLoad_any (S d : Nat) (w : World) (hS : S < 4294967296) :
    Calls Try.prog 106 #[.agg #[.int .i64 (maskN d : Int), .int .i64 (S : Int)]] w fun e w' => e = .returned (.int .i64 ((loS S d : Nat) : Int)) ∧ Below w.heap.size w w' := by
  have HW := Lib.hid (loS_walk (d := d) hS)
  go_enter Try.func106, Try.ntmps106
  go_wp2
  go_ret
  exact ⟨by rw [← HW.out]; rfl, by go_grown⟩
theorem makeLoad_any (S d : Nat) (w : World) (hS : S < 4294967296) :
    Calls Try.prog 107 #[.agg #[.int .i64 (maskN d : Int), .int .i64 (S : Int)]] w fun e w' => e = .returned (.int .i64 ((hiS S d : Nat) : Int)) ∧ Below w.heap.size w w' := by
  have HW := Lib.hid (hiS_walk (d := d) hS)
  go_enter Try.func107, Try.ntmps107
  go_wp2
  go_ret
  exact ⟨by rw [← HW.out]; rfl, by go_grown⟩

theorem forkLoads_any (w : World) :
    Calls Try.prog 95 #[] w fun e w' => ∃ g, e = .returned (.slice (some ⟨g, 0, none⟩) 2 2) ∧ w'.cell? ⟨g, 0, none⟩ = some (.func (.func 106) #[] #[]) ∧ w'.cell? ⟨g, 1, none⟩ = some (.func (.func 107) #[] #[]) ∧ Below w.heap.size w w' := by
  go_enter Try.func95, Try.ntmps95
  go_wp2
  go_ret
  exact ⟨_, rfl, by rw [World.cell?_alloc_at _ _ _ _ rfl]; rfl, by rw [World.cell?_alloc_at _ _ _ _ rfl]; rfl, by go_grown⟩

/-- wx has all blocks of w from B on as they are there -/
def Agr2 (B : Nat) (w wx : World) : Prop := w.heap.size ≤ wx.heap.size ∧ ∀ k, B ≤ k → k < w.heap.size → wx.heap[k]? = w.heap[k]?
theorem Agr2.of {B : Nat} {w wx : World} (h : Below w.heap.size w wx) : Agr2 B w wx := ⟨h.size, fun k _ hk => h.block k hk⟩
theorem Agr2.trans {B : Nat} {a b c : World} (h : Agr2 B a b) (k : Agr2 B b c) : Agr2 B a c :=
  ⟨Nat.le_trans h.1 k.1, fun i hB hi => (k.2 i hB (Nat.lt_of_lt_of_le hi h.1)).trans (h.2 i hB hi)⟩
theorem Agr2.mono {B B' : Nat} {a b : World} (h : Agr2 B a b) (hB : B ≤ B') : Agr2 B' a b := ⟨h.1, fun i hi hk => h.2 i (Nat.le_trans hB hi) hk⟩
theorem Agr2.refl (B : Nat) (w : World) : Agr2 B w w := ⟨Nat.le_refl _, fun _ _ _ => rfl⟩
theorem Agr2.set {B : Nat} {w wx : World} (h : Agr2 B w wx) (g i : Nat) (v : Value) (hg : g < B ∨ w.heap.size ≤ g) : Agr2 B w (wx.setCell ⟨g, i, none⟩ v) :=
  ⟨by rw [World.size_setCell]; exact h.1, fun k hB hk => by rw [Below.heap_setCell wx ⟨g, i, none⟩ v k (by show k ≠ g; omega)]; exact h.2 k hB hk⟩
theorem Agr2.alloc {B : Nat} {w wx : World} (h : Agr2 B w wx) (o : Obj) : Agr2 B w (wx.alloc o) := h.trans (Agr2.of ((Below.refl _ _).alloc (Nat.le_refl _) o))
theorem Agr2.drew {B : Nat} {w wx : World} (h : Agr2 B w wx) : Agr2 B w wx.drew := h
theorem Agr2.cell {B : Nat} {w wx : World} (h : Agr2 B w wx) {b i : Nat} {v : Value} (hB : B ≤ b) (hc : w.cell? ⟨b, i, none⟩ = some v) (hb : b < w.heap.size) : wx.cell? ⟨b, i, none⟩ = some v :=
  (World.cell?_of_block (w := w) (h.2 b hB hb)).trans hc
/-- a function value goes on by branches: a tree, made of blocks from B on -/
def TreeV (w : World) (B : Nat) (v : Value) (f : Nat → List Br) : Prop :=
  ∃ F caps, v = .func (.func F) #[] caps ∧ (∀ (args : Array Value) (w : World), (callFunc F args).run Try.prog w = .ok (.enter F args) w) ∧
    ∀ (S : Nat) (wx : World), S < 4294967296 → Agr2 B w wx → Calls Try.prog F (#[.int .i64 (S : Int)] ++ caps) wx fun e w' => ∃ q, e = .returned q ∧ OwnsE w' wx.heap.size q (f S) ∧ Below wx.heap.size wx w'
theorem TreeV.agr {w w' : World} {B : Nat} {v : Value} {f : Nat → List Br} (h : TreeV w B v f) (hb : Agr2 B w w') : TreeV w' B v f := by
  obtain ⟨F, caps, rfl, hE, h⟩ := h
  exact ⟨F, caps, rfl, hE, fun S wx hS hx => h S wx hS (hb.trans hx)⟩
theorem TreeV.mono {w : World} {B B' : Nat} {v : Value} {f : Nat → List Br} (h : TreeV w B v f) (hB : B' ≤ B) : TreeV w B' v f := by
  obtain ⟨F, caps, rfl, hE, h⟩ := h
  exact ⟨F, caps, rfl, hE, fun S wx hS hx => h S wx hS (hx.mono hB)⟩
theorem ownsENil (w : World) (b : Nat) : OwnsE w b (.slice none 0 0) [] := World.ownsRow_nil _ _ _ _

/-- the tree of an end -/
theorem treeLeaf (w : World) (B : Nat) : TreeV w B (.func (.func 92) #[] #[]) (fun _ => []) := by
  refine ⟨_, _, rfl, enters_of Try.func92 (by kernel_rfl) rfl, fun S wx _ _ => ?_⟩
  show Calls Try.prog 92 #[.int .i64 (S : Int)] wx _
  go_enter Try.func92, Try.ntmps92
  go_wp2
  go_ret
  exact ⟨_, rfl, ownsENil _ _, Below.refl _ _⟩

end Go.Proofs.Ytbliibcfnfgdmaa
