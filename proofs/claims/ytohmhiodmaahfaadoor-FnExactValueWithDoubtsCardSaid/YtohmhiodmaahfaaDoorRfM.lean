/- readFormula: what holds at its labels. -/
import Derived.Test.YtohmhiodmaahfaaDoorFmI
import Derived.Test.YtohmhiodmaahfaaDoorFmS
import Derived.Test.YtohmhiodmaahfaaDoorFmT
import Derived.Test.YtohmhiodmaahfaaDoorHold
import Derived.Test.YtohmhiodmaahfaaDoorJumps
import Derived.WalkMore
import Derived.LoopTactic
import Derived.Deep.QuietTactic
import Derived.BigQuiet
import Derived.StillTailTactics
import Derived.Maps.AppendAt
namespace Go.Proofs.YtohmhiodmaahfaaDoor
open Go.RowKit
set_option linter.unusedVariables false

/-- the brackets that are open, the inmost first -/
def stk (S : List Fm) : List (Int × List Fm) := (S.map fun f => (f.sign, f.members)).reverse
theorem stk_nil : stk [] = [] := rfl
theorem stk_snoc (S : List Fm) (c : Int) (ms : List Fm) : stk (S ++ [.mk c ms]) = (c, ms) :: stk S := by simp [stk, Fm.sign, Fm.members]

/-- the frame at a label -/
def RfAct (s : ByteArray) (w : World) (uv : Value) (k : Nat) (a : Act) : Prop := ∃ u1 u5 u8 u9 u10 u11 u12 u13 u14 u15 u16 u17 u18 u19 u20 u21 u22 u23 u24 u25 u26 u27 u28 u29 u30 u31 u32 u33 u34 u35 u36 u37 u38 u39 u40 u41 u42 u43 u44 u45 u46 u47 u48 u49 u50 u51 u52 u53 u54 u55 u56 u57 u58 u59 u60 u61 u62 u63 u64 u65 u66 u67 u68 u69 u70 u71 u72 u73 u74 u75 u76 u77 u78 u79 u80 u81 u82 u83 u84 u85 u86 u87 u88 u89 u90 u91 u92 u93 u94 u95 u96 u97 u98 u99 u100 u101 : Value, a = { tmps := #[.string s, u1, .pointer (some ⟨w.heap.size, 0, none⟩), .bool false, .pointer (some ⟨w.heap.size + 1, 0, none⟩), u5, uv, .int .i64 (k : Int), u8, u9, u10, u11, u12, u13, u14, u15, u16, u17, u18, u19, u20, u21, u22, u23, u24, u25, u26, u27, u28, u29, u30, u31, u32, u33, u34, u35, u36, u37, u38, u39, u40, u41, u42, u43, u44, u45, u46, u47, u48, u49, u50, u51, u52, u53, u54, u55, u56, u57, u58, u59, u60, u61, u62, u63, u64, u65, u66, u67, u68, u69, u70, u71, u72, u73, u74, u75, u76, u77, u78, u79, u80, u81, u82, u83, u84, u85, u86, u87, u88, u89, u90, u91, u92, u93, u94, u95, u96, u97, u98, u99, u100, u101], defers := [] }
/-- what memory holds at a label: the result's box, that of f, and the rows of the brackets that are open -/
structure RfMem (s : ByteArray) (w : World) (d : Nat) (S : List Fm) (k : Nat) (uv fs fv : Value) (bs : List Nat) (w' : World) : Prop where
  low : Below w.heap.size w w'
  res : C2 w' w.heap.size (.int .u8 0) (.slice none 0 0)
  box : C2 w' (w.heap.size + 1) fs fv
  hold : Hold w' (w.heap.size + 2) uv S bs
  opens : ∀ f ∈ S, openC f.sign = true
  few : S.length ≤ k ∧ ∀ f ∈ S, f.members.length + d ≤ k
  bound : k ≤ s.size
/-- at the label begin -/
def RfB (s : ByteArray) (w : World) (R : Option Fm) (a : Act) (w' : World) : Prop :=
  ∃ (S : List Fm) (k n0 cap0 : Nat) (c0 : Int) (a0 ua : Option Addr) (uc : Nat) (bs : List Nat), RfAct s w (.slice ua S.length uc) k a ∧ RfMem s w 1 S k (.slice ua S.length uc) (.int .u8 c0) (.slice a0 n0 cap0) bs w' ∧ bs.Nodup ∧ R = begF (byteAt s) s.size (stk S) k
/-- at the label end -/
def RfE (s : ByteArray) (w : World) (R : Option Fm) (a : Act) (w' : World) : Prop :=
  ∃ (S : List Fm) (t : Fm) (k cap0 : Nat) (a0 ua : Option Addr) (uc : Nat) (bs bt : List Nat), RfAct s w (.slice ua S.length uc) k a ∧ RfMem s w 2 S k (.slice ua S.length uc) (.int .u8 t.sign) (.slice a0 t.members.length cap0) bs w' ∧ Hold w' (w.heap.size + 2) (.slice a0 t.members.length cap0) t.members bt ∧ (bs ++ bt).Nodup ∧ t.members.length ≤ k ∧ R = finF (byteAt s) s.size (stk S) t k
/-- what readFormula ends with -/
def RfPost (w : World) (R : Option Fm) (e : Ending) (w' : World) : Prop :=
  ∃ (c : Int) (a0 : Option Addr) (n0 cap0 : Nat) (b : Bool), e = .returned (.tuple #[.agg #[.int .u8 c, .slice a0 n0 cap0], .bool b]) ∧ b = R.isSome ∧ (∀ t, R = some t → c = t.sign ∧ n0 = t.members.length ∧ ∃ bt, Hold w' (w.heap.size + 2) (.slice a0 n0 cap0) t.members bt) ∧ Below w.heap.size w w'
theorem Hold.form {w : World} {B : Nat} {v : Value} {ts : List Fm} {bs : List Nat} (h : Hold w B v ts bs) : ∃ a cap, v = .slice a ts.length cap := by
  obtain ⟨V, h1, _⟩ := h.row
  rcases h1.2 with ⟨rfl, hn⟩ | ⟨g, cap, cur, rfl, _⟩
  · exact ⟨none, 0, by rw [hn]⟩
  · exact ⟨_, cap, rfl⟩
theorem Hold.setBox {w : World} {B : Nat} {v : Value} {ts : List Fm} {bs : List Nat} (h : Hold w B v ts bs) (p : Addr) (x : Value) (hp : p.block < B) : Hold (w.setCell p x) B v ts bs :=
  h.same fun k hk => Below.heap_setCell _ _ _ _ (by have := (h.lt k hk).1; omega)
theorem infoFm : (Tryd.prog.info? 50).map (fun i => (i.zero, i.size, i.bytes)) = some (some (.agg #[.int .u8 0, .slice none 0 0]), 2, 32) := by kernel_rfl

end Go.Proofs.YtohmhiodmaahfaaDoor
