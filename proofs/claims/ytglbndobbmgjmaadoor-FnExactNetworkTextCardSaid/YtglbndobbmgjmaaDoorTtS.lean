/- TableText: the model's. -/
import Derived.Test.YtglbndobbmgjmaaDoorTtM
import Derived.Test.YtglbndobbmgjmaaDoorAt
import Derived.Test.YtglbndobbmgjmaaDoorOwn
import Derived.LoopTactic
namespace Go.Proofs.YtglbndobbmgjmaaDoor
open Go.RowKit
set_option linter.unusedVariables false

theorem text_one (c : Int) (w : World) (h0 : 0 ≤ c) (h1 : c < 256) :
    (convert 36 9 (.slice (some ⟨w.heap.size, 0, none⟩) 1 1)).run Tryd.prog (w.alloc (.cells #[.int .u8 c] 5)) = .ok (.string (strZ [c])) (w.alloc (.cells #[.int .u8 c] 5)) := by
  have h : OwnsU (w.alloc (.cells #[.int .u8 c] 5)) w.heap.size (.slice (some ⟨w.heap.size, 0, none⟩) 1 1) [c] :=
    ⟨rfl, .inr ⟨w.heap.size, 1, _, rfl, Nat.le_refl _, heap_alloc_new w _, Nat.le_refl _, by decide, rfl, rfl⟩⟩
  exact OwnsU.text h (by simp; omega) _ _ 5 Tryd.underlying36 Tryd.underlying5 Tryd.underlying9

set_option maxRecDepth 100000 in
set_option maxHeartbeats 1000000 in
theorem l01Dec_any (n : Int) (w : World) (n1 : 0 ≤ n) (n5 : n ≤ 9) :
    Calls Tryd.prog 21 #[.int .i64 n] w fun e w' => e = .returned (.string (strZ [48 + n])) ∧ Below w.heap.size w w' := by
  have hW : IntKind.u8.wrap (48 + n) = 48 + n := IntWalk.u8_in _ (by omega)
  have HT := text_one (48 + n) w (by omega) (by omega)
  go_enter Tryd.func21, Tryd.ntmps21
  go_wp2_with fail
  go_ret
  exact ⟨rfl, by go_grown⟩

theorem strZ_size (l : List Int) : (strZ l).size = l.length := by
  show (strZ l).data.size = _
  simp [strZ]
theorem str_succ (n v : Int) (k : Nat) : strZ (txtZ n v k) ++ strZ [48 + digZ v (k : Int)] = strZ (txtZ n v (k + 1)) := by
  rw [strZ_append, txtZ_succ]
theorem str_zero (n v : Int) : strZ [48 + n] ++ (⟨#[58]⟩ : ByteArray) = strZ (txtZ n v 0) := by
  have : (⟨#[58]⟩ : ByteArray) = strZ [58] := rfl
  rw [this, strZ_append]; rfl

end Go.Proofs.YtglbndobbmgjmaaDoor
