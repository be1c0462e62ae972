import Derived.Shelf.Strconv.Itoa0
import Derived.Shelf.Lay
import Derived.Shelf.LaySoft
import Derived.IntWalk
import Derived.Test.YtjclfkbhakjdaaaDoorBtDY
import Derived.Test.YtjclfkbhakjdaaaDoorLyAY
namespace Go.Proofs.YtjclfkbhakjdaaaDoor.Bt
open Go.RowKit Go.Shelf
attribute [local go_sem] Oper.semAt_some
theorem beq_dec (a b : List UInt8) : (a == b) = decide (a = b) := by by_cases h : a = b <;> simp [h]
set_option maxHeartbeats 400000 in
theorem Need_any (x : Int) (h0 : 0 ≤ x) (h1 : x ≤ 18446744073709551615) (w : World) :
    Calls Tryd.prog 55 #[.int .u64 x] w fun e w' => e = .returned (.int .i64 (Lib.bitLen x.toNat)) ∧ w = w' := by
  have hc := fun w => Any.bits_Len64 YtjclfkbhakjdaaaDoor.lays129 x w h0 h1
  clear h0 h1
  go_enter Tryd.func55, Tryd.ntmps55
  go_wp2_with (go_at_call 81; refine (hc _).mono ?_; rintro e w' ⟨rfl, rfl⟩)
  go_ret
  exact ⟨rfl, rfl⟩
end Go.Proofs.YtjclfkbhakjdaaaDoor.Bt
