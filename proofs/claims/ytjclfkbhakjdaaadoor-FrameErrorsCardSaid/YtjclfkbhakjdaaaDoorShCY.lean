import Derived.Shelf.Strconv.Itoa0
import Derived.Shelf.Lay
import Derived.Shelf.LaySoft
import Derived.Test.YtjclfkbhakjdaaaDoorLyAY
import Derived.Test.YtjclfkbhakjdaaaDoorShBY
namespace Go.Proofs.YtjclfkbhakjdaaaDoor.Sh
open Go.RowKit Go.Shelf
attribute [local go_sem] Oper.semAt_some run_store_func
set_option maxHeartbeats 400000 in
theorem Len_any (x : Int) (h0 : 0 ≤ x) (h1 : x ≤ 18446744073709551615) (w : World) :
    Calls Tryd.prog 57 #[.int .u64 x] w fun e w' => e = .returned (.int .i64 (Lib.bitLen x.toNat)) ∧ w = w' := by
  have hc := fun w => Any.bits_Len64 YtjclfkbhakjdaaaDoor.lays129 x w h0 h1
  have hw : IntKind.u64.wrap x = x := IntWalk.u64_in _ (by omega)
  clear h0 h1
  go_enter Tryd.func57, Tryd.ntmps57
  go_wp2_with (go_at_call 81; refine (hc _).mono ?_; rintro e w' ⟨rfl, rfl⟩)
  go_ret
  exact ⟨rfl, rfl⟩
def widthOf (n : Int) : Nat := min (Lib.bitLen (max n 1).toNat + Lib.bitLen (max n 1).toNat % 2) 62
set_option maxRecDepth 100000 in
set_option maxHeartbeats 1000000 in
theorem Width_any (n : Int) (hn : n ≤ 9223372036854775807) (w : World) :
    Calls Tryd.prog 38 #[.int .i64 n] w fun e w' => e = .returned (.int .i64 (widthOf n)) ∧ w = w' := by
  obtain ⟨x, hx⟩ : ∃ x, max n 1 = x := ⟨_, rfl⟩
  have hx1 : 1 ≤ x := by omega
  have hx2 : x ≤ 9223372036854775807 := by omega
  have hlen := fun w => Len_any x (by omega) (by omega) w
  have hb64 : Lib.bitLen x.toNat ≤ 64 := Lib.bitLen_le _ 64 (by omega) (by omega)
  have hw : IntKind.u64.wrap x = x := IntWalk.u64_in _ (by omega)
  have Hw := Lib.hid (show widthOf n = min (Lib.bitLen x.toNat + Lib.bitLen x.toNat % 2) 62 by rw [widthOf, hx])
  generalize Lib.bitLen x.toNat = b at *
  have hm : (b : Int).tmod 2 = ((b % 2 : Nat) : Int) := by rw [Int.tmod_eq_emod_of_nonneg (by omega)]; omega
  go_enter Tryd.func38, Tryd.ntmps38
  go_wp2_with (go_at_call 57; refine (hlen _).mono ?_; rintro e w' ⟨rfl, rfl⟩)
  have hmin : min ((b : Int) + b % 2) 62 = ((min (b + b % 2) 62 : Nat) : Int) := by omega
  go_ret
  exact ⟨by rw [Hw.out, ← hmin]; rfl, rfl⟩
theorem Width_is (n : Int) (r : Nat) (hr : widthOf n = r) (hn : n ≤ 9223372036854775807) (w : World) :
    Calls Tryd.prog 38 #[.int .i64 n] w fun e w' => e = .returned (.int .i64 r) ∧ w = w' := by subst hr; exact Width_any n hn w
def bodyK (k : Nat) : Int := 26 * (k + 1)
def indexK (k : Nat) : Int := if k < 2 then 6 else 8
def innerK (k : Nat) : Int := bodyK k + indexK k
set_option maxRecDepth 100000 in
theorem TLong_is (k : Nat) (hk : k < 5) (w : World) :
    Calls Tryd.prog 86 #[.int .i64 (pay k + 3)] w fun e w' => e = .returned (.int .i64 (bodyK k)) ∧ w = w' := by
  rcases (show k = 0 ∨ k = 1 ∨ k = 2 ∨ k = 3 ∨ k = 4 by omega) with rfl | rfl | rfl | rfl | rfl
  all_goals
   simp only [pay, bodyK, Int.cast_ofNat_Int, Int.reduceMul, Int.reduceAdd]
   go_enter Tryd.func86, Tryd.ntmps86
   go_wp2
   go_ret
   exact ⟨rfl, rfl⟩
theorem BWidth_is (k : Nat) (hk : k < 5) (w : World) :
    Calls Tryd.prog 38 #[.int .i64 (bodyK k)] w fun e w' => e = .returned (.int .i64 (indexK k)) ∧ w = w' := by
  rcases (show k = 0 ∨ k = 1 ∨ k = 2 ∨ k = 3 ∨ k = 4 by omega) with rfl | rfl | rfl | rfl | rfl
  · exact Width_is 26 6 (by decide) (by omega) w
  · exact Width_is 52 6 (by decide) (by omega) w
  · exact Width_is 78 8 (by decide) (by omega) w
  · exact Width_is 104 8 (by decide) (by omega) w
  · exact Width_is 130 8 (by decide) (by omega) w
end Go.Proofs.YtjclfkbhakjdaaaDoor.Sh
