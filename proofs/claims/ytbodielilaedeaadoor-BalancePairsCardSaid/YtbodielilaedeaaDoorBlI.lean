/- Contracts of balance.Width, Balance, Right. -/
import Derived.Test.YtbodielilaedeaaDoorBlH
import Derived.Shelf.Strconv.Itoa0
import Derived.Shelf.Lay
import Derived.Shelf.LaySoft
namespace Go.Proofs
open Go.Shelf
shelf_lay Lays.n129 Nm 129 at Tryd as YtbodielilaedeaaDoor.lays129
end Go.Proofs
namespace Go.Proofs.YtbodielilaedeaaDoor
open Go.RowKit Go.Shelf
attribute [local go_sem] Oper.semAt_some run_store_func

set_option maxHeartbeats 400000 in
theorem Len_any (x : Int) (h0 : 0 ≤ x) (h1 : x ≤ 18446744073709551615) (w : World) :
    Calls Tryd.prog 20 #[.int .u64 x] w fun e w' => e = .returned (.int .i64 (Lib.bitLen x.toNat)) ∧ w = w' := by
  have hc := fun w => Any.bits_Len64 YtbodielilaedeaaDoor.lays129 x w h0 h1
  have hw : IntKind.u64.wrap x = x := IntWalk.u64_in _ (by omega)
  clear h0 h1
  go_enter Tryd.func20, Tryd.ntmps20
  go_wp2_with (go_at_call 27; refine (hc _).mono ?_; rintro e w' ⟨rfl, rfl⟩)
  go_ret
  exact ⟨rfl, rfl⟩

/-- How many bits tell a place. -/
def widthOf (n : Int) : Nat := min (Lib.bitLen (max n 1).toNat + Lib.bitLen (max n 1).toNat % 2) 62
set_option maxRecDepth 100000 in
set_option maxHeartbeats 1000000 in
theorem Width_any (n : Int) (hn : n ≤ 9223372036854775807) (w : World) :
    Calls Tryd.prog 13 #[.int .i64 n] w fun e w' => e = .returned (.int .i64 (widthOf n)) ∧ w = w' := by
  obtain ⟨x, hx⟩ : ∃ x, max n 1 = x := ⟨_, rfl⟩
  have hx1 : 1 ≤ x := by omega
  have hx2 : x ≤ 9223372036854775807 := by omega
  have hlen := fun w => Len_any x (by omega) (by omega) w
  have hb64 : Lib.bitLen x.toNat ≤ 64 := Lib.bitLen_le _ 64 (by omega) (by omega)
  have hw : IntKind.u64.wrap x = x := IntWalk.u64_in _ (by omega)
  have Hw := Lib.hid (show widthOf n = min (Lib.bitLen x.toNat + Lib.bitLen x.toNat % 2) 62 by rw [widthOf, hx])
  generalize Lib.bitLen x.toNat = b at *
  have hm : (b : Int).tmod 2 = ((b % 2 : Nat) : Int) := by rw [Int.tmod_eq_emod_of_nonneg (by omega)]; omega
  go_enter Tryd.func13, Tryd.ntmps13
  go_wp2_with (go_at_call 20; refine (hlen _).mono ?_; rintro e w' ⟨rfl, rfl⟩)
  have hmin : min ((b : Int) + b % 2) 62 = ((min (b + b % 2) 62 : Nat) : Int) := by omega
  go_ret
  exact ⟨by rw [Hw.out, ← hmin]; rfl, rfl⟩

theorem Valid_is (sv : Value) (bs : List UInt8) (r : Bool) (hr : decide ((-1 : Int) ∉ codesOf bs) = r) (hreach : bs.length ≤ 140737488351232) (w : World) (hS : Sl eB w.heap.size w sv bs) (hT : Tab w) :
    Calls Tryd.prog 15 #[sv] w fun e W' => e = .returned (.bool r) ∧ Below w.heap.size w W' := by subst hr; exact Valid_any sv bs hreach w hS hT

set_option maxRecDepth 100000 in
set_option maxHeartbeats 1000000 in
theorem Right_yes (sv : Value) (bs : List UInt8) (hreach : bs.length ≤ 17592186044416) (w : World) (hS : Sl eB w.heap.size w sv bs) (hT : Tab w) (hfine : (-1 : Int) ∉ codesOf bs) (hgc : 2 * gcOf bs = bs.length) :
    Calls Tryd.prog 10 #[sv] w fun e W' => e = .returned (.bool true) ∧ Below w.heap.size w W' := by
  obtain ⟨A, cap, rfl⟩ := hS.len
  have hg : ((gcOf bs : Int) * 2 == (bs.length : Int)) = true := by simp; omega
  have hg2 : (2 * (gcOf bs : Int) == (bs.length : Int)) = true := by simp; omega
  have hgl : gcOf bs ≤ bs.length := gcOf_le bs
  have hwr : IntKind.i64.wrap (2 * (gcOf bs : Int)) = 2 * (gcOf bs : Int) := IntWalk.i64_in _ (by omega)
  clear hgc
  go_enter Tryd.func10, Tryd.ntmps10
  go_wp2_with fail
  go_at_call 15
  refine (Valid_is _ bs true (by simpa using hfine) (by omega) _ hS hT).mono ?_
  rintro e w1 ⟨rfl, hB⟩
  go_wp2_with (go_at_call 16; refine (Gc_any _ bs (by omega) _ _ (hS.next hB)).mono ?_; rintro e w' ⟨rfl, rfl⟩)
  go_ret
  exact ⟨rfl, hB⟩

set_option maxRecDepth 100000 in
set_option maxHeartbeats 1000000 in
theorem Balance_any (sv : Value) (bs : List UInt8) (hreach : bs.length ≤ 17592186044416) (w : World) (hS : Sl eB w.heap.size w sv bs) (hT : Tab w) (hO : TabO w) :
    Calls Tryd.prog 8 #[sv] w fun e W' => Below w.heap.size w W' ∧
      ((∃ v k, e = .returned (.tuple #[v, .int .i64 (k : Nat), .int .i64 0]) ∧ FindYes bs k ∧ Sl eB W'.heap.size W' v (flipOf bs k)) ∨
       (∃ n, e = .returned (.tuple #[.slice none 0 0, .int .i64 0, .int .i64 n]) ∧ FindNo bs n)) := by
  obtain ⟨A, cap, rfl⟩ := hS.len
  go_enter Tryd.func8, Tryd.ntmps8
  go_wp2_with fail
  go_at_call 14
  refine (Find_any _ bs hreach w hS hT hO).mono ?_
  rintro e w1 ⟨hB, ⟨k, rfl, hy⟩ | ⟨n, rfl, hno⟩⟩
  · go_wp2_with fail
    go_at_call 11
    refine (Flip_any _ bs k hreach w1 (hS.next hB) (hT.below hB) (hO.below hB)).mono ?_
    rintro e w2 ⟨hB2, ⟨v, rfl, -, -, hv⟩ | ⟨rfl, hbad⟩⟩
    · go_wp2
      exact bodyPost_ret (results_tmp3 rfl _ _ _) rfl ⟨below_trans hB hB2, .inl ⟨v, k, rfl, hy, hv⟩⟩
    · exact absurd hbad hy.2.1
  · have hn0 : (n == 0) = false := by
      rcases hno with ⟨rfl, _⟩ | ⟨rfl, _⟩ <;> decide
    have hn : n = 2 ∨ n = 10 := by rcases hno with ⟨rfl, _⟩ | ⟨rfl, _⟩ <;> simp
    go_wp2
    exact bodyPost_ret (results_tmp3 rfl _ _ _) rfl ⟨hB, .inr ⟨n, rfl, hno⟩⟩
end Go.Proofs.YtbodielilaedeaaDoor
