import Derived.Test.YtcngnjkpnmpcpaaDoorPaLZ
namespace Go.Proofs.YtcngnjkpnmpcpaaDoor
open Go.RowKit Go.Shelf
attribute [local go_sem] Oper.semAt_some run_store_func
def libE (n : Int) (s : Nat) : Int := if 0 ≤ n ∧ n ≤ 8 then (if (libG (2 * n.toNat) s).length = 2 * n.toNat then 0 else 200) else 2
def libP (n : Int) (s : Nat) : List Pr := if libE n s = 0 then pairsOf (libG (2 * n.toNat) s) else []
set_option maxRecDepth 100000 in
set_option maxHeartbeats 2000000 in
theorem Lib_low (b0 b1 pb : Nat) (n : Int) (hn : n < 0) (w : World) (h0 : Boxed w b0 3 (.int .i64 n)) :
    Calls Tryd.prog 28 #[.pointer (some ⟨b0, 0, none⟩), .pointer (some ⟨b1, 0, none⟩), .pointer (some ⟨pb, 0, none⟩)] w fun e w' => w = w' ∧ e = .panicked (errno 2) := by
  have hc0 := h0.cell
  have hd1 : decide (0 ≤ n) = false := decide_eq_false (by omega)
  go_enter Tryd.func28, Tryd.ntmps28
  go_wp2_with fail
  go_at_call 29
  refine (pmust_no _ _).mono ?_
  rintro e w1 ⟨rfl, rfl⟩
  go_wp2_with fail
  exact ⟨rfl, rfl, rfl⟩
set_option maxRecDepth 100000 in
set_option maxHeartbeats 2000000 in
theorem Lib_high (b0 b1 pb : Nat) (n : Int) (hn : 8 < n) (w : World) (h0 : Boxed w b0 3 (.int .i64 n)) :
    Calls Tryd.prog 28 #[.pointer (some ⟨b0, 0, none⟩), .pointer (some ⟨b1, 0, none⟩), .pointer (some ⟨pb, 0, none⟩)] w fun e w' => w = w' ∧ e = .panicked (errno 2) := by
  have hc0 := h0.cell
  have hd1 : decide (0 ≤ n) = true := decide_eq_true (by omega)
  have hd2 : decide (n ≤ 8) = false := decide_eq_false (by omega)
  go_enter Tryd.func28, Tryd.ntmps28
  go_wp2_with fail
  go_at_call 29
  refine (pmust_no _ _).mono ?_
  rintro e w1 ⟨rfl, rfl⟩
  go_wp2_with fail
  exact ⟨rfl, rfl, rfl⟩
set_option maxRecDepth 100000 in
set_option maxHeartbeats 2000000 in
theorem Lib_few (b0 b1 pb : Nat) (n s : Nat) (hn : n ≤ 8) (hs : s < 18446744073709551616) (w : World) (hT : Tab w) (h0 : Boxed w b0 3 (.int .i64 n)) (h1 : Boxed w b1 23 (.int .u64 s)) (hl : (libG (2 * n) s).length ≠ 2 * n) :
    Calls Tryd.prog 28 #[.pointer (some ⟨b0, 0, none⟩), .pointer (some ⟨b1, 0, none⟩), .pointer (some ⟨pb, 0, none⟩)] w fun e w' => Below w.heap.size w w' ∧ e = .panicked (errno 200) := by
  have hL := library_any (2 * n) s (by omega) hs w hT
  have hc0 := h0.cell
  have hc1 := h1.cell
  have hd1 : decide (0 ≤ (n : Int)) = true := decide_eq_true (by omega)
  have hd2 : decide ((n : Int) ≤ 8) = true := decide_eq_true (by omega)
  have e1 : IntKind.i64.wrap (2 * (n : Int)) = ((2 * n : Nat) : Int) := by rw [IntWalk.i64_in _ (by omega)]; omega
  generalize libG (2 * n) s = G at *
  go_enter Tryd.func28, Tryd.ntmps28
  go_wp2_with fail
  go_at_call 29
  refine (pmust_yes _ _).mono ?_
  rintro e w1 ⟨rfl, rfl⟩
  go_wp2_with fail
  go_at_call 30
  refine hL.mono ?_
  rintro e w1 ⟨hB, ⟨he, -⟩ | ⟨-, rfl⟩⟩
  · exact absurd he hl
  · go_wp2_with fail
    exact ⟨rfl, hB, rfl⟩
theorem LibW_any (b0 b1 pb : Nat) (n : Int) (s : Nat) (hs : s < 18446744073709551616) (w : World) (hT : Tab w) (h0 : Boxed w b0 3 (.int .i64 n)) (h1 : Boxed w b1 23 (.int .u64 s)) (hp : Boxed w pb 22 (.slice none 0 0)) :
    WorkIs 28 #[.pointer (some ⟨b0, 0, none⟩), .pointer (some ⟨b1, 0, none⟩), .pointer (some ⟨pb, 0, none⟩)] pb w
      (fun w' => libE n s = 0 ∧ ∃ v, Boxed w' pb 22 v ∧ w'.ownsRow w.heap.size 46 2 v (libP n s).length ((allP (libP n s)).map sV)) (fun k w' => k = libE n s ∧ libE n s ≠ 0 ∧ Boxed w' pb 22 (.slice none 0 0)) := by
  unfold WorkIs
  by_cases hlo : n < 0
  · have e2 : libE n s = 2 := if_neg (by omega)
    refine (Lib_low b0 b1 pb n hlo w h0).mono ?_
    rintro e w' ⟨rfl, rfl⟩
    exact ⟨keep_r _ _ _, .inr ⟨2, rfl, by rw [e2], by rw [e2]; decide, hp⟩⟩
  by_cases hhi : 8 < n
  · have e2 : libE n s = 2 := if_neg (by omega)
    refine (Lib_high b0 b1 pb n hhi w h0).mono ?_
    rintro e w' ⟨rfl, rfl⟩
    exact ⟨keep_r _ _ _, .inr ⟨2, rfl, by rw [e2], by rw [e2]; decide, hp⟩⟩
  obtain ⟨m, rfl⟩ : ∃ m : Nat, n = m := ⟨n.toNat, by omega⟩
  by_cases hl : (libG (2 * m) s).length = 2 * m
  · have e2 : libE m s = 0 := by
      unfold libE
      rw [if_pos (by omega), Int.toNat_natCast, if_pos hl]
    have e3 : libP m s = pairsOf (libG (2 * m) s) := by
     unfold libP
     rw [if_pos e2, Int.toNat_natCast]
    obtain ⟨hp1, hp2⟩ := allP_pairs m _ hl
    refine (Lib_loop b0 b1 pb m s (by omega) hs w hT h0 h1 hp hl).mono ?_
    rintro e w' ⟨hK, hv, v, hbv, hov⟩
    refine ⟨hK, .inl ⟨hv, e2, v, hbv, ?_⟩⟩
    rw [e3, hp1, hp2]
    exact hov
  · have e2 : libE m s = 200 := by
      unfold libE
      rw [if_pos (by omega), Int.toNat_natCast, if_neg hl]
    refine (Lib_few b0 b1 pb m s (by omega) hs w hT h0 h1 hl).mono ?_
    rintro e w' ⟨hB, rfl⟩
    exact ⟨keep_of hB, .inr ⟨200, rfl, by rw [e2], by rw [e2]; decide, (hB.block _ hp.lt).trans hp⟩⟩
set_option maxRecDepth 100000 in
set_option maxHeartbeats 2000000 in
theorem Library_any (n : Int) (s : Nat) (hs : s < 18446744073709551616) (w : World) (hT : Tab w) :
    Calls Tryd.prog 10 #[.int .i64 n, .int .u64 s] w fun e w' => ∃ v, e = .returned (.tuple #[v, .int .i64 (libE n s)]) ∧ PrsIn w'.heap.size w' v (libP n s) ∧ Below w.heap.size w w' := by
  have hmf : ∀ (fn : Fn) (first cap : Array Value) (w : World), (Instr.makeFunc fn first cap).run Tryd.prog w = .ok (.func fn first cap) w := fun _ _ _ _ => rfl
  obtain ⟨W0, hW0⟩ : ∃ W0, ((w.alloc (.cells #[.int .i64 n] 3)).alloc (.cells #[.int .u64 s] 23)).alloc (.cells #[.slice none 0 0] 22) = W0 := ⟨_, rfl⟩
  have hA1 : Below w.heap.size w W0 := by rw [← hW0]; exact ((below_alloc w _).alloc (by simp) _).alloc (by simp; omega) _
  have hs1 : W0.heap.size = w.heap.size + 3 := by rw [← hW0]; simp
  have hb1 : Boxed W0 w.heap.size 3 (.int .i64 n) := by rw [← hW0]; exact ((Boxed.new w 3 (.int .i64 n)).alloc _).alloc _
  have hb2 : Boxed W0 (w.heap.size + 1) 23 (.int .u64 s) := by
   rw [← hW0]
   have := (Boxed.new (w.alloc (.cells #[.int .i64 n] 3)) 23 (.int .u64 s)).alloc (.cells #[.slice none 0 0] 22)
   simpa only [World.size_alloc] using this
  have hb3 : Boxed W0 (w.heap.size + 1 + 1) 22 (.slice none 0 0) := by
   rw [← hW0]
   have := Boxed.new ((w.alloc (.cells #[.int .i64 n] 3)).alloc (.cells #[.int .u64 s] 23)) 22 (.slice none 0 0)
   simpa only [World.size_alloc] using this
  have hA4 := below_alloc W0 (.cells #[.int .i64 0] 26)
  have hB4 := below_trans hA1 hA4
  have hwork := LibW_any w.heap.size (w.heap.size + 1) (w.heap.size + 1 + 1) n s hs _ (hT.below hB4) (hb1.alloc (.cells #[.int .i64 0] 26)) (hb2.alloc _) (hb3.alloc _)
  have hct := caught_any 28 #[.pointer (some ⟨w.heap.size, 0, none⟩), .pointer (some ⟨w.heap.size + 1, 0, none⟩), .pointer (some ⟨w.heap.size + 1 + 1, 0, none⟩)] (w.heap.size + 1 + 1) W0 (by omega) (enters_of Tryd.func28 (by kernel_rfl) rfl) _ _ hwork
  have HNE := Lib.hid (show libE n s ≠ 0 → libP n s = [] from fun h => if_neg h)
  have HW0 := Lib.hid hW0
  clear hwork hA4 hB4 hW0 hT hb1 hb2 hb3
  generalize libE n s = E at *
  generalize libP n s = L at *
  go_enter Tryd.func10, Tryd.ntmps10
  go_wp2_with fail
  rw [HW0.out]
  go_at_call 27
  refine hct.mono ?_
  rintro e w' ⟨w1, k, hK, rfl, rfl, hlt1, hR⟩
  have hBf : Below w.heap.size w (w1.setCell ⟨W0.heap.size, 0, none⟩ (.int .i64 k)) := (hA1.trans ⟨hK.1.1, hK.1.2.1, hK.1.2.2.1, hK.1.2.2.2, fun j hj => hK.2 j (by omega) (by omega)⟩).setCell (p := ⟨W0.heap.size, 0, none⟩) (by show w.heap.size ≤ W0.heap.size; omega) _
  have hsx : (w1.setCell ⟨W0.heap.size, 0, none⟩ (.int .i64 k)).heap.size = w1.heap.size := by simp [World.setCell]
  clear hct
  rcases hR with ⟨rfl, rfl, v, hbv, hpv⟩ | ⟨rfl, hne, hbv⟩
  · have hbw := hbv.other (B' := W0.heap.size) (by omega) (.int .i64 0)
    have hcv := hbw.cell
    have HP := Lib.hid (own_prs (own_keep2 (W' := w1.setCell ⟨W0.heap.size, 0, none⟩ (.int .i64 0)) hpv fun j hj => Below.heap_setCell w1 ⟨W0.heap.size, 0, none⟩ _ j (by show j ≠ W0.heap.size; rw [World.size_alloc] at hj; omega)))
    clear hbv hbw hpv hsx
    generalize w1.setCell ⟨W0.heap.size, 0, none⟩ (.int .i64 0) = w2 at *
    go_wp2_with fail
    go_ret2
    exact ⟨_, rfl, HP.out, hBf⟩
  · have hbw := hbv.other (B' := W0.heap.size) (by omega) (.int .i64 k)
    have hcv := hbw.cell
    have HN2 := Lib.hid (HNE.out hne)
    clear hbv hbw hsx
    generalize w1.setCell ⟨W0.heap.size, 0, none⟩ (.int .i64 k) = w2 at *
    go_wp2_with fail
    go_ret2
    exact ⟨_, rfl, by rw [HN2.out]; exact ⟨none, 0, rfl, Nat.le_refl _, fun h => absurd h (by simp)⟩, hBf⟩
end Go.Proofs.YtcngnjkpnmpcpaaDoor
