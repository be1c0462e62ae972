/- Contract of helixlaw27.wakes. (Seat s27.) -/
import Derived.Test.YtfkjheilcbppcaaCoQ
import Derived.Lib.SmallJoins
namespace Go.Proofs.Ytfkjheilcbppcaa
open Go.RowKit Go.Shelf
attribute [local go_sem] Oper.semAt_some run_store_func

theorem of_lit (w : World) (L : List (List UInt8)) (hL : L ≠ []) (h1 : L.length ≤ 1000) (h2 : ∀ r ∈ L, r.length ≤ 5000) (Y : List UInt8) (hY : ofG L = Y) :
    Calls Try.prog 14 #[.slice (some ⟨w.heap.size + L.length, 0, none⟩) L.length L.length] (litW w L) fun e w' => Below w.heap.size w w' ∧ ∃ v, e = .returned (.tuple #[v, .bool true]) ∧ Sl eB w'.heap.size w' v Y := by
  obtain ⟨hR, hB⟩ := lit_rows w L
  refine (CoOfm_any _ (litR w.heap.size L) (by rw [litR_len]; exact h1) (fun p hp => ?_) _ hR).mono ?_
  · have : p.bs ∈ bsL (litR w.heap.size L) := List.mem_map.2 ⟨p, hp, rfl⟩
    rw [bsL_lit] at this
    exact h2 _ this
  · rw [bsL_lit]
    rintro e w' ⟨hB2, ⟨h, -⟩ | ⟨-, v, rfl, hrow⟩⟩
    · exact absurd h hL
    · rw [hY] at hrow
      exact ⟨below_trans hB hB2, v, rfl, Sl.of_own hrow⟩
theorem of_nil (w : World) : Calls Try.prog 14 #[.slice none 0 0] w fun e w' => Below w.heap.size w w' ∧ e = .returned (.tuple #[.slice none 0 0, .bool false]) := by
  refine (CoOfm_any _ [] (by decide) (fun p hp => by cases hp) _ ⟨Sl.nil _ _ _, fun p hp => by cases hp⟩).mono ?_
  rintro e w' ⟨hB2, ⟨-, h⟩ | ⟨h, -⟩⟩
  · exact ⟨hB2, h⟩
  · exact absurd rfl h
theorem length_lit (w : World) (L : List (List UInt8)) (h1 : L.length ≤ 1000) (h2 : ∀ r ∈ L, r.length ≤ 5000) (n t : Nat) (hn : lenG L = (n, t)) (ht : 0 < t) :
    Calls Try.prog 10 #[.slice (some ⟨w.heap.size + L.length, 0, none⟩) L.length L.length] (litW w L) fun e w' => Below w.heap.size w w' ∧ e = .returned (.tuple #[.int .i64 n, .bool true]) := by
  obtain ⟨hR, hB⟩ := lit_rows w L
  refine (CoLength_any _ (litR w.heap.size L) (by rw [litR_len]; exact h1) (fun p hp => ?_) _ hR).mono ?_
  · have : p.bs ∈ bsL (litR w.heap.size L) := List.mem_map.2 ⟨p, hp, rfl⟩
    rw [bsL_lit] at this
    exact h2 _ this
  · rw [bsL_lit, hn]
    rintro e w' ⟨rfl, hB2⟩
    exact ⟨below_trans hB hB2, by rw [decide_eq_true (show 0 < (n, t).2 from ht)]⟩
theorem column_lit (w : World) (L : List (List UInt8)) (h1 : L.length ≤ 1000) (h2 : ∀ r ∈ L, r.length ≤ 5000) (i n t c k : Nat) (hn : lenG L = (n, t)) (ht : 0 < t) (hi : i < n) (hc : colG L i = (c, k)) :
    Calls Try.prog 12 #[.slice (some ⟨w.heap.size + L.length, 0, none⟩) L.length L.length, .int .i64 i] (litW w L) fun e w' => Below w.heap.size w w' ∧ e = .returned (.tuple #[.int .u8 c, .int .i64 k, .bool true]) := by
  obtain ⟨hR, hB⟩ := lit_rows w L
  refine (CoColumn_any _ (litR w.heap.size L) i (by rw [litR_len]; exact h1) (fun p hp => ?_) _ hR).mono ?_
  · have : p.bs ∈ bsL (litR w.heap.size L) := List.mem_map.2 ⟨p, hp, rfl⟩
    rw [bsL_lit] at this
    exact h2 _ this
  · rw [bsL_lit, hn]
    have e1 : (i : Int).toNat = i := by omega
    rw [e1, hc, if_pos ⟨ht, by omega, by show (i : Int) < (n : Int); omega⟩]
    rintro e w' ⟨rfl, hB2⟩
    exact ⟨below_trans hB hB2, rfl⟩
theorem apart_lit (w : World) (L : List (List UInt8)) (h1 : L.length ≤ 100) (y : List UInt8) (hy : y.length ≤ 200) (k : Nat) (hk : apartG L y = k) :
    Calls Try.prog 17 #[.slice (some ⟨w.heap.size + L.length, 0, none⟩) L.length L.length, .slice (some ⟨w.heap.size + L.length + 1, 0, none⟩) y.length y.length] ((litW w L).alloc (.cells (y.map eB).toArray 5 (y.length, y.length + 1))) fun e w' => Below w.heap.size w w' ∧ e = .returned (.int .i64 k) := by
  obtain ⟨hR, hB⟩ := lit_rows w L
  have hz : (litW w L).heap.size = w.heap.size + L.length + 1 := by
    have h1 := (lit_is L w).1
    have h2 : (litW w L).heap.size = (litB w L).heap.size + 1 := World.size_alloc _ _
    omega
  rw [← hz]
  have hal : Below (litW w L).heap.size (litW w L) ((litW w L).alloc (.cells (y.map eB).toArray 5 (y.length, y.length + 1))) := (Below.refl _ _).alloc (Nat.le_refl _) _
  refine (CoApart_any _ _ (litR w.heap.size L) y (by rw [litR_len]; exact h1) hy _ (hR.next hal) (sl_new _ y _ _)).mono ?_
  rw [bsL_lit, hk]
  rintro e w' ⟨rfl, rfl⟩
  exact ⟨below_trans hB hal, rfl⟩
set_option maxRecDepth 100000 in
set_option maxHeartbeats 1000000 in
theorem wakes_any (w : World) : Calls Try.prog 9 #[] w fun e w' => e = .returned (.bool true) ∧ Below w.heap.size w w' := by
  have o1 := fun w => of_lit w [[65, 67, 71], [65, 67, 84], [65, 65, 71]] (by simp) (by decide) (by decide) [65, 67, 71] (by decide +kernel)
  have o2 := fun w => of_lit w [[65, 67], [65], [71, 67], [84]] (by simp) (by decide) (by decide) [65] (by decide +kernel)
  have o3 := fun w => length_lit w [[65, 67], [65]] (by decide) (by decide) 1 1 (by decide +kernel) (by decide)
  have o4 := fun w => column_lit w [[65, 67], [65, 71]] (by decide) (by decide) 1 2 2 67 1 (by decide +kernel) (by decide) (by decide) (by decide +kernel)
  have o5 := fun w => apart_lit w [[65, 67], [71, 71]] (by decide) [65, 67] (by decide) 2 (by decide +kernel)
  have kc := fun (w : World) (C : Array Value) (n c : Nat) => Lib.run_convert_bytes_const (P := Try.prog) w 23 5 C n c Try.underlying23 Try.underlying5
  have kc1 := fun (w : World) (o : Obj) (C : Array Value) (n c : Nat) => Go.Joins.run_convert_bytes_const_at (P := Try.prog) (w.alloc o) 23 5 C n c (w.heap.size + 1) (by simp) Try.underlying23 Try.underlying5
  have kc2 := fun (w : World) (o o' : Obj) (C : Array Value) (n c : Nat) => Go.Joins.run_convert_bytes_const_at (P := Try.prog) ((w.alloc o).alloc o') 23 5 C n c (w.heap.size + 1 + 1) (by simp) Try.underlying23 Try.underlying5
  have kc3 := fun (w : World) (o o' o2 : Obj) (C : Array Value) (n c : Nat) => Go.Joins.run_convert_bytes_const_at (P := Try.prog) (((w.alloc o).alloc o').alloc o2) 23 5 C n c (w.heap.size + 1 + 1 + 1) (by simp) Try.underlying23 Try.underlying5
  go_enter Try.func9, Try.ntmps9
  go_wp2_with fail
  go_at_call 14
  refine (o1 w).mono ?_
  rintro e w1 ⟨hB1, v1, rfl, hv1⟩
  clear o1
  go_wp2_with fail
  go_at_call 14
  refine (o2 w1).mono ?_
  rintro e w2 ⟨hB2, v2, rfl, hv2⟩
  clear o2
  go_wp2_with fail
  go_at_call 14
  refine (of_nil w2).mono ?_
  rintro e w3 ⟨hB3, rfl⟩
  go_wp2_with fail
  go_at_call 10
  refine (o3 w3).mono ?_
  rintro e w4 ⟨hB4, rfl⟩
  clear o3
  go_wp2_with fail
  go_at_call 12
  refine (o4 w4).mono ?_
  rintro e w5 ⟨hB5, rfl⟩
  clear o4
  have hB25 := below_trans hB3 (below_trans hB4 hB5)
  have hv2' := hv2.next hB25
  have hv1' := hv1.next (below_trans hB2 hB25)
  have hB := below_trans hB1 (below_trans hB2 hB25)
  clear hB1 hB2 hB3 hB4 hB5 hB25 hv1 hv2
  have s1 := fun w' (hb : Below w5.heap.size w5 w') vb (hb2 : Sl eB w'.heap.size w' vb [65, 67, 71]) => same_is v1 vb [65, 67, 71] [65, 67, 71] true (by decide) w'.heap.size w' (hv1'.next hb) hb2
  have s2 := fun w' (hb : Below w5.heap.size w5 w') vb (hb2 : Sl eB w'.heap.size w' vb [65]) => same_is v2 vb [65] [65] true (by decide) w'.heap.size w' (hv2'.next hb) hb2
  go_wp2_with fail
  go_at_call 16
  refine (s1 _ ((Below.refl _ w5).alloc (Nat.le_refl _) _) _ (sl_new w5 [65, 67, 71] 5 (3, 4))).mono ?_
  rintro e w6 ⟨rfl, hw⟩
  have hB6 : Below w5.heap.size w5 w6 := by rw [← hw]; exact (Below.refl _ w5).alloc (Nat.le_refl _) _
  clear hw s1
  go_wp2_with fail
  go_at_call 16
  refine (s2 _ (below_trans hB6 ((Below.refl _ w6).alloc (Nat.le_refl _) _)) _ (sl_new w6 [65] 5 (1, 2))).mono ?_
  rintro e w7 ⟨rfl, hw⟩
  have hB7 : Below w5.heap.size w5 w7 := by rw [← hw]; exact below_trans hB6 ((Below.refl _ w6).alloc (Nat.le_refl _) _)
  clear hw s2 hB6
  go_wp2_with fail
  go_at_call 17
  refine (o5 w7).mono ?_
  rintro e w8 ⟨hB8, rfl⟩
  clear o5
  go_wp2_with fail
  go_ret
  exact ⟨rfl, below_trans hB (below_trans hB7 hB8)⟩
end Go.Proofs.Ytfkjheilcbppcaa
