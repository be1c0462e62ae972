/- Contracts of shape.Groups, Count, Pieces: the calls. -/
import Derived.Test.YtjfhbhidnlgabaaDoorShF
namespace Go.Proofs.YtjfhbhidnlgabaaDoor
open Go.RowKit Go.Shelf
attribute [local go_sem] Oper.semAt_some run_store_func

/-- The numbers of a shape that may be. -/
theorem may_nat {P D R : Int} (h : May P D R) : ∃ p d r : Nat, P = p ∧ D = d ∧ R = r ∧ 2 ≤ p ∧ p ≤ 22 ∧ 0 < d ∧ d ≤ 255 ∧ r ≤ 32 ∧ d + r ≤ 255 := by
  obtain ⟨hp, h1, h2, h3, h4⟩ := h
  obtain ⟨k, hk, rfl⟩ := payOk_at hp
  refine ⟨5 * k + 2, D.toNat, R.toNat, ?_, ?_, ?_, ?_, ?_, ?_, ?_, ?_, ?_⟩ <;> (try unfold pay) <;> omega
theorem nat_may {p d r : Nat} (h : May p d r) : 0 < p ∧ p ≤ 22 ∧ 0 < d ∧ d ≤ 255 ∧ r ≤ 32 ∧ d + r ≤ 255 := by
  obtain ⟨hp, h1, h2, h3, h4⟩ := h
  unfold payOk at hp
  refine ⟨?_, ?_, ?_, ?_, ?_, ?_⟩ <;> omega

set_option maxRecDepth 100000 in
set_option maxHeartbeats 1000000 in
theorem Groups1_left (P D R n : Int) (hn : n < 0 ∨ 4000 < n) (b1 b2 : Nat) (w : World) (hb1 : InBox w b1 P D R) (hb2 : w.cell? ⟨b2, 0, none⟩ = some (.int .i64 n)) :
    Calls Tryd.prog 41 #[.pointer (some ⟨b1, 0, none⟩), .pointer (some ⟨b2, 0, none⟩)] w fun e w' => e = .panicked [{ v := .iface 24 (.int .i64 180), recovered := false }] ∧ Below w.heap.size w w' := by
  have hA1 := below_alloc w (.cells #[.int .i64 0] 3)
  have hA2 := below_alloc (w.alloc (.cells #[.int .i64 0] 3)) (.cells #[.int .i64 0] 3)
  have hA := below_trans hA1 hA2
  have hl2 := World.block_lt_of_cell? w _ hb2
  obtain ⟨c0, c1, c2⟩ := hb1.below hA1 hb1.lt
  have c3 := (Below.cell (hA1) (p := ⟨b2, 0, none⟩) hl2).trans hb2
  refine (callsIn_wide (n := 5)).1 ?_
  refine callsIn_of_wp_marks Tryd.func41 rfl trivial ?_ rfl
  simp only [Tryd.ntmps41, List.size_toArray, List.length_cons, List.length_nil, Nat.reduceAdd, Nat.reduceSub, Array.replicate_succ, Array.replicate_zero, List.push_toArray, List.append_toArray, List.nil_append, List.cons_append]
  gi_wp2_with fail
  refine ⟨trivial, ?_⟩
  gi_at_call 42
  refine (callsIn_wide.2 (groups_no P D R n hn _)).mono ?_
  rintro e w1 ⟨rfl, hB1⟩
  gi_wp2
  exact ⟨rfl, below_trans hA1 hB1⟩

set_option maxRecDepth 100000 in
set_option maxHeartbeats 1000000 in
theorem Count1_left (P D R n : Int) (hn : n < 0 ∨ 4000 < n) (b1 b2 : Nat) (w : World) (hb1 : InBox w b1 P D R) (hb2 : w.cell? ⟨b2, 0, none⟩ = some (.int .i64 n)) :
    Calls Tryd.prog 46 #[.pointer (some ⟨b1, 0, none⟩), .pointer (some ⟨b2, 0, none⟩)] w fun e w' => e = .panicked [{ v := .iface 24 (.int .i64 180), recovered := false }] ∧ Below w.heap.size w w' := by
  have hA1 := below_alloc w (.cells #[.int .i64 0] 3)
  have hA2 := below_alloc (w.alloc (.cells #[.int .i64 0] 3)) (.cells #[.int .i64 0] 3)
  have hA := below_trans hA1 hA2
  have hl2 := World.block_lt_of_cell? w _ hb2
  obtain ⟨c0, c1, c2⟩ := hb1.below hA1 hb1.lt
  have c3 := (Below.cell (hA1) (p := ⟨b2, 0, none⟩) hl2).trans hb2
  refine (callsIn_wide (n := 5)).1 ?_
  refine callsIn_of_wp_marks Tryd.func46 rfl trivial ?_ rfl
  simp only [Tryd.ntmps46, List.size_toArray, List.length_cons, List.length_nil, Nat.reduceAdd, Nat.reduceSub, Array.replicate_succ, Array.replicate_zero, List.push_toArray, List.append_toArray, List.nil_append, List.cons_append]
  gi_wp2_with fail
  refine ⟨trivial, ?_⟩
  gi_at_call 42
  refine (callsIn_wide.2 (groups_no P D R n hn _)).mono ?_
  rintro e w1 ⟨rfl, hB1⟩
  gi_wp2
  exact ⟨rfl, below_trans hA1 hB1⟩

set_option maxRecDepth 100000 in
set_option maxHeartbeats 1000000 in
theorem Pieces1_left (P D R n : Int) (hn : n < 0 ∨ 4000 < n) (b1 b2 b3 : Nat) (w : World) (hb1 : InBox w b1 P D R) (hb2 : w.cell? ⟨b2, 0, none⟩ = some (.int .i64 n)) :
    Calls Tryd.prog 45 #[.pointer (some ⟨b1, 0, none⟩), .pointer (some ⟨b2, 0, none⟩), .pointer (some ⟨b3, 0, none⟩)] w fun e w' => e = .panicked [{ v := .iface 24 (.int .i64 180), recovered := false }] ∧ Below w.heap.size w w' := by
  have hA1 := below_alloc w (.cells #[.int .i64 0] 3)
  have hA2 := below_alloc (w.alloc (.cells #[.int .i64 0] 3)) (.cells #[.int .i64 0] 3)
  have hA := below_trans hA1 hA2
  have hl2 := World.block_lt_of_cell? w _ hb2
  obtain ⟨c0, c1, c2⟩ := hb1.below hA hb1.lt
  have c3 := (Below.cell (hA) (p := ⟨b2, 0, none⟩) hl2).trans hb2
  refine (callsIn_wide (n := 5)).1 ?_
  refine callsIn_of_wp_marks Tryd.func45 rfl trivial ?_ rfl
  simp only [Tryd.ntmps45, List.size_toArray, List.length_cons, List.length_nil, Nat.reduceAdd, Nat.reduceSub, Array.replicate_succ, Array.replicate_zero, List.push_toArray, List.append_toArray, List.nil_append, List.cons_append]
  gi_wp2_with fail
  refine ⟨trivial, ?_⟩
  gi_at_call 42
  refine (callsIn_wide.2 (groups_no P D R n hn _)).mono ?_
  rintro e w1 ⟨rfl, hB1⟩
  gi_wp2
  exact ⟨rfl, below_trans hA hB1⟩

set_option maxRecDepth 100000 in
set_option maxHeartbeats 1000000 in
theorem Groups_yes (p d r n m : Nat) (h : May p d r) (hn : n ≤ 4000) (hm : m = (n + p - 1) / p) (w : World) (hT : Tab w) :
    Calls Tryd.prog 21 #[shV p d r, .int .i64 n] w fun e w' => e = .returned (.int .i64 (cntOf m d)) ∧ Below w.heap.size w w' := by
  obtain ⟨hp, hp2, hd, hd2, _, _⟩ := nat_may h
  have Hm := Lib.hid hm
  clear hm
  have hA1 := below_alloc w (.cells #[.int .i64 p, .int .i64 d, .int .i64 r] 23)
  have hA2 := below_alloc (w.alloc (.cells #[.int .i64 p, .int .i64 d, .int .i64 r] 23)) (.cells #[.int .i64 n] 3)
  have hI := (InBox.new w p d r 23).below hA2 (by simp)
  have hL := (Boxed.new (w.alloc (.cells #[.int .i64 p, .int .i64 d, .int .i64 r] 23)) 3 (.int .i64 n)).cell
  rw [World.size_alloc] at hL
  have hA := below_trans hA1 hA2
  have hI2 := hI
  have hL2 := hL
  have hT1 := hT.below hA
  go_enter Tryd.func21, Tryd.ntmps21
  go_wp2_with fail
  go_at_call 28
  refine (told_yes p d r (cntOf m d) 41 #[.pointer (some ⟨w.heap.size, 0, none⟩), .pointer (some ⟨w.heap.size + 1, 0, none⟩)] h _ hT1 (fun w => enters_of Tryd.func41 (by kernel_rfl) rfl _ w)
    (fun w1 hb => Groups1_is p d r n m hn hp hp2 hd hd2 Hm.out w.heap.size (w.heap.size + 1) w1 (hI2.below hb hI2.lt) ((hb.cell (p := ⟨w.heap.size + 1, 0, none⟩) (World.block_lt_of_cell? _ _ hL2)).trans hL2))).mono ?_
  rintro e w2 ⟨rfl, hB2⟩
  go_wp2
  go_ret
  exact ⟨rfl, below_trans hA hB2⟩
set_option maxRecDepth 100000 in
set_option maxHeartbeats 1000000 in
theorem Groups_bad (P D R n : Int) (h : May P D R) (hn : n < 0 ∨ 4000 < n) (w : World) (hT : Tab w) :
    Calls Tryd.prog 21 #[shV P D R, .int .i64 n] w fun e w' => e = .returned (.int .i64 (-1)) ∧ Below w.heap.size w w' := by
  have hA1 := below_alloc w (.cells #[.int .i64 P, .int .i64 D, .int .i64 R] 23)
  have hA2 := below_alloc (w.alloc (.cells #[.int .i64 P, .int .i64 D, .int .i64 R] 23)) (.cells #[.int .i64 n] 3)
  have hI := (InBox.new w P D R 23).below hA2 (by simp)
  have hL := (Boxed.new (w.alloc (.cells #[.int .i64 P, .int .i64 D, .int .i64 R] 23)) 3 (.int .i64 n)).cell
  rw [World.size_alloc] at hL
  have hA := below_trans hA1 hA2
  have hI2 := hI
  have hL2 := hL
  have hT1 := hT.below hA
  go_enter Tryd.func21, Tryd.ntmps21
  go_wp2_with fail
  go_at_call 28
  refine (told_left P D R 41 #[.pointer (some ⟨w.heap.size, 0, none⟩), .pointer (some ⟨w.heap.size + 1, 0, none⟩)] h _ hT1 (fun w => enters_of Tryd.func41 (by kernel_rfl) rfl _ w)
    (fun w1 hb => Groups1_left P D R n hn w.heap.size (w.heap.size + 1) w1 (hI2.below hb hI2.lt) ((hb.cell (p := ⟨w.heap.size + 1, 0, none⟩) (World.block_lt_of_cell? _ _ hL2)).trans hL2))).mono ?_
  rintro e w2 ⟨rfl, hB2⟩
  go_wp2
  go_ret
  exact ⟨rfl, below_trans hA hB2⟩
set_option maxRecDepth 100000 in
set_option maxHeartbeats 1000000 in
theorem Groups_no (P D R n : Int) (h : ¬ May P D R) (w : World) (hT : Tab w) :
    Calls Tryd.prog 21 #[shV P D R, .int .i64 n] w fun e w' => e = .returned (.int .i64 (-1)) ∧ Below w.heap.size w w' := by
  have hA1 := below_alloc w (.cells #[.int .i64 P, .int .i64 D, .int .i64 R] 23)
  have hA2 := below_alloc (w.alloc (.cells #[.int .i64 P, .int .i64 D, .int .i64 R] 23)) (.cells #[.int .i64 n] 3)
  have hI := (InBox.new w P D R 23).below hA2 (by simp)
  have hL := (Boxed.new (w.alloc (.cells #[.int .i64 P, .int .i64 D, .int .i64 R] 23)) 3 (.int .i64 n)).cell
  rw [World.size_alloc] at hL
  have hA := below_trans hA1 hA2
  have hI2 := hI
  have hL2 := hL
  have hT1 := hT.below hA
  go_enter Tryd.func21, Tryd.ntmps21
  go_wp2_with fail
  go_at_call 28
  refine (told_no P D R 41 #[.pointer (some ⟨w.heap.size, 0, none⟩), .pointer (some ⟨w.heap.size + 1, 0, none⟩)] h _ hT1).mono ?_
  rintro e w2 ⟨rfl, hB2⟩
  go_wp2
  go_ret
  exact ⟨rfl, below_trans hA hB2⟩

set_option maxRecDepth 100000 in
set_option maxHeartbeats 1000000 in
theorem Count_yes (p d r n m : Nat) (h : May p d r) (hn : n ≤ 4000) (hm : m = (n + p - 1) / p) (w : World) (hT : Tab w) :
    Calls Tryd.prog 25 #[shV p d r, .int .i64 n] w fun e w' => e = .returned (.int .i64 (sumW r (grp m d))) ∧ Below w.heap.size w w' := by
  obtain ⟨hp, hp2, hd, hd2, _, _⟩ := nat_may h
  have Hm := Lib.hid hm
  clear hm
  have hA1 := below_alloc w (.cells #[.int .i64 p, .int .i64 d, .int .i64 r] 23)
  have hA2 := below_alloc (w.alloc (.cells #[.int .i64 p, .int .i64 d, .int .i64 r] 23)) (.cells #[.int .i64 n] 3)
  have hI := (InBox.new w p d r 23).below hA2 (by simp)
  have hL := (Boxed.new (w.alloc (.cells #[.int .i64 p, .int .i64 d, .int .i64 r] 23)) 3 (.int .i64 n)).cell
  rw [World.size_alloc] at hL
  have hA := below_trans hA1 hA2
  have hI2 := hI
  have hL2 := hL
  have hT1 := hT.below hA
  go_enter Tryd.func25, Tryd.ntmps25
  go_wp2_with fail
  go_at_call 28
  refine (told_yes p d r (sumW r (grp m d)) 46 #[.pointer (some ⟨w.heap.size, 0, none⟩), .pointer (some ⟨w.heap.size + 1, 0, none⟩)] h _ hT1 (fun w => enters_of Tryd.func46 (by kernel_rfl) rfl _ w)
    (fun w1 hb => Count1_is p d r n m hn hp hp2 hd hd2 Hm.out w.heap.size (w.heap.size + 1) w1 (hI2.below hb hI2.lt) ((hb.cell (p := ⟨w.heap.size + 1, 0, none⟩) (World.block_lt_of_cell? _ _ hL2)).trans hL2))).mono ?_
  rintro e w2 ⟨rfl, hB2⟩
  go_wp2
  go_ret
  exact ⟨rfl, below_trans hA hB2⟩
set_option maxRecDepth 100000 in
set_option maxHeartbeats 1000000 in
theorem Count_bad (P D R n : Int) (h : May P D R) (hn : n < 0 ∨ 4000 < n) (w : World) (hT : Tab w) :
    Calls Tryd.prog 25 #[shV P D R, .int .i64 n] w fun e w' => e = .returned (.int .i64 (-1)) ∧ Below w.heap.size w w' := by
  have hA1 := below_alloc w (.cells #[.int .i64 P, .int .i64 D, .int .i64 R] 23)
  have hA2 := below_alloc (w.alloc (.cells #[.int .i64 P, .int .i64 D, .int .i64 R] 23)) (.cells #[.int .i64 n] 3)
  have hI := (InBox.new w P D R 23).below hA2 (by simp)
  have hL := (Boxed.new (w.alloc (.cells #[.int .i64 P, .int .i64 D, .int .i64 R] 23)) 3 (.int .i64 n)).cell
  rw [World.size_alloc] at hL
  have hA := below_trans hA1 hA2
  have hI2 := hI
  have hL2 := hL
  have hT1 := hT.below hA
  go_enter Tryd.func25, Tryd.ntmps25
  go_wp2_with fail
  go_at_call 28
  refine (told_left P D R 46 #[.pointer (some ⟨w.heap.size, 0, none⟩), .pointer (some ⟨w.heap.size + 1, 0, none⟩)] h _ hT1 (fun w => enters_of Tryd.func46 (by kernel_rfl) rfl _ w)
    (fun w1 hb => Count1_left P D R n hn w.heap.size (w.heap.size + 1) w1 (hI2.below hb hI2.lt) ((hb.cell (p := ⟨w.heap.size + 1, 0, none⟩) (World.block_lt_of_cell? _ _ hL2)).trans hL2))).mono ?_
  rintro e w2 ⟨rfl, hB2⟩
  go_wp2
  go_ret
  exact ⟨rfl, below_trans hA hB2⟩
set_option maxRecDepth 100000 in
set_option maxHeartbeats 1000000 in
theorem Count_no (P D R n : Int) (h : ¬ May P D R) (w : World) (hT : Tab w) :
    Calls Tryd.prog 25 #[shV P D R, .int .i64 n] w fun e w' => e = .returned (.int .i64 (-1)) ∧ Below w.heap.size w w' := by
  have hA1 := below_alloc w (.cells #[.int .i64 P, .int .i64 D, .int .i64 R] 23)
  have hA2 := below_alloc (w.alloc (.cells #[.int .i64 P, .int .i64 D, .int .i64 R] 23)) (.cells #[.int .i64 n] 3)
  have hI := (InBox.new w P D R 23).below hA2 (by simp)
  have hL := (Boxed.new (w.alloc (.cells #[.int .i64 P, .int .i64 D, .int .i64 R] 23)) 3 (.int .i64 n)).cell
  rw [World.size_alloc] at hL
  have hA := below_trans hA1 hA2
  have hI2 := hI
  have hL2 := hL
  have hT1 := hT.below hA
  go_enter Tryd.func25, Tryd.ntmps25
  go_wp2_with fail
  go_at_call 28
  refine (told_no P D R 46 #[.pointer (some ⟨w.heap.size, 0, none⟩), .pointer (some ⟨w.heap.size + 1, 0, none⟩)] h _ hT1).mono ?_
  rintro e w2 ⟨rfl, hB2⟩
  go_wp2
  go_ret
  exact ⟨rfl, below_trans hA hB2⟩

set_option maxRecDepth 100000 in
set_option maxHeartbeats 1000000 in
theorem Pieces_yes (p d r n m : Nat) (G : Int) (h : May p d r) (hn : n ≤ 4000) (hm : m = (n + p - 1) / p) (w : World) (hT : Tab w) :
    Calls Tryd.prog 23 #[shV p d r, .int .i64 n, .int .i64 G] w fun e w' => e = .returned (.int .i64 (pcs m d G)) ∧ Below w.heap.size w w' := by
  obtain ⟨hp, hp2, hd, hd2, _, _⟩ := nat_may h
  have Hm := Lib.hid hm
  clear hm
  have hA1 := below_alloc w (.cells #[.int .i64 p, .int .i64 d, .int .i64 r] 23)
  have hA2 := below_alloc (w.alloc (.cells #[.int .i64 p, .int .i64 d, .int .i64 r] 23)) (.cells #[.int .i64 n] 3)
  have hI := (InBox.new w p d r 23).below hA2 (by simp)
  have hL := (Boxed.new (w.alloc (.cells #[.int .i64 p, .int .i64 d, .int .i64 r] 23)) 3 (.int .i64 n)).cell
  rw [World.size_alloc] at hL
  have hA3 := below_alloc ((w.alloc (.cells #[.int .i64 p, .int .i64 d, .int .i64 r] 23)).alloc (.cells #[.int .i64 n] 3)) (.cells #[.int .i64 G] 3)
  have hA := below_trans hA1 (below_trans hA2 hA3)
  have hI2 := hI.below hA3 hI.lt
  have hL2 := (hA3.cell (p := ⟨w.heap.size + 1, 0, none⟩) (by simp)).trans hL
  have hG := (Boxed.new ((w.alloc (.cells #[.int .i64 p, .int .i64 d, .int .i64 r] 23)).alloc (.cells #[.int .i64 n] 3)) 3 (.int .i64 G)).cell
  rw [World.size_alloc, World.size_alloc] at hG
  have hT1 := hT.below hA
  go_enter Tryd.func23, Tryd.ntmps23
  go_wp2_with fail
  go_at_call 28
  refine (told_yes p d r (pcs m d G) 45 #[.pointer (some ⟨w.heap.size, 0, none⟩), .pointer (some ⟨w.heap.size + 1, 0, none⟩), .pointer (some ⟨w.heap.size + 1 + 1, 0, none⟩)] h _ hT1 (fun w => enters_of Tryd.func45 (by kernel_rfl) rfl _ w)
    (fun w1 hb => Pieces1_is p d r n m G hn hp hp2 hd hd2 Hm.out w.heap.size (w.heap.size + 1) (w.heap.size + 1 + 1) w1 (hI2.below hb hI2.lt) ((hb.cell (p := ⟨w.heap.size + 1, 0, none⟩) (World.block_lt_of_cell? _ _ hL2)).trans hL2) ((hb.cell (p := ⟨w.heap.size + 1 + 1, 0, none⟩) (World.block_lt_of_cell? _ _ hG)).trans hG))).mono ?_
  rintro e w2 ⟨rfl, hB2⟩
  go_wp2
  go_ret
  exact ⟨rfl, below_trans hA hB2⟩
set_option maxRecDepth 100000 in
set_option maxHeartbeats 1000000 in
theorem Pieces_bad (P D R n : Int) (G : Int) (h : May P D R) (hn : n < 0 ∨ 4000 < n) (w : World) (hT : Tab w) :
    Calls Tryd.prog 23 #[shV P D R, .int .i64 n, .int .i64 G] w fun e w' => e = .returned (.int .i64 (-1)) ∧ Below w.heap.size w w' := by
  have hA1 := below_alloc w (.cells #[.int .i64 P, .int .i64 D, .int .i64 R] 23)
  have hA2 := below_alloc (w.alloc (.cells #[.int .i64 P, .int .i64 D, .int .i64 R] 23)) (.cells #[.int .i64 n] 3)
  have hI := (InBox.new w P D R 23).below hA2 (by simp)
  have hL := (Boxed.new (w.alloc (.cells #[.int .i64 P, .int .i64 D, .int .i64 R] 23)) 3 (.int .i64 n)).cell
  rw [World.size_alloc] at hL
  have hA3 := below_alloc ((w.alloc (.cells #[.int .i64 P, .int .i64 D, .int .i64 R] 23)).alloc (.cells #[.int .i64 n] 3)) (.cells #[.int .i64 G] 3)
  have hA := below_trans hA1 (below_trans hA2 hA3)
  have hI2 := hI.below hA3 hI.lt
  have hL2 := (hA3.cell (p := ⟨w.heap.size + 1, 0, none⟩) (by simp)).trans hL
  have hG := (Boxed.new ((w.alloc (.cells #[.int .i64 P, .int .i64 D, .int .i64 R] 23)).alloc (.cells #[.int .i64 n] 3)) 3 (.int .i64 G)).cell
  rw [World.size_alloc, World.size_alloc] at hG
  have hT1 := hT.below hA
  go_enter Tryd.func23, Tryd.ntmps23
  go_wp2_with fail
  go_at_call 28
  refine (told_left P D R 45 #[.pointer (some ⟨w.heap.size, 0, none⟩), .pointer (some ⟨w.heap.size + 1, 0, none⟩), .pointer (some ⟨w.heap.size + 1 + 1, 0, none⟩)] h _ hT1 (fun w => enters_of Tryd.func45 (by kernel_rfl) rfl _ w)
    (fun w1 hb => Pieces1_left P D R n hn w.heap.size (w.heap.size + 1) (w.heap.size + 1 + 1) w1 (hI2.below hb hI2.lt) ((hb.cell (p := ⟨w.heap.size + 1, 0, none⟩) (World.block_lt_of_cell? _ _ hL2)).trans hL2))).mono ?_
  rintro e w2 ⟨rfl, hB2⟩
  go_wp2
  go_ret
  exact ⟨rfl, below_trans hA hB2⟩
set_option maxRecDepth 100000 in
set_option maxHeartbeats 1000000 in
theorem Pieces_no (P D R n : Int) (G : Int) (h : ¬ May P D R) (w : World) (hT : Tab w) :
    Calls Tryd.prog 23 #[shV P D R, .int .i64 n, .int .i64 G] w fun e w' => e = .returned (.int .i64 (-1)) ∧ Below w.heap.size w w' := by
  have hA1 := below_alloc w (.cells #[.int .i64 P, .int .i64 D, .int .i64 R] 23)
  have hA2 := below_alloc (w.alloc (.cells #[.int .i64 P, .int .i64 D, .int .i64 R] 23)) (.cells #[.int .i64 n] 3)
  have hI := (InBox.new w P D R 23).below hA2 (by simp)
  have hL := (Boxed.new (w.alloc (.cells #[.int .i64 P, .int .i64 D, .int .i64 R] 23)) 3 (.int .i64 n)).cell
  rw [World.size_alloc] at hL
  have hA3 := below_alloc ((w.alloc (.cells #[.int .i64 P, .int .i64 D, .int .i64 R] 23)).alloc (.cells #[.int .i64 n] 3)) (.cells #[.int .i64 G] 3)
  have hA := below_trans hA1 (below_trans hA2 hA3)
  have hI2 := hI.below hA3 hI.lt
  have hL2 := (hA3.cell (p := ⟨w.heap.size + 1, 0, none⟩) (by simp)).trans hL
  have hG := (Boxed.new ((w.alloc (.cells #[.int .i64 P, .int .i64 D, .int .i64 R] 23)).alloc (.cells #[.int .i64 n] 3)) 3 (.int .i64 G)).cell
  rw [World.size_alloc, World.size_alloc] at hG
  have hT1 := hT.below hA
  go_enter Tryd.func23, Tryd.ntmps23
  go_wp2_with fail
  go_at_call 28
  refine (told_no P D R 45 #[.pointer (some ⟨w.heap.size, 0, none⟩), .pointer (some ⟨w.heap.size + 1, 0, none⟩), .pointer (some ⟨w.heap.size + 1 + 1, 0, none⟩)] h _ hT1).mono ?_
  rintro e w2 ⟨rfl, hB2⟩
  go_wp2
  go_ret
  exact ⟨rfl, below_trans hA hB2⟩
end Go.Proofs.YtjfhbhidnlgabaaDoor
