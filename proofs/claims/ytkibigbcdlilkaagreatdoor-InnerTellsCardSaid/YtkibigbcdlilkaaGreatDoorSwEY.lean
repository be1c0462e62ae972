import Derived.Test.YtkibigbcdlilkaaGreatDoorDTJY
import Derived.Test.YtkibigbcdlilkaaGreatDoorExMY
import Derived.Test.YtkibigbcdlilkaaGreatDoorSuKY
import Derived.Test.YtkibigbcdlilkaaGreatDoorSwDY
namespace Go.Proofs.YtkibigbcdlilkaaGreatDoor.Sw
open Go.RowKit Go.Shelf
attribute [local go_sem] Oper.semAt_some run_store_func
theorem tmod_dec (z m : Int) : (z.tmod m == 0) = decide (z % m = 0) := by
 rw [Bool.eq_iff_iff, beq_iff_eq, decide_eq_true_eq]
 exact ⟨fun h => Int.emod_eq_zero_of_dvd (Int.dvd_of_tmod_eq_zero h), fun h => Int.tmod_eq_zero_of_dvd (Int.dvd_of_emod_eq_zero h)⟩
theorem below_put {B D : Nat} {w W : World} (h : Below B w W) (o : Obj) (hD : B ≤ D) : Below B w (W.putObj D o) :=
 ⟨h.os, h.tape, h.output, by have := h.size; simpa [World.putObj] using this, fun k hk => (World.putObj_heap_other (by omega)).trans (h.block k hk)⟩
theorem keepsFrom_drew (B : Nat) (W : World) : KeepsFrom B W W.drew := ⟨Nat.le_refl _, fun _ _ _ h _ => h⟩
theorem keepsFrom_cells {B g1 g2 : Nat} (W : World) (v1 v2 : Value) (h1 : g1 < B) (h2 : g2 < B) : KeepsFrom B W ((W.setCell ⟨g1, 0, none⟩ v1).setCell ⟨g2, 0, none⟩ v2) :=
 ⟨by simp [World.setCell], fun k o hk ho _ => by
  rw [Below.heap_setCell _ _ _ _ (by show k ≠ g2; omega), Below.heap_setCell _ _ _ _ (by show k ≠ g1; omega)]
  exact ho⟩
abbrev FindIs (y : List UInt8) (s w : Int) (W : World) : Ending → World → Prop := fun e w' => Below W.heap.size W w' ∧ ((∃ z c, findG y s w = .ok (z, c) ∧ e = .returned (.tuple #[.int .i64 z, eB c])) ∨ ∃ m, findG y s w = .error m ∧ e = .panicked (errno m))
set_option maxRecDepth 100000 in
set_option maxHeartbeats 4000000 in
theorem find_bad (y : List UInt8) (s u m : Int) (hm0 : m ≠ 0) (hs : sumsG y = .error m) (hreach : y.length ≤ 1000000) (sv : Value) (w : World) (hT : Tab w) (hS : Sl eB w.heap.size w sv y) :
    Calls Tryz.prog 120 #[sv, .int .i64 s, .int .i64 u] w (FindIs y s u w) := by
  have Hg := Lib.hid (show findG y s u = .error m by rw [findG, hs])
  obtain ⟨A, cap, rfl⟩ := hS.len
  have hA : Below w.heap.size w (((w.alloc (.cells #[.slice A y.length cap] 22)).alloc (.cells #[.int .i64 s] 3)).alloc (.cells #[.int .i64 u] 3)) := (((Below.refl _ w).alloc (Nat.le_refl _) _).alloc (by simp) _).alloc (by simp; omega) _
  have hb1 := ((Boxed.new w 22 (.slice A y.length cap)).alloc (.cells #[.int .i64 s] 3)).alloc (.cells #[.int .i64 u] 3)
  have hb2 := (Boxed.new (w.alloc (.cells #[.slice A y.length cap] 22)) 3 (.int .i64 s)).alloc (.cells #[.int .i64 u] 3)
  have hb3 := Boxed.new ((w.alloc (.cells #[.slice A y.length cap] 22)).alloc (.cells #[.int .i64 s] 3)) 3 (.int .i64 u)
  rw [World.size_alloc] at hb2
  rw [World.size_alloc, World.size_alloc] at hb3
  have hs0 : (((w.alloc (.cells #[.slice A y.length cap] 22)).alloc (.cells #[.int .i64 s] 3)).alloc (.cells #[.int .i64 u] 3)).heap.size = w.heap.size + 3 := by simp
  have hO := sof_no y m hm0 hs hreach (.slice A y.length cap)
  refine (callsIn_wide (n := 5)).1 ?_
  refine callsIn_of_wp_marks Tryz.func120 rfl trivial ?_ rfl
  simp only [Tryz.ntmps120, List.size_toArray, List.length_cons, List.length_nil, Nat.reduceAdd, Nat.reduceSub, Array.replicate_succ, Array.replicate_zero, List.push_toArray, List.append_toArray, List.nil_append, List.cons_append]
  gi_wp2_with fail
  apply wpIn_scope_straight
  generalize ((w.alloc (.cells #[.slice A y.length cap] 22)).alloc (.cells #[.int .i64 s] 3)).alloc (.cells #[.int .i64 u] 3) = w0 at *
  have hT := hT.below hA
  have hS := hS.next hA
  have k1 := hb1.cell
  gi_wp2_with fail
  refine ⟨trivial, ?_⟩
  gi_at_call 142
  refine (callsIn_wide.2 (hO _ hT hS)).mono ?_
  rintro e w1 ⟨rfl, hB1⟩
  exact ⟨below_trans hA hB1, .inr ⟨m, Hg.out, rfl⟩⟩
set_option maxRecDepth 100000 in
set_option maxHeartbeats 4000000 in
theorem find_same (y : List UInt8) (s u a : Int) (hs : sumsG y = .ok (a, s, u)) (hreach : y.length ≤ 1000000) (sv : Value) (w : World) (hT : Tab w) (hS : Sl eB w.heap.size w sv y) :
    Calls Tryz.prog 120 #[sv, .int .i64 s, .int .i64 u] w (FindIs y s u w) := by
  have Hg := Lib.hid (show findG y s u = .ok (-1, 0) by rw [findG, hs]; simp)
  obtain ⟨A, cap, rfl⟩ := hS.len
  have hA : Below w.heap.size w (((w.alloc (.cells #[.slice A y.length cap] 22)).alloc (.cells #[.int .i64 s] 3)).alloc (.cells #[.int .i64 u] 3)) := (((Below.refl _ w).alloc (Nat.le_refl _) _).alloc (by simp) _).alloc (by simp; omega) _
  have hb1 := ((Boxed.new w 22 (.slice A y.length cap)).alloc (.cells #[.int .i64 s] 3)).alloc (.cells #[.int .i64 u] 3)
  have hb2 := (Boxed.new (w.alloc (.cells #[.slice A y.length cap] 22)) 3 (.int .i64 s)).alloc (.cells #[.int .i64 u] 3)
  have hb3 := Boxed.new ((w.alloc (.cells #[.slice A y.length cap] 22)).alloc (.cells #[.int .i64 s] 3)) 3 (.int .i64 u)
  rw [World.size_alloc] at hb2
  rw [World.size_alloc, World.size_alloc] at hb3
  have hs0 : (((w.alloc (.cells #[.slice A y.length cap] 22)).alloc (.cells #[.int .i64 s] 3)).alloc (.cells #[.int .i64 u] 3)).heap.size = w.heap.size + 3 := by simp
  have hO := sof_yes y a s u hs hreach (.slice A y.length cap)
  refine (callsIn_wide (n := 5)).1 ?_
  refine callsIn_of_wp_marks Tryz.func120 rfl trivial ?_ rfl
  simp only [Tryz.ntmps120, List.size_toArray, List.length_cons, List.length_nil, Nat.reduceAdd, Nat.reduceSub, Array.replicate_succ, Array.replicate_zero, List.push_toArray, List.append_toArray, List.nil_append, List.cons_append]
  gi_wp2_with fail
  apply wpIn_scope_straight
  generalize ((w.alloc (.cells #[.slice A y.length cap] 22)).alloc (.cells #[.int .i64 s] 3)).alloc (.cells #[.int .i64 u] 3) = w0 at *
  have hT := hT.below hA
  have hS := hS.next hA
  have k1 := hb1.cell
  gi_wp2_with fail
  refine ⟨trivial, ?_⟩
  gi_at_call 142
  refine (callsIn_wide.2 (hO _ hT hS)).mono ?_
  rintro e w1 ⟨rfl, hB1⟩
  have hA1 := below_alloc w1 (.cells (c3 a s u) 51)
  have hr8 := Rowed.new w1 51 (c3 a s u)
  have hBx := below_trans hB1 hA1
  have hl8 := hr8.lt
  have hb1 : Boxed (w1.alloc (.cells (c3 a s u) 51)) w.heap.size 22 (.slice A y.length cap) := (hBx.block _ hb1.lt).trans hb1
  have hb2 : Boxed (w1.alloc (.cells (c3 a s u) 51)) (w.heap.size + 1) 3 (.int .i64 s) := (hBx.block _ hb2.lt).trans hb2
  have hb3 : Boxed (w1.alloc (.cells (c3 a s u) 51)) (w.heap.size + 1 + 1) 3 (.int .i64 u) := (hBx.block _ hb3.lt).trans hb3
  have hT := hT.below hBx
  have hS := hS.next hBx
  have hA := below_trans hA hBx
  have hsz1 := hB1.size
  have k1 := hb1.cell
  have k2 := hb2.cell
  have k3 := hb3.cell
  have t1 := hr8.cell 1
  have t2 := hr8.cell 2
  simp at t1 t2
  clear hO hB1 hA1 hBx
  have g1 : (s == s) = true := by simp
  have g2 : (u == u) = true := by simp
  gi_wp2_with fail
  rw [Exit.noGoto_ret]
  refine ⟨.tuple #[.int .i64 (-1), eB 0], ?_, hA, .inl ⟨-1, 0, Hg.out, rfl⟩⟩
  simp [results, Tryz.f120, go_sem]
set_option maxRecDepth 100000 in
set_option maxHeartbeats 4000000 in
theorem find_none (y : List UInt8) (s u a b c : Int) (hs : sumsG y = .ok (a, b, c)) (hne : ¬ (b = s ∧ c = u)) (hno : ¬ (0 ≤ s ∧ s < 4 ∧ 0 ≤ u ∧ u ≤ 6 * y.length)) (hreach : y.length ≤ 1000000) (sv : Value) (w : World) (hT : Tab w) (hS : Sl eB w.heap.size w sv y) :
    Calls Tryz.prog 120 #[sv, .int .i64 s, .int .i64 u] w (FindIs y s u w) := by
  have Hg := Lib.hid (show findG y s u = .error 130 by rw [findG, hs]; simp only [if_neg hne, if_pos hno])
  have hR := fun w => Right_any 0 s u y.length w
  have hrb : rightB 0 s u y.length = false := by
   rw [Bool.eq_false_iff]
   intro h
   obtain ⟨a', b', c', n', ea, eb, ec, en, h2, h1, ha, hb, hc⟩ := rightB_nat h
   exact hno (by omega)
  rw [hrb] at hR
  have hd : (b == s) = false ∨ ((b == s) = true ∧ (c == u) = false) := by
   by_cases e : b = s
   · exact .inr ⟨by simpa using e, by simpa using fun e2 => hne ⟨e, e2⟩⟩
   · exact .inl (by simpa using e)
  obtain ⟨A, cap, rfl⟩ := hS.len
  have hA : Below w.heap.size w (((w.alloc (.cells #[.slice A y.length cap] 22)).alloc (.cells #[.int .i64 s] 3)).alloc (.cells #[.int .i64 u] 3)) := (((Below.refl _ w).alloc (Nat.le_refl _) _).alloc (by simp) _).alloc (by simp; omega) _
  have hb1 := ((Boxed.new w 22 (.slice A y.length cap)).alloc (.cells #[.int .i64 s] 3)).alloc (.cells #[.int .i64 u] 3)
  have hb2 := (Boxed.new (w.alloc (.cells #[.slice A y.length cap] 22)) 3 (.int .i64 s)).alloc (.cells #[.int .i64 u] 3)
  have hb3 := Boxed.new ((w.alloc (.cells #[.slice A y.length cap] 22)).alloc (.cells #[.int .i64 s] 3)) 3 (.int .i64 u)
  rw [World.size_alloc] at hb2
  rw [World.size_alloc, World.size_alloc] at hb3
  have hs0 : (((w.alloc (.cells #[.slice A y.length cap] 22)).alloc (.cells #[.int .i64 s] 3)).alloc (.cells #[.int .i64 u] 3)).heap.size = w.heap.size + 3 := by simp
  have hO := sof_yes y a b c hs hreach (.slice A y.length cap)
  refine (callsIn_wide (n := 5)).1 ?_
  refine callsIn_of_wp_marks Tryz.func120 rfl trivial ?_ rfl
  simp only [Tryz.ntmps120, List.size_toArray, List.length_cons, List.length_nil, Nat.reduceAdd, Nat.reduceSub, Array.replicate_succ, Array.replicate_zero, List.push_toArray, List.append_toArray, List.nil_append, List.cons_append]
  gi_wp2_with fail
  apply wpIn_scope_straight
  generalize ((w.alloc (.cells #[.slice A y.length cap] 22)).alloc (.cells #[.int .i64 s] 3)).alloc (.cells #[.int .i64 u] 3) = w0 at *
  have hT := hT.below hA
  have hS := hS.next hA
  have k1 := hb1.cell
  gi_wp2_with fail
  refine ⟨trivial, ?_⟩
  gi_at_call 142
  refine (callsIn_wide.2 (hO _ hT hS)).mono ?_
  rintro e w1 ⟨rfl, hB1⟩
  have hA1 := below_alloc w1 (.cells (c3 a b c) 51)
  have hr8 := Rowed.new w1 51 (c3 a b c)
  have hBx := below_trans hB1 hA1
  have hl8 := hr8.lt
  have hb1 : Boxed (w1.alloc (.cells (c3 a b c) 51)) w.heap.size 22 (.slice A y.length cap) := (hBx.block _ hb1.lt).trans hb1
  have hb2 : Boxed (w1.alloc (.cells (c3 a b c) 51)) (w.heap.size + 1) 3 (.int .i64 s) := (hBx.block _ hb2.lt).trans hb2
  have hb3 : Boxed (w1.alloc (.cells (c3 a b c) 51)) (w.heap.size + 1 + 1) 3 (.int .i64 u) := (hBx.block _ hb3.lt).trans hb3
  have hT := hT.below hBx
  have hS := hS.next hBx
  have hA := below_trans hA hBx
  have hsz1 := hB1.size
  have k1 := hb1.cell
  have k2 := hb2.cell
  have k3 := hb3.cell
  have t1 := hr8.cell 1
  have t2 := hr8.cell 2
  simp at t1 t2
  clear hO hB1 hA1 hBx
  clear hne hno hrb hs
  rcases hd with g1 | ⟨g1, g2⟩
  all_goals
   gi_wp2_with fail
   refine ⟨trivial, ?_⟩
   gi_at_call 123
   refine (callsIn_wide.2 (hR _)).mono ?_
   rintro e w2 ⟨rfl, hB2⟩
   gi_wp2_with fail
   exact ⟨below_trans hA hB2, .inr ⟨130, Hg.out, rfl⟩⟩
set_option maxRecDepth 100000 in
set_option maxHeartbeats 4000000 in
theorem find_main (y : List UInt8) (s u a b c : Int) (hs : sumsG y = .ok (a, b, c)) (hne : ¬ (b = s ∧ c = u)) (s0 : 0 ≤ s) (s4 : s < 4) (u0 : 0 ≤ u) (u6 : u ≤ 6 * y.length) (hy : FourL y) (hn2 : 2 ≤ y.length) (hn1 : y.length ≤ 1000) (hb : b = sS y y.length % 4) (hc : c = sW y y.length % (6 * y.length + 1)) (sv : Value) (w : World) (hT : Tab w) (hS : Sl eB w.heap.size w sv y) :
    Calls Tryz.prog 120 #[sv, .int .i64 s, .int .i64 u] w (FindIs y s u w) := by
  have Hg := Lib.hid (show findG y s u = match (List.range y.length).find? (hitB y s u) with
   | none => .error 130
   | some p => .ok ((p : Int), letB y s p) by rw [findG, hs]; simp only [if_neg hne]; rw [if_neg (by omega)]; rfl)
  have hR := fun w => Right_any 0 s u y.length w
  have hrb : rightB 0 s u y.length = true := by
   have hm : mayB y.length = true := by unfold mayB; rw [decide_eq_true (by omega), decide_eq_true (by omega)]; rfl
   unfold rightB
   rw [hm, decide_eq_true (show (0 : Int) ≤ 0 by omega), decide_eq_true (show (0 : Int) < y.length by omega), decide_eq_true s0, decide_eq_true s4, decide_eq_true u0, decide_eq_true u6]
   rfl
  rw [hrb] at hR
  have hd : (b == s) = false ∨ ((b == s) = true ∧ (c == u) = false) := by
   by_cases e : b = s
   · exact .inr ⟨by simpa using e, by simpa using fun e2 => hne ⟨e, e2⟩⟩
   · exact .inl (by simpa using e)
  have hb4 : 0 ≤ b ∧ b < 4 := by omega
  have Hb := Lib.hid hb
  have Hc := Lib.hid hc
  clear hb hc
  obtain ⟨A, cap, rfl⟩ := hS.len
  have hA : Below w.heap.size w (((w.alloc (.cells #[.slice A y.length cap] 22)).alloc (.cells #[.int .i64 s] 3)).alloc (.cells #[.int .i64 u] 3)) := (((Below.refl _ w).alloc (Nat.le_refl _) _).alloc (by simp) _).alloc (by simp; omega) _
  have hb1 := ((Boxed.new w 22 (.slice A y.length cap)).alloc (.cells #[.int .i64 s] 3)).alloc (.cells #[.int .i64 u] 3)
  have hb2 := (Boxed.new (w.alloc (.cells #[.slice A y.length cap] 22)) 3 (.int .i64 s)).alloc (.cells #[.int .i64 u] 3)
  have hb3 := Boxed.new ((w.alloc (.cells #[.slice A y.length cap] 22)).alloc (.cells #[.int .i64 s] 3)) 3 (.int .i64 u)
  rw [World.size_alloc] at hb2
  rw [World.size_alloc, World.size_alloc] at hb3
  have hs0 : (((w.alloc (.cells #[.slice A y.length cap] 22)).alloc (.cells #[.int .i64 s] 3)).alloc (.cells #[.int .i64 u] 3)).heap.size = w.heap.size + 3 := by simp
  have hO := sof_yes y a b c hs (by omega) (.slice A y.length cap)
  refine (callsIn_wide (n := 5)).1 ?_
  refine callsIn_of_wp_marks Tryz.func120 rfl trivial ?_ rfl
  simp only [Tryz.ntmps120, List.size_toArray, List.length_cons, List.length_nil, Nat.reduceAdd, Nat.reduceSub, Array.replicate_succ, Array.replicate_zero, List.push_toArray, List.append_toArray, List.nil_append, List.cons_append]
  gi_wp2_with fail
  apply wpIn_scope_straight
  generalize ((w.alloc (.cells #[.slice A y.length cap] 22)).alloc (.cells #[.int .i64 s] 3)).alloc (.cells #[.int .i64 u] 3) = w0 at *
  have hT := hT.below hA
  have hS := hS.next hA
  have k1 := hb1.cell
  gi_wp2_with fail
  refine ⟨trivial, ?_⟩
  gi_at_call 142
  refine (callsIn_wide.2 (hO _ hT hS)).mono ?_
  rintro e w1 ⟨rfl, hB1⟩
  have hA1 := below_alloc w1 (.cells (c3 a b c) 51)
  have hr8 := Rowed.new w1 51 (c3 a b c)
  have hBx := below_trans hB1 hA1
  have hl8 := hr8.lt
  have hb1 : Boxed (w1.alloc (.cells (c3 a b c) 51)) w.heap.size 22 (.slice A y.length cap) := (hBx.block _ hb1.lt).trans hb1
  have hb2 : Boxed (w1.alloc (.cells (c3 a b c) 51)) (w.heap.size + 1) 3 (.int .i64 s) := (hBx.block _ hb2.lt).trans hb2
  have hb3 : Boxed (w1.alloc (.cells (c3 a b c) 51)) (w.heap.size + 1 + 1) 3 (.int .i64 u) := (hBx.block _ hb3.lt).trans hb3
  have hT := hT.below hBx
  have hS := hS.next hBx
  have hA := below_trans hA hBx
  have hsz1 := hB1.size
  have k1 := hb1.cell
  have k2 := hb2.cell
  have k3 := hb3.cell
  have t1 := hr8.cell 1
  have t2 := hr8.cell 2
  simp at t1 t2
  clear hO hB1 hA1 hBx
  clear hne hrb hs
  rcases hd with g1 | ⟨g1, g2⟩
  · gi_wp2_with fail
    refine ⟨trivial, ?_⟩
    gi_at_call 123
    refine (callsIn_wide.2 (hR _)).mono ?_
    rintro e w2 ⟨rfl, hB2⟩
    have hb1 : Boxed w2 w.heap.size 22 (.slice A y.length cap) := (hB2.block _ hb1.lt).trans hb1
    have hb2 : Boxed w2 (w.heap.size + 1) 3 (.int .i64 s) := (hB2.block _ hb2.lt).trans hb2
    have hb3 : Boxed w2 (w.heap.size + 1 + 1) 3 (.int .i64 u) := (hB2.block _ hb3.lt).trans hb3
    have hr8 := hr8.below hB2 hl8
    have hT := hT.below hB2
    have hS := hS.next hB2
    have hA := below_trans hA hB2
    have hsz2 := hB2.size
    have hl8 := hr8.lt
    have k1 := hb1.cell
    clear hR k2 k3 t1 t2 hB2
    gi_wp2_with fail
    have hA3 : Below w2.heap.size w2 (((w2.alloc (.cells #[.func (.func 143) #[] #[.pointer (some ⟨w.heap.size + 1, 0, none⟩), .pointer (some ⟨w1.heap.size, 0, none⟩)]] 46)).alloc (.cells #[.int .i64 (-1)] 3)).alloc (.cells #[.int .u8 0] 5)) := (((Below.refl _ w2).alloc (Nat.le_refl _) _).alloc (by simp) _).alloc (by simp; omega) _
    have hb9 := ((Boxed.new w2 46 (.func (.func 143) #[] #[.pointer (some ⟨w.heap.size + 1, 0, none⟩), .pointer (some ⟨w1.heap.size, 0, none⟩)])).alloc (.cells #[.int .i64 (-1)] 3)).alloc (.cells #[.int .u8 0] 5)
    have hb10 := (Boxed.new (w2.alloc (.cells #[.func (.func 143) #[] #[.pointer (some ⟨w.heap.size + 1, 0, none⟩), .pointer (some ⟨w1.heap.size, 0, none⟩)]] 46)) 3 (.int .i64 (-1))).alloc (.cells #[.int .u8 0] 5)
    have hb11 := Boxed.new ((w2.alloc (.cells #[.func (.func 143) #[] #[.pointer (some ⟨w.heap.size + 1, 0, none⟩), .pointer (some ⟨w1.heap.size, 0, none⟩)]] 46)).alloc (.cells #[.int .i64 (-1)] 3)) 5 (.int .u8 0)
    rw [World.size_alloc] at hb10
    rw [World.size_alloc, World.size_alloc] at hb11
    generalize ((w2.alloc (.cells #[.func (.func 143) #[] #[.pointer (some ⟨w.heap.size + 1, 0, none⟩), .pointer (some ⟨w1.heap.size, 0, none⟩)]] 46)).alloc (.cells #[.int .i64 (-1)] 3)).alloc (.cells #[.int .u8 0] 5) = w3 at *
    have hb1 : Boxed w3 w.heap.size 22 (.slice A y.length cap) := (hA3.block _ hb1.lt).trans hb1
    have hb2 : Boxed w3 (w.heap.size + 1) 3 (.int .i64 s) := (hA3.block _ hb2.lt).trans hb2
    have hb3 : Boxed w3 (w.heap.size + 1 + 1) 3 (.int .i64 u) := (hA3.block _ hb3.lt).trans hb3
    have hr8 := hr8.below hA3 hl8
    have hT := hT.below hA3
    have hS := hS.next hA3
    have hA := below_trans hA hA3
    have hsz3 := hb11.lt
    have k1 := hb1.cell
    have k9 := hb9.cell
    apply wpIn_label
    gi_wp2_with fail
    refine ⟨trivial, ?_⟩
    gi_at_call 144
    refine (callsIn_wide.2 (swaps_any _ _ _ _ _ _)).mono ?_
    rintro e w4 ⟨rfl, rfl⟩
    have hA4 : Below w3.heap.size w3 ((w3.alloc (.cells #[.slice A y.length cap] 22)).alloc (.cells #[.func (.func 143) #[] #[.pointer (some ⟨w.heap.size + 1, 0, none⟩), .pointer (some ⟨w1.heap.size, 0, none⟩)]] 46)) := ((Below.refl _ w3).alloc (Nat.le_refl _) _).alloc (by simp) _
    have hc0 := (Boxed.new w3 22 (.slice A y.length cap)).alloc (.cells #[.func (.func 143) #[] #[.pointer (some ⟨w.heap.size + 1, 0, none⟩), .pointer (some ⟨w1.heap.size, 0, none⟩)]] 46)
    have hc1 := Boxed.new (w3.alloc (.cells #[.slice A y.length cap] 22)) 46 (.func (.func 143) #[] #[.pointer (some ⟨w.heap.size + 1, 0, none⟩), .pointer (some ⟨w1.heap.size, 0, none⟩)])
    rw [World.size_alloc] at hc1
    generalize (w3.alloc (.cells #[.slice A y.length cap] 22)).alloc (.cells #[.func (.func 143) #[] #[.pointer (some ⟨w.heap.size + 1, 0, none⟩), .pointer (some ⟨w1.heap.size, 0, none⟩)]] 46) = w4 at *
    have hb1 : Boxed w4 w.heap.size 22 (.slice A y.length cap) := (hA4.block _ hb1.lt).trans hb1
    have hb2 : Boxed w4 (w.heap.size + 1) 3 (.int .i64 s) := (hA4.block _ hb2.lt).trans hb2
    have hb3 : Boxed w4 (w.heap.size + 1 + 1) 3 (.int .i64 u) := (hA4.block _ hb3.lt).trans hb3
    have hb9 : Boxed w4 w2.heap.size 46 (.func (.func 143) #[] #[.pointer (some ⟨w.heap.size + 1, 0, none⟩), .pointer (some ⟨w1.heap.size, 0, none⟩)]) := (hA4.block _ hb9.lt).trans hb9
    have hb10 : Boxed w4 (w2.heap.size + 1) 3 (.int .i64 (-1)) := (hA4.block _ hb10.lt).trans hb10
    have hb11 : Boxed w4 (w2.heap.size + 1 + 1) 5 (.int .u8 0) := (hA4.block _ hb11.lt).trans hb11
    have hr8 := hr8.below hA4 (by omega)
    have hT := hT.below hA4
    have hS := hS.next hA4
    have hA := below_trans hA hA4
    have hsz4 := hc1.lt
    have t1 := hr8.cell 1
    simp at t1
    have hseq := swaps_seq w3.heap.size (w3.heap.size + 1) (w.heap.size + 1) w1.heap.size A cap y s b hn1 hy s0 s4 hb4.1 hb4.2 w4 hc0.lt hc1.lt hb2.lt (by omega) hc0.cell hc1.cell hb2.cell t1 hS hT
    clear k1 k9 hA3 hA4
    gi_wp2_with fail
    refine wpIn_range_I (gf := 162) (lb := #[.pointer (some ⟨w3.heap.size, 0, none⟩), .pointer (some ⟨w3.heap.size + 1, 0, none⟩)]) rfl rfl trivial rfl (enters_of Tryz.func162 (by kernel_rfl) rfl)
     hseq (fun _ _ _ => Below.trans) (fun W l o o' h1 _ _ => below_put (Below.refl _ _) o' h1) (Below.refl _ _) (fun _ => rfl)
     (fun (pre : List Nat) W => (∀ j ∈ pre, hitB y s u j = false) ∧ Below w4.heap.size w4 W)
     (fun c' W => (c' = .exit 0 ∧ ∃ p : Nat, p < y.length ∧ hitB y s u p = true ∧ (∀ j, j < p → hitB y s u j = false) ∧ Boxed W (w2.heap.size + 1) 3 (.int .i64 p) ∧ Boxed W (w2.heap.size + 1 + 1) 5 (eB (letB y s p))) ∧ Below w.heap.size w W)
     (OwnFrom.and (ownFrom_pure _ (fun (pre : List Nat) => ∀ j ∈ pre, hitB y s u j = false)) (ownFrom_below (Nat.le_refl _) (Nat.le_refl _)))
     ⟨by simp, Below.refl _ _⟩
     (fun c' D W o hD ⟨⟨hc', p, h1, h2, h3, h4, h5⟩, h6⟩ => ⟨⟨hc', p, h1, h2, h3, (World.putObj_heap_other (by omega)).trans h4, (World.putObj_heap_other (by omega)).trans h5⟩, below_put h6 o (by omega)⟩)
     ?act1 ?assign1 ?body1 ?done1 ?stop1 ?pan1
    case assign1 =>
     intro l x W K hK
     gi_wp2
     exact hK
    case pan1 =>
     rintro ch D W hf
     cases hf
    case done1 =>
     rintro - D W hD ⟨hno, hB⟩ hk
     have h10 : Boxed W (w2.heap.size + 1) 3 (.int .i64 (-1)) := (hB.block _ hb10.lt).trans hb10
     have kk := h10.cell
     have hg : findG y s u = .error 130 := by
      rw [Hg.out, find_not (fun j hj => hno j (by simpa using hj))]
     have Hg := Lib.hid hg
     clear hno hg
     gi_wp2_with fail
     refine ⟨by simp, .inl ⟨_, _, rfl, run_takeDeferred hk, ?_⟩⟩
     exact ⟨below_put (hA.trans (hB.mono hA.size)) _ (by omega), .inr ⟨130, Hg.out, rfl⟩⟩
    case stop1 =>
     rintro c' D W hD ⟨⟨rfl, p, hp, hh, hno, h10, h11⟩, hB⟩ hk
     have hg : findG y s u = .ok ((p : Int), letB y s p) := by
      rw [Hg.out, find_first hp hh hno]
     have Hg := Lib.hid hg
     have kk := h10.cell
     have kk2 := h11.cell
     have hpm : ((p : Int) == -1) = false := by rw [beq_eq_false_iff_ne]; omega
     clear hno hg hh hp
     gi_wp2_with fail
     refine wpIn_wide.2 ?_
     go_quiet (fail)
     gi_wp2_with fail
     rw [Exit.noGoto_ret]
     have hk' : (W.drewN nq).heap[D]? = some (.deferred (some [])) := hk
     have hBn : Below w.heap.size w (W.drewN nq) := hB.trans ⟨rfl, rfl, rfl, Nat.le_refl _, fun _ _ => rfl⟩
     refine ⟨by simp, .inl ⟨_, _, rfl, run_takeDeferred hk', ?_⟩⟩
     refine ⟨.tuple #[.int .i64 p, eB (letB y s p)], ?_, below_put hBn _ (by omega), .inl ⟨p, letB y s p, Hg.out, rfl⟩⟩
     simp [results, Tryz.f120, go_sem]
    case body1 =>
     rintro l pre p W ⟨hno, hB⟩ hpre
     obtain ⟨hjn, rfl⟩ := range_is hpre
     have hb1 : Boxed W w.heap.size 22 (.slice A y.length cap) := (hB.block _ hb1.lt).trans hb1
     have hb3 : Boxed W (w.heap.size + 1 + 1) 3 (.int .i64 u) := (hB.block _ hb3.lt).trans hb3
     have hr8 := hr8.below hB (by omega)
     have k1 := hb1.cell
     have k3 := hb3.cell
     have t2 := hr8.cell 2
     simp at t2
     have hcc := code_bound (hy p hjn)
     have hrg := swC_range (s - b) (codeOf (atB y p).toNat)
     have hmg : -3003 ≤ moreG y (s - b) p ∧ moreG y (s - b) p ≤ 3003 := by
      unfold moreG
      have hd : swC (s - b) (codeOf (atB y p).toNat) - codeOf (atB y p).toNat = -3 ∨ swC (s - b) (codeOf (atB y p).toNat) - codeOf (atB y p).toNat = -2 ∨ swC (s - b) (codeOf (atB y p).toNat) - codeOf (atB y p).toNat = -1 ∨ swC (s - b) (codeOf (atB y p).toNat) - codeOf (atB y p).toNat = 0 ∨ swC (s - b) (codeOf (atB y p).toNat) - codeOf (atB y p).toNat = 1 ∨ swC (s - b) (codeOf (atB y p).toNat) - codeOf (atB y p).toNat = 2 ∨ swC (s - b) (codeOf (atB y p).toNat) - codeOf (atB y p).toNat = 3 := by omega
      rcases hd with e | e | e | e | e | e | e <;> rw [e] <;> omega
     have hcr : 0 ≤ c ∧ c < 6 * y.length + 1 := by
      rw [Hc.out]
      exact ⟨Int.emod_nonneg _ (by omega), Int.emod_lt_of_pos _ (by omega)⟩
     have hh : ((c + moreG y (s - b) p - u).tmod (6 * (y.length : Int) + 1) == 0) = hitB y s u p := by
      rw [tmod_dec, hitB, Hc.out, Hb.out]
      rfl
     generalize hmgd : moreG y (s - b) p = mg at *
     have e1 : wrap64 (c + mg) = c + mg := IntWalk.wrap64_in _ (by omega)
     have e1' : IntKind.i64.wrap (c + mg) = c + mg := IntWalk.i64_in _ (by omega)
     have e2 : wrap64 (c + mg - u) = c + mg - u := IntWalk.wrap64_in _ (by omega)
     have e2' : IntKind.i64.wrap (c + mg - u) = c + mg - u := IntWalk.i64_in _ (by omega)
     have e3 : wrap64 (6 * (y.length : Int)) = 6 * (y.length : Int) := IntWalk.wrap64_in _ (by omega)
     have e3' : IntKind.i64.wrap (6 * (y.length : Int)) = 6 * (y.length : Int) := IntWalk.i64_in _ (by omega)
     have e4 : wrap64 (6 * (y.length : Int) + 1) = 6 * (y.length : Int) + 1 := IntWalk.wrap64_in _ (by omega)
     have e4' : IntKind.i64.wrap (6 * (y.length : Int) + 1) = 6 * (y.length : Int) + 1 := IntWalk.i64_in _ (by omega)
     have n7 : ((6 * (y.length : Int) + 1) == 0) = false := by rw [beq_eq_false_iff_ne]; omega
     have n7' : ¬ (6 * (y.length : Int) + 1 = 0) := by omega
     clear hseq hmgd hmg hcr
     cases hq : hitB y s u p with
     | false =>
       have hno' : ∀ j ∈ List.range p ++ [p], hitB y s u j = false := by
        intro j hj
        rcases List.mem_append.1 hj with h | h
        · exact hno j h
        · rw [List.mem_singleton.1 h]; exact hq
       rw [hq] at hh
       have Hno := Lib.hid hno'
       clear hno hno' hq
       gi_wp2_with fail
       exact ⟨KeepsFrom.refl _ _, Below.refl _ _, Hno.out, hB⟩
     | true =>
       rw [hq] at hh
       have Hno := Lib.hid hno
       have Hq := Lib.hid hq
       clear hno hq
       gi_wp2_with fail
       have hTd : Tab W.drew := (hT.below hB : Tab W)
       have d1 : W.drew.cell? ⟨w.heap.size, 0, none⟩ = some (.slice A y.length cap) := k1
       have d9 : W.drew.cell? ⟨w2.heap.size, 0, none⟩ = some (.func (.func 143) #[] #[.pointer (some ⟨w.heap.size + 1, 0, none⟩), .pointer (some ⟨w1.heap.size, 0, none⟩)]) := (hB.cell (p := ⟨w2.heap.size, 0, none⟩) hb9.lt).trans hb9.cell
       have d2 : W.drew.cell? ⟨w.heap.size + 1, 0, none⟩ = some (.int .i64 s) := (hB.cell (p := ⟨w.heap.size + 1, 0, none⟩) hb2.lt).trans hb2.cell
       have d8 : W.drew.cell? ⟨w1.heap.size, 1, none⟩ = some (.int .i64 b) := (hB.cell (p := ⟨w1.heap.size, 1, none⟩) (by show w1.heap.size < w4.heap.size; omega)).trans t1
       have hb10 : Boxed W (w2.heap.size + 1) 3 (.int .i64 (-1)) := (hB.block _ hb10.lt).trans hb10
       have hb11 : Boxed W (w2.heap.size + 1 + 1) 5 (.int .u8 0) := (hB.block _ hb11.lt).trans hb11
       have hCc := fun (m : Nat) => CallsIn.inRound l ((callsIn_wide (n := m)).2 (scode_yes (atB y p) (hy p hjn) W.drew hTd))
       have hCs := fun (m : Nat) => CallsIn.inRound l ((callsIn_wide (n := m)).2 (swapped_any (w.heap.size + 1) w1.heap.size s b (codeOf (atB y p).toNat) s0 s4 hb4.1 hb4.2 (by omega) (by omega) W.drew d2 d8))
       have hCl := fun (m : Nat) => CallsIn.inRound l ((callsIn_wide (n := m)).2 (Letter_any (swC (s - b) (codeOf (atB y p).toNat)) W.drew hTd))
       have hlt : letterOf (swC (s - b) (codeOf (atB y p).toNat)) = letB y s p := by rw [letB, Hb.out]
       rw [hlt] at hCl
       obtain ⟨bk, off, rfl, hbk, hcell⟩ := (show ∃ bk off, A = some ⟨bk, off, none⟩ ∧ bk < w4.heap.size ∧ w4.cell? ⟨bk, off + p, none⟩ = some (eB (atB y p)) from by
        obtain ⟨A', c', e, hc, hcs⟩ := hS
        injection e with e1 e2 e3
        subst e1 e3
        obtain ⟨bk, off, e4, hb, hcell⟩ := hcs (by omega)
        exact ⟨bk, off, e4, hb, hcell p _ (atB_lt hjn)⟩)
       have d0 : W.drew.cell? ⟨bk, off + p, none⟩ = some (eB (atB y p)) := (hB.cell (p := ⟨bk, off + p, none⟩) hbk).trans hcell
       have hpl : (p : Int) < y.length := by omega
       have Hjn := Lib.hid hjn
       generalize hchd : atB y p = ch at *
       generalize hqd : codeOf ch.toNat = q at *
       generalize hld : letB y s p = lt at *
       generalize swC (s - b) q = nw at *
       have Hld := Lib.hid hld
       clear hchd hqd hld hlt hjn hcell k1 k3 t2
       refine wpIn_region_det2 9 [(52, .int .i64 p), (53, .func (.func 143) #[] #[.pointer (some ⟨w.heap.size + 1, 0, none⟩), .pointer (some ⟨w1.heap.size, 0, none⟩)]), (54, .slice (some ⟨bk, off, none⟩) y.length cap), (55, .int .i64 p), (56, .pointer (some ⟨bk, off + p, none⟩)), (57, eB ch), (58, .int .i64 q), (59, .int .i64 nw), (60, eB lt)]
         (by kernel_rfl) (by decide) (by kernel_rfl) (by kernel_rfl) (by kernel_rfl) (by kernel_rfl) (by kernel_rfl) ?oka ?tail1a ?tail2a
       case oka =>
        intro A' hA'
        simp only [putAll, Act.put, List.setIfInBounds_toArray, List.set_cons_zero, List.set_cons_succ] at hA'
        subst hA'
        refine ⟨?_, ?_, ?_, ?_, ?_, ?_, ?_, ?_, ?_, trivial⟩
        all_goals unfold DetIn
        all_goals go_simp
        · refine ⟨trivial, (hCc _).mono ?_⟩
          rintro e w' ⟨rfl, rfl⟩
          exact ⟨rfl, rfl⟩
        · refine ⟨trivial, (hCs _).mono ?_⟩
          rintro e w' ⟨rfl, rfl⟩
          exact ⟨rfl, rfl⟩
        · refine ⟨trivial, (hCl _).mono ?_⟩
          rintro e w' ⟨rfl, rfl⟩
          exact ⟨rfl, rfl⟩
       all_goals
        intro A' hA'
        simp only [putAll, Act.put, List.setIfInBounds_toArray, List.set_cons_zero, List.set_cons_succ] at hA'
        subst hA'
        have hBd : Below w.heap.size w W := hA.trans (hB.mono hA.size)
        have p10 := hb10.set (.int .i64 p)
        have p11 := hb11.set (eB lt)
        have r11 := Boxed.set_other (b' := w2.heap.size + 1) (y := .int .i64 p) hb11 (by omega)
        have r10 := Boxed.set_other (b' := w2.heap.size + 1 + 1) (y := eB lt) hb10 (by omega)
        have c10 : W.drew.cell? ⟨w2.heap.size + 1, 0, none⟩ = some (.int .i64 (-1)) := hb10.cell
        have c11 : W.drew.cell? ⟨w2.heap.size + 1 + 1, 0, none⟩ = some (.int .u8 0) := hb11.cell
        have c10w := hb10.cell
        have c11w := hb11.cell
        have f10 := hb10.frozen
        have f11 := hb11.frozen
        have f10d : W.drew.frozen? ⟨w2.heap.size + 1, 0, none⟩ = false := hb10.frozen
        have f11d : W.drew.frozen? ⟨w2.heap.size + 1 + 1, 0, none⟩ = false := hb11.frozen
        have q1 : Boxed ((W.setCell ⟨w2.heap.size + 1, 0, none⟩ (.int .i64 p)).setCell ⟨w2.heap.size + 1 + 1, 0, none⟩ (eB lt)).drew (w2.heap.size + 1) 3 (.int .i64 p) := (Boxed.set_other p10 (by omega) : Boxed ((W.setCell ⟨w2.heap.size + 1, 0, none⟩ (.int .i64 p)).setCell ⟨w2.heap.size + 1 + 1, 0, none⟩ (eB lt)) _ _ _)
        have q2 : Boxed ((W.setCell ⟨w2.heap.size + 1, 0, none⟩ (.int .i64 p)).setCell ⟨w2.heap.size + 1 + 1, 0, none⟩ (eB lt)).drew (w2.heap.size + 1 + 1) 5 (eB lt) := (r11.set (eB lt) : Boxed ((W.setCell ⟨w2.heap.size + 1, 0, none⟩ (.int .i64 p)).setCell ⟨w2.heap.size + 1 + 1, 0, none⟩ (eB lt)) _ _ _)
        have q3 : Boxed ((W.setCell ⟨w2.heap.size + 1 + 1, 0, none⟩ (eB lt)).setCell ⟨w2.heap.size + 1, 0, none⟩ (.int .i64 p)).drew (w2.heap.size + 1) 3 (.int .i64 p) := (r10.set (.int .i64 p) : Boxed ((W.setCell ⟨w2.heap.size + 1 + 1, 0, none⟩ (eB lt)).setCell ⟨w2.heap.size + 1, 0, none⟩ (.int .i64 p)) _ _ _)
        have q4 : Boxed ((W.setCell ⟨w2.heap.size + 1 + 1, 0, none⟩ (eB lt)).setCell ⟨w2.heap.size + 1, 0, none⟩ (.int .i64 p)).drew (w2.heap.size + 1 + 1) 5 (eB lt) := (Boxed.set_other p11 (by omega) : Boxed ((W.setCell ⟨w2.heap.size + 1 + 1, 0, none⟩ (eB lt)).setCell ⟨w2.heap.size + 1, 0, none⟩ (.int .i64 p)) _ _ _)
        have n1 : Below w.heap.size w ((W.setCell ⟨w2.heap.size + 1, 0, none⟩ (.int .i64 p)).setCell ⟨w2.heap.size + 1 + 1, 0, none⟩ (eB lt)).drew := ((hBd.setCell (p := ⟨w2.heap.size + 1, 0, none⟩) (by show w.heap.size ≤ w2.heap.size + 1; omega) _).setCell (p := ⟨w2.heap.size + 1 + 1, 0, none⟩) (by show w.heap.size ≤ w2.heap.size + 1 + 1; omega) _).trans ⟨rfl, rfl, rfl, Nat.le_refl _, fun _ _ => rfl⟩
        have n2 : Below w.heap.size w ((W.setCell ⟨w2.heap.size + 1 + 1, 0, none⟩ (eB lt)).setCell ⟨w2.heap.size + 1, 0, none⟩ (.int .i64 p)).drew := ((hBd.setCell (p := ⟨w2.heap.size + 1 + 1, 0, none⟩) (by show w.heap.size ≤ w2.heap.size + 1 + 1; omega) _).setCell (p := ⟨w2.heap.size + 1, 0, none⟩) (by show w.heap.size ≤ w2.heap.size + 1; omega) _).trans ⟨rfl, rfl, rfl, Nat.le_refl _, fun _ _ => rfl⟩
        have m1 := (keepsFrom_cells (B := w4.heap.size) (g1 := w2.heap.size + 1) (g2 := w2.heap.size + 1 + 1) W (.int .i64 p) (eB lt) (by omega) (by omega)).trans (keepsFrom_drew _ _)
        have m2 := (keepsFrom_cells (B := w4.heap.size) (g1 := w2.heap.size + 1 + 1) (g2 := w2.heap.size + 1) W (eB lt) (.int .i64 p) (by omega) (by omega)).trans (keepsFrom_drew _ _)
        have Hgood := Lib.hid (show ∃ p' : Nat, p' = p ∧ p' < y.length ∧ hitB y s u p' = true ∧ (∀ j, j < p' → hitB y s u j = false) from ⟨p, rfl, Hjn.out, Hq.out, fun j hj => Hno.out j (by simpa using hj)⟩)
        clear hB p10 p11 r10 r11 hCc hCs hCl d0 d1 d2 d8 d9 hTd
        simp only [List.drop_succ_cons, List.drop_zero, List.reverse_cons, List.reverse_nil, List.nil_append, List.cons_append]
        gi_wp2_with fail
        rw [← Hld.out] at q1 q2 q3 q4 n1 n2 m1 m2 ⊢
        obtain ⟨p', rfl, g1, g2, g3⟩ := Hgood.out
        first
         | exact ⟨m1, ⟨rfl, p', g1, g2, g3, q1, q2⟩, n1⟩
         | exact ⟨m2, ⟨rfl, p', g1, g2, g3, q3, q4⟩, n2⟩
  · gi_wp2_with fail
    refine ⟨trivial, ?_⟩
    gi_at_call 123
    refine (callsIn_wide.2 (hR _)).mono ?_
    rintro e w2 ⟨rfl, hB2⟩
    have hb1 : Boxed w2 w.heap.size 22 (.slice A y.length cap) := (hB2.block _ hb1.lt).trans hb1
    have hb2 : Boxed w2 (w.heap.size + 1) 3 (.int .i64 s) := (hB2.block _ hb2.lt).trans hb2
    have hb3 : Boxed w2 (w.heap.size + 1 + 1) 3 (.int .i64 u) := (hB2.block _ hb3.lt).trans hb3
    have hr8 := hr8.below hB2 hl8
    have hT := hT.below hB2
    have hS := hS.next hB2
    have hA := below_trans hA hB2
    have hsz2 := hB2.size
    have hl8 := hr8.lt
    have k1 := hb1.cell
    clear hR k2 k3 t1 t2 hB2
    gi_wp2_with fail
    have hA3 : Below w2.heap.size w2 (((w2.alloc (.cells #[.func (.func 143) #[] #[.pointer (some ⟨w.heap.size + 1, 0, none⟩), .pointer (some ⟨w1.heap.size, 0, none⟩)]] 46)).alloc (.cells #[.int .i64 (-1)] 3)).alloc (.cells #[.int .u8 0] 5)) := (((Below.refl _ w2).alloc (Nat.le_refl _) _).alloc (by simp) _).alloc (by simp; omega) _
    have hb9 := ((Boxed.new w2 46 (.func (.func 143) #[] #[.pointer (some ⟨w.heap.size + 1, 0, none⟩), .pointer (some ⟨w1.heap.size, 0, none⟩)])).alloc (.cells #[.int .i64 (-1)] 3)).alloc (.cells #[.int .u8 0] 5)
    have hb10 := (Boxed.new (w2.alloc (.cells #[.func (.func 143) #[] #[.pointer (some ⟨w.heap.size + 1, 0, none⟩), .pointer (some ⟨w1.heap.size, 0, none⟩)]] 46)) 3 (.int .i64 (-1))).alloc (.cells #[.int .u8 0] 5)
    have hb11 := Boxed.new ((w2.alloc (.cells #[.func (.func 143) #[] #[.pointer (some ⟨w.heap.size + 1, 0, none⟩), .pointer (some ⟨w1.heap.size, 0, none⟩)]] 46)).alloc (.cells #[.int .i64 (-1)] 3)) 5 (.int .u8 0)
    rw [World.size_alloc] at hb10
    rw [World.size_alloc, World.size_alloc] at hb11
    generalize ((w2.alloc (.cells #[.func (.func 143) #[] #[.pointer (some ⟨w.heap.size + 1, 0, none⟩), .pointer (some ⟨w1.heap.size, 0, none⟩)]] 46)).alloc (.cells #[.int .i64 (-1)] 3)).alloc (.cells #[.int .u8 0] 5) = w3 at *
    have hb1 : Boxed w3 w.heap.size 22 (.slice A y.length cap) := (hA3.block _ hb1.lt).trans hb1
    have hb2 : Boxed w3 (w.heap.size + 1) 3 (.int .i64 s) := (hA3.block _ hb2.lt).trans hb2
    have hb3 : Boxed w3 (w.heap.size + 1 + 1) 3 (.int .i64 u) := (hA3.block _ hb3.lt).trans hb3
    have hr8 := hr8.below hA3 hl8
    have hT := hT.below hA3
    have hS := hS.next hA3
    have hA := below_trans hA hA3
    have hsz3 := hb11.lt
    have k1 := hb1.cell
    have k9 := hb9.cell
    apply wpIn_label
    gi_wp2_with fail
    refine ⟨trivial, ?_⟩
    gi_at_call 144
    refine (callsIn_wide.2 (swaps_any _ _ _ _ _ _)).mono ?_
    rintro e w4 ⟨rfl, rfl⟩
    have hA4 : Below w3.heap.size w3 ((w3.alloc (.cells #[.slice A y.length cap] 22)).alloc (.cells #[.func (.func 143) #[] #[.pointer (some ⟨w.heap.size + 1, 0, none⟩), .pointer (some ⟨w1.heap.size, 0, none⟩)]] 46)) := ((Below.refl _ w3).alloc (Nat.le_refl _) _).alloc (by simp) _
    have hc0 := (Boxed.new w3 22 (.slice A y.length cap)).alloc (.cells #[.func (.func 143) #[] #[.pointer (some ⟨w.heap.size + 1, 0, none⟩), .pointer (some ⟨w1.heap.size, 0, none⟩)]] 46)
    have hc1 := Boxed.new (w3.alloc (.cells #[.slice A y.length cap] 22)) 46 (.func (.func 143) #[] #[.pointer (some ⟨w.heap.size + 1, 0, none⟩), .pointer (some ⟨w1.heap.size, 0, none⟩)])
    rw [World.size_alloc] at hc1
    generalize (w3.alloc (.cells #[.slice A y.length cap] 22)).alloc (.cells #[.func (.func 143) #[] #[.pointer (some ⟨w.heap.size + 1, 0, none⟩), .pointer (some ⟨w1.heap.size, 0, none⟩)]] 46) = w4 at *
    have hb1 : Boxed w4 w.heap.size 22 (.slice A y.length cap) := (hA4.block _ hb1.lt).trans hb1
    have hb2 : Boxed w4 (w.heap.size + 1) 3 (.int .i64 s) := (hA4.block _ hb2.lt).trans hb2
    have hb3 : Boxed w4 (w.heap.size + 1 + 1) 3 (.int .i64 u) := (hA4.block _ hb3.lt).trans hb3
    have hb9 : Boxed w4 w2.heap.size 46 (.func (.func 143) #[] #[.pointer (some ⟨w.heap.size + 1, 0, none⟩), .pointer (some ⟨w1.heap.size, 0, none⟩)]) := (hA4.block _ hb9.lt).trans hb9
    have hb10 : Boxed w4 (w2.heap.size + 1) 3 (.int .i64 (-1)) := (hA4.block _ hb10.lt).trans hb10
    have hb11 : Boxed w4 (w2.heap.size + 1 + 1) 5 (.int .u8 0) := (hA4.block _ hb11.lt).trans hb11
    have hr8 := hr8.below hA4 (by omega)
    have hT := hT.below hA4
    have hS := hS.next hA4
    have hA := below_trans hA hA4
    have hsz4 := hc1.lt
    have t1 := hr8.cell 1
    simp at t1
    have hseq := swaps_seq w3.heap.size (w3.heap.size + 1) (w.heap.size + 1) w1.heap.size A cap y s b hn1 hy s0 s4 hb4.1 hb4.2 w4 hc0.lt hc1.lt hb2.lt (by omega) hc0.cell hc1.cell hb2.cell t1 hS hT
    clear k1 k9 hA3 hA4
    gi_wp2_with fail
    refine wpIn_range_I (gf := 162) (lb := #[.pointer (some ⟨w3.heap.size, 0, none⟩), .pointer (some ⟨w3.heap.size + 1, 0, none⟩)]) rfl rfl trivial rfl (enters_of Tryz.func162 (by kernel_rfl) rfl)
     hseq (fun _ _ _ => Below.trans) (fun W l o o' h1 _ _ => below_put (Below.refl _ _) o' h1) (Below.refl _ _) (fun _ => rfl)
     (fun (pre : List Nat) W => (∀ j ∈ pre, hitB y s u j = false) ∧ Below w4.heap.size w4 W)
     (fun c' W => (c' = .exit 0 ∧ ∃ p : Nat, p < y.length ∧ hitB y s u p = true ∧ (∀ j, j < p → hitB y s u j = false) ∧ Boxed W (w2.heap.size + 1) 3 (.int .i64 p) ∧ Boxed W (w2.heap.size + 1 + 1) 5 (eB (letB y s p))) ∧ Below w.heap.size w W)
     (OwnFrom.and (ownFrom_pure _ (fun (pre : List Nat) => ∀ j ∈ pre, hitB y s u j = false)) (ownFrom_below (Nat.le_refl _) (Nat.le_refl _)))
     ⟨by simp, Below.refl _ _⟩
     (fun c' D W o hD ⟨⟨hc', p, h1, h2, h3, h4, h5⟩, h6⟩ => ⟨⟨hc', p, h1, h2, h3, (World.putObj_heap_other (by omega)).trans h4, (World.putObj_heap_other (by omega)).trans h5⟩, below_put h6 o (by omega)⟩)
     ?act2 ?assign2 ?body2 ?done2 ?stop2 ?pan2
    case assign2 =>
     intro l x W K hK
     gi_wp2
     exact hK
    case pan2 =>
     rintro ch D W hf
     cases hf
    case done2 =>
     rintro - D W hD ⟨hno, hB⟩ hk
     have h10 : Boxed W (w2.heap.size + 1) 3 (.int .i64 (-1)) := (hB.block _ hb10.lt).trans hb10
     have kk := h10.cell
     have hg : findG y s u = .error 130 := by
      rw [Hg.out, find_not (fun j hj => hno j (by simpa using hj))]
     have Hg := Lib.hid hg
     clear hno hg
     gi_wp2_with fail
     refine ⟨by simp, .inl ⟨_, _, rfl, run_takeDeferred hk, ?_⟩⟩
     exact ⟨below_put (hA.trans (hB.mono hA.size)) _ (by omega), .inr ⟨130, Hg.out, rfl⟩⟩
    case stop2 =>
     rintro c' D W hD ⟨⟨rfl, p, hp, hh, hno, h10, h11⟩, hB⟩ hk
     have hg : findG y s u = .ok ((p : Int), letB y s p) := by
      rw [Hg.out, find_first hp hh hno]
     have Hg := Lib.hid hg
     have kk := h10.cell
     have kk2 := h11.cell
     have hpm : ((p : Int) == -1) = false := by rw [beq_eq_false_iff_ne]; omega
     clear hno hg hh hp
     gi_wp2_with fail
     refine wpIn_wide.2 ?_
     go_quiet (fail)
     gi_wp2_with fail
     rw [Exit.noGoto_ret]
     have hk' : (W.drewN nq).heap[D]? = some (.deferred (some [])) := hk
     have hBn : Below w.heap.size w (W.drewN nq) := hB.trans ⟨rfl, rfl, rfl, Nat.le_refl _, fun _ _ => rfl⟩
     refine ⟨by simp, .inl ⟨_, _, rfl, run_takeDeferred hk', ?_⟩⟩
     refine ⟨.tuple #[.int .i64 p, eB (letB y s p)], ?_, below_put hBn _ (by omega), .inl ⟨p, letB y s p, Hg.out, rfl⟩⟩
     simp [results, Tryz.f120, go_sem]
    case body2 =>
     rintro l pre p W ⟨hno, hB⟩ hpre
     obtain ⟨hjn, rfl⟩ := range_is hpre
     have hb1 : Boxed W w.heap.size 22 (.slice A y.length cap) := (hB.block _ hb1.lt).trans hb1
     have hb3 : Boxed W (w.heap.size + 1 + 1) 3 (.int .i64 u) := (hB.block _ hb3.lt).trans hb3
     have hr8 := hr8.below hB (by omega)
     have k1 := hb1.cell
     have k3 := hb3.cell
     have t2 := hr8.cell 2
     simp at t2
     have hcc := code_bound (hy p hjn)
     have hrg := swC_range (s - b) (codeOf (atB y p).toNat)
     have hmg : -3003 ≤ moreG y (s - b) p ∧ moreG y (s - b) p ≤ 3003 := by
      unfold moreG
      have hd : swC (s - b) (codeOf (atB y p).toNat) - codeOf (atB y p).toNat = -3 ∨ swC (s - b) (codeOf (atB y p).toNat) - codeOf (atB y p).toNat = -2 ∨ swC (s - b) (codeOf (atB y p).toNat) - codeOf (atB y p).toNat = -1 ∨ swC (s - b) (codeOf (atB y p).toNat) - codeOf (atB y p).toNat = 0 ∨ swC (s - b) (codeOf (atB y p).toNat) - codeOf (atB y p).toNat = 1 ∨ swC (s - b) (codeOf (atB y p).toNat) - codeOf (atB y p).toNat = 2 ∨ swC (s - b) (codeOf (atB y p).toNat) - codeOf (atB y p).toNat = 3 := by omega
      rcases hd with e | e | e | e | e | e | e <;> rw [e] <;> omega
     have hcr : 0 ≤ c ∧ c < 6 * y.length + 1 := by
      rw [Hc.out]
      exact ⟨Int.emod_nonneg _ (by omega), Int.emod_lt_of_pos _ (by omega)⟩
     have hh : ((c + moreG y (s - b) p - u).tmod (6 * (y.length : Int) + 1) == 0) = hitB y s u p := by
      rw [tmod_dec, hitB, Hc.out, Hb.out]
      rfl
     generalize hmgd : moreG y (s - b) p = mg at *
     have e1 : wrap64 (c + mg) = c + mg := IntWalk.wrap64_in _ (by omega)
     have e1' : IntKind.i64.wrap (c + mg) = c + mg := IntWalk.i64_in _ (by omega)
     have e2 : wrap64 (c + mg - u) = c + mg - u := IntWalk.wrap64_in _ (by omega)
     have e2' : IntKind.i64.wrap (c + mg - u) = c + mg - u := IntWalk.i64_in _ (by omega)
     have e3 : wrap64 (6 * (y.length : Int)) = 6 * (y.length : Int) := IntWalk.wrap64_in _ (by omega)
     have e3' : IntKind.i64.wrap (6 * (y.length : Int)) = 6 * (y.length : Int) := IntWalk.i64_in _ (by omega)
     have e4 : wrap64 (6 * (y.length : Int) + 1) = 6 * (y.length : Int) + 1 := IntWalk.wrap64_in _ (by omega)
     have e4' : IntKind.i64.wrap (6 * (y.length : Int) + 1) = 6 * (y.length : Int) + 1 := IntWalk.i64_in _ (by omega)
     have n7 : ((6 * (y.length : Int) + 1) == 0) = false := by rw [beq_eq_false_iff_ne]; omega
     have n7' : ¬ (6 * (y.length : Int) + 1 = 0) := by omega
     clear hseq hmgd hmg hcr
     cases hq : hitB y s u p with
     | false =>
       have hno' : ∀ j ∈ List.range p ++ [p], hitB y s u j = false := by
        intro j hj
        rcases List.mem_append.1 hj with h | h
        · exact hno j h
        · rw [List.mem_singleton.1 h]; exact hq
       rw [hq] at hh
       have Hno := Lib.hid hno'
       clear hno hno' hq
       gi_wp2_with fail
       exact ⟨KeepsFrom.refl _ _, Below.refl _ _, Hno.out, hB⟩
     | true =>
       rw [hq] at hh
       have Hno := Lib.hid hno
       have Hq := Lib.hid hq
       clear hno hq
       gi_wp2_with fail
       have hTd : Tab W.drew := (hT.below hB : Tab W)
       have d1 : W.drew.cell? ⟨w.heap.size, 0, none⟩ = some (.slice A y.length cap) := k1
       have d9 : W.drew.cell? ⟨w2.heap.size, 0, none⟩ = some (.func (.func 143) #[] #[.pointer (some ⟨w.heap.size + 1, 0, none⟩), .pointer (some ⟨w1.heap.size, 0, none⟩)]) := (hB.cell (p := ⟨w2.heap.size, 0, none⟩) hb9.lt).trans hb9.cell
       have d2 : W.drew.cell? ⟨w.heap.size + 1, 0, none⟩ = some (.int .i64 s) := (hB.cell (p := ⟨w.heap.size + 1, 0, none⟩) hb2.lt).trans hb2.cell
       have d8 : W.drew.cell? ⟨w1.heap.size, 1, none⟩ = some (.int .i64 b) := (hB.cell (p := ⟨w1.heap.size, 1, none⟩) (by show w1.heap.size < w4.heap.size; omega)).trans t1
       have hb10 : Boxed W (w2.heap.size + 1) 3 (.int .i64 (-1)) := (hB.block _ hb10.lt).trans hb10
       have hb11 : Boxed W (w2.heap.size + 1 + 1) 5 (.int .u8 0) := (hB.block _ hb11.lt).trans hb11
       have hCc := fun (m : Nat) => CallsIn.inRound l ((callsIn_wide (n := m)).2 (scode_yes (atB y p) (hy p hjn) W.drew hTd))
       have hCs := fun (m : Nat) => CallsIn.inRound l ((callsIn_wide (n := m)).2 (swapped_any (w.heap.size + 1) w1.heap.size s b (codeOf (atB y p).toNat) s0 s4 hb4.1 hb4.2 (by omega) (by omega) W.drew d2 d8))
       have hCl := fun (m : Nat) => CallsIn.inRound l ((callsIn_wide (n := m)).2 (Letter_any (swC (s - b) (codeOf (atB y p).toNat)) W.drew hTd))
       have hlt : letterOf (swC (s - b) (codeOf (atB y p).toNat)) = letB y s p := by rw [letB, Hb.out]
       rw [hlt] at hCl
       obtain ⟨bk, off, rfl, hbk, hcell⟩ := (show ∃ bk off, A = some ⟨bk, off, none⟩ ∧ bk < w4.heap.size ∧ w4.cell? ⟨bk, off + p, none⟩ = some (eB (atB y p)) from by
        obtain ⟨A', c', e, hc, hcs⟩ := hS
        injection e with e1 e2 e3
        subst e1 e3
        obtain ⟨bk, off, e4, hb, hcell⟩ := hcs (by omega)
        exact ⟨bk, off, e4, hb, hcell p _ (atB_lt hjn)⟩)
       have d0 : W.drew.cell? ⟨bk, off + p, none⟩ = some (eB (atB y p)) := (hB.cell (p := ⟨bk, off + p, none⟩) hbk).trans hcell
       have hpl : (p : Int) < y.length := by omega
       have Hjn := Lib.hid hjn
       generalize hchd : atB y p = ch at *
       generalize hqd : codeOf ch.toNat = q at *
       generalize hld : letB y s p = lt at *
       generalize swC (s - b) q = nw at *
       have Hld := Lib.hid hld
       clear hchd hqd hld hlt hjn hcell k1 k3 t2
       refine wpIn_region_det2 9 [(52, .int .i64 p), (53, .func (.func 143) #[] #[.pointer (some ⟨w.heap.size + 1, 0, none⟩), .pointer (some ⟨w1.heap.size, 0, none⟩)]), (54, .slice (some ⟨bk, off, none⟩) y.length cap), (55, .int .i64 p), (56, .pointer (some ⟨bk, off + p, none⟩)), (57, eB ch), (58, .int .i64 q), (59, .int .i64 nw), (60, eB lt)]
         (by kernel_rfl) (by decide) (by kernel_rfl) (by kernel_rfl) (by kernel_rfl) (by kernel_rfl) (by kernel_rfl) ?okb ?tail1b ?tail2b
       case okb =>
        intro A' hA'
        simp only [putAll, Act.put, List.setIfInBounds_toArray, List.set_cons_zero, List.set_cons_succ] at hA'
        subst hA'
        refine ⟨?_, ?_, ?_, ?_, ?_, ?_, ?_, ?_, ?_, trivial⟩
        all_goals unfold DetIn
        all_goals go_simp
        · refine ⟨trivial, (hCc _).mono ?_⟩
          rintro e w' ⟨rfl, rfl⟩
          exact ⟨rfl, rfl⟩
        · refine ⟨trivial, (hCs _).mono ?_⟩
          rintro e w' ⟨rfl, rfl⟩
          exact ⟨rfl, rfl⟩
        · refine ⟨trivial, (hCl _).mono ?_⟩
          rintro e w' ⟨rfl, rfl⟩
          exact ⟨rfl, rfl⟩
       all_goals
        intro A' hA'
        simp only [putAll, Act.put, List.setIfInBounds_toArray, List.set_cons_zero, List.set_cons_succ] at hA'
        subst hA'
        have hBd : Below w.heap.size w W := hA.trans (hB.mono hA.size)
        have p10 := hb10.set (.int .i64 p)
        have p11 := hb11.set (eB lt)
        have r11 := Boxed.set_other (b' := w2.heap.size + 1) (y := .int .i64 p) hb11 (by omega)
        have r10 := Boxed.set_other (b' := w2.heap.size + 1 + 1) (y := eB lt) hb10 (by omega)
        have c10 : W.drew.cell? ⟨w2.heap.size + 1, 0, none⟩ = some (.int .i64 (-1)) := hb10.cell
        have c11 : W.drew.cell? ⟨w2.heap.size + 1 + 1, 0, none⟩ = some (.int .u8 0) := hb11.cell
        have c10w := hb10.cell
        have c11w := hb11.cell
        have f10 := hb10.frozen
        have f11 := hb11.frozen
        have f10d : W.drew.frozen? ⟨w2.heap.size + 1, 0, none⟩ = false := hb10.frozen
        have f11d : W.drew.frozen? ⟨w2.heap.size + 1 + 1, 0, none⟩ = false := hb11.frozen
        have q1 : Boxed ((W.setCell ⟨w2.heap.size + 1, 0, none⟩ (.int .i64 p)).setCell ⟨w2.heap.size + 1 + 1, 0, none⟩ (eB lt)).drew (w2.heap.size + 1) 3 (.int .i64 p) := (Boxed.set_other p10 (by omega) : Boxed ((W.setCell ⟨w2.heap.size + 1, 0, none⟩ (.int .i64 p)).setCell ⟨w2.heap.size + 1 + 1, 0, none⟩ (eB lt)) _ _ _)
        have q2 : Boxed ((W.setCell ⟨w2.heap.size + 1, 0, none⟩ (.int .i64 p)).setCell ⟨w2.heap.size + 1 + 1, 0, none⟩ (eB lt)).drew (w2.heap.size + 1 + 1) 5 (eB lt) := (r11.set (eB lt) : Boxed ((W.setCell ⟨w2.heap.size + 1, 0, none⟩ (.int .i64 p)).setCell ⟨w2.heap.size + 1 + 1, 0, none⟩ (eB lt)) _ _ _)
        have q3 : Boxed ((W.setCell ⟨w2.heap.size + 1 + 1, 0, none⟩ (eB lt)).setCell ⟨w2.heap.size + 1, 0, none⟩ (.int .i64 p)).drew (w2.heap.size + 1) 3 (.int .i64 p) := (r10.set (.int .i64 p) : Boxed ((W.setCell ⟨w2.heap.size + 1 + 1, 0, none⟩ (eB lt)).setCell ⟨w2.heap.size + 1, 0, none⟩ (.int .i64 p)) _ _ _)
        have q4 : Boxed ((W.setCell ⟨w2.heap.size + 1 + 1, 0, none⟩ (eB lt)).setCell ⟨w2.heap.size + 1, 0, none⟩ (.int .i64 p)).drew (w2.heap.size + 1 + 1) 5 (eB lt) := (Boxed.set_other p11 (by omega) : Boxed ((W.setCell ⟨w2.heap.size + 1 + 1, 0, none⟩ (eB lt)).setCell ⟨w2.heap.size + 1, 0, none⟩ (.int .i64 p)) _ _ _)
        have n1 : Below w.heap.size w ((W.setCell ⟨w2.heap.size + 1, 0, none⟩ (.int .i64 p)).setCell ⟨w2.heap.size + 1 + 1, 0, none⟩ (eB lt)).drew := ((hBd.setCell (p := ⟨w2.heap.size + 1, 0, none⟩) (by show w.heap.size ≤ w2.heap.size + 1; omega) _).setCell (p := ⟨w2.heap.size + 1 + 1, 0, none⟩) (by show w.heap.size ≤ w2.heap.size + 1 + 1; omega) _).trans ⟨rfl, rfl, rfl, Nat.le_refl _, fun _ _ => rfl⟩
        have n2 : Below w.heap.size w ((W.setCell ⟨w2.heap.size + 1 + 1, 0, none⟩ (eB lt)).setCell ⟨w2.heap.size + 1, 0, none⟩ (.int .i64 p)).drew := ((hBd.setCell (p := ⟨w2.heap.size + 1 + 1, 0, none⟩) (by show w.heap.size ≤ w2.heap.size + 1 + 1; omega) _).setCell (p := ⟨w2.heap.size + 1, 0, none⟩) (by show w.heap.size ≤ w2.heap.size + 1; omega) _).trans ⟨rfl, rfl, rfl, Nat.le_refl _, fun _ _ => rfl⟩
        have m1 := (keepsFrom_cells (B := w4.heap.size) (g1 := w2.heap.size + 1) (g2 := w2.heap.size + 1 + 1) W (.int .i64 p) (eB lt) (by omega) (by omega)).trans (keepsFrom_drew _ _)
        have m2 := (keepsFrom_cells (B := w4.heap.size) (g1 := w2.heap.size + 1 + 1) (g2 := w2.heap.size + 1) W (eB lt) (.int .i64 p) (by omega) (by omega)).trans (keepsFrom_drew _ _)
        have Hgood := Lib.hid (show ∃ p' : Nat, p' = p ∧ p' < y.length ∧ hitB y s u p' = true ∧ (∀ j, j < p' → hitB y s u j = false) from ⟨p, rfl, Hjn.out, Hq.out, fun j hj => Hno.out j (by simpa using hj)⟩)
        clear hB p10 p11 r10 r11 hCc hCs hCl d0 d1 d2 d8 d9 hTd
        simp only [List.drop_succ_cons, List.drop_zero, List.reverse_cons, List.reverse_nil, List.nil_append, List.cons_append]
        gi_wp2_with fail
        rw [← Hld.out] at q1 q2 q3 q4 n1 n2 m1 m2 ⊢
        obtain ⟨p', rfl, g1, g2, g3⟩ := Hgood.out
        first
         | exact ⟨m1, ⟨rfl, p', g1, g2, g3, q1, q2⟩, n1⟩
         | exact ⟨m2, ⟨rfl, p', g1, g2, g3, q3, q4⟩, n2⟩
end Go.Proofs.YtkibigbcdlilkaaGreatDoor.Sw
