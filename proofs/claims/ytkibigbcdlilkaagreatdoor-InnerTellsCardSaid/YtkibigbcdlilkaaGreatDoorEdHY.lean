import Derived.Test.YtkibigbcdlilkaaGreatDoorEdFY
namespace Go.Proofs.YtkibigbcdlilkaaGreatDoor.Ed
open Go.RowKit Go.Shelf
attribute [local go_sem] Oper.semAt_some run_store_func
def plG (z : Int) (n : Nat) : Nat := ((wrap64 (z.tmod (n : Int) + (n : Int))).tmod (n : Int)).toNat
theorem pl_is (z : Int) (n : Nat) (h0 : 0 < n) (hn : n ≤ 100000) : plG z n < n ∧ (wrap64 (z.tmod (n : Int) + (n : Int))).tmod (n : Int) = (plG z n : Int) := by
 unfold plG
 have h1 : z.tmod (n : Int) < n := Int.tmod_lt_of_pos z (by omega)
 have h2 : -(n : Int) < z.tmod n := Int.lt_tmod_of_pos z (by omega)
 generalize z.tmod (n : Int) = r at *
 have e1 : wrap64 (r + (n : Int)) = r + (n : Int) := wz _ (by omega) (by omega)
 rw [e1]
 have h3 : (r + (n : Int)).tmod (n : Int) < n := Int.tmod_lt_of_pos _ (by omega)
 have h4 : 0 ≤ (r + (n : Int)).tmod (n : Int) := Int.tmod_nonneg _ (by omega)
 omega
def apG (s : List UInt8) (k : UInt8) (z : Int) (b : UInt8) : List UInt8 :=
 if k = 1 then (if s.length = 0 then s else s.take (plG z s.length) ++ s.drop (plG z s.length + 1))
 else if k = 2 then s.take (plG z (s.length + 1)) ++ b :: s.drop (plG z (s.length + 1))
 else if k = 3 then (if s.length = 0 then s else s.take (plG z s.length) ++ b :: s.drop (plG z s.length + 1))
 else s
abbrev eE (k : UInt8) (z : Int) (b : UInt8) : Value := .agg #[eB k, .int .i64 z, eB b]
abbrev cE (k : UInt8) (z : Int) (b : UInt8) : Array Value := #[eB k, .int .i64 z, eB b]
set_option maxRecDepth 100000 in
set_option maxHeartbeats 4000000 in
theorem Apply_ne0 (x : List UInt8) (z : Int) (b : UInt8) (bk off c : Nat) (h0 : 0 < x.length) (hl : x.length ≤ 400) (w : World) (hS : Sl eB w.heap.size w (.slice (some ⟨bk, off, none⟩) x.length c) x) :
    Calls Tryz.prog 31 #[.slice (some ⟨bk, off, none⟩) x.length c, .agg #[.int .u8 0, .int .i64 z, eB b]] w fun e w' => ∃ u, e = .returned u ∧ Own8 w.heap.size w' u x ∧ Below w.heap.size w w' := by
  have hmf : ∀ (fn : Fn) (first cap : Array Value) (w : World), (Instr.makeFunc fn first cap).run Tryz.prog w = .ok (.func fn first cap) w := fun _ _ _ _ => rfl
  have hcl : (Value.agg #[.int .u8 0, .int .i64 z, eB b]).cells = #[.int .u8 0, .int .i64 z, eB b] := rfl
  obtain ⟨hpl, hat⟩ := pl_is z x.length (by omega) (by omega)
  generalize plG z x.length = p at *
  have hrs := fun w => erest_any z x.length p (by omega) hat w
  have d0 : ((x.length : Int) == 0) = false := by rw [beq_eq_false_iff_ne]; omega
  have d0' : (x.length == 0) = false := by rw [beq_eq_false_iff_ne]; omega
  have d0n : ¬ x.length = 0 := by omega
  have Hl := Lib.hid hl
  have Hp := Lib.hid hpl
  clear hl hpl hat h0
  have hb1 := Boxed.new w 22 (.slice (some ⟨bk, off, none⟩) x.length c)
  have hA1 := below_alloc w (.cells #[(.slice (some ⟨bk, off, none⟩) x.length c)] 22)
  have hr2 := Rowed.new (w.alloc (.cells #[(.slice (some ⟨bk, off, none⟩) x.length c)] 22)) 28 #[.int .u8 0, .int .i64 z, eB b]
  have hA2 := below_trans hA1 (below_alloc (w.alloc (.cells #[(.slice (some ⟨bk, off, none⟩) x.length c)] 22)) (.cells #[.int .u8 0, .int .i64 z, eB b] 28))
  rw [World.size_alloc] at hr2
  have hb1 := hb1.alloc (.cells #[.int .u8 0, .int .i64 z, eB b] 28)
  go_enter Tryz.func31, Tryz.ntmps31
  go_upto_region 1 with fail
  generalize (w.alloc (.cells #[(.slice (some ⟨bk, off, none⟩) x.length c)] 22)).alloc (.cells #[.int .u8 0, .int .i64 z, eB b] 28) = w0 at *
  have q1 := hb1.cell
  have q2 := hr2.cell 0
  have q3 := hr2.cell 1
  have lx := hb1.lt
  have lr := hr2.lt
  go_wp2_with fail
  go_at_call 49
  refine (hrs _).mono ?_
  rintro e w' ⟨rfl, rfl⟩
  have hr3 := Rowed.new w0 3 #[.int .i64 p]
  have hB3 := below_alloc w0 (.cells #[.int .i64 p] 3)
  have hr4 := Rowed.new (w0.alloc (.cells #[.int .i64 p] 3)) 78 #[.func (.func 50) #[] #[.pointer (some ⟨w.heap.size, 0, none⟩)], .func (.func 51) #[] #[.pointer (some ⟨w.heap.size, 0, none⟩), .pointer (some ⟨w0.heap.size, 0, none⟩)], .func (.func 53) #[] #[.pointer (some ⟨w.heap.size, 0, none⟩), .pointer (some ⟨w0.heap.size, 0, none⟩), .pointer (some ⟨w.heap.size + 1, 0, none⟩)], .func (.func 54) #[] #[.pointer (some ⟨w.heap.size, 0, none⟩), .pointer (some ⟨w0.heap.size, 0, none⟩), .pointer (some ⟨w.heap.size + 1, 0, none⟩)]]
  have hB4 := below_alloc (w0.alloc (.cells #[.int .i64 p] 3)) (.cells #[.func (.func 50) #[] #[.pointer (some ⟨w.heap.size, 0, none⟩)], .func (.func 51) #[] #[.pointer (some ⟨w.heap.size, 0, none⟩), .pointer (some ⟨w0.heap.size, 0, none⟩)], .func (.func 53) #[] #[.pointer (some ⟨w.heap.size, 0, none⟩), .pointer (some ⟨w0.heap.size, 0, none⟩), .pointer (some ⟨w.heap.size + 1, 0, none⟩)], .func (.func 54) #[] #[.pointer (some ⟨w.heap.size, 0, none⟩), .pointer (some ⟨w0.heap.size, 0, none⟩), .pointer (some ⟨w.heap.size + 1, 0, none⟩)]] 78)
  have hB34 := below_trans hB3 hB4
  have c1 := (hb1.alloc (.cells #[.int .i64 p] 3)).alloc (.cells #[.func (.func 50) #[] #[.pointer (some ⟨w.heap.size, 0, none⟩)], .func (.func 51) #[] #[.pointer (some ⟨w.heap.size, 0, none⟩), .pointer (some ⟨w0.heap.size, 0, none⟩)], .func (.func 53) #[] #[.pointer (some ⟨w.heap.size, 0, none⟩), .pointer (some ⟨w0.heap.size, 0, none⟩), .pointer (some ⟨w.heap.size + 1, 0, none⟩)], .func (.func 54) #[] #[.pointer (some ⟨w.heap.size, 0, none⟩), .pointer (some ⟨w0.heap.size, 0, none⟩), .pointer (some ⟨w.heap.size + 1, 0, none⟩)]] 78) |>.cell
  have c2 := (hr3.below hB4 hr3.lt).cell 0
  have c0 := (hr2.below hB34 lr).cell 0
  have c3 := (hr2.below hB34 lr).cell 2
  rw [World.size_alloc] at hr4
  have c7 := hr4.cell 0
  have hBB := below_trans hA2 hB34
  go_upto_region 8 with fail
  generalize (w0.alloc (.cells #[.int .i64 p] 3)).alloc (.cells #[.func (.func 50) #[] #[.pointer (some ⟨w.heap.size, 0, none⟩)], .func (.func 51) #[] #[.pointer (some ⟨w.heap.size, 0, none⟩), .pointer (some ⟨w0.heap.size, 0, none⟩)], .func (.func 53) #[] #[.pointer (some ⟨w.heap.size, 0, none⟩), .pointer (some ⟨w0.heap.size, 0, none⟩), .pointer (some ⟨w.heap.size + 1, 0, none⟩)], .func (.func 54) #[] #[.pointer (some ⟨w.heap.size, 0, none⟩), .pointer (some ⟨w0.heap.size, 0, none⟩), .pointer (some ⟨w.heap.size + 1, 0, none⟩)]] 78) = w6 at *
  have hCC := deed_none x _ w.heap.size (by have := Hl.out; omega) w6 c1 (hS.next hBB)
  clear hrs q1 q2 q3 hr2 hr3 hr4 hB3 hB4 hB34 hb1 hA1 hA2
  go_wp2_with fail
  go_at_call 50
  refine hCC.mono ?_
  rintro e w7 ⟨u, rfl, hu, hB7⟩
  go_wp2_with fail
  go_ret
  exact ⟨u, rfl, own_mono8 hu hBB.size, below_trans hBB hB7⟩
set_option maxRecDepth 100000 in
set_option maxHeartbeats 4000000 in
theorem Apply_ne1 (x : List UInt8) (z : Int) (b : UInt8) (bk off c : Nat) (h0 : 0 < x.length) (hl : x.length ≤ 400) (w : World) (hS : Sl eB w.heap.size w (.slice (some ⟨bk, off, none⟩) x.length c) x) :
    Calls Tryz.prog 31 #[.slice (some ⟨bk, off, none⟩) x.length c, .agg #[.int .u8 1, .int .i64 z, eB b]] w fun e w' => ∃ u, e = .returned u ∧ Own8 w.heap.size w' u (x.take (plG z x.length) ++ x.drop (plG z x.length + 1)) ∧ Below w.heap.size w w' := by
  have hmf : ∀ (fn : Fn) (first cap : Array Value) (w : World), (Instr.makeFunc fn first cap).run Tryz.prog w = .ok (.func fn first cap) w := fun _ _ _ _ => rfl
  have hcl : (Value.agg #[.int .u8 1, .int .i64 z, eB b]).cells = #[.int .u8 1, .int .i64 z, eB b] := rfl
  obtain ⟨hpl, hat⟩ := pl_is z x.length (by omega) (by omega)
  generalize plG z x.length = p at *
  have hrs := fun w => erest_any z x.length p (by omega) hat w
  have d0 : ((x.length : Int) == 0) = false := by rw [beq_eq_false_iff_ne]; omega
  have d0' : (x.length == 0) = false := by rw [beq_eq_false_iff_ne]; omega
  have d0n : ¬ x.length = 0 := by omega
  have Hl := Lib.hid hl
  have Hp := Lib.hid hpl
  clear hl hpl hat h0
  have hb1 := Boxed.new w 22 (.slice (some ⟨bk, off, none⟩) x.length c)
  have hA1 := below_alloc w (.cells #[(.slice (some ⟨bk, off, none⟩) x.length c)] 22)
  have hr2 := Rowed.new (w.alloc (.cells #[(.slice (some ⟨bk, off, none⟩) x.length c)] 22)) 28 #[.int .u8 1, .int .i64 z, eB b]
  have hA2 := below_trans hA1 (below_alloc (w.alloc (.cells #[(.slice (some ⟨bk, off, none⟩) x.length c)] 22)) (.cells #[.int .u8 1, .int .i64 z, eB b] 28))
  rw [World.size_alloc] at hr2
  have hb1 := hb1.alloc (.cells #[.int .u8 1, .int .i64 z, eB b] 28)
  go_enter Tryz.func31, Tryz.ntmps31
  go_upto_region 1 with fail
  generalize (w.alloc (.cells #[(.slice (some ⟨bk, off, none⟩) x.length c)] 22)).alloc (.cells #[.int .u8 1, .int .i64 z, eB b] 28) = w0 at *
  have q1 := hb1.cell
  have q2 := hr2.cell 0
  have q3 := hr2.cell 1
  have lx := hb1.lt
  have lr := hr2.lt
  go_wp2_with fail
  go_at_call 49
  refine (hrs _).mono ?_
  rintro e w' ⟨rfl, rfl⟩
  have hr3 := Rowed.new w0 3 #[.int .i64 p]
  have hB3 := below_alloc w0 (.cells #[.int .i64 p] 3)
  have hr4 := Rowed.new (w0.alloc (.cells #[.int .i64 p] 3)) 78 #[.func (.func 50) #[] #[.pointer (some ⟨w.heap.size, 0, none⟩)], .func (.func 51) #[] #[.pointer (some ⟨w.heap.size, 0, none⟩), .pointer (some ⟨w0.heap.size, 0, none⟩)], .func (.func 53) #[] #[.pointer (some ⟨w.heap.size, 0, none⟩), .pointer (some ⟨w0.heap.size, 0, none⟩), .pointer (some ⟨w.heap.size + 1, 0, none⟩)], .func (.func 54) #[] #[.pointer (some ⟨w.heap.size, 0, none⟩), .pointer (some ⟨w0.heap.size, 0, none⟩), .pointer (some ⟨w.heap.size + 1, 0, none⟩)]]
  have hB4 := below_alloc (w0.alloc (.cells #[.int .i64 p] 3)) (.cells #[.func (.func 50) #[] #[.pointer (some ⟨w.heap.size, 0, none⟩)], .func (.func 51) #[] #[.pointer (some ⟨w.heap.size, 0, none⟩), .pointer (some ⟨w0.heap.size, 0, none⟩)], .func (.func 53) #[] #[.pointer (some ⟨w.heap.size, 0, none⟩), .pointer (some ⟨w0.heap.size, 0, none⟩), .pointer (some ⟨w.heap.size + 1, 0, none⟩)], .func (.func 54) #[] #[.pointer (some ⟨w.heap.size, 0, none⟩), .pointer (some ⟨w0.heap.size, 0, none⟩), .pointer (some ⟨w.heap.size + 1, 0, none⟩)]] 78)
  have hB34 := below_trans hB3 hB4
  have c1 := (hb1.alloc (.cells #[.int .i64 p] 3)).alloc (.cells #[.func (.func 50) #[] #[.pointer (some ⟨w.heap.size, 0, none⟩)], .func (.func 51) #[] #[.pointer (some ⟨w.heap.size, 0, none⟩), .pointer (some ⟨w0.heap.size, 0, none⟩)], .func (.func 53) #[] #[.pointer (some ⟨w.heap.size, 0, none⟩), .pointer (some ⟨w0.heap.size, 0, none⟩), .pointer (some ⟨w.heap.size + 1, 0, none⟩)], .func (.func 54) #[] #[.pointer (some ⟨w.heap.size, 0, none⟩), .pointer (some ⟨w0.heap.size, 0, none⟩), .pointer (some ⟨w.heap.size + 1, 0, none⟩)]] 78) |>.cell
  have c2 := (hr3.below hB4 hr3.lt).cell 0
  have c0 := (hr2.below hB34 lr).cell 0
  have c3 := (hr2.below hB34 lr).cell 2
  rw [World.size_alloc] at hr4
  have c7 := hr4.cell 1
  have hBB := below_trans hA2 hB34
  go_upto_region 8 with fail
  generalize (w0.alloc (.cells #[.int .i64 p] 3)).alloc (.cells #[.func (.func 50) #[] #[.pointer (some ⟨w.heap.size, 0, none⟩)], .func (.func 51) #[] #[.pointer (some ⟨w.heap.size, 0, none⟩), .pointer (some ⟨w0.heap.size, 0, none⟩)], .func (.func 53) #[] #[.pointer (some ⟨w.heap.size, 0, none⟩), .pointer (some ⟨w0.heap.size, 0, none⟩), .pointer (some ⟨w.heap.size + 1, 0, none⟩)], .func (.func 54) #[] #[.pointer (some ⟨w.heap.size, 0, none⟩), .pointer (some ⟨w0.heap.size, 0, none⟩), .pointer (some ⟨w.heap.size + 1, 0, none⟩)]] 78) = w6 at *
  have hCC := deed_gap x _ c w.heap.size w0.heap.size p (by have := Hl.out; omega) Hp.out w6 c1 c2 (hS.next hBB)
  clear hrs q1 q2 q3 hr2 hr3 hr4 hB3 hB4 hB34 hb1 hA1 hA2
  go_wp2_with fail
  go_at_call 51
  refine hCC.mono ?_
  rintro e w7 ⟨u, rfl, hu, hB7⟩
  go_wp2_with fail
  go_ret
  exact ⟨u, rfl, own_mono8 hu hBB.size, below_trans hBB hB7⟩
set_option maxRecDepth 100000 in
set_option maxHeartbeats 4000000 in
theorem Apply_ne2 (x : List UInt8) (z : Int) (b : UInt8) (bk off c : Nat) (h0 : 0 < x.length) (hl : x.length ≤ 400) (w : World) (hS : Sl eB w.heap.size w (.slice (some ⟨bk, off, none⟩) x.length c) x) :
    Calls Tryz.prog 31 #[.slice (some ⟨bk, off, none⟩) x.length c, .agg #[.int .u8 2, .int .i64 z, eB b]] w fun e w' => ∃ u, e = .returned u ∧ Own8 w.heap.size w' u (x.take (plG z (x.length + 1)) ++ b :: x.drop (plG z (x.length + 1))) ∧ Below w.heap.size w w' := by
  have hmf : ∀ (fn : Fn) (first cap : Array Value) (w : World), (Instr.makeFunc fn first cap).run Tryz.prog w = .ok (.func fn first cap) w := fun _ _ _ _ => rfl
  have hcl : (Value.agg #[.int .u8 2, .int .i64 z, eB b]).cells = #[.int .u8 2, .int .i64 z, eB b] := rfl
  obtain ⟨hpl, hat⟩ := pl_is z (x.length + 1) (by omega) (by omega)
  generalize plG z (x.length + 1) = p at *
  have hrs := fun w => erest_any z (x.length + 1) p (by omega) hat w
  have wL1 : wrap64 ((x.length : Int) + 1) = ((x.length + 1 : Nat) : Int) := w_succ _ (by omega)
  have wL2 : IntKind.i64.wrap ((x.length : Int) + 1) = ((x.length + 1 : Nat) : Int) := i_succ _ (by omega)
  have d0 : (((x.length + 1 : Nat) : Int) == 0) = false := by rw [beq_eq_false_iff_ne]; omega
  rw [Int.natCast_add, Int.natCast_one] at hrs
  have Hl := Lib.hid hl
  have Hp := Lib.hid hpl
  clear hl hpl hat h0
  have hb1 := Boxed.new w 22 (.slice (some ⟨bk, off, none⟩) x.length c)
  have hA1 := below_alloc w (.cells #[(.slice (some ⟨bk, off, none⟩) x.length c)] 22)
  have hr2 := Rowed.new (w.alloc (.cells #[(.slice (some ⟨bk, off, none⟩) x.length c)] 22)) 28 #[.int .u8 2, .int .i64 z, eB b]
  have hA2 := below_trans hA1 (below_alloc (w.alloc (.cells #[(.slice (some ⟨bk, off, none⟩) x.length c)] 22)) (.cells #[.int .u8 2, .int .i64 z, eB b] 28))
  rw [World.size_alloc] at hr2
  have hb1 := hb1.alloc (.cells #[.int .u8 2, .int .i64 z, eB b] 28)
  go_enter Tryz.func31, Tryz.ntmps31
  go_upto_region 1 with fail
  generalize (w.alloc (.cells #[(.slice (some ⟨bk, off, none⟩) x.length c)] 22)).alloc (.cells #[.int .u8 2, .int .i64 z, eB b] 28) = w0 at *
  have q1 := hb1.cell
  have q2 := hr2.cell 0
  have q3 := hr2.cell 1
  have lx := hb1.lt
  have lr := hr2.lt
  go_wp2_with fail
  go_at_call 49
  refine (hrs _).mono ?_
  rintro e w' ⟨rfl, rfl⟩
  have hr3 := Rowed.new w0 3 #[.int .i64 p]
  have hB3 := below_alloc w0 (.cells #[.int .i64 p] 3)
  have hr4 := Rowed.new (w0.alloc (.cells #[.int .i64 p] 3)) 78 #[.func (.func 50) #[] #[.pointer (some ⟨w.heap.size, 0, none⟩)], .func (.func 51) #[] #[.pointer (some ⟨w.heap.size, 0, none⟩), .pointer (some ⟨w0.heap.size, 0, none⟩)], .func (.func 53) #[] #[.pointer (some ⟨w.heap.size, 0, none⟩), .pointer (some ⟨w0.heap.size, 0, none⟩), .pointer (some ⟨w.heap.size + 1, 0, none⟩)], .func (.func 54) #[] #[.pointer (some ⟨w.heap.size, 0, none⟩), .pointer (some ⟨w0.heap.size, 0, none⟩), .pointer (some ⟨w.heap.size + 1, 0, none⟩)]]
  have hB4 := below_alloc (w0.alloc (.cells #[.int .i64 p] 3)) (.cells #[.func (.func 50) #[] #[.pointer (some ⟨w.heap.size, 0, none⟩)], .func (.func 51) #[] #[.pointer (some ⟨w.heap.size, 0, none⟩), .pointer (some ⟨w0.heap.size, 0, none⟩)], .func (.func 53) #[] #[.pointer (some ⟨w.heap.size, 0, none⟩), .pointer (some ⟨w0.heap.size, 0, none⟩), .pointer (some ⟨w.heap.size + 1, 0, none⟩)], .func (.func 54) #[] #[.pointer (some ⟨w.heap.size, 0, none⟩), .pointer (some ⟨w0.heap.size, 0, none⟩), .pointer (some ⟨w.heap.size + 1, 0, none⟩)]] 78)
  have hB34 := below_trans hB3 hB4
  have c1 := (hb1.alloc (.cells #[.int .i64 p] 3)).alloc (.cells #[.func (.func 50) #[] #[.pointer (some ⟨w.heap.size, 0, none⟩)], .func (.func 51) #[] #[.pointer (some ⟨w.heap.size, 0, none⟩), .pointer (some ⟨w0.heap.size, 0, none⟩)], .func (.func 53) #[] #[.pointer (some ⟨w.heap.size, 0, none⟩), .pointer (some ⟨w0.heap.size, 0, none⟩), .pointer (some ⟨w.heap.size + 1, 0, none⟩)], .func (.func 54) #[] #[.pointer (some ⟨w.heap.size, 0, none⟩), .pointer (some ⟨w0.heap.size, 0, none⟩), .pointer (some ⟨w.heap.size + 1, 0, none⟩)]] 78) |>.cell
  have c2 := (hr3.below hB4 hr3.lt).cell 0
  have c0 := (hr2.below hB34 lr).cell 0
  have c3 := (hr2.below hB34 lr).cell 2
  rw [World.size_alloc] at hr4
  have c7 := hr4.cell 2
  have hBB := below_trans hA2 hB34
  go_upto_region 8 with fail
  generalize (w0.alloc (.cells #[.int .i64 p] 3)).alloc (.cells #[.func (.func 50) #[] #[.pointer (some ⟨w.heap.size, 0, none⟩)], .func (.func 51) #[] #[.pointer (some ⟨w.heap.size, 0, none⟩), .pointer (some ⟨w0.heap.size, 0, none⟩)], .func (.func 53) #[] #[.pointer (some ⟨w.heap.size, 0, none⟩), .pointer (some ⟨w0.heap.size, 0, none⟩), .pointer (some ⟨w.heap.size + 1, 0, none⟩)], .func (.func 54) #[] #[.pointer (some ⟨w.heap.size, 0, none⟩), .pointer (some ⟨w0.heap.size, 0, none⟩), .pointer (some ⟨w.heap.size + 1, 0, none⟩)]] 78) = w6 at *
  have hCC := deed_more x b bk off c w.heap.size w0.heap.size (w.heap.size + 1) p Hl.out (Nat.le_of_lt_succ Hp.out) w6 c1 c2 c3 (hS.next hBB)
  clear hrs q1 q2 q3 hr2 hr3 hr4 hB3 hB4 hB34 hb1 hA1 hA2
  go_wp2_with fail
  go_at_call 53
  refine hCC.mono ?_
  rintro e w7 ⟨u, rfl, hu, hB7⟩
  go_wp2_with fail
  go_ret
  exact ⟨u, rfl, own_mono8 hu hBB.size, below_trans hBB hB7⟩
set_option maxRecDepth 100000 in
set_option maxHeartbeats 4000000 in
theorem Apply_ne3 (x : List UInt8) (z : Int) (b : UInt8) (bk off c : Nat) (h0 : 0 < x.length) (hl : x.length ≤ 400) (w : World) (hS : Sl eB w.heap.size w (.slice (some ⟨bk, off, none⟩) x.length c) x) :
    Calls Tryz.prog 31 #[.slice (some ⟨bk, off, none⟩) x.length c, .agg #[.int .u8 3, .int .i64 z, eB b]] w fun e w' => ∃ u, e = .returned u ∧ Own8 w.heap.size w' u (x.take (plG z x.length) ++ b :: x.drop (plG z x.length + 1)) ∧ Below w.heap.size w w' := by
  have hmf : ∀ (fn : Fn) (first cap : Array Value) (w : World), (Instr.makeFunc fn first cap).run Tryz.prog w = .ok (.func fn first cap) w := fun _ _ _ _ => rfl
  have hcl : (Value.agg #[.int .u8 3, .int .i64 z, eB b]).cells = #[.int .u8 3, .int .i64 z, eB b] := rfl
  obtain ⟨hpl, hat⟩ := pl_is z x.length (by omega) (by omega)
  generalize plG z x.length = p at *
  have hrs := fun w => erest_any z x.length p (by omega) hat w
  have d0 : ((x.length : Int) == 0) = false := by rw [beq_eq_false_iff_ne]; omega
  have d0' : (x.length == 0) = false := by rw [beq_eq_false_iff_ne]; omega
  have d0n : ¬ x.length = 0 := by omega
  have Hl := Lib.hid hl
  have Hp := Lib.hid hpl
  clear hl hpl hat h0
  have hb1 := Boxed.new w 22 (.slice (some ⟨bk, off, none⟩) x.length c)
  have hA1 := below_alloc w (.cells #[(.slice (some ⟨bk, off, none⟩) x.length c)] 22)
  have hr2 := Rowed.new (w.alloc (.cells #[(.slice (some ⟨bk, off, none⟩) x.length c)] 22)) 28 #[.int .u8 3, .int .i64 z, eB b]
  have hA2 := below_trans hA1 (below_alloc (w.alloc (.cells #[(.slice (some ⟨bk, off, none⟩) x.length c)] 22)) (.cells #[.int .u8 3, .int .i64 z, eB b] 28))
  rw [World.size_alloc] at hr2
  have hb1 := hb1.alloc (.cells #[.int .u8 3, .int .i64 z, eB b] 28)
  go_enter Tryz.func31, Tryz.ntmps31
  go_upto_region 1 with fail
  generalize (w.alloc (.cells #[(.slice (some ⟨bk, off, none⟩) x.length c)] 22)).alloc (.cells #[.int .u8 3, .int .i64 z, eB b] 28) = w0 at *
  have q1 := hb1.cell
  have q2 := hr2.cell 0
  have q3 := hr2.cell 1
  have lx := hb1.lt
  have lr := hr2.lt
  go_wp2_with fail
  go_at_call 49
  refine (hrs _).mono ?_
  rintro e w' ⟨rfl, rfl⟩
  have hr3 := Rowed.new w0 3 #[.int .i64 p]
  have hB3 := below_alloc w0 (.cells #[.int .i64 p] 3)
  have hr4 := Rowed.new (w0.alloc (.cells #[.int .i64 p] 3)) 78 #[.func (.func 50) #[] #[.pointer (some ⟨w.heap.size, 0, none⟩)], .func (.func 51) #[] #[.pointer (some ⟨w.heap.size, 0, none⟩), .pointer (some ⟨w0.heap.size, 0, none⟩)], .func (.func 53) #[] #[.pointer (some ⟨w.heap.size, 0, none⟩), .pointer (some ⟨w0.heap.size, 0, none⟩), .pointer (some ⟨w.heap.size + 1, 0, none⟩)], .func (.func 54) #[] #[.pointer (some ⟨w.heap.size, 0, none⟩), .pointer (some ⟨w0.heap.size, 0, none⟩), .pointer (some ⟨w.heap.size + 1, 0, none⟩)]]
  have hB4 := below_alloc (w0.alloc (.cells #[.int .i64 p] 3)) (.cells #[.func (.func 50) #[] #[.pointer (some ⟨w.heap.size, 0, none⟩)], .func (.func 51) #[] #[.pointer (some ⟨w.heap.size, 0, none⟩), .pointer (some ⟨w0.heap.size, 0, none⟩)], .func (.func 53) #[] #[.pointer (some ⟨w.heap.size, 0, none⟩), .pointer (some ⟨w0.heap.size, 0, none⟩), .pointer (some ⟨w.heap.size + 1, 0, none⟩)], .func (.func 54) #[] #[.pointer (some ⟨w.heap.size, 0, none⟩), .pointer (some ⟨w0.heap.size, 0, none⟩), .pointer (some ⟨w.heap.size + 1, 0, none⟩)]] 78)
  have hB34 := below_trans hB3 hB4
  have c1 := (hb1.alloc (.cells #[.int .i64 p] 3)).alloc (.cells #[.func (.func 50) #[] #[.pointer (some ⟨w.heap.size, 0, none⟩)], .func (.func 51) #[] #[.pointer (some ⟨w.heap.size, 0, none⟩), .pointer (some ⟨w0.heap.size, 0, none⟩)], .func (.func 53) #[] #[.pointer (some ⟨w.heap.size, 0, none⟩), .pointer (some ⟨w0.heap.size, 0, none⟩), .pointer (some ⟨w.heap.size + 1, 0, none⟩)], .func (.func 54) #[] #[.pointer (some ⟨w.heap.size, 0, none⟩), .pointer (some ⟨w0.heap.size, 0, none⟩), .pointer (some ⟨w.heap.size + 1, 0, none⟩)]] 78) |>.cell
  have c2 := (hr3.below hB4 hr3.lt).cell 0
  have c0 := (hr2.below hB34 lr).cell 0
  have c3 := (hr2.below hB34 lr).cell 2
  rw [World.size_alloc] at hr4
  have c7 := hr4.cell 3
  have hBB := below_trans hA2 hB34
  go_upto_region 8 with fail
  generalize (w0.alloc (.cells #[.int .i64 p] 3)).alloc (.cells #[.func (.func 50) #[] #[.pointer (some ⟨w.heap.size, 0, none⟩)], .func (.func 51) #[] #[.pointer (some ⟨w.heap.size, 0, none⟩), .pointer (some ⟨w0.heap.size, 0, none⟩)], .func (.func 53) #[] #[.pointer (some ⟨w.heap.size, 0, none⟩), .pointer (some ⟨w0.heap.size, 0, none⟩), .pointer (some ⟨w.heap.size + 1, 0, none⟩)], .func (.func 54) #[] #[.pointer (some ⟨w.heap.size, 0, none⟩), .pointer (some ⟨w0.heap.size, 0, none⟩), .pointer (some ⟨w.heap.size + 1, 0, none⟩)]] 78) = w6 at *
  have hCC := deed_swap x b bk off c w.heap.size w0.heap.size (w.heap.size + 1) p Hl.out Hp.out w6 c1 c2 c3 (hS.next hBB)
  clear hrs q1 q2 q3 hr2 hr3 hr4 hB3 hB4 hB34 hb1 hA1 hA2
  go_wp2_with fail
  go_at_call 54
  refine hCC.mono ?_
  rintro e w7 ⟨u, rfl, hu, hB7⟩
  go_wp2_with fail
  go_ret
  exact ⟨u, rfl, own_mono8 hu hBB.size, below_trans hBB hB7⟩
set_option maxRecDepth 100000 in
set_option maxHeartbeats 4000000 in
theorem Apply_nek (x : List UInt8) (k : UInt8) (hk : 4 ≤ k.toNat) (z : Int) (b : UInt8) (bk off c : Nat) (h0 : 0 < x.length) (hl : x.length ≤ 400) (w : World) (hS : Sl eB w.heap.size w (.slice (some ⟨bk, off, none⟩) x.length c) x) :
    Calls Tryz.prog 31 #[.slice (some ⟨bk, off, none⟩) x.length c, .agg #[.int .u8 (k.toNat : Int), .int .i64 z, eB b]] w fun e w' => ∃ u, e = .returned u ∧ Own8 w.heap.size w' u x ∧ Below w.heap.size w w' := by
  have hmf : ∀ (fn : Fn) (first cap : Array Value) (w : World), (Instr.makeFunc fn first cap).run Tryz.prog w = .ok (.func fn first cap) w := fun _ _ _ _ => rfl
  have hcl : (Value.agg #[.int .u8 (k.toNat : Int), .int .i64 z, eB b]).cells = #[.int .u8 (k.toNat : Int), .int .i64 z, eB b] := rfl
  obtain ⟨hpl, hat⟩ := pl_is z x.length (by omega) (by omega)
  generalize plG z x.length = p at *
  have hrs := fun w => erest_any z x.length p (by omega) hat w
  have d0 : ((x.length : Int) == 0) = false := by rw [beq_eq_false_iff_ne]; omega
  have d0' : (x.length == 0) = false := by rw [beq_eq_false_iff_ne]; omega
  have d0n : ¬ x.length = 0 := by omega
  have g1 : ((k.toNat : Int) == 2) = false := by rw [beq_eq_false_iff_ne]; omega
  have g2 : decide ((4 : Int) ≤ (k.toNat : Int)) = true := decide_eq_true (by omega)
  have g3 : (4 : Int) ≤ (k.toNat : Int) := by omega
  have g4 : wrap64 (k.toNat : Int) = (k.toNat : Int) := IntWalk.wrap64_in _ (by have := k.toNat_lt; omega)
  have Hl := Lib.hid hl
  have Hp := Lib.hid hpl
  clear hl hpl hat h0
  have hb1 := Boxed.new w 22 (.slice (some ⟨bk, off, none⟩) x.length c)
  have hA1 := below_alloc w (.cells #[(.slice (some ⟨bk, off, none⟩) x.length c)] 22)
  have hr2 := Rowed.new (w.alloc (.cells #[(.slice (some ⟨bk, off, none⟩) x.length c)] 22)) 28 #[.int .u8 (k.toNat : Int), .int .i64 z, eB b]
  have hA2 := below_trans hA1 (below_alloc (w.alloc (.cells #[(.slice (some ⟨bk, off, none⟩) x.length c)] 22)) (.cells #[.int .u8 (k.toNat : Int), .int .i64 z, eB b] 28))
  rw [World.size_alloc] at hr2
  have hb1 := hb1.alloc (.cells #[.int .u8 (k.toNat : Int), .int .i64 z, eB b] 28)
  go_enter Tryz.func31, Tryz.ntmps31
  go_upto_region 1 with fail
  generalize (w.alloc (.cells #[(.slice (some ⟨bk, off, none⟩) x.length c)] 22)).alloc (.cells #[.int .u8 (k.toNat : Int), .int .i64 z, eB b] 28) = w0 at *
  have q1 := hb1.cell
  have q2 := hr2.cell 0
  have q3 := hr2.cell 1
  have lx := hb1.lt
  have lr := hr2.lt
  go_wp2_with fail
  go_at_call 49
  refine (hrs _).mono ?_
  rintro e w' ⟨rfl, rfl⟩
  have hr3 := Rowed.new w0 3 #[.int .i64 p]
  have hB3 := below_alloc w0 (.cells #[.int .i64 p] 3)
  have hr4 := Rowed.new (w0.alloc (.cells #[.int .i64 p] 3)) 78 #[.func (.func 50) #[] #[.pointer (some ⟨w.heap.size, 0, none⟩)], .func (.func 51) #[] #[.pointer (some ⟨w.heap.size, 0, none⟩), .pointer (some ⟨w0.heap.size, 0, none⟩)], .func (.func 53) #[] #[.pointer (some ⟨w.heap.size, 0, none⟩), .pointer (some ⟨w0.heap.size, 0, none⟩), .pointer (some ⟨w.heap.size + 1, 0, none⟩)], .func (.func 54) #[] #[.pointer (some ⟨w.heap.size, 0, none⟩), .pointer (some ⟨w0.heap.size, 0, none⟩), .pointer (some ⟨w.heap.size + 1, 0, none⟩)]]
  have hB4 := below_alloc (w0.alloc (.cells #[.int .i64 p] 3)) (.cells #[.func (.func 50) #[] #[.pointer (some ⟨w.heap.size, 0, none⟩)], .func (.func 51) #[] #[.pointer (some ⟨w.heap.size, 0, none⟩), .pointer (some ⟨w0.heap.size, 0, none⟩)], .func (.func 53) #[] #[.pointer (some ⟨w.heap.size, 0, none⟩), .pointer (some ⟨w0.heap.size, 0, none⟩), .pointer (some ⟨w.heap.size + 1, 0, none⟩)], .func (.func 54) #[] #[.pointer (some ⟨w.heap.size, 0, none⟩), .pointer (some ⟨w0.heap.size, 0, none⟩), .pointer (some ⟨w.heap.size + 1, 0, none⟩)]] 78)
  have hB34 := below_trans hB3 hB4
  have c1 := (hb1.alloc (.cells #[.int .i64 p] 3)).alloc (.cells #[.func (.func 50) #[] #[.pointer (some ⟨w.heap.size, 0, none⟩)], .func (.func 51) #[] #[.pointer (some ⟨w.heap.size, 0, none⟩), .pointer (some ⟨w0.heap.size, 0, none⟩)], .func (.func 53) #[] #[.pointer (some ⟨w.heap.size, 0, none⟩), .pointer (some ⟨w0.heap.size, 0, none⟩), .pointer (some ⟨w.heap.size + 1, 0, none⟩)], .func (.func 54) #[] #[.pointer (some ⟨w.heap.size, 0, none⟩), .pointer (some ⟨w0.heap.size, 0, none⟩), .pointer (some ⟨w.heap.size + 1, 0, none⟩)]] 78) |>.cell
  have c2 := (hr3.below hB4 hr3.lt).cell 0
  have c0 := (hr2.below hB34 lr).cell 0
  have c3 := (hr2.below hB34 lr).cell 2
  rw [World.size_alloc] at hr4
  have c7 := hr4.cell 0
  have hBB := below_trans hA2 hB34
  go_upto_region 8 with fail
  generalize (w0.alloc (.cells #[.int .i64 p] 3)).alloc (.cells #[.func (.func 50) #[] #[.pointer (some ⟨w.heap.size, 0, none⟩)], .func (.func 51) #[] #[.pointer (some ⟨w.heap.size, 0, none⟩), .pointer (some ⟨w0.heap.size, 0, none⟩)], .func (.func 53) #[] #[.pointer (some ⟨w.heap.size, 0, none⟩), .pointer (some ⟨w0.heap.size, 0, none⟩), .pointer (some ⟨w.heap.size + 1, 0, none⟩)], .func (.func 54) #[] #[.pointer (some ⟨w.heap.size, 0, none⟩), .pointer (some ⟨w0.heap.size, 0, none⟩), .pointer (some ⟨w.heap.size + 1, 0, none⟩)]] 78) = w6 at *
  have hCC := deed_none x _ w.heap.size (by have := Hl.out; omega) w6 c1 (hS.next hBB)
  clear hrs q1 q2 q3 hr2 hr3 hr4 hB3 hB4 hB34 hb1 hA1 hA2
  go_wp2_with fail
  go_at_call 50
  refine hCC.mono ?_
  rintro e w7 ⟨u, rfl, hu, hB7⟩
  go_wp2_with fail
  go_ret
  exact ⟨u, rfl, own_mono8 hu hBB.size, below_trans hBB hB7⟩
end Go.Proofs.YtkibigbcdlilkaaGreatDoor.Ed
namespace Go.Proofs.YtkibigbcdlilkaaGreatDoor.Ed
open Go.RowKit Go.Shelf
attribute [local go_sem] Oper.semAt_some run_store_func
set_option maxRecDepth 100000 in
set_option maxHeartbeats 4000000 in
theorem deed_moreE (y : UInt8) (A : Option Addr) (c : Nat) (gx ga ge : Nat) (w : World) (hgx : w.cell? ⟨gx, 0, none⟩ = some (.slice A 0 c)) (hga : w.cell? ⟨ga, 0, none⟩ = some (.int .i64 0)) (hge : w.cell? ⟨ge, 2, none⟩ = some (eB y)) :
    Calls Tryz.prog 53 #[.pointer (some ⟨gx, 0, none⟩), .pointer (some ⟨ga, 0, none⟩), .pointer (some ⟨ge, 0, none⟩)] w fun e w' => ∃ u, e = .returned u ∧ Own8 w.heap.size w' u [y] ∧ Below w.heap.size w w' := by
  have lx := World.block_lt_of_cell? w _ hgx
  have la := World.block_lt_of_cell? w _ hga
  have le := World.block_lt_of_cell? w _ hge
  have hE : ∀ (B : Nat) (W : World) (A' : Option Addr) (c' : Nat), Sl eB B W (.slice A' 0 c') [] := fun B W A' c' => ⟨A', c', rfl, Nat.zero_le _, fun h => absurd h (by simp)⟩
  have hb0 : Below w.heap.size w w.drew := ⟨rfl, rfl, rfl, Nat.le_refl _, fun _ _ => rfl⟩
  have hb1 := below_trans hb0 (below_alloc w.drew (.cells #[eB y] 5))
  have hbR : ∀ w' g, (fun w' u => Own8 w.heap.size w' u [y] ∧ Below w.heap.size w w') w' g → Below w.heap.size w w' := fun _ _ h => h.2
  have n0 : (0 : Int) ≤ (c : Int) := by omega
  cases A with
  | none =>
    have hb2 := below_trans hb1 (below_alloc (w.drew.alloc (.cells #[eB y] 5)) (.cells #[.slice none 0 c, .slice (some ⟨w.heap.size, 0, none⟩) 1 1, (.slice none 0 c)] 22))
    have hrw : Rowed ((w.drew.alloc (.cells #[eB y] 5)).alloc (.cells #[.slice none 0 c, .slice (some ⟨w.heap.size, 0, none⟩) 1 1, (.slice none 0 c)] 22)) (w.heap.size + 1) 22 #[.slice none 0 c, .slice (some ⟨w.heap.size, 0, none⟩) 1 1, (.slice none 0 c)] := by
     have h := Rowed.new (w.drew.alloc (.cells #[eB y] 5)) 22 #[.slice none 0 c, .slice (some ⟨w.heap.size, 0, none⟩) 1 1, (.slice none 0 c)]
     rw [World.size_alloc] at h
     exact h
    have hC := Concat3_any (w.heap.size + 1) _ _ _ _ _ _ [] [y] [] (by simp) (by simp) (by simp) ((w.drew.alloc (.cells #[eB y] 5)).alloc (.cells #[.slice none 0 c, .slice (some ⟨w.heap.size, 0, none⟩) 1 1, (.slice none 0 c)] 22)) (hrw.cell 0) (hrw.cell 1) (hrw.cell 2) (hE _ _ _ _) ((one_sl1 (w.drew.alloc (.cells #[eB y] 5)) w.heap.size y ((Rowed.new w.drew 5 #[eB y]).cell 0)).next (below_alloc (w.drew.alloc (.cells #[eB y] 5)) _)) (hE _ _ _ _) (by simp)
    rw [List.nil_append, List.append_nil] at hC
    go_enter Tryz.func53, Tryz.ntmps53
    go_upto_region 1 with fail
    refine wp_region_ghost (BlkS 5 9 10 11 w.drew (w.drew.alloc (.cells #[eB y] 5)) ((w.drew.alloc (.cells #[eB y] 5)).alloc (.cells #[.slice none 0 c, .slice (some ⟨w.heap.size, 0, none⟩) 1 1, (.slice none 0 c)] 22)) (fun w' u => Own8 w.heap.size w' u [y] ∧ Below w.heap.size w w')) (fun g => [(4, .slice none 0 c), (5, .int .i64 0), (6, .slice none 0 c), (7, .pointer (some ⟨ge, 2, none⟩)), (8, .int .u8 (y.toNat : Int)), (9, .slice (some ⟨w.heap.size, 0, none⟩) 1 1), (10, .slice none 0 c), (11, .int .i64 0), (12, (.slice none 0 c)), (13, .slice (some ⟨w.heap.size + 1, 0, none⟩) 3 3), (14, g.1), (3, g.2)]) (undef, undef)
     (by kernel_rfl) (by kernel_rfl) (by kernel_rfl) (by kernel_rfl) (fun _ => by kernel_rfl) ?startA ?okA ?finA
    case startA => exact fun D hD => BlkS.start (hD _ (by decide)) (hD _ (by decide)) (hD _ (by decide)) (hD _ (by decide))
    case okA =>
     intro T hT'
     simp only [putAll, Act.put, List.setIfInBounds_toArray, List.set_cons_zero, List.set_cons_succ] at hT'
     simp only [ghAll]
     refine ⟨?_, ?_, ?_, ?_, ?_, ?_, ?_, ?_, ?_, ?_, ?_, ?_, trivial⟩
     · refine gb_op rfl fun D g w' hS => ?_
       have hBw := hS.below hb0 hb1 hb2 hbR
       have q1 := (hBw.cell (p := ⟨gx, 0, none⟩) lx).trans hgx
       have q2 := (hBw.cell (p := ⟨ga, 0, none⟩) la).trans hga
       have q3 := (hBw.cell (p := ⟨ge, 2, none⟩) le).trans hge
       rw [hT' g]
       clear hT' hS hBw
       go_simp
     · refine gb_op rfl fun D g w' hS => ?_
       have hBw := hS.below hb0 hb1 hb2 hbR
       have q1 := (hBw.cell (p := ⟨gx, 0, none⟩) lx).trans hgx
       have q2 := (hBw.cell (p := ⟨ga, 0, none⟩) la).trans hga
       have q3 := (hBw.cell (p := ⟨ge, 2, none⟩) le).trans hge
       rw [hT' g]
       clear hT' hS hBw
       go_simp
     · refine gb_op rfl fun D g w' hS => ?_
       have hBw := hS.below hb0 hb1 hb2 hbR
       have q1 := (hBw.cell (p := ⟨gx, 0, none⟩) lx).trans hgx
       have q2 := (hBw.cell (p := ⟨ga, 0, none⟩) la).trans hga
       have q3 := (hBw.cell (p := ⟨ge, 2, none⟩) le).trans hge
       rw [hT' g]
       clear hT' hS hBw
       go_simp
     · refine gb_op rfl fun D g w' hS => ?_
       have hBw := hS.below hb0 hb1 hb2 hbR
       have q1 := (hBw.cell (p := ⟨gx, 0, none⟩) lx).trans hgx
       have q2 := (hBw.cell (p := ⟨ga, 0, none⟩) la).trans hga
       have q3 := (hBw.cell (p := ⟨ge, 2, none⟩) le).trans hge
       rw [hT' g]
       clear hT' hS hBw
       go_simp
     · refine gb_op rfl fun D g w' hS => ?_
       have hBw := hS.below hb0 hb1 hb2 hbR
       have q1 := (hBw.cell (p := ⟨gx, 0, none⟩) lx).trans hgx
       have q2 := (hBw.cell (p := ⟨ga, 0, none⟩) la).trans hga
       have q3 := (hBw.cell (p := ⟨ge, 2, none⟩) le).trans hge
       rw [hT' g]
       clear hT' hS hBw
       go_simp
     · refine gb_first rfl (by decide) (by decide) (by decide) (fun g => by rw [hT' g]; rfl) (fun g => ?_)
       rw [hT' g]
       clear hT'
       unfold Oper.wp
       go_simp
     · refine gb_op rfl fun D g w' hS => ?_
       have hBw := hS.below hb0 hb1 hb2 hbR
       have q1 := (hBw.cell (p := ⟨gx, 0, none⟩) lx).trans hgx
       have q2 := (hBw.cell (p := ⟨ga, 0, none⟩) la).trans hga
       have q3 := (hBw.cell (p := ⟨ge, 2, none⟩) le).trans hge
       rw [hT' g]
       clear hT' hS hBw
       go_simp
     · refine gb_op rfl fun D g w' hS => ?_
       have hBw := hS.below hb0 hb1 hb2 hbR
       have q1 := (hBw.cell (p := ⟨gx, 0, none⟩) lx).trans hgx
       have q2 := (hBw.cell (p := ⟨ga, 0, none⟩) la).trans hga
       have q3 := (hBw.cell (p := ⟨ge, 2, none⟩) le).trans hge
       rw [hT' g]
       clear hT' hS hBw
       go_simp
     · refine gb_op rfl fun D g w' hS => ?_
       have hBw := hS.below hb0 hb1 hb2 hbR
       have q1 := (hBw.cell (p := ⟨gx, 0, none⟩) lx).trans hgx
       have q2 := (hBw.cell (p := ⟨ga, 0, none⟩) la).trans hga
       have q3 := (hBw.cell (p := ⟨ge, 2, none⟩) le).trans hge
       rw [hT' g]
       clear hT' hS hBw
       go_simp
     · refine gb_second rfl (by decide) (by decide) (by decide) (fun g => by rw [hT' g]; rfl) (by kernel_rfl) (fun g => ?_)
       rw [hT' g]
       clear hT'
       unfold Oper.wp
       go_simp
     · refine gb_call rfl rfl (by decide) (by decide) (by decide) rfl (fun g v => by rw [hT', hT']; rfl) (fun g => by rw [hT' g]; rfl) (by kernel_rfl) (fun g => ?_)
       rw [hT' g]
       clear hT'
       unfold Oper.wp
       go_simp
       refine hC.mono ?_
       rintro e w3 ⟨v, rfl, hv, hB⟩
       exact ⟨own_mono8 hv hb2.size, below_trans hb2 hB⟩
     · refine gb_last rfl rfl (by decide) (by decide) (by decide) rfl (fun g => by rw [hT', hT']; rfl) (fun g => by rw [hT' g]; rfl) (by kernel_rfl) (fun g w' => ?_)
       rw [hT' g]
       clear hT'
       unfold Oper.wp
       go_simp
    case finA =>
     intro T hT' D g WF hall hS
     have hTg := hT' g
     simp only [putAll, Act.put, List.setIfInBounds_toArray, List.set_cons_zero, List.set_cons_succ] at hTg
     obtain ⟨ho, hB⟩ := hS.2.2.2.1 (hall 10 (by decide))
     have hg := hS.1.2 (hall 11 (by decide))
     obtain ⟨g, gg⟩ := g
     simp only at hg
     subst hg
     rw [hTg]
     clear hT' hTg hall hS
     go_wp2_with fail
     go_ret
     exact ⟨_, rfl, ho, hB⟩
  | some ad =>
    by_cases hc : c = 0
    · subst hc
      have hb2 := below_trans hb1 (below_alloc (w.drew.alloc (.cells #[eB y] 5)) (.cells #[.slice (some ad) 0 0, .slice (some ⟨w.heap.size, 0, none⟩) 1 1, (.slice (some ad) 0 0)] 22))
      have hrw : Rowed ((w.drew.alloc (.cells #[eB y] 5)).alloc (.cells #[.slice (some ad) 0 0, .slice (some ⟨w.heap.size, 0, none⟩) 1 1, (.slice (some ad) 0 0)] 22)) (w.heap.size + 1) 22 #[.slice (some ad) 0 0, .slice (some ⟨w.heap.size, 0, none⟩) 1 1, (.slice (some ad) 0 0)] := by
       have h := Rowed.new (w.drew.alloc (.cells #[eB y] 5)) 22 #[.slice (some ad) 0 0, .slice (some ⟨w.heap.size, 0, none⟩) 1 1, (.slice (some ad) 0 0)]
       rw [World.size_alloc] at h
       exact h
      have hC := Concat3_any (w.heap.size + 1) _ _ _ _ _ _ [] [y] [] (by simp) (by simp) (by simp) ((w.drew.alloc (.cells #[eB y] 5)).alloc (.cells #[.slice (some ad) 0 0, .slice (some ⟨w.heap.size, 0, none⟩) 1 1, (.slice (some ad) 0 0)] 22)) (hrw.cell 0) (hrw.cell 1) (hrw.cell 2) (hE _ _ _ _) ((one_sl1 (w.drew.alloc (.cells #[eB y] 5)) w.heap.size y ((Rowed.new w.drew 5 #[eB y]).cell 0)).next (below_alloc (w.drew.alloc (.cells #[eB y] 5)) _)) (hE _ _ _ _) (by simp)
      rw [List.nil_append, List.append_nil] at hC
      go_enter Tryz.func53, Tryz.ntmps53
      go_upto_region 1 with fail
      refine wp_region_ghost (BlkS 5 9 10 11 w.drew (w.drew.alloc (.cells #[eB y] 5)) ((w.drew.alloc (.cells #[eB y] 5)).alloc (.cells #[.slice (some ad) 0 0, .slice (some ⟨w.heap.size, 0, none⟩) 1 1, (.slice (some ad) 0 0)] 22)) (fun w' u => Own8 w.heap.size w' u [y] ∧ Below w.heap.size w w')) (fun g => [(4, .slice (some ad) 0 0), (5, .int .i64 0), (6, .slice (some ad) 0 0), (7, .pointer (some ⟨ge, 2, none⟩)), (8, .int .u8 (y.toNat : Int)), (9, .slice (some ⟨w.heap.size, 0, none⟩) 1 1), (10, .slice (some ad) 0 0), (11, .int .i64 0), (12, (.slice (some ad) 0 0)), (13, .slice (some ⟨w.heap.size + 1, 0, none⟩) 3 3), (14, g.1), (3, g.2)]) (undef, undef)
       (by kernel_rfl) (by kernel_rfl) (by kernel_rfl) (by kernel_rfl) (fun _ => by kernel_rfl) ?startA ?okA ?finA
      case startA => exact fun D hD => BlkS.start (hD _ (by decide)) (hD _ (by decide)) (hD _ (by decide)) (hD _ (by decide))
      case okA =>
       intro T hT'
       simp only [putAll, Act.put, List.setIfInBounds_toArray, List.set_cons_zero, List.set_cons_succ] at hT'
       simp only [ghAll]
       refine ⟨?_, ?_, ?_, ?_, ?_, ?_, ?_, ?_, ?_, ?_, ?_, ?_, trivial⟩
       · refine gb_op rfl fun D g w' hS => ?_
         have hBw := hS.below hb0 hb1 hb2 hbR
         have q1 := (hBw.cell (p := ⟨gx, 0, none⟩) lx).trans hgx
         have q2 := (hBw.cell (p := ⟨ga, 0, none⟩) la).trans hga
         have q3 := (hBw.cell (p := ⟨ge, 2, none⟩) le).trans hge
         rw [hT' g]
         clear hT' hS hBw
         go_simp
       · refine gb_op rfl fun D g w' hS => ?_
         have hBw := hS.below hb0 hb1 hb2 hbR
         have q1 := (hBw.cell (p := ⟨gx, 0, none⟩) lx).trans hgx
         have q2 := (hBw.cell (p := ⟨ga, 0, none⟩) la).trans hga
         have q3 := (hBw.cell (p := ⟨ge, 2, none⟩) le).trans hge
         rw [hT' g]
         clear hT' hS hBw
         go_simp
       · refine gb_op rfl fun D g w' hS => ?_
         have hBw := hS.below hb0 hb1 hb2 hbR
         have q1 := (hBw.cell (p := ⟨gx, 0, none⟩) lx).trans hgx
         have q2 := (hBw.cell (p := ⟨ga, 0, none⟩) la).trans hga
         have q3 := (hBw.cell (p := ⟨ge, 2, none⟩) le).trans hge
         rw [hT' g]
         clear hT' hS hBw
         go_simp
       · refine gb_op rfl fun D g w' hS => ?_
         have hBw := hS.below hb0 hb1 hb2 hbR
         have q1 := (hBw.cell (p := ⟨gx, 0, none⟩) lx).trans hgx
         have q2 := (hBw.cell (p := ⟨ga, 0, none⟩) la).trans hga
         have q3 := (hBw.cell (p := ⟨ge, 2, none⟩) le).trans hge
         rw [hT' g]
         clear hT' hS hBw
         go_simp
       · refine gb_op rfl fun D g w' hS => ?_
         have hBw := hS.below hb0 hb1 hb2 hbR
         have q1 := (hBw.cell (p := ⟨gx, 0, none⟩) lx).trans hgx
         have q2 := (hBw.cell (p := ⟨ga, 0, none⟩) la).trans hga
         have q3 := (hBw.cell (p := ⟨ge, 2, none⟩) le).trans hge
         rw [hT' g]
         clear hT' hS hBw
         go_simp
       · refine gb_first rfl (by decide) (by decide) (by decide) (fun g => by rw [hT' g]; rfl) (fun g => ?_)
         rw [hT' g]
         clear hT'
         unfold Oper.wp
         go_simp
       · refine gb_op rfl fun D g w' hS => ?_
         have hBw := hS.below hb0 hb1 hb2 hbR
         have q1 := (hBw.cell (p := ⟨gx, 0, none⟩) lx).trans hgx
         have q2 := (hBw.cell (p := ⟨ga, 0, none⟩) la).trans hga
         have q3 := (hBw.cell (p := ⟨ge, 2, none⟩) le).trans hge
         rw [hT' g]
         clear hT' hS hBw
         go_simp
       · refine gb_op rfl fun D g w' hS => ?_
         have hBw := hS.below hb0 hb1 hb2 hbR
         have q1 := (hBw.cell (p := ⟨gx, 0, none⟩) lx).trans hgx
         have q2 := (hBw.cell (p := ⟨ga, 0, none⟩) la).trans hga
         have q3 := (hBw.cell (p := ⟨ge, 2, none⟩) le).trans hge
         rw [hT' g]
         clear hT' hS hBw
         go_simp
       · refine gb_op rfl fun D g w' hS => ?_
         have hBw := hS.below hb0 hb1 hb2 hbR
         have q1 := (hBw.cell (p := ⟨gx, 0, none⟩) lx).trans hgx
         have q2 := (hBw.cell (p := ⟨ga, 0, none⟩) la).trans hga
         have q3 := (hBw.cell (p := ⟨ge, 2, none⟩) le).trans hge
         rw [hT' g]
         clear hT' hS hBw
         go_simp
       · refine gb_second rfl (by decide) (by decide) (by decide) (fun g => by rw [hT' g]; rfl) (by kernel_rfl) (fun g => ?_)
         rw [hT' g]
         clear hT'
         unfold Oper.wp
         go_simp
       · refine gb_call rfl rfl (by decide) (by decide) (by decide) rfl (fun g v => by rw [hT', hT']; rfl) (fun g => by rw [hT' g]; rfl) (by kernel_rfl) (fun g => ?_)
         rw [hT' g]
         clear hT'
         unfold Oper.wp
         go_simp
         refine hC.mono ?_
         rintro e w3 ⟨v, rfl, hv, hB⟩
         exact ⟨own_mono8 hv hb2.size, below_trans hb2 hB⟩
       · refine gb_last rfl rfl (by decide) (by decide) (by decide) rfl (fun g => by rw [hT', hT']; rfl) (fun g => by rw [hT' g]; rfl) (by kernel_rfl) (fun g w' => ?_)
         rw [hT' g]
         clear hT'
         unfold Oper.wp
         go_simp
      case finA =>
       intro T hT' D g WF hall hS
       have hTg := hT' g
       simp only [putAll, Act.put, List.setIfInBounds_toArray, List.set_cons_zero, List.set_cons_succ] at hTg
       obtain ⟨ho, hB⟩ := hS.2.2.2.1 (hall 10 (by decide))
       have hg := hS.1.2 (hall 11 (by decide))
       obtain ⟨g, gg⟩ := g
       simp only at hg
       subst hg
       rw [hTg]
       clear hT' hTg hall hS
       go_wp2_with fail
       go_ret
       exact ⟨_, rfl, ho, hB⟩
    · have hc0 : ¬ (0 : Nat) = c := fun e => hc e.symm
      have hb2 := below_trans hb1 (below_alloc (w.drew.alloc (.cells #[eB y] 5)) (.cells #[.slice (some ad) 0 c, .slice (some ⟨w.heap.size, 0, none⟩) 1 1, (.slice (some (ad.add 0)) 0 c)] 22))
      have hrw : Rowed ((w.drew.alloc (.cells #[eB y] 5)).alloc (.cells #[.slice (some ad) 0 c, .slice (some ⟨w.heap.size, 0, none⟩) 1 1, (.slice (some (ad.add 0)) 0 c)] 22)) (w.heap.size + 1) 22 #[.slice (some ad) 0 c, .slice (some ⟨w.heap.size, 0, none⟩) 1 1, (.slice (some (ad.add 0)) 0 c)] := by
       have h := Rowed.new (w.drew.alloc (.cells #[eB y] 5)) 22 #[.slice (some ad) 0 c, .slice (some ⟨w.heap.size, 0, none⟩) 1 1, (.slice (some (ad.add 0)) 0 c)]
       rw [World.size_alloc] at h
       exact h
      have hC := Concat3_any (w.heap.size + 1) _ _ _ _ _ _ [] [y] [] (by simp) (by simp) (by simp) ((w.drew.alloc (.cells #[eB y] 5)).alloc (.cells #[.slice (some ad) 0 c, .slice (some ⟨w.heap.size, 0, none⟩) 1 1, (.slice (some (ad.add 0)) 0 c)] 22)) (hrw.cell 0) (hrw.cell 1) (hrw.cell 2) (hE _ _ _ _) ((one_sl1 (w.drew.alloc (.cells #[eB y] 5)) w.heap.size y ((Rowed.new w.drew 5 #[eB y]).cell 0)).next (below_alloc (w.drew.alloc (.cells #[eB y] 5)) _)) (hE _ _ _ _) (by simp)
      rw [List.nil_append, List.append_nil] at hC
      go_enter Tryz.func53, Tryz.ntmps53
      go_upto_region 1 with fail
      refine wp_region_ghost (BlkS 5 9 10 11 w.drew (w.drew.alloc (.cells #[eB y] 5)) ((w.drew.alloc (.cells #[eB y] 5)).alloc (.cells #[.slice (some ad) 0 c, .slice (some ⟨w.heap.size, 0, none⟩) 1 1, (.slice (some (ad.add 0)) 0 c)] 22)) (fun w' u => Own8 w.heap.size w' u [y] ∧ Below w.heap.size w w')) (fun g => [(4, .slice (some ad) 0 c), (5, .int .i64 0), (6, .slice (some ad) 0 c), (7, .pointer (some ⟨ge, 2, none⟩)), (8, .int .u8 (y.toNat : Int)), (9, .slice (some ⟨w.heap.size, 0, none⟩) 1 1), (10, .slice (some ad) 0 c), (11, .int .i64 0), (12, (.slice (some (ad.add 0)) 0 c)), (13, .slice (some ⟨w.heap.size + 1, 0, none⟩) 3 3), (14, g.1), (3, g.2)]) (undef, undef)
       (by kernel_rfl) (by kernel_rfl) (by kernel_rfl) (by kernel_rfl) (fun _ => by kernel_rfl) ?startA ?okA ?finA
      case startA => exact fun D hD => BlkS.start (hD _ (by decide)) (hD _ (by decide)) (hD _ (by decide)) (hD _ (by decide))
      case okA =>
       intro T hT'
       simp only [putAll, Act.put, List.setIfInBounds_toArray, List.set_cons_zero, List.set_cons_succ] at hT'
       simp only [ghAll]
       refine ⟨?_, ?_, ?_, ?_, ?_, ?_, ?_, ?_, ?_, ?_, ?_, ?_, trivial⟩
       · refine gb_op rfl fun D g w' hS => ?_
         have hBw := hS.below hb0 hb1 hb2 hbR
         have q1 := (hBw.cell (p := ⟨gx, 0, none⟩) lx).trans hgx
         have q2 := (hBw.cell (p := ⟨ga, 0, none⟩) la).trans hga
         have q3 := (hBw.cell (p := ⟨ge, 2, none⟩) le).trans hge
         rw [hT' g]
         clear hT' hS hBw
         go_simp
       · refine gb_op rfl fun D g w' hS => ?_
         have hBw := hS.below hb0 hb1 hb2 hbR
         have q1 := (hBw.cell (p := ⟨gx, 0, none⟩) lx).trans hgx
         have q2 := (hBw.cell (p := ⟨ga, 0, none⟩) la).trans hga
         have q3 := (hBw.cell (p := ⟨ge, 2, none⟩) le).trans hge
         rw [hT' g]
         clear hT' hS hBw
         go_simp
       · refine gb_op rfl fun D g w' hS => ?_
         have hBw := hS.below hb0 hb1 hb2 hbR
         have q1 := (hBw.cell (p := ⟨gx, 0, none⟩) lx).trans hgx
         have q2 := (hBw.cell (p := ⟨ga, 0, none⟩) la).trans hga
         have q3 := (hBw.cell (p := ⟨ge, 2, none⟩) le).trans hge
         rw [hT' g]
         clear hT' hS hBw
         go_simp
       · refine gb_op rfl fun D g w' hS => ?_
         have hBw := hS.below hb0 hb1 hb2 hbR
         have q1 := (hBw.cell (p := ⟨gx, 0, none⟩) lx).trans hgx
         have q2 := (hBw.cell (p := ⟨ga, 0, none⟩) la).trans hga
         have q3 := (hBw.cell (p := ⟨ge, 2, none⟩) le).trans hge
         rw [hT' g]
         clear hT' hS hBw
         go_simp
       · refine gb_op rfl fun D g w' hS => ?_
         have hBw := hS.below hb0 hb1 hb2 hbR
         have q1 := (hBw.cell (p := ⟨gx, 0, none⟩) lx).trans hgx
         have q2 := (hBw.cell (p := ⟨ga, 0, none⟩) la).trans hga
         have q3 := (hBw.cell (p := ⟨ge, 2, none⟩) le).trans hge
         rw [hT' g]
         clear hT' hS hBw
         go_simp
       · refine gb_first rfl (by decide) (by decide) (by decide) (fun g => by rw [hT' g]; rfl) (fun g => ?_)
         rw [hT' g]
         clear hT'
         unfold Oper.wp
         go_simp
       · refine gb_op rfl fun D g w' hS => ?_
         have hBw := hS.below hb0 hb1 hb2 hbR
         have q1 := (hBw.cell (p := ⟨gx, 0, none⟩) lx).trans hgx
         have q2 := (hBw.cell (p := ⟨ga, 0, none⟩) la).trans hga
         have q3 := (hBw.cell (p := ⟨ge, 2, none⟩) le).trans hge
         rw [hT' g]
         clear hT' hS hBw
         go_simp
       · refine gb_op rfl fun D g w' hS => ?_
         have hBw := hS.below hb0 hb1 hb2 hbR
         have q1 := (hBw.cell (p := ⟨gx, 0, none⟩) lx).trans hgx
         have q2 := (hBw.cell (p := ⟨ga, 0, none⟩) la).trans hga
         have q3 := (hBw.cell (p := ⟨ge, 2, none⟩) le).trans hge
         rw [hT' g]
         clear hT' hS hBw
         go_simp
       · refine gb_op rfl fun D g w' hS => ?_
         have hBw := hS.below hb0 hb1 hb2 hbR
         have q1 := (hBw.cell (p := ⟨gx, 0, none⟩) lx).trans hgx
         have q2 := (hBw.cell (p := ⟨ga, 0, none⟩) la).trans hga
         have q3 := (hBw.cell (p := ⟨ge, 2, none⟩) le).trans hge
         rw [hT' g]
         clear hT' hS hBw
         go_simp
       · refine gb_second rfl (by decide) (by decide) (by decide) (fun g => by rw [hT' g]; rfl) (by kernel_rfl) (fun g => ?_)
         rw [hT' g]
         clear hT'
         unfold Oper.wp
         go_simp
       · refine gb_call rfl rfl (by decide) (by decide) (by decide) rfl (fun g v => by rw [hT', hT']; rfl) (fun g => by rw [hT' g]; rfl) (by kernel_rfl) (fun g => ?_)
         rw [hT' g]
         clear hT'
         unfold Oper.wp
         go_simp
         refine hC.mono ?_
         rintro e w3 ⟨v, rfl, hv, hB⟩
         exact ⟨own_mono8 hv hb2.size, below_trans hb2 hB⟩
       · refine gb_last rfl rfl (by decide) (by decide) (by decide) rfl (fun g => by rw [hT', hT']; rfl) (fun g => by rw [hT' g]; rfl) (by kernel_rfl) (fun g w' => ?_)
         rw [hT' g]
         clear hT'
         unfold Oper.wp
         go_simp
      case finA =>
       intro T hT' D g WF hall hS
       have hTg := hT' g
       simp only [putAll, Act.put, List.setIfInBounds_toArray, List.set_cons_zero, List.set_cons_succ] at hTg
       obtain ⟨ho, hB⟩ := hS.2.2.2.1 (hall 10 (by decide))
       have hg := hS.1.2 (hall 11 (by decide))
       obtain ⟨g, gg⟩ := g
       simp only at hg
       subst hg
       rw [hTg]
       clear hT' hTg hall hS
       go_wp2_with fail
       go_ret
       exact ⟨_, rfl, ho, hB⟩
end Go.Proofs.YtkibigbcdlilkaaGreatDoor.Ed
