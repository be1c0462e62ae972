/- Contract of edit.Apply. -/
import Derived.Test.YtapbfjbjbcpiiaaDoorEdF
namespace Go.Proofs.YtapbfjbjbcpiiaaDoor
open Go.RowKit Go.Shelf
attribute [local go_sem] Oper.semAt_some run_store_func

/-- The place of a number among n. -/
def plG (z : Int) (n : Nat) : Nat := ((wrap64 (z.tmod (n : Int) + (n : Int))).tmod (n : Int)).toNat
theorem pl_is (z : Int) (n : Nat) (h0 : 0 < n) (hn : n ≤ 100000) : plG z n < n ∧ (wrap64 (z.tmod (n : Int) + (n : Int))).tmod (n : Int) = (plG z n : Int) := by
  unfold plG
  have h1 : z.tmod (n : Int) < n := Int.tmod_lt_of_pos z (by omega)
  have h2 : -(n : Int) < z.tmod n := Int.lt_tmod_of_pos z (by omega)
  generalize z.tmod (n : Int) = r at *
  have e1 : wrap64 (r + (n : Int)) = r + (n : Int) := wz _ (by omega) (by omega)
  rw [e1]
  have h3 : (r + (n : Int)).tmod (n : Int) < n := Int.tmod_lt_of_pos _ (by omega)
  have h4 : 0 ≤ (r + (n : Int)).tmod (n : Int) := Int.tmod_nonneg _ (by omega)
  omega
/-- A word with an edit. -/
def apG (s : List UInt8) (k : UInt8) (z : Int) (b : UInt8) : List UInt8 :=
  if k = 1 then (if s.length = 0 then s else s.take (plG z s.length) ++ s.drop (plG z s.length + 1))
  else if k = 2 then s.take (plG z (s.length + 1)) ++ b :: s.drop (plG z (s.length + 1))
  else if k = 3 then (if s.length = 0 then s else s.take (plG z s.length) ++ b :: s.drop (plG z s.length + 1))
  else s
abbrev eE (k : UInt8) (z : Int) (b : UInt8) : Value := .agg #[eB k, .int .i64 z, eB b]
abbrev cE (k : UInt8) (z : Int) (b : UInt8) : Array Value := #[eB k, .int .i64 z, eB b]
set_option maxRecDepth 100000 in
set_option maxHeartbeats 4000000 in
theorem Apply_ne0 (x : List UInt8) (z : Int) (b : UInt8) (bk off c : Nat) (h0 : 0 < x.length) (hl : x.length ≤ 200) (w : World) (hS : Sl eB w.heap.size w (.slice (some ⟨bk, off, none⟩) x.length c) x) :
    Calls Tryd.prog 19 #[.slice (some ⟨bk, off, none⟩) x.length c, .agg #[.int .u8 0, .int .i64 z, eB b]] w fun e w' => ∃ u, e = .returned u ∧ Own8 w.heap.size w' u x ∧ Below w.heap.size w w' := by
  have hmf : ∀ (fn : Fn) (first cap : Array Value) (w : World), (Instr.makeFunc fn first cap).run Tryd.prog w = .ok (.func fn first cap) w := fun _ _ _ _ => rfl
  have hcl : (Value.agg #[.int .u8 0, .int .i64 z, eB b]).cells = #[.int .u8 0, .int .i64 z, eB b] := rfl
  obtain ⟨hpl, hat⟩ := pl_is z x.length (by omega) (by omega)
  generalize plG z x.length = p at *
  have hrs := fun w => erest_any z x.length p (by omega) hat w
  have d0 : ((x.length : Int) == 0) = false := by rw [beq_eq_false_iff_ne]; omega
  have d0' : (x.length == 0) = false := by rw [beq_eq_false_iff_ne]; omega
  have d0n : ¬ x.length = 0 := by omega
  have Hl := Lib.hid hl
  have Hp := Lib.hid hpl
  clear hl hpl hat h0
  have hb1 := Boxed.new w 25 (.slice (some ⟨bk, off, none⟩) x.length c)
  have hA1 := below_alloc w (.cells #[(.slice (some ⟨bk, off, none⟩) x.length c)] 25)
  have hr2 := Rowed.new (w.alloc (.cells #[(.slice (some ⟨bk, off, none⟩) x.length c)] 25)) 36 #[.int .u8 0, .int .i64 z, eB b]
  have hA2 := below_trans hA1 (below_alloc (w.alloc (.cells #[(.slice (some ⟨bk, off, none⟩) x.length c)] 25)) (.cells #[.int .u8 0, .int .i64 z, eB b] 36))
  rw [World.size_alloc] at hr2
  have hb1 := hb1.alloc (.cells #[.int .u8 0, .int .i64 z, eB b] 36)
  go_enter Tryd.func19, Tryd.ntmps19
  go_upto_region 1 with fail
  generalize (w.alloc (.cells #[(.slice (some ⟨bk, off, none⟩) x.length c)] 25)).alloc (.cells #[.int .u8 0, .int .i64 z, eB b] 36) = w0 at *
  have q1 := hb1.cell
  have q2 := hr2.cell 0
  have q3 := hr2.cell 1
  have lx := hb1.lt
  have lr := hr2.lt
  go_wp2_with fail
  go_at_call 36
  refine (hrs _).mono ?_
  rintro e w' ⟨rfl, rfl⟩
  have hr3 := Rowed.new w0 3 #[.int .i64 p]
  have hB3 := below_alloc w0 (.cells #[.int .i64 p] 3)
  have hr4 := Rowed.new (w0.alloc (.cells #[.int .i64 p] 3)) 58 #[.func (.func 37) #[] #[.pointer (some ⟨w.heap.size, 0, none⟩)], .func (.func 38) #[] #[.pointer (some ⟨w.heap.size, 0, none⟩), .pointer (some ⟨w0.heap.size, 0, none⟩)], .func (.func 40) #[] #[.pointer (some ⟨w.heap.size, 0, none⟩), .pointer (some ⟨w0.heap.size, 0, none⟩), .pointer (some ⟨w.heap.size + 1, 0, none⟩)], .func (.func 41) #[] #[.pointer (some ⟨w.heap.size, 0, none⟩), .pointer (some ⟨w0.heap.size, 0, none⟩), .pointer (some ⟨w.heap.size + 1, 0, none⟩)]]
  have hB4 := below_alloc (w0.alloc (.cells #[.int .i64 p] 3)) (.cells #[.func (.func 37) #[] #[.pointer (some ⟨w.heap.size, 0, none⟩)], .func (.func 38) #[] #[.pointer (some ⟨w.heap.size, 0, none⟩), .pointer (some ⟨w0.heap.size, 0, none⟩)], .func (.func 40) #[] #[.pointer (some ⟨w.heap.size, 0, none⟩), .pointer (some ⟨w0.heap.size, 0, none⟩), .pointer (some ⟨w.heap.size + 1, 0, none⟩)], .func (.func 41) #[] #[.pointer (some ⟨w.heap.size, 0, none⟩), .pointer (some ⟨w0.heap.size, 0, none⟩), .pointer (some ⟨w.heap.size + 1, 0, none⟩)]] 58)
  have hB34 := below_trans hB3 hB4
  have c1 := (hb1.alloc (.cells #[.int .i64 p] 3)).alloc (.cells #[.func (.func 37) #[] #[.pointer (some ⟨w.heap.size, 0, none⟩)], .func (.func 38) #[] #[.pointer (some ⟨w.heap.size, 0, none⟩), .pointer (some ⟨w0.heap.size, 0, none⟩)], .func (.func 40) #[] #[.pointer (some ⟨w.heap.size, 0, none⟩), .pointer (some ⟨w0.heap.size, 0, none⟩), .pointer (some ⟨w.heap.size + 1, 0, none⟩)], .func (.func 41) #[] #[.pointer (some ⟨w.heap.size, 0, none⟩), .pointer (some ⟨w0.heap.size, 0, none⟩), .pointer (some ⟨w.heap.size + 1, 0, none⟩)]] 58) |>.cell
  have c2 := (hr3.below hB4 hr3.lt).cell 0
  have c0 := (hr2.below hB34 lr).cell 0
  have c3 := (hr2.below hB34 lr).cell 2
  rw [World.size_alloc] at hr4
  have c7 := hr4.cell 0
  have hBB := below_trans hA2 hB34
  go_upto_region 8 with fail
  generalize (w0.alloc (.cells #[.int .i64 p] 3)).alloc (.cells #[.func (.func 37) #[] #[.pointer (some ⟨w.heap.size, 0, none⟩)], .func (.func 38) #[] #[.pointer (some ⟨w.heap.size, 0, none⟩), .pointer (some ⟨w0.heap.size, 0, none⟩)], .func (.func 40) #[] #[.pointer (some ⟨w.heap.size, 0, none⟩), .pointer (some ⟨w0.heap.size, 0, none⟩), .pointer (some ⟨w.heap.size + 1, 0, none⟩)], .func (.func 41) #[] #[.pointer (some ⟨w.heap.size, 0, none⟩), .pointer (some ⟨w0.heap.size, 0, none⟩), .pointer (some ⟨w.heap.size + 1, 0, none⟩)]] 58) = w6 at *
  have hCC := deed_none x _ w.heap.size (by have := Hl.out; omega) w6 c1 (hS.next hBB)
  clear hrs q1 q2 q3 hr2 hr3 hr4 hB3 hB4 hB34 hb1 hA1 hA2
  go_wp2_with fail
  go_at_call 37
  refine hCC.mono ?_
  rintro e w7 ⟨u, rfl, hu, hB7⟩
  go_wp2_with fail
  go_ret
  exact ⟨u, rfl, own_mono8 hu hBB.size, below_trans hBB hB7⟩
set_option maxRecDepth 100000 in
set_option maxHeartbeats 4000000 in
theorem Apply_ne1 (x : List UInt8) (z : Int) (b : UInt8) (bk off c : Nat) (h0 : 0 < x.length) (hl : x.length ≤ 200) (w : World) (hS : Sl eB w.heap.size w (.slice (some ⟨bk, off, none⟩) x.length c) x) :
    Calls Tryd.prog 19 #[.slice (some ⟨bk, off, none⟩) x.length c, .agg #[.int .u8 1, .int .i64 z, eB b]] w fun e w' => ∃ u, e = .returned u ∧ Own8 w.heap.size w' u (x.take (plG z x.length) ++ x.drop (plG z x.length + 1)) ∧ Below w.heap.size w w' := by
  have hmf : ∀ (fn : Fn) (first cap : Array Value) (w : World), (Instr.makeFunc fn first cap).run Tryd.prog w = .ok (.func fn first cap) w := fun _ _ _ _ => rfl
  have hcl : (Value.agg #[.int .u8 1, .int .i64 z, eB b]).cells = #[.int .u8 1, .int .i64 z, eB b] := rfl
  obtain ⟨hpl, hat⟩ := pl_is z x.length (by omega) (by omega)
  generalize plG z x.length = p at *
  have hrs := fun w => erest_any z x.length p (by omega) hat w
  have d0 : ((x.length : Int) == 0) = false := by rw [beq_eq_false_iff_ne]; omega
  have d0' : (x.length == 0) = false := by rw [beq_eq_false_iff_ne]; omega
  have d0n : ¬ x.length = 0 := by omega
  have Hl := Lib.hid hl
  have Hp := Lib.hid hpl
  clear hl hpl hat h0
  have hb1 := Boxed.new w 25 (.slice (some ⟨bk, off, none⟩) x.length c)
  have hA1 := below_alloc w (.cells #[(.slice (some ⟨bk, off, none⟩) x.length c)] 25)
  have hr2 := Rowed.new (w.alloc (.cells #[(.slice (some ⟨bk, off, none⟩) x.length c)] 25)) 36 #[.int .u8 1, .int .i64 z, eB b]
  have hA2 := below_trans hA1 (below_alloc (w.alloc (.cells #[(.slice (some ⟨bk, off, none⟩) x.length c)] 25)) (.cells #[.int .u8 1, .int .i64 z, eB b] 36))
  rw [World.size_alloc] at hr2
  have hb1 := hb1.alloc (.cells #[.int .u8 1, .int .i64 z, eB b] 36)
  go_enter Tryd.func19, Tryd.ntmps19
  go_upto_region 1 with fail
  generalize (w.alloc (.cells #[(.slice (some ⟨bk, off, none⟩) x.length c)] 25)).alloc (.cells #[.int .u8 1, .int .i64 z, eB b] 36) = w0 at *
  have q1 := hb1.cell
  have q2 := hr2.cell 0
  have q3 := hr2.cell 1
  have lx := hb1.lt
  have lr := hr2.lt
  go_wp2_with fail
  go_at_call 36
  refine (hrs _).mono ?_
  rintro e w' ⟨rfl, rfl⟩
  have hr3 := Rowed.new w0 3 #[.int .i64 p]
  have hB3 := below_alloc w0 (.cells #[.int .i64 p] 3)
  have hr4 := Rowed.new (w0.alloc (.cells #[.int .i64 p] 3)) 58 #[.func (.func 37) #[] #[.pointer (some ⟨w.heap.size, 0, none⟩)], .func (.func 38) #[] #[.pointer (some ⟨w.heap.size, 0, none⟩), .pointer (some ⟨w0.heap.size, 0, none⟩)], .func (.func 40) #[] #[.pointer (some ⟨w.heap.size, 0, none⟩), .pointer (some ⟨w0.heap.size, 0, none⟩), .pointer (some ⟨w.heap.size + 1, 0, none⟩)], .func (.func 41) #[] #[.pointer (some ⟨w.heap.size, 0, none⟩), .pointer (some ⟨w0.heap.size, 0, none⟩), .pointer (some ⟨w.heap.size + 1, 0, none⟩)]]
  have hB4 := below_alloc (w0.alloc (.cells #[.int .i64 p] 3)) (.cells #[.func (.func 37) #[] #[.pointer (some ⟨w.heap.size, 0, none⟩)], .func (.func 38) #[] #[.pointer (some ⟨w.heap.size, 0, none⟩), .pointer (some ⟨w0.heap.size, 0, none⟩)], .func (.func 40) #[] #[.pointer (some ⟨w.heap.size, 0, none⟩), .pointer (some ⟨w0.heap.size, 0, none⟩), .pointer (some ⟨w.heap.size + 1, 0, none⟩)], .func (.func 41) #[] #[.pointer (some ⟨w.heap.size, 0, none⟩), .pointer (some ⟨w0.heap.size, 0, none⟩), .pointer (some ⟨w.heap.size + 1, 0, none⟩)]] 58)
  have hB34 := below_trans hB3 hB4
  have c1 := (hb1.alloc (.cells #[.int .i64 p] 3)).alloc (.cells #[.func (.func 37) #[] #[.pointer (some ⟨w.heap.size, 0, none⟩)], .func (.func 38) #[] #[.pointer (some ⟨w.heap.size, 0, none⟩), .pointer (some ⟨w0.heap.size, 0, none⟩)], .func (.func 40) #[] #[.pointer (some ⟨w.heap.size, 0, none⟩), .pointer (some ⟨w0.heap.size, 0, none⟩), .pointer (some ⟨w.heap.size + 1, 0, none⟩)], .func (.func 41) #[] #[.pointer (some ⟨w.heap.size, 0, none⟩), .pointer (some ⟨w0.heap.size, 0, none⟩), .pointer (some ⟨w.heap.size + 1, 0, none⟩)]] 58) |>.cell
  have c2 := (hr3.below hB4 hr3.lt).cell 0
  have c0 := (hr2.below hB34 lr).cell 0
  have c3 := (hr2.below hB34 lr).cell 2
  rw [World.size_alloc] at hr4
  have c7 := hr4.cell 1
  have hBB := below_trans hA2 hB34
  go_upto_region 8 with fail
  generalize (w0.alloc (.cells #[.int .i64 p] 3)).alloc (.cells #[.func (.func 37) #[] #[.pointer (some ⟨w.heap.size, 0, none⟩)], .func (.func 38) #[] #[.pointer (some ⟨w.heap.size, 0, none⟩), .pointer (some ⟨w0.heap.size, 0, none⟩)], .func (.func 40) #[] #[.pointer (some ⟨w.heap.size, 0, none⟩), .pointer (some ⟨w0.heap.size, 0, none⟩), .pointer (some ⟨w.heap.size + 1, 0, none⟩)], .func (.func 41) #[] #[.pointer (some ⟨w.heap.size, 0, none⟩), .pointer (some ⟨w0.heap.size, 0, none⟩), .pointer (some ⟨w.heap.size + 1, 0, none⟩)]] 58) = w6 at *
  have hCC := deed_gap x _ c w.heap.size w0.heap.size p (by have := Hl.out; omega) Hp.out w6 c1 c2 (hS.next hBB)
  clear hrs q1 q2 q3 hr2 hr3 hr4 hB3 hB4 hB34 hb1 hA1 hA2
  go_wp2_with fail
  go_at_call 38
  refine hCC.mono ?_
  rintro e w7 ⟨u, rfl, hu, hB7⟩
  go_wp2_with fail
  go_ret
  exact ⟨u, rfl, own_mono8 hu hBB.size, below_trans hBB hB7⟩
set_option maxRecDepth 100000 in
set_option maxHeartbeats 4000000 in
theorem Apply_ne2 (x : List UInt8) (z : Int) (b : UInt8) (bk off c : Nat) (h0 : 0 < x.length) (hl : x.length ≤ 200) (w : World) (hS : Sl eB w.heap.size w (.slice (some ⟨bk, off, none⟩) x.length c) x) :
    Calls Tryd.prog 19 #[.slice (some ⟨bk, off, none⟩) x.length c, .agg #[.int .u8 2, .int .i64 z, eB b]] w fun e w' => ∃ u, e = .returned u ∧ Own8 w.heap.size w' u (x.take (plG z (x.length + 1)) ++ b :: x.drop (plG z (x.length + 1))) ∧ Below w.heap.size w w' := by
  have hmf : ∀ (fn : Fn) (first cap : Array Value) (w : World), (Instr.makeFunc fn first cap).run Tryd.prog w = .ok (.func fn first cap) w := fun _ _ _ _ => rfl
  have hcl : (Value.agg #[.int .u8 2, .int .i64 z, eB b]).cells = #[.int .u8 2, .int .i64 z, eB b] := rfl
  obtain ⟨hpl, hat⟩ := pl_is z (x.length + 1) (by omega) (by omega)
  generalize plG z (x.length + 1) = p at *
  have hrs := fun w => erest_any z (x.length + 1) p (by omega) hat w
  have wL1 : wrap64 ((x.length : Int) + 1) = ((x.length + 1 : Nat) : Int) := w_succ _ (by omega)
  have wL2 : IntKind.i64.wrap ((x.length : Int) + 1) = ((x.length + 1 : Nat) : Int) := i_succ _ (by omega)
  have d0 : (((x.length + 1 : Nat) : Int) == 0) = false := by rw [beq_eq_false_iff_ne]; omega
  rw [Int.natCast_add, Int.natCast_one] at hrs
  have Hl := Lib.hid hl
  have Hp := Lib.hid hpl
  clear hl hpl hat h0
  have hb1 := Boxed.new w 25 (.slice (some ⟨bk, off, none⟩) x.length c)
  have hA1 := below_alloc w (.cells #[(.slice (some ⟨bk, off, none⟩) x.length c)] 25)
  have hr2 := Rowed.new (w.alloc (.cells #[(.slice (some ⟨bk, off, none⟩) x.length c)] 25)) 36 #[.int .u8 2, .int .i64 z, eB b]
  have hA2 := below_trans hA1 (below_alloc (w.alloc (.cells #[(.slice (some ⟨bk, off, none⟩) x.length c)] 25)) (.cells #[.int .u8 2, .int .i64 z, eB b] 36))
  rw [World.size_alloc] at hr2
  have hb1 := hb1.alloc (.cells #[.int .u8 2, .int .i64 z, eB b] 36)
  go_enter Tryd.func19, Tryd.ntmps19
  go_upto_region 1 with fail
  generalize (w.alloc (.cells #[(.slice (some ⟨bk, off, none⟩) x.length c)] 25)).alloc (.cells #[.int .u8 2, .int .i64 z, eB b] 36) = w0 at *
  have q1 := hb1.cell
  have q2 := hr2.cell 0
  have q3 := hr2.cell 1
  have lx := hb1.lt
  have lr := hr2.lt
  go_wp2_with fail
  go_at_call 36
  refine (hrs _).mono ?_
  rintro e w' ⟨rfl, rfl⟩
  have hr3 := Rowed.new w0 3 #[.int .i64 p]
  have hB3 := below_alloc w0 (.cells #[.int .i64 p] 3)
  have hr4 := Rowed.new (w0.alloc (.cells #[.int .i64 p] 3)) 58 #[.func (.func 37) #[] #[.pointer (some ⟨w.heap.size, 0, none⟩)], .func (.func 38) #[] #[.pointer (some ⟨w.heap.size, 0, none⟩), .pointer (some ⟨w0.heap.size, 0, none⟩)], .func (.func 40) #[] #[.pointer (some ⟨w.heap.size, 0, none⟩), .pointer (some ⟨w0.heap.size, 0, none⟩), .pointer (some ⟨w.heap.size + 1, 0, none⟩)], .func (.func 41) #[] #[.pointer (some ⟨w.heap.size, 0, none⟩), .pointer (some ⟨w0.heap.size, 0, none⟩), .pointer (some ⟨w.heap.size + 1, 0, none⟩)]]
  have hB4 := below_alloc (w0.alloc (.cells #[.int .i64 p] 3)) (.cells #[.func (.func 37) #[] #[.pointer (some ⟨w.heap.size, 0, none⟩)], .func (.func 38) #[] #[.pointer (some ⟨w.heap.size, 0, none⟩), .pointer (some ⟨w0.heap.size, 0, none⟩)], .func (.func 40) #[] #[.pointer (some ⟨w.heap.size, 0, none⟩), .pointer (some ⟨w0.heap.size, 0, none⟩), .pointer (some ⟨w.heap.size + 1, 0, none⟩)], .func (.func 41) #[] #[.pointer (some ⟨w.heap.size, 0, none⟩), .pointer (some ⟨w0.heap.size, 0, none⟩), .pointer (some ⟨w.heap.size + 1, 0, none⟩)]] 58)
  have hB34 := below_trans hB3 hB4
  have c1 := (hb1.alloc (.cells #[.int .i64 p] 3)).alloc (.cells #[.func (.func 37) #[] #[.pointer (some ⟨w.heap.size, 0, none⟩)], .func (.func 38) #[] #[.pointer (some ⟨w.heap.size, 0, none⟩), .pointer (some ⟨w0.heap.size, 0, none⟩)], .func (.func 40) #[] #[.pointer (some ⟨w.heap.size, 0, none⟩), .pointer (some ⟨w0.heap.size, 0, none⟩), .pointer (some ⟨w.heap.size + 1, 0, none⟩)], .func (.func 41) #[] #[.pointer (some ⟨w.heap.size, 0, none⟩), .pointer (some ⟨w0.heap.size, 0, none⟩), .pointer (some ⟨w.heap.size + 1, 0, none⟩)]] 58) |>.cell
  have c2 := (hr3.below hB4 hr3.lt).cell 0
  have c0 := (hr2.below hB34 lr).cell 0
  have c3 := (hr2.below hB34 lr).cell 2
  rw [World.size_alloc] at hr4
  have c7 := hr4.cell 2
  have hBB := below_trans hA2 hB34
  go_upto_region 8 with fail
  generalize (w0.alloc (.cells #[.int .i64 p] 3)).alloc (.cells #[.func (.func 37) #[] #[.pointer (some ⟨w.heap.size, 0, none⟩)], .func (.func 38) #[] #[.pointer (some ⟨w.heap.size, 0, none⟩), .pointer (some ⟨w0.heap.size, 0, none⟩)], .func (.func 40) #[] #[.pointer (some ⟨w.heap.size, 0, none⟩), .pointer (some ⟨w0.heap.size, 0, none⟩), .pointer (some ⟨w.heap.size + 1, 0, none⟩)], .func (.func 41) #[] #[.pointer (some ⟨w.heap.size, 0, none⟩), .pointer (some ⟨w0.heap.size, 0, none⟩), .pointer (some ⟨w.heap.size + 1, 0, none⟩)]] 58) = w6 at *
  have hCC := deed_more x b bk off c w.heap.size w0.heap.size (w.heap.size + 1) p Hl.out (Nat.le_of_lt_succ Hp.out) w6 c1 c2 c3 (hS.next hBB)
  clear hrs q1 q2 q3 hr2 hr3 hr4 hB3 hB4 hB34 hb1 hA1 hA2
  go_wp2_with fail
  go_at_call 40
  refine hCC.mono ?_
  rintro e w7 ⟨u, rfl, hu, hB7⟩
  go_wp2_with fail
  go_ret
  exact ⟨u, rfl, own_mono8 hu hBB.size, below_trans hBB hB7⟩
set_option maxRecDepth 100000 in
set_option maxHeartbeats 4000000 in
theorem Apply_ne3 (x : List UInt8) (z : Int) (b : UInt8) (bk off c : Nat) (h0 : 0 < x.length) (hl : x.length ≤ 200) (w : World) (hS : Sl eB w.heap.size w (.slice (some ⟨bk, off, none⟩) x.length c) x) :
    Calls Tryd.prog 19 #[.slice (some ⟨bk, off, none⟩) x.length c, .agg #[.int .u8 3, .int .i64 z, eB b]] w fun e w' => ∃ u, e = .returned u ∧ Own8 w.heap.size w' u (x.take (plG z x.length) ++ b :: x.drop (plG z x.length + 1)) ∧ Below w.heap.size w w' := by
  have hmf : ∀ (fn : Fn) (first cap : Array Value) (w : World), (Instr.makeFunc fn first cap).run Tryd.prog w = .ok (.func fn first cap) w := fun _ _ _ _ => rfl
  have hcl : (Value.agg #[.int .u8 3, .int .i64 z, eB b]).cells = #[.int .u8 3, .int .i64 z, eB b] := rfl
  obtain ⟨hpl, hat⟩ := pl_is z x.length (by omega) (by omega)
  generalize plG z x.length = p at *
  have hrs := fun w => erest_any z x.length p (by omega) hat w
  have d0 : ((x.length : Int) == 0) = false := by rw [beq_eq_false_iff_ne]; omega
  have d0' : (x.length == 0) = false := by rw [beq_eq_false_iff_ne]; omega
  have d0n : ¬ x.length = 0 := by omega
  have Hl := Lib.hid hl
  have Hp := Lib.hid hpl
  clear hl hpl hat h0
  have hb1 := Boxed.new w 25 (.slice (some ⟨bk, off, none⟩) x.length c)
  have hA1 := below_alloc w (.cells #[(.slice (some ⟨bk, off, none⟩) x.length c)] 25)
  have hr2 := Rowed.new (w.alloc (.cells #[(.slice (some ⟨bk, off, none⟩) x.length c)] 25)) 36 #[.int .u8 3, .int .i64 z, eB b]
  have hA2 := below_trans hA1 (below_alloc (w.alloc (.cells #[(.slice (some ⟨bk, off, none⟩) x.length c)] 25)) (.cells #[.int .u8 3, .int .i64 z, eB b] 36))
  rw [World.size_alloc] at hr2
  have hb1 := hb1.alloc (.cells #[.int .u8 3, .int .i64 z, eB b] 36)
  go_enter Tryd.func19, Tryd.ntmps19
  go_upto_region 1 with fail
  generalize (w.alloc (.cells #[(.slice (some ⟨bk, off, none⟩) x.length c)] 25)).alloc (.cells #[.int .u8 3, .int .i64 z, eB b] 36) = w0 at *
  have q1 := hb1.cell
  have q2 := hr2.cell 0
  have q3 := hr2.cell 1
  have lx := hb1.lt
  have lr := hr2.lt
  go_wp2_with fail
  go_at_call 36
  refine (hrs _).mono ?_
  rintro e w' ⟨rfl, rfl⟩
  have hr3 := Rowed.new w0 3 #[.int .i64 p]
  have hB3 := below_alloc w0 (.cells #[.int .i64 p] 3)
  have hr4 := Rowed.new (w0.alloc (.cells #[.int .i64 p] 3)) 58 #[.func (.func 37) #[] #[.pointer (some ⟨w.heap.size, 0, none⟩)], .func (.func 38) #[] #[.pointer (some ⟨w.heap.size, 0, none⟩), .pointer (some ⟨w0.heap.size, 0, none⟩)], .func (.func 40) #[] #[.pointer (some ⟨w.heap.size, 0, none⟩), .pointer (some ⟨w0.heap.size, 0, none⟩), .pointer (some ⟨w.heap.size + 1, 0, none⟩)], .func (.func 41) #[] #[.pointer (some ⟨w.heap.size, 0, none⟩), .pointer (some ⟨w0.heap.size, 0, none⟩), .pointer (some ⟨w.heap.size + 1, 0, none⟩)]]
  have hB4 := below_alloc (w0.alloc (.cells #[.int .i64 p] 3)) (.cells #[.func (.func 37) #[] #[.pointer (some ⟨w.heap.size, 0, none⟩)], .func (.func 38) #[] #[.pointer (some ⟨w.heap.size, 0, none⟩), .pointer (some ⟨w0.heap.size, 0, none⟩)], .func (.func 40) #[] #[.pointer (some ⟨w.heap.size, 0, none⟩), .pointer (some ⟨w0.heap.size, 0, none⟩), .pointer (some ⟨w.heap.size + 1, 0, none⟩)], .func (.func 41) #[] #[.pointer (some ⟨w.heap.size, 0, none⟩), .pointer (some ⟨w0.heap.size, 0, none⟩), .pointer (some ⟨w.heap.size + 1, 0, none⟩)]] 58)
  have hB34 := below_trans hB3 hB4
  have c1 := (hb1.alloc (.cells #[.int .i64 p] 3)).alloc (.cells #[.func (.func 37) #[] #[.pointer (some ⟨w.heap.size, 0, none⟩)], .func (.func 38) #[] #[.pointer (some ⟨w.heap.size, 0, none⟩), .pointer (some ⟨w0.heap.size, 0, none⟩)], .func (.func 40) #[] #[.pointer (some ⟨w.heap.size, 0, none⟩), .pointer (some ⟨w0.heap.size, 0, none⟩), .pointer (some ⟨w.heap.size + 1, 0, none⟩)], .func (.func 41) #[] #[.pointer (some ⟨w.heap.size, 0, none⟩), .pointer (some ⟨w0.heap.size, 0, none⟩), .pointer (some ⟨w.heap.size + 1, 0, none⟩)]] 58) |>.cell
  have c2 := (hr3.below hB4 hr3.lt).cell 0
  have c0 := (hr2.below hB34 lr).cell 0
  have c3 := (hr2.below hB34 lr).cell 2
  rw [World.size_alloc] at hr4
  have c7 := hr4.cell 3
  have hBB := below_trans hA2 hB34
  go_upto_region 8 with fail
  generalize (w0.alloc (.cells #[.int .i64 p] 3)).alloc (.cells #[.func (.func 37) #[] #[.pointer (some ⟨w.heap.size, 0, none⟩)], .func (.func 38) #[] #[.pointer (some ⟨w.heap.size, 0, none⟩), .pointer (some ⟨w0.heap.size, 0, none⟩)], .func (.func 40) #[] #[.pointer (some ⟨w.heap.size, 0, none⟩), .pointer (some ⟨w0.heap.size, 0, none⟩), .pointer (some ⟨w.heap.size + 1, 0, none⟩)], .func (.func 41) #[] #[.pointer (some ⟨w.heap.size, 0, none⟩), .pointer (some ⟨w0.heap.size, 0, none⟩), .pointer (some ⟨w.heap.size + 1, 0, none⟩)]] 58) = w6 at *
  have hCC := deed_swap x b bk off c w.heap.size w0.heap.size (w.heap.size + 1) p Hl.out Hp.out w6 c1 c2 c3 (hS.next hBB)
  clear hrs q1 q2 q3 hr2 hr3 hr4 hB3 hB4 hB34 hb1 hA1 hA2
  go_wp2_with fail
  go_at_call 41
  refine hCC.mono ?_
  rintro e w7 ⟨u, rfl, hu, hB7⟩
  go_wp2_with fail
  go_ret
  exact ⟨u, rfl, own_mono8 hu hBB.size, below_trans hBB hB7⟩
set_option maxRecDepth 100000 in
set_option maxHeartbeats 4000000 in
theorem Apply_nek (x : List UInt8) (k : UInt8) (hk : 4 ≤ k.toNat) (z : Int) (b : UInt8) (bk off c : Nat) (h0 : 0 < x.length) (hl : x.length ≤ 200) (w : World) (hS : Sl eB w.heap.size w (.slice (some ⟨bk, off, none⟩) x.length c) x) :
    Calls Tryd.prog 19 #[.slice (some ⟨bk, off, none⟩) x.length c, .agg #[.int .u8 (k.toNat : Int), .int .i64 z, eB b]] w fun e w' => ∃ u, e = .returned u ∧ Own8 w.heap.size w' u x ∧ Below w.heap.size w w' := by
  have hmf : ∀ (fn : Fn) (first cap : Array Value) (w : World), (Instr.makeFunc fn first cap).run Tryd.prog w = .ok (.func fn first cap) w := fun _ _ _ _ => rfl
  have hcl : (Value.agg #[.int .u8 (k.toNat : Int), .int .i64 z, eB b]).cells = #[.int .u8 (k.toNat : Int), .int .i64 z, eB b] := rfl
  obtain ⟨hpl, hat⟩ := pl_is z x.length (by omega) (by omega)
  generalize plG z x.length = p at *
  have hrs := fun w => erest_any z x.length p (by omega) hat w
  have d0 : ((x.length : Int) == 0) = false := by rw [beq_eq_false_iff_ne]; omega
  have d0' : (x.length == 0) = false := by rw [beq_eq_false_iff_ne]; omega
  have d0n : ¬ x.length = 0 := by omega
  have g1 : ((k.toNat : Int) == 2) = false := by rw [beq_eq_false_iff_ne]; omega
  have g2 : decide ((4 : Int) ≤ (k.toNat : Int)) = true := decide_eq_true (by omega)
  have g3 : (4 : Int) ≤ (k.toNat : Int) := by omega
  have g4 : wrap64 (k.toNat : Int) = (k.toNat : Int) := IntWalk.wrap64_in _ (by have := k.toNat_lt; omega)
  have Hl := Lib.hid hl
  have Hp := Lib.hid hpl
  clear hl hpl hat h0
  have hb1 := Boxed.new w 25 (.slice (some ⟨bk, off, none⟩) x.length c)
  have hA1 := below_alloc w (.cells #[(.slice (some ⟨bk, off, none⟩) x.length c)] 25)
  have hr2 := Rowed.new (w.alloc (.cells #[(.slice (some ⟨bk, off, none⟩) x.length c)] 25)) 36 #[.int .u8 (k.toNat : Int), .int .i64 z, eB b]
  have hA2 := below_trans hA1 (below_alloc (w.alloc (.cells #[(.slice (some ⟨bk, off, none⟩) x.length c)] 25)) (.cells #[.int .u8 (k.toNat : Int), .int .i64 z, eB b] 36))
  rw [World.size_alloc] at hr2
  have hb1 := hb1.alloc (.cells #[.int .u8 (k.toNat : Int), .int .i64 z, eB b] 36)
  go_enter Tryd.func19, Tryd.ntmps19
  go_upto_region 1 with fail
  generalize (w.alloc (.cells #[(.slice (some ⟨bk, off, none⟩) x.length c)] 25)).alloc (.cells #[.int .u8 (k.toNat : Int), .int .i64 z, eB b] 36) = w0 at *
  have q1 := hb1.cell
  have q2 := hr2.cell 0
  have q3 := hr2.cell 1
  have lx := hb1.lt
  have lr := hr2.lt
  go_wp2_with fail
  go_at_call 36
  refine (hrs _).mono ?_
  rintro e w' ⟨rfl, rfl⟩
  have hr3 := Rowed.new w0 3 #[.int .i64 p]
  have hB3 := below_alloc w0 (.cells #[.int .i64 p] 3)
  have hr4 := Rowed.new (w0.alloc (.cells #[.int .i64 p] 3)) 58 #[.func (.func 37) #[] #[.pointer (some ⟨w.heap.size, 0, none⟩)], .func (.func 38) #[] #[.pointer (some ⟨w.heap.size, 0, none⟩), .pointer (some ⟨w0.heap.size, 0, none⟩)], .func (.func 40) #[] #[.pointer (some ⟨w.heap.size, 0, none⟩), .pointer (some ⟨w0.heap.size, 0, none⟩), .pointer (some ⟨w.heap.size + 1, 0, none⟩)], .func (.func 41) #[] #[.pointer (some ⟨w.heap.size, 0, none⟩), .pointer (some ⟨w0.heap.size, 0, none⟩), .pointer (some ⟨w.heap.size + 1, 0, none⟩)]]
  have hB4 := below_alloc (w0.alloc (.cells #[.int .i64 p] 3)) (.cells #[.func (.func 37) #[] #[.pointer (some ⟨w.heap.size, 0, none⟩)], .func (.func 38) #[] #[.pointer (some ⟨w.heap.size, 0, none⟩), .pointer (some ⟨w0.heap.size, 0, none⟩)], .func (.func 40) #[] #[.pointer (some ⟨w.heap.size, 0, none⟩), .pointer (some ⟨w0.heap.size, 0, none⟩), .pointer (some ⟨w.heap.size + 1, 0, none⟩)], .func (.func 41) #[] #[.pointer (some ⟨w.heap.size, 0, none⟩), .pointer (some ⟨w0.heap.size, 0, none⟩), .pointer (some ⟨w.heap.size + 1, 0, none⟩)]] 58)
  have hB34 := below_trans hB3 hB4
  have c1 := (hb1.alloc (.cells #[.int .i64 p] 3)).alloc (.cells #[.func (.func 37) #[] #[.pointer (some ⟨w.heap.size, 0, none⟩)], .func (.func 38) #[] #[.pointer (some ⟨w.heap.size, 0, none⟩), .pointer (some ⟨w0.heap.size, 0, none⟩)], .func (.func 40) #[] #[.pointer (some ⟨w.heap.size, 0, none⟩), .pointer (some ⟨w0.heap.size, 0, none⟩), .pointer (some ⟨w.heap.size + 1, 0, none⟩)], .func (.func 41) #[] #[.pointer (some ⟨w.heap.size, 0, none⟩), .pointer (some ⟨w0.heap.size, 0, none⟩), .pointer (some ⟨w.heap.size + 1, 0, none⟩)]] 58) |>.cell
  have c2 := (hr3.below hB4 hr3.lt).cell 0
  have c0 := (hr2.below hB34 lr).cell 0
  have c3 := (hr2.below hB34 lr).cell 2
  rw [World.size_alloc] at hr4
  have c7 := hr4.cell 0
  have hBB := below_trans hA2 hB34
  go_upto_region 8 with fail
  generalize (w0.alloc (.cells #[.int .i64 p] 3)).alloc (.cells #[.func (.func 37) #[] #[.pointer (some ⟨w.heap.size, 0, none⟩)], .func (.func 38) #[] #[.pointer (some ⟨w.heap.size, 0, none⟩), .pointer (some ⟨w0.heap.size, 0, none⟩)], .func (.func 40) #[] #[.pointer (some ⟨w.heap.size, 0, none⟩), .pointer (some ⟨w0.heap.size, 0, none⟩), .pointer (some ⟨w.heap.size + 1, 0, none⟩)], .func (.func 41) #[] #[.pointer (some ⟨w.heap.size, 0, none⟩), .pointer (some ⟨w0.heap.size, 0, none⟩), .pointer (some ⟨w.heap.size + 1, 0, none⟩)]] 58) = w6 at *
  have hCC := deed_none x _ w.heap.size (by have := Hl.out; omega) w6 c1 (hS.next hBB)
  clear hrs q1 q2 q3 hr2 hr3 hr4 hB3 hB4 hB34 hb1 hA1 hA2
  go_wp2_with fail
  go_at_call 37
  refine hCC.mono ?_
  rintro e w7 ⟨u, rfl, hu, hB7⟩
  go_wp2_with fail
  go_ret
  exact ⟨u, rfl, own_mono8 hu hBB.size, below_trans hBB hB7⟩
end Go.Proofs.YtapbfjbjbcpiiaaDoor
