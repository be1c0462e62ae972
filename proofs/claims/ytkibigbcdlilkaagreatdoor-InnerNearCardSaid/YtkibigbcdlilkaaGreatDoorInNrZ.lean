import Derived.Lib.AppendStr
import Derived.Test.YtkibigbcdlilkaaGreatDoorGBZ
import Derived.Test.YtkibigbcdlilkaaGreatDoorGpBZ
import Derived.Test.YtkibigbcdlilkaaGreatDoorInNZ
import Derived.Test.YtkibigbcdlilkaaGreatDoorInSZ
import Derived.Test.YtkibigbcdlilkaaGreatDoorInWZ
import Derived.Test.YtkibigbcdlilkaaGreatDoorMMZ
import Derived.Test.YtkibigbcdlilkaaGreatDoorRdEZ
namespace Go.Proofs.YtkibigbcdlilkaaGreatDoor
open Go.RowKit Go.Shelf
attribute [local go_sem] Oper.semAt_some run_store_func
theorem four_isL (y : List UInt8) : Four y ↔ ∀ z ∈ y, Ed.isL z = true := by
 constructor
 · intro h z hz
   rw [isL_code]
   exact four_mem h z hz
 · intro h k hk
   have e : atB y k = y[k] := by simp [atB, hk]
   rw [e]
   exact (isL_code _).1 (h _ (List.getElem_mem hk))
set_option maxRecDepth 100000 in
set_option maxHeartbeats 1000000 in
theorem RNear_any (va vb : Value) (a b : List UInt8) (ha : a.length ≤ 1000) (hb : b.length ≤ 1000) (hd : dist a b ≤ 1) (w : World) (hSa : Sl eB w.heap.size w va a) (hSb : Sl eB w.heap.size w vb b) :
    Calls Tryz.prog 20 #[va, vb] w fun e w' => e = .returned (.bool true) ∧ Below w.heap.size w w' := by
  have hD := RDistance_any va vb a b w hSa hSb
  rw [List.take_of_length_le ha, List.take_of_length_le hb] at hD
  have d1 : decide ((dist a b : Int) ≤ 1) = true := decide_eq_true (by omega)
  have d2 : ((dist a b : Nat) : Int) ≤ 1 := by omega
  generalize dist a b = d at *
  go_enter Tryz.func20, Tryz.ntmps20
  go_wp2_with fail
  go_at_call 22
  refine hD.mono ?_
  rintro e w' ⟨rfl, hB⟩
  go_wp2_with fail
  go_ret
  exact ⟨rfl, hB⟩
theorem eqE (k : UInt8) (z : Int) (b : UInt8) (k' : UInt8) (z' : Int) (b' : UInt8) (w : World) : (Op.equalIn 10000 28 (Ed.eE k z b) (Ed.eE k' z' b')).run Tryz.prog w = .ok (((k.toNat : Int) == (k'.toNat : Int)) && (z == z' && ((b.toNat : Int) == (b'.toNat : Int)))) w := by
 have u3 := Tryz.underlying3
 have u5 := Tryz.underlying5
 have hS : Tryz.prog.underlying 28 = some (.struct (Tryz.prog.fieldsOf 28)) := by kernel_rfl
 have hp : Tryz.prog.stoodInHeld 28 = false := by kernel_rfl
 have hi1 : ∀ (d : Nat) (x y : Int) w, (Op.equalIn (d + 1) 3 (.int .i64 x) (.int .i64 y)).run Tryz.prog w = .ok (x == y) w := fun d x y w => run_equalIn_int w d 3 .i64 .i64 x y u3
 have hi2 : ∀ (d : Nat) (x y : Int) w, (Op.equalIn (d + 1) 5 (.int .u8 x) (.int .u8 y)).run Tryz.prog w = .ok (x == y) w := fun d x y w => run_equalIn_int w d 5 .u8 .u8 x y u5
 rw [show (10000 : Nat) = 9999 + 1 from rfl, run_equalIn_agg w 9999 28 _ _ hS hp]
 simp only [Program.fieldsOf, Tryz.underlying28]
 have hsz : (Tryz.prog.info? 3).map (·.size) = some 1 := by kernel_rfl
 have hsz2 : (Tryz.prog.info? 5).map (·.size) = some 1 := by kernel_rfl
 go_simp
 by_cases h1 : (k.toNat : Int) = (k'.toNat : Int) <;> by_cases h2 : z = z' <;> by_cases h3 : (b.toNat : Int) = (b'.toNat : Int) <;> simp [h1, h2, h3]
theorem eqE_same (k : UInt8) (z : Int) (b : UInt8) (w : World) : (Op.equalIn 10000 28 (Ed.eE k z b) (Ed.eE k z b)).run Tryz.prog w = .ok true w := by
 rw [eqE]
 simp
end Go.Proofs.YtkibigbcdlilkaaGreatDoor
namespace Go.Proofs.YtkibigbcdlilkaaGreatDoor
open Go.RowKit Go.Shelf
attribute [local go_sem] Oper.semAt_some run_store_func
set_option maxRecDepth 100000 in
set_option maxHeartbeats 4000000 in
theorem InnerNear_long (A : Option Addr) (c : Nat) (y : List UInt8) (n : Int) (h : 150 < y.length) (w : World) (hT : Tab w) (hTB : TabB w) (hTE : Ed.TabE w) :
    Calls Tryz.prog 6 #[.slice A y.length c, .int .i64 n] w fun e w' => e = .returned (.bool true) ∧ Below w.heap.size w w' := by
  have hwk := wakes_any
  have d1 : decide ((150 : Int) < (y.length : Int)) = true := decide_eq_true (by omega)
  have d2 : (150 : Int) < (y.length : Int) := by omega
  clear h
  go_enter Tryz.func6, Tryz.ntmps6
  go_wp2_with fail
  go_at_call 8
  refine (hwk _ hT hTB hTE).mono ?_
  rintro e w7 ⟨rfl, hB7⟩
  go_wp2_with fail
  go_ret
  exact ⟨rfl, hB7⟩
set_option maxRecDepth 100000 in
set_option maxHeartbeats 4000000 in
theorem InnerNear_low (A : Option Addr) (c : Nat) (y : List UInt8) (n : Int) (h0 : ¬ 150 < y.length) (h : n < 2) (w : World) (hT : Tab w) (hTB : TabB w) (hTE : Ed.TabE w) :
    Calls Tryz.prog 6 #[.slice A y.length c, .int .i64 n] w fun e w' => e = .returned (.bool true) ∧ Below w.heap.size w w' := by
  have hwk := wakes_any
  have d1 : decide ((150 : Int) < (y.length : Int)) = false := decide_eq_false (by omega)
  have d2 : decide (n < 2) = true := decide_eq_true h
  clear h h0
  go_enter Tryz.func6, Tryz.ntmps6
  go_wp2_with fail
  go_at_call 8
  refine (hwk _ hT hTB hTE).mono ?_
  rintro e w7 ⟨rfl, hB7⟩
  go_wp2_with fail
  go_ret
  exact ⟨rfl, hB7⟩
set_option maxRecDepth 100000 in
set_option maxHeartbeats 4000000 in
theorem InnerNear_high (A : Option Addr) (c : Nat) (y : List UInt8) (n : Int) (h0 : ¬ 150 < y.length) (h1 : ¬ n < 2) (h : 40 < n) (w : World) (hT : Tab w) (hTB : TabB w) (hTE : Ed.TabE w) :
    Calls Tryz.prog 6 #[.slice A y.length c, .int .i64 n] w fun e w' => e = .returned (.bool true) ∧ Below w.heap.size w w' := by
  have hwk := wakes_any
  have d1 : decide ((150 : Int) < (y.length : Int)) = false := decide_eq_false (by omega)
  have d2 : decide (n < 2) = false := decide_eq_false h1
  have d3 : decide ((40 : Int) < n) = true := decide_eq_true h
  clear h h0 h1
  go_enter Tryz.func6, Tryz.ntmps6
  go_wp2_with fail
  go_at_call 8
  refine (hwk _ hT hTB hTE).mono ?_
  rintro e w7 ⟨rfl, hB7⟩
  go_wp2_with fail
  go_ret
  exact ⟨rfl, hB7⟩
set_option maxRecDepth 100000 in
set_option maxHeartbeats 4000000 in
theorem InnerNear_none (v0 : Value) (y : List UInt8) (n : Int) (h0 : ¬ 150 < y.length) (h2 : ¬ n < 2) (h4 : ¬ 40 < n) (hd : decG y n = .error 130) (w : World) (hS : Sl eB w.heap.size w v0 y) (hT : Tab w) (hTB : TabB w) (hTE : Ed.TabE w) :
    Calls Tryz.prog 6 #[v0, .int .i64 n] w fun e w' => e = .returned (.bool true) ∧ Below w.heap.size w w' := by
  have hwk := wakes_any
  have d1 : decide ((150 : Int) < (y.length : Int)) = false := decide_eq_false (by omega)
  have d2 : decide (n < 2) = false := decide_eq_false h2
  have d3 : decide ((40 : Int) < n) = false := decide_eq_false h4
  have hE := fun v w hT hTB hTE hS => Edit_any y n (by omega) v w hT hTB hTE hS
  have hD := Dec_no hd (by omega)
  rw [dec_error hd] at hE
  have hq := eqE_same 0 0 0
  have hbd : ∀ w, (Instr.build 28 #[]).run Tryz.prog w = .ok (Ed.eE 0 0 0) w := fun _ => by kernel_rfl
  obtain ⟨A, c, rfl⟩ := hS.len
  clear hd h2 h4 h0
  go_enter Tryz.func6, Tryz.ntmps6
  go_wp2_with fail
  go_at_call 9
  refine (hD _ _ hT hTB hS).mono ?_
  rintro e w1 ⟨hB, rfl⟩
  have hT := hT.below hB
  have hTB := hTB.below hB
  have hTE := hTE.below hB
  have hS := hS.next hB
  clear hD
  go_wp2_with fail
  go_at_call 11
  refine (hE _ _ hT hTB hTE hS).mono ?_
  rintro e w2 ⟨rfl, hC⟩
  have hB := below_trans hB hC
  have hT := hT.below hC
  have hTB := hTB.below hC
  have hTE := hTE.below hC
  have hS := hS.next hC
  clear hC hE
  have hr := Rowed.new w2 28 #[.int .u8 0, .int .i64 0, .int .u8 0]
  have hA := below_alloc w2 (.cells #[.int .u8 0, .int .i64 0, .int .u8 0] 28)
  have hB := below_trans hB hA
  have hT := hT.below hA
  have hTB := hTB.below hA
  have hTE := hTE.below hA
  have hS := hS.next hA
  have hcx : (Ed.eE 0 0 0).cells = #[.int .u8 0, .int .i64 0, .int .u8 0] := rfl
  have p0 := hr.cell 0
  have p1 := hr.cell 1
  have p2 := hr.cell 2
  go_wp2_with fail
  go_at_call 8
  refine (hwk _ hT hTB hTE).mono ?_
  rintro e w7 ⟨rfl, hB7⟩
  go_wp2_with fail
  go_ret
  exact ⟨rfl, below_trans hB hB7⟩
set_option maxRecDepth 100000 in
set_option maxHeartbeats 4000000 in
theorem InnerNear_bad (v0 : Value) (y x : List UInt8) (n : Int) (h0 : ¬ 150 < y.length) (h2 : ¬ n < 2) (h4 : ¬ 40 < n) (hd : decG y n = .ok x) (hy : ¬ ∀ z ∈ y, Ed.isL z = true) (w : World) (hS : Sl eB w.heap.size w v0 y) (hT : Tab w) (hTB : TabB w) (hTE : Ed.TabE w) :
    Calls Tryz.prog 6 #[v0, .int .i64 n] w fun e w' => e = .returned (.bool true) ∧ Below w.heap.size w w' := by
  have hwk := wakes_any
  have d1 : decide ((150 : Int) < (y.length : Int)) = false := decide_eq_false (by omega)
  have d2 : decide (n < 2) = false := decide_eq_false h2
  have d3 : decide ((40 : Int) < n) = false := decide_eq_false h4
  have hE := fun v w hT hTB hTE hS => Edit_any y n (by omega) v w hT hTB hTE hS
  have hD := Dec_ok hd (by omega)
  obtain ⟨-, -, hxl, a, b, c, hr0, hwf, hdist, -⟩ := dec_near hd
  have hwl := word_len hr0
  have hL26 := long_26 x.length (by omega)
  have hM := fun v w h => WRMake_ok v x _ hwf w h
  have hV := fun v w h => rValid_any v y (by omega) w h
  have hwb : (wordL x (fldL x a b c)).length ≤ 200 := by rw [hwl]; unfold wlongN; omega
  have hN := fun va vb w h1 h2 => RNear_any va vb (wordL x (fldL x a b c)) y (by omega) (by omega) hdist w h1 h2
  have hne : ((x.length : Int) != n) = false := by rw [hxl]; simp
  rw [edit_bad hd hy] at hE
  rw [decide_eq_false (p := ∀ k, k < y.length → codeOf (atB y k).toNat ≠ -1) (fun h => hy ((four_isL y).1 h))] at hV
  have hq := eqE_same 0 0 0
  have hbd : ∀ w, (Instr.build 28 #[]).run Tryz.prog w = .ok (Ed.eE 0 0 0) w := fun _ => by kernel_rfl
  generalize wordL x (fldL x a b c) = W0 at *
  have HL := Lib.hid hxl
  clear hd h2 h4 h0 hwl hwf hr0 hdist hy hxl hL26 hwb
  obtain ⟨A, c, rfl⟩ := hS.len
  go_enter Tryz.func6, Tryz.ntmps6
  go_wp2_with fail
  go_at_call 9
  refine (hD _ _ hT hTB hS).mono ?_
  rintro e w1 ⟨hB, u1, rfl, hu1⟩
  have hT := hT.below hB
  have hTB := hTB.below hB
  have hTE := hTE.below hB
  have hS := hS.next hB
  clear hD
  go_wp2_with fail
  go_at_call 11
  refine (hE _ _ hT hTB hTE hS).mono ?_
  rintro e w2 ⟨rfl, hC⟩
  have hB := below_trans hB hC
  have hT := hT.below hC
  have hTB := hTB.below hC
  have hTE := hTE.below hC
  have hS := hS.next hC
  have hA0 := hC
  clear hE hC
  have hr := Rowed.new w2 28 #[.int .u8 0, .int .i64 0, .int .u8 0]
  have hA := below_alloc w2 (.cells #[.int .u8 0, .int .i64 0, .int .u8 0] 28)
  have hA0 := below_trans hA0 hA
  have hB := below_trans hB hA
  have hT := hT.below hA
  have hTB := hTB.below hA
  have hTE := hTE.below hA
  have hS := hS.next hA
  have hcx : (Ed.eE 0 0 0).cells = #[.int .u8 0, .int .i64 0, .int .u8 0] := rfl
  have p0 := hr.cell 0
  have p1 := hr.cell 1
  have p2 := hr.cell 2
  have hu1 := hu1.next hA0
  obtain ⟨A1, c1, rfl⟩ := hu1.len
  go_wp2_with fail
  generalize w2.alloc (.cells #[.int .u8 0, .int .i64 0, .int .u8 0] 28) = w3 at *
  have hlt3 := hr.lt
  go_at_call 17
  refine (hM _ _ hu1).mono ?_
  rintro e w4 ⟨hC, u4, rfl, hu4⟩
  have hB := below_trans hB hC
  have hT := hT.below hC
  have hTB := hTB.below hC
  have hTE := hTE.below hC
  have hS := hS.next hC
  have hr := hr.below hC hlt3
  clear hC hM hu1 p0 p1 p2
  go_wp2_with fail
  go_at_call 20
  refine (hN _ _ _ hu4 hS).mono ?_
  rintro e w5 ⟨rfl, hC⟩
  have hB := below_trans hB hC
  have hT := hT.below hC
  have hTB := hTB.below hC
  have hTE := hTE.below hC
  have hS := hS.next hC
  have hr := hr.below hC hr.lt
  have hu4 := hu4.next hC
  have p0 := hr.cell 0
  have p1 := hr.cell 1
  have p2 := hr.cell 2
  clear hC hN hA hA0 hlt3
  go_wp2_with fail
  go_at_call 21
  refine (hV _ _ hS).mono ?_
  rintro e w' ⟨rfl, rfl⟩
  go_wp2_with fail
  go_at_call 8
  refine (hwk _ hT hTB hTE).mono ?_
  rintro e w7 ⟨rfl, hB7⟩
  go_wp2_with fail
  go_ret
  exact ⟨rfl, below_trans hB hB7⟩
theorem below_drewN' (w : World) : Below w.heap.size w w.drew := ⟨rfl, rfl, rfl, Nat.le_refl _, fun _ _ => rfl⟩
set_option maxRecDepth 100000 in
set_option maxHeartbeats 4000000 in
theorem InnerNear_good (v0 : Value) (y x : List UInt8) (n : Int) (h0 : ¬ 150 < y.length) (h2 : ¬ n < 2) (h4 : ¬ 40 < n) (hd : decG y n = .ok x) (hy : ∀ z ∈ y, Ed.isL z = true) (w : World) (hS : Sl eB w.heap.size w v0 y) (hT : Tab w) (hTB : TabB w) (hTE : Ed.TabE w) :
    Calls Tryz.prog 6 #[v0, .int .i64 n] w fun e w' => e = .returned (.bool true) ∧ Below w.heap.size w w' := by
  obtain ⟨i0, hi, hz0, hz1, hz2⟩ := info_parts info_u8
  have hwk := wakes_any
  have d1 : decide ((150 : Int) < (y.length : Int)) = false := decide_eq_false (by omega)
  have d2 : decide (n < 2) = false := decide_eq_false h2
  have d3 : decide ((40 : Int) < n) = false := decide_eq_false h4
  have hE := fun v w hT hTB hTE hS => Edit_any y n (by omega) v w hT hTB hTE hS
  have hD := Dec_ok hd (by omega)
  obtain ⟨-, -, hxl, a, b, c, hr0, hwf, hdist, -⟩ := dec_near hd
  have hwl := word_len hr0
  have hL26 := long_26 x.length (by omega)
  have hM := fun v w h => WRMake_ok v x _ hwf w h
  have hV := fun v w h => rValid_any v y (by omega) w h
  have hwb : (wordL x (fldL x a b c)).length ≤ 200 := by rw [hwl]; unfold wlongN; omega
  have hN := fun va vb w h1 h2 => RNear_any va vb (wordL x (fldL x a b c)) y (by omega) (by omega) hdist w h1 h2
  have hne : ((x.length : Int) != n) = false := by rw [hxl]; simp
  rw [decide_eq_true (p := ∀ k, k < y.length → codeOf (atB y k).toNat ≠ -1) ((four_isL y).2 hy)] at hV
  obtain ⟨d, he1, he2, he3⟩ := edit_told hd hr0 hy
  rw [he1] at hE
  have hsame := edf_same _ _ d he2 he3
  have hAp := fun v w h => RApply_any v (wordL x (fldL x a b c)) d.k d.z d.b (by rw [hwl]; unfold wlongN; omega) (by omega) w h
  rw [he3] at hAp
  have hD2 := dec_long (y := wordL x (fldL x a b c) ++ [65, 67]) (n := x.length) (by omega) (by omega) (.inr (by rw [List.length_append, hwl]; simp))
  have hD3 := dec_long (y := (wordL x (fldL x a b c)).drop 2) (n := x.length) (by omega) (by omega) (.inl (by rw [List.length_drop, hwl]; unfold wlongN; omega))
  rw [hxl] at hD2 hD3
  have f2 := Dec_no hD2 (by simp; omega)
  have f3 := Dec_no hD3 (by simp; omega)
  have hw27 : 4 < (wordL x (fldL x a b c)).length := by rw [hwl]; unfold wlongN longN; omega
  obtain ⟨k, z, bb⟩ := d
  generalize wordL x (fldL x a b c) = W0 at *
  have HL := Lib.hid hxl
  have HW := Lib.hid (And.intro hw27 hwb)
  have hk0 : ((k.toNat : Int) == 0) = decide (W0 = y) := by
   rw [show ((k.toNat : Int) == 0) = decide (k = 0) from ?_]
   · exact decide_eq_decide.2 hsame
   · by_cases e : k = 0
     · subst e; rfl
     · rw [decide_eq_false e, beq_eq_false_iff_ne]
       intro h
       exact e (UInt8.toNat_inj.1 (by show k.toNat = 0; omega))
  clear hd h2 h4 h0 hwl hwf hr0 hdist hy hxl hL26 hwb he1 he2 he3 hsame hD2 hD3 hw27
  simp only at hE hAp
  obtain ⟨A, c, rfl⟩ := hS.len
  go_enter Tryz.func6, Tryz.ntmps6
  go_wp2_with fail
  go_at_call 9
  refine (hD _ _ hT hTB hS).mono ?_
  rintro e w1 ⟨hB, u1, rfl, hu1⟩
  have hT := hT.below hB
  have hTB := hTB.below hB
  have hTE := hTE.below hB
  have hS := hS.next hB
  clear hD
  go_wp2_with fail
  go_at_call 11
  refine (hE _ _ hT hTB hTE hS).mono ?_
  rintro e w2 ⟨rfl, hC⟩
  have hB := below_trans hB hC
  have hT := hT.below hC
  have hTB := hTB.below hC
  have hTE := hTE.below hC
  have hS := hS.next hC
  have hA0 := hC
  clear hE hC
  have hr := Rowed.new w2 28 (Ed.cE k z bb)
  have hA := below_alloc w2 (.cells (Ed.cE k z bb) 28)
  have hA0 := below_trans hA0 hA
  have hB := below_trans hB hA
  have hT := hT.below hA
  have hTB := hTB.below hA
  have hTE := hTE.below hA
  have hS := hS.next hA
  have hcx : (Ed.eE k z bb).cells = (Ed.cE k z bb) := rfl
  have p0 := hr.cell 0
  have p1 := hr.cell 1
  have p2 := hr.cell 2
  have hu1 := hu1.next hA0
  obtain ⟨A1, c1, rfl⟩ := hu1.len
  go_wp2_with fail
  generalize w2.alloc (.cells (Ed.cE k z bb) 28) = w3 at *
  have hlt3 := hr.lt
  go_at_call 17
  refine (hM _ _ hu1).mono ?_
  rintro e w4 ⟨hC, u4, rfl, hu4⟩
  have hB := below_trans hB hC
  have hT := hT.below hC
  have hTB := hTB.below hC
  have hTE := hTE.below hC
  have hS := hS.next hC
  have hr := hr.below hC hlt3
  clear hC hM hu1 p0 p1 p2
  go_wp2_with fail
  go_at_call 20
  refine (hN _ _ _ hu4 hS).mono ?_
  rintro e w5 ⟨rfl, hC⟩
  have hB := below_trans hB hC
  have hT := hT.below hC
  have hTB := hTB.below hC
  have hTE := hTE.below hC
  have hS := hS.next hC
  have hr := hr.below hC hr.lt
  have hu4 := hu4.next hC
  have p0 := hr.cell 0
  have p1 := hr.cell 1
  have p2 := hr.cell 2
  clear hC hN hA hA0 hlt3
  go_wp2_with fail
  go_at_call 21
  refine (hV _ _ hS).mono ?_
  rintro e w' ⟨rfl, rfl⟩
  go_wp2_with fail
  go_at_call 18
  refine (hAp _ _ hu4).mono ?_
  rintro e w6 ⟨u6, rfl, hu6, hC⟩
  have hB := below_trans hB hC
  have hT := hT.below hC
  have hTB := hTB.below hC
  have hTE := hTE.below hC
  have hS := hS.next hC
  have hr := hr.below hC hr.lt
  have hu4 := hu4.next hC
  have hsm := Gp.same_eq _ _ y _ _ hu6 hS
  clear hC hAp hu6 p0 p1 p2
  go_wp2_with fail
  go_at_call 15
  refine hsm.mono ?_
  rintro e w' ⟨rfl, rfl⟩
  have hA5 := below_alloc w6 (.cells #[] 5)
  have hrow := row_made w6
  have hu6 : Sl eB w6.heap.size (w6.alloc (.cells #[] 5)) u4 W0 := hu4.below hA5
  have hw9 := HW.out
  have qz : (⟨#[65, 67]⟩ : ByteArray).size = 2 := rfl
  have qa : 0 + W0.length + (⟨#[65, 67]⟩ : ByteArray).size ≤ maxLen := by rw [qz]; unfold maxLen; omega
  have qb : 0 + W0.length + (⟨#[65, 67]⟩ : ByteArray).size ≤ 140737488355328 := by rw [qz]; omega
  clear qz
  obtain ⟨A4, c4, rfl, hc4, hcs4⟩ := id hu4
  obtain ⟨b4, o4, rfl, -⟩ := hcs4 (by omega)
  clear hsm hcs4
  have n1 : ¬ c4 = 2 := by omega
  have n2 : ¬ 2 = c4 := by omega
  have n3 : (2 : Int) ≤ (W0.length : Int) := by omega
  have n4 : ¬ (c4 : Int) < 2 := by omega
  have HC4 := Lib.hid hc4
  clear hw9 hc4
  go_wp2_with
    (first
     | (at_builtin
        refine wpList_append_sl _ rfl (.tmp 103) (.tmp 104) _ rfl w6.heap.size 5 i0 (.int .u8 0) 1 Tryz.underlying22 hi hz0 hz1 hz2 rfl _ 0 [] hrow rfl w6.heap.size _ W0 hu6 rfl (fun _ => rfl) (by have := HW.out; unfold maxLen; omega) (by have := HW.out; omega) (by simp) ?_
        intro v1 w7 hown1 hg1 hat1
        have hB7 := hA5.trans (below_grown hrow hg1 hA5.size (Nat.le_refl _)))
     | (at_builtin
        refine Lib.wpList_append_own_string _ rfl (.tmp 105) _ _ _ rfl w6.heap.size 5 i0 Tryz.underlying22 Tryz.underlying9 hi hz0 hz1 hz2 _ _ _ rfl hown1 ⟨#[65, 67]⟩ rfl qa qb hB7.size ?_
        intro v2 w8 hown2 hg2 hat2
        have hB8 := hB7.trans (below_grown hown1 hg2 hB7.size (Nat.le_refl _))))
  have e9 : Lib.strCells ⟨#[65, 67]⟩ = ([65, 67] : List UInt8).map eB := rfl
  have hsl : Sl eB w8.heap.size w8 v2 (W0 ++ [65, 67]) := Sl.of_own (n := 0 + W0.length + (⟨#[65, 67]⟩ : ByteArray).size) (by rw [e9] at hown2; simpa using hown2)
  have hB := below_trans hB hB8
  have hT := hT.below hB8
  have hTB := hTB.below hB8
  have hTE := hTE.below hB8
  have hS := hS.next hB8
  have hr := hr.below hB8 hr.lt
  have hu4 := hu4.next hB8
  clear hown1 hown2 hg1 hg2 hat1 hat2 hB7 hB8 e9 qa qb hu6 hrow hA5
  go_at_call 9
  refine (f2 _ _ hT hTB hsl).mono ?_
  rintro e w9 ⟨hC, rfl⟩
  have hB := below_trans hB hC
  have hT := hT.below hC
  have hTB := hTB.below hC
  have hTE := hTE.below hC
  have hS := hS.next hC
  have hr := hr.below hC hr.lt
  have hu4 := hu4.next hC
  have s3 := hu4.from_ (p := 2) (by omega) (some ⟨b4, o4 + 2, none⟩) (fun _ => by simp [Addr.add])
  clear hC f2 hsl
  go_wp2_with fail
  go_at_call 9
  refine (f3 _ _ hT hTB s3).mono ?_
  rintro e w10 ⟨hC, rfl⟩
  have hB := below_trans hB hC
  have hT := hT.below hC
  have hTB := hTB.below hC
  have hTE := hTE.below hC
  have hS := hS.next hC
  have hr := hr.below hC hr.lt
  have hu4 := hu4.next hC
  clear hC f3 s3
  have hsm := fun w' (h : Below w10.heap.size w10 w') => Gp.same_any _ _ W0 y _ _ (hu4.next h) (hS.next h)
  have hwk := fun w' (h : Below w10.heap.size w10 w') => hwk w' (hT.below h) (hTB.below h) (hTE.below h)
  have hlt := hr.lt
  have hd0 : Below w10.heap.size w10 w10.drew := below_drewN' w10
  have hld : ∀ w', Below w10.heap.size w10 w' → w'.cell? ⟨w2.heap.size, 0, none⟩ = some (.int .u8 (k.toNat : Int)) := fun w' h => (h.cell (p := ⟨w2.heap.size, 0, none⟩) hlt).trans (hr.cell 0)
  have hk1 : (decide (W0 = y) = true → (k.toNat : Int) = 0) ∧ (decide (W0 = y) = false → (k.toNat : Int) ≠ 0) := by
   rw [← hk0]
   constructor
   · intro h; simpa using h
   · intro h; simpa using h
  generalize (k.toNat : Int) = kk at *
  cases hq : decide (W0 = y)
  · rw [hq] at hsm
    have hkn := hk1.2 hq
    clear hq hk1 hk0 hu4 hS hr hT hTB hTE
    go_wp2_with fail
    refine wp_region_det (Below w10.heap.size w10) [(118, .int .i64 130), (119, .bool true), (120, .bool true), (121, .int .i64 130), (122, .bool true), (123, .bool true), (124, .bool true), (125, .pointer (some ⟨w2.heap.size, 0, none⟩)), (126, .int .u8 kk), (127, .bool false), (128, .slice (some ⟨b4, o4, none⟩) W0.length c4), (129, .slice A y.length c), (130, .bool false), (131, .bool true), (132, .bool true), (133, .bool true), (134, .bool true), (135, .bool true), (4, .bool true)]
      (by kernel_rfl) (by kernel_rfl) (by kernel_rfl) (by kernel_rfl) (by kernel_rfl) hd0 ?okF ?finF
    case okF =>
     intro A1 hA1
     simp only [putAll, Act.put, List.setIfInBounds_toArray, List.set_cons_zero, List.set_cons_succ] at hA1
     subst hA1
     simp only [detAll]
     refine ⟨?_, ?_, ?_, ?_, ?_, ?_, ?_, ?_, ?_, ?_, ?_, ?_, ?_, ?_, ?_, ?_, ?_, ?_, ?_, trivial⟩
     all_goals
      intro w' hS'
      have hl' := hld w' hS'
      go_simp
      first
       | done
       | exact hS'
       | exact ⟨rfl, hS'⟩
       | (go_at_call 15; refine (hsm _ hS').mono ?_; rintro e w'' ⟨rfl, rfl⟩; exact ⟨rfl, hS'⟩)
       | (go_at_call 8; refine (hwk _ hS').mono ?_; rintro e w'' ⟨rfl, hB'⟩; exact ⟨rfl, below_trans hS' hB'⟩)
    case finF =>
     intro A1 hA1 w11 hS6
     simp only [putAll, Act.put, List.setIfInBounds_toArray, List.set_cons_zero, List.set_cons_succ] at hA1
     subst hA1
     go_wp2_with fail
     go_ret
     exact ⟨rfl, below_trans hB hS6⟩
  · rw [hq] at hsm
    obtain rfl := hk1.1 hq
    clear hq hk1 hk0 hu4 hS hr hT hTB hTE
    go_wp2_with fail
    refine wp_region_det (Below w10.heap.size w10) [(118, .int .i64 130), (119, .bool true), (120, .bool true), (121, .int .i64 130), (122, .bool true), (123, .bool true), (124, .bool true), (125, .pointer (some ⟨w2.heap.size, 0, none⟩)), (126, .int .u8 0), (127, .bool true), (128, .slice (some ⟨b4, o4, none⟩) W0.length c4), (129, .slice A y.length c), (130, .bool true), (131, .bool true), (132, .bool true), (133, .bool true), (134, .bool true), (135, .bool true), (4, .bool true)]
      (by kernel_rfl) (by kernel_rfl) (by kernel_rfl) (by kernel_rfl) (by kernel_rfl) hd0 ?okT ?finT
    case okT =>
     intro A1 hA1
     simp only [putAll, Act.put, List.setIfInBounds_toArray, List.set_cons_zero, List.set_cons_succ] at hA1
     subst hA1
     simp only [detAll]
     refine ⟨?_, ?_, ?_, ?_, ?_, ?_, ?_, ?_, ?_, ?_, ?_, ?_, ?_, ?_, ?_, ?_, ?_, ?_, ?_, trivial⟩
     all_goals
      intro w' hS'
      have hl' := hld w' hS'
      go_simp
      first
       | done
       | exact hS'
       | exact ⟨rfl, hS'⟩
       | (go_at_call 15; refine (hsm _ hS').mono ?_; rintro e w'' ⟨rfl, rfl⟩; exact ⟨rfl, hS'⟩)
       | (go_at_call 8; refine (hwk _ hS').mono ?_; rintro e w'' ⟨rfl, hB'⟩; exact ⟨rfl, below_trans hS' hB'⟩)
    case finT =>
     intro A1 hA1 w11 hS6
     simp only [putAll, Act.put, List.setIfInBounds_toArray, List.set_cons_zero, List.set_cons_succ] at hA1
     subst hA1
     go_wp2_with fail
     go_ret
     exact ⟨rfl, below_trans hB hS6⟩
theorem InnerNear_any (v0 : Value) (y : List UInt8) (n : Int) (w : World) (hS : Sl eB w.heap.size w v0 y) (hT : Tab w) (hTB : TabB w) (hTE : Ed.TabE w) :
    Calls Tryz.prog 6 #[v0, .int .i64 n] w fun e w' => e = .returned (.bool true) ∧ Below w.heap.size w w' := by
  obtain ⟨A, c, rfl⟩ := hS.len
  by_cases h0 : 150 < y.length
  · exact InnerNear_long A c y n h0 w hT hTB hTE
  by_cases h2 : n < 2
  · exact InnerNear_low A c y n h0 h2 w hT hTB hTE
  by_cases h4 : 40 < n
  · exact InnerNear_high A c y n h0 h2 h4 w hT hTB hTE
  cases hd : decG y n with
  | error m =>
    have hm : m = 130 := by
     unfold decG at hd
     rw [if_pos ⟨by omega, by omega⟩] at hd
     split at hd
     · cases hd
     · cases hd; rfl
    rw [hm] at hd
    exact InnerNear_none _ y n h0 h2 h4 hd w hS hT hTB hTE
  | ok x =>
    by_cases hy : ∀ z ∈ y, Ed.isL z = true
    · exact InnerNear_good _ y x n h0 h2 h4 hd hy w hS hT hTB hTE
    · exact InnerNear_bad _ y x n h0 h2 h4 hd hy w hS hT hTB hTE
end Go.Proofs.YtkibigbcdlilkaaGreatDoor
namespace Go.Proofs.YtkibigbcdlilkaaGreatDoor
open Go.RowKit Go.Shelf
attribute [local go_sem] Oper.semAt_some run_store_func
theorem and_u8 (k : UInt8) : bits .and .u8 (k.toNat : Int) 3 = (((k &&& 3).toNat : Nat) : Int) := by
 have e0 : (k &&& 3).toNat = k.toNat % 4 := by
  rw [UInt8.toNat_and]
  exact Nat.and_two_pow_sub_one_eq_mod k.toNat 2
 have h : (BitVec.ofInt IntKind.u8.bits (k.toNat : Int) &&& BitVec.ofInt IntKind.u8.bits 3).toNat = k.toNat % 4 := by
  have e : (BitVec.ofInt IntKind.u8.bits 3).toNat = 2 ^ 2 - 1 := by decide
  rw [BitVec.toNat_and, e, Nat.and_two_pow_sub_one_eq_mod, BitVec.toNat_ofInt]
  show ((k.toNat : Int) % (2 ^ 8 : Nat)).toNat % 4 = _
  have := k.toNat_lt
  omega
 unfold bits
 simp only [h]
 rw [IntWalk.u8_in _ (by omega), e0]
set_option maxRecDepth 100000 in
set_option maxHeartbeats 4000000 in
theorem InnerMends_any (v0 : Value) (l : List Int) (k : UInt8) (z b : Int) (w : World) (h0 : Sl eI w.heap.size w v0 l) (hT : Tab w) (hTB : TabB w) (hTE : Ed.TabE w) :
    Calls Tryz.prog 4 #[v0, .int .u8 k.toNat, .int .i64 z, .int .i64 b] w fun e w' => e = .returned (.bool true) ∧ Below w.heap.size w w' := by
  have hwk := wakes_any
  obtain ⟨A, c, rfl⟩ := h0.len
  by_cases h2 : l.length < 2
  · have d1 : decide ((l.length : Int) < 2) = true := decide_eq_true (by omega)
    have d2 : decide (l.length < 2) = true := decide_eq_true h2
    clear h2 h0
    go_enter Tryz.func4, Tryz.ntmps4
    go_wp2_with fail
    go_at_call 8
    refine (hwk _ hT hTB hTE).mono ?_
    rintro e w7 ⟨rfl, hB7⟩
    go_wp2_with fail
    go_ret
    exact ⟨rfl, hB7⟩
  by_cases h8 : 140 < l.length
  · have d1 : decide ((l.length : Int) < 2) = false := decide_eq_false (by omega)
    have d2 : decide (l.length < 2) = false := decide_eq_false h2
    have d3 : decide ((140 : Int) < (l.length : Int)) = true := decide_eq_true (by omega)
    clear h2 h8 h0
    go_enter Tryz.func4, Tryz.ntmps4
    go_wp2_with fail
    go_at_call 8
    refine (hwk _ hT hTB hTE).mono ?_
    rintro e w7 ⟨rfl, hB7⟩
    go_wp2_with fail
    go_ret
    exact ⟨rfl, hB7⟩
  have d1 : decide ((l.length : Int) < 2) = false := decide_eq_false (by omega)
  have d2 : decide (l.length < 2) = false := decide_eq_false h2
  have d3 : decide ((140 : Int) < (l.length : Int)) = false := decide_eq_false (by omega)
  have hRow := fun w h => Gp.row_any (.slice A l.length c) l (by omega) w h
  have hxl := Gp.textL_length l
  obtain ⟨a', b', c', hr⟩ := row_ok (text_four l) (by omega) (by omega)
  have hwl := word_len hr
  have hw0 := hr.wf
  have hle : (wordL (Gp.textL l) (fldL (Gp.textL l) a' b' c')).length ≤ 300 := by
   rw [hwl]
   have := long_26 (Gp.textL l).length (by omega)
   unfold wlongN
   omega
  have hge : 0 < (wordL (Gp.textL l) (fldL (Gp.textL l) a' b' c')).length := by
   rw [hwl]
   unfold wlongN
   omega
  have hMk := fun v w h => WRMake_ok v _ _ hw0 w h
  have hD := fun y => dec_is (y := y) hr
  generalize fldL (Gp.textL l) a' b' c' = f at *
  have hAp := fun v w h => RApply_any v (wordL (Gp.textL l) f) (k &&& 3) z (letterOf b) hge (by omega) w h
  have hdist := ap_near (s := wordL (Gp.textL l) f) (k &&& 3) z (letterOf b) (by omega)
  have hDy := hD _ hdist
  have hyl : (Ed.apG (wordL (Gp.textL l) f) (k &&& 3) z (letterOf b)).length ≤ 1000 := by
   have := Ed.apG_len (wordL (Gp.textL l) f) (k &&& 3) z (letterOf b) (by omega)
   omega
  have hDec := Dec_ok hDy hyl
  have hk3 := and_u8 k
  have hb3 := bits_and3 b
  have hidx := Gp.run_acgt b
  have hbd : ∀ (k' : UInt8) (z : Int) (b' : UInt8) w, (Instr.build 28 #[(0, .int .u8 k'.toNat), (1, .int .i64 z), (2, eB b')]).run Tryz.prog w = .ok (Ed.eE k' z b') w := fun _ _ _ _ => by kernel_rfl
  have hb4 : 0 ≤ b % 4 ∧ b % 4 < 4 := by omega
  obtain ⟨hb0, hb4⟩ := hb4
  have HL := Lib.hid hxl
  rw [hxl] at hDec
  have hl9 : l.length ≤ 1000 := by omega
  generalize Ed.apG (wordL (Gp.textL l) f) (k &&& 3) z (letterOf b) = y at *
  generalize k &&& 3 = k' at *
  generalize letterOf b = bb at *
  generalize wordL (Gp.textL l) f = W0 at *
  generalize Gp.textL l = x at *
  clear hr hwl hw0 hD hdist hDy hle hge h2 h8 hxl
  go_enter Tryz.func4, Tryz.ntmps4
  go_wp2_with fail
  go_at_call 16
  refine (hRow _ h0).mono ?_
  rintro e w1 ⟨v1, rfl, hv1, hB⟩
  have hx := hv1.sl
  have hT := hT.below hB
  have hTB := hTB.below hB
  have hTE := hTE.below hB
  obtain ⟨A1, c1, rfl⟩ := hx.len
  clear hv1 h0
  rw [HL.out] at hx ⊢
  go_wp2_with fail
  go_at_call 17
  refine (hMk _ _ hx).mono ?_
  rintro e w2 ⟨hC, u2, rfl, hu2⟩
  have hB := below_trans hB hC
  have hT := hT.below hC
  have hTB := hTB.below hC
  have hTE := hTE.below hC
  have hx := hx.next hC
  clear hC hMk
  go_wp2_with fail
  go_at_call 18
  refine (hAp _ _ hu2).mono ?_
  rintro e w3 ⟨u3, rfl, hu3, hC⟩
  have hB := below_trans hB hC
  have hT := hT.below hC
  have hTB := hTB.below hC
  have hTE := hTE.below hC
  have hx := hx.next hC
  clear hC hAp hu2
  go_wp2_with fail
  go_at_call 9
  refine (hDec _ _ hT hTB hu3).mono ?_
  rintro e w4 ⟨hC, u4, rfl, hu4⟩
  have hB := below_trans hB hC
  have hT := hT.below hC
  have hTB := hTB.below hC
  have hTE := hTE.below hC
  have hx := hx.next hC
  have hsm := Gp.same_eq _ _ x _ _ hu4 hx
  clear hC hDec hu3
  go_wp2_with fail
  go_at_call 15
  refine hsm.mono ?_
  rintro e w' ⟨rfl, rfl⟩
  go_wp2_with fail
  go_at_call 8
  refine (hwk _ hT hTB hTE).mono ?_
  rintro e w7 ⟨rfl, hB7⟩
  go_wp2_with fail
  go_ret
  exact ⟨rfl, below_trans hB hB7⟩
end Go.Proofs.YtkibigbcdlilkaaGreatDoor
namespace Go.Proofs.YtkibigbcdlilkaaGreatDoor
open Go.RowKit Go.Shelf
attribute [local go_sem] Oper.semAt_some run_store_func
set_option maxRecDepth 100000 in
set_option maxHeartbeats 4000000 in
theorem InnerAll_any (v0 : Value) (l : List Int) (w : World) (h0 : Sl eI w.heap.size w v0 l) (hT : Tab w) (hTB : TabB w) (hTE : Ed.TabE w) :
    Calls Tryz.prog 5 #[v0] w fun e w' => e = .returned (.bool true) ∧ Below w.heap.size w w' := by
  have hwk := wakes_any
  obtain ⟨A, c, rfl⟩ := h0.len
  by_cases h2 : l.length < 2
  · have d1 : decide ((l.length : Int) < 2) = true := decide_eq_true (by omega)
    have d2 : decide (l.length < 2) = true := decide_eq_true h2
    clear h2 h0
    go_enter Tryz.func5, Tryz.ntmps5
    go_wp2_with fail
    go_at_call 8
    refine (hwk _ hT hTB hTE).mono ?_
    rintro e w7 ⟨rfl, hB7⟩
    go_wp2_with fail
    go_ret
    exact ⟨rfl, hB7⟩
  by_cases h8 : 12 < l.length
  · have d1 : decide ((l.length : Int) < 2) = false := decide_eq_false (by omega)
    have d2 : decide (l.length < 2) = false := decide_eq_false h2
    have d3 : decide ((12 : Int) < (l.length : Int)) = true := decide_eq_true (by omega)
    clear h2 h8 h0
    go_enter Tryz.func5, Tryz.ntmps5
    go_wp2_with fail
    go_at_call 8
    refine (hwk _ hT hTB hTE).mono ?_
    rintro e w7 ⟨rfl, hB7⟩
    go_wp2_with fail
    go_ret
    exact ⟨rfl, hB7⟩
  have d1 : decide ((l.length : Int) < 2) = false := decide_eq_false (by omega)
  have d2 : decide (l.length < 2) = false := decide_eq_false h2
  have d3 : decide ((12 : Int) < (l.length : Int)) = false := decide_eq_false (by omega)
  have hRow := fun w h => Gp.row_any (.slice A l.length c) l (by omega) w h
  have hxl := Gp.textL_length l
  obtain ⟨a', b', c', hr⟩ := row_ok (text_four l) (by omega) (by omega)
  have hwl := word_len hr
  have hw0 := hr.wf
  have hle : (wordL (Gp.textL l) (fldL (Gp.textL l) a' b' c')).length ≤ 300 := by
   rw [hwl]
   have := long_26 (Gp.textL l).length (by omega)
   unfold wlongN
   omega
  have hge : 0 < (wordL (Gp.textL l) (fldL (Gp.textL l) a' b' c')).length := by
   rw [hwl]
   unfold wlongN
   omega
  have hMk := fun v w h => WRMake_ok v _ _ hw0 w h
  have hD := fun (d : Ed.Edt) => dec_is hr (ap_near (s := wordL (Gp.textL l) (fldL (Gp.textL l) a' b' c')) d.k d.z d.b (by omega))
  have hyl := fun (d : Ed.Edt) => Ed.apG_len (wordL (Gp.textL l) (fldL (Gp.textL l) a' b' c')) d.k d.z d.b (by omega)
  rw [hxl] at hD
  have HL := Lib.hid hxl
  have hl9 : l.length ≤ 1000 := by omega
  generalize wordL (Gp.textL l) (fldL (Gp.textL l) a' b' c') = W0 at *
  have hAp := fun (d : Ed.Edt) v w h => RApply_any v W0 d.k d.z d.b hge (by omega) w h
  have hEd := fun v w h => REdits_any v W0 (by omega) w h
  have hDec := fun (d : Ed.Edt) => Dec_ok (hD d) (by have := hyl d; omega)
  have hel := Ed.edG_len W0
  generalize Gp.textL l = x at *
  clear hr hwl hw0 hD h2 h8 hxl hyl
  have hel : (Ed.edG W0).length ≤ 10000 := by omega
  clear hle hge
  go_enter Tryz.func5, Tryz.ntmps5
  go_wp2_with fail
  go_at_call 16
  refine (hRow _ h0).mono ?_
  rintro e w1 ⟨v1, rfl, hv1, hB⟩
  have hx := hv1.sl
  have hT := hT.below hB
  have hTB := hTB.below hB
  have hTE := hTE.below hB
  obtain ⟨A1, c1, rfl⟩ := hx.len
  clear hv1 h0
  rw [HL.out] at hx ⊢
  go_wp2_with fail
  go_at_call 17
  refine (hMk _ _ hx).mono ?_
  rintro e w2 ⟨hC, u2, rfl, hu2⟩
  have hB := below_trans hB hC
  have hT := hT.below hC
  have hTB := hTB.below hC
  have hTE := hTE.below hC
  have hx := hx.next hC
  clear hC hMk
  go_wp2_with fail
  go_at_call 19
  refine (hEd _ _ hu2).mono ?_
  rintro e w3 ⟨u3, rfl, hu3, hC⟩
  have hB := below_trans hB hC
  have hT := hT.below hC
  have hTB := hTB.below hC
  have hTE := hTE.below hC
  have hx := hx.next hC
  have hu2 := hu2.next hC
  obtain ⟨g, cg, rfl, hcl⟩ := ed_open hu3
  clear hC hEd hu3
  go_wp2_with fail
  go_loopw [7] (fun i wr => ∃ k : Nat, k ≤ (Ed.edG W0).length ∧ i = .int .i64 k ∧ Below w3.heap.size w3 wr) (fun i _ => (Ed.edG W0).length - (intOf i).toNat)
  case atStart => exact ⟨0, Nat.zero_le _, rfl, Below.refl _ _⟩
  case round =>
   obtain ⟨k, hk, rfl, hB'⟩ := hrel
   have hTr := hT.below hB'
   have hTBr := hTB.below hB'
   have hTEr := hTE.below hB'
   by_cases hlt : k < (Ed.edG W0).length
   · obtain ⟨d, hd⟩ : ∃ d, (Ed.edG W0)[k]? = some d := ⟨(Ed.edG W0)[k], by simp [hlt]⟩
     obtain ⟨hg, q0, q1, q2⟩ := hcl k d hd
     have r0 := (hB'.cell (p := ⟨g, k * 3, none⟩) hg).trans q0
     have r1 := (hB'.cell (p := ⟨g, k * 3 + 1, none⟩) hg).trans q1
     have r2 := (hB'.cell (p := ⟨g, k * 3 + 2, none⟩) hg).trans q2
     have hkl : (k : Int) < (Ed.edG W0).length := by omega
     have hk9 : k ≤ 10000 := by omega
     have hxr := (hx.below hB').more hB'.size
     have hur := (hu2.below hB').more hB'.size
     have hAd := hAp d
     have hDd := hDec d
     have Hk := Lib.hid hlt
     clear hcl hd q0 q1 q2 hg hlt hAp hDec hx hu2 hT hTB hTE
     go_wp2_with fail
     go_at_call 18
     refine (hAd _ _ hur).mono ?_
     rintro e w5 ⟨u5, rfl, hu5, hC⟩
     have hB' := hB'.trans (hC.mono hB'.size)
     have hTr := hTr.below hC
     have hTBr := hTBr.below hC
     have hTEr := hTEr.below hC
     have hxr := hxr.next hC
     clear hC hAd hur r0 r1 r2
     go_wp2_with fail
     go_at_call 9
     refine (hDd _ _ hTr hTBr hu5).mono ?_
     rintro e w6 ⟨hC, u6, rfl, hu6⟩
     have hB' := hB'.trans (hC.mono hB'.size)
     have hTr := hTr.below hC
     have hTBr := hTBr.below hC
     have hTEr := hTEr.below hC
     have hxr := hxr.next hC
     have hsm := Gp.same_eq _ _ x _ _ hu6 hxr
     clear hC hDd hu5
     go_wp2_with fail
     go_at_call 15
     refine hsm.mono ?_
     rintro e w' ⟨rfl, rfl⟩
     go_wp2_with fail
     go_roundw
     case rel => exact ⟨k + 1, Hk.out, by go_num, hB'⟩
     case measure => have := Hk.out; simp [intOf]; omega
   · obtain rfl : k = (Ed.edG W0).length := by omega
     clear hcl hAp hDec
     go_wp2_with fail
     go_at_call 8
     refine (hwk _ hTr hTBr hTEr).mono ?_
     rintro e w7 ⟨rfl, hB7⟩
     go_wp2_with fail
     go_ret
     exact ⟨rfl, below_trans hB (hB'.trans (hB7.mono hB'.size))⟩
end Go.Proofs.YtkibigbcdlilkaaGreatDoor
namespace Go.Proofs.YtkibigbcdlilkaaGreatDoor
open Go.RowKit Go.Shelf
attribute [local go_sem] Oper.semAt_some run_store_func
theorem below_drewZ (w : World) : Below w.heap.size w w.drew := ⟨rfl, rfl, rfl, Nat.le_refl _, fun _ _ => rfl⟩
theorem apart_two {x y : List UInt8} {n : Nat} (hx : x.length = n) (hy : y.length = n) (h4 : Four x) (k4 : Four y) (h2 : 2 ≤ n) (h30 : n ≤ 30) :
    ∃ wx wy, (∀ v w, Sl eB w.heap.size w v x → Calls Tryz.prog 17 #[v] w fun e w' => Below w.heap.size w w' ∧ ∃ u, e = .returned (.tuple #[u, .int .i64 0]) ∧ Sl eB w'.heap.size w' u wx) ∧
      (∀ v w, Sl eB w.heap.size w v y → Calls Tryz.prog 17 #[v] w fun e w' => Below w.heap.size w w' ∧ ∃ u, e = .returned (.tuple #[u, .int .i64 0]) ∧ Sl eB w'.heap.size w' u wy) ∧
      (∀ v w, Tab w → TabB w → Sl eB w.heap.size w v wx → Calls Tryz.prog 9 #[v, .int .i64 n] w fun e w' => Below w.heap.size w w' ∧ ∃ u, e = .returned (.tuple #[u, .int .i64 0]) ∧ Sl eB w'.heap.size w' u x) ∧
      (∀ v w, Tab w → TabB w → Sl eB w.heap.size w v wy → Calls Tryz.prog 9 #[v, .int .i64 n] w fun e w' => Below w.heap.size w w' ∧ ∃ u, e = .returned (.tuple #[u, .int .i64 0]) ∧ Sl eB w'.heap.size w' u y) ∧
      (x ≠ y → ∃ d : Nat, 3 ≤ d ∧ ∀ va vb w, Sl eB w.heap.size w va wx → Sl eB w.heap.size w vb wy → Calls Tryz.prog 22 #[va, vb] w fun e w' => e = .returned (.int .i64 d) ∧ Below w.heap.size w w') := by
  obtain ⟨a, b, c, hr⟩ := row_ok h4 (by omega) (by omega)
  obtain ⟨a', b', c', hr'⟩ := row_ok k4 (by omega) (by omega)
  have hl := word_len hr
  have hl' := word_len hr'
  have hL := long_26 n (by omega)
  have hw : wlongN n ≤ 200 := by unfold wlongN; omega
  rw [hx] at hl
  rw [hy] at hl'
  have hd := dec_is hr (y := wordL x (fldL x a b c)) (by rw [dist_self]; omega)
  have hd' := dec_is hr' (y := wordL y (fldL y a' b' c')) (by rw [dist_self]; omega)
  rw [hx] at hd
  rw [hy] at hd'
  refine ⟨_, _, fun v w h => WRMake_ok v x _ hr.wf w h, fun v w h => WRMake_ok v y _ hr'.wf w h, Dec_ok hd (by omega), Dec_ok hd' (by omega), fun hne => ?_⟩
  have hf := words_far hr.sums hr'.sums (by omega) hne
  refine ⟨_, hf, fun va vb w s1 s2 => ?_⟩
  have h := RDistance_any va vb _ _ w s1 s2
  rw [List.take_of_length_le (by omega), List.take_of_length_le (by omega)] at h
  exact h
set_option maxRecDepth 100000 in
set_option maxHeartbeats 4000000 in
theorem InnerApart_some (A A' : Option Addr) (c c' : Nat) (l m : List Int) (n : Nat) (hn : min (l.length : Int) (m.length : Int) = (n : Int)) (hnl : n ≤ l.length) (hnm : n ≤ m.length) (h2 : 2 ≤ n) (h30 : n ≤ 30) (w : World) (h0 : Sl eI w.heap.size w (.slice A l.length c) l) (h1 : Sl eI w.heap.size w (.slice A' m.length c') m) (hT : Tab w) (hTB : TabB w) (hTE : Ed.TabE w) :
    Calls Tryz.prog 7 #[.slice A l.length c, .slice A' m.length c'] w fun e w' => e = .returned (.bool true) ∧ Below w.heap.size w w' := by
  have hwk := wakes_any
  have hcl : l.length ≤ c := by obtain ⟨_, _, e, h, -⟩ := id h0; cases e; exact h
  have hcm : m.length ≤ c' := by obtain ⟨_, _, e, h, -⟩ := id h1; cases e; exact h
  have u0 := h0.upto (p := n) hnl
  have u1 := h1.upto (p := n) hnm
  have hxl : (Gp.textL (l.take n)).length = n := by rw [Gp.textL_length, List.length_take]; omega
  have hyl : (Gp.textL (m.take n)).length = n := by rw [Gp.textL_length, List.length_take]; omega
  have hll : (l.take n).length = n := by rw [List.length_take]; omega
  have hml : (m.take n).length = n := by rw [List.length_take]; omega
  have hR0 := fun w h => Gp.row_any (.slice A n c) (l.take n) (by omega) w h
  have hR1 := fun w h => Gp.row_any (.slice A' n c') (m.take n) (by omega) w h
  obtain ⟨wx, wy, f0, f1, f2, f3, f4⟩ := apart_two hxl hyl (text_four _) (text_four _) h2 h30
  have d1 : decide ((n : Int) < 2) = false := decide_eq_false (by omega)
  have d2 : decide ((30 : Int) < (n : Int)) = false := decide_eq_false (by omega)
  have d3 : (n : Int) ≤ (c : Int) := by omega
  have d4 : (n : Int) ≤ (c' : Int) := by omega
  have HN := Lib.hid hn
  generalize Gp.textL (l.take n) = x at *
  generalize Gp.textL (m.take n) = y at *
  clear hn hcl hcm hll hml h0 h1 h2 h30
  have hnl' : (n : Int) ≤ (l.length : Int) := by omega
  have HXL := Lib.hid (And.intro hxl hyl)
  clear hxl hyl hnl hnm
  go_enter Tryz.func7, Tryz.ntmps7
  go_wp2_with (refine wpList_min_v rfl _ _ _ rfl _ _ rfl rfl _ HN.out ?_)
  have hTd := hT.below (below_drewZ w)
  have hTBd := hTB.below (below_drewZ w)
  have hTEd := hTE.below (below_drewZ w)
  have hB := below_drewZ w
  have s0 : Sl eI w.drew.heap.size w.drew (.slice A n c) (l.take n) := u0
  have s1 : Sl eI w.drew.heap.size w.drew (.slice A' n c') (m.take n) := u1
  clear hT hTB hTE u0 u1
  refine wp_region_ghost (CallS [(3, .b x), (7, .b y), (8, .b x), (9, .b y)] w.drew) (fun g => [(28, .slice A l.length c), (29, .int .i64 n), (30, .slice A n c), (31, g 3), (32, .slice A' m.length c'), (33, .int .i64 n), (34, .slice A' n c'), (35, g 7), (6, g 8), (7, g 9)]) (fun _ => undef)
   (by kernel_rfl) (by kernel_rfl) (by kernel_rfl) (by kernel_rfl) (fun _ => by kernel_rfl) ?startA ?okA ?finA
  case startA =>
   intro D hD
   refine CallS.start fun c hc => ?_
   simp only [List.mem_cons, List.not_mem_nil, or_false] at hc
   rcases hc with rfl | rfl | rfl | rfl <;> exact hD _ (by simp)
  case okA =>
   intro T hT'
   simp only [putAll, Act.put, List.setIfInBounds_toArray, List.set_cons_zero, List.set_cons_succ] at hT'
   simp only [ghAll]
   refine ⟨?_, ?_, ?_, ?_, ?_, ?_, ?_, ?_, ?_, ?_, trivial⟩
   · refine gc_op rfl fun D g w' hdp h => ?_
     rw [hT' g]
     clear hT'
     go_simp
     exact Below.refl _ _
   · refine gc_op rfl fun D g w' hdp h => ?_
     rw [hT' g]
     clear hT'
     go_simp
     exact Below.refl _ _
   · refine gc_op rfl fun D g w' hdp h => ?_
     rw [hT' g]
     clear hT'
     go_simp
     exact Below.refl _ _
   · refine gc_call (r := .b x) rfl rfl (by simp) (fun g v => by rw [hT', hT']; rfl) (fun g => by rw [hT' g]; rfl) (fun D g w' hdp h => by
       rw [hT' g]
       unfold Oper.wp
       go_simp
       refine (hR0 _ (s0.next h.1)).mono ?_
       rintro e w3 ⟨v, rfl, hv, hC⟩
       exact ⟨hv.sl, hC⟩)
   · refine gc_op rfl fun D g w' hdp h => ?_
     rw [hT' g]
     clear hT'
     go_simp
     exact Below.refl _ _
   · refine gc_op rfl fun D g w' hdp h => ?_
     rw [hT' g]
     clear hT'
     go_simp
     exact Below.refl _ _
   · refine gc_op rfl fun D g w' hdp h => ?_
     rw [hT' g]
     clear hT'
     go_simp
     exact Below.refl _ _
   · refine gc_call (r := .b y) rfl rfl (by simp) (fun g v => by rw [hT', hT']; rfl) (fun g => by rw [hT' g]; rfl) (fun D g w' hdp h => by
       rw [hT' g]
       unfold Oper.wp
       go_simp
       refine (hR1 _ (s1.next h.1)).mono ?_
       rintro e w3 ⟨v, rfl, hv, hC⟩
       exact ⟨hv.sl, hC⟩)
   · refine gc_call (r := .b x) rfl rfl (by simp) (fun g v => by rw [hT', hT']; rfl) (fun g => by rw [hT' g]; rfl) (fun D g w' hdp h => by
       rw [hT' g]
       unfold Oper.wp
       go_simp
       exact ⟨h.2 (3, .b x) (by simp) (dep_on hdp (by kernel_rfl)), Below.refl _ _⟩)
   · refine gc_call (r := .b y) rfl rfl (by simp) (fun g v => by rw [hT', hT']; rfl) (fun g => by rw [hT' g]; rfl) (fun D g w' hdp h => by
       rw [hT' g]
       unfold Oper.wp
       go_simp
       exact ⟨h.2 (7, .b y) (by simp) (dep_on hdp (by kernel_rfl)), Below.refl _ _⟩)
  case finA =>
   intro T hT' D g WF hall ⟨s1', s2⟩
   have hTg := hT' g
   simp only [putAll, Act.put, List.setIfInBounds_toArray, List.set_cons_zero, List.set_cons_succ] at hTg
   rw [hTg]
   have hx := show Sl eB WF.heap.size WF (g 8) x from s2 (8, .b x) (by simp) (hall 8 (by decide))
   have hy := show Sl eB WF.heap.size WF (g 9) y from s2 (9, .b y) (by simp) (hall 9 (by decide))
   have hB := below_trans hB s1'
   have hT := hTd.below s1'
   have hTB := hTBd.below s1'
   have hTE := hTEd.below s1'
   clear hT' hTg hall s2 s1' s0 s1 hTd hTBd hTEd hR0 hR1
   generalize g 3 = g3 at *
   generalize g 7 = g7 at *
   generalize g 8 = g8 at *
   generalize g 9 = g9 at *
   obtain ⟨A8, c8, rfl⟩ := hx.len
   obtain ⟨A9, c9, rfl⟩ := hy.len
   rw [HXL.out.1] at hx ⊢
   rw [HXL.out.2] at hy ⊢
   go_wp2_with fail
   go_at_call 17
   refine (f0 _ _ hx).mono ?_
   rintro e w2 ⟨hC, u2, rfl, hu2⟩
   have hB := below_trans hB hC
   have hT := hT.below hC
   have hTB := hTB.below hC
   have hTE := hTE.below hC
   have hx := hx.next hC
   have hy := hy.next hC
   clear hC f0
   go_wp2_with fail
   go_at_call 17
   refine (f1 _ _ hy).mono ?_
   rintro e w3 ⟨hC, u3, rfl, hu3⟩
   have hB := below_trans hB hC
   have hT := hT.below hC
   have hTB := hTB.below hC
   have hTE := hTE.below hC
   have hx := hx.next hC
   have hy := hy.next hC
   have hu2 := hu2.next hC
   clear hC f1
   go_wp2_with fail
   go_at_call 9
   refine (f2 _ _ hT hTB hu2).mono ?_
   rintro e w4 ⟨hC, u4, rfl, hu4⟩
   have hB := below_trans hB hC
   have hT := hT.below hC
   have hTB := hTB.below hC
   have hTE := hTE.below hC
   have hx := hx.next hC
   have hy := hy.next hC
   have hu2 := hu2.next hC
   have hu3 := hu3.next hC
   clear hC f2
   go_wp2_with fail
   go_at_call 9
   refine (f3 _ _ hT hTB hu3).mono ?_
   rintro e w5 ⟨hC, u5, rfl, hu5⟩
   have hB := below_trans hB hC
   have hT := hT.below hC
   have hTB := hTB.below hC
   have hTE := hTE.below hC
   have hx := hx.next hC
   have hy := hy.next hC
   have hu2 := hu2.next hC
   have hu3 := hu3.next hC
   have hu4 := hu4.next hC
   have k1 := Gp.same_eq _ _ x _ _ hu4 hx
   have k2 := Gp.same_eq _ _ y _ _ hu5 hy
   have k3 := Gp.same_any _ _ x y _ _ hx hy
   clear hC f3 hu4 hu5
   by_cases hxy : x = y
   · rw [decide_eq_true hxy] at k3
     clear hxy f4
     go_wp2_with fail
     go_at_call 15
     refine k1.mono ?_
     rintro e w' ⟨rfl, rfl⟩
     go_wp2_with fail
     go_at_call 15
     refine k2.mono ?_
     rintro e w' ⟨rfl, rfl⟩
     go_wp2_with fail
     go_at_call 15
     refine k3.mono ?_
     rintro e w' ⟨rfl, rfl⟩
     go_wp2_with fail
     go_at_call 8
     refine (hwk _ hT hTB hTE).mono ?_
     rintro e w7 ⟨rfl, hB7⟩
     go_wp2_with fail
     go_ret
     exact ⟨rfl, below_trans hB hB7⟩
   · rw [decide_eq_false hxy] at k3
     obtain ⟨d, hd, hD⟩ := f4 hxy
     have hd3 : (3 : Int) ≤ (d : Int) := by omega
     have hDd := hD _ _ _ hu2 hu3
     clear hxy f4 hD
     go_wp2_with fail
     go_at_call 15
     refine k1.mono ?_
     rintro e w' ⟨rfl, rfl⟩
     go_wp2_with fail
     go_at_call 15
     refine k2.mono ?_
     rintro e w' ⟨rfl, rfl⟩
     go_wp2_with fail
     go_at_call 15
     refine k3.mono ?_
     rintro e w' ⟨rfl, rfl⟩
     go_wp2_with fail
     go_at_call 22
     refine hDd.mono ?_
     rintro e w6 ⟨rfl, hC⟩
     have hB := below_trans hB hC
     have hT := hT.below hC
     have hTB := hTB.below hC
     have hTE := hTE.below hC
     go_wp2_with fail
     go_at_call 8
     refine (hwk _ hT hTB hTE).mono ?_
     rintro e w7 ⟨rfl, hB7⟩
     go_wp2_with fail
     go_ret
     exact ⟨rfl, below_trans hB hB7⟩
theorem min_is (a b : Nat) : min (a : Int) (b : Int) = ((min a b : Nat) : Int) := by omega
set_option maxRecDepth 100000 in
set_option maxHeartbeats 4000000 in
theorem InnerApart_any (v0 : Value) (l : List Int) (v1 : Value) (m : List Int) (w : World) (h0 : Sl eI w.heap.size w v0 l) (h1 : Sl eI w.heap.size w v1 m) (hT : Tab w) (hTB : TabB w) (hTE : Ed.TabE w) :
    Calls Tryz.prog 7 #[v0, v1] w fun e w' => e = .returned (.bool true) ∧ Below w.heap.size w w' := by
  obtain ⟨A, c, rfl⟩ := h0.len
  obtain ⟨A', c', rfl⟩ := h1.len
  have hn := min_is l.length m.length
  have hle := Nat.min_le_left l.length m.length
  have hre := Nat.min_le_right l.length m.length
  generalize min l.length m.length = n at *
  have hwk := wakes_any
  have HN := Lib.hid hn
  by_cases h2 : n < 2
  · have d1 : decide ((n : Int) < 2) = true := decide_eq_true (by omega)
    have d2 : decide (n < 2) = true := decide_eq_true h2
    clear h2 h0 h1 hn hle hre
    go_enter Tryz.func7, Tryz.ntmps7
    go_wp2_with (first | (refine wpList_min_v rfl _ _ _ rfl _ _ rfl rfl _ HN.out ?_) | (go_at_call 8; refine (hwk _ hT hTB hTE).mono ?_; rintro e w7 ⟨rfl, hB7⟩))
    go_ret
    exact ⟨rfl, hB7⟩
  by_cases h3 : 30 < n
  · have d1 : decide ((n : Int) < 2) = false := decide_eq_false (by omega)
    have d2 : decide (n < 2) = false := decide_eq_false h2
    have d3 : decide ((30 : Int) < (n : Int)) = true := decide_eq_true (by omega)
    clear h2 h3 h0 h1 hn hle hre
    go_enter Tryz.func7, Tryz.ntmps7
    go_wp2_with (first | (refine wpList_min_v rfl _ _ _ rfl _ _ rfl rfl _ HN.out ?_) | (go_at_call 8; refine (hwk _ hT hTB hTE).mono ?_; rintro e w7 ⟨rfl, hB7⟩))
    go_ret
    exact ⟨rfl, hB7⟩
  exact InnerApart_some A A' c c' l m n hn hle hre (by omega) (by omega) w h0 h1 hT hTB hTE
end Go.Proofs.YtkibigbcdlilkaaGreatDoor
