/- Contract of extra.find. -/
import Derived.Test.YtpjpfgahjalggaaDoorExC
import Derived.Test.YtpjpfgahjalggaaDoorRgA
import Derived.Laws.StructEq
namespace Go.Proofs.YtpjpfgahjalggaaDoor
open Go.RowKit Go.Shelf
attribute [local go_sem] Oper.semAt_some run_store_func

theorem eqS (a b c a' b' c' : Int) (w : World) : (Op.equalIn 10000 24 (v3 a b c) (v3 a' b' c')).run Tryd.prog w = .ok (a == a' && (b == b' && c == c')) w := by
  have u3 := Tryd.underlying3
  have hS : Tryd.prog.underlying 24 = some (.struct (Tryd.prog.fieldsOf 24)) := by kernel_rfl
  have hp : Tryd.prog.stoodInHeld 24 = false := by kernel_rfl
  have hi1 : ∀ (d : Nat) (x y : Int) w, (Op.equalIn (d + 1) 3 (.int .i64 x) (.int .i64 y)).run Tryd.prog w = .ok (x == y) w := fun d x y w => run_equalIn_int w d 3 .i64 .i64 x y u3
  rw [show (10000 : Nat) = 9999 + 1 from rfl, run_equalIn_agg w 9999 24 _ _ hS hp]
  simp only [Program.fieldsOf, Tryd.underlying24]
  have hsz : (Tryd.prog.info? 3).map (·.size) = some 1 := by kernel_rfl
  go_simp
  by_cases h1 : a = a' <;> by_cases h2 : b = b' <;> by_cases h3 : c = c' <;> simp [h1, h2, h3]
/-- Does y without its letter p have the sums? -/
def hitE (y : List UInt8) (a b c : Int) (p : Nat) : Bool := s1G y p == a && (s2G y p == b && s3G y p == c)
/-- The least such place. -/
def findE (y : List UInt8) (a b c : Int) : Except Int Nat :=
  if y.length < 3 ∨ 1000 < y.length ∨ rightB a b c ((y.length : Int) - 1) = false then .error 2
  else if (-1 : Int) ∈ codesOf y then .error 10
  else match (List.range y.length).find? (hitE y a b c) with
    | none => .error 130
    | some p => .ok p
abbrev FindIs (y : List UInt8) (a b c : Int) (W : World) : Ending → World → Prop := fun e w' => Below W.heap.size W w' ∧ ((∃ p, findE y a b c = .ok p ∧ e = .returned (.int .i64 p)) ∨ ∃ m, findE y a b c = .error m ∧ e = .panicked (errno m))
theorem fourL_iff (y : List UInt8) : FourL y ↔ (-1 : Int) ∉ codesOf y := by
  constructor
  · intro h hm
    obtain ⟨b, hb, e⟩ := List.mem_map.1 hm
    obtain ⟨k, hk, rfl⟩ := List.mem_iff_getElem.1 hb
    exact h k hk (by rw [show atB y k = y[k] by simp [atB, hk]]; exact e)
  · intro h k hk e
    exact h (List.mem_map.2 ⟨atB y k, by simp [atB, hk], e⟩)
set_option maxRecDepth 100000 in
set_option maxHeartbeats 1000000 in
theorem find_arg (y : List UInt8) (a b c : Int) (h : y.length < 3 ∨ 1000 < y.length ∨ rightB a b c ((y.length : Int) - 1) = false) (sv : Value) (w : World) (hS : Sl eB w.heap.size w sv y) :
    Calls Tryd.prog 18 #[sv, v3 a b c] w (FindIs y a b c w) := by
  have Hg := Lib.hid (show findE y a b c = .error 2 by rw [findE, if_pos h])
  have hR := fun w => Right_any a b c ((y.length : Int) - 1) w
  have hA := below_alloc w (.cells (c3 a b c) 24)
  have hcl : (v3 a b c).cells = c3 a b c := rfl
  have hr := Rowed.new w 24 (c3 a b c)
  have k0 := hr.cell 0
  have k1 := hr.cell 1
  have k2 := hr.cell 2
  obtain ⟨A, cap, rfl⟩ := hS.len
  have hd : (y.length < 3 ∧ decide ((y.length : Int) < 3) = true) ∨ (¬ y.length < 3 ∧ decide ((y.length : Int) < 3) = false ∧ 1000 < y.length ∧ decide ((1000 : Int) < (y.length : Int)) = true) ∨ (¬ y.length < 3 ∧ decide ((y.length : Int) < 3) = false ∧ ¬ 1000 < y.length ∧ decide ((1000 : Int) < (y.length : Int)) = false ∧ rightB a b c ((y.length : Int) - 1) = false ∧ wrap64 ((y.length : Int) - 1) = (y.length : Int) - 1) := by
    by_cases h0 : y.length < 3
    · exact .inl ⟨h0, decide_eq_true (by omega)⟩
    · by_cases h1 : 1000 < y.length
      · exact .inr (.inl ⟨h0, decide_eq_false (by omega), h1, decide_eq_true (by omega)⟩)
      · exact .inr (.inr ⟨h0, decide_eq_false (by omega), h1, decide_eq_false (by omega), by rcases h with h | h | h <;> first | exact h | omega, wrap64_mid _ (by omega) (by omega)⟩)
  clear h hS hr
  rcases hd with ⟨f1, d1⟩ | ⟨f1, d1, f2, d2⟩ | ⟨f1, d1, f2, d2, hf, hwr⟩
  · refine (callsIn_wide (n := 5)).1 ?_
    refine callsIn_of_wp_marks Tryd.func18 rfl trivial ?_ rfl
    simp only [Tryd.ntmps18, List.size_toArray, List.length_cons, List.length_nil, Nat.reduceAdd, Nat.reduceSub, Array.replicate_succ, Array.replicate_zero, List.push_toArray, List.append_toArray, List.nil_append, List.cons_append]
    gi_wp2_with fail
    apply wpIn_scope_straight
    gi_wp2_with fail
    refine ⟨trivial, ?_⟩
    gi_wp2_with fail
    exact ⟨hA, .inr ⟨2, Hg.out, rfl⟩⟩
  · refine (callsIn_wide (n := 5)).1 ?_
    refine callsIn_of_wp_marks Tryd.func18 rfl trivial ?_ rfl
    simp only [Tryd.ntmps18, List.size_toArray, List.length_cons, List.length_nil, Nat.reduceAdd, Nat.reduceSub, Array.replicate_succ, Array.replicate_zero, List.push_toArray, List.append_toArray, List.nil_append, List.cons_append]
    gi_wp2_with fail
    apply wpIn_scope_straight
    gi_wp2_with fail
    refine ⟨trivial, ?_⟩
    gi_wp2_with fail
    exact ⟨hA, .inr ⟨2, Hg.out, rfl⟩⟩
  · refine (callsIn_wide (n := 5)).1 ?_
    refine callsIn_of_wp_marks Tryd.func18 rfl trivial ?_ rfl
    simp only [Tryd.ntmps18, List.size_toArray, List.length_cons, List.length_nil, Nat.reduceAdd, Nat.reduceSub, Array.replicate_succ, Array.replicate_zero, List.push_toArray, List.append_toArray, List.nil_append, List.cons_append]
    gi_wp2_with fail
    apply wpIn_scope_straight
    gi_wp2_with fail
    refine ⟨trivial, ?_⟩
    gi_at_call 24
    refine (callsIn_wide.2 (hR _)).mono ?_
    rintro e w1 ⟨rfl, hB⟩
    rw [hf]
    gi_wp2_with fail
    exact ⟨below_trans hA hB, .inr ⟨2, Hg.out, rfl⟩⟩
set_option maxRecDepth 100000 in
set_option maxHeartbeats 1000000 in
theorem find_bad (y : List UInt8) (a b c : Int) (h3 : 3 ≤ y.length) (h9 : y.length ≤ 1000) (hR1 : rightB a b c ((y.length : Int) - 1) = true) (hbad : (-1 : Int) ∈ codesOf y) (sv : Value) (w : World) (hT : Tab w) (hS : Sl eB w.heap.size w sv y) :
    Calls Tryd.prog 18 #[sv, v3 a b c] w (FindIs y a b c w) := by
  have Hg := Lib.hid (show findE y a b c = .error 10 by rw [findE, if_neg (by rw [hR1]; simp; omega), if_pos hbad])
  have hR := fun w => Right_any a b c ((y.length : Int) - 1) w
  rw [hR1] at hR
  have hC := fun v w hS hT => Codes_any v y (by omega) w hS hT
  have hA := below_alloc w (.cells (c3 a b c) 24)
  have hcl : (v3 a b c).cells = c3 a b c := rfl
  have hr := Rowed.new w 24 (c3 a b c)
  have k0 := hr.cell 0
  have k1 := hr.cell 1
  have k2 := hr.cell 2
  obtain ⟨A, cap, rfl⟩ := hS.len
  have d1 : decide ((y.length : Int) < 3) = false := decide_eq_false (by omega)
  have d2 : decide ((1000 : Int) < (y.length : Int)) = false := decide_eq_false (by omega)
  have hwr := wrap64_mid ((y.length : Int) - 1) (by omega) (by omega)
  have Hb := Lib.hid hbad
  clear hr hbad hR1
  refine (callsIn_wide (n := 5)).1 ?_
  refine callsIn_of_wp_marks Tryd.func18 rfl trivial ?_ rfl
  simp only [Tryd.ntmps18, List.size_toArray, List.length_cons, List.length_nil, Nat.reduceAdd, Nat.reduceSub, Array.replicate_succ, Array.replicate_zero, List.push_toArray, List.append_toArray, List.nil_append, List.cons_append]
  gi_wp2_with fail
  apply wpIn_scope_straight
  gi_wp2_with fail
  refine ⟨trivial, ?_⟩
  gi_at_call 24
  refine (callsIn_wide.2 (hR _)).mono ?_
  rintro e w1 ⟨rfl, hB⟩
  have hB := below_trans hA hB
  have hT := hT.below hB
  have hS := hS.next hB
  clear hR hA k0 k1 k2
  gi_wp2_with fail
  refine ⟨trivial, ?_⟩
  gi_at_call 25
  refine (callsIn_wide.2 (hC _ _ hS hT)).mono ?_
  rintro e w2 ⟨v, hB2, ⟨rfl, hno, -⟩ | ⟨rfl, -⟩⟩
  · exact absurd Hb.out hno
  · gi_wp2_with fail
    exact ⟨below_trans hB hB2, .inr ⟨10, Hg.out, rfl⟩⟩
end Go.Proofs.YtpjpfgahjalggaaDoor
