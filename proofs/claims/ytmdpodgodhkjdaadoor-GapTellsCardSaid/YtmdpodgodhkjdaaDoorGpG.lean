/- Contract of gap.gap. -/
import Derived.Test.YtmdpodgodhkjdaaDoorGpI
import Derived.Test.YtmdpodgodhkjdaaDoorGpF
import Derived.Test.YtmdpodgodhkjdaaDoorIV
namespace Go.Proofs.YtmdpodgodhkjdaaDoor
open Go.RowKit Go.Shelf
attribute [local go_sem] Oper.semAt_some run_store_func

/-- Whether the sum with c at p is t. -/
def hitG (y : List UInt8) (t s : Int) (p : Nat) : Bool := placesG y (missL y s) p == t
/-- The word of which y comes, by two sums. -/
def gapG (y : List UInt8) (t s : Int) : Except Int (List UInt8) := match fitsG y with
  | some m => .error m
  | none => if s < 0 ∨ 3 < s then .error 130 else match (List.range (y.length + 1)).find? (hitG y t s) with
    | none => .error 130
    | some p => .ok (insW y p (missL y s))
theorem firstG {q : Nat → Bool} {n p : Nat} (hp : p < n) (hh : q p = true) (hno : ∀ j, j < p → q j = false) : (List.range n).find? q = some p := by
  rw [List.find?_range_eq_some]
  exact ⟨hh, by simpa using hp, fun j hj => by simp [hno j hj]⟩
theorem noneG {q : Nat → Bool} {n : Nat} (hno : ∀ j, j < n → q j = false) : (List.range n).find? q = none := by
  rw [List.find?_eq_none]
  intro j hj
  simp [hno j (by simpa using hj)]
theorem keep_below {B : Nat} {W W' : World} (h : Keep B B W W') : Below B W W' := ⟨h.1.1, h.1.2.1, h.1.2.2.1, h.1.2.2.2, fun k hk => h.2 k hk (by omega)⟩
theorem below_put2 {B D : Nat} {w W : World} (h : Below B w W) (o : Obj) (hD : B ≤ D) : Below B w (W.putObj D o) :=
  ⟨h.os, h.tape, h.output, by have := h.size; simpa [World.putObj] using this, fun k hk => (World.putObj_heap_other (by omega)).trans (h.block k hk)⟩
/-- What gap does. -/
abbrev GapIs (y : List UInt8) (t s : Int) (W : World) : Ending → World → Prop := fun e w' => Below W.heap.size W w' ∧ ((∃ x v, gapG y t s = .ok x ∧ e = .returned v ∧ Own8 W.heap.size w' v x) ∨ ∃ m, gapG y t s = .error m ∧ e = .panicked (errno m))
set_option maxRecDepth 100000 in
set_option maxHeartbeats 1000000 in
theorem gap_bad (y : List UInt8) (t s m : Int) (hf : fitsG y = some m) (hreach : y.length ≤ 1000000) (sv : Value) (w : World) (hT : Tab w) (hS : Sl eB w.heap.size w sv y) :
    Calls Tryd.prog 44 #[sv, .int .i64 t, .int .i64 s] w (GapIs y t s w) := by
  have Hg := Lib.hid (show gapG y t s = .error m by rw [gapG, hf])
  have hM := fun w hT hS => missing_no y s m hf sv w hT hS hreach
  have hA := below_alloc w (.cells #[.int .i64 t] 3)
  obtain ⟨A, cap, rfl⟩ := hS.len
  clear hf
  refine (callsIn_wide (n := 5)).1 ?_
  refine callsIn_of_wp_marks Tryd.func44 rfl trivial ?_ rfl
  simp only [Tryd.ntmps44, List.size_toArray, List.length_cons, List.length_nil, Nat.reduceAdd, Nat.reduceSub, Array.replicate_succ, Array.replicate_zero, List.push_toArray, List.append_toArray, List.nil_append, List.cons_append]
  gi_wp2_with fail
  apply wpIn_scope_straight
  gi_wp2_with fail
  refine ⟨trivial, ?_⟩
  gi_at_call 35
  refine (callsIn_wide.2 (hM _ (hT.below hA) (hS.next hA))).mono ?_
  rintro e w1 ⟨rfl, hB⟩
  exact ⟨below_trans hA hB, .inr ⟨m, Hg.out, rfl⟩⟩
set_option maxRecDepth 100000 in
set_option maxHeartbeats 1000000 in
theorem gap_num (y : List UInt8) (t s : Int) (hf : fitsG y = none) (hs : s < 0 ∨ 3 < s) (hreach : y.length ≤ 1000000) (sv : Value) (w : World) (hT : Tab w) (hS : Sl eB w.heap.size w sv y) :
    Calls Tryd.prog 44 #[sv, .int .i64 t, .int .i64 s] w (GapIs y t s w) := by
  have Hg := Lib.hid (show gapG y t s = .error 130 by rw [gapG, hf]; simp only [if_pos hs])
  have hM := fun w hT hS => missing_yes y s hf sv w hT hS hreach
  have hA := below_alloc w (.cells #[.int .i64 t] 3)
  obtain ⟨A, cap, rfl⟩ := hS.len
  have hd : decide (s < 0) = true ∨ (decide (s < 0) = false ∧ decide (3 < s) = true) := by
    by_cases h : s < 0
    · exact .inl (decide_eq_true h)
    · exact .inr ⟨decide_eq_false h, decide_eq_true (by omega)⟩
  clear hf hs
  rcases hd with g1 | ⟨g1, g2⟩
  all_goals
    refine (callsIn_wide (n := 5)).1 ?_
    refine callsIn_of_wp_marks Tryd.func44 rfl trivial ?_ rfl
    simp only [Tryd.ntmps44, List.size_toArray, List.length_cons, List.length_nil, Nat.reduceAdd, Nat.reduceSub, Array.replicate_succ, Array.replicate_zero, List.push_toArray, List.append_toArray, List.nil_append, List.cons_append]
    gi_wp2_with fail
    apply wpIn_scope_straight
    gi_wp2_with fail
    refine ⟨trivial, ?_⟩
    gi_at_call 35
    refine (callsIn_wide.2 (hM _ (hT.below hA) (hS.next hA))).mono ?_
    rintro e w1 ⟨rfl, hB⟩
    gi_wp2_with fail
    exact ⟨below_trans hA hB, .inr ⟨130, Hg.out, rfl⟩⟩
end Go.Proofs.YtmdpodgodhkjdaaDoor
