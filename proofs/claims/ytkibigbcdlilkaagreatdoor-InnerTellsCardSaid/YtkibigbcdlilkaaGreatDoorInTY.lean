import Derived.Test.YtkibigbcdlilkaaGreatDoorEdXY
import Derived.Test.YtkibigbcdlilkaaGreatDoorInGY
import Derived.Test.YtkibigbcdlilkaaGreatDoorVaAY
namespace Go.Proofs.YtkibigbcdlilkaaGreatDoor
open Go.RowKit Go.Shelf
attribute [local go_sem] Oper.semAt_some run_store_func
theorem ed_open {B : Nat} {W : World} {v : Value} {s : List UInt8} (h : W.ownsRow B 28 3 v (Ed.edG s).length (Ed.flatG (Ed.edG s))) : ∃ (g c : Nat), v = .slice (some ⟨g, 0, none⟩) (Ed.edG s).length c ∧
    ∀ k d, (Ed.edG s)[k]? = some d → g < W.heap.size ∧ W.cell? ⟨g, k * 3, none⟩ = some (eB d.k) ∧ W.cell? ⟨g, k * 3 + 1, none⟩ = some (.int .i64 d.z) ∧ W.cell? ⟨g, k * 3 + 2, none⟩ = some (eB d.b) := by
  obtain ⟨n, hn⟩ : ∃ n, (Ed.edG s).length = n + 1 := ⟨(Ed.upS s s.length ++ Ed.upM (s.length + 1)).length, rfl⟩
  rw [hn] at h ⊢
  obtain ⟨g, c, rfl⟩ := ownsRow_succ h
  refine ⟨g, c, rfl, fun k d hk => ?_⟩
  obtain ⟨a0, a1, a2⟩ := Ed.flatG_at _ k d hk
  have hc := h.cells (g := g) rfl
  have he : ∀ j, ((⟨g, 0, none⟩ : Addr).add j) = ⟨g, j, none⟩ := fun j => by rcases j with _ | j <;> simp [Addr.add]
  have b0 := hc _ _ a0
  have b1 := hc _ _ a1
  have b2 := hc _ _ a2
  rw [he] at b0 b1 b2
  exact ⟨World.block_lt_of_cell? _ _ b0, b0, b1, b2⟩
abbrev c0 : Array Value := #[.int .u8 0, .int .i64 0, .int .u8 0]
theorem one_c0 : c0.all (·.oneCell') = true := by simp [Value.oneCell']
theorem size_c0 : (Tryz.prog.info? 28).map (·.size) = some c0.size := by kernel_rfl
set_option maxRecDepth 100000 in
set_option maxHeartbeats 2000000 in
theorem edit_arg (n : Int) (h : ¬ (2 ≤ n ∧ n ≤ 800)) (sv : Value) (w : World) :
    Calls Tryz.prog 11 #[sv, .int .i64 n] w fun e w' => e = .returned (.tuple #[Ed.eE 0 0 0, .int .i64 2]) ∧ Below w.heap.size w w' := by
  have hL := fun w => WLong_no n (by omega) w
  have hr := Rowed.new w 28 c0
  have hA := below_alloc w (.cells c0 28)
  have hbd : ∀ w, (Instr.build 28 #[]).run Tryz.prog w = .ok (.agg c0) w := fun _ => by kernel_rfl
  clear h
  go_enter Tryz.func11, Tryz.ntmps11
  go_wp2_with fail
  generalize w.alloc (.cells c0 28) = w0 at *
  go_at_call 23
  refine (hL _).mono ?_
  clear hL
  rintro e w1 ⟨rfl, rfl⟩
  have hrow := setRow_heap w0 w.heap.size c0 c0 _ _ hr
  have hB3 := below_setRow hA w.heap.size c0 (Nat.le_refl _)
  go_wp2_with (refine wpList_store_row rfl 28 (.tmp 4) (.tmp 13) rfl w.heap.size c0 rfl rfl _ _ hr size_c0 rfl one_c0 ?_)
  refine bodyPost_ret (v := .tuple #[.agg c0, .int .i64 2]) ?_ rfl ⟨rfl, hB3⟩
  exact results_cell_slot (p := 4) (q := 5) rfl _ _ w.heap.size _ _ _ _ rfl hrow Tryz.underlying28 rfl size_c0
set_option maxRecDepth 100000 in
set_option maxHeartbeats 2000000 in
theorem edit_none (y : List UInt8) (n : Nat) (h2 : 2 ≤ n) (h8 : n ≤ 800) (hy : y.length ≤ 1000) (hno : mendG y n = none ∨ (-1 : Int) ∈ codesOf y) (sv : Value) (w : World) (hT : Tab w) (hTB : TabB w) (hS : Sl eB w.heap.size w sv y) :
    Calls Tryz.prog 11 #[sv, .int .i64 n] w fun e w' => e = .returned (.tuple #[.agg c0, .int .i64 130]) ∧ Below w.heap.size w w' := by
  have hL := fun w => WLong_yes n h2 h8 (long_most n h8) w
  have hM := fun w hT hTB hS => mended_any y n h2 h8 hy sv w hT hTB hS
  have hV := fun w hS hT => Valid_any sv y (by omega) w hS hT
  obtain ⟨M, hM0⟩ : ∃ M, wlongN n = M := ⟨_, rfl⟩
  rw [hM0] at hL
  have d1 : decide ((M : Int) < 0) = false := decide_eq_false (by omega)
  have hr := Rowed.new w 28 c0
  have hA := below_alloc w (.cells c0 28)
  have hbd : ∀ w, (Instr.build 28 #[]).run Tryz.prog w = .ok (.agg c0) w := fun _ => by kernel_rfl
  have Hno := Lib.hid hno
  clear hM0 hno
  go_enter Tryz.func11, Tryz.ntmps11
  go_wp2_with fail
  generalize w.alloc (.cells c0 28) = w0 at *
  go_at_call 23
  refine (hL _).mono ?_
  clear hL
  rintro e w1 ⟨rfl, hB1⟩
  have hr := hr.below hB1 hr.lt
  have hA := below_trans hA hB1
  have hM1 := hM w1 (hT.below hA) (hTB.below hA) (hS.next hA)
  clear hM hB1
  go_wp2_with fail
  go_at_call 24
  refine hM1.mono ?_
  clear hM1
  rintro e w2 ⟨hB2, ⟨x, f, v, hm, hf, -, rfl, hv⟩ | ⟨hm, v, rfl⟩⟩
  · have hbad : (-1 : Int) ∈ codesOf y := Hno.out.resolve_left (by rw [hm]; intro h; cases h)
    have hr := hr.below hB2 hr.lt
    have hA := below_trans hA hB2
    have hV2 := hV w2 (hS.next hA) (hT.below hA)
    have hvd : decide ((-1 : Int) ∉ codesOf y) = false := decide_eq_false (fun h => h hbad)
    rw [hvd] at hV2
    clear hV hm hf hvd hbad Hno
    go_wp2_with fail
    go_at_call 28
    refine hV2.mono ?_
    clear hV2
    rintro e w3 ⟨rfl, hB3⟩
    have hr := hr.below hB3 hr.lt
    have hA := below_trans hA hB3
    have hrow := setRow_heap w3 w.heap.size c0 c0 _ _ hr
    have hB4 := below_setRow hA w.heap.size c0 (Nat.le_refl _)
    go_wp2_with (refine wpList_store_row rfl 28 (.tmp 4) (.tmp 27) rfl w.heap.size c0 rfl rfl _ _ hr size_c0 rfl one_c0 ?_)
    refine bodyPost_ret (v := .tuple #[.agg c0, .int .i64 130]) ?_ rfl ⟨rfl, hB4⟩
    exact results_cell_slot (p := 4) (q := 5) rfl _ _ w.heap.size _ _ _ _ rfl hrow Tryz.underlying28 rfl size_c0
  · have hr := hr.below hB2 hr.lt
    have hA := below_trans hA hB2
    have hrow := setRow_heap w2 w.heap.size c0 c0 _ _ hr
    have hB4 := below_setRow hA w.heap.size c0 (Nat.le_refl _)
    clear hV hm Hno
    go_wp2_with (refine wpList_store_row rfl 28 (.tmp 4) (.tmp 27) rfl w.heap.size c0 rfl rfl _ _ hr size_c0 rfl one_c0 ?_)
    refine bodyPost_ret (v := .tuple #[.agg c0, .int .i64 130]) ?_ rfl ⟨rfl, hB4⟩
    exact results_cell_slot (p := 4) (q := 5) rfl _ _ w.heap.size _ _ _ _ rfl hrow Tryz.underlying28 rfl size_c0
end Go.Proofs.YtkibigbcdlilkaaGreatDoor
namespace Go.Proofs.YtkibigbcdlilkaaGreatDoor
open Go.RowKit Go.Shelf
attribute [local go_sem] Oper.semAt_some run_store_func
def hitD (s y : List UInt8) (d : Ed.Edt) : Bool := decide (Ed.apG s d.k d.z d.b = y)
def edfG (s y : List UInt8) : Option Ed.Edt := (Ed.edG s).find? (hitD s y)
set_option maxRecDepth 100000 in
set_option maxHeartbeats 4000000 in
theorem edit_loop (y x f s : List UInt8) (hs : wordL x f = s) (n : Nat) (h2 : 2 ≤ n) (h8 : n ≤ 800) (hy : y.length ≤ 390) (hm : mendG y n = some x) (hf : wfG x = .ok f) (hok : (-1 : Int) ∉ codesOf y) (hs4 : s.length ≤ 400) (sv : Value) (w : World) (hT : Tab w) (hTB : TabB w) (hTE : Ed.TabE w) (hS : Sl eB w.heap.size w sv y) :
    Calls Tryz.prog 11 #[sv, .int .i64 n] w fun e w' => Below w.heap.size w w' ∧ ((∃ d, edfG s y = some d ∧ e = .returned (.tuple #[Ed.eE d.k d.z d.b, .int .i64 0])) ∨ (edfG s y = none ∧ e = .returned (.tuple #[.agg c0, .int .i64 130]))) := by
  have hL := fun w => WLong_yes n h2 h8 (long_most n h8) w
  have hM := fun w hT hTB hS => mended_any y n h2 h8 (by omega) sv w hT hTB hS
  have hV := fun w hS hT => Valid_any sv y (by omega) w hS hT
  have hvd : decide ((-1 : Int) ∉ codesOf y) = true := decide_eq_true hok
  obtain ⟨M, hM0⟩ : ∃ M, wlongN n = M := ⟨_, rfl⟩
  rw [hM0] at hL
  have d1 : decide ((M : Int) < 0) = false := decide_eq_false (by omega)
  have hr := Rowed.new w 28 c0
  have hA := below_alloc w (.cells c0 28)
  have hbd : ∀ w, (Instr.build 28 #[]).run Tryz.prog w = .ok (.agg c0) w := fun _ => by kernel_rfl
  have Hm := Lib.hid (And.intro hm hf)
  clear hM0 hm hf hok
  go_enter Tryz.func11, Tryz.ntmps11
  go_wp2_with fail
  generalize w.alloc (.cells c0 28) = w0 at *
  go_at_call 23
  refine (hL _).mono ?_
  clear hL
  rintro e w1 ⟨rfl, hB1⟩
  have hr := hr.below hB1 hr.lt
  have hA := below_trans hA hB1
  have hM1 := hM w1 (hT.below hA) (hTB.below hA) (hS.next hA)
  clear hM hB1
  go_wp2_with fail
  go_at_call 24
  refine hM1.mono ?_
  clear hM1
  rintro e w2 ⟨hB2, ⟨x', f', v, hm', hf', -, rfl, hv⟩ | ⟨hm', v, rfl⟩⟩
  · obtain rfl : x = x' := Option.some.inj (Hm.out.1.symm.trans hm')
    obtain rfl : f = f' := by have := Hm.out.2.symm.trans hf'; exact Except.ok.inj this
    have hr := hr.below hB2 hr.lt
    have hA := below_trans hA hB2
    have hV2 := hV w2 (hS.next hA) (hT.below hA)
    rw [hvd] at hV2
    clear hV hm' hf' hvd
    rw [hs] at hv
    clear hs
    go_wp2_with fail
    go_at_call 28
    refine hV2.mono ?_
    clear hV2
    rintro e w3 ⟨rfl, hB3⟩
    have hr := hr.below hB3 hr.lt
    have hA := below_trans hA hB3
    have hv := hv.next hB3
    have hE := Ed.Edits_any v s (by omega) w3 hv (hTE.below hA)
    obtain ⟨Av, cv, rfl⟩ := hv.len
    go_wp2_with fail
    go_at_call 29
    refine hE.mono ?_
    clear hE
    rintro e w5 ⟨v5, rfl, hv5, hC⟩
    have hr := hr.below hC hr.lt
    have hA := below_trans hA hC
    have hv := hv.next hC
    have hSy := hS.next hA
    obtain ⟨g5, c5, rfl, hcl⟩ := ed_open hv5
    have hel := Ed.edG_len s
    clear hC hv5 hT hTB hTE
    go_wp2_with fail
    go_loopw [31] (fun i wr => ∃ k : Nat, k ≤ (Ed.edG s).length ∧ i = .int .i64 k ∧ (∀ j d, j < k → (Ed.edG s)[j]? = some d → hitD s y d = false) ∧ Below w5.heap.size w5 wr) (fun i _ => (Ed.edG s).length - (intOf i).toNat)
    case atStart => exact ⟨0, Nat.zero_le _, rfl, fun j d h => absurd h (by omega), Below.refl _ _⟩
    case round =>
     obtain ⟨k, hk, rfl, hno, hB⟩ := hrel
     have hv := (hv.below hB).more hB.size
     have hSy := (hSy.below hB).more hB.size
     by_cases hlt : k < (Ed.edG s).length
     · obtain ⟨d, hd⟩ : ∃ d, (Ed.edG s)[k]? = some d := ⟨(Ed.edG s)[k], by simp [hlt]⟩
       obtain ⟨hg, p0, p1, p2⟩ := hcl k d hd
       have r0 := (hB.cell (p := ⟨g5, k * 3, none⟩) hg).trans p0
       have r1 := (hB.cell (p := ⟨g5, k * 3 + 1, none⟩) hg).trans p1
       have r2 := (hB.cell (p := ⟨g5, k * 3 + 2, none⟩) hg).trans p2
       have hkl : (k : Int) < (Ed.edG s).length := by omega
       have hk9 : k ≤ 10000 := by omega
       have hr9 := Rowed.new wr 28 (Ed.cE d.k d.z d.b)
       have hA9 := below_alloc wr (.cells (Ed.cE d.k d.z d.b) 28)
       have q0 := hr9.cell 0
       have q1 := hr9.cell 1
       have q2 := hr9.cell 2
       have Hk := Lib.hid hlt
       have Hno := Lib.hid (And.intro hno hd)
       have H0 := Lib.hid hB
       have hvn := hv.next hA9
       have hyn := hSy.next hA9
       have hAp := Ed.Apply_any _ s d.k d.z d.b hs4 _ hvn
       clear hcl hd p0 p1 p2 hg hB hk hlt hno
       go_wp2_with fail
       go_at_call 31
       refine hAp.mono ?_
       clear hAp
       rintro e w6 ⟨u6, rfl, hu6, hB6⟩
       have hEq := bEqual_any _ sv _ y _ w6 hu6.sl (hyn.next hB6)
       have hr9 := hr9.below hB6 hr9.lt
       have hB := below_trans H0.out (below_trans hA9 hB6)
       have hr6 := hr.below hB hr.lt
       have hA6 := below_trans hA hB
       have q0 := hr9.cell 0
       have q1 := hr9.cell 1
       have q2 := hr9.cell 2
       clear r0 r1 r2 hvn hyn hu6 hA9 hB6
       have hqd : hitD s y d = decide (Ed.apG s d.k d.z d.b = y) := rfl
       rw [← hqd] at hEq
       clear hqd
       cases hq : hitD s y d with
       | true =>
         rw [hq] at hEq
         have hfind : edfG s y = some d := by
          obtain ⟨h1, h2⟩ := Hno.out
          unfold edfG
          rw [List.find?_eq_some_iff_getElem]
          obtain ⟨hlt, he⟩ := List.getElem?_eq_some_iff.1 h2
          exact ⟨hq, k, hlt, he, fun j hj => by
           rw [h1 j _ hj (List.getElem?_eq_getElem (by omega))]
           rfl⟩
         have Hf := Lib.hid hfind
         have hrow := setRow_heap w6 w.heap.size c0 (Ed.cE d.k d.z d.b) _ _ hr6
         have hB4 := below_setRow hA6 w.heap.size (Ed.cE d.k d.z d.b) (Nat.le_refl _)
         clear hfind hq Hno Hk
         go_wp2_with (first
          | (go_at_call 30; refine hEq.mono ?_; rintro e w7 ⟨rfl, rfl⟩)
          | (refine wpList_store_row rfl 28 (.tmp 4) (.tmp 40) rfl w.heap.size (Ed.cE d.k d.z d.b) rfl rfl _ _ hr6 size_c0 rfl (by simp [Value.oneCell']) ?_))
         refine bodyPost_ret (v := .tuple #[Ed.eE d.k d.z d.b, .int .i64 0]) ?_ rfl ⟨hB4, .inl ⟨d, Hf.out, rfl⟩⟩
         exact results_cell_slot (p := 4) (q := 5) rfl _ _ w.heap.size _ _ _ _ rfl hrow Tryz.underlying28 rfl size_c0
       | false =>
         rw [hq] at hEq
         have HN := Lib.hid (show ∀ j d', j < k + 1 → (Ed.edG s)[j]? = some d' → hitD s y d' = false from fun j d' hj hd' => by
          obtain ⟨h1, h2⟩ := Hno.out
          by_cases e : j < k
          · exact h1 j d' e hd'
          · obtain rfl : j = k := by omega
            rw [h2] at hd'
            obtain rfl := Option.some.inj hd'
            exact hq)
         clear hq Hno
         go_wp2_with (go_at_call 30; refine hEq.mono ?_; rintro e w7 ⟨rfl, rfl⟩)
         go_roundw
         case rel => exact ⟨k + 1, Hk.out, by go_num, HN.out, hB⟩
         case measure => have := Hk.out; simp [intOf]; omega
     · obtain rfl : k = (Ed.edG s).length := by omega
       have hfind : edfG s y = none := by
        unfold edfG
        rw [List.find?_eq_none]
        intro d hd
        obtain ⟨j, hj, rfl⟩ := List.mem_iff_getElem.1 hd
        rw [hno j _ hj (List.getElem?_eq_getElem hj)]
        simp
       have Hf := Lib.hid hfind
       have hr6 := hr.below hB hr.lt
       have hA6 := below_trans hA hB
       have hrow := setRow_heap wr w.heap.size c0 c0 _ _ hr6
       have hB4 := below_setRow hA6 w.heap.size c0 (Nat.le_refl _)
       clear hno hfind
       go_wp2_with (refine wpList_store_row rfl 28 (.tmp 4) (.tmp 42) rfl w.heap.size c0 rfl rfl _ _ hr6 size_c0 rfl one_c0 ?_)
       refine bodyPost_ret (v := .tuple #[.agg c0, .int .i64 130]) ?_ rfl ⟨hB4, .inr ⟨Hf.out, rfl⟩⟩
       exact results_cell_slot (p := 4) (q := 5) rfl _ _ w.heap.size _ _ _ _ rfl hrow Tryz.underlying28 rfl size_c0
  · exact absurd (Hm.out.1.symm.trans hm') (by intro h; cases h)
end Go.Proofs.YtkibigbcdlilkaaGreatDoor
namespace Go.Proofs.YtkibigbcdlilkaaGreatDoor
open Go.RowKit Go.Shelf
attribute [local go_sem] Oper.semAt_some run_store_func
def editG (y : List UInt8) (n : Int) : Ed.Edt × Int :=
 if 2 ≤ n ∧ n ≤ 800 then (match mendG y n.toNat with
  | none => (⟨0, 0, 0⟩, 130)
  | some x => if (-1 : Int) ∈ codesOf y then (⟨0, 0, 0⟩, 130) else match wfG x with
    | .error _ => (⟨0, 0, 0⟩, 130)
    | .ok f => match edfG (wordL x f) y with
      | some d => (d, 0)
      | none => (⟨0, 0, 0⟩, 130)) else (⟨0, 0, 0⟩, 2)
theorem Edit_any (y : List UInt8) (n : Int) (hy : y.length ≤ 390) (sv : Value) (w : World) (hT : Tab w) (hTB : TabB w) (hTE : Ed.TabE w) (hS : Sl eB w.heap.size w sv y) :
    Calls Tryz.prog 11 #[sv, .int .i64 n] w fun e w' => e = .returned (.tuple #[Ed.eE (editG y n).1.k (editG y n).1.z (editG y n).1.b, .int .i64 (editG y n).2]) ∧ Below w.heap.size w w' := by
  by_cases h : 2 ≤ n ∧ n ≤ 800
  · obtain ⟨k, rfl⟩ : ∃ k : Nat, n = k := ⟨n.toNat, by omega⟩
    have h2 : 2 ≤ k := by omega
    have h8 : k ≤ 800 := by omega
    have hE : editG y k = match mendG y k with
     | none => (⟨0, 0, 0⟩, 130)
     | some x => if (-1 : Int) ∈ codesOf y then (⟨0, 0, 0⟩, 130) else match wfG x with
       | .error _ => (⟨0, 0, 0⟩, 130)
       | .ok f => match edfG (wordL x f) y with
         | some d => (d, 0)
         | none => (⟨0, 0, 0⟩, 130) := by
     unfold editG
     rw [if_pos h, Int.toNat_natCast]
    cases hm : mendG y k with
    | none =>
      rw [hm] at hE
      rw [hE]
      exact edit_none y k h2 h8 (by omega) (.inl hm) sv w hT hTB hS
    | some x =>
      rw [hm] at hE
      simp only at hE
      by_cases hb : (-1 : Int) ∈ codesOf y
      · rw [if_pos hb] at hE
        rw [hE]
        exact edit_none y k h2 h8 (by omega) (.inr hb) sv w hT hTB hS
      · rw [if_neg hb] at hE
        obtain ⟨f, hf, hd⟩ := nearG_iff.1 (mend_near hm)
        rw [hf] at hE
        simp only at hE
        have ha := dist_apart (wordL x f) y
        refine (edit_loop y x f _ rfl k h2 h8 hy hm hf hb (by omega) sv w hT hTB hTE hS).mono ?_
        rintro e w' ⟨hB, ⟨d, hd, rfl⟩ | ⟨hd, rfl⟩⟩
        · rw [hd] at hE
          rw [hE]
          exact ⟨rfl, hB⟩
        · rw [hd] at hE
          rw [hE]
          exact ⟨rfl, hB⟩
  · have hE : editG y n = (⟨0, 0, 0⟩, 2) := by unfold editG; rw [if_neg h]
    rw [hE]
    exact edit_arg n h sv w
set_option maxRecDepth 100000 in
set_option maxHeartbeats 2000000 in
theorem Kind_any (y : List UInt8) (n : Int) (hy : y.length ≤ 390) (sv : Value) (w : World) (hT : Tab w) (hTB : TabB w) (hTE : Ed.TabE w) (hS : Sl eB w.heap.size w sv y) :
    Calls Tryz.prog 13 #[sv, .int .i64 n] w fun e w' => e = .returned (.tuple #[eB (editG y n).1.k, .int .i64 (editG y n).2]) ∧ Below w.heap.size w w' := by
  have hE := Edit_any y n hy sv w hT hTB hTE hS
  generalize editG y n = r at *
  obtain ⟨⟨k, z, b⟩, m⟩ := r
  go_enter Tryz.func13, Tryz.ntmps13
  go_wp2_with fail
  go_at_call 11
  refine hE.mono ?_
  clear hE
  rintro e w1 ⟨rfl, hB⟩
  have hr := Rowed.new w1 28 (Ed.cE k z b)
  have hA := below_trans hB (below_alloc w1 (.cells (Ed.cE k z b) 28))
  have q0 := hr.cell 0
  go_wp2_with fail
  go_ret2
  exact ⟨rfl, hA⟩
end Go.Proofs.YtkibigbcdlilkaaGreatDoor
namespace Go.Proofs.YtkibigbcdlilkaaGreatDoor
open Go.RowKit Go.Shelf
theorem long_26 (n : Nat) (h : n ≤ 1000) : longN n ≤ 26 := by
 have := tb_le n h
 have := wb_le n h
 unfold longN zb
 omega
theorem dec_is {x y : List UInt8} {n : Nat} {a b c : Int} (h : RowOk x n a b c) (hy : dist (wordL x (fldL x a b c)) y ≤ 1) : decG y n = .ok x := by
 unfold decG
 rw [if_pos ⟨by have := h.two; omega, by have := h.most; omega⟩, Int.toNat_natCast, mend_all h hy]
theorem wf_ok {x f : List UInt8} (h : wfG x = .ok f) : ∃ a b c, RowOk x x.length a b c ∧ f = fldL x a b c := by
 obtain ⟨⟨h2, h8⟩, -, -, a, b, c, hs, hf⟩ := wfG_ok h
 exact ⟨a, b, c, ⟨rfl, (sums_right hs).2.2.1, h2, h8, hs⟩, hf⟩
theorem isL_code (z : UInt8) : Ed.isL z = true ↔ codeOf z.toNat ≠ -1 := by
 constructor
 · intro h
   obtain ⟨j, hj, rfl⟩ := Ed.lett_of z h
   rcases (show j = 0 ∨ j = 1 ∨ j = 2 ∨ j = 3 by omega) with rfl | rfl | rfl | rfl <;> decide
 · intro h
   rcases code_four h with rfl | rfl | rfl | rfl <;> rfl
theorem letters_mem {s : List UInt8} (h : lettersL s = s) : ∀ z ∈ s, Ed.isL z = true := by
 intro z hz
 rw [isL_code]
 rw [← h] at hz
 obtain ⟨y, -, rfl⟩ := List.mem_map.1 hz
 split
 · decide
 · assumption
theorem word_letters {x : List UInt8} {n : Nat} {a b c : Int} (h : RowOk x n a b c) : lettersL (wordL x (fldL x a b c)) = wordL x (fldL x a b c) := by
 rw [word_tail, lettersL_app, letters_tail, lettersL_four h.four]
theorem word_len {x : List UInt8} {n : Nat} {a b c : Int} (h : RowOk x n a b c) : (wordL x (fldL x a b c)).length = wlongN n := by
 rw [wordL_length x _ (fldL_length _ _ _ _), h.len]
theorem near_edit {s y : List UInt8} (hl : s.length ≤ 1000) (hy : ∀ z ∈ y, Ed.isL z = true) (h : dist s y ≤ 1) : ∃ d, d ∈ Ed.edG s ∧ Ed.apG s d.k d.z d.b = y := by
 obtain ⟨m, hm, hw⟩ := (dist_le_iff _ _ _).1 h
 rcases (show m = 0 ∨ m = 0 + 1 by omega) with rfl | rfl
 · refine ⟨_, Ed.mem_none s, ?_⟩
   rw [Ed.apG_none]
   exact hw.zero rfl
 · obtain ⟨c, h1, h2⟩ := way_step hw 0 rfl hy
   obtain rfl := h2.zero rfl
   exact Ed.step_edit hl h1
theorem codes_letters' (y : List UInt8) : (-1 : Int) ∉ codesOf y ↔ ∀ z ∈ y, Ed.isL z = true := by
 unfold codesOf
 constructor
 · intro h z hz
   rw [isL_code]
   intro e
   exact h (List.mem_map.2 ⟨z, hz, e⟩)
 · intro h hm
   obtain ⟨z, hz, e⟩ := List.mem_map.1 hm
   exact (isL_code z).1 (h z hz) e
theorem edf_some {s y : List UInt8} (hl : s.length ≤ 1000) (hy : ∀ z ∈ y, Ed.isL z = true) (h : dist s y ≤ 1) : ∃ d, (Ed.edG s).find? (hitD s y) = some d := by
 obtain ⟨d, hd, e⟩ := near_edit hl hy h
 cases hf : (Ed.edG s).find? (hitD s y) with
 | some d => exact ⟨d, rfl⟩
 | none =>
   have := List.find?_eq_none.1 hf d hd
   exact absurd (decide_eq_true e) this
theorem ed_let (s : List UInt8) (d : Ed.Edt) (h : d ∈ Ed.edG s) : (d.k = 2 ∨ d.k = 3) → Ed.isL d.b = true := by
 have h4 : ∀ i, i < 4 → Ed.isL (Ed.lettE i) = true := fun i hi => by
  rcases (show i = 0 ∨ i = 1 ∨ i = 2 ∨ i = 3 by omega) with rfl | rfl | rfl | rfl <;> rfl
 unfold Ed.edG at h
 rcases List.mem_cons.1 h with rfl | h
 · intro h; exact absurd h (by decide)
 rcases List.mem_append.1 h with h | h
 · obtain ⟨p, -, h⟩ := List.mem_flatMap.1 h
   rcases List.mem_cons.1 h with rfl | h
   · rintro (h | h)
     · exact absurd h (show ¬ (1 : UInt8) = 2 by decide)
     · exact absurd h (show ¬ (1 : UInt8) = 3 by decide)
   · obtain ⟨i, hi, rfl⟩ := List.mem_map.1 h
     exact fun _ => h4 i (List.mem_range.1 (List.mem_filter.1 hi).1)
 · obtain ⟨p, -, h⟩ := List.mem_flatMap.1 h
   obtain ⟨i, hi, rfl⟩ := List.mem_map.1 h
   exact fun _ => h4 i (List.mem_range.1 hi)
theorem ap_let {s : List UInt8} {d : Ed.Edt} (hs : ∀ z ∈ s, Ed.isL z = true) (h : d ∈ Ed.edG s) : ∀ z ∈ Ed.apG s d.k d.z d.b, Ed.isL z = true := by
 have hb := ed_let s d h
 intro z hz
 unfold Ed.apG at hz
 split at hz
 · split at hz
   · exact hs z hz
   · rcases List.mem_append.1 hz with h | h
     · exact hs z (List.mem_of_mem_take h)
     · exact hs z (List.mem_of_mem_drop h)
 · split at hz
   · rename_i h2
     rcases List.mem_append.1 hz with h | h
     · exact hs z (List.mem_of_mem_take h)
     · rcases List.mem_cons.1 h with rfl | h
       · exact hb (.inl h2)
       · exact hs z (List.mem_of_mem_drop h)
   · split at hz
     · rename_i h3
       split at hz
       · exact hs z hz
       · rcases List.mem_append.1 hz with h | h
         · exact hs z (List.mem_of_mem_take h)
         · rcases List.mem_cons.1 h with rfl | h
           · exact hb (.inr h3)
           · exact hs z (List.mem_of_mem_drop h)
     · exact hs z hz
theorem ap_near {s : List UInt8} (k : UInt8) (z : Int) (b : UInt8) (hl : s.length ≤ 1000) : dist s (Ed.apG s k z b) ≤ 1 := Ed.dist_ap s k z b hl
theorem dec_near {x y : List UInt8} {n : Int} (h : decG y n = .ok x) : 2 ≤ n ∧ n ≤ 800 ∧ (x.length : Int) = n ∧ ∃ a b c, RowOk x x.length a b c ∧ wfG x = .ok (fldL x a b c) ∧ dist (wordL x (fldL x a b c)) y ≤ 1 ∧ mendG y n.toNat = some x := by
 unfold decG at h
 split at h
 · rename_i hn
   split at h
   · rename_i x' hm
     cases h
     have hl := mend_length hm (by omega)
     obtain ⟨f, hf, hd⟩ := nearG_iff.1 (mend_near hm)
     obtain ⟨a, b, c, hr, rfl⟩ := wf_ok hf
     exact ⟨hn.1, hn.2, by omega, a, b, c, hr, hf, hd, hm⟩
   · cases h
 · cases h
theorem dec_error {y : List UInt8} {n m : Int} (h : decG y n = .error m) : editG y n = (⟨0, 0, 0⟩, m) := by
 unfold decG at h
 unfold editG
 split at h
 · rename_i hn
   rw [if_pos hn]
   split at h
   · cases h
   · rename_i hm
     cases h
     rw [hm]
 · rename_i hn
   cases h
   rw [if_neg hn]
theorem dec_long {y : List UInt8} {n : Nat} (h2 : 2 ≤ n) (h8 : n ≤ 800) (h : y.length + 1 < wlongN n ∨ wlongN n + 1 < y.length) : decG y n = .error 130 := by
 unfold decG mendG
 rw [if_pos ⟨by omega, by omega⟩, Int.toNat_natCast, if_pos h]
theorem edit_told {x y : List UInt8} {n : Int} {a b c : Int} (h : decG y n = .ok x) (hr : RowOk x x.length a b c) (hy : ∀ z ∈ y, Ed.isL z = true) :
    ∃ d, editG y n = (d, 0) ∧ edfG (wordL x (fldL x a b c)) y = some d ∧ Ed.apG (wordL x (fldL x a b c)) d.k d.z d.b = y := by
  obtain ⟨h2, h8, hl, a', b', c', hr', hf, hd, hm⟩ := dec_near h
  have hf2 := hr.wf
  have e : fldL x a' b' c' = fldL x a b c := Except.ok.inj (hf.symm.trans hf2)
  rw [e] at hd
  have hwl := word_len hr
  have hap := dist_apart (wordL x (fldL x a b c)) y
  have hL : wlongN x.length ≤ 1000 := by have := long_26 x.length (by omega); unfold wlongN; omega
  obtain ⟨d, hd⟩ := edf_some (s := wordL x (fldL x a b c)) (by omega) hy hd
  refine ⟨d, ?_, hd, ?_⟩
  · unfold editG
    rw [if_pos ⟨h2, h8⟩, hm]
    simp only
    rw [if_neg ((codes_letters' y).2 hy), hf2]
    simp only
    unfold edfG
    rw [hd]
  · have h9 : hitD (wordL x (fldL x a b c)) y d = true := List.find?_some hd
    exact of_decide_eq_true h9
theorem edit_bad {x y : List UInt8} {n : Int} (h : decG y n = .ok x) (hy : ¬ ∀ z ∈ y, Ed.isL z = true) : editG y n = (⟨0, 0, 0⟩, 130) := by
 obtain ⟨h2, h8, hl, a', b', c', hr', hf, hd, hm⟩ := dec_near h
 unfold editG
 rw [if_pos ⟨h2, h8⟩, hm]
 simp only
 rw [if_pos (Decidable.byContradiction fun h => hy ((codes_letters' y).1 h))]
theorem edf_same (s y : List UInt8) (d : Ed.Edt) (h : edfG s y = some d) (hd : Ed.apG s d.k d.z d.b = y) : (d.k = 0 ↔ s = y) := by
 constructor
 · intro e
   rw [e, Ed.apG_none] at hd
   exact hd
 · rintro rfl
   unfold edfG Ed.edG at h
   rw [List.find?_cons_of_pos (by unfold hitD; rw [Ed.apG_none]; exact decide_eq_true rfl)] at h
   cases h
   rfl
end Go.Proofs.YtkibigbcdlilkaaGreatDoor
namespace Go.Proofs.YtkibigbcdlilkaaGreatDoor
open Go.RowKit Go.Shelf
theorem letter_bit {y y' : UInt8} {i : Nat} (h : LetterAt (y, i)) (h' : LetterAt (y', i)) (e : bitB (y, i) = bitB (y', i)) : y = y' := by
 have hne := clsOf_ne i
 unfold LetterAt at h h'
 unfold bitB at e
 simp only at h h' e
 rcases h with h | h <;> rcases h' with h' | h'
 · rw [h, h']
 · rw [if_pos h, h', if_neg (Ne.symm hne)] at e; cases e
 · rw [if_pos h', h, if_neg (Ne.symm hne)] at e; cases e
 · rw [h, h']
theorem told_inj {f f' : List UInt8} {n : Int} {s : Nat × Nat × Nat} (h : ToldOk f n s) (h' : ToldOk f' n s) : f = f' := by
 obtain ⟨-, l1, u1⟩ := h
 obtain ⟨-, l2, u2⟩ := h'
 obtain ⟨a, b, c⟩ := s
 have k1 := (unG_some u1).1
 have k2 := (unG_some u2).1
 have hi := unG_inj u1 u2
 rw [List.length_map, List.length_zipIdx] at k1 k2
 refine List.ext_getElem (by omega) fun i h1 h2 => ?_
 have e := hi i (by omega)
 have e1 : atB (f.zipIdx.map bitB) i = bitB (f[i], i) := by simp [atB, h1]
 have e2 : atB (f'.zipIdx.map bitB) i = bitB (f'[i], i) := by simp [atB, h2]
 rw [e1, e2] at e
 exact letter_bit (l1 _ (List.mk_mem_zipIdx_iff_getElem?.2 (List.getElem?_eq_getElem h1))) (l2 _ (List.mk_mem_zipIdx_iff_getElem?.2 (List.getElem?_eq_getElem h2))) e
def fa (w : List UInt8) (n : Nat) : List UInt8 := (w.take (n + 1 + longN n)).drop (n + 1)
def fb (w : List UInt8) (n : Nat) : List UInt8 := (w.take (n + 1 + 2 * longN n)).drop (n + 1 + longN n)
def fc (w : List UInt8) (n : Nat) : List UInt8 := w.drop (n + 1 + 2 * longN n)
def innG (w : List UInt8) (n : Nat) : Bool :=
 decide (fa w n = fb w n) && decide (fb w n = fc w n) && match toldG (fa w n) n with
  | none => false
  | some (a, b, c) => decide (atB w n = letterOf (jN (atB w (n - 1)) (atB w (n + 1)) : Nat)) && match sumsG (w.take n) with
    | .error _ => false
    | .ok (p, q, r) => decide (p = (a : Int)) && (decide (q = (b : Int)) && decide (r = (c : Int)))
theorem parts_app (w : List UInt8) (n : Nat) (hl : w.length = wlongN n) : w = w.take n ++ [atB w n] ++ (fa w n ++ fb w n ++ fc w n) := by
 have hL : wlongN n = n + 1 + 3 * longN n := rfl
 unfold fa fb fc
 have e1 : (w.take (n + 1 + longN n)).drop (n + 1) ++ (w.take (n + 1 + 2 * longN n)).drop (n + 1 + longN n) ++ w.drop (n + 1 + 2 * longN n) = w.drop (n + 1) := by
  have a1 : w.drop (n + 1 + longN n) = (w.take (n + 1 + 2 * longN n)).drop (n + 1 + longN n) ++ w.drop (n + 1 + 2 * longN n) := by
   conv => lhs; rw [← List.take_append_drop (n + 1 + 2 * longN n) w]
   rw [List.drop_append_of_le_length (by rw [List.length_take]; omega)]
  have a2 : w.drop (n + 1) = (w.take (n + 1 + longN n)).drop (n + 1) ++ w.drop (n + 1 + longN n) := by
   conv => lhs; rw [← List.take_append_drop (n + 1 + longN n) w]
   rw [List.drop_append_of_le_length (by rw [List.length_take]; omega)]
  rw [List.append_assoc, ← a1, ← a2]
 rw [e1]
 have hn : n < w.length := by omega
 have e2 : [atB w n] ++ w.drop (n + 1) = w.drop n := by
  rw [List.drop_eq_getElem_cons hn]
  simp [atB, hn]
 rw [List.append_assoc, e2, List.take_append_drop]
theorem word_parts {x f : List UInt8} {n : Nat} (hx : x.length = n) (hf : f.length = longN n) : fa (wordL x f) n = f ∧ fb (wordL x f) n = f ∧ fc (wordL x f) n = f := by
 subst hx
 have h0 := word_fld x f 0 (by omega)
 have h1 := word_fld x f 1 (by omega)
 have h2 := word_fld x f 2 (by omega)
 rw [hf] at h0 h1 h2
 have hl := wordL_length x f hf
 have hL : wlongN x.length = x.length + 1 + 3 * longN x.length := rfl
 refine ⟨?_, ?_, ?_⟩
 · unfold fa
   simp only [Nat.zero_mul, Nat.add_zero, Nat.zero_add, Nat.one_mul] at h0
   exact h0
 · unfold fb
   rw [show x.length + 1 + 2 * longN x.length = x.length + 1 + (1 + 1) * longN x.length by omega, show x.length + 1 + longN x.length = x.length + 1 + 1 * longN x.length by omega]
   exact h1
 · unfold fc
   rw [List.take_of_length_le (by omega)] at h2
   exact h2
theorem word_at {x f : List UInt8} {n : Nat} (hx : x.length = n) (h2 : 2 ≤ n) (hf : 0 < f.length) : atB (wordL x f) n = juncL x f ∧ atB (wordL x f) (n - 1) = atB x (n - 1) ∧ atB (wordL x f) (n + 1) = atB f 0 := by
 subst hx
 have e : wordL x f = x ++ ([juncL x f] ++ (f ++ f ++ f)) := by unfold wordL; rw [List.append_assoc]
 rw [e]
 refine ⟨?_, ?_, ?_⟩
 · rw [atB_append_right _ _ (Nat.le_refl _), Nat.sub_self]; rfl
 · rw [atB_append_left _ _ (by omega)]
 · rw [atB_append_right _ _ (by omega), Nat.add_sub_cancel_left]
   rw [atB_append_right _ _ (by simp)]
   rw [List.append_assoc, atB_append_left _ _ (by simpa using hf)]
   rfl
theorem innG_iff {w : List UInt8} {n : Nat} (h2 : 2 ≤ n) (h8 : n ≤ 800) (hl : w.length = wlongN n) : innG w n = true ↔ ∃ f, wfG (w.take n) = .ok f ∧ w = wordL (w.take n) f := by
 have hL : wlongN n = n + 1 + 3 * longN n := rfl
 have hxl : (w.take n).length = n := by rw [List.length_take]; omega
 constructor
 · intro h
   unfold innG at h
   simp only [Bool.and_eq_true, decide_eq_true_eq] at h
   obtain ⟨⟨e1, e2⟩, h⟩ := h
   split at h
   · cases h
   · rename_i a b c ht
     simp only [Bool.and_eq_true, decide_eq_true_eq] at h
     obtain ⟨hj, h⟩ := h
     split at h
     · cases h
     · rename_i p q r hs
       simp only [Bool.and_eq_true, decide_eq_true_eq] at h
       obtain ⟨rfl, rfl, rfl⟩ := h
       have hr : RowOk (w.take n) (w.take n).length a b c := ⟨rfl, (sums_right hs).2.2.1, by omega, by omega, hs⟩
       have hw := hr.wf
       have h1 := (toldG_iff _ _ _).1 ht
       have h3 := told_fld hs (by omega)
       rw [hxl] at h3
       simp only [Int.toNat_natCast] at h3
       have hf := told_inj h1 h3
       refine ⟨_, hw, ?_⟩
       conv => lhs; rw [parts_app w n hl, ← e2, ← e1, hf, hj]
       have hw1 : atB w (n + 1) = atB (fa w n) 0 := by
        conv => lhs; rw [parts_app w n hl]
        rw [List.append_assoc (w.take n), atB_append_right _ _ (by omega), hxl, Nat.add_sub_cancel_left]
        rw [atB_append_right _ _ (by simp)]
        rw [List.append_assoc, atB_append_left _ _ (by rw [hf, fldL_length, hxl]; unfold longN; omega)]
        rfl
       have hw2 : atB w (n - 1) = atB (w.take n) (n - 1) := by
        simp [atB, show n - 1 < n by omega]
       unfold wordL juncL
       rw [hw1, hw2, hf, hxl]
 · rintro ⟨f, hf, he⟩
   obtain ⟨a, b, c, hr, rfl⟩ := wf_ok hf
   have hfl : (fldL (w.take n) a b c).length = longN n := by rw [fldL_length, hxl]
   obtain ⟨p1, p2, p3⟩ := word_parts hxl hfl
   obtain ⟨q1, q2, q3⟩ := word_at hxl h2 (f := fldL (w.take n) a b c) (by rw [hfl]; unfold longN; omega)
   rw [← he] at p1 p2 p3 q1 q2 q3
   have ht := told_is hr
   rw [hxl] at ht
   obtain ⟨e1, e2, e3⟩ := hr.pos
   unfold innG
   rw [p1, p2, p3, ht, hr.sums]
   have hj : atB w n = letterOf (jN (atB w (n - 1)) (atB w (n + 1)) : Nat) := by
    rw [q1, q2, q3]
    unfold juncL
    rw [hxl]
   simp [hj, e1, e2, e3]
theorem ref_hit {y w : List UInt8} {n : Nat} (h2 : 2 ≤ n) (h8 : n ≤ 800) (hl : w.length = wlongN n) (hi : innG w n = true) (hd : dist y w ≤ 1) : mendG y n = some (w.take n) := by
 obtain ⟨f, hf, he⟩ := (innG_iff h2 h8 hl).1 hi
 obtain ⟨a, b, c, hr, rfl⟩ := wf_ok hf
 have hxl : (w.take n).length = n := by rw [List.length_take, hl]; unfold wlongN; omega
 rw [hxl] at hr
 refine mend_all hr ?_
 rw [← he, dist_comm]
 exact hd
theorem ref_some {y x : List UInt8} {n : Nat} (h2 : 2 ≤ n) (h8 : n ≤ 800) (hy : y.length ≤ 1000) (h : mendG y n = some x) : ∃ d, d ∈ Ed.edG y ∧ (Ed.apG y d.k d.z d.b).length = wlongN n ∧ innG (Ed.apG y d.k d.z d.b) n = true := by
 have hl := mend_length h h2
 obtain ⟨f, hf, hd⟩ := nearG_iff.1 (mend_near h)
 obtain ⟨a, b, c, hr, rfl⟩ := wf_ok hf
 rw [dist_comm] at hd
 obtain ⟨d, h1, h3⟩ := near_edit hy (letters_mem (word_letters hr)) hd
 have hwl := word_len hr
 rw [hl] at hwl
 refine ⟨d, h1, by rw [h3, hwl], ?_⟩
 rw [h3]
 have ht : (wordL x (fldL x a b c)).take n = x := by rw [← hl]; exact word_take x _
 exact (innG_iff h2 h8 hwl).2 ⟨_, by rw [ht]; exact hf, by rw [ht]⟩
theorem ref_edit {x y : List UInt8} {n : Int} (h : decG y n = .ok x) {f : List UInt8} (hf : wfG x = .ok f) : editG y n = match edfG (wordL x f) y with
    | some d => (d, 0)
    | none => (⟨0, 0, 0⟩, 130) := by
 obtain ⟨a, b, c, hr, rfl⟩ := wf_ok hf
 by_cases hy : ∀ z ∈ y, Ed.isL z = true
 · obtain ⟨d, h1, h2, -⟩ := edit_told h hr hy
   rw [h1, h2]
 · rw [edit_bad h hy]
   have : edfG (wordL x (fldL x a b c)) y = none := by
    unfold edfG
    rw [List.find?_eq_none]
    intro d hd e
    refine hy ?_
    have := ap_let (letters_mem (word_letters hr)) hd
    rwa [of_decide_eq_true e] at this
   rw [this]
end Go.Proofs.YtkibigbcdlilkaaGreatDoor
