import Derived.Laws.StructEq
import Derived.Defers
import Derived.Recover
import Derived.Test.YtkibigbcdlilkaaGreatDoorExCY
import Derived.Test.YtkibigbcdlilkaaGreatDoorExMY
import Derived.Test.YtkibigbcdlilkaaGreatDoorSuKY
namespace Go.Proofs.YtkibigbcdlilkaaGreatDoor.Ex
open Go.RowKit Go.Shelf
attribute [local go_sem] Oper.semAt_some run_store_func
theorem eqS (a b c a' b' c' : Int) (w : World) : (Op.equalIn 10000 51 (v3 a b c) (v3 a' b' c')).run Tryz.prog w = .ok (a == a' && (b == b' && c == c')) w := by
 have u3 := Tryz.underlying3
 have hS : Tryz.prog.underlying 51 = some (.struct (Tryz.prog.fieldsOf 51)) := by kernel_rfl
 have hp : Tryz.prog.stoodInHeld 51 = false := by kernel_rfl
 have hi1 : ∀ (d : Nat) (x y : Int) w, (Op.equalIn (d + 1) 3 (.int .i64 x) (.int .i64 y)).run Tryz.prog w = .ok (x == y) w := fun d x y w => run_equalIn_int w d 3 .i64 .i64 x y u3
 rw [show (10000 : Nat) = 9999 + 1 from rfl, run_equalIn_agg w 9999 51 _ _ hS hp]
 simp only [Program.fieldsOf, Tryz.underlying51]
 have hsz : (Tryz.prog.info? 3).map (·.size) = some 1 := by kernel_rfl
 go_simp
 by_cases h1 : a = a' <;> by_cases h2 : b = b' <;> by_cases h3 : c = c' <;> simp [h1, h2, h3]
def hitE (y : List UInt8) (a b c : Int) (p : Nat) : Bool := s1G y p == a && (s2G y p == b && s3G y p == c)
def findE (y : List UInt8) (a b c : Int) : Except Int Nat :=
 if y.length < 3 ∨ 1000 < y.length ∨ rightB a b c ((y.length : Int) - 1) = false then .error 2
 else if (-1 : Int) ∈ codesOf y then .error 10
 else match (List.range y.length).find? (hitE y a b c) with
  | none => .error 130
  | some p => .ok p
abbrev FindIs (y : List UInt8) (a b c : Int) (W : World) : Ending → World → Prop := fun e w' => Below W.heap.size W w' ∧ ((∃ p, findE y a b c = .ok p ∧ e = .returned (.int .i64 p)) ∨ ∃ m, findE y a b c = .error m ∧ e = .panicked (errno m))
theorem fourL_iff (y : List UInt8) : FourL y ↔ (-1 : Int) ∉ codesOf y := by
 constructor
 · intro h hm
   obtain ⟨b, hb, e⟩ := List.mem_map.1 hm
   obtain ⟨k, hk, rfl⟩ := List.mem_iff_getElem.1 hb
   exact h k hk (by rw [show atB y k = y[k] by simp [atB, hk]]; exact e)
 · intro h k hk e
   exact h (List.mem_map.2 ⟨atB y k, by simp [atB, hk], e⟩)
set_option maxRecDepth 100000 in
set_option maxHeartbeats 1000000 in
theorem find_arg (y : List UInt8) (a b c : Int) (h : y.length < 3 ∨ 1000 < y.length ∨ rightB a b c ((y.length : Int) - 1) = false) (sv : Value) (w : World) (hS : Sl eB w.heap.size w sv y) :
    Calls Tryz.prog 100 #[sv, v3 a b c] w (FindIs y a b c w) := by
  have Hg := Lib.hid (show findE y a b c = .error 2 by rw [findE, if_pos h])
  have hR := fun w => Right_any a b c ((y.length : Int) - 1) w
  have hA := below_alloc w (.cells (c3 a b c) 51)
  have hcl : (v3 a b c).cells = c3 a b c := rfl
  have hr := Rowed.new w 51 (c3 a b c)
  have k0 := hr.cell 0
  have k1 := hr.cell 1
  have k2 := hr.cell 2
  obtain ⟨A, cap, rfl⟩ := hS.len
  have hd : (y.length < 3 ∧ decide ((y.length : Int) < 3) = true) ∨ (¬ y.length < 3 ∧ decide ((y.length : Int) < 3) = false ∧ 1000 < y.length ∧ decide ((1000 : Int) < (y.length : Int)) = true) ∨ (¬ y.length < 3 ∧ decide ((y.length : Int) < 3) = false ∧ ¬ 1000 < y.length ∧ decide ((1000 : Int) < (y.length : Int)) = false ∧ rightB a b c ((y.length : Int) - 1) = false ∧ wrap64 ((y.length : Int) - 1) = (y.length : Int) - 1) := by
   by_cases h0 : y.length < 3
   · exact .inl ⟨h0, decide_eq_true (by omega)⟩
   · by_cases h1 : 1000 < y.length
     · exact .inr (.inl ⟨h0, decide_eq_false (by omega), h1, decide_eq_true (by omega)⟩)
     · exact .inr (.inr ⟨h0, decide_eq_false (by omega), h1, decide_eq_false (by omega), by rcases h with h | h | h <;> first | exact h | omega, wrap64_mid _ (by omega) (by omega)⟩)
  clear h hS hr
  rcases hd with ⟨f1, d1⟩ | ⟨f1, d1, f2, d2⟩ | ⟨f1, d1, f2, d2, hf, hwr⟩
  · refine (callsIn_wide (n := 5)).1 ?_
    refine callsIn_of_wp_marks Tryz.func100 rfl trivial ?_ rfl
    simp only [Tryz.ntmps100, List.size_toArray, List.length_cons, List.length_nil, Nat.reduceAdd, Nat.reduceSub, Array.replicate_succ, Array.replicate_zero, List.push_toArray, List.append_toArray, List.nil_append, List.cons_append]
    gi_wp2_with fail
    apply wpIn_scope_straight
    gi_wp2_with fail
    refine ⟨trivial, ?_⟩
    gi_wp2_with fail
    exact ⟨hA, .inr ⟨2, Hg.out, rfl⟩⟩
  · refine (callsIn_wide (n := 5)).1 ?_
    refine callsIn_of_wp_marks Tryz.func100 rfl trivial ?_ rfl
    simp only [Tryz.ntmps100, List.size_toArray, List.length_cons, List.length_nil, Nat.reduceAdd, Nat.reduceSub, Array.replicate_succ, Array.replicate_zero, List.push_toArray, List.append_toArray, List.nil_append, List.cons_append]
    gi_wp2_with fail
    apply wpIn_scope_straight
    gi_wp2_with fail
    refine ⟨trivial, ?_⟩
    gi_wp2_with fail
    exact ⟨hA, .inr ⟨2, Hg.out, rfl⟩⟩
  · refine (callsIn_wide (n := 5)).1 ?_
    refine callsIn_of_wp_marks Tryz.func100 rfl trivial ?_ rfl
    simp only [Tryz.ntmps100, List.size_toArray, List.length_cons, List.length_nil, Nat.reduceAdd, Nat.reduceSub, Array.replicate_succ, Array.replicate_zero, List.push_toArray, List.append_toArray, List.nil_append, List.cons_append]
    gi_wp2_with fail
    apply wpIn_scope_straight
    gi_wp2_with fail
    refine ⟨trivial, ?_⟩
    gi_at_call 123
    refine (callsIn_wide.2 (hR _)).mono ?_
    rintro e w1 ⟨rfl, hB⟩
    rw [hf]
    gi_wp2_with fail
    exact ⟨below_trans hA hB, .inr ⟨2, Hg.out, rfl⟩⟩
set_option maxRecDepth 100000 in
set_option maxHeartbeats 1000000 in
theorem find_bad (y : List UInt8) (a b c : Int) (h3 : 3 ≤ y.length) (h9 : y.length ≤ 1000) (hR1 : rightB a b c ((y.length : Int) - 1) = true) (hbad : (-1 : Int) ∈ codesOf y) (sv : Value) (w : World) (hT : Tab w) (hS : Sl eB w.heap.size w sv y) :
    Calls Tryz.prog 100 #[sv, v3 a b c] w (FindIs y a b c w) := by
  have Hg := Lib.hid (show findE y a b c = .error 10 by rw [findE, if_neg (by rw [hR1]; simp; omega), if_pos hbad])
  have hR := fun w => Right_any a b c ((y.length : Int) - 1) w
  rw [hR1] at hR
  have hC := fun v w hS hT => Codes_any v y (by omega) w hS hT
  have hA := below_alloc w (.cells (c3 a b c) 51)
  have hcl : (v3 a b c).cells = c3 a b c := rfl
  have hr := Rowed.new w 51 (c3 a b c)
  have k0 := hr.cell 0
  have k1 := hr.cell 1
  have k2 := hr.cell 2
  obtain ⟨A, cap, rfl⟩ := hS.len
  have d1 : decide ((y.length : Int) < 3) = false := decide_eq_false (by omega)
  have d2 : decide ((1000 : Int) < (y.length : Int)) = false := decide_eq_false (by omega)
  have hwr := wrap64_mid ((y.length : Int) - 1) (by omega) (by omega)
  have Hb := Lib.hid hbad
  clear hr hbad hR1
  refine (callsIn_wide (n := 5)).1 ?_
  refine callsIn_of_wp_marks Tryz.func100 rfl trivial ?_ rfl
  simp only [Tryz.ntmps100, List.size_toArray, List.length_cons, List.length_nil, Nat.reduceAdd, Nat.reduceSub, Array.replicate_succ, Array.replicate_zero, List.push_toArray, List.append_toArray, List.nil_append, List.cons_append]
  gi_wp2_with fail
  apply wpIn_scope_straight
  gi_wp2_with fail
  refine ⟨trivial, ?_⟩
  gi_at_call 123
  refine (callsIn_wide.2 (hR _)).mono ?_
  rintro e w1 ⟨rfl, hB⟩
  have hB := below_trans hA hB
  have hT := hT.below hB
  have hS := hS.next hB
  clear hR hA k0 k1 k2
  gi_wp2_with fail
  refine ⟨trivial, ?_⟩
  gi_at_call 124
  refine (callsIn_wide.2 (hC _ _ hS hT)).mono ?_
  rintro e w2 ⟨v, hB2, ⟨rfl, hno, -⟩ | ⟨rfl, -⟩⟩
  · exact absurd Hb.out hno
  · gi_wp2_with fail
    exact ⟨below_trans hB hB2, .inr ⟨10, Hg.out, rfl⟩⟩
end Go.Proofs.YtkibigbcdlilkaaGreatDoor.Ex
namespace Go.Proofs.YtkibigbcdlilkaaGreatDoor.Ex
open Go.RowKit Go.Shelf
attribute [local go_sem] Oper.semAt_some run_store_func
theorem firstG {q : Nat → Bool} {n p : Nat} (hp : p < n) (hh : q p = true) (hno : ∀ j, j < p → q j = false) : (List.range n).find? q = some p := by
 rw [List.find?_range_eq_some]
 exact ⟨hh, by simpa using hp, fun j hj => by simp [hno j hj]⟩
theorem noneG {q : Nat → Bool} {n : Nat} (hno : ∀ j, j < n → q j = false) : (List.range n).find? q = none := by
 rw [List.find?_eq_none]
 intro j hj
 simp [hno j (by simpa using hj)]
theorem keep_below {B : Nat} {W W' : World} (h : Keep B B W W') : Below B W W' := ⟨h.1.1, h.1.2.1, h.1.2.2.1, h.1.2.2.2, fun k hk => h.2 k hk (by omega)⟩
theorem below_put2 {B D : Nat} {w W : World} (h : Below B w W) (o : Obj) (hD : B ≤ D) : Below B w (W.putObj D o) :=
 ⟨h.os, h.tape, h.output, by have := h.size; simpa [World.putObj] using this, fun k hk => (World.putObj_heap_other (by omega)).trans (h.block k hk)⟩
theorem eplaces_any (A B : Option Addr) (n c m d : Nat) (w : World) :
    Calls Tryz.prog 125 #[.slice A n c, .slice B m d] w fun e w' => e = .returned (.func (.func 146) #[] #[.pointer (some ⟨w.heap.size, 0, none⟩), .pointer (some ⟨w.heap.size + 1, 0, none⟩)]) ∧ w' = (w.alloc (.cells #[.slice A n c] 22)).alloc (.cells #[.slice B m d] 35) := by
  have hmf : ∀ (fn : Fn) (first cap : Array Value) (w : World), (Instr.makeFunc fn first cap).run Tryz.prog w = .ok (.func fn first cap) w := fun _ _ _ _ => rfl
  go_enter Tryz.func125, Tryz.ntmps125
  go_wp2_with fail
  go_ret
  exact ⟨rfl, rfl⟩
set_option maxRecDepth 100000 in
set_option maxHeartbeats 4000000 in
theorem find_main (y : List UInt8) (a b c : Int) (h3 : 3 ≤ y.length) (h9 : y.length ≤ 1000) (hR1 : rightB a b c ((y.length : Int) - 1) = true) (h4 : FourL y) (sv : Value) (w : World) (hT : Tab w) (hS : Sl eB w.heap.size w sv y) :
    Calls Tryz.prog 100 #[sv, v3 a b c] w (FindIs y a b c w) := by
  have Hg := Lib.hid (show findE y a b c = match (List.range y.length).find? (hitE y a b c) with
   | none => .error 130
   | some p => .ok p by rw [findE, if_neg (by rw [hR1]; simp; omega), if_neg ((fourL_iff y).1 h4)]; try (cases (List.range y.length).find? (hitE y a b c) <;> rfl))
  have hR := fun w => Right_any a b c ((y.length : Int) - 1) w
  rw [hR1] at hR
  have hC := fun v w hS hT => Codes_any v y (by omega) w hS hT
  have hA := below_alloc w (.cells (c3 a b c) 51)
  have hcl : (v3 a b c).cells = c3 a b c := rfl
  have hr := Rowed.new w 51 (c3 a b c)
  have k0 := hr.cell 0
  have k1 := hr.cell 1
  have k2 := hr.cell 2
  obtain ⟨A, cap, rfl⟩ := hS.len
  have d1 : decide ((y.length : Int) < 3) = false := decide_eq_false (by omega)
  have d2 : decide ((1000 : Int) < (y.length : Int)) = false := decide_eq_false (by omega)
  have hwr := wrap64_mid ((y.length : Int) - 1) (by omega) (by omega)
  have H4 := Lib.hid h4
  have H39 := Lib.hid (And.intro h3 h9)
  clear hR1 h4
  refine (callsIn_wide (n := 5)).1 ?_
  refine callsIn_of_wp_marks Tryz.func100 rfl trivial ?_ rfl
  simp only [Tryz.ntmps100, List.size_toArray, List.length_cons, List.length_nil, Nat.reduceAdd, Nat.reduceSub, Array.replicate_succ, Array.replicate_zero, List.push_toArray, List.append_toArray, List.nil_append, List.cons_append]
  gi_wp2_with fail
  apply wpIn_scope_straight
  gi_wp2_with fail
  refine ⟨trivial, ?_⟩
  gi_at_call 123
  refine (callsIn_wide.2 (hR _)).mono ?_
  rintro e w1 ⟨rfl, hB⟩
  have hr := hr.below hB hr.lt
  have hB := below_trans hA hB
  have hT := hT.below hB
  have hS := hS.next hB
  clear hR hA k0 k1 k2
  gi_wp2_with fail
  refine ⟨trivial, ?_⟩
  gi_at_call 124
  refine (callsIn_wide.2 (hC _ _ hS hT)).mono ?_
  rintro e w2 ⟨v, hB2, ⟨rfl, -, hcs⟩ | ⟨rfl, hbad⟩⟩
  · have hr := hr.below hB2 hr.lt
    have hB := below_trans hB hB2
    have hT := hT.below hB2
    have hS := hS.next hB2
    have hlc : (codesOf y).length = y.length := by simp [codesOf]
    obtain ⟨Ac, kc, rfl⟩ := hcs.len
    rw [hlc] at hcs ⊢
    have hAx := below_alloc w2 (.cells #[.int .i64 (-1)] 3)
    have hba := Boxed.new w2 3 (.int .i64 (-1))
    have hr := hr.alloc (.cells #[.int .i64 (-1)] 3)
    have hS4 := hS.next hAx
    have hcs4 := hcs.next hAx
    have hsa := hB.size
    have hT := hT.below hAx
    have hB := below_trans hB hAx
    clear hS hcs
    clear hC hB2 hAx hlc
    gi_wp2_with fail
    apply wpIn_label
    have hba' := hba.lt
    generalize hgw : w2.alloc (.cells #[.int .i64 (-1)] 3) = w4 at *
    generalize hgs : w2.heap.size = sa at *
    clear hgw hgs
    gi_wp2_with fail
    refine ⟨trivial, ?_⟩
    gi_at_call 125
    refine (callsIn_wide.2 (eplaces_any _ _ _ _ _ _ _)).mono ?_
    rintro e w5 ⟨rfl, hw5⟩
    have hA5 : Below w4.heap.size w4 w5 := by rw [hw5]; exact (below_alloc w4 _).alloc (by simp) _
    have hb1 : Boxed w5 w4.heap.size 22 (.slice A y.length cap) := by rw [hw5]; exact (Boxed.new w4 22 (.slice A y.length cap)).alloc _
    have hb2 : Boxed w5 (w4.heap.size + 1) 35 (.slice Ac y.length kc) := by
     rw [hw5]
     have := Boxed.new (w4.alloc (.cells #[.slice A y.length cap] 22)) 35 (.slice Ac y.length kc)
     rwa [World.size_alloc] at this
    clear hw5
    have hr5 := hr.below hA5 hr.lt
    have hba5 : Boxed w5 sa 3 (.int .i64 (-1)) := (hA5.block _ hba').trans hba
    have hB := below_trans hB hA5
    have hS5 := hS4.next hA5
    have hcs5 := hcs4.next hA5
    have hT5 := hT.below hA5
    have hseq := eplaces_seq w4.heap.size (w4.heap.size + 1) A cap (.slice Ac y.length kc) y H39.out.1 H39.out.2 H4.out w5 hb1.lt hb1.cell hS5 hb2.cell hcs5 hT5
    have hwsa : w.heap.size ≤ sa := hsa
    clear hA5 hS5 hcs5 hT5 hS4 hcs4 hT hr hba hb1 hb2
    gi_wp2_with fail
    obtain ⟨T, hT⟩ : ∃ T : Nat → Nat → Act, T = fun x bt => { tmps := #[.slice A y.length cap, v3 a b c, undef, .pointer (some ⟨w.heap.size, 0, none⟩), .int .i64 0, .slice Ac y.length kc, .int .i64 0, .pointer (some ⟨sa, 0, none⟩), .int .i64 x, .pointer (some ⟨bt, 0, none⟩), .slice A y.length cap, .int .i64 y.length, .bool false, .bool false, .slice A y.length cap, .int .i64 y.length, .bool false, .bool false, .bool false, .agg #[.int .i64 a, .int .i64 b, .int .i64 c], .slice A y.length cap, .int .i64 y.length, .int .i64 ((y.length : Int) - 1), .bool true, .bool false, .bool false, undef, .tuple #[.slice Ac y.length kc, .int .i64 0], .slice A y.length cap, .tuple #[.slice Ac y.length kc, .int .i64 0], .slice Ac y.length kc, .int .i64 0, .int .i64 0, .bool false, undef, undef, .slice A y.length cap, .slice Ac y.length kc, .func (.func 146) #[] #[.pointer (some ⟨w4.heap.size, 0, none⟩), .pointer (some ⟨w4.heap.size + 1, 0, none⟩)], .int .i64 x, v3 (s1G y x) (s2G y x) (s3G y x), undef, undef, undef, undef, undef, undef, undef, undef], defers := [] } := ⟨_, rfl⟩
    have HT := Lib.hid hT
    clear hT
    refine wpIn_range_W (gf := 146) (lb := #[.pointer (some ⟨w4.heap.size, 0, none⟩), .pointer (some ⟨w4.heap.size + 1, 0, none⟩)]) rfl rfl trivial rfl (enters_of Tryz.func146 (by kernel_rfl) rfl)
     hseq (fun _ _ _ => kc_t) (fun W' l o o' e1 e2 e3 => kc_put W' l o o' e2 e3) (Below.refl _ _) (fun _ => rfl)
     (fun (pre : List Nat) W => (∀ j ∈ pre, hitE y a b c j = false) ∧ Keep w5.heap.size w5.heap.size w5 W)
     (fun c' W => (c' = .exit 0 ∧ ∃ p : Nat, p < y.length ∧ hitE y a b c p = true ∧ (∀ j, j < p → hitE y a b c j = false) ∧ Boxed W sa 3 (.int .i64 p)) ∧ Below w.heap.size w W)
     (OwnFrom.and (ownFrom_pure _ (fun (pre : List Nat) => ∀ j ∈ pre, hitE y a b c j = false)) (ownFrom_keep (Nat.le_refl _) (Nat.le_refl _)))
     (fun s X Y hs hB => ⟨hs.1, keep_t hs.2 (keep_of hB)⟩)
     ⟨by simp, keep_r _ _ _⟩
     (fun c' D W o hD ⟨⟨hc', p, h1, h2, h3, h4⟩, h6⟩ => ⟨⟨hc', p, h1, h2, h3, (World.putObj_heap_other (by have := hba5.lt; omega)).trans h4⟩, below_put2 h6 o (by have := hba5.lt; omega)⟩)
     (fun (x : Nat) a' W => ∃ bt, a' = T x bt ∧ Rowed W bt 51 (c3 (s1G y x) (s2G y x) (s3G y x)))
     (fun x a' W l o o' ⟨bt, e1, e2⟩ hl ho => ⟨bt, e1, kc_put W l o o' hl ho bt _ e2 rfl⟩)
     (fun X Y h => kc_below h)
     ?assign1 ?body1 ?done1 ?stop1 ?pan1
    case assign1 =>
     intro l x W K hK
     have hcx : (v3 (s1G y x) (s2G y x) (s3G y x)).cells = c3 (s1G y x) (s2G y x) (s3G y x) := rfl
     have hK2 := hK _ _ ⟨W.heap.size, rfl, Rowed.new W 51 (c3 (s1G y x) (s2G y x) (s3G y x))⟩ (below_alloc W _)
     rw [HT.out] at hK2
     clear hK
     gi_wp2_with fail
     exact hK2
    case pan1 =>
     rintro ch D W hf
     cases hf
    case done1 =>
     rintro - D W hD ⟨hno, hK⟩ hk
     have hBw := keep_below hK
     have h10 : Boxed W sa 3 (.int .i64 (-1)) := (hBw.block _ hba5.lt).trans hba5
     have kk := h10.cell
     have hg : findE y a b c = .error 130 := by
      rw [Hg.out, noneG (fun j hj => hno j (by simpa using hj))]
     have Hg := Lib.hid hg
     clear hno hg
     gi_wp2_with fail
     refine ⟨by simp, .inl ⟨_, _, rfl, run_takeDeferred hk, ?_⟩⟩
     exact ⟨below_put2 (below_trans hB hBw) _ (by have := hB.size; omega), .inr ⟨130, Hg.out, rfl⟩⟩
    case stop1 =>
     rintro c' D W hD ⟨⟨rfl, p, hp, hh, hno, h10⟩, hBw⟩ hk
     have hfd := firstG hp hh hno
     have hg : findE y a b c = .ok p := by rw [Hg.out, hfd]
     have Hg := Lib.hid hg
     have kk := h10.cell
     have hpm : decide ((p : Int) < 0) = false := decide_eq_false (by omega)
     clear hno hg hh hfd hseq
     gi_wp2_with fail
     refine ⟨by simp, .inl ⟨_, _, rfl, run_takeDeferred hk, ?_⟩⟩
     refine ⟨.int .i64 p, ?_, below_put2 hBw _ (by have := hB.size; omega), .inl ⟨p, Hg.out, rfl⟩⟩
     simp [results, Tryz.f100, go_sem]
    case body1 =>
     rintro l pre p a' W ⟨hno, hK⟩ ⟨bt, rfl, hbt⟩ hpre
     obtain ⟨hjn, rfl⟩ := range_is hpre
     have hBw := keep_below hK
     have hba6 : Boxed W sa 3 (.int .i64 (-1)) := (hBw.block _ hba5.lt).trans hba5
     have hr6 := hr5.below hBw hr5.lt
     have ka := hba6.cell
     have fa := hba6.frozen
     have q0 := hr6.cell 0
     have q1 := hr6.cell 1
     have q2 := hr6.cell 2
     have t0 := hbt.cell 0
     have t1 := hbt.cell 1
     have t2 := hbt.cell 2
     have hset := hba6.set (.int .i64 (p : Int))
     have hEq := fun w => eqS (s1G y p) (s2G y p) (s3G y p) a b c w
     rw [show (s1G y p == a && (s2G y p == b && s3G y p == c)) = hitE y a b c p from rfl] at hEq
     rw [HT.out]
     cases hq : hitE y a b c p with
     | false =>
       rw [hq] at hEq
       have Hno := Lib.hid (show ∀ j ∈ List.range p ++ [p], hitE y a b c j = false from fun j hj => by
        rcases List.mem_append.1 hj with h | h
        · exact hno j h
        · obtain rfl := List.mem_singleton.1 h; exact hq)
       clear hno
       gi_wp2_with fail
       exact ⟨KeepsFrom.refl _ _, kc_r _, Hno.out, hK⟩
     | true =>
       rw [hq] at hEq
       have Hno := Lib.hid hno
       clear hno
       gi_wp2_with fail
       exact ⟨(KeepsOthers.setCell W ⟨sa, 0, none⟩ _).from _, ⟨rfl, p, hjn, hq, fun j hj => Hno.out j (by simpa using hj), hset⟩, (below_trans hB hBw).setCell (p := ⟨sa, 0, none⟩) hwsa _⟩
  · exact absurd hbad ((fourL_iff y).1 H4.out)
theorem find_any (y : List UInt8) (a b c : Int) (sv : Value) (w : World) (hT : Tab w) (hS : Sl eB w.heap.size w sv y) :
    Calls Tryz.prog 100 #[sv, v3 a b c] w (FindIs y a b c w) := by
  by_cases h : y.length < 3 ∨ 1000 < y.length ∨ rightB a b c ((y.length : Int) - 1) = false
  · exact find_arg y a b c h sv w hS
  · have hR : rightB a b c ((y.length : Int) - 1) = true := by
      cases hr : rightB a b c ((y.length : Int) - 1) with
      | true => rfl
      | false => exact absurd (.inr (.inr hr)) h
    by_cases hb : (-1 : Int) ∈ codesOf y
    · exact find_bad y a b c (by omega) (by omega) hR hb sv w hT hS
    · exact find_main y a b c (by omega) (by omega) hR ((fourL_iff y).2 hb) sv w hT hS
end Go.Proofs.YtkibigbcdlilkaaGreatDoor.Ex
namespace Go.Proofs.YtkibigbcdlilkaaGreatDoor.Ex
open Go.RowKit Go.Shelf
attribute [local go_sem] Oper.semAt_some run_store_func
theorem findE_lt {y : List UInt8} {a b c : Int} {p : Nat} (h : findE y a b c = .ok p) : p < y.length := by
 unfold findE at h
 split at h
 · cases h
 · split at h
   · cases h
   · cases hf : (List.range y.length).find? (hitE y a b c) with
     | none => rw [hf] at h; cases h
     | some q =>
       rw [hf] at h
       cases h
       obtain ⟨-, hq, -⟩ := List.find?_range_eq_some.1 hf
       simpa using hq
set_option maxRecDepth 100000 in
set_option maxHeartbeats 2000000 in
theorem ecatch_idle (p q r : Addr) (w : World) :
    CallsD Tryz.prog 99 #[.pointer (some p), .pointer (some q), .pointer (some r)] .returning w fun e u' w' => e = .returned (.tuple #[]) ∧ u' = .returning ∧ w' = w := by
  refine callsD_of_wpS Tryz.func99 rfl fun c₀ cs hu => ?_
  apply wpS_seq
  apply wpS_region
  simp [wpOpsS, go_sem, recoverD, hu, Tryz.ntmps99, Exit.thenS]
  refine wpS_of_wp ?_
  go_wp2
  cases c₀
  simp_all [bodyPostS, results, Tryz.results99]
set_option maxRecDepth 100000 in
set_option maxHeartbeats 2000000 in
theorem ecatch_take (b1 b2 b3 : Nat) (n : Int) (v1 v2 v3 : Value) (w : World) (h12 : b1 ≠ b2) (h13 : b1 ≠ b3) (h23 : b2 ≠ b3) (c1 : Boxed w b1 22 v1) (c2 : Boxed w b2 3 v2) (c3 : Boxed w b3 24 v3) :
    CallsD Tryz.prog 99 #[.pointer (some ⟨b1, 0, none⟩), .pointer (some ⟨b2, 0, none⟩), .pointer (some ⟨b3, 0, none⟩)] (.panicking (errno n)) w fun e u' w' => e = .returned (.tuple #[]) ∧ u' = .panicking [{ v := .iface 24 (.int .i64 n), recovered := true }] ∧
      w' = ((w.setCell ⟨b1, 0, none⟩ (.slice none 0 0)).setCell ⟨b2, 0, none⟩ (.int .i64 0)).setCell ⟨b3, 0, none⟩ (.int .i64 n) := by
  have hta : ∀ w, (Instr.typeAssert (.iface 24 (.int .i64 n)) 20 24 true).run Tryz.prog w = .ok (.tuple #[.int .i64 n, .bool true]) w := fun _ => by kernel_rfl
  have x1 := c1.cell
  have x2 := c1.frozen
  have d2 : Boxed (w.setCell ⟨b1, 0, none⟩ (.slice none 0 0)) b2 3 v2 := (Below.heap_setCell w ⟨b1, 0, none⟩ _ b2 (fun e => h12 e.symm)).trans c2
  have d3 : Boxed (w.setCell ⟨b1, 0, none⟩ (.slice none 0 0)) b3 24 v3 := (Below.heap_setCell w ⟨b1, 0, none⟩ _ b3 (fun e => h13 e.symm)).trans c3
  have e3 : Boxed ((w.setCell ⟨b1, 0, none⟩ (.slice none 0 0)).setCell ⟨b2, 0, none⟩ (.int .i64 0)) b3 24 v3 := (Below.heap_setCell _ ⟨b2, 0, none⟩ _ b3 (fun e => h23 e.symm)).trans d3
  have y1 := d2.cell
  have y2 := d2.frozen
  have z1 := e3.cell
  have z2 := e3.frozen
  clear c1 c2 c3 d2 d3 e3
  refine callsD_of_wpS Tryz.func99 rfl fun c₀ cs hu => ?_
  apply wpS_seq
  apply wpS_region
  simp [wpOpsS, go_sem, recoverD, hu, Tryz.ntmps99, Exit.thenS]
  refine wpS_of_wp ?_
  go_wp2
  cases c₀
  simp_all [bodyPostS, results, Tryz.results99]
end Go.Proofs.YtkibigbcdlilkaaGreatDoor.Ex
namespace Go.Proofs.YtkibigbcdlilkaaGreatDoor.Ex
open Go.RowKit Go.Shelf
attribute [local go_sem] Oper.semAt_some run_store_func
abbrev EFindIs (y : List UInt8) (a b c : Int) (W : World) : Ending → World → Prop := fun e w' => Below W.heap.size W w' ∧
  ((∃ p v, findE y a b c = .ok p ∧ e = .returned (.tuple #[v, .int .i64 p, .int .i64 0]) ∧ Sl eB w'.heap.size w' v (delW y p)) ∨ ∃ m, findE y a b c = .error m ∧ e = .returned (.tuple #[.slice none 0 0, .int .i64 0, .int .i64 m]))
theorem ready_wp {P : Program} {o : Oper} {a : Act} {w : World} {K : Act → World → Prop} {Q : Exit → Act → World → Prop} {b : Bool} {R : Prop} (hb : b = true) (h : o.wp P a w K Q) : if b = true then o.wp P a w K Q else R := by
 rw [if_pos hb]; exact h
theorem own_below8 {B : Nat} {w w' : World} {v : Value} {bs : List UInt8} (h : Own8 B w v bs) (hB : Below w.heap.size w w') : Own8 B w' v bs := by
 rcases h with ⟨h1, h2⟩
 refine ⟨h1, ?_⟩
 rcases h2 with h2 | ⟨g, cap, cur, e, hb, hg, hl, hc, hs, ht⟩
 · exact .inl h2
 · exact .inr ⟨g, cap, cur, e, hb, (hB.block g (Array.getElem?_eq_some_iff.1 hg).1).trans hg, hl, hc, hs, ht⟩
theorem own_monoB {B B' : Nat} {w : World} {v : Value} {bs : List UInt8} (h : Own8 B w v bs) (hb : B' ≤ B) : Own8 B' w v bs := by
 rcases h with ⟨h1, h2⟩
 refine ⟨h1, ?_⟩
 rcases h2 with h2 | ⟨g, cap, cur, e, hg, h3⟩
 · exact .inl h2
 · exact .inr ⟨g, cap, cur, e, Nat.le_trans hb hg, h3⟩
def RetI (w : World) (T : Value → Value → Value → Value → Act) (sy : Value) (x : List UInt8) (p : Nat) (D : Nat → Bool) (a : Act) (w' : World) : Prop :=
 ∃ vx x11 x12 x13 x14, a = T x11 x12 x13 x14 ∧ Below w.heap.size w w' ∧ Boxed w' (w.heap.size + 1) 22 vx ∧ Boxed w' (w.heap.size + 1 + 1) 3 (.int .i64 p) ∧ Boxed w' (w.heap.size + 1 + 1 + 1) 24 (.int .i64 0) ∧
   (D 0 = true → x11 = sy) ∧ (D 1 = true → x12 = .int .i64 p) ∧ (D 2 = true → Own8 (w.heap.size + 1 + 1 + 1 + 1) w' x13 x) ∧ (D 3 = true → x14 = .int .i64 p) ∧ (D 4 = true → D 2 = true ∧ vx = x13)
set_option maxRecDepth 100000 in
set_option maxHeartbeats 4000000 in
theorem EFind_any (y : List UInt8) (a b c : Int) (hreach : y.length ≤ 1000000) (sv : Value) (w : World) (hT : Tab w) (hS : Sl eB w.heap.size w sv y) :
    Calls Tryz.prog 85 #[sv, v3 a b c] w (EFindIs y a b c w) := by
  have hmf : ∀ (fn : Fn) (first cap : Array Value) (w : World), (Instr.makeFunc fn first cap).run Tryz.prog w = .ok (.func fn first cap) w := fun _ _ _ _ => rfl
  have hF := fun v w hT hS => find_any y a b c v w hT hS
  have hWo := fun v z w hS => Without_any v y z hreach w hS
  obtain ⟨A, cap, rfl⟩ := hS.len
  have hcl : (v3 a b c).cells = c3 a b c := rfl
  have hr := Rowed.new w 51 (c3 a b c)
  have hA1 := below_alloc w (.cells (c3 a b c) 51)
  have hA2 := below_alloc (w.alloc (.cells (c3 a b c) 51)) (.cells #[.slice none 0 0] 22)
  have hx := Boxed.new (w.alloc (.cells (c3 a b c) 51)) 22 (.slice none 0 0)
  have hA3 := below_alloc ((w.alloc (.cells (c3 a b c) 51)).alloc (.cells #[.slice none 0 0] 22)) (.cells #[.int .i64 0] 3)
  have hy := Boxed.new ((w.alloc (.cells (c3 a b c) 51)).alloc (.cells #[.slice none 0 0] 22)) 3 (.int .i64 0)
  have hA4 := below_alloc (((w.alloc (.cells (c3 a b c) 51)).alloc (.cells #[.slice none 0 0] 22)).alloc (.cells #[.int .i64 0] 3)) (.cells #[.int .i64 0] 24)
  have hz := Boxed.new (((w.alloc (.cells (c3 a b c) 51)).alloc (.cells #[.slice none 0 0] 22)).alloc (.cells #[.int .i64 0] 3)) 24 (.int .i64 0)
  have hx := (hx.alloc (.cells #[.int .i64 0] 3)).alloc (.cells #[.int .i64 0] 24)
  have hy := hy.alloc (.cells #[.int .i64 0] 24)
  have hr := ((hr.alloc (.cells #[.slice none 0 0] 22)).alloc (.cells #[.int .i64 0] 3)).alloc (.cells #[.int .i64 0] 24)
  have hA := below_trans (below_trans (below_trans hA1 hA2) hA3) hA4
  simp only [World.size_alloc] at hx hy hz
  have hT := hT.below hA
  have hS0 := hS
  have hS := hS.next hA
  clear hA1 hA2 hA3 hA4
  have q0 := hr.cell 0
  have q1 := hr.cell 1
  have q2 := hr.cell 2
  go_enter_defers Tryz.func85, Tryz.ntmps85
  go_wp2_with fail
  have hsz : ((((w.alloc (.cells (c3 a b c) 51)).alloc (.cells #[.slice none 0 0] 22)).alloc (.cells #[.int .i64 0] 3)).alloc (.cells #[.int .i64 0] 24)).heap.size = w.heap.size + 1 + 1 + 1 + 1 := by simp
  generalize (((w.alloc (.cells (c3 a b c) 51)).alloc (.cells #[.slice none 0 0] 22)).alloc (.cells #[.int .i64 0] 3)).alloc (.cells #[.int .i64 0] 24) = w0 at *
  clear q0 q1 q2 hr
  go_at_call 100
  refine (hF _ _ hT hS).mono ?_
  rintro e w1 ⟨hB, ⟨p, hp, rfl⟩ | ⟨m, hm, rfl⟩⟩
  · have hs1 := hB.size
    have hx1 : Boxed w1 (w.heap.size + 1) 22 (.slice none 0 0) := (hB.block _ (by omega)).trans hx
    have hy1 : Boxed w1 (w.heap.size + 1 + 1) 3 (.int .i64 0) := (hB.block _ (by omega)).trans hy
    have hz1 : Boxed w1 (w.heap.size + 1 + 1 + 1) 24 (.int .i64 0) := (hB.block _ (by omega)).trans hz
    have hplt := findE_lt hp
    have Hp := Lib.hid hp
    have yc := hy1.cell
    have yf := hy1.frozen
    have hy2 := hy1.set (.int .i64 (p : Int))
    have hx2 : Boxed (w1.setCell ⟨w.heap.size + 1 + 1, 0, none⟩ (.int .i64 p)) (w.heap.size + 1) 22 (.slice none 0 0) := (Below.heap_setCell w1 ⟨w.heap.size + 1 + 1, 0, none⟩ _ (w.heap.size + 1) (by show w.heap.size + 1 ≠ w.heap.size + 1 + 1; omega)).trans hx1
    have hz2 : Boxed (w1.setCell ⟨w.heap.size + 1 + 1, 0, none⟩ (.int .i64 p)) (w.heap.size + 1 + 1 + 1) 24 (.int .i64 0) := (Below.heap_setCell w1 ⟨w.heap.size + 1 + 1, 0, none⟩ _ (w.heap.size + 1 + 1 + 1) (by show w.heap.size + 1 + 1 + 1 ≠ w.heap.size + 1 + 1; omega)).trans hz1
    have hBs : Below w.heap.size w (w1.setCell ⟨w.heap.size + 1 + 1, 0, none⟩ (.int .i64 p)) := (below_trans hA hB).setCell (p := ⟨w.heap.size + 1 + 1, 0, none⟩) (by show w.heap.size ≤ w.heap.size + 1 + 1; omega) _
    have hS2 := hS0.next hBs
    clear hx hy hz hF hp hx1 hy1 hz1
    go_wp2_with fail
    have hsz1 : w.heap.size + 1 + 1 + 1 + 1 ≤ w1.heap.size := by omega
    have hsz2 : w.heap.size + 1 + 1 + 1 + 1 ≤ (w1.setCell ⟨w.heap.size + 1 + 1, 0, none⟩ (.int .i64 p)).heap.size := by simpa using hsz1
    have hwg : withG y (p : Int) = delW y p := by rw [withG, if_pos (by omega)]; simp
    obtain ⟨T, hT2⟩ : ∃ T : Value → Value → Value → Value → Act, T = fun x11 x12 x13 x14 => { tmps := #[.slice A y.length cap, v3 a b c, undef, .pointer (some ⟨w.heap.size, 0, none⟩), .pointer (some ⟨w.heap.size + 1, 0, none⟩), .pointer (some ⟨w.heap.size + 1 + 1, 0, none⟩), .pointer (some ⟨w.heap.size + 1 + 1 + 1, 0, none⟩), .func (.func 99) #[] #[.pointer (some ⟨w.heap.size + 1, 0, none⟩), .pointer (some ⟨w.heap.size + 1 + 1, 0, none⟩), .pointer (some ⟨w.heap.size + 1 + 1 + 1, 0, none⟩)], .slice A y.length cap, .agg #[.int .i64 a, .int .i64 b, .int .i64 c], .int .i64 p, x11, x12, x13, x14], defers := [{ target := .fn (.func 99) #[.pointer (some ⟨w.heap.size + 1, 0, none⟩), .pointer (some ⟨w.heap.size + 1 + 1, 0, none⟩), .pointer (some ⟨w.heap.size + 1 + 1 + 1, 0, none⟩)], args := #[] }] } := ⟨_, rfl⟩
    have HT := Lib.hid hT2
    clear hT2
    refine wp_region_any (by kernel_rfl) (wpAny_inv (RetI w T (.slice A y.length cap) (delW y p) p) (by kernel_rfl) ?step ?fin _ _ _ _ rfl (by kernel_rfl) ?start)
    case start =>
     refine ⟨.slice none 0 0, undef, undef, undef, undef, by rw [HT.out], below_trans hBs (show Below _ _ _ from ⟨rfl, rfl, rfl, Nat.le_refl _, fun _ _ => rfl⟩), hx2, hy2, hz2, ?_, ?_, ?_, ?_, ?_⟩ <;> (intro h; simp at h)
    case step =>
     intro E a' w' i o ho hDi hdep ⟨vx, x11, x12, x13, x14, ha, hBw, bx, by', bz, g0, g1, g2, g3, g4⟩ K hK
     subst ha
     rw [HT.out] at hK ⊢
     have kx := bx.cell
     have fx := bx.frozen
     have ky := by'.cell
     have fy := by'.frozen
     have kz := bz.cell
     have fz := bz.frozen
     rcases i with _ | _ | _ | _ | _ | _ | _ | i
     all_goals
      simp only [List.getElem?_toArray, List.getElem?_cons_zero, List.getElem?_cons_succ, Option.some.injEq, List.getElem?_nil, reduceCtorEq, Nat.zero_add] at ho
     all_goals
      subst ho
      simp [Region.binds] at hdep
      refine ready_wp rfl ?_
      dsimp only
     · go_simp
       exact hK _ _ ⟨vx, _, x12, x13, x14, rfl, hBw, bx, by', bz, fun _ => rfl, by simpa [upd] using g1, by simpa [upd] using g2, by simpa [upd] using g3, by simpa [upd] using g4⟩
     · go_simp
       exact hK _ _ ⟨vx, x11, _, x13, x14, rfl, hBw, bx, by', bz, by simpa [upd] using g0, fun _ => rfl, by simpa [upd] using g2, by simpa [upd] using g3, by simpa [upd] using g4⟩
     · obtain ⟨e0, e1⟩ : E 0 = true ∧ E 1 = true := by simp_all
       obtain rfl := g0 e0
       obtain rfl := g1 e1
       have hcall := hWo _ (p : Int) w' (hS0.next hBw)
       rw [hwg] at hcall
       go_simp
       refine hcall.mono ?_
       rintro e w2 ⟨v, rfl, hv, hB2⟩
       have hsw : w.heap.size + 1 + 1 + 1 + 1 ≤ w'.heap.size := by have := bz.lt; omega
       refine hK _ _ ⟨vx, _, _, v, x14, rfl, below_trans hBw hB2, (hB2.block _ bx.lt).trans bx, (hB2.block _ by'.lt).trans by', (hB2.block _ bz.lt).trans bz, fun _ => rfl, fun _ => rfl, fun _ => own_monoB hv hsw, by simpa [upd] using g3, fun h => ?_⟩
       have h4' : E 4 = true := by simpa [upd] using h
       rw [(g4 h4').1] at hDi
       cases hDi
     · go_simp
       exact hK _ _ ⟨vx, x11, x12, x13, _, rfl, hBw, bx, by', bz, by simpa [upd] using g0, by simpa [upd] using g1, by simpa [upd] using g2, fun _ => rfl, by simpa [upd] using g4⟩
     · have e2 : E 2 = true := by simp_all
       have hv := g2 e2
       obtain ⟨A', k', rfl⟩ := hv.sl.len
       have hb1 := bx.set (.slice A' (delW y p).length k')
       have hb2 : Boxed (w'.setCell ⟨w.heap.size + 1, 0, none⟩ (.slice A' (delW y p).length k')) (w.heap.size + 1 + 1) 3 (.int .i64 p) := (Below.heap_setCell w' ⟨w.heap.size + 1, 0, none⟩ _ (w.heap.size + 1 + 1) (by show w.heap.size + 1 + 1 ≠ w.heap.size + 1; omega)).trans by'
       have hb3 : Boxed (w'.setCell ⟨w.heap.size + 1, 0, none⟩ (.slice A' (delW y p).length k')) (w.heap.size + 1 + 1 + 1) 24 (.int .i64 0) := (Below.heap_setCell w' ⟨w.heap.size + 1, 0, none⟩ _ (w.heap.size + 1 + 1 + 1) (by show w.heap.size + 1 + 1 + 1 ≠ w.heap.size + 1; omega)).trans bz
       have hv2 : Own8 (w.heap.size + 1 + 1 + 1 + 1) (w'.setCell ⟨w.heap.size + 1, 0, none⟩ (.slice A' (delW y p).length k')) (.slice A' (delW y p).length k') (delW y p) := ownsRow_setCell_below hv (by show w.heap.size + 1 < _; omega) _
       have hBn := hBw.setCell (p := ⟨w.heap.size + 1, 0, none⟩) (by show w.heap.size ≤ w.heap.size + 1; omega) (.slice A' (delW y p).length k')
       go_simp
       exact hK _ _ ⟨_, _, _, _, x14, rfl, hBn, hb1, hb2, hb3, fun _ => rfl, fun _ => rfl, fun _ => hv2, by simpa [upd] using g3, fun _ => ⟨by simpa [upd] using e2, rfl⟩⟩
     · have e3 : E 3 = true := by simp_all
       obtain rfl := g3 e3
       have hb1 : Boxed (w'.setCell ⟨w.heap.size + 1 + 1, 0, none⟩ (.int .i64 p)) (w.heap.size + 1) 22 vx := (Below.heap_setCell w' ⟨w.heap.size + 1 + 1, 0, none⟩ _ (w.heap.size + 1) (by show w.heap.size + 1 ≠ w.heap.size + 1 + 1; omega)).trans bx
       have hb2 := by'.set (.int .i64 (p : Int))
       have hb3 : Boxed (w'.setCell ⟨w.heap.size + 1 + 1, 0, none⟩ (.int .i64 p)) (w.heap.size + 1 + 1 + 1) 24 (.int .i64 0) := (Below.heap_setCell w' ⟨w.heap.size + 1 + 1, 0, none⟩ _ (w.heap.size + 1 + 1 + 1) (by show w.heap.size + 1 + 1 + 1 ≠ w.heap.size + 1 + 1; omega)).trans bz
       have hBn := hBw.setCell (p := ⟨w.heap.size + 1 + 1, 0, none⟩) (by show w.heap.size ≤ w.heap.size + 1 + 1; omega) (.int .i64 (p : Int))
       have hv2 : E 2 = true → Own8 (w.heap.size + 1 + 1 + 1 + 1) (w'.setCell ⟨w.heap.size + 1 + 1, 0, none⟩ (.int .i64 p)) x13 (delW y p) := fun e2 => ownsRow_setCell_below (g2 e2) (by show w.heap.size + 1 + 1 < _; omega) _
       go_simp
       exact hK _ _ ⟨vx, _, _, x13, _, rfl, hBn, hb1, hb2, hb3, fun _ => rfl, fun _ => rfl, by simpa [upd] using hv2, fun _ => rfl, by simpa [upd] using g4⟩
     · have hb1 : Boxed (w'.setCell ⟨w.heap.size + 1 + 1 + 1, 0, none⟩ (.int .i64 0)) (w.heap.size + 1) 22 vx := (Below.heap_setCell w' ⟨w.heap.size + 1 + 1 + 1, 0, none⟩ _ (w.heap.size + 1) (by show w.heap.size + 1 ≠ w.heap.size + 1 + 1 + 1; omega)).trans bx
       have hb2 : Boxed (w'.setCell ⟨w.heap.size + 1 + 1 + 1, 0, none⟩ (.int .i64 0)) (w.heap.size + 1 + 1) 3 (.int .i64 p) := (Below.heap_setCell w' ⟨w.heap.size + 1 + 1 + 1, 0, none⟩ _ (w.heap.size + 1 + 1) (by show w.heap.size + 1 + 1 ≠ w.heap.size + 1 + 1 + 1; omega)).trans by'
       have hb3 := bz.set (.int .i64 (0 : Int))
       have hBn := hBw.setCell (p := ⟨w.heap.size + 1 + 1 + 1, 0, none⟩) (by show w.heap.size ≤ w.heap.size + 1 + 1 + 1; omega) (.int .i64 (0 : Int))
       have hv2 : E 2 = true → Own8 (w.heap.size + 1 + 1 + 1 + 1) (w'.setCell ⟨w.heap.size + 1 + 1 + 1, 0, none⟩ (.int .i64 0)) x13 (delW y p) := fun e2 => ownsRow_setCell_below (g2 e2) (by show w.heap.size + 1 + 1 + 1 < _; omega) _
       go_simp
       exact hK _ _ ⟨vx, _, _, x13, _, rfl, hBn, hb1, hb2, hb3, fun _ => rfl, fun _ => rfl, by simpa [upd] using hv2, fun _ => rfl, by simpa [upd] using g4⟩
    case fin =>
     intro E a' w' hall ⟨vx, x11, x12, x13, x14, ha, hBw, bx, by', bz, g0, g1, g2, g3, g4⟩
     obtain ⟨-, rfl⟩ := g4 (hall 4 (by decide))
     have hv := g2 (hall 2 (by decide))
     subst ha
     rw [HT.out]
     have kx := bx.cell
     have ky := by'.cell
     have kz := bz.cell
     go_wp2_with fail
     refine leaves_cons (f := 99) (args := #[.pointer (some ⟨w.heap.size + 1, 0, none⟩), .pointer (some ⟨w.heap.size + 1 + 1, 0, none⟩), .pointer (some ⟨w.heap.size + 1 + 1 + 1, 0, none⟩)]) (by simp) (by simp [go_sem]) ?_
     refine (ecatch_idle ⟨w.heap.size + 1, 0, none⟩ ⟨w.heap.size + 1 + 1, 0, none⟩ ⟨w.heap.size + 1 + 1 + 1, 0, none⟩ _).mono ?_
     rintro e u' w'' ⟨rfl, rfl, rfl⟩
     refine ⟨.tuple #[vx, .int .i64 p, .int .i64 0], ?_, hBw, .inl ⟨p, vx, Hp.out, rfl, Sl.of_own hv⟩⟩
     simp [results, Tryz.f85, go_sem, kx, ky, kz]
  · have hs1 := hB.size
    have hx1 : Boxed w1 (w.heap.size + 1) 22 (.slice none 0 0) := (hB.block _ (by omega)).trans hx
    have hy1 : Boxed w1 (w.heap.size + 1 + 1) 3 (.int .i64 0) := (hB.block _ (by omega)).trans hy
    have hz1 : Boxed w1 (w.heap.size + 1 + 1 + 1) 24 (.int .i64 0) := (hB.block _ (by omega)).trans hz
    have Hm := Lib.hid hm
    have hx2 := hx1.set (.slice none 0 0)
    have hy2 : Boxed (w1.setCell ⟨w.heap.size + 1, 0, none⟩ (.slice none 0 0)) (w.heap.size + 1 + 1) 3 (.int .i64 0) := (Below.heap_setCell w1 ⟨w.heap.size + 1, 0, none⟩ _ (w.heap.size + 1 + 1) (by show w.heap.size + 1 + 1 ≠ w.heap.size + 1; omega)).trans hy1
    have hx3 : Boxed ((w1.setCell ⟨w.heap.size + 1, 0, none⟩ (.slice none 0 0)).setCell ⟨w.heap.size + 1 + 1, 0, none⟩ (.int .i64 0)) (w.heap.size + 1) 22 (.slice none 0 0) := (Below.heap_setCell _ ⟨w.heap.size + 1 + 1, 0, none⟩ _ (w.heap.size + 1) (by show w.heap.size + 1 ≠ w.heap.size + 1 + 1; omega)).trans hx2
    have hy3 := hy2.set (.int .i64 (0 : Int))
    have hz2 : Boxed (w1.setCell ⟨w.heap.size + 1, 0, none⟩ (.slice none 0 0)) (w.heap.size + 1 + 1 + 1) 24 (.int .i64 0) := (Below.heap_setCell w1 ⟨w.heap.size + 1, 0, none⟩ _ (w.heap.size + 1 + 1 + 1) (by show w.heap.size + 1 + 1 + 1 ≠ w.heap.size + 1; omega)).trans hz1
    have hz3 : Boxed ((w1.setCell ⟨w.heap.size + 1, 0, none⟩ (.slice none 0 0)).setCell ⟨w.heap.size + 1 + 1, 0, none⟩ (.int .i64 0)) (w.heap.size + 1 + 1 + 1) 24 (.int .i64 0) := (Below.heap_setCell _ ⟨w.heap.size + 1 + 1, 0, none⟩ _ (w.heap.size + 1 + 1 + 1) (by show w.heap.size + 1 + 1 + 1 ≠ w.heap.size + 1 + 1; omega)).trans hz2
    have hx4 : Boxed (((w1.setCell ⟨w.heap.size + 1, 0, none⟩ (.slice none 0 0)).setCell ⟨w.heap.size + 1 + 1, 0, none⟩ (.int .i64 0)).setCell ⟨w.heap.size + 1 + 1 + 1, 0, none⟩ (.int .i64 m)) (w.heap.size + 1) 22 (.slice none 0 0) := (Below.heap_setCell _ ⟨w.heap.size + 1 + 1 + 1, 0, none⟩ _ (w.heap.size + 1) (by show w.heap.size + 1 ≠ w.heap.size + 1 + 1 + 1; omega)).trans hx3
    have hy4 : Boxed (((w1.setCell ⟨w.heap.size + 1, 0, none⟩ (.slice none 0 0)).setCell ⟨w.heap.size + 1 + 1, 0, none⟩ (.int .i64 0)).setCell ⟨w.heap.size + 1 + 1 + 1, 0, none⟩ (.int .i64 m)) (w.heap.size + 1 + 1) 3 (.int .i64 0) := (Below.heap_setCell _ ⟨w.heap.size + 1 + 1 + 1, 0, none⟩ _ (w.heap.size + 1 + 1) (by show w.heap.size + 1 + 1 ≠ w.heap.size + 1 + 1 + 1; omega)).trans hy3
    have hz4 := hz3.set (.int .i64 m)
    have hBf := (((below_trans hA hB).setCell (p := ⟨w.heap.size + 1, 0, none⟩) (by show w.heap.size ≤ w.heap.size + 1; omega) (.slice none 0 0)).setCell (p := ⟨w.heap.size + 1 + 1, 0, none⟩) (by show w.heap.size ≤ w.heap.size + 1 + 1; omega) (.int .i64 (0 : Int))).setCell (p := ⟨w.heap.size + 1 + 1 + 1, 0, none⟩) (by show w.heap.size ≤ w.heap.size + 1 + 1 + 1; omega) (.int .i64 m)
    have kx := hx4.cell
    have ky := hy4.cell
    have kz := hz4.cell
    clear hx hy hz hm hx2 hy2 hz2 hx3 hy3 hz3 hx4 hy4 hz4 hF hWo
    go_wp2
    refine leaves_cons (f := 99) (args := #[.pointer (some ⟨w.heap.size + 1, 0, none⟩), .pointer (some ⟨w.heap.size + 1 + 1, 0, none⟩), .pointer (some ⟨w.heap.size + 1 + 1 + 1, 0, none⟩)]) (by simp) (by simp [go_sem]) ?_
    refine (ecatch_take (w.heap.size + 1) (w.heap.size + 1 + 1) (w.heap.size + 1 + 1 + 1) m _ _ _ w1 (by omega) (by omega) (by omega) hx1 hy1 hz1).mono ?_
    rintro e u' w'' ⟨rfl, rfl, rfl⟩
    refine ⟨.tuple #[.slice none 0 0, .int .i64 0, .int .i64 m], ?_, hBf, .inr ⟨m, Hm.out, rfl⟩⟩
    simp [results, Tryz.f85, go_sem, kx, ky, kz]
end Go.Proofs.YtkibigbcdlilkaaGreatDoor.Ex
