import Derived.Defers
import Derived.Recover
import Derived.Test.YtjclfkbhakjdaaaDoorShAY
namespace Go.Proofs.YtjclfkbhakjdaaaDoor.Sh
open Go.RowKit Go.Shelf
attribute [local go_sem] Oper.semAt_some run_store_func
theorem below_alloc (w : World) (o : Obj) : Below w.heap.size w (w.alloc o) := (Below.refl w.heap.size w).alloc (Nat.le_refl _) o
set_option maxRecDepth 100000 in
set_option maxHeartbeats 2000000 in
theorem told1_idle (p : Addr) (w : World) :
    CallsD Tryd.prog 84 #[.pointer (some p)] .returning w fun e u' w' => e = .returned (.tuple #[]) ∧ u' = .returning ∧ w' = w := by
  refine callsD_of_wpS Tryd.func84 rfl fun c₀ cs hu => ?_
  apply wpS_seq
  apply wpS_region
  simp [wpOpsS, go_sem, recoverD, hu, Tryd.ntmps84, Exit.thenS]
  refine wpS_of_wp ?_
  go_wp2
  cases c₀
  simp_all [bodyPostS, results, Tryd.results84]
set_option maxRecDepth 100000 in
set_option maxHeartbeats 2000000 in
theorem told1_take (b : Nat) (n : Int) (v0 : Value) (w : World) (hc : w.cell? ⟨b, 0, none⟩ = some v0) (hf : w.frozen? ⟨b, 0, none⟩ = false) :
    CallsD Tryd.prog 84 #[.pointer (some ⟨b, 0, none⟩)] (.panicking [{ v := .iface 28 (.int .i64 n), recovered := false }]) w fun e u' w' => e = .returned (.tuple #[]) ∧ u' = .panicking [{ v := .iface 28 (.int .i64 n), recovered := true }] ∧ w' = w.setCell ⟨b, 0, none⟩ (.int .i64 (-1)) := by
  have hta : ∀ w, (Instr.typeAssert (.iface 28 (.int .i64 n)) 20 28 true).run Tryd.prog w = .ok (.tuple #[.int .i64 n, .bool true]) w := fun _ => by kernel_rfl
  refine callsD_of_wpS Tryd.func84 rfl fun c₀ cs hu => ?_
  apply wpS_seq
  apply wpS_region
  simp [wpOpsS, go_sem, recoverD, hu, Tryd.ntmps84, Exit.thenS]
  refine wpS_of_wp ?_
  go_wp2
  cases c₀
  simp_all [bodyPostS, results, Tryd.results84]
set_option maxRecDepth 100000 in
set_option maxHeartbeats 2000000 in
theorem told_yes (P D R n : Int) (f : FuncId) (cap : Array Value) (h : May P D R) (w : World) (hT : Tab w) (hen : ∀ w, (callFunc f cap).run Tryd.prog w = .ok (.enter f cap) w)
    (hf : ∀ w1, Below w.heap.size w w1 → Calls Tryd.prog f cap w1 fun e w' => e = .returned (.int .i64 n) ∧ Below w1.heap.size w1 w') :
    Calls Tryd.prog 60 #[shV P D R, .func (.func f) #[] cap] w fun e w' => e = .returned (.int .i64 n) ∧ Below w.heap.size w w' := by
 have hmf : ∀ (fn : Fn) (first cap : Array Value) (w : World), (Instr.makeFunc fn first cap).run Tryd.prog w = .ok (.func fn first cap) w := fun _ _ _ _ => rfl
 have hA1 := below_alloc w (.cells #[.int .i64 P, .int .i64 D, .int .i64 R] 23)
 have hA2 := below_alloc (w.alloc (.cells #[.int .i64 P, .int .i64 D, .int .i64 R] 23)) (.cells #[.int .i64 0] 3)
 have hA := below_trans hA1 hA2
 have hb0 := Boxed.new (w.alloc (.cells #[.int .i64 P, .int .i64 D, .int .i64 R] 23)) 3 (.int .i64 0)
 rw [World.size_alloc] at hb0
 go_enter_defers Tryd.func60, Tryd.ntmps60
 go_wp2_with fail
 generalize (w.alloc (.cells #[.int .i64 P, .int .i64 D, .int .i64 R] 23)).alloc (.cells #[.int .i64 0] 3) = w0 at *
 go_at_call 30
 refine (Check_yes P D R h w0 (hT.below hA)).mono ?_
 rintro e w1 ⟨rfl, hB1⟩
 have hb1 : Boxed w1 (w.heap.size + 1) 3 (.int .i64 0) := (hB1.block _ hb0.lt).trans hb0
 have hAB := below_trans hA hB1
 go_wp2_with fail
 refine (hf w1 hAB).mono ?_
 rintro e w2 ⟨rfl, hB2⟩
 have hb2 : Boxed w2 (w.heap.size + 1) 3 (.int .i64 0) := (hB2.block _ hb1.lt).trans hb1
 have hc := hb2.cell
 have hz := hb2.frozen
 go_wp2
 refine leaves_cons (f := 84) (args := #[.pointer (some ⟨w.heap.size + 1, 0, none⟩)]) (by simp) (by simp [go_sem]) ?_
 refine (told1_idle ⟨w.heap.size + 1, 0, none⟩ _).mono ?_
 rintro e u' w'' ⟨rfl, rfl, rfl⟩
 have hc5 := (hb2.set (.int .i64 n)).cell
 refine ⟨.int .i64 n, ?_, rfl, (below_trans hAB hB2).setCell (p := ⟨w.heap.size + 1, 0, none⟩) (by simp) _⟩
 simp [results, Tryd.f60, go_sem, hc5]
set_option maxRecDepth 100000 in
set_option maxHeartbeats 2000000 in
theorem told_no (P D R : Int) (f : FuncId) (cap : Array Value) (h : ¬ May P D R) (w : World) (hT : Tab w) :
    Calls Tryd.prog 60 #[shV P D R, .func (.func f) #[] cap] w fun e w' => e = .returned (.int .i64 (-1)) ∧ Below w.heap.size w w' := by
  have hmf : ∀ (fn : Fn) (first cap : Array Value) (w : World), (Instr.makeFunc fn first cap).run Tryd.prog w = .ok (.func fn first cap) w := fun _ _ _ _ => rfl
  have hA1 := below_alloc w (.cells #[.int .i64 P, .int .i64 D, .int .i64 R] 23)
  have hA2 := below_alloc (w.alloc (.cells #[.int .i64 P, .int .i64 D, .int .i64 R] 23)) (.cells #[.int .i64 0] 3)
  have hA := below_trans hA1 hA2
  have hb0 := Boxed.new (w.alloc (.cells #[.int .i64 P, .int .i64 D, .int .i64 R] 23)) 3 (.int .i64 0)
  rw [World.size_alloc] at hb0
  go_enter_defers Tryd.func60, Tryd.ntmps60
  go_wp2_with fail
  generalize (w.alloc (.cells #[.int .i64 P, .int .i64 D, .int .i64 R] 23)).alloc (.cells #[.int .i64 0] 3) = w0 at *
  go_at_call 30
  refine (Check_no P D R h w0 (hT.below hA)).mono ?_
  rintro e w1 ⟨rfl, hB1⟩
  have hb1 : Boxed w1 (w.heap.size + 1) 3 (.int .i64 0) := (hB1.block _ hb0.lt).trans hb0
  have hAB := below_trans hA hB1
  have hc := hb1.cell
  have hz := hb1.frozen
  go_wp2
  refine leaves_cons (f := 84) (args := #[.pointer (some ⟨w.heap.size + 1, 0, none⟩)]) (by simp) (by simp [go_sem]) ?_
  refine (told1_take (w.heap.size + 1) 180 _ w1 hc hz).mono ?_
  rintro e u' w'' ⟨rfl, rfl, rfl⟩
  have hc5 := (hb1.set (.int .i64 (-1))).cell
  refine ⟨.int .i64 (-1), ?_, rfl, hAB.setCell (p := ⟨w.heap.size + 1, 0, none⟩) (by simp) _⟩
  simp [results, Tryd.f60, go_sem, hc5]
theorem RefCheck_yes (P D R : Int) (h : May P D R) (w : World) :
    Calls Tryd.prog 25 #[shV P D R] w fun e w' => e = .returned (.int .i64 0) ∧ Below w.heap.size w w' := by
  obtain ⟨hp, h1, h2, h3, h4⟩ := h
  have hA := below_alloc w (.cells #[.int .i64 P, .int .i64 D, .int .i64 R] 23)
  have d1 : decide (D < 1) = false := decide_eq_false (by omega)
  have d2 : decide (R < 0) = false := decide_eq_false (by omega)
  have d3 : decide (32 < R) = false := decide_eq_false (by omega)
  have d4 : decide (255 - R < D) = false := decide_eq_false (by omega)
  rcases hp with rfl | rfl | rfl | rfl | rfl
  all_goals
   go_enter Tryd.func25, Tryd.ntmps25
   go_wp2
   go_ret
   exact ⟨rfl, hA⟩
set_option maxHeartbeats 1000000 in
theorem RefCheck_no (P D R : Int) (h : ¬ May P D R) (w : World) :
    Calls Tryd.prog 25 #[shV P D R] w fun e w' => e = .returned (.int .i64 180) ∧ Below w.heap.size w w' := by
  have hA := below_alloc w (.cells #[.int .i64 P, .int .i64 D, .int .i64 R] 23)
  by_cases hp : payOk P
  · have hc : (decide (D < 1) = true) ∨ (decide (D < 1) = false ∧ decide (R < 0) = true) ∨ (decide (D < 1) = false ∧ decide (R < 0) = false ∧ decide (32 < R) = true) ∨ (decide (D < 1) = false ∧ decide (R < 0) = false ∧ decide (32 < R) = false ∧ 0 ≤ R ∧ R ≤ 32 ∧ decide (255 - R < D) = true) := by
      have hr : ¬ restOk D R := fun hr => h ⟨hp, hr⟩
      unfold restOk at hr
      simp only [decide_eq_true_eq, decide_eq_false_iff_not]
      omega
    clear h
    rcases hp with rfl | rfl | rfl | rfl | rfl
    all_goals
     rcases hc with c1 | ⟨c1, c2⟩ | ⟨c1, c2, c3⟩ | ⟨c1, c2, c3, c4, c5, c6⟩
     all_goals
      go_enter Tryd.func25, Tryd.ntmps25
      go_wp2
      go_ret
      exact ⟨rfl, hA⟩
  · clear h
    have hc : (decide (P < 2) = true) ∨ (decide (P < 2) = false ∧ decide (22 < P) = true) ∨ (decide (P < 2) = false ∧ decide (22 < P) = false ∧ 2 ≤ P ∧ P ≤ 22 ∧ ((P + 3) % 5 == 0) = false ∧ ((P + 3) % 5 != 0) = true) := by
     unfold payOk at hp
     simp only [decide_eq_true_eq, decide_eq_false_iff_not, bne_iff_ne, beq_eq_false_iff_ne]
     omega
    clear hp
    rcases hc with c1 | ⟨c1, c2⟩ | ⟨c1, c2, c3, c4, c5, c6⟩
    all_goals
     go_enter Tryd.func25, Tryd.ntmps25
     go_wp2
     go_ret
     exact ⟨rfl, hA⟩
end Go.Proofs.YtjclfkbhakjdaaaDoor.Sh
