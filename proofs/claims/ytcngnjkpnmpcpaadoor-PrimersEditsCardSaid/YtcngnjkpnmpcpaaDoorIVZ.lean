import Derived.Laws.StructEq
import Derived.Laws.Rows
import Derived.Still
import Derived.Orders
import Derived.Test.YtcngnjkpnmpcpaaDoorLZ
namespace Go.Proofs.YtcngnjkpnmpcpaaDoor
open Go.RowKit
theorem below_alloc (w : World) (o : Obj) : Below w.heap.size w (w.alloc o) := (Below.refl _ w).alloc (Nat.le_refl _) o
end Go.Proofs.YtcngnjkpnmpcpaaDoor
namespace Go.Proofs.YtcngnjkpnmpcpaaDoor
open Go.RowKit
theorem run_max_i {P : Program} (ts : Array TypeId) (t : TypeId) (x y : Int) (w : World) : (Builtin.max_ ts t #[.int .i64 x, .int .i64 y]).run P w = .ok (.int .i64 (max x y)) w := by
 rw [run_max_int2]
 congr 2
 split <;> omega
theorem run_min_i {P : Program} (ts : Array TypeId) (t : TypeId) (x y : Int) (w : World) : (Builtin.min_ ts t #[.int .i64 x, .int .i64 y]).run P w = .ok (.int .i64 (min x y)) w := by
 rw [run_min_int2]
 congr 2
 split <;> omega
theorem run_max3_i {P : Program} (ts : Array TypeId) (t : TypeId) (x y z : Int) (w : World) : (Builtin.max_ ts t #[.int .i64 x, .int .i64 y, .int .i64 z]).run P w = .ok (.int .i64 (max (max x y) z)) w := by
 have h : (if y > x then y else x) = max x y := by split <;> omega
 have h2 : (if z > max x y then z else max x y) = max (max x y) z := by split <;> omega
 simp only [Builtin.max_, List.foldlM, Builtin.max2, pure_bind, h, h2, bind_pure]
 simp
theorem run_min3_i {P : Program} (ts : Array TypeId) (t : TypeId) (x y z : Int) (w : World) : (Builtin.min_ ts t #[.int .i64 x, .int .i64 y, .int .i64 z]).run P w = .ok (.int .i64 (min (min x y) z)) w := by
 have h : (if y < x then y else x) = min x y := by split <;> omega
 have h2 : (if z < min x y then z else min x y) = min (min x y) z := by split <;> omega
 simp only [Builtin.min_, List.foldlM, Builtin.min2, pure_bind, h, h2, bind_pure]
 simp
theorem wpList_max_v {P : Program} {w : World} {ops : Array Oper} {rest : List Oper} {o : Oper} {a : Act} {Q : Exit → Act → World → Prop} (hgd : o.guard = none) (x y : Operand) (ts : Array TypeId)
    (ho : o.op = .call { callee := .builtin .max, args := #[x, y], argTypes := ts }) (vx vy : Int) (hx : a.eval x = .int .i64 vx) (hy : a.eval y = .int .i64 vy) (m : Int) (hm : max vx vy = m) (h : wpList P ops Q rest (a.put o.dst (.int .i64 m)) w) : wpList P ops Q (o :: rest) a w := by
 refine wpList_plain hgd fun K hK => ?_
 have hrun := run_max_i (P := P) ts o.type vx vy w
 rw [hm] at hrun
 unfold Oper.wp execOp
 simp only [ho, resolve, invoke, builtin, Sem.run_bind, Sem.run_pure, Result.andThen_ok, List.map_toArray, List.map_cons, List.map_nil, hx, hy, hrun]
 exact hK _ _ h
theorem wpList_min_v {P : Program} {w : World} {ops : Array Oper} {rest : List Oper} {o : Oper} {a : Act} {Q : Exit → Act → World → Prop} (hgd : o.guard = none) (x y : Operand) (ts : Array TypeId)
    (ho : o.op = .call { callee := .builtin .min, args := #[x, y], argTypes := ts }) (vx vy : Int) (hx : a.eval x = .int .i64 vx) (hy : a.eval y = .int .i64 vy) (m : Int) (hm : min vx vy = m) (h : wpList P ops Q rest (a.put o.dst (.int .i64 m)) w) : wpList P ops Q (o :: rest) a w := by
 refine wpList_plain hgd fun K hK => ?_
 have hrun := run_min_i (P := P) ts o.type vx vy w
 rw [hm] at hrun
 unfold Oper.wp execOp
 simp only [ho, resolve, invoke, builtin, Sem.run_bind, Sem.run_pure, Result.andThen_ok, List.map_toArray, List.map_cons, List.map_nil, hx, hy, hrun]
 exact hK _ _ h
theorem wpList_max3_v {P : Program} {w : World} {ops : Array Oper} {rest : List Oper} {o : Oper} {a : Act} {Q : Exit → Act → World → Prop} (hgd : o.guard = none) (x y z : Operand) (ts : Array TypeId)
    (ho : o.op = .call { callee := .builtin .max, args := #[x, y, z], argTypes := ts }) (vx vy vz : Int) (hx : a.eval x = .int .i64 vx) (hy : a.eval y = .int .i64 vy) (hz : a.eval z = .int .i64 vz) (m : Int) (hm : max (max vx vy) vz = m) (h : wpList P ops Q rest (a.put o.dst (.int .i64 m)) w) : wpList P ops Q (o :: rest) a w := by
 refine wpList_plain hgd fun K hK => ?_
 have hrun := run_max3_i (P := P) ts o.type vx vy vz w
 rw [hm] at hrun
 unfold Oper.wp execOp
 simp only [ho, resolve, invoke, builtin, Sem.run_bind, Sem.run_pure, Result.andThen_ok, List.map_toArray, List.map_cons, List.map_nil, hx, hy, hz, hrun]
 exact hK _ _ h
theorem wpList_min3_v {P : Program} {w : World} {ops : Array Oper} {rest : List Oper} {o : Oper} {a : Act} {Q : Exit → Act → World → Prop} (hgd : o.guard = none) (x y z : Operand) (ts : Array TypeId)
    (ho : o.op = .call { callee := .builtin .min, args := #[x, y, z], argTypes := ts }) (vx vy vz : Int) (hx : a.eval x = .int .i64 vx) (hy : a.eval y = .int .i64 vy) (hz : a.eval z = .int .i64 vz) (m : Int) (hm : min (min vx vy) vz = m) (h : wpList P ops Q rest (a.put o.dst (.int .i64 m)) w) : wpList P ops Q (o :: rest) a w := by
 refine wpList_plain hgd fun K hK => ?_
 have hrun := run_min3_i (P := P) ts o.type vx vy vz w
 rw [hm] at hrun
 unfold Oper.wp execOp
 simp only [ho, resolve, invoke, builtin, Sem.run_bind, Sem.run_pure, Result.andThen_ok, List.map_toArray, List.map_cons, List.map_nil, hx, hy, hz, hrun]
 exact hK _ _ h
end Go.Proofs.YtcngnjkpnmpcpaaDoor
namespace Go.Proofs.YtcngnjkpnmpcpaaDoor
open Go.RowKit
def upd (D : Nat → Bool) (i : Nat) : Nat → Bool := fun j => if j = i then true else D j
theorem upd_same (D : Nat → Bool) (i : Nat) : upd D i i = true := by simp [upd]
theorem upd_other (D : Nat → Bool) {i j : Nat} (h : j ≠ i) : upd D i j = D j := by simp [upd, h]
theorem wpAny_inv {P : Program} {md : Region.Mode} {ops : Array Oper} {Q : Exit → Act → World → Prop} (I : (Nat → Bool) → Act → World → Prop)
    (hB : (ops.toList.zipIdx.all fun (o, i) => o.after.all fun e => decide (e.on < i)) = true)
    (hstep : ∀ (D : Nat → Bool) (a : Act) (w : World) (i : Nat) (o : Oper), ops[i]? = some o → D i = false → (o.after.all fun e => !Region.binds md e || D e.on) = true → I D a w →
      ∀ K : Act → World → Prop, (∀ a w, I (upd D i) a w → K a w) → if Region.wanted o (yielded ops a.tmps) = true then o.wp P a w K Q else K (a.put o.dst undef) w)
    (hend : ∀ D a w, (∀ i, i < ops.size → D i = true) → I D a w → Q .normal a w) :
    ∀ (fuel : Nat) (listed : Array Bool) (a : Act) (w : World), listed.size = ops.size → (listed.toList.filter (!·)).length = fuel → I (fun j => listed.getD j true) a w → wpAny P md ops Q fuel listed a w := by
 have hbe : ∀ (i : Nat) (o : Oper), ops[i]? = some o → ∀ e ∈ o.after, e.on < i := by
  intro i o ho e he
  have h1 := List.all_eq_true.1 hB (o, i) (by rw [List.mem_zipIdx_iff_getElem?]; simpa using ho)
  have h2 := Array.all_eq_true'.1 h1 e he
  simpa using h2
 intro fuel
 induction fuel with
 | zero =>
   intro listed a w hs hf hI
   have hall : ∀ i, i < ops.size → listed.getD i true = true := by
    intro i hi
    rw [List.length_eq_zero_iff, List.filter_eq_nil_iff] at hf
    have h1 := hf (listed[i]'(by omega)) (by simp)
    simp only [Array.getD_eq_getD_getElem?, Array.getElem?_eq_getElem (show i < listed.size by omega), Option.getD_some]
    simpa using h1
   refine ⟨?_, hend _ a w hall hI⟩
   rw [Region.ready, List.filter_eq_nil_iff]
   intro i hi
   rw [List.mem_range] at hi
   simp [hall i hi]
 | succ fuel ih =>
   intro listed a w hs hf hI
   refine ⟨fun hr => ?_, fun i hi => ?_⟩
   · exfalso
     have hne : ∃ i, i < ops.size ∧ listed.getD i true = false := by
      apply Classical.byContradiction
      intro hno
      have : (listed.toList.filter (!·)) = [] := by
       rw [List.filter_eq_nil_iff]
       intro b hb
       obtain ⟨i, hi, rfl⟩ := List.mem_iff_getElem.1 hb
       cases hbi : listed.toList[i] with
       | true => simp
       | false =>
         exfalso
         refine hno ⟨i, by simpa [hs] using hi, ?_⟩
         have hi2 : i < listed.size := by simpa using hi
         simp only [Array.getD_eq_getD_getElem?, Array.getElem?_eq_getElem hi2, Option.getD_some]
         simpa using hbi
      rw [this] at hf
      simp at hf
     have hmin : ∃ i, i < ops.size ∧ listed.getD i true = false ∧ ∀ j, j < i → listed.getD j true = true := by
      obtain ⟨i, h1, h2⟩ := hne
      induction i using Nat.strongRecOn with
      | ind i ihi =>
        by_cases hj : ∃ j, j < i ∧ listed.getD j true = false
        · obtain ⟨j, hj1, hj2⟩ := hj
          exact ihi j hj1 (by omega) hj2
        · refine ⟨i, h1, h2, fun j hj1 => ?_⟩
          cases hb : listed.getD j true with
          | true => rfl
          | false => exact absurd ⟨j, hj1, hb⟩ hj
     obtain ⟨i, h1, h2, h3⟩ := hmin
     rw [Region.ready, List.filter_eq_nil_iff] at hr
     have h4 := hr i (by rw [List.mem_range]; exact h1)
     apply h4
     have ho : ops[i]? = some ops[i] := Array.getElem?_eq_getElem h1
     simp only [h2, ho, Bool.not_false, Bool.true_and, Option.map_some, Option.getD_some]
     rw [Array.all_eq_true']
     intro e he
     have h5 := hbe i _ ho e he
     have h6 := h3 e.on h5
     have h7 : listed.getD e.on false = true := by
      have hlt : e.on < listed.size := by omega
      simp only [Array.getD_eq_getD_getElem?, Array.getElem?_eq_getElem hlt, Option.getD_some] at h6 ⊢
      exact h6
     rw [h7, Bool.or_true]
   · rw [Region.ready, List.mem_filter, List.mem_range] at hi
     obtain ⟨hlt, hcond⟩ := hi
     have ho : ops[i]? = some ops[i] := Array.getElem?_eq_getElem hlt
     simp only [ho, Option.map_some, Option.getD_some, Bool.and_eq_true, Bool.not_eq_true'] at hcond
     have hdep : (ops[i].after.all fun e => !Region.binds md e || (fun j => listed.getD j true) e.on) = true := by
      rw [Array.all_eq_true']
      intro e he
      have h5 := hbe i _ ho e he
      have h6 := Array.all_eq_true'.1 hcond.2 e he
      have hlt2 : e.on < listed.size := by omega
      simp only [Array.getD_eq_getD_getElem?, Array.getElem?_eq_getElem hlt2, Option.getD_some] at h6 ⊢
      exact h6
     have hst := hstep _ a w i _ ho hcond.1 hdep hI
     refine wpOp_step ho fun K hK => hst K fun a' w' hI' => hK a' w' ?_
     refine ih _ a' w' (by simp [hs]) ?_ ?_
     · have hil : i < listed.size := by omega
       have hli : listed[i] = false := by
        have := hcond.1
        simpa only [Array.getD_eq_getD_getElem?, Array.getElem?_eq_getElem hil, Option.getD_some] using this
       rw [Array.toList_setIfInBounds]
       have hcnt : ∀ (l : List Bool) (i : Nat), l[i]? = some false → ((l.set i true).filter (!·)).length + 1 = (l.filter (!·)).length := by
        intro l
        induction l with
        | nil => intro i h; simp at h
        | cons b l ihl =>
          intro i h
          cases i with
          | zero =>
            simp only [List.getElem?_cons_zero, Option.some.injEq] at h
            subst h
            simp
          | succ i =>
            simp only [List.getElem?_cons_succ] at h
            have := ihl i h
            cases b <;> simp [List.set_cons_succ] <;> omega
       have := hcnt listed.toList i (by simp [hil, hli])
       omega
     · have e : (fun j => (listed.setIfInBounds i true).getD j true) = upd (fun j => listed.getD j true) i := by
         funext j
         have hil : i < listed.size := by omega
         by_cases hj : j = i
         · subst hj
           simp [upd, Array.getD_eq_getD_getElem?, hil]
         · simp only [upd, if_neg hj, Array.getD_eq_getD_getElem?]
           rw [Array.getElem?_setIfInBounds_ne (by omega)]
       rw [e]
       exact hI'
end Go.Proofs.YtcngnjkpnmpcpaaDoor
