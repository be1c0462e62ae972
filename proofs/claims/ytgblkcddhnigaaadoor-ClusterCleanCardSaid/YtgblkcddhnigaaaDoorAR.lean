/- Arrays of bytes held against one another. Of no program. -/
import Derived.Test.YtgblkcddhnigaaaDoorL
import Derived.Laws.StructEq
import Derived.Laws.Rows
import Derived.Still
namespace Go.Proofs.YtgblkcddhnigaaaDoor
open Go.RowKit

theorem below_alloc (w : World) (o : Obj) : Below w.heap.size w (w.alloc o) := (Below.refl _ w).alloc (Nat.le_refl _) o
theorem wpList_wanted {P : Program} {ops : Array Oper} {Q : Exit → Act → World → Prop} {a : Act} {w : World} {rest : List Oper} {o : Oper} (hw : Region.wanted o (yielded ops a.tmps) = true)
    (h : ∀ K : Act → World → Prop, (∀ a w, wpList P ops Q rest a w → K a w) → o.wp P a w K Q) : wpList P ops Q (o :: rest) a w :=
  wpList_step fun K hK => by rw [if_pos hw]; exact h K hK
/-- An array or struct that is written out, whose run is known. -/
theorem wpList_build {P : Program} {ops : Array Oper} {rest : List Oper} {o : Oper} {a : Act} {w : World} {Q : Exit → Act → World → Prop} (hw : Region.wanted o (yielded ops a.tmps) = true) (t : TypeId) (parts : Array (Nat × Operand)) (ho : o.op = .build t parts) (vs : Array (Nat × Value)) (v : Value)
    (hrun : (Instr.build t vs).run P w = .ok v w) (hp : (parts.map fun (i, x) => (i, a.eval x)) = vs) (h : wpList P ops Q rest (a.put o.dst v) w) : wpList P ops Q (o :: rest) a w := by
  refine wpList_wanted hw fun K hK => ?_
  unfold Oper.wp execOp
  simp only [ho, Sem.run_bind, Result.andThen_ok, hp, hrun, Sem.run_pure]
  exact hK _ _ h
/-- A row by value, loaded where a guard asks for it. -/
theorem wpList_load_rowg {P : Program} {ops : Array Oper} {rest : List Oper} {o : Oper} {a : Act} {w : World} {Q : Exit → Act → World → Prop} (hw : Region.wanted o (yielded ops a.tmps) = true) (ty : TypeId) (x : Operand) (ho : o.op = .load ty x)
    (g : Nat) (hx : a.eval x = .pointer (some ⟨g, 0, none⟩)) (t : TypeId) (cs : Array Value) (fr : Nat × Nat) (d : TypeDesc) (hg : w.heap[g]? = some (.cells cs t fr))
    (hu : P.underlying ty = some d) (hd : (match d with | .struct _ | .array _ _ => true | _ => false) = true) (hi : (P.info? ty).map (·.size) = some cs.size)
    (h : wpList P ops Q rest (a.put o.dst (.agg cs)) w) : wpList P ops Q (o :: rest) a w :=
  wpList_wanted hw fun _ hK => wp_load_row ty x ho g hx t cs fr d hg hu hd hi (hK _ _ h)
/-- A row by value, loaded in a region that only reads. -/
theorem still_load {P : Program} {ops : Array Oper} {w : World} {Q : Act → Prop} {a : Act} {o : Oper} {rest : List Oper} (ty : TypeId) (x : Operand) (hw : Region.wanted o (yielded ops a.tmps) = true) (ho : o.op = .load ty x) (v : Value)
    (hrun : (Instr.loadAt ty (a.eval x)).run P w = .ok v w) (h : wpStill P ops w Q rest (a.put o.dst v)) : wpStill P ops w Q (o :: rest) a := by
  refine wpStill_step fun K hK => ?_
  rw [if_pos hw]
  unfold Oper.still execOp
  simp only [ho, Sem.run_bind, Result.andThen_ok, hrun, Sem.run_pure]
  exact ⟨rfl, hK _ h⟩
theorem run_loadAt_row {P : Program} (w : World) (g : Nat) (t ty : TypeId) (cs : Array Value) (fr : Nat × Nat) (d : TypeDesc) (hg : w.heap[g]? = some (.cells cs t fr))
    (hu : P.underlying ty = some d) (hd : (match d with | .struct _ | .array _ _ => true | _ => false) = true) (hi : (P.info? ty).map (·.size) = some cs.size) :
    (Instr.loadAt ty (.pointer (some ⟨g, 0, none⟩))).run P w = .ok (.agg cs) w := by
  simp only [Instr.loadAt, Instr.sureAddr, Sem.run_bind, Sem.run_pure, Result.andThen_ok, run_loadVar_row w g t ty cs fr d hg hu hd hi]
theorem run_part_row {P : Program} {e : TypeId} {kd : IntKind} (hu : P.underlying e = some (.int kd)) (cs : Array Value) (i : Nat) (v : Value) (hi : cs[i]? = some v) (w : World) : (part e cs i).run P w = .ok v w := by
  simp [part, Sem.run_bind, isAgg, run_underlying hu, Result.andThen, hi]
theorem run_equalIn_arr {P : Program} (d : Nat) (t : TypeId) (m : Nat) (e : TypeId) (kd : IntKind) (ht : P.underlying t = some (.array m e)) (hu : P.underlying e = some (.int kd)) (he : (P.info? e).map (·.size) = some 1) (L M : List UInt8) (hL : L.length = m) (hM : M.length = m) (w : World) :
    (Op.equalIn (d + 2) t (.agg (L.map eB).toArray) (.agg (M.map eB).toArray)).run P w = .ok (decide (L = M)) w := by
  cases hq : P.info? e with
  | none => rw [hq] at he; cases he
  | some inf =>
    have hs : inf.size = 1 := by rw [hq] at he; simpa using he
    unfold Op.equalIn
    simp only [Sem.run_bind, run_underlying ht, Result.andThen_ok, sizeOf, typeInfo, run_program, hq, Sem.run_pure, hs, Nat.mul_one]
    rw [Std.Legacy.Range.forIn_eq_forIn_range']
    simp only [Std.Legacy.Range.size, Nat.sub_zero, Nat.add_sub_cancel, Nat.div_one]
    have main : ∀ (k j : Nat), j + k = m → L.take j = M.take j →
        (forIn (List.range' j k 1) ((none : Option Bool), ()) fun i _ => do
          if (!(← Op.equalIn (d + 1) e (← part e (L.map eB).toArray i) (← part e (M.map eB).toArray i))) = true then pure (ForInStep.done (some false, ())) else pure (ForInStep.yield (none, ())) : Sem (Option Bool × Unit)).run P w = .ok (if L = M then (none, ()) else (some false, ())) w := by
      intro k
      induction k with
      | zero =>
        intro j hj ht
        rw [List.take_of_length_le (by omega), List.take_of_length_le (by omega)] at ht
        rw [if_pos ht]
        simp
      | succ k ih =>
        intro j hj ht
        have h1 : j < L.length := by omega
        have h2 : j < M.length := by omega
        have p1 := run_part_row (P := P) hu (L.map eB).toArray j (eB L[j]) (by simp [h1]) w
        have p2 := run_part_row (P := P) hu (M.map eB).toArray j (eB M[j]) (by simp [h2]) w
        have p3 := run_equalIn_int (P := P) w d e .u8 kd (L[j].toNat : Int) (M[j].toNat : Int) hu
        rw [List.range'_succ, List.forIn_cons]
        simp only [Sem.run_bind, p1, p2, Result.andThen_ok]
        rw [show Op.equalIn (d + 1) e (eB L[j]) (eB M[j]) = Op.equalIn (d + 1) e (.int .u8 (L[j].toNat : Int)) (.int .u8 (M[j].toNat : Int)) from rfl, p3]
        simp only [Result.andThen_ok]
        by_cases hc : L[j] = M[j]
        · have e0 : ((L[j].toNat : Int) == (M[j].toNat : Int)) = true := by rw [hc]; simp
          rw [e0]
          simp only [Bool.not_true, Bool.false_eq_true, if_false, Sem.run_pure, Result.andThen_ok]
          refine ih (j + 1) (by omega) ?_
          rw [List.take_succ_eq_append_getElem h1, List.take_succ_eq_append_getElem h2, ht, hc]
        · have e0 : ((L[j].toNat : Int) == (M[j].toNat : Int)) = false := by
            rw [beq_eq_false_iff_ne]
            intro h
            exact hc (UInt8.toNat_inj.1 (by omega))
          rw [e0, if_neg (show ¬ L = M from fun h => hc (by subst h; rfl))]
          simp only [Bool.not_false, if_true, Sem.run_pure, Result.andThen_ok]
    rw [main m 0 (by omega) (by simp)]
    by_cases h : L = M
    · simp [h, Result.andThen]
    · simp [h, Result.andThen]
/-- A byte of an array by value, by its index. -/
theorem run_index_arr {P : Program} (t : TypeId) (m : Nat) (e : TypeId) (kd : IntKind) (ht : P.underlying t = some (.array m e)) (hu : P.underlying e = some (.int kd)) (he : (P.info? e).map (·.size) = some 1) (L : List UInt8) (k : Nat) (hl : L.length = m) (hk : k < L.length) (w : World) :
    (Instr.index t (.agg (L.map eB).toArray) (.int .i64 (k : Nat))).run P w = .ok (eB L[k]) w := by
  subst hl
  cases hq : P.info? e with
  | none => rw [hq] at he; cases he
  | some i =>
    have hs : i.size = 1 := by rw [hq] at he; simpa using he
    unfold Instr.index
    simp [asIntOf, Sem.run_bind, run_underlying ht, run_underlying hu, isAgg, Result.andThen, hk, sizeOf, typeInfo, hq, hs, part]
theorem run_eql_arr {P : Program} (t : TypeId) (m : Nat) (e : TypeId) (kd : IntKind) (ht : P.underlying t = some (.array m e)) (hu : P.underlying e = some (.int kd)) (he : (P.info? e).map (·.size) = some 1) (L M : List UInt8) (hL : L.length = m) (hM : M.length = m) (w : World) :
    (Op.equalIn 10000 t (.agg (L.map eB).toArray) (.agg (M.map eB).toArray)).run P w = .ok (decide (L = M)) w := run_equalIn_arr 9998 t m e kd ht hu he L M hL hM w
end Go.Proofs.YtgblkcddhnigaaaDoor
