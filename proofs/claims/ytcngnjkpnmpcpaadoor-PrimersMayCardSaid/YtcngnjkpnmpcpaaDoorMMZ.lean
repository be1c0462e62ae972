import Derived.Laws.StructEq
import Derived.Laws.Rows
import Derived.Still
import Derived.Test.YtcngnjkpnmpcpaaDoorLZ
namespace Go.Proofs.YtcngnjkpnmpcpaaDoor
open Go.RowKit
theorem below_alloc (w : World) (o : Obj) : Below w.heap.size w (w.alloc o) := (Below.refl _ w).alloc (Nat.le_refl _) o
end Go.Proofs.YtcngnjkpnmpcpaaDoor
namespace Go.Proofs.YtcngnjkpnmpcpaaDoor
open Go.RowKit
theorem run_max_i {P : Program} (ts : Array TypeId) (t : TypeId) (x y : Int) (w : World) : (Builtin.max_ ts t #[.int .i64 x, .int .i64 y]).run P w = .ok (.int .i64 (max x y)) w := by
 rw [run_max_int2]
 congr 2
 split <;> omega
theorem run_min_i {P : Program} (ts : Array TypeId) (t : TypeId) (x y : Int) (w : World) : (Builtin.min_ ts t #[.int .i64 x, .int .i64 y]).run P w = .ok (.int .i64 (min x y)) w := by
 rw [run_min_int2]
 congr 2
 split <;> omega
theorem run_max3_i {P : Program} (ts : Array TypeId) (t : TypeId) (x y z : Int) (w : World) : (Builtin.max_ ts t #[.int .i64 x, .int .i64 y, .int .i64 z]).run P w = .ok (.int .i64 (max (max x y) z)) w := by
 have h : (if y > x then y else x) = max x y := by split <;> omega
 have h2 : (if z > max x y then z else max x y) = max (max x y) z := by split <;> omega
 simp only [Builtin.max_, List.foldlM, Builtin.max2, pure_bind, h, h2, bind_pure]
 simp
theorem run_min3_i {P : Program} (ts : Array TypeId) (t : TypeId) (x y z : Int) (w : World) : (Builtin.min_ ts t #[.int .i64 x, .int .i64 y, .int .i64 z]).run P w = .ok (.int .i64 (min (min x y) z)) w := by
 have h : (if y < x then y else x) = min x y := by split <;> omega
 have h2 : (if z < min x y then z else min x y) = min (min x y) z := by split <;> omega
 simp only [Builtin.min_, List.foldlM, Builtin.min2, pure_bind, h, h2, bind_pure]
 simp
theorem wpList_max_v {P : Program} {w : World} {ops : Array Oper} {rest : List Oper} {o : Oper} {a : Act} {Q : Exit → Act → World → Prop} (hgd : o.guard = none) (x y : Operand) (ts : Array TypeId)
    (ho : o.op = .call { callee := .builtin .max, args := #[x, y], argTypes := ts }) (vx vy : Int) (hx : a.eval x = .int .i64 vx) (hy : a.eval y = .int .i64 vy) (m : Int) (hm : max vx vy = m) (h : wpList P ops Q rest (a.put o.dst (.int .i64 m)) w) : wpList P ops Q (o :: rest) a w := by
 refine wpList_plain hgd fun K hK => ?_
 have hrun := run_max_i (P := P) ts o.type vx vy w
 rw [hm] at hrun
 unfold Oper.wp execOp
 simp only [ho, resolve, invoke, builtin, Sem.run_bind, Sem.run_pure, Result.andThen_ok, List.map_toArray, List.map_cons, List.map_nil, hx, hy, hrun]
 exact hK _ _ h
theorem wpList_min_v {P : Program} {w : World} {ops : Array Oper} {rest : List Oper} {o : Oper} {a : Act} {Q : Exit → Act → World → Prop} (hgd : o.guard = none) (x y : Operand) (ts : Array TypeId)
    (ho : o.op = .call { callee := .builtin .min, args := #[x, y], argTypes := ts }) (vx vy : Int) (hx : a.eval x = .int .i64 vx) (hy : a.eval y = .int .i64 vy) (m : Int) (hm : min vx vy = m) (h : wpList P ops Q rest (a.put o.dst (.int .i64 m)) w) : wpList P ops Q (o :: rest) a w := by
 refine wpList_plain hgd fun K hK => ?_
 have hrun := run_min_i (P := P) ts o.type vx vy w
 rw [hm] at hrun
 unfold Oper.wp execOp
 simp only [ho, resolve, invoke, builtin, Sem.run_bind, Sem.run_pure, Result.andThen_ok, List.map_toArray, List.map_cons, List.map_nil, hx, hy, hrun]
 exact hK _ _ h
theorem wpList_max3_v {P : Program} {w : World} {ops : Array Oper} {rest : List Oper} {o : Oper} {a : Act} {Q : Exit → Act → World → Prop} (hgd : o.guard = none) (x y z : Operand) (ts : Array TypeId)
    (ho : o.op = .call { callee := .builtin .max, args := #[x, y, z], argTypes := ts }) (vx vy vz : Int) (hx : a.eval x = .int .i64 vx) (hy : a.eval y = .int .i64 vy) (hz : a.eval z = .int .i64 vz) (m : Int) (hm : max (max vx vy) vz = m) (h : wpList P ops Q rest (a.put o.dst (.int .i64 m)) w) : wpList P ops Q (o :: rest) a w := by
 refine wpList_plain hgd fun K hK => ?_
 have hrun := run_max3_i (P := P) ts o.type vx vy vz w
 rw [hm] at hrun
 unfold Oper.wp execOp
 simp only [ho, resolve, invoke, builtin, Sem.run_bind, Sem.run_pure, Result.andThen_ok, List.map_toArray, List.map_cons, List.map_nil, hx, hy, hz, hrun]
 exact hK _ _ h
theorem wpList_min3_v {P : Program} {w : World} {ops : Array Oper} {rest : List Oper} {o : Oper} {a : Act} {Q : Exit → Act → World → Prop} (hgd : o.guard = none) (x y z : Operand) (ts : Array TypeId)
    (ho : o.op = .call { callee := .builtin .min, args := #[x, y, z], argTypes := ts }) (vx vy vz : Int) (hx : a.eval x = .int .i64 vx) (hy : a.eval y = .int .i64 vy) (hz : a.eval z = .int .i64 vz) (m : Int) (hm : min (min vx vy) vz = m) (h : wpList P ops Q rest (a.put o.dst (.int .i64 m)) w) : wpList P ops Q (o :: rest) a w := by
 refine wpList_plain hgd fun K hK => ?_
 have hrun := run_min3_i (P := P) ts o.type vx vy vz w
 rw [hm] at hrun
 unfold Oper.wp execOp
 simp only [ho, resolve, invoke, builtin, Sem.run_bind, Sem.run_pure, Result.andThen_ok, List.map_toArray, List.map_cons, List.map_nil, hx, hy, hz, hrun]
 exact hK _ _ h
end Go.Proofs.YtcngnjkpnmpcpaaDoor
