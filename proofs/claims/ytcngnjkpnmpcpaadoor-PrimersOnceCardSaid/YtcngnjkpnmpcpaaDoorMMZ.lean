import Derived.RangeFuncNested
import Derived.RangeFuncBound
import Derived.RangeFuncCalls
import Derived.RangeFuncLeaves
import Derived.Shelf.Abstract
import Derived.Shelf.RegionOpen
import Derived.WalkKit
import Derived.WalkSpells
import Derived.WalkLawsBesides
import Derived.OwnWalkIn
import Derived.TacticsInMore
import Derived.LoopNIn
import Derived.LoopIn
import Derived.Lib.Hide
import Derived.IntWalk
import Derived.BigQuiet
import Derived.Deep.QuietTactic
import Derived.WalkMore
import Derived.Maps.AppendAt
import Derived.OwnWalk
import Derived.Laws.IdiomStrings
import Derived.Laws.BytesArg
import Derived.Laws.Externs
import Derived.Lib.Bytealg
import Derived.Lib.SlBytesConst
import Derived.Laws.StructEq
import Derived.Laws.Rows
import Derived.Still
namespace Go.Proofs.YtcngnjkpnmpcpaaDoor
open Go.RowKit
def Sl {α : Type} (enc : α → Value) (B : Nat) (W : World) (sv : Value) (xs : List α) : Prop :=
 ∃ A cap, sv = .slice A xs.length cap ∧ xs.length ≤ cap ∧
   (0 < xs.length → ∃ b off, A = some ⟨b, off, none⟩ ∧ b < B ∧ ∀ j x, xs[j]? = some x → W.cell? ⟨b, off + j, none⟩ = some (enc x))
abbrev eB (b : UInt8) : Value := .int .u8 (b.toNat : Int)
abbrev eI (n : Int) : Value := .int .i64 n
section
variable {α : Type} {enc : α → Value} {B B' : Nat} {W W' : World} {sv : Value} {xs : List α}
theorem Sl.below (h : Sl enc B W sv xs) (hb : Below B W W') : Sl enc B W' sv xs := by
 obtain ⟨A, cap, e, hc, h⟩ := h
 refine ⟨A, cap, e, hc, fun hn => ?_⟩
 obtain ⟨b, off, e, hlt, hcell⟩ := h hn
 exact ⟨b, off, e, hlt, fun j x hx => (hb.cell (p := ⟨b, off + j, none⟩) hlt).trans (hcell j x hx)⟩
theorem Sl.more (h : Sl enc B W sv xs) (hB : B ≤ B') : Sl enc B' W sv xs := by
 obtain ⟨A, cap, e, hc, h⟩ := h
 refine ⟨A, cap, e, hc, fun hn => ?_⟩
 obtain ⟨b, off, e, hlt, hcell⟩ := h hn
 exact ⟨b, off, e, by omega, hcell⟩
theorem Sl.next (h : Sl enc W.heap.size W sv xs) (hb : Below W.heap.size W W') : Sl enc W'.heap.size W' sv xs := (h.below hb).more hb.size
theorem Sl.of_own {base : Nat} {e : TypeId} {v : Value} {n : Nat} (h : W.ownsRow base e 1 v n (xs.map enc)) : Sl enc W.heap.size W v xs := by
 have hl : xs.length = n := by have := h.1; simpa using this
 subst hl
 rcases h.2 with ⟨rfl, h0⟩ | ⟨g, cap, cur, rfl, hb, hg, hn, hcm, hsz, htk⟩
 · exact ⟨none, 0, by rw [h0], by omega, fun hn => absurd hn (by omega)⟩
 · refine ⟨_, cap, rfl, hn, fun _ => ⟨g, 0, rfl, (Array.getElem?_eq_some_iff.1 hg).1, fun j x hx => ?_⟩⟩
   have := World.ownsRow.cells h (g := g) rfl j (enc x) (by simp [hx])
   rw [show (⟨g, 0, none⟩ : Addr).add j = ⟨g, 0 + j, none⟩ from by unfold Addr.add; split <;> simp_all] at this
   exact this
theorem Sl.len (h : Sl enc B W sv xs) : ∃ A cap, sv = .slice A xs.length cap := ⟨_, _, h.choose_spec.choose_spec.1⟩
end
theorem below_trans {w w1 w2 : World} (h : Below w.heap.size w w1) (h' : Below w1.heap.size w1 w2) : Below w.heap.size w w2 := h.trans (h'.mono h.size)
theorem bits_and3 (n : Int) : bits .and .i64 n 3 = n % 4 := by
 have h : (BitVec.ofInt IntKind.i64.bits n &&& BitVec.ofInt IntKind.i64.bits 3).toNat = (n % 4).toNat := by
  have e : (BitVec.ofInt IntKind.i64.bits 3).toNat = 2 ^ 2 - 1 := by decide
  rw [BitVec.toNat_and, e, Nat.and_two_pow_sub_one_eq_mod, BitVec.toNat_ofInt]
  show (n % (2 ^ 64 : Nat)).toNat % 4 = _
  omega
 unfold bits
 simp only [h]
 rw [IntWalk.i64_in _ (by omega)]
 omega
section
variable {F : Fence} {n : Nat} {P : Program} {b : Frame} {a : Act} {k : List Item} {cs : List Frame} {w : World} {Q : Exit → Act → World → Prop}
end
section
variable {α : Type} {enc : α → Value} {P : Program}
end
section
variable {F : Fence} {n : Nat} {P : Program} {Q : Exit → Act → World → Prop}
def pick (l : List Oper) : List Nat → List Oper
  | [] => []
  | i :: p => (l[i]?).toList ++ pick l p
end
theorem below_drewN {B : Nat} (w : World) (n : Nat) : Below B w (w.drewN n) := ⟨rfl, rfl, rfl, Nat.le_refl _, fun _ _ => rfl⟩
theorem Sl.upto {α : Type} {enc : α → Value} {B : Nat} {W : World} {A : Option Addr} {len cap : Nat} {xs : List α} (h : Sl enc B W (.slice A len cap) xs) {p : Nat} (hp : p ≤ xs.length) : Sl enc B W (.slice A p cap) (xs.take p) := by
 obtain ⟨A', c', e, hc, hcells⟩ := h
 cases e
 have hl : (xs.take p).length = p := by simp [hp]
 refine ⟨A, cap, by rw [hl], by omega, fun hn => ?_⟩
 obtain ⟨b, off, e, hb, hcell⟩ := hcells (by omega)
 refine ⟨b, off, e, hb, fun j x hx => hcell j x ?_⟩
 rw [List.getElem?_take] at hx
 split at hx
 · exact hx
 · cases hx
end Go.Proofs.YtcngnjkpnmpcpaaDoor
namespace Go.Proofs.YtcngnjkpnmpcpaaDoor
open Go.RowKit
theorem below_alloc (w : World) (o : Obj) : Below w.heap.size w (w.alloc o) := (Below.refl _ w).alloc (Nat.le_refl _) o
end Go.Proofs.YtcngnjkpnmpcpaaDoor
namespace Go.Proofs.YtcngnjkpnmpcpaaDoor
open Go.RowKit
theorem run_max_i {P : Program} (ts : Array TypeId) (t : TypeId) (x y : Int) (w : World) : (Builtin.max_ ts t #[.int .i64 x, .int .i64 y]).run P w = .ok (.int .i64 (max x y)) w := by
 rw [run_max_int2]
 congr 2
 split <;> omega
theorem run_min_i {P : Program} (ts : Array TypeId) (t : TypeId) (x y : Int) (w : World) : (Builtin.min_ ts t #[.int .i64 x, .int .i64 y]).run P w = .ok (.int .i64 (min x y)) w := by
 rw [run_min_int2]
 congr 2
 split <;> omega
theorem run_max3_i {P : Program} (ts : Array TypeId) (t : TypeId) (x y z : Int) (w : World) : (Builtin.max_ ts t #[.int .i64 x, .int .i64 y, .int .i64 z]).run P w = .ok (.int .i64 (max (max x y) z)) w := by
 have h : (if y > x then y else x) = max x y := by split <;> omega
 have h2 : (if z > max x y then z else max x y) = max (max x y) z := by split <;> omega
 simp only [Builtin.max_, List.foldlM, Builtin.max2, pure_bind, h, h2, bind_pure]
 simp
theorem run_min3_i {P : Program} (ts : Array TypeId) (t : TypeId) (x y z : Int) (w : World) : (Builtin.min_ ts t #[.int .i64 x, .int .i64 y, .int .i64 z]).run P w = .ok (.int .i64 (min (min x y) z)) w := by
 have h : (if y < x then y else x) = min x y := by split <;> omega
 have h2 : (if z < min x y then z else min x y) = min (min x y) z := by split <;> omega
 simp only [Builtin.min_, List.foldlM, Builtin.min2, pure_bind, h, h2, bind_pure]
 simp
theorem wpList_max_v {P : Program} {w : World} {ops : Array Oper} {rest : List Oper} {o : Oper} {a : Act} {Q : Exit → Act → World → Prop} (hgd : o.guard = none) (x y : Operand) (ts : Array TypeId)
    (ho : o.op = .call { callee := .builtin .max, args := #[x, y], argTypes := ts }) (vx vy : Int) (hx : a.eval x = .int .i64 vx) (hy : a.eval y = .int .i64 vy) (m : Int) (hm : max vx vy = m) (h : wpList P ops Q rest (a.put o.dst (.int .i64 m)) w) : wpList P ops Q (o :: rest) a w := by
 refine wpList_plain hgd fun K hK => ?_
 have hrun := run_max_i (P := P) ts o.type vx vy w
 rw [hm] at hrun
 unfold Oper.wp execOp
 simp only [ho, resolve, invoke, builtin, Sem.run_bind, Sem.run_pure, Result.andThen_ok, List.map_toArray, List.map_cons, List.map_nil, hx, hy, hrun]
 exact hK _ _ h
theorem wpList_min_v {P : Program} {w : World} {ops : Array Oper} {rest : List Oper} {o : Oper} {a : Act} {Q : Exit → Act → World → Prop} (hgd : o.guard = none) (x y : Operand) (ts : Array TypeId)
    (ho : o.op = .call { callee := .builtin .min, args := #[x, y], argTypes := ts }) (vx vy : Int) (hx : a.eval x = .int .i64 vx) (hy : a.eval y = .int .i64 vy) (m : Int) (hm : min vx vy = m) (h : wpList P ops Q rest (a.put o.dst (.int .i64 m)) w) : wpList P ops Q (o :: rest) a w := by
 refine wpList_plain hgd fun K hK => ?_
 have hrun := run_min_i (P := P) ts o.type vx vy w
 rw [hm] at hrun
 unfold Oper.wp execOp
 simp only [ho, resolve, invoke, builtin, Sem.run_bind, Sem.run_pure, Result.andThen_ok, List.map_toArray, List.map_cons, List.map_nil, hx, hy, hrun]
 exact hK _ _ h
theorem wpList_max3_v {P : Program} {w : World} {ops : Array Oper} {rest : List Oper} {o : Oper} {a : Act} {Q : Exit → Act → World → Prop} (hgd : o.guard = none) (x y z : Operand) (ts : Array TypeId)
    (ho : o.op = .call { callee := .builtin .max, args := #[x, y, z], argTypes := ts }) (vx vy vz : Int) (hx : a.eval x = .int .i64 vx) (hy : a.eval y = .int .i64 vy) (hz : a.eval z = .int .i64 vz) (m : Int) (hm : max (max vx vy) vz = m) (h : wpList P ops Q rest (a.put o.dst (.int .i64 m)) w) : wpList P ops Q (o :: rest) a w := by
 refine wpList_plain hgd fun K hK => ?_
 have hrun := run_max3_i (P := P) ts o.type vx vy vz w
 rw [hm] at hrun
 unfold Oper.wp execOp
 simp only [ho, resolve, invoke, builtin, Sem.run_bind, Sem.run_pure, Result.andThen_ok, List.map_toArray, List.map_cons, List.map_nil, hx, hy, hz, hrun]
 exact hK _ _ h
theorem wpList_min3_v {P : Program} {w : World} {ops : Array Oper} {rest : List Oper} {o : Oper} {a : Act} {Q : Exit → Act → World → Prop} (hgd : o.guard = none) (x y z : Operand) (ts : Array TypeId)
    (ho : o.op = .call { callee := .builtin .min, args := #[x, y, z], argTypes := ts }) (vx vy vz : Int) (hx : a.eval x = .int .i64 vx) (hy : a.eval y = .int .i64 vy) (hz : a.eval z = .int .i64 vz) (m : Int) (hm : min (min vx vy) vz = m) (h : wpList P ops Q rest (a.put o.dst (.int .i64 m)) w) : wpList P ops Q (o :: rest) a w := by
 refine wpList_plain hgd fun K hK => ?_
 have hrun := run_min3_i (P := P) ts o.type vx vy vz w
 rw [hm] at hrun
 unfold Oper.wp execOp
 simp only [ho, resolve, invoke, builtin, Sem.run_bind, Sem.run_pure, Result.andThen_ok, List.map_toArray, List.map_cons, List.map_nil, hx, hy, hz, hrun]
 exact hK _ _ h
end Go.Proofs.YtcngnjkpnmpcpaaDoor
