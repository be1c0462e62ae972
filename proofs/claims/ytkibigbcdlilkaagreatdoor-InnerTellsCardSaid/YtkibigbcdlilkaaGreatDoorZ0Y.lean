import Derived.Lib.AppendStr
import Derived.Lib.AppendZeros
import Derived.Test.YtkibigbcdlilkaaGreatDoorRows
import Derived.Test.YtkibigbcdlilkaaGreatDoorMMY
namespace Go.Proofs.YtkibigbcdlilkaaGreatDoor
open Go.RowKit Go.Shelf
def zs (n : Nat) : ByteArray := ⟨Array.replicate n 0⟩
theorem zs_size (n : Nat) : (zs n).size = n := by simp [zs, ByteArray.size]
theorem zs_cells (n : Nat) : Lib.strCells (zs n) = (List.replicate n (0 : UInt8)).map eB := by
 simp [Lib.strCells, zs, eB]
theorem run_zeros {P : Program} (w : World) (t tn u ty e : TypeId) (i : TypeInfo) (ht : P.underlying t = some (.slice e)) (htn : P.underlying tn = some (.int .i64)) (hu : P.underlying u = some .string) (hi : P.info? e = some i) (hz : i.zero = some (.int .u8 0))
    (hsize : i.size = 1) (hby : i.bytes = 1) (b : Option Addr) (l c n : Nat) (hlc : l ≤ c) (hn : l + n ≤ 140737488355328) :
    (Builtin.append_ #[t, tn] ty #[.slice b l c, .int .i64 n]).run P w = (Builtin.append_ #[t, u] ty #[.slice b l c, .string (zs n)]).run P w := by
 have hw : IntKind.i64.wrap (n : Int) = n := by rw [IntKind.wrap_i64]; omega
 have hneg : ¬ ((n : Int) < 0) := by omega
 have h48 : ¬ (281474976710656 < (n : Int)) := by omega
 have hf := fun w => Lib.run_firstCells_string (P := P) w 1 (zs n)
 rw [zs_size] at hf
 have hzc : Builtin.zeroCells (Value.int .u8 0).cells n = (Lib.strCells (zs n)).toArray := by
  rw [zs_cells]
  apply Array.ext
  · simp [Builtin.zeroCells, Value.cells]
  · intro j _ _
    simp [Builtin.zeroCells, Value.cells, Nat.mod_one, eB]
 have h63 : ¬ (9223372036854775807 < ((l : Int) + (n : Int))) := by omega
 have hw0 : IntKind.i64.wrap 0 = 0 := rfl
 by_cases hroom : l + n ≤ c
 · by_cases h0 : n = 0
   · subst h0
     have hf0 := hf
     rw [show (Lib.strCells (zs 0)).toArray = #[] from by rw [zs_cells]; rfl] at hf0
     simp only [Nat.add_zero] at hroom
     simp [Builtin.append_, run_underlying ht, run_underlying htn, run_underlying hu, sizeOf, typeInfo, hi, asInt, asIntOf, hw0, hsize, hby, Builtin.lenOf, hroom, zs_size, hf0]
   · simp [Builtin.append_, run_underlying ht, run_underlying htn, run_underlying hu, sizeOf, typeInfo, zeroValue, hi, hz, asInt, asIntOf, hw, hneg, h48, hsize, hby, Builtin.lenOf, hroom, zs_size, hf, h0, hzc]
 · have h0 : n ≠ 0 := by omega
   have hcap : ¬ (281474976710656 < Builtin.nextslicecap (l + n) c) := by
    have := growslice_fits (need := l + n) (old := c) (bytes := 1) (by omega) (by omega)
    omega
   simp [Builtin.append_, run_underlying ht, run_underlying htn, run_underlying hu, sizeOf, typeInfo, zeroValue, hi, hz, asInt, asIntOf, hw, hneg, h48, hsize, hby, Builtin.lenOf, hroom, zs_size, hf, h0, hzc, h63, hcap]
theorem wpList_append_zeros {P : Program} (w : World) {ops : Array Oper} {rest : List Oper} {o : Oper} {a : Act} {Q : Exit → Act → World → Prop} (hgd : o.guard = none) (s x : Operand) (t tn u : TypeId)
    (ho : o.op = .call { callee := .builtin .append, args := #[s, x], argTypes := #[t, tn] })
    (base : Nat) (e : TypeId) (i : TypeInfo) (ht : P.underlying t = some (.slice e)) (htn : P.underlying tn = some (.int .i64)) (hu : P.underlying u = some .string) (hi : P.info? e = some i) (hz : i.zero = some (.int .u8 0))
    (hsize : i.size = 1) (hby : i.bytes = 1) (v : Value) (m : Nat) (ys : List Value) (hown : w.ownsRow base e 1 v m ys) (hv : a.eval s = v)
    (n : Nat) (hx : a.eval x = .int .i64 n) (hn : m + n ≤ 1000000) (hbase : base ≤ w.heap.size)
    (h : ∀ v' w', w'.ownsRow base e 1 v' (m + n) (ys ++ (List.replicate n (0 : UInt8)).map eB) → w.grownBy w' v.ownBlock → wpList P ops Q rest (a.put o.dst v') w') :
    wpList P ops Q (o :: rest) a w := by
 obtain ⟨v', w', hr, r1, r2, -⟩ := Lib.run_append_own_string (P := P) w base t u o.type e i ht hu hi hz hsize hby v m ys hown (zs n) (by rw [zs_size]; unfold maxLen; omega) (by rw [zs_size]; omega) hbase
 rw [zs_size, zs_cells] at r1
 have hr' : (Builtin.append_ #[t, tn] o.type #[v, .int .i64 n]).run P w = .ok v' w' := by
  rcases hown.2 with ⟨rfl, rfl⟩ | ⟨g, cap, cur, rfl, _, _, hnc, _⟩
  · rw [run_zeros w t tn u o.type e i ht htn hu hi hz hsize hby none 0 0 n (Nat.le_refl _) (by omega)]; exact hr
  · rw [run_zeros w t tn u o.type e i ht htn hu hi hz hsize hby _ m cap n hnc (by omega)]; exact hr
 exact Lib.wpList_append_run w hgd s x t tn ho v _ hv hx v' w' hr' (h v' w' r1 r2)
end Go.Proofs.YtkibigbcdlilkaaGreatDoor
