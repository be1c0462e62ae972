import Derived.Test.YtjclfkbhakjdaaaDoorRows
import Derived.Test.YtjclfkbhakjdaaaDoorDTY
import Derived.Test.YtjclfkbhakjdaaaDoorRPY
namespace Go.Proofs.YtjclfkbhakjdaaaDoor
open Go.RowKit Go.Shelf
attribute [local go_sem] Oper.semAt_some run_store_func
theorem info_u8 : (Tryd.prog.info? 5).map (fun i => (i.zero, i.size, i.bytes)) = some (some (.int .u8 0), 1, 1) := by kernel_rfl
theorem row_made (w : World) : (w.alloc (.cells #[] 5)).ownsRow w.heap.size 5 1 (.slice (some ⟨w.heap.size, 0, none⟩) 0 0) 0 [] :=
 ⟨rfl, .inr ⟨w.heap.size, 0, #[], rfl, Nat.le_refl _, Rowed.new w 5 #[], Nat.le_refl _, by unfold maxLen; omega, rfl, rfl⟩⟩
theorem cell_one_new (w : World) (t : TypeId) (x : Value) : ∀ j u, [x][j]? = some u → (w.alloc (.cells #[x] t)).cell? ((⟨w.heap.size, 0, none⟩ : Addr).add j) = some u := by
 intro j u hu
 have hj : j = 0 := by
  have := (List.getElem?_eq_some_iff.1 hu).1
  simpa using this
 subst hj
 simp at hu
 subst hu
 simp [Addr.add]
theorem beq_dec (a b : List UInt8) : (a == b) = decide (a = b) := by
 rw [Bool.eq_iff_iff]; simp
def Own8 (B : Nat) (W : World) (v : Value) (bs : List UInt8) : Prop := W.ownsRow B 5 1 v bs.length (bs.map eB)
theorem Own8.sl {B : Nat} {W : World} {v : Value} {bs : List UInt8} (h : Own8 B W v bs) : Sl eB W.heap.size W v bs := Sl.of_own h
end Go.Proofs.YtjclfkbhakjdaaaDoor
