/- A word cut at a place, and a letter between, as a string: what each operation yields. -/
import Derived.Test.YtmdpodgodhkjdaaDoorGpL
import Derived.Test.YtmdpodgodhkjdaaDoorGH
namespace Go.Proofs.YtmdpodgodhkjdaaDoor
open Go.RowKit Go.Shelf
attribute [local go_sem] Oper.semAt_some run_store_func

theorem sliced_take {B : Nat} {W : World} {A : Option Addr} {cap : Nat} {y : List UInt8} (h : Sl eB B W (.slice A y.length cap) y) (p : Nat) (hp : p ≤ y.length) : Sl eB B W (sliced A 0 p cap 1) (y.take p) := by
  obtain ⟨A', c', e, hc, hcs⟩ := h
  injection e with e1 e2 e3
  subst e1 e3
  have hl : (y.take p).length = p := by simp; omega
  refine ⟨_, cap, by rw [hl]; rfl, by omega, fun h0 => ?_⟩
  obtain ⟨b, off, rfl, hb, hcell⟩ := hcs (by omega)
  refine ⟨b, off, by rw [if_neg (by omega)]; simp [Addr.add], hb, fun j x hx => ?_⟩
  refine hcell j x ?_
  rw [List.getElem?_take] at hx
  split at hx
  · exact hx
  · cases hx
theorem sliced_drop {B : Nat} {W : World} {A : Option Addr} {cap : Nat} {y : List UInt8} (h : Sl eB B W (.slice A y.length cap) y) (p : Nat) (hp : p ≤ y.length) : Sl eB B W (sliced A p y.length cap 1) (y.drop p) := by
  obtain ⟨A', c', e, hc, hcs⟩ := h
  injection e with e1 e2 e3
  subst e1 e3
  have hl : (y.drop p).length = y.length - p := by simp
  refine ⟨_, cap - p, by rw [hl]; rfl, by omega, fun h0 => ?_⟩
  obtain ⟨b, off, rfl, hb, hcell⟩ := hcs (by omega)
  refine ⟨b, off + p, ?_, hb, fun j x hx => ?_⟩
  · rw [if_neg (by omega)]
    simp only [Option.map_some, Nat.mul_one]
    unfold Addr.add
    split <;> simp_all
  · rw [List.getElem?_drop] at hx
    rw [Nat.add_assoc]
    exact hcell (p + j) x hx
theorem size_u8 (w : World) : (sizeOf (Tryd.prog.elem 22)).run Tryd.prog w = .ok 1 w := by kernel_rfl
theorem run_to (A : Option Addr) (n cap p : Nat) (hp : p ≤ n) (hn : n ≤ cap) (w : World) : (Instr.sliceAt 22 (.slice A n cap) none (some (.int .i64 p)) none).run Tryd.prog w = .ok (sliced A 0 p cap 1) w := by
  rw [run_sliceAt_slice _ _ _ _ _ _ Tryd.underlying22, run_slice_h _ _ _ _ _ Tryd.underlying22 _ _ (by omega) (by omega), size_u8]
  rfl
theorem run_from (A : Option Addr) (n cap p : Nat) (hp : p ≤ n) (w : World) : (Instr.sliceAt 22 (.slice A n cap) (some (.int .i64 p)) none none).run Tryd.prog w = .ok (sliced A p n cap 1) w := by
  rw [run_sliceAt_slice _ _ _ _ _ _ Tryd.underlying22, run_slice_l _ _ _ _ _ Tryd.underlying22 _ _ (by omega) (by omega), size_u8]
  rfl
section
variable {G : Type} {P : Program} {md : Region.Mode} {ops : Array Oper} {S : (Nat → Bool) → G → World → Prop} {A : G → Act} {i : Nat} {o : Oper}
theorem gh_conv (src dst : TypeId) (x : Operand) (hgd : o.guard = none) (ho : o.op = .convert src dst x) (v : Value)
    (hrun : ∀ D g w, (o.after.all fun e => !Region.binds md e || D e.on) = true → S D g w → (convert src dst ((A g).eval x)).run P w = .ok v w) (hput : ∀ g, (A g).put o.dst v = A g) (hS : ∀ D g w, S D g w → S (upd D i) g w) : GhOk P md ops S A i o := by
  refine gh_same fun D g w hD hdp h => ?_
  rw [if_pos (by simp [Region.wanted, hgd])]
  unfold Oper.wp execOp
  simp only [ho, Sem.run_bind, Result.andThen_ok, hrun D g w hdp h, Sem.run_pure]
  exact ⟨hput g, hS D g w h⟩
theorem gh_slice (ty : TypeId) (x : Operand) (lo hi mx : Option Operand) (hgd : o.guard = none) (ho : o.op = .slice ty x lo hi mx) (v : Value)
    (hrun : ∀ g w, (Instr.sliceAt ty ((A g).eval x) (lo.map (A g).eval) (hi.map (A g).eval) (mx.map (A g).eval)).run P w = .ok v w) (hput : ∀ g, (A g).put o.dst v = A g) (hS : ∀ D g w, S D g w → S (upd D i) g w) : GhOk P md ops S A i o := by
  refine gh_same fun D g w hD hdp h => ?_
  rw [if_pos (by simp [Region.wanted, hgd])]
  unfold Oper.wp execOp
  simp only [ho, Sem.run_bind, Result.andThen_ok, hrun g w, Sem.run_pure]
  exact ⟨hput g, hS D g w h⟩
theorem gh_add {ops : Array Oper} {o : Oper} (x y : Operand) {u : TypeId} (hgd : o.guard = none) (ho : o.op = .binOp .add 9 x y u) (a b : ByteArray) (ha : ((a.size : Nat) : Int) ≤ 8388608) (hb : ((b.size : Nat) : Int) ≤ 8388608)
    (hx : ∀ g, (A g).eval x = .string a) (hy : ∀ g, (A g).eval y = .string b) (hput : ∀ g, (A g).put o.dst (.string (a ++ b)) = A g) (hS : ∀ D g w, S D g w → S (upd D i) g w) : GhOk Tryd.prog md ops S A i o := by
  refine gh_same fun D g w hD hdp h => ?_
  rw [if_pos (by simp [Region.wanted, hgd])]
  have hr : ∀ w, (binOp .add 9 (.string a) (.string b)).run Tryd.prog w = .ok (.string (a ++ b)) w := fun w => by simp [binOp, run_string_add, *]
  have hq : eqGuard .add 9 x y (.string a) (.string b) = pure () := rfl
  unfold Oper.wp execOp
  simp only [ho, hx, hy, hq, Sem.run_bind, Result.andThen_ok, hr, Sem.run_pure]
  exact ⟨hput g, hS D g w h⟩
end
/-- What holds while a letter is laid aside by operation k. -/
def CutS (k : Nat) (w0 : World) (c : UInt8) (D : Nat → Bool) (g : Nat) (w : World) : Prop :=
  Below w0.heap.size w0 w ∧ (D k = true → w0.heap.size ≤ g ∧ g < w.heap.size ∧ w.cell? ⟨g, 0, none⟩ = some (eB c))
theorem CutS.keep {k : Nat} {w0 w w' : World} {c : UInt8} {D : Nat → Bool} {g i : Nat} (h : CutS k w0 c D g w) (h1 : i ≠ k) (hB : Below w.heap.size w w') : CutS k w0 c (upd D i) g w' := by
  refine ⟨below_trans h.1 hB, fun hd => ?_⟩
  rw [upd_other D (fun e => h1 e.symm)] at hd
  obtain ⟨h3, h4, h5⟩ := h.2 hd
  exact ⟨h3, Nat.lt_of_lt_of_le h4 hB.size, (hB.cell (p := ⟨g, 0, none⟩) h4).trans h5⟩
theorem below_drew_w (w : World) : Below w.heap.size w w.drew := ⟨rfl, rfl, rfl, Nat.le_refl _, fun _ _ => rfl⟩
theorem arr_ins (y : List UInt8) (p : Nat) (c : UInt8) : (⟨(y.take p).toArray⟩ : ByteArray) ++ ⟨#[c]⟩ ++ ⟨(y.drop p).toArray⟩ = ⟨(insW y p c).toArray⟩ := by
  apply ByteArray.ext
  simp [insW]
end Go.Proofs.YtmdpodgodhkjdaaDoor
