import Derived.Stop.RegionWithIn
import Derived.Sort.QuietTacIn
import Derived.Sort.BigQuietIn
import Derived.RecoverIn
import Derived.Test.YtjclfkbhakjdaaaDoorRIY
import Derived.Test.YtjclfkbhakjdaaaDoorRPY
namespace Go.Proofs.YtjclfkbhakjdaaaDoor
open Go.RowKit
theorem wpAnyIn_out {F : Fence} {n l : Nat} {P : Program} {md : Region.Mode} {ops : Array Oper} {Q : Exit → Act → World → Prop} (hp : ∀ (j : Nat) (o : Oper), ops[j]? = some o → ∀ c, o.op ≠ .defer c) :
    ∀ {fuel : Nat} {listed : Array Bool} {a : Act} {w : World}, wpAnyIn F n P md ops Q fuel listed a w → wpAnyIn (F.inRound l) n P md ops Q fuel listed a w := by
  have one : ∀ (i : Nat) (K K' : Act → World → Prop) (a : Act) (w : World), (∀ a w, K a w → K' a w) → wpOpIn F n P ops Q i K a w → wpOpIn (F.inRound l) n P ops Q i K' a w := by
   intro i K K' a w hK h
   have h := wpOpIn_mono hK h
   unfold wpOpIn at h ⊢
   cases hi : ops[i]? with
   | none => rw [hi] at h; exact h
   | some o =>
     rw [hi] at h
     simp only [] at h ⊢
     split
     · rename_i hw
       rw [if_pos hw] at h
       unfold Oper.wpIn at h ⊢
       refine ⟨h.1, ?_⟩
       have h2 := h.2
       rw [Oper.semAt_plain F _ _ (hp i o hi)] at h2
       rw [Oper.semAt_plain (F.inRound l) _ _ (hp i o hi)]
       exact h2
     · rename_i hw
       rw [if_neg hw] at h
       exact h
  intro fuel
  induction fuel with
  | zero => intro listed a w h; exact h
  | succ fuel ih =>
    intro listed a w h
    exact ⟨h.1, fun i hi => one i _ _ a w (fun a w h => ih h) (h.2 i hi)⟩
theorem plain_of {ops : Array Oper} (h : (ops.toList.all fun o => match o.op with | .defer _ => false | _ => true) = true) : ∀ (j : Nat) (o : Oper), ops[j]? = some o → ∀ c, o.op ≠ .defer c := by
 intro j o hj c e
 have h1 := List.all_eq_true.1 h o (by
  have := Array.mem_of_getElem? hj
  simpa using this)
 rw [e] at h1
 cases h1
theorem ready_append {F : Fence} {n : Nat} {P : Program} {o : Oper} {a : Act} {w w' : World} {K : Act → World → Prop} {Q : Exit → Act → World → Prop} {b : Bool} {R : Prop} (s x : Operand) (t : TypeId)
    (ho : o.op = .call { callee := .builtin .append, args := #[s, x], argTypes := #[t, t] }) (v sv v' : Value) (hs : a.eval s = v) (hx : a.eval x = sv) (hrun : (Builtin.append_ #[t, t] o.type #[v, sv]).run P w = .ok v' w') (hb : b = true)
    (h : K (a.put o.dst v') w') : if b = true then Oper.wpIn F n P o a w K Q else R := by
 rw [if_pos hb]
 unfold Oper.wpIn
 refine ⟨?_, ?_⟩
 · simp [Oper.about, ho, resolve, Target.leads, Sem.run_pure]
 · rw [Oper.semAt_plain F _ _ (by rw [ho]; intro c hc'; cases hc')]
   simp [execOp, ho, resolve, invoke, builtin, hs, hx, hrun, Result.andThen]
   exact h
theorem ownFrom_keep {β : Type} {B B' g : Nat} {w₀ : World} (h1 : B ≤ w₀.heap.size) (h2 : B ≤ B') : OwnFrom B' (fun (_ : β) W => Keep B g w₀ W) :=
 fun _ X Y row hs hg hr => ⟨⟨hg.os.trans hs.1.1, hg.tape.trans hs.1.2.1, hg.output.trans hs.1.2.2.1, Nat.le_trans hs.1.2.2.2 hg.size⟩, fun k hk hkg => by
  have hsz := hs.1.2.2.2
  exact (hg.block k (by omega) (fun e => by have := (hr k e.symm).1; omega)).trans (hs.2 k hk hkg)⟩
theorem keepsFrom_below {B : Nat} {W W' : World} (h : Below W.heap.size W W') : KeepsFrom B W W' :=
 ⟨h.size, fun k _ _ hk _ => (h.block k (Array.getElem?_eq_some_iff.1 hk).1).trans hk⟩
theorem Keep.boxed {B g b : Nat} {W W' : World} {t : TypeId} {v : Value} (h : Keep B g W W') (hb : Boxed W b t v) (h1 : b < B) (h2 : b ≠ g) : Boxed W' b t v := (h.2 b h1 h2).trans hb
theorem below_of_keep {B g s : Nat} {w W W' : World} (h : Keep B g W W') (hB : Below s w W) (h1 : s ≤ B) (h2 : s ≤ g) : Below s w W' :=
 hB.trans ⟨h.1.1, h.1.2.1, h.1.2.2.1, h.1.2.2.2, fun k hk => h.2 k (by omega) (by omega)⟩
set_option maxRecDepth 100000 in
theorem keep_put {B g : Nat} {w : World} (hn : B ≤ w.heap.size) (W : World) (l : Nat) (o o' : Obj) (hl : w.heap.size ≤ l) (_ : W.heap[l]? = some o) (_ : o.isCells = false) : Keep B g W (W.putObj l o') :=
 ⟨⟨rfl, rfl, rfl, by simp [World.putObj]⟩, fun k hk _ => World.putObj_heap_other (by omega)⟩
theorem roundIn_room {F : Fence} (hd : F.depth = none) {P : Program} {m n l : Nat} {f : FuncId} {tmps : Array Value} {assign body : Code} {w : World} {R : Ending → World → Prop} (h : RoundIn F n P l f tmps assign body w R) : RoundIn F m P l f tmps assign body w R :=
 ⟨h.1, fun c cs _ => h.2 c cs (fun d hd' => by rw [hd] at hd'; cases hd')⟩
theorem range_pre (j k : Nat) (h : j < k) : List.range j ++ [j] <+: List.range k := by
 rw [← List.range_succ, List.prefix_iff_eq_take, List.take_range, List.length_range, Nat.min_eq_left (by omega)]
theorem range_is {pre : List Nat} {x k : Nat} (h : pre ++ [x] <+: List.range k) : x < k ∧ pre = List.range x := by
 rw [List.prefix_iff_eq_take, List.take_range, List.length_append, List.length_singleton] at h
 have hl := congrArg List.length h
 simp at hl
 rw [Nat.min_eq_left (by omega), List.range_succ] at h
 have h1 := List.append_inj h (by simp)
 have h2 : x = pre.length := by simpa using h1.2
 exact ⟨by omega, by rw [h2]; exact h1.1⟩
theorem appended_low {W w1 : World} {base b : Nat} {t e : TypeId} {v v' : Value} {k m : Nat} {xs ys : List Value} {tmp : Obj} (hv : Boxed W b t v) (hte : t ≠ e) (hrow : W.ownsRow base e 1 v k xs) (hbase : base ≤ W.heap.size) (hown' : w1.ownsRow base e 1 v' m ys)
    (hgrow : (W.alloc tmp).grownBy w1 v.ownBlock) : Boxed w1 b t v ∧ Boxed (w1.setCell ⟨b, 0, none⟩ v') b t v' ∧ (w1.setCell ⟨b, 0, none⟩ v').ownsRow base e 1 v' m ys ∧ KeepsOthers W (w1.setCell ⟨b, 0, none⟩ v') ∧ Keep base b W (w1.setCell ⟨b, 0, none⟩ v') := by
 have hv1 : Boxed w1 b t v := (hv.alloc tmp).kept hgrow (hv.not_row hte hrow)
 refine ⟨hv1, hv1.set v', hown'.kept (grownBy_setCell' w1 b v') (.inr (hv1.not_row hte hown').symm), ?_, ?_⟩
 · refine ((KeepsOthers.alloc W tmp).trans (KeepsOthers.of_grownBy hgrow fun j o ej hj => ?_)).trans (KeepsOthers.setCell _ _ _)
   rcases (hrow.alloc tmp).2 with ⟨rfl, _⟩ | ⟨g, cap, cur, rfl, _, hgb, _⟩
   · simp [Value.ownBlock] at ej
   · obtain rfl : g = j := by simpa [Value.ownBlock] using ej
     rw [hgb] at hj; cases hj; rfl
 · refine keep_t (keep_of (((Below.refl base W).alloc hbase tmp).grown hgrow (by simp; omega) fun j ej => ?_)) (keep_set _ _ _ _ _)
   rcases hrow.2 with ⟨rfl, _⟩ | ⟨g, cap, cur, rfl, hb, _, _⟩
   · simp [Value.ownBlock] at ej
   · obtain rfl : g = j := by simpa [Value.ownBlock] using ej
     exact hb
end Go.Proofs.YtjclfkbhakjdaaaDoor
