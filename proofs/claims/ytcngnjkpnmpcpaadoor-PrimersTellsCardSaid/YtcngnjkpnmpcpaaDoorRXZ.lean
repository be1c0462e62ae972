import Derived.Laws.Rows
import Derived.Deep.WholeRow
import Derived.Test.YtcngnjkpnmpcpaaDoorIVZ
namespace Go.Proofs.YtcngnjkpnmpcpaaDoor
open Go.RowKit
theorem run_store_func (P : Program) (w : World) (a : Addr) (m : Mode) (fn : Fn) (first cap : Array Value) : (store a (.func fn first cap) m).run P w = stored P w a (.func fn first cap) m := run_store P w a _ m rfl
def Rowed (W : World) (g : Nat) (t : TypeId) (cs : Array Value) : Prop := W.heap[g]? = some (.cells cs t (0, 0))
theorem Rowed.lt {W : World} {g : Nat} {t : TypeId} {cs : Array Value} (h : Rowed W g t cs) : g < W.heap.size := (Array.getElem?_eq_some_iff.1 h).1
theorem Rowed.cell {W : World} {g : Nat} {t : TypeId} {cs : Array Value} (h : Rowed W g t cs) (j : Nat) : W.cell? ⟨g, j, none⟩ = cs[j]? := by simp [World.cell?, show W.heap[g]? = _ from h]
theorem Rowed.frozen {W : World} {g : Nat} {t : TypeId} {cs : Array Value} (h : Rowed W g t cs) (j : Nat) : W.frozen? ⟨g, j, none⟩ = false := by simp [World.frozen?, show W.heap[g]? = _ from h]
theorem Rowed.set {W : World} {g : Nat} {t : TypeId} {cs : Array Value} (j : Nat) (v : Value) (h : Rowed W g t cs) : Rowed (W.setCell ⟨g, j, none⟩ v) g t (cs.setIfInBounds j v) := by
 obtain ⟨hlt, hk⟩ := Array.getElem?_eq_some_iff.1 h
 show (W.heap.modify g _)[g]? = _
 rw [Array.getElem?_eq_getElem (by rw [Array.size_modify]; exact hlt), Array.getElem_modify_self, hk]
 rfl
theorem Rowed.new (w : World) (t : TypeId) (cs : Array Value) : Rowed (w.alloc (.cells cs t)) w.heap.size t cs := World.alloc_heap_new w _
theorem Rowed.below {B g : Nat} {W W' : World} {t : TypeId} {cs : Array Value} (h : Rowed W g t cs) (hb : Below B W W') (hg : g < B) : Rowed W' g t cs := (hb.block g hg).trans h
theorem Rowed.other {W : World} {g : Nat} {t : TypeId} {cs : Array Value} (h : Rowed W g t cs) (b j : Nat) (v : Value) (hne : g ≠ b) : Rowed (W.setCell ⟨b, j, none⟩ v) g t cs :=
 (Below.heap_setCell W ⟨b, j, none⟩ v g hne).trans h
end Go.Proofs.YtcngnjkpnmpcpaaDoor
namespace Go.Proofs.YtcngnjkpnmpcpaaDoor
open Go.RowKit
def Keep (B g : Nat) (W W' : World) : Prop := (W'.os = W.os ∧ W'.tape = W.tape ∧ W'.output = W.output ∧ W.heap.size ≤ W'.heap.size) ∧ ∀ k, k < B → k ≠ g → W'.heap[k]? = W.heap[k]?
theorem keep_r (B g : Nat) (W : World) : Keep B g W W := ⟨⟨rfl, rfl, rfl, Nat.le_refl _⟩, fun _ _ _ => rfl⟩
theorem keep_t {B g : Nat} {X Y Z : World} (h : Keep B g X Y) (k : Keep B g Y Z) : Keep B g X Z :=
 ⟨⟨k.1.1.trans h.1.1, k.1.2.1.trans h.1.2.1, k.1.2.2.1.trans h.1.2.2.1, Nat.le_trans h.1.2.2.2 k.1.2.2.2⟩, fun i hi hg => (k.2 i hi hg).trans (h.2 i hi hg)⟩
theorem keep_of {B g : Nat} {W W' : World} (h : Below B W W') : Keep B g W W' := ⟨⟨h.os, h.tape, h.output, h.size⟩, fun k hk _ => h.block k hk⟩
theorem keep_set (B g j : Nat) (W : World) (v : Value) : Keep B g W (W.setCell ⟨g, j, none⟩ v) :=
 ⟨⟨rfl, rfl, rfl, by simp [World.setCell]⟩, fun k _ hg => Below.heap_setCell _ _ _ _ hg⟩
theorem Keep.cell {B g : Nat} {W W' : World} (h : Keep B g W W') {p : Addr} (hp : p.block < B) (hg : p.block ≠ g) : W'.cell? p = W.cell? p := World.cell?_of_block (w := W) (h.2 p.block hp hg)
theorem keep_size {B g : Nat} {W W' : World} (h : Keep B g W W') : W.heap.size ≤ W'.heap.size := h.1.2.2.2
end Go.Proofs.YtcngnjkpnmpcpaaDoor
namespace Go.Proofs.YtcngnjkpnmpcpaaDoor
open Go.RowKit
def roundPostP (P : Program) (l : Nat) (R : Ending → World → Prop) : Exit → Act → World → Prop
  | .panic ch, a, w => a.defers = [] ∧ R (.panicked ch) w
  | .normal, a, w => roundPost P l R .normal a w
  | .ret, a, w => roundPost P l R .ret a w
  | .exit id, a, w => roundPost P l R (.exit id) a w
  | .goto t, a, w => roundPost P l R (.goto t) a w
  | .outgrown, _, _ => False
theorem roundIn_of_wpInP {F : Fence} {n : Nat} {P : Program} {l : Nat} {f : FuncId} {tmps : Array Value} {assign body : Code} {w : World} {R : Ending → World → Prop} (hF : F.fn f) (hf : ∃ fn, P.funcs[f]? = some fn)
    (h : assign.wpIn (F.inRound l) n P (Exit.then (fun a₁ w₁ => ∃ w₂, (Instr.beginRound l).run P w₁ = .ok () w₂ ∧ body.wpIn (F.inRound l) n P (roundPostP P l R) a₁ w₂) (fun _ _ _ => False))
     { tmps := tmps, defers := [] } w) :
    RoundIn F n P l f tmps assign body w R := by
 refine ⟨hF, fun c cs hr => ?_⟩
 let b : Frame := { (default : Frame) with fn := f, kind := .normal, roundOf := some l }
 have hb0 : Frame.round l f tmps assign body .normal = b.atR { tmps := tmps, defers := [] } [.code assign, .beginRound, .code body] := by
  simp [Frame.round, Frame.atR, b]
 have hr' : (F.inRound l).room ((c :: cs).length + 1 + n) := hr
 have hF' : (F.inRound l).fn b.fn := hF
 obtain ⟨e, a₁, w₁, hq, harr⟩ := h b [.beginRound, .code body] (c :: cs) rfl hF' hr'
 rw [← hb0] at harr
 cases e with
 | normal =>
   obtain ⟨w₂, hbr, hbody⟩ := hq
   have s1 : StepsIn (Machine.fenced P (F.inRound l)) P (lone (b.atR a₁ [.beginRound, .code body]) (c :: cs) w₁) (lone (b.atR a₁ [.code body]) (c :: cs) w₂) :=
    .one (fenced_calm (fr := b.atR a₁ [.beginRound, .code body]) hF' hr' rfl) (stepR_beginRound rfl hbr)
   obtain ⟨e₂, a₂, w₃, hq₂, harr₂⟩ := hbody b [] (c :: cs) rfl hF' hr'
   cases e₂ with
   | normal =>
     obtain ⟨v, w₄, hend, hR⟩ := hq₂
     exact ⟨.returned v, w₄, hR, (StepsIn.trans harr s1).trans (StepsIn.trans harr₂ (.one (fenced_calm (fr := b.atR a₂ []) hF' hr' rfl) (stepR_round_end rfl rfl hend)))⟩
   | ret =>
     obtain ⟨v, w₄, hend, hR⟩ := hq₂
     obtain ⟨k₁, hs⟩ := harr₂.2 rfl
     exact ⟨.returned v, w₄, hR, (StepsIn.trans harr s1).trans (StepsIn.trans hs (.one (fenced_calm (fr := b.atR a₂ (.code .ret :: k₁)) hF' hr' rfl) (stepR_round_ret rfl rfl hend)))⟩
   | exit id =>
     obtain ⟨v, w₄, hend, hR⟩ := hq₂
     obtain ⟨k₁, hk, hs⟩ := harr₂.2 rfl rfl
     exact ⟨.returned v, w₄, hR, (StepsIn.trans harr s1).trans (StepsIn.trans hs (.one (fenced_calm (fr := b.atR a₂ (.code (.exit id) :: k₁)) hF' hr' rfl) (stepR_round_exit rfl rfl hk hend)))⟩
   | goto t =>
     obtain ⟨v, w₄, hend, hR⟩ := hq₂
     obtain ⟨k₁, hk, hs⟩ := harr₂.2 rfl rfl
     exact ⟨.returned v, w₄, hR, (StepsIn.trans harr s1).trans (StepsIn.trans hs (.one (fenced_calm (fr := b.atR a₂ (.code (.goto t) :: k₁)) hF' hr' rfl) (stepR_round_goto rfl rfl hk hend)))⟩
   | panic chain =>
     obtain ⟨hd, hR⟩ := hq₂
     obtain ⟨todo, hs⟩ := harr₂
     obtain ⟨fn, hfn⟩ := hf
     exact ⟨.panicked chain, w₃, hR, (StepsIn.trans harr s1).trans (StepsIn.trans hs (.one (fenced_calm (fr := { b.atR a₂ todo with mode := .panicking chain }) hF' hr' (by simp [Frame.about, Frame.atR, hd])) (step_leave_panicked ⟨rfl, hd, fn, hfn⟩)))⟩
   | outgrown => exact hq₂.elim
 | exit id => exact hq.elim
 | goto t => exact hq.elim
 | ret => exact hq.elim
 | panic chain => exact hq.elim
 | outgrown => exact hq.elim
def SeqP {α : Type} (F : Fence) (P : Program) (gf : Nat) (lb : Array Value) (encs : α → Array Value) (Kp : World → World → Prop) (xs : List α) (w0 : World) : Prop :=
 ∀ (l : Nat) (J : List α → World → Prop) (JS : World → Prop) (JP : List PanicEntry → World → Prop) (W : World), Below w0.heap.size w0 W → OwnFrom W.heap.size J →
   (∀ pre x W1, J pre W1 → pre ++ [x] <+: xs → YieldAt F 1 P l (encs x) W1 fun e W' =>
    (e = .returned (.bool true) ∧ J (pre ++ [x]) W' ∧ Kp W1 W' ∧ KeepsFrom W.heap.size W1 W') ∨ (e = .returned (.bool false) ∧ JS W') ∨ ∃ ch, e = .panicked ch ∧ JP ch W') →
   J [] W → CallsIn F 1 P gf (#[.func (.yield l) #[] #[]] ++ lb) W fun e W' => ((∃ v, e = .returned v) ∧ (J xs W' ∨ JS W')) ∨ ∃ ch, e = .panicked ch ∧ JP ch W'
def roundAny {α : Type} (B : Nat) (Kp : World → World → Prop) (I : List α → World → Prop) (IS : Code → World → Prop) (IP : List PanicEntry → World → Prop) (xs : List α) (W : World) : Exit → Act → World → Prop
  | .normal, _, W' => KeepsFrom B W W' ∧ Kp W W' ∧ I xs W'
  | .ret, _, W' => KeepsFrom B W W' ∧ IS .ret W'
  | .exit id, _, W' => KeepsFrom B W W' ∧ IS (.exit id) W'
  | .panic ch, a, W' => a.defers = [] ∧ KeepsFrom B W W' ∧ IP ch W'
  | _, _, _ => False
theorem callsIn_room {F : Fence} (hd : F.depth = none) {P : Program} {m n : Nat} {f : FuncId} {args : Array Value} {w : World} {R : Ending → World → Prop} (h : CallsIn F n P f args w R) : CallsIn F m P f args w R :=
 ⟨h.1, fun cs _ => h.2 cs (fun d hd' => by rw [hd] at hd'; cases hd')⟩
end Go.Proofs.YtcngnjkpnmpcpaaDoor
namespace Go.Proofs.YtcngnjkpnmpcpaaDoor
open Go.RowKit
def SeqX {α : Type} (F : Fence) (P : Program) (gf : Nat) (lb : Array Value) (encs : α → Array Value) (Kp : World → World → Prop) (xs : List α) (fin : Option (List PanicEntry)) (w0 : World) : Prop :=
 ∀ (l : Nat) (J : List α → World → Prop) (JS : World → Prop) (W : World), Below w0.heap.size w0 W → OwnFrom W.heap.size J →
   (∀ pre x W1, J pre W1 → pre ++ [x] <+: xs → YieldAt F 1 P l (encs x) W1 fun e W' =>
    (e = .returned (.bool true) ∧ J (pre ++ [x]) W' ∧ Kp W1 W' ∧ KeepsFrom W.heap.size W1 W') ∨ (e = .returned (.bool false) ∧ JS W')) →
   J [] W → CallsIn F 1 P gf (#[.func (.yield l) #[] #[]] ++ lb) W fun e W' => (∃ v, e = .returned v ∧ JS W') ∨ (fin = none ∧ (∃ v, e = .returned v) ∧ J xs W') ∨ ∃ ch, fin = some ch ∧ e = .panicked ch ∧ J xs W'
def roundNoX {α : Type} (B : Nat) (Kp : World → World → Prop) (I : List α → World → Prop) (IS : Code → World → Prop) (xs : List α) (W : World) : Exit → Act → World → Prop
  | .normal, _, W' => KeepsFrom B W W' ∧ Kp W W' ∧ I xs W'
  | .ret, _, W' => KeepsFrom B W W' ∧ IS .ret W'
  | .exit id, _, W' => KeepsFrom B W W' ∧ IS (.exit id) W'
  | _, _, _ => False
end Go.Proofs.YtcngnjkpnmpcpaaDoor
