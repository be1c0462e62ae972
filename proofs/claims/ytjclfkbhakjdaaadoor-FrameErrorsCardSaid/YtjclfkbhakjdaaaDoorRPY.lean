import Derived.Laws.Rows
import Derived.Deep.WholeRow
import Derived.Test.YtjclfkbhakjdaaaDoorLY
namespace Go.Proofs.YtjclfkbhakjdaaaDoor
open Go.RowKit
theorem run_store_func (P : Program) (w : World) (a : Addr) (m : Mode) (fn : Fn) (first cap : Array Value) : (store a (.func fn first cap) m).run P w = stored P w a (.func fn first cap) m := run_store P w a _ m rfl
def Rowed (W : World) (g : Nat) (t : TypeId) (cs : Array Value) : Prop := W.heap[g]? = some (.cells cs t (0, 0))
theorem Rowed.lt {W : World} {g : Nat} {t : TypeId} {cs : Array Value} (h : Rowed W g t cs) : g < W.heap.size := (Array.getElem?_eq_some_iff.1 h).1
theorem Rowed.cell {W : World} {g : Nat} {t : TypeId} {cs : Array Value} (h : Rowed W g t cs) (j : Nat) : W.cell? ⟨g, j, none⟩ = cs[j]? := by simp [World.cell?, show W.heap[g]? = _ from h]
theorem Rowed.frozen {W : World} {g : Nat} {t : TypeId} {cs : Array Value} (h : Rowed W g t cs) (j : Nat) : W.frozen? ⟨g, j, none⟩ = false := by simp [World.frozen?, show W.heap[g]? = _ from h]
theorem Rowed.set {W : World} {g : Nat} {t : TypeId} {cs : Array Value} (j : Nat) (v : Value) (h : Rowed W g t cs) : Rowed (W.setCell ⟨g, j, none⟩ v) g t (cs.setIfInBounds j v) := by
 obtain ⟨hlt, hk⟩ := Array.getElem?_eq_some_iff.1 h
 show (W.heap.modify g _)[g]? = _
 rw [Array.getElem?_eq_getElem (by rw [Array.size_modify]; exact hlt), Array.getElem_modify_self, hk]
 rfl
theorem Rowed.new (w : World) (t : TypeId) (cs : Array Value) : Rowed (w.alloc (.cells cs t)) w.heap.size t cs := World.alloc_heap_new w _
theorem Rowed.below {B g : Nat} {W W' : World} {t : TypeId} {cs : Array Value} (h : Rowed W g t cs) (hb : Below B W W') (hg : g < B) : Rowed W' g t cs := (hb.block g hg).trans h
theorem Rowed.alloc {W : World} {g : Nat} {t : TypeId} {cs : Array Value} (h : Rowed W g t cs) (o : Obj) : Rowed (W.alloc o) g t cs :=
 (Below.heap_alloc _ _ _ h.lt).trans h
theorem Rowed.other {W : World} {g : Nat} {t : TypeId} {cs : Array Value} (h : Rowed W g t cs) (b j : Nat) (v : Value) (hne : g ≠ b) : Rowed (W.setCell ⟨b, j, none⟩ v) g t cs :=
 (Below.heap_setCell W ⟨b, j, none⟩ v g hne).trans h
theorem grownBy_setCellAt (W : World) (b j : Nat) (v : Value) : W.grownBy (W.setCell ⟨b, j, none⟩ v) (some b) :=
 ⟨rfl, rfl, rfl, (KeepsWalks.setCell W _ v).size, fun k _ hk => Below.heap_setCell _ _ _ k (fun e => hk (by rw [e]))⟩
end Go.Proofs.YtjclfkbhakjdaaaDoor
namespace Go.Proofs.YtjclfkbhakjdaaaDoor
open Go.RowKit
def Keep (B g : Nat) (W W' : World) : Prop := (W'.os = W.os ∧ W'.tape = W.tape ∧ W'.output = W.output ∧ W.heap.size ≤ W'.heap.size) ∧ ∀ k, k < B → k ≠ g → W'.heap[k]? = W.heap[k]?
theorem keep_r (B g : Nat) (W : World) : Keep B g W W := ⟨⟨rfl, rfl, rfl, Nat.le_refl _⟩, fun _ _ _ => rfl⟩
theorem keep_t {B g : Nat} {X Y Z : World} (h : Keep B g X Y) (k : Keep B g Y Z) : Keep B g X Z :=
 ⟨⟨k.1.1.trans h.1.1, k.1.2.1.trans h.1.2.1, k.1.2.2.1.trans h.1.2.2.1, Nat.le_trans h.1.2.2.2 k.1.2.2.2⟩, fun i hi hg => (k.2 i hi hg).trans (h.2 i hi hg)⟩
theorem keep_of {B g : Nat} {W W' : World} (h : Below B W W') : Keep B g W W' := ⟨⟨h.os, h.tape, h.output, h.size⟩, fun k hk _ => h.block k hk⟩
theorem keep_set (B g j : Nat) (W : World) (v : Value) : Keep B g W (W.setCell ⟨g, j, none⟩ v) :=
 ⟨⟨rfl, rfl, rfl, by simp [World.setCell]⟩, fun k _ hg => Below.heap_setCell _ _ _ _ hg⟩
theorem Keep.cell {B g : Nat} {W W' : World} (h : Keep B g W W') {p : Addr} (hp : p.block < B) (hg : p.block ≠ g) : W'.cell? p = W.cell? p := World.cell?_of_block (w := W) (h.2 p.block hp hg)
theorem keep_size {B g : Nat} {W W' : World} (h : Keep B g W W') : W.heap.size ≤ W'.heap.size := h.1.2.2.2
end Go.Proofs.YtjclfkbhakjdaaaDoor
namespace Go.Proofs.YtjclfkbhakjdaaaDoor
open Go.RowKit
def roundPostP (P : Program) (l : Nat) (R : Ending → World → Prop) : Exit → Act → World → Prop
  | .panic ch, a, w => a.defers = [] ∧ R (.panicked ch) w
  | .normal, a, w => roundPost P l R .normal a w
  | .ret, a, w => roundPost P l R .ret a w
  | .exit id, a, w => roundPost P l R (.exit id) a w
  | .goto t, a, w => roundPost P l R (.goto t) a w
  | .outgrown, _, _ => False
theorem roundIn_of_wpInP {F : Fence} {n : Nat} {P : Program} {l : Nat} {f : FuncId} {tmps : Array Value} {assign body : Code} {w : World} {R : Ending → World → Prop} (hF : F.fn f) (hf : ∃ fn, P.funcs[f]? = some fn)
    (h : assign.wpIn (F.inRound l) n P (Exit.then (fun a₁ w₁ => ∃ w₂, (Instr.beginRound l).run P w₁ = .ok () w₂ ∧ body.wpIn (F.inRound l) n P (roundPostP P l R) a₁ w₂) (fun _ _ _ => False))
     { tmps := tmps, defers := [] } w) :
    RoundIn F n P l f tmps assign body w R := by
 refine ⟨hF, fun c cs hr => ?_⟩
 let b : Frame := { (default : Frame) with fn := f, kind := .normal, roundOf := some l }
 have hb0 : Frame.round l f tmps assign body .normal = b.atR { tmps := tmps, defers := [] } [.code assign, .beginRound, .code body] := by
  simp [Frame.round, Frame.atR, b]
 have hr' : (F.inRound l).room ((c :: cs).length + 1 + n) := hr
 have hF' : (F.inRound l).fn b.fn := hF
 obtain ⟨e, a₁, w₁, hq, harr⟩ := h b [.beginRound, .code body] (c :: cs) rfl hF' hr'
 rw [← hb0] at harr
 cases e with
 | normal =>
   obtain ⟨w₂, hbr, hbody⟩ := hq
   have s1 : StepsIn (Machine.fenced P (F.inRound l)) P (lone (b.atR a₁ [.beginRound, .code body]) (c :: cs) w₁) (lone (b.atR a₁ [.code body]) (c :: cs) w₂) :=
    .one (fenced_calm (fr := b.atR a₁ [.beginRound, .code body]) hF' hr' rfl) (stepR_beginRound rfl hbr)
   obtain ⟨e₂, a₂, w₃, hq₂, harr₂⟩ := hbody b [] (c :: cs) rfl hF' hr'
   cases e₂ with
   | normal =>
     obtain ⟨v, w₄, hend, hR⟩ := hq₂
     exact ⟨.returned v, w₄, hR, (StepsIn.trans harr s1).trans (StepsIn.trans harr₂ (.one (fenced_calm (fr := b.atR a₂ []) hF' hr' rfl) (stepR_round_end rfl rfl hend)))⟩
   | ret =>
     obtain ⟨v, w₄, hend, hR⟩ := hq₂
     obtain ⟨k₁, hs⟩ := harr₂.2 rfl
     exact ⟨.returned v, w₄, hR, (StepsIn.trans harr s1).trans (StepsIn.trans hs (.one (fenced_calm (fr := b.atR a₂ (.code .ret :: k₁)) hF' hr' rfl) (stepR_round_ret rfl rfl hend)))⟩
   | exit id =>
     obtain ⟨v, w₄, hend, hR⟩ := hq₂
     obtain ⟨k₁, hk, hs⟩ := harr₂.2 rfl rfl
     exact ⟨.returned v, w₄, hR, (StepsIn.trans harr s1).trans (StepsIn.trans hs (.one (fenced_calm (fr := b.atR a₂ (.code (.exit id) :: k₁)) hF' hr' rfl) (stepR_round_exit rfl rfl hk hend)))⟩
   | goto t =>
     obtain ⟨v, w₄, hend, hR⟩ := hq₂
     obtain ⟨k₁, hk, hs⟩ := harr₂.2 rfl rfl
     exact ⟨.returned v, w₄, hR, (StepsIn.trans harr s1).trans (StepsIn.trans hs (.one (fenced_calm (fr := b.atR a₂ (.code (.goto t) :: k₁)) hF' hr' rfl) (stepR_round_goto rfl rfl hk hend)))⟩
   | panic chain =>
     obtain ⟨hd, hR⟩ := hq₂
     obtain ⟨todo, hs⟩ := harr₂
     obtain ⟨fn, hfn⟩ := hf
     exact ⟨.panicked chain, w₃, hR, (StepsIn.trans harr s1).trans (StepsIn.trans hs (.one (fenced_calm (fr := { b.atR a₂ todo with mode := .panicking chain }) hF' hr' (by simp [Frame.about, Frame.atR, hd])) (step_leave_panicked ⟨rfl, hd, fn, hfn⟩)))⟩
   | outgrown => exact hq₂.elim
 | exit id => exact hq.elim
 | goto t => exact hq.elim
 | ret => exact hq.elim
 | panic chain => exact hq.elim
 | outgrown => exact hq.elim
def Fence.inProg (P : Program) : Fence := { Fence.wide with fn := fun f => ∃ fn, P.funcs[f]? = some fn }
theorem inProg_round (P : Program) : (Fence.inProg P).round = none := rfl
theorem inProg_depth (P : Program) : (Fence.inProg P).depth = none := rfl
theorem room_inProg (P : Program) (n : Nat) : (Fence.inProg P).room n := fun d hd => by cases hd
theorem callsIn_inProg {P : Program} {n : Nat} {f : FuncId} {args : Array Value} {w : World} {R : Ending → World → Prop} (h : CallsIn (Fence.inProg P) n P f args w R) : Calls P f args w R := h.calls (room_inProg P)
def SeqP {α : Type} (F : Fence) (P : Program) (gf : Nat) (lb : Array Value) (encs : α → Array Value) (Kp : World → World → Prop) (xs : List α) (w0 : World) : Prop :=
 ∀ (l : Nat) (J : List α → World → Prop) (JS : World → Prop) (JP : List PanicEntry → World → Prop) (W : World), Below w0.heap.size w0 W → OwnFrom W.heap.size J →
   (∀ pre x W1, J pre W1 → pre ++ [x] <+: xs → YieldAt F 1 P l (encs x) W1 fun e W' =>
    (e = .returned (.bool true) ∧ J (pre ++ [x]) W' ∧ Kp W1 W' ∧ KeepsFrom W.heap.size W1 W') ∨ (e = .returned (.bool false) ∧ JS W') ∨ ∃ ch, e = .panicked ch ∧ JP ch W') →
   J [] W → CallsIn F 1 P gf (#[.func (.yield l) #[] #[]] ++ lb) W fun e W' => ((∃ v, e = .returned v) ∧ (J xs W' ∨ JS W')) ∨ ∃ ch, e = .panicked ch ∧ JP ch W'
def roundAny {α : Type} (B : Nat) (Kp : World → World → Prop) (I : List α → World → Prop) (IS : Code → World → Prop) (IP : List PanicEntry → World → Prop) (xs : List α) (W : World) : Exit → Act → World → Prop
  | .normal, _, W' => KeepsFrom B W W' ∧ Kp W W' ∧ I xs W'
  | .ret, _, W' => KeepsFrom B W W' ∧ IS .ret W'
  | .exit id, _, W' => KeepsFrom B W W' ∧ IS (.exit id) W'
  | .panic ch, a, W' => a.defers = [] ∧ KeepsFrom B W W' ∧ IP ch W'
  | _, _, _ => False
theorem callsIn_room {F : Fence} (hd : F.depth = none) {P : Program} {m n : Nat} {f : FuncId} {args : Array Value} {w : World} {R : Ending → World → Prop} (h : CallsIn F n P f args w R) : CallsIn F m P f args w R :=
 ⟨h.1, fun cs _ => h.2 cs (fun d hd' => by rw [hd] at hd'; cases hd')⟩
theorem wpIn_range_P {α : Type} {F : Fence} {n : Nat} {P : Program} {w : World} {g : Operand} {ps : Array Tmp} {assign body : Code} {Q : Exit → Act → World → Prop} {a : Act}
    (hF : ∀ f, F.fn f → ∃ fn, P.funcs[f]? = some fn) (hdep : F.depth = none) (hro : F.round = none) {gf : Nat} {lb : Array Value} (hgf : F.fn gf) (hg : a.eval g = .func (.func gf) #[] lb) (eg : ∀ args w, (callFunc gf args).run P w = .ok (.enter gf args) w)
    {encs : α → Array Value} {Kp : World → World → Prop} {xs : List α} {w0 : World} (hseq : SeqP F P gf lb encs Kp xs w0) (hKt : ∀ X Y Z, Kp X Y → Kp Y Z → Kp X Z)
    (hKb : ∀ (W : World) (l : Nat) (o o' : Obj), w.heap.size ≤ l → W.heap[l]? = some o → o.isCells = false → Kp W (W.putObj l o')) (hb0 : Below w0.heap.size w0 w) (hps : ∀ x, (encs x).size = ps.size)
    (I : List α → World → Prop) (IS : Code → World → Prop) (IP : List PanicEntry → World → Prop) (hI : OwnFrom w.heap.size I) (h0 : I [] w) (hISp : ∀ c D W o, w.heap.size ≤ D → IS c W → IS c (W.putObj D o)) (a₁ : α → Act)
    (hassign : ∀ (l : Nat) (x : α) (W : World) (K : Act → World → Prop), K (a₁ x) W →
      assign.wpIn (F.inRound l) 1 P (Exit.then K (fun _ _ _ => False)) { tmps := (ps.zip (encs x)).foldl (fun t (p, v) => t.setIfInBounds p v) a.tmps, defers := [] } W)
    (hbody : ∀ (l : Nat) (pre : List α) (x : α) (W : World), I pre W → pre ++ [x] <+: xs → body.wpIn (F.inRound l) 1 P (roundAny w.heap.size Kp I IS IP (pre ++ [x]) W) (a₁ x) W)
    (hdone : ∀ (D : Nat) (W : World), w.heap.size ≤ D → I xs W → W.heap[D]? = some (.deferred (some [])) → Q .normal { a with defers := { target := .collected D, args := #[] } :: a.defers } W)
    (hstop : ∀ (c : Code) (D : Nat) (W : World), w.heap.size ≤ D → IS c W → W.heap[D]? = some (.deferred (some [])) → c.wpIn F n P Q { a with defers := { target := .collected D, args := #[] } :: a.defers } W)
    (hpan : ∀ (ch : List PanicEntry) (D : Nat) (W : World), w.heap.size ≤ D → IP ch W → W.heap[D]? = some (.deferred (some [])) → Q (.panic ch) { a with defers := { target := .collected D, args := #[] } :: a.defers } W) :
    (Code.rangeFunc g ps assign body).wpIn F n P Q a w := by
  refine wpIn_rangeFunc fun fn hfn => ?_
  have hD : w.heap.size < w.heap.size + 1 := Nat.lt_succ_self _
  generalize hrec : (fun (st : LoopState) (pe : Option Code) => ({ state := st, pending := pe, fn, tmps := a.tmps, params := ps, assign, body, defers := w.heap.size } : Loop)) = rec
  have hr : ∀ st pe, rec st pe = { state := st, pending := pe, fn, tmps := a.tmps, params := ps, assign, body, defers := w.heap.size } := fun st pe => by rw [← hrec]
  generalize hw1 : (w.alloc (.deferred (some []))).alloc (.loop (rec .ready none)) = w1
  have hs1 : w1.heap.size = w.heap.size + 2 := by rw [← hw1]; simp
  have hl1 : w1.heap[w.heap.size + 1]? = some (.loop (rec .ready none)) := by
   rw [← hw1]
   have h := World.alloc_heap_new (w.alloc (.deferred (some []))) (.loop (rec .ready none))
   rwa [World.size_alloc] at h
  have hk1 : w1.heap[w.heap.size]? = some (.deferred (some [])) := by
   rw [← hw1]
   exact (Below.heap_alloc _ _ _ (by simp)).trans (World.alloc_heap_new w _)
  have hbw : Below w.heap.size w w1 := by
   rw [← hw1]; exact ((Below.refl _ w).alloc (Nat.le_refl _) _).alloc (by simp) _
  have hI1 : I [] w1 := by rw [← hw1]; exact hI.alloc _ (hI.alloc _ h0)
  have hput : ∀ (W : World) (r r' : Loop), W.heap[w.heap.size + 1]? = some (.loop r) → Kp W (W.putObj (w.heap.size + 1) (.loop r')) := fun W r r' h => hKb W (w.heap.size + 1) (.loop r) (.loop r') (by omega) h rfl
  have hmain := hseq (w.heap.size + 1) (fun pre W => I pre W ∧ W.heap[w.heap.size + 1]? = some (.loop (rec .ready none)) ∧ W.heap[w.heap.size]? = some (.deferred (some [])))
   (fun W => ∃ c, W.heap[w.heap.size + 1]? = some (.loop (rec .done (some c))) ∧ W.heap[w.heap.size]? = some (.deferred (some [])) ∧ IS c W)
   (fun ch W => W.heap[w.heap.size]? = some (.deferred (some [])) ∧ IP ch W) w1
   (hb0.trans (hbw.mono hb0.size)) ?own ?round ⟨hI1, hl1, hk1⟩
  case own =>
   intro s X Y row hs hgr hrow
   have hne : ∀ k, k < w.heap.size + 2 → some k ≠ row := fun k hk e => by
    have := (hrow k e.symm).1
    omega
   refine ⟨hI s X Y row hs.1 hgr fun r e => ⟨by have := (hrow r e).1; omega, (hrow r e).2⟩, ?_, ?_⟩
   · exact (hgr.block _ (Array.getElem?_eq_some_iff.1 hs.2.1).1 (hne _ (by omega))).trans hs.2.1
   · exact (hgr.block _ (Array.getElem?_eq_some_iff.1 hs.2.2).1 (hne _ (by omega))).trans hs.2.2
  case round =>
   rintro pre x W ⟨hi, hl, hk⟩ hlen
   have hlt : w.heap.size + 1 < W.heap.size := (Array.getElem?_eq_some_iff.1 hl).1
   have hy := run_yield (P := P) (args := encs x) hl (by rw [hr]; exact hps x)
   rw [hr] at hy
   refine ⟨fn, _, assign, body, hy, roundIn_of_wpInP hfn (hF fn hfn) (hassign _ x W _ ⟨_, run_beginRound hl (by rw [hr]), ?_⟩)⟩
   have hb : ({ rec .ready none with state := .busy } : Loop) = rec .busy none := by rw [hr, hr]
   rw [hb]
   have hl2 : (W.putObj (w.heap.size + 1) (.loop (rec .busy none))).heap[w.heap.size + 1]? = some (.loop (rec .busy none)) := World.putObj_heap_same hlt
   have hk2 : (W.putObj (w.heap.size + 1) (.loop (rec .busy none))).heap[w.heap.size]? = some (.deferred (some [])) := (World.putObj_heap_other (by omega)).trans hk
   have hjump : ∀ (c : Code) (W3 : World), KeepsFrom w.heap.size (W.putObj (w.heap.size + 1) (.loop (rec .busy none))) W3 → IS c W3 → ∃ v w', (Instr.endRound (w.heap.size + 1) (some c)).run P W3 = .ok v w' ∧
       (((Ending.returned v = .returned (.bool true) ∧ (I (pre ++ [x]) w' ∧ w'.heap[w.heap.size + 1]? = some (.loop (rec .ready none)) ∧ w'.heap[w.heap.size]? = some (.deferred (some []))) ∧ Kp W w' ∧ KeepsFrom w1.heap.size W w') ∨
         (Ending.returned v = .returned (.bool false) ∧ ∃ c, w'.heap[w.heap.size + 1]? = some (.loop (rec .done (some c))) ∧ w'.heap[w.heap.size]? = some (.deferred (some [])) ∧ IS c w') ∨
         ∃ ch, Ending.returned v = .panicked ch ∧ w'.heap[w.heap.size]? = some (.deferred (some [])) ∧ IP ch w')) := by
     intro c W3 h3 hi3
     have hl3 := h3.same _ _ (by omega) hl2 rfl
     have hk3 := h3.same _ _ (Nat.le_refl _) hk2 rfl
     have he := run_endRound (P := P) (some c) hl3
     have hb2 : ({ rec .busy none with state := if (some c : Option Code).isNone then .ready else .done, pending := some c } : Loop) = rec .done (some c) := by rw [hr, hr]; rfl
     rw [hb2] at he
     have hlt3 := (Array.getElem?_eq_some_iff.1 hl3).1
     exact ⟨_, _, he, .inr (.inl ⟨rfl, c, World.putObj_heap_same hlt3, (World.putObj_heap_other (by omega)).trans hk3, hISp _ _ _ _ (by omega) hi3⟩)⟩
   refine wpIn_mono (hbody _ pre x _ (hI.putObj _ hi (by omega) hl rfl) hlen) ?_
   rintro e a3 W3 hp
   cases e with
   | normal =>
     obtain ⟨h3, hB3, hi3⟩ := hp
     have hl3 := h3.same _ _ (by omega) hl2 rfl
     have hk3 := h3.same _ _ (Nat.le_refl _) hk2 rfl
     have he := run_endRound (P := P) none hl3
     have hb2 : ({ rec .busy none with state := if (none : Option Code).isNone then .ready else .done, pending := none } : Loop) = rec .ready none := by rw [hr, hr]; rfl
     rw [hb2] at he
     have hlt3 := (Array.getElem?_eq_some_iff.1 hl3).1
     refine ⟨_, _, he, .inl ⟨rfl, ⟨hI.putObj _ hi3 (by omega) hl3 rfl, World.putObj_heap_same hlt3, (World.putObj_heap_other (by omega)).trans hk3⟩,
      hKt _ _ _ (hKt _ _ _ (hput W _ _ hl) hB3) (hput W3 _ _ hl3), ⟨by have := h3.size; simpa [World.putObj] using this, fun k o hk0 ho hc => ?_⟩⟩⟩
     by_cases e : k = w.heap.size + 1
     · subst e
       rw [hl] at ho
       cases ho
       exact World.putObj_heap_same hlt3
     · exact (World.putObj_heap_other e).trans (h3.same k o (by omega) ((World.putObj_heap_other e).trans ho) hc)
   | ret => exact hjump _ W3 hp.1 hp.2
   | exit id => exact hjump _ W3 hp.1 hp.2
   | goto _ => exact hp.elim
   | panic ch => exact ⟨hp.1, .inr (.inr ⟨ch, rfl, hp.2.1.same _ _ (Nat.le_refl _) hk2 rfl, hp.2.2⟩)⟩
   | outgrown => exact hp.elim
  have hrun := run_enterLoop_outer (P := P) (w := w) fn a.tmps ps assign body
  rw [← hr .ready none, hw1] at hrun
  refine ⟨w.heap.size + 1, [{ target := .collected w.heap.size, args := #[] }], w1, { target := .fn (.func gf) lb, args := #[.func (.yield (w.heap.size + 1)) #[] #[]] }, w1, gf,
   #[.func (.yield (w.heap.size + 1)) #[] #[]] ++ lb, w1, by rw [hro]; exact hrun, ?_, ?_, ?_, (fun h => by rw [hdep] at h; cases h), ?_⟩
  · simp only [resolve, hg]
    simp [go_sem]
  · intro f' hf'
    have : gf = f' := by simpa [Target.leads] using hf'
    subst this
    exact hgf
  · simp [invoke, go_sem, eg]
  · refine callsIn_room hdep (hmain.mono ?_)
    rintro e W2 (⟨⟨v, rfl⟩, ⟨hi, hl, hk⟩ | ⟨c, hl, hk, hi⟩⟩ | ⟨ch, rfl, hk, hi⟩)
    · have he := run_endLoop (P := P) hl (by rw [hr]; simp)
      rw [hr] at he
      exact ⟨none, _, he, hdone _ _ (Nat.le_refl _) (hI.putObj _ hi (by omega) hl rfl) ((World.putObj_heap_other (by omega)).trans hk)⟩
    · have he := run_endLoop (P := P) hl (by rw [hr]; simp)
      rw [hr] at he
      exact ⟨some c, _, he, hstop c _ _ (Nat.le_refl _) (hISp _ _ _ _ (by omega) hi) ((World.putObj_heap_other (by omega)).trans hk)⟩
    · exact hpan ch _ _ (Nat.le_refl _) hi hk
end Go.Proofs.YtjclfkbhakjdaaaDoor
