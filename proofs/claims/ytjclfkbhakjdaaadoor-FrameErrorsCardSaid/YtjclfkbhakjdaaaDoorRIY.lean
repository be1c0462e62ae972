import Derived.Laws.Rows
import Derived.Laws.Tables
import Derived.Test.YtjclfkbhakjdaaaDoorRPY
namespace Go.Proofs.YtjclfkbhakjdaaaDoor
open Go.RowKit
theorem wpListIn_load_row {F : Fence} {nn : Nat} {P : Program} {ops : Array Oper} {rest : List Oper} {o : Oper} {a : Act} {w : World} {Q : Exit → Act → World → Prop} (hgd : o.guard = none) (ty : TypeId) (x : Operand) (ho : o.op = .load ty x)
    (g : Nat) (hx : a.eval x = .pointer (some ⟨g, 0, none⟩)) (t : TypeId) (cs : Array Value) (fr : Nat × Nat) (d : TypeDesc) (hg : w.heap[g]? = some (.cells cs t fr))
    (hu : P.underlying ty = some d) (hd : (match d with | .struct _ | .array _ _ => true | _ => false) = true) (hi : (P.info? ty).map (·.size) = some cs.size)
    (h : wpListIn F nn P ops Q rest (a.put o.dst (.agg cs)) w) : wpListIn F nn P ops Q (o :: rest) a w := by
 refine wpListIn_plain hgd fun K hK => ?_
 unfold Oper.wpIn
 refine ⟨by simp [Oper.about, ho], ?_⟩
 have e : (o.semAt F.round a.eval).run P w = .ok (.value (.agg cs)) w := by
  have h0 : o.semAt F.round a.eval = o.semAt none a.eval := by simp [Oper.semAt, ho]
  rw [h0]
  simp only [Oper.semAt, execOp, ho, hx, Instr.loadAt, Instr.sureAddr, Sem.run_bind, Sem.run_pure, Result.andThen_ok, run_loadVar_row w g t ty cs fr d hg hu hd hi]
 rw [e]
 exact hK _ _ h
theorem wpListIn_store_row {F : Fence} {nn : Nat} {P : Program} {ops : Array Oper} {rest : List Oper} {o : Oper} {a : Act} {w : World} {Q : Exit → Act → World → Prop} (hgd : o.guard = none) (ty : TypeId) (x y : Operand) (ho : o.op = .store ty x y)
    (g : Nat) (cells : Array Value) (hx : a.eval x = .pointer (some ⟨g, 0, none⟩)) (hy : a.eval y = .agg cells)
    (t : TypeId) (old : Array Value) (hg : w.heap[g]? = some (.cells old t (0, 0))) (hi : (P.info? ty).map (·.size) = some cells.size)
    (hold : old.size = cells.size) (h1 : cells.all (·.oneCell') = true)
    (h : wpListIn F nn P ops Q rest (a.put o.dst undef) (w.setRow g cells)) : wpListIn F nn P ops Q (o :: rest) a w := by
 refine wpListIn_plain hgd fun K hK => ?_
 unfold Oper.wpIn
 refine ⟨by simp [Oper.about, ho], ?_⟩
 rw [Oper.semAt_plain F _ _ (by rw [ho]; intro c hc'; cases hc')]
 simp only [execOp, ho, hx, hy, Instr.storeAt, Instr.sureAddr, Sem.run_bind, Sem.run_pure, Result.andThen_ok, run_storeVar_row w g t ty old cells hg hi hold h1]
 exact hK _ _ h
end Go.Proofs.YtjclfkbhakjdaaaDoor
namespace Go.Proofs.YtjclfkbhakjdaaaDoor
open Go.RowKit
def SeqI {α : Type} (F : Fence) (P : Program) (gf : Nat) (lb : Array Value) (encs : α → Array Value) (Kp : World → World → Prop) (xs : List α) (fin : Option (List PanicEntry)) (w0 : World) : Prop :=
 ∀ (l : Nat) (J : List α → World → Prop) (JS : World → Prop) (W : World), Below w0.heap.size w0 W → OwnFrom W.heap.size J →
   (∀ pre x W1, J pre W1 → pre ++ [x] <+: xs → YieldAt F 1 P l (encs x) W1 fun e W' =>
    (e = .returned (.bool true) ∧ J (pre ++ [x]) W' ∧ Kp W1 W' ∧ KeepsFrom W.heap.size W1 W') ∨ (e = .returned (.bool false) ∧ JS W')) →
   J [] W → CallsIn F 1 P gf (#[.func (.yield l) #[] #[]] ++ lb) W fun e W' => (∃ v, e = .returned v ∧ JS W') ∨ (fin = none ∧ (∃ v, e = .returned v) ∧ J xs W') ∨ ∃ ch, fin = some ch ∧ e = .panicked ch ∧ J xs W'
def roundNo {α : Type} (B : Nat) (Kp : World → World → Prop) (I : List α → World → Prop) (IS : Code → World → Prop) (xs : List α) (W : World) : Exit → Act → World → Prop
  | .normal, _, W' => KeepsFrom B W W' ∧ Kp W W' ∧ I xs W'
  | .ret, _, W' => KeepsFrom B W W' ∧ IS .ret W'
  | .exit id, _, W' => KeepsFrom B W W' ∧ IS (.exit id) W'
  | _, _, _ => False
theorem wpIn_range_I {α : Type} {F : Fence} {n : Nat} {P : Program} {w : World} {g : Operand} {ps : Array Tmp} {assign body : Code} {Q : Exit → Act → World → Prop} {a : Act}
    (hdep : F.depth = none) (hro : F.round = none) {gf : Nat} {lb : Array Value} (hgf : F.fn gf) (hg : a.eval g = .func (.func gf) #[] lb) (eg : ∀ args w, (callFunc gf args).run P w = .ok (.enter gf args) w)
    {encs : α → Array Value} {Kp : World → World → Prop} {xs : List α} {fin : Option (List PanicEntry)} {w0 : World} (hseq : SeqI F P gf lb encs Kp xs fin w0) (hKt : ∀ X Y Z, Kp X Y → Kp Y Z → Kp X Z)
    (hKb : ∀ (W : World) (l : Nat) (o o' : Obj), w.heap.size ≤ l → W.heap[l]? = some o → o.isCells = false → Kp W (W.putObj l o')) (hb0 : Below w0.heap.size w0 w) (hps : ∀ x, (encs x).size = ps.size)
    (I : List α → World → Prop) (IS : Code → World → Prop) (hI : OwnFrom w.heap.size I) (h0 : I [] w) (hISp : ∀ c D W o, w.heap.size ≤ D → IS c W → IS c (W.putObj D o)) (a₁ : α → Act)
    (hassign : ∀ (l : Nat) (x : α) (W : World) (K : Act → World → Prop), K (a₁ x) W →
      assign.wpIn (F.inRound l) 1 P (Exit.then K (fun _ _ _ => False)) { tmps := (ps.zip (encs x)).foldl (fun t (p, v) => t.setIfInBounds p v) a.tmps, defers := [] } W)
    (hbody : ∀ (l : Nat) (pre : List α) (x : α) (W : World), I pre W → pre ++ [x] <+: xs → body.wpIn (F.inRound l) 1 P (roundNo w.heap.size Kp I IS (pre ++ [x]) W) (a₁ x) W)
    (hdone : fin = none → ∀ (D : Nat) (W : World), w.heap.size ≤ D → I xs W → W.heap[D]? = some (.deferred (some [])) → Q .normal { a with defers := { target := .collected D, args := #[] } :: a.defers } W)
    (hstop : ∀ (c : Code) (D : Nat) (W : World), w.heap.size ≤ D → IS c W → W.heap[D]? = some (.deferred (some [])) → c.wpIn F n P Q { a with defers := { target := .collected D, args := #[] } :: a.defers } W)
    (hpan : ∀ (ch : List PanicEntry) (D : Nat) (W : World), fin = some ch → w.heap.size ≤ D → I xs W → W.heap[D]? = some (.deferred (some [])) → Q (.panic ch) { a with defers := { target := .collected D, args := #[] } :: a.defers } W) :
    (Code.rangeFunc g ps assign body).wpIn F n P Q a w := by
  refine wpIn_rangeFunc fun fn hfn => ?_
  have hD : w.heap.size < w.heap.size + 1 := Nat.lt_succ_self _
  generalize hrec : (fun (st : LoopState) (pe : Option Code) => ({ state := st, pending := pe, fn, tmps := a.tmps, params := ps, assign, body, defers := w.heap.size } : Loop)) = rec
  have hr : ∀ st pe, rec st pe = { state := st, pending := pe, fn, tmps := a.tmps, params := ps, assign, body, defers := w.heap.size } := fun st pe => by rw [← hrec]
  generalize hw1 : (w.alloc (.deferred (some []))).alloc (.loop (rec .ready none)) = w1
  have hs1 : w1.heap.size = w.heap.size + 2 := by rw [← hw1]; simp
  have hl1 : w1.heap[w.heap.size + 1]? = some (.loop (rec .ready none)) := by
   rw [← hw1]
   have h := World.alloc_heap_new (w.alloc (.deferred (some []))) (.loop (rec .ready none))
   rwa [World.size_alloc] at h
  have hk1 : w1.heap[w.heap.size]? = some (.deferred (some [])) := by
   rw [← hw1]
   exact (Below.heap_alloc _ _ _ (by simp)).trans (World.alloc_heap_new w _)
  have hbw : Below w.heap.size w w1 := by
   rw [← hw1]; exact ((Below.refl _ w).alloc (Nat.le_refl _) _).alloc (by simp) _
  have hI1 : I [] w1 := by rw [← hw1]; exact hI.alloc _ (hI.alloc _ h0)
  have hput : ∀ (W : World) (r r' : Loop), W.heap[w.heap.size + 1]? = some (.loop r) → Kp W (W.putObj (w.heap.size + 1) (.loop r')) := fun W r r' h => hKb W (w.heap.size + 1) (.loop r) (.loop r') (by omega) h rfl
  have hmain := hseq (w.heap.size + 1) (fun pre W => I pre W ∧ W.heap[w.heap.size + 1]? = some (.loop (rec .ready none)) ∧ W.heap[w.heap.size]? = some (.deferred (some [])))
   (fun W => ∃ c, W.heap[w.heap.size + 1]? = some (.loop (rec .done (some c))) ∧ W.heap[w.heap.size]? = some (.deferred (some [])) ∧ IS c W)
   w1
   (hb0.trans (hbw.mono hb0.size)) ?own ?round ⟨hI1, hl1, hk1⟩
  case own =>
   intro s X Y row hs hgr hrow
   have hne : ∀ k, k < w.heap.size + 2 → some k ≠ row := fun k hk e => by
    have := (hrow k e.symm).1
    omega
   refine ⟨hI s X Y row hs.1 hgr fun r e => ⟨by have := (hrow r e).1; omega, (hrow r e).2⟩, ?_, ?_⟩
   · exact (hgr.block _ (Array.getElem?_eq_some_iff.1 hs.2.1).1 (hne _ (by omega))).trans hs.2.1
   · exact (hgr.block _ (Array.getElem?_eq_some_iff.1 hs.2.2).1 (hne _ (by omega))).trans hs.2.2
  case round =>
   rintro pre x W ⟨hi, hl, hk⟩ hlen
   have hlt : w.heap.size + 1 < W.heap.size := (Array.getElem?_eq_some_iff.1 hl).1
   have hy := run_yield (P := P) (args := encs x) hl (by rw [hr]; exact hps x)
   rw [hr] at hy
   refine ⟨fn, _, assign, body, hy, roundIn_of_wpIn hfn (hassign _ x W _ ⟨_, run_beginRound hl (by rw [hr]), ?_⟩)⟩
   have hb : ({ rec .ready none with state := .busy } : Loop) = rec .busy none := by rw [hr, hr]
   rw [hb]
   have hl2 : (W.putObj (w.heap.size + 1) (.loop (rec .busy none))).heap[w.heap.size + 1]? = some (.loop (rec .busy none)) := World.putObj_heap_same hlt
   have hk2 : (W.putObj (w.heap.size + 1) (.loop (rec .busy none))).heap[w.heap.size]? = some (.deferred (some [])) := (World.putObj_heap_other (by omega)).trans hk
   have hjump : ∀ (c : Code) (W3 : World), KeepsFrom w.heap.size (W.putObj (w.heap.size + 1) (.loop (rec .busy none))) W3 → IS c W3 → ∃ v w', (Instr.endRound (w.heap.size + 1) (some c)).run P W3 = .ok v w' ∧
       (((Ending.returned v = .returned (.bool true) ∧ (I (pre ++ [x]) w' ∧ w'.heap[w.heap.size + 1]? = some (.loop (rec .ready none)) ∧ w'.heap[w.heap.size]? = some (.deferred (some []))) ∧ Kp W w' ∧ KeepsFrom w1.heap.size W w') ∨
         (Ending.returned v = .returned (.bool false) ∧ ∃ c, w'.heap[w.heap.size + 1]? = some (.loop (rec .done (some c))) ∧ w'.heap[w.heap.size]? = some (.deferred (some [])) ∧ IS c w'))) := by
     intro c W3 h3 hi3
     have hl3 := h3.same _ _ (by omega) hl2 rfl
     have hk3 := h3.same _ _ (Nat.le_refl _) hk2 rfl
     have he := run_endRound (P := P) (some c) hl3
     have hb2 : ({ rec .busy none with state := if (some c : Option Code).isNone then .ready else .done, pending := some c } : Loop) = rec .done (some c) := by rw [hr, hr]; rfl
     rw [hb2] at he
     have hlt3 := (Array.getElem?_eq_some_iff.1 hl3).1
     exact ⟨_, _, he, .inr ⟨rfl, c, World.putObj_heap_same hlt3, (World.putObj_heap_other (by omega)).trans hk3, hISp _ _ _ _ (by omega) hi3⟩⟩
   refine wpIn_mono (hbody _ pre x _ (hI.putObj _ hi (by omega) hl rfl) hlen) ?_
   rintro e a3 W3 hp
   cases e with
   | normal =>
     obtain ⟨h3, hB3, hi3⟩ := hp
     have hl3 := h3.same _ _ (by omega) hl2 rfl
     have hk3 := h3.same _ _ (Nat.le_refl _) hk2 rfl
     have he := run_endRound (P := P) none hl3
     have hb2 : ({ rec .busy none with state := if (none : Option Code).isNone then .ready else .done, pending := none } : Loop) = rec .ready none := by rw [hr, hr]; rfl
     rw [hb2] at he
     have hlt3 := (Array.getElem?_eq_some_iff.1 hl3).1
     refine ⟨_, _, he, .inl ⟨rfl, ⟨hI.putObj _ hi3 (by omega) hl3 rfl, World.putObj_heap_same hlt3, (World.putObj_heap_other (by omega)).trans hk3⟩,
      hKt _ _ _ (hKt _ _ _ (hput W _ _ hl) hB3) (hput W3 _ _ hl3), ⟨by have := h3.size; simpa [World.putObj] using this, fun k o hk0 ho hc => ?_⟩⟩⟩
     by_cases e : k = w.heap.size + 1
     · subst e
       rw [hl] at ho
       cases ho
       exact World.putObj_heap_same hlt3
     · exact (World.putObj_heap_other e).trans (h3.same k o (by omega) ((World.putObj_heap_other e).trans ho) hc)
   | ret => exact hjump _ W3 hp.1 hp.2
   | exit id => exact hjump _ W3 hp.1 hp.2
   | goto _ => exact hp.elim
   | panic ch => exact hp.elim
   | outgrown => exact hp.elim
  have hrun := run_enterLoop_outer (P := P) (w := w) fn a.tmps ps assign body
  rw [← hr .ready none, hw1] at hrun
  refine ⟨w.heap.size + 1, [{ target := .collected w.heap.size, args := #[] }], w1, { target := .fn (.func gf) lb, args := #[.func (.yield (w.heap.size + 1)) #[] #[]] }, w1, gf,
   #[.func (.yield (w.heap.size + 1)) #[] #[]] ++ lb, w1, by rw [hro]; exact hrun, ?_, ?_, ?_, (fun h => by rw [hdep] at h; cases h), ?_⟩
  · simp only [resolve, hg]
    simp [go_sem]
  · intro f' hf'
    have : gf = f' := by simpa [Target.leads] using hf'
    subst this
    exact hgf
  · simp [invoke, go_sem, eg]
  · refine callsIn_room hdep (hmain.mono ?_)
    rintro e W2 (⟨v, rfl, c, hl, hk, hi⟩ | ⟨hfin, ⟨v, rfl⟩, hi, hl, hk⟩ | ⟨ch, hfin, rfl, hi, hl, hk⟩)
    · have he := run_endLoop (P := P) hl (by rw [hr]; simp)
      rw [hr] at he
      exact ⟨some c, _, he, hstop c _ _ (Nat.le_refl _) (hISp _ _ _ _ (by omega) hi) ((World.putObj_heap_other (by omega)).trans hk)⟩
    · have he := run_endLoop (P := P) hl (by rw [hr]; simp)
      rw [hr] at he
      exact ⟨none, _, he, hdone hfin _ _ (Nat.le_refl _) (hI.putObj _ hi (by omega) hl rfl) ((World.putObj_heap_other (by omega)).trans hk)⟩
    · exact hpan ch _ _ hfin (Nat.le_refl _) hi hk
end Go.Proofs.YtjclfkbhakjdaaaDoor
