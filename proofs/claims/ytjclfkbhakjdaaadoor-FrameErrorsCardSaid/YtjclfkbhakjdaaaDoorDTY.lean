import Derived.Laws.StructEq
import Derived.Laws.Rows
import Derived.Still
import Derived.Orders
import Derived.Test.YtjclfkbhakjdaaaDoorLY
namespace Go.Proofs.YtjclfkbhakjdaaaDoor
open Go.RowKit
theorem below_alloc (w : World) (o : Obj) : Below w.heap.size w (w.alloc o) := (Below.refl _ w).alloc (Nat.le_refl _) o
theorem run_index_arr {P : Program} (t : TypeId) (m : Nat) (e : TypeId) (kd : IntKind) (ht : P.underlying t = some (.array m e)) (hu : P.underlying e = some (.int kd)) (he : (P.info? e).map (·.size) = some 1) (L : List UInt8) (k : Nat) (hl : L.length = m) (hk : k < L.length) (w : World) :
    (Instr.index t (.agg (L.map eB).toArray) (.int .i64 (k : Nat))).run P w = .ok (eB L[k]) w := by
  subst hl
  cases hq : P.info? e with
  | none => rw [hq] at he; cases he
  | some i =>
    have hs : i.size = 1 := by rw [hq] at he; simpa using he
    unfold Instr.index
    simp [asIntOf, Sem.run_bind, run_underlying ht, run_underlying hu, isAgg, Result.andThen, hk, sizeOf, typeInfo, hq, hs, part]
end Go.Proofs.YtjclfkbhakjdaaaDoor
namespace Go.Proofs.YtjclfkbhakjdaaaDoor
open Go.RowKit
def upd (D : Nat → Bool) (i : Nat) : Nat → Bool := fun j => if j = i then true else D j
theorem upd_same (D : Nat → Bool) (i : Nat) : upd D i i = true := by simp [upd]
theorem upd_other (D : Nat → Bool) {i j : Nat} (h : j ≠ i) : upd D i j = D j := by simp [upd, h]
theorem wpAny_inv {P : Program} {md : Region.Mode} {ops : Array Oper} {Q : Exit → Act → World → Prop} (I : (Nat → Bool) → Act → World → Prop)
    (hB : (ops.toList.zipIdx.all fun (o, i) => o.after.all fun e => decide (e.on < i)) = true)
    (hstep : ∀ (D : Nat → Bool) (a : Act) (w : World) (i : Nat) (o : Oper), ops[i]? = some o → D i = false → (o.after.all fun e => !Region.binds md e || D e.on) = true → I D a w →
      ∀ K : Act → World → Prop, (∀ a w, I (upd D i) a w → K a w) → if Region.wanted o (yielded ops a.tmps) = true then o.wp P a w K Q else K (a.put o.dst undef) w)
    (hend : ∀ D a w, (∀ i, i < ops.size → D i = true) → I D a w → Q .normal a w) :
    ∀ (fuel : Nat) (listed : Array Bool) (a : Act) (w : World), listed.size = ops.size → (listed.toList.filter (!·)).length = fuel → I (fun j => listed.getD j true) a w → wpAny P md ops Q fuel listed a w := by
 have hbe : ∀ (i : Nat) (o : Oper), ops[i]? = some o → ∀ e ∈ o.after, e.on < i := by
  intro i o ho e he
  have h1 := List.all_eq_true.1 hB (o, i) (by rw [List.mem_zipIdx_iff_getElem?]; simpa using ho)
  have h2 := Array.all_eq_true'.1 h1 e he
  simpa using h2
 intro fuel
 induction fuel with
 | zero =>
   intro listed a w hs hf hI
   have hall : ∀ i, i < ops.size → listed.getD i true = true := by
    intro i hi
    rw [List.length_eq_zero_iff, List.filter_eq_nil_iff] at hf
    have h1 := hf (listed[i]'(by omega)) (by simp)
    simp only [Array.getD_eq_getD_getElem?, Array.getElem?_eq_getElem (show i < listed.size by omega), Option.getD_some]
    simpa using h1
   refine ⟨?_, hend _ a w hall hI⟩
   rw [Region.ready, List.filter_eq_nil_iff]
   intro i hi
   rw [List.mem_range] at hi
   simp [hall i hi]
 | succ fuel ih =>
   intro listed a w hs hf hI
   refine ⟨fun hr => ?_, fun i hi => ?_⟩
   · exfalso
     have hne : ∃ i, i < ops.size ∧ listed.getD i true = false := by
      apply Classical.byContradiction
      intro hno
      have : (listed.toList.filter (!·)) = [] := by
       rw [List.filter_eq_nil_iff]
       intro b hb
       obtain ⟨i, hi, rfl⟩ := List.mem_iff_getElem.1 hb
       cases hbi : listed.toList[i] with
       | true => simp
       | false =>
         exfalso
         refine hno ⟨i, by simpa [hs] using hi, ?_⟩
         have hi2 : i < listed.size := by simpa using hi
         simp only [Array.getD_eq_getD_getElem?, Array.getElem?_eq_getElem hi2, Option.getD_some]
         simpa using hbi
      rw [this] at hf
      simp at hf
     have hmin : ∃ i, i < ops.size ∧ listed.getD i true = false ∧ ∀ j, j < i → listed.getD j true = true := by
      obtain ⟨i, h1, h2⟩ := hne
      induction i using Nat.strongRecOn with
      | ind i ihi =>
        by_cases hj : ∃ j, j < i ∧ listed.getD j true = false
        · obtain ⟨j, hj1, hj2⟩ := hj
          exact ihi j hj1 (by omega) hj2
        · refine ⟨i, h1, h2, fun j hj1 => ?_⟩
          cases hb : listed.getD j true with
          | true => rfl
          | false => exact absurd ⟨j, hj1, hb⟩ hj
     obtain ⟨i, h1, h2, h3⟩ := hmin
     rw [Region.ready, List.filter_eq_nil_iff] at hr
     have h4 := hr i (by rw [List.mem_range]; exact h1)
     apply h4
     have ho : ops[i]? = some ops[i] := Array.getElem?_eq_getElem h1
     simp only [h2, ho, Bool.not_false, Bool.true_and, Option.map_some, Option.getD_some]
     rw [Array.all_eq_true']
     intro e he
     have h5 := hbe i _ ho e he
     have h6 := h3 e.on h5
     have h7 : listed.getD e.on false = true := by
      have hlt : e.on < listed.size := by omega
      simp only [Array.getD_eq_getD_getElem?, Array.getElem?_eq_getElem hlt, Option.getD_some] at h6 ⊢
      exact h6
     rw [h7, Bool.or_true]
   · rw [Region.ready, List.mem_filter, List.mem_range] at hi
     obtain ⟨hlt, hcond⟩ := hi
     have ho : ops[i]? = some ops[i] := Array.getElem?_eq_getElem hlt
     simp only [ho, Option.map_some, Option.getD_some, Bool.and_eq_true, Bool.not_eq_true'] at hcond
     have hdep : (ops[i].after.all fun e => !Region.binds md e || (fun j => listed.getD j true) e.on) = true := by
      rw [Array.all_eq_true']
      intro e he
      have h5 := hbe i _ ho e he
      have h6 := Array.all_eq_true'.1 hcond.2 e he
      have hlt2 : e.on < listed.size := by omega
      simp only [Array.getD_eq_getD_getElem?, Array.getElem?_eq_getElem hlt2, Option.getD_some] at h6 ⊢
      exact h6
     have hst := hstep _ a w i _ ho hcond.1 hdep hI
     refine wpOp_step ho fun K hK => hst K fun a' w' hI' => hK a' w' ?_
     refine ih _ a' w' (by simp [hs]) ?_ ?_
     · have hil : i < listed.size := by omega
       have hli : listed[i] = false := by
        have := hcond.1
        simpa only [Array.getD_eq_getD_getElem?, Array.getElem?_eq_getElem hil, Option.getD_some] using this
       rw [Array.toList_setIfInBounds]
       have hcnt : ∀ (l : List Bool) (i : Nat), l[i]? = some false → ((l.set i true).filter (!·)).length + 1 = (l.filter (!·)).length := by
        intro l
        induction l with
        | nil => intro i h; simp at h
        | cons b l ihl =>
          intro i h
          cases i with
          | zero =>
            simp only [List.getElem?_cons_zero, Option.some.injEq] at h
            subst h
            simp
          | succ i =>
            simp only [List.getElem?_cons_succ] at h
            have := ihl i h
            cases b <;> simp [List.set_cons_succ] <;> omega
       have := hcnt listed.toList i (by simp [hil, hli])
       omega
     · have e : (fun j => (listed.setIfInBounds i true).getD j true) = upd (fun j => listed.getD j true) i := by
         funext j
         have hil : i < listed.size := by omega
         by_cases hj : j = i
         · subst hj
           simp [upd, Array.getD_eq_getD_getElem?, hil]
         · simp only [upd, if_neg hj, Array.getD_eq_getD_getElem?]
           rw [Array.getElem?_setIfInBounds_ne (by omega)]
       rw [e]
       exact hI'
end Go.Proofs.YtjclfkbhakjdaaaDoor
namespace Go.Proofs.YtjclfkbhakjdaaaDoor
open Go.RowKit
def DetOk (P : Program) (ops : Array Oper) (S : World → Prop) (A : Act) (o : Oper) : Prop :=
 ∀ w, S w → if Region.wanted o (yielded ops A.tmps) = true then o.wp P A w (fun a' w' => a' = A ∧ S w') (fun _ _ _ => False) else A.put o.dst undef = A
def detLook (md : Region.Mode) (ops : Array Oper) : Bool :=
 ops.toList.all fun o => (o.looksAt ops).all fun s => ops.toList.zipIdx.all fun (o', j) => o'.dst != some s || o.after.toList.any fun e => Region.binds md e && e.on == j
def detPlain (ops : Array Oper) : Bool := ops.toList.all fun o => match o.op with | .select _ _ => false | .defer _ => false | _ => true
theorem detLook_of {md : Region.Mode} {ops : Array Oper} (h : detLook md ops = true) {D : Nat → Bool} {i : Nat} {o : Oper} (ho : ops[i]? = some o) (hd : (o.after.all fun e => !Region.binds md e || D e.on) = true) {s : Tmp} (hs : s ∈ o.looksAt ops)
    {j : Nat} {o' : Oper} (hj : ops[j]? = some o') (hdst : o'.dst = some s) : D j = true := by
 have h1 := List.all_eq_true.1 h o (by have := Array.mem_of_getElem? ho; simpa using this)
 have h2 := List.all_eq_true.1 h1 s hs
 have h3 := List.all_eq_true.1 h2 (o', j) (by rw [List.mem_zipIdx_iff_getElem?]; simpa using hj)
 simp only [hdst, bne_self_eq_false, Bool.false_or] at h3
 obtain ⟨e, he, hb⟩ := List.any_eq_true.1 h3
 rw [Bool.and_eq_true] at hb
 have h4 := Array.all_eq_true'.1 hd e (by simpa using he)
 rw [hb.1, Bool.not_true, Bool.false_or] at h4
 rw [← eq_of_beq hb.2]
 exact h4
def putAll (a : Act) : List (Tmp × Value) → Act
  | [] => a
  | p :: l => putAll (a.put (some p.1) p.2) l
theorem putAll_size (l : List (Tmp × Value)) : ∀ a : Act, (putAll a l).tmps.size = a.tmps.size := by
 induction l with
 | nil => intro a; rfl
 | cons p l ih => intro a; rw [putAll, ih]; simp [Act.put]
theorem putAll_defers (l : List (Tmp × Value)) : ∀ a : Act, (putAll a l).defers = a.defers := by
 induction l with
 | nil => intro a; rfl
 | cons p l ih => intro a; rw [putAll, ih]; rfl
theorem putAll_other (l : List (Tmp × Value)) (s : Tmp) (hs : ∀ p ∈ l, p.1 ≠ s) : ∀ a : Act, (putAll a l).tmps[s]? = a.tmps[s]? := by
 induction l with
 | nil => intro a; rfl
 | cons p l ih =>
   intro a
   rw [putAll, ih (fun q hq => hs q (List.mem_cons_of_mem _ hq))]
   simp only [Act.put]
   rw [Array.getElem?_setIfInBounds_ne (hs p (List.mem_cons_self ..))]
def detAll (P : Program) (ops : Array Oper) (S : World → Prop) (A : Act) : List Oper → Prop
  | [] => True
  | o :: l => DetOk P ops S A o ∧ detAll P ops S A l
theorem detAll_of {P : Program} {ops : Array Oper} {S : World → Prop} {A : Act} {l : List Oper} (h : detAll P ops S A l) : ∀ o ∈ l, DetOk P ops S A o := by
 induction l with
 | nil => intro o ho; cases ho
 | cons p l ih =>
   intro o ho
   rcases List.mem_cons.1 ho with rfl | ho
   · exact h.1
   · exact ih h.2 o ho
def detVals (ops : Array Oper) (l : List (Tmp × Value)) : Bool := l.all fun p => ops.toList.any fun o => o.dst == some p.1
end Go.Proofs.YtjclfkbhakjdaaaDoor
