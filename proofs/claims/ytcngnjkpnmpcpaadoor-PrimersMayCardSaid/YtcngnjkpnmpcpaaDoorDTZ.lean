import Derived.Test.YtcngnjkpnmpcpaaDoorIVZ
namespace Go.Proofs.YtcngnjkpnmpcpaaDoor
open Go.RowKit
def detLook (md : Region.Mode) (ops : Array Oper) : Bool :=
 ops.toList.all fun o => (o.looksAt ops).all fun s => ops.toList.zipIdx.all fun (o', j) => o'.dst != some s || o.after.toList.any fun e => Region.binds md e && e.on == j
def detPlain (ops : Array Oper) : Bool := ops.toList.all fun o => match o.op with | .select _ _ => false | .defer _ => false | _ => true
theorem detLook_of {md : Region.Mode} {ops : Array Oper} (h : detLook md ops = true) {D : Nat → Bool} {i : Nat} {o : Oper} (ho : ops[i]? = some o) (hd : (o.after.all fun e => !Region.binds md e || D e.on) = true) {s : Tmp} (hs : s ∈ o.looksAt ops)
    {j : Nat} {o' : Oper} (hj : ops[j]? = some o') (hdst : o'.dst = some s) : D j = true := by
 have h1 := List.all_eq_true.1 h o (by have := Array.mem_of_getElem? ho; simpa using this)
 have h2 := List.all_eq_true.1 h1 s hs
 have h3 := List.all_eq_true.1 h2 (o', j) (by rw [List.mem_zipIdx_iff_getElem?]; simpa using hj)
 simp only [hdst, bne_self_eq_false, Bool.false_or] at h3
 obtain ⟨e, he, hb⟩ := List.any_eq_true.1 h3
 rw [Bool.and_eq_true] at hb
 have h4 := Array.all_eq_true'.1 hd e (by simpa using he)
 rw [hb.1, Bool.not_true, Bool.false_or] at h4
 rw [← eq_of_beq hb.2]
 exact h4
def putAll (a : Act) : List (Tmp × Value) → Act
  | [] => a
  | p :: l => putAll (a.put (some p.1) p.2) l
theorem putAll_size (l : List (Tmp × Value)) : ∀ a : Act, (putAll a l).tmps.size = a.tmps.size := by
 induction l with
 | nil => intro a; rfl
 | cons p l ih => intro a; rw [putAll, ih]; simp [Act.put]
theorem putAll_defers (l : List (Tmp × Value)) : ∀ a : Act, (putAll a l).defers = a.defers := by
 induction l with
 | nil => intro a; rfl
 | cons p l ih => intro a; rw [putAll, ih]; rfl
theorem putAll_other (l : List (Tmp × Value)) (s : Tmp) (hs : ∀ p ∈ l, p.1 ≠ s) : ∀ a : Act, (putAll a l).tmps[s]? = a.tmps[s]? := by
 induction l with
 | nil => intro a; rfl
 | cons p l ih =>
   intro a
   rw [putAll, ih (fun q hq => hs q (List.mem_cons_of_mem _ hq))]
   simp only [Act.put]
   rw [Array.getElem?_setIfInBounds_ne (hs p (List.mem_cons_self ..))]
def detVals (ops : Array Oper) (l : List (Tmp × Value)) : Bool := l.all fun p => ops.toList.any fun o => o.dst == some p.1
end Go.Proofs.YtcngnjkpnmpcpaaDoor
