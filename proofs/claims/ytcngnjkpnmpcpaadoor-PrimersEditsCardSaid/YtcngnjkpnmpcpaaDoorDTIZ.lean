import Derived.Test.YtcngnjkpnmpcpaaDoorDTZ
import Derived.Test.YtcngnjkpnmpcpaaDoorRQZ
namespace Go.Proofs.YtcngnjkpnmpcpaaDoor
open Go.RowKit
def DetIn (F : Fence) (n : Nat) (P : Program) (ops : Array Oper) (A : Act) (w0 : World) (o : Oper) : Prop :=
 if Region.wanted o (yielded ops A.tmps) = true then o.wpIn F n P A w0 (fun a' w' => a' = A ∧ w' = w0) (fun _ _ _ => False) else o.about P w0 A.eval = none ∧ A.put o.dst undef = A
def detLookIn (ops : Array Oper) (c : Nat) : Bool :=
 (ops.toList.take c).all fun o => (o.looksAt ops).all fun s => ops.toList.zipIdx.all fun (o', j) => o'.dst != some s || o.after.toList.any fun e => Region.binds .any e && e.on == j
def detPlainIn (ops : Array Oper) (c : Nat) : Bool := (ops.toList.take c).all fun o => match o.op with | .select _ _ => false | .defer _ => false | _ => true
def detTail (ops : Array Oper) (c : Nat) : Bool :=
 (List.range (ops.size - 1)).all fun j => if j < c then (List.range (c + 1)).any fun k => decide (j < k) && ((ops[k]?).map fun o => o.after.toList.any fun e => Region.binds .any e && e.on == j).getD false
   else ((ops[j + 1]?).map fun o => o.after.toList.any fun e => Region.binds .any e && e.on == j).getD false
def detBack (ops : Array Oper) : Bool := ops.toList.zipIdx.all fun (o, i) => o.after.all fun e => decide (e.on < i)
theorem ready_iff {ops : Array Oper} {listed : Array Bool} {i : Nat} (hs : listed.size = ops.size) (hB : detBack ops = true) : i ∈ Region.ready .any ops listed ↔ ∃ o, ops[i]? = some o ∧ listed.getD i true = false ∧ (o.after.all fun e => !Region.binds .any e || listed.getD e.on true) = true := by
 rw [Region.ready, List.mem_filter, List.mem_range]
 have hbe : ∀ (o : Oper), ops[i]? = some o → ∀ e ∈ o.after, e.on < i := by
  intro o ho e he
  have h1 := List.all_eq_true.1 hB (o, i) (by rw [List.mem_zipIdx_iff_getElem?]; simpa using ho)
  have h2 := Array.all_eq_true'.1 h1 e he
  simpa using h2
 have hsame : ∀ (o : Oper), ops[i]? = some o → i < ops.size → (o.after.all fun e => !Region.binds .any e || listed.getD e.on false) = (o.after.all fun e => !Region.binds .any e || listed.getD e.on true) := by
  intro o ho hi
  rw [Bool.eq_iff_iff, Array.all_eq_true', Array.all_eq_true']
  have hg : ∀ e ∈ o.after, listed.getD e.on false = listed.getD e.on true := fun e he => by
   have := hbe o ho e he
   simp only [Array.getD_eq_getD_getElem?, Array.getElem?_eq_getElem (show e.on < listed.size by omega), Option.getD_some]
  exact ⟨fun h e he => by rw [← hg e he]; exact h e he, fun h e he => by rw [hg e he]; exact h e he⟩
 constructor
 · rintro ⟨hlt, hc⟩
   have ho : ops[i]? = some ops[i] := Array.getElem?_eq_getElem hlt
   simp only [ho, Option.map_some, Option.getD_some, Bool.and_eq_true, Bool.not_eq_true'] at hc
   exact ⟨_, ho, hc.1, by rw [← hsame _ ho hlt]; exact hc.2⟩
 · rintro ⟨o, ho, h1, h2⟩
   have hlt : i < ops.size := (Array.getElem?_eq_some_iff.1 ho).1
   refine ⟨hlt, ?_⟩
   simp only [ho, Option.map_some, Option.getD_some, Bool.and_eq_true, Bool.not_eq_true']
   exact ⟨h1, by rw [hsame _ ho hlt]; exact h2⟩
theorem ready_min {ops : Array Oper} {listed : Array Bool} (hs : listed.size = ops.size) (hB : detBack ops = true) {i : Nat} (hi : i < ops.size) (h1 : listed.getD i true = false) (h2 : ∀ j, j < i → listed.getD j true = true) : i ∈ Region.ready .any ops listed := by
 rw [ready_iff hs hB]
 have ho : ops[i]? = some ops[i] := Array.getElem?_eq_getElem hi
 refine ⟨_, ho, h1, ?_⟩
 rw [Array.all_eq_true']
 intro e he
 have h3 := List.all_eq_true.1 hB (ops[i], i) (by rw [List.mem_zipIdx_iff_getElem?]; simp)
 have h4 := Array.all_eq_true'.1 h3 e he
 rw [h2 e.on (by simpa using h4), Bool.or_true]
theorem ready_some {ops : Array Oper} {listed : Array Bool} (hs : listed.size = ops.size) (hB : detBack ops = true) {i : Nat} (hi : i < ops.size) (h1 : listed.getD i true = false) : Region.ready .any ops listed ≠ [] := by
 have : ∃ k, k < ops.size ∧ listed.getD k true = false ∧ ∀ j, j < k → listed.getD j true = true := by
  induction i using Nat.strongRecOn with
  | ind i ih =>
    by_cases hj : ∃ j, j < i ∧ listed.getD j true = false
    · obtain ⟨j, hj1, hj2⟩ := hj
      exact ih j hj1 (by omega) hj2
    · refine ⟨i, hi, h1, fun j hj1 => ?_⟩
      cases hb : listed.getD j true with
      | true => rfl
      | false => exact absurd ⟨j, hj1, hb⟩ hj
 obtain ⟨k, h2, h3, h4⟩ := this
 intro e
 have := ready_min hs hB h2 h3 h4
 rw [e] at this
 cases this
theorem getD_set {listed : Array Bool} {i : Nat} (hi : i < listed.size) (j : Nat) : (listed.setIfInBounds i true).getD j true = if j = i then true else listed.getD j true := by
 by_cases h : j = i
 · subst h
   simp [Array.getD_eq_getD_getElem?, hi]
 · rw [if_neg h]
   simp only [Array.getD_eq_getD_getElem?]
   rw [Array.getElem?_setIfInBounds_ne (by omega)]
section
variable {F : Fence} {n : Nat} {P : Program} {ops : Array Oper} {Q : Exit → Act → World → Prop}
theorem wpAnyIn_seq (hB : detBack ops = true) {c : Nat} (hT : detTail ops c = true) : ∀ (fuel i : Nat) (listed : Array Bool) (a : Act) (w : World), listed.size = ops.size → c ≤ i → i + fuel = ops.size → (∀ j, j < i → listed.getD j true = true) → (∀ j, i ≤ j → j < ops.size → listed.getD j true = false) →
    wpListIn F n P ops Q (ops.toList.drop i) a w → wpAnyIn F n P .any ops Q fuel listed a w := by
  intro fuel
  induction fuel with
  | zero =>
    intro i listed a w hs hc hf hd hu h
    rw [List.drop_eq_nil_of_le (by simp; omega)] at h
    refine ⟨?_, h⟩
    rw [List.eq_nil_iff_forall_not_mem]
    intro k hk
    obtain ⟨o, ho, h1, -⟩ := (ready_iff hs hB).1 hk
    have hlt : k < ops.size := (Array.getElem?_eq_some_iff.1 ho).1
    rw [hd k (by omega)] at h1
    cases h1
  | succ fuel ih =>
    intro i listed a w hs hc hf hd hu h
    refine ⟨fun hr => absurd hr (ready_some hs hB (i := i) (by omega) (hu i (Nat.le_refl _) (by omega))), fun k hk => ?_⟩
    obtain ⟨o, ho, h1, h2⟩ := (ready_iff hs hB).1 hk
    have hlt : k < ops.size := (Array.getElem?_eq_some_iff.1 ho).1
    have hki : k = i := by
     apply Classical.byContradiction
     intro hne
     have hik : i < k := by
      apply Classical.byContradiction
      intro h3
      rw [hd k (by omega)] at h1
      cases h1
     have ht := List.all_eq_true.1 hT (k - 1) (by rw [List.mem_range]; omega)
     rw [if_neg (by omega), show k - 1 + 1 = k by omega, ho] at ht
     simp only [Option.map_some, Option.getD_some] at ht
     obtain ⟨e, he, hb⟩ := List.any_eq_true.1 ht
     rw [Bool.and_eq_true] at hb
     have h4 := Array.all_eq_true'.1 h2 e (by simpa using he)
     rw [hb.1, Bool.not_true, Bool.false_or, eq_of_beq hb.2, hu (k - 1) (by omega) (by omega)] at h4
     cases h4
    subst hki
    rw [show ops.toList.drop k = o :: ops.toList.drop (k + 1) from by
     rw [List.drop_eq_getElem_cons (by simpa using hlt)]
     congr 1
     have := (Array.getElem?_eq_some_iff.1 ho).2
     simpa using this] at h
    have hnext : ∀ a w, wpListIn F n P ops Q (ops.toList.drop (k + 1)) a w → wpAnyIn F n P .any ops Q fuel (listed.setIfInBounds k true) a w := fun a w h' =>
     ih (k + 1) _ a w (by simp [hs]) (by omega) (by omega) (fun j hj => by
      rw [getD_set (by omega)]
      by_cases e : j = k
      · rw [if_pos e]
      · rw [if_neg e]; exact hd j (by omega)) (fun j hj hj2 => by
      rw [getD_set (by omega), if_neg (by omega)]; exact hu j (by omega) hj2) h'
    refine wpOpIn_step ho fun K hK => ?_
    simp only [wpListIn] at h
    split at h
    · rename_i hw
      rw [if_pos hw]
      exact Oper.wpIn_mono (fun a w h' => hK a w (hnext a w h')) h
    · rename_i hw
      rw [if_neg hw]
      exact ⟨h.1, hK _ _ (hnext _ _ h.2)⟩
theorem hcnt : ∀ (l : List Bool) (i : Nat), l[i]? = some false → ((l.set i true).filter (!·)).length + 1 = (l.filter (!·)).length := by
 intro l
 induction l with
 | nil => intro i h; simp at h
 | cons b l ihl =>
   intro i h
   cases i with
   | zero =>
     simp only [List.getElem?_cons_zero, Option.some.injEq] at h
     subst h
     simp
   | succ i =>
     simp only [List.getElem?_cons_succ] at h
     have := ihl i h
     cases b <;> simp [List.set_cons_succ] <;> omega
theorem wpAnyIn_det {c : Nat} {A : Act} {w0 : World} (hc : c < ops.size) (hB : detBack ops = true) (hT : detTail ops c = true) (hL : detLookIn ops c = true) (hP : detPlainIn ops c = true)
    (hok : ∀ (i : Nat) (o : Oper), i < c → ops[i]? = some o → DetIn F n P ops A w0 o) (htail : wpListIn F n P ops Q (ops.toList.drop c) A w0) :
    ∀ (fuel : Nat) (listed : Array Bool) (a : Act), listed.size = ops.size → (listed.toList.filter (!·)).length = fuel → (∀ j, c ≤ j → j < ops.size → listed.getD j true = false) →
      (∀ (i : Nat) (o : Oper), ops[i]? = some o → listed.getD i true = true → ∀ e ∈ o.after, Region.binds .any e = true → listed.getD e.on true = true) →
      a.defers = A.defers → a.tmps.size = A.tmps.size → (∀ s : Tmp, (∀ (i : Nat) (o : Oper), i < c → ops[i]? = some o → o.dst = some s → listed.getD i true = true) → a.tmps[s]? = A.tmps[s]?) →
      wpAnyIn F n P .any ops Q fuel listed a w0 := by
 intro fuel
 induction fuel with
 | zero =>
   intro listed a hs hf hu _ _ _ _
   exfalso
   have h1 := hu c (Nat.le_refl _) hc
   rw [List.length_eq_zero_iff, List.filter_eq_nil_iff] at hf
   have h2 := hf (listed[c]'(by omega)) (by simp)
   simp only [Array.getD_eq_getD_getElem?, Array.getElem?_eq_getElem (show c < listed.size by omega), Option.getD_some] at h1
   rw [h1] at h2
   simp at h2
 | succ fuel ih =>
   intro listed a hs hf hu hcl hdf hsz hag
   by_cases hall : ∀ j, j < c → listed.getD j true = true
   · have haA : a = A := by
       have hall' : ∀ s, a.tmps[s]? = A.tmps[s]? := fun s => hag s fun i o hi _ _ => hall i hi
       cases a
       cases A
       simp only at hdf hall'
       subst hdf
       congr 1
       exact Array.ext_getElem? hall'
     subst haA
     have hlen : c + (fuel + 1) = ops.size := by
      have hl : listed.toList = List.replicate c true ++ List.replicate (ops.size - c) false := by
       apply List.ext_getElem
       · simp; omega
       · intro j h1 h2
         have hj : j < listed.size := by simpa using h1
         by_cases hjc : j < c
         · have := hall j hjc
           simp only [Array.getD_eq_getD_getElem?, Array.getElem?_eq_getElem hj, Option.getD_some] at this
           rw [List.getElem_append_left (by simpa using hjc)]
           simpa using this
         · have := hu j (by omega) (by omega)
           simp only [Array.getD_eq_getD_getElem?, Array.getElem?_eq_getElem hj, Option.getD_some] at this
           rw [List.getElem_append_right (by simp; omega)]
           simpa using this
      rw [hl, List.filter_append] at hf
      simp at hf
      omega
     exact wpAnyIn_seq hB hT (fuel + 1) c listed a w0 hs (Nat.le_refl _) hlen hall hu htail
   · obtain ⟨m, hm⟩ := Classical.not_forall.1 hall
     obtain ⟨hmc, hm1⟩ := Classical.not_imp.1 hm
     have hm1 : listed.getD m true = false := by simpa using hm1
     refine ⟨fun hr => absurd hr (ready_some hs hB (i := m) (by omega) hm1), fun i hi => ?_⟩
     obtain ⟨o, ho, h1, h2⟩ := (ready_iff hs hB).1 hi
     have hlt : i < ops.size := (Array.getElem?_eq_some_iff.1 ho).1
     have hdep : ∀ e ∈ o.after, Region.binds .any e = true → listed.getD e.on true = true := by
      intro e he hb
      have h4 := Array.all_eq_true'.1 h2 e he
      rw [hb, Bool.not_true, Bool.false_or] at h4
      exact h4
     have hic : i < c := by
      apply Classical.byContradiction
      intro hni
      by_cases hgt : c < i
      · have ht := List.all_eq_true.1 hT (i - 1) (by rw [List.mem_range]; omega)
        rw [if_neg (by omega), show i - 1 + 1 = i by omega, ho] at ht
        simp only [Option.map_some, Option.getD_some] at ht
        obtain ⟨e, he, hb⟩ := List.any_eq_true.1 ht
        rw [Bool.and_eq_true] at hb
        have := hdep e (by simpa using he) hb.1
        rw [eq_of_beq hb.2, hu (i - 1) (by omega) (by omega)] at this
        cases this
      · obtain rfl : i = c := by omega
        refine hall fun j hj => ?_
        -- from the greatest down
        have hdown : ∀ d j, j < i → i - j = d → listed.getD j true = true := by
         intro d
         induction d using Nat.strongRecOn with
         | ind d ihd =>
           intro j hj hd
           have ht := List.all_eq_true.1 hT j (by rw [List.mem_range]; omega)
           rw [if_pos hj] at ht
           obtain ⟨k, hk, hkk⟩ := List.any_eq_true.1 ht
           rw [List.mem_range] at hk
           rw [Bool.and_eq_true] at hkk
           have hjk : j < k := of_decide_eq_true hkk.1
           cases hok' : ops[k]? with
           | none => rw [hok'] at hkk; simp at hkk
           | some ok =>
             rw [hok'] at hkk
             simp only [Option.map_some, Option.getD_some] at hkk
             obtain ⟨e, he, hb⟩ := List.any_eq_true.1 hkk.2
             rw [Bool.and_eq_true] at hb
             have hej : e.on = j := eq_of_beq hb.2
             by_cases hki : k = i
             · subst hki
               rw [ho] at hok'
               cases hok'
               have := hdep e (by simpa using he) hb.1
               rwa [hej] at this
             · have hkd := ihd (i - k) (by omega) k (by omega) rfl
               have := hcl k ok hok' hkd e (by simpa using he) hb.1
               rwa [hej] at this
        exact hdown _ j hj rfl
     -- one of the first c
     have hlook : ∀ s ∈ o.looksAt ops, a.tmps[s]? = A.tmps[s]? := fun s hs' => hag s fun j o' hj hoj hdst => by
      have h1 := List.all_eq_true.1 hL o (by
       rw [List.mem_take_iff_getElem]
       exact ⟨i, by simp; omega, by have := (Array.getElem?_eq_some_iff.1 ho).2; simpa using this⟩)
      have h2 := List.all_eq_true.1 h1 s hs'
      have h3 := List.all_eq_true.1 h2 (o', j) (by rw [List.mem_zipIdx_iff_getElem?]; simpa using hoj)
      simp only [hdst, bne_self_eq_false, Bool.false_or] at h3
      obtain ⟨e, he, hb⟩ := List.any_eq_true.1 h3
      rw [Bool.and_eq_true] at hb
      have := hdep e (by simpa using he) hb.1
      rwa [eq_of_beq hb.2] at this
     have hpl := List.all_eq_true.1 hP o (by
         rw [List.mem_take_iff_getElem]
         exact ⟨i, by simp; omega, by have := (Array.getElem?_eq_some_iff.1 ho).2; simpa using this⟩)
     have hop : ∀ x ∈ o.op.operands, a.eval x = A.eval x := fun x hx => by
      cases x with
      | tmp s =>
        have := hlook s (List.mem_append_left _ (List.mem_filterMap.2 ⟨.tmp s, by simpa using hx, rfl⟩))
        simp only [Act.eval, Array.getD_eq_getD_getElem?, this]
      | const v => rfl
      | global g => rfl
      | func f => rfl
     have hex : execOp a.eval o = execOp A.eval o := execOp_congr o (fun cs b e => by rw [e] at hpl; cases hpl) hop
     have hab : o.about P w0 a.eval = o.about P w0 A.eval := about_congr o w0 hop
     have hwt : Region.wanted o (yielded ops a.tmps) = Region.wanted o (yielded ops A.tmps) := by
      unfold Region.wanted
      cases hg : o.guard with
      | none => rfl
      | some gw =>
        obtain ⟨g, want⟩ := gw
        have : yielded ops a.tmps g = yielded ops A.tmps g := by
         unfold yielded
         cases hdst : (ops[g]?).bind (·.dst) with
         | none => rfl
         | some s =>
           have := hlook s (List.mem_append_right _ (by rw [hg]; simp [hdst]))
           simp only [Option.bind_some, this]
        simp only [this]
     have hnext : ∀ v, A.put o.dst v = A → wpAnyIn F n P .any ops Q fuel (listed.setIfInBounds i true) (a.put o.dst v) w0 := by
      intro v hv
      refine ih _ _ (by simp [hs]) ?_ ?_ ?_ ?_ ?_ ?_
      · have hli : listed.toList[i]? = some false := by
          have hil : i < listed.size := by omega
          simp only [Array.getD_eq_getD_getElem?, Array.getElem?_eq_getElem hil, Option.getD_some] at h1
          simp [hil, h1]
        have := hcnt listed.toList i hli
        rw [Array.toList_setIfInBounds]
        omega
      · intro j hj hj2
        rw [getD_set (by omega), if_neg (by omega)]
        exact hu j hj hj2
      · intro k ok hk hkd e he hb
        rw [getD_set (by omega)] at hkd ⊢
        by_cases hee : e.on = i
        · rw [if_pos hee]
        · rw [if_neg hee]
          by_cases hki : k = i
          · subst hki
            rw [ho] at hk
            cases hk
            exact hdep e he hb
          · rw [if_neg hki] at hkd
            exact hcl k ok hk hkd e he hb
      · cases hd : o.dst <;> simpa [Act.put] using hdf
      · cases hd : o.dst <;> simpa [Act.put] using hsz
      · intro s hs'
        cases hd : o.dst with
        | none =>
          refine hag s fun j o' hjc hj hdst => ?_
          have := hs' j o' hjc hj hdst
          rw [getD_set (by omega)] at this
          by_cases e : j = i
          · subst e; rw [ho] at hj; cases hj; rw [hd] at hdst; cases hdst
          · rwa [if_neg e] at this
        | some d =>
          rw [hd] at hv
          by_cases e : d = s
          · subst e
            have h1 := congrArg (fun x : Act => x.tmps[d]?) hv
            simp only [Act.put] at h1 ⊢
            by_cases hlt : d < A.tmps.size
            · rw [Array.getElem?_setIfInBounds_self_of_lt hlt] at h1
              rw [Array.getElem?_setIfInBounds_self_of_lt (hsz ▸ hlt), h1]
            · have hle : A.tmps.size ≤ d := Nat.le_of_not_lt hlt
              rw [Array.getElem?_eq_none (by rw [Array.size_setIfInBounds, hsz]; exact hle), Array.getElem?_eq_none hle]
          · simp only [Act.put]
            rw [Array.getElem?_setIfInBounds_ne e]
            refine hag s fun j o' hjc hj hdst => ?_
            have := hs' j o' hjc hj hdst
            rw [getD_set (by omega)] at this
            by_cases e' : j = i
            · subst e'; rw [ho] at hj; cases hj; rw [hd] at hdst; cases hdst; exact absurd rfl e
            · rwa [if_neg e'] at this
     have h := hok i o hic ho
     unfold DetIn at h
     refine wpOpIn_step ho fun K hK => ?_
     rw [hwt, hab]
     split
     · rename_i hw
       rw [if_pos hw] at h
       unfold Oper.wpIn at h ⊢
       rw [hab]
       refine ⟨h.1, ?_⟩
       have h := h.2
       have hnd : ∀ d, o.op ≠ .defer d := fun d e => by rw [e] at hpl; cases hpl
       rw [Oper.semAt_plain F _ _ hnd] at h ⊢
       rw [hex]
       generalize (execOp A.eval o).run P w0 = r at *
       cases r with
       | ok x w' =>
         cases x <;> simp only [Oper.uponIn] at h ⊢
         case value v => obtain ⟨h3, rfl⟩ := h; exact hK _ _ (hnext v h3)
         case skip => obtain ⟨h3, rfl⟩ := h; exact hK _ _ (hnext undef h3)
         case defer d =>
          have e := congrArg Act.defers h.1
          exfalso
          cases hd : o.dst <;> simp only [hd, Act.put] at e <;> exact absurd (congrArg List.length e) (by simp)
         case enter f args =>
          refine ⟨h.1, CallsIn.mono h.2 fun e w'' he => ?_⟩
          cases e with
          | returned v => obtain ⟨h3, rfl⟩ := he; exact hK _ _ (hnext v h3)
          | panicked ch => exact he.elim
          | outgrown => obtain ⟨_, _, he⟩ := he; exact he.elim
         case row row args => exact ⟨h.1, RowsIn.mono h.2 fun v w'' he => by obtain ⟨h3, rfl⟩ := he; exact hK _ _ (hnext v h3)⟩
         all_goals exact ⟨h.1, RoundIn.mono h.2 (fun e w'' he => by cases e <;> first | (obtain ⟨h3, rfl⟩ := he; exact hK _ _ (hnext _ h3)) | exact he.elim | (obtain ⟨_, _, he⟩ := he; exact he.elim))⟩
       | halt x w' => cases x <;> simp only [Oper.uponIn] at h <;> first | exact h.elim | exact False.elim (by simpa [LetsOut] using h) | skip
     · rename_i hw
       rw [if_neg hw] at h
       exact ⟨fun f hf => (by rw [h.1] at hf; cases hf), hK _ _ (hnext undef h.2)⟩
def detAllIn (F : Fence) (n : Nat) (P : Program) (ops : Array Oper) (A : Act) (w0 : World) : List Oper → Prop
  | [] => True
  | o :: l => DetIn F n P ops A w0 o ∧ detAllIn F n P ops A w0 l
theorem detAllIn_of {A : Act} {w0 : World} {l : List Oper} (h : detAllIn F n P ops A w0 l) : ∀ o ∈ l, DetIn F n P ops A w0 o := by
 induction l with
 | nil => intro o ho; cases ho
 | cons p l ih =>
   intro o ho
   rcases List.mem_cons.1 ho with rfl | ho
   · exact h.1
   · exact ih h.2 o ho
def detValsIn (ops : Array Oper) (c : Nat) (l : List (Tmp × Value)) : Bool := l.all fun p => (ops.toList.take c).any fun o => o.dst == some p.1
theorem wpIn_region_det {id : Nat} {a : Act} {w : World} (c : Nat) (vals : List (Tmp × Value)) (hm : P.follows .mixedOrders = true) (hc : c < ops.size)
    (hB : detBack ops = true) (hT : detTail ops c = true) (hL : detLookIn ops c = true) (hP : detPlainIn ops c = true) (hV : detValsIn ops c vals = true)
    (hok : ∀ A, A = putAll a vals → detAllIn F n P ops A w.drew (ops.toList.take c)) (htail : ∀ A, A = putAll a vals → wpListIn F n P ops Q (ops.toList.drop c) A w.drew) : (Code.region id ops true).wpIn F n P Q a w := by
 refine wpIn_region_any hm (wpAnyIn_det (w0 := w.drew) (A := putAll a vals) hc hB hT hL hP (fun i o hi ho => ?_) (htail _ rfl) _ _ a (by simp) (by simp) ?_ ?_ (putAll_defers _ _).symm (putAll_size _ _).symm (fun s hs => ?_))
 · refine detAllIn_of (hok _ rfl) o ?_
   rw [List.mem_take_iff_getElem]
   have hlt : i < ops.size := (Array.getElem?_eq_some_iff.1 ho).1
   exact ⟨i, by simp; omega, by have := (Array.getElem?_eq_some_iff.1 ho).2; simpa using this⟩
 · intro j _ hj2
   simp [Array.getD_eq_getD_getElem?, hj2]
 · intro i o ho hi
   have hlt : i < ops.size := (Array.getElem?_eq_some_iff.1 ho).1
   simp [Array.getD_eq_getD_getElem?, hlt] at hi
 · refine (putAll_other vals s (fun p hp e => ?_) a).symm
   have h1 := List.all_eq_true.1 hV p hp
   obtain ⟨o, ho, hd⟩ := List.any_eq_true.1 h1
   rw [List.mem_take_iff_getElem] at ho
   obtain ⟨i, hi, rfl⟩ := ho
   have hi2 : i < ops.size := by simp at hi; omega
   have hic : i < c := by omega
   have := hs i ops[i] hic (Array.getElem?_eq_getElem hi2) (by
    have := eq_of_beq hd
    rw [e] at this
    simpa using this)
   simp [Array.getD_eq_getD_getElem?, hi2] at this
end
end Go.Proofs.YtcngnjkpnmpcpaaDoor
