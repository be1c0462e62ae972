import Derived.Test.YtjclfkbhakjdaaaDoorGCY
namespace Go.Proofs.YtjclfkbhakjdaaaDoor
open Go.RowKit Go.Shelf
theorem wpAny_invB {P : Program} {md : Region.Mode} {ops : Array Oper} {Q : Exit → Act → World → Prop} (I : (Nat → Bool) → Act → World → Prop)
    (hB : (ops.toList.zipIdx.all fun (o, i) => o.after.all fun e => !Region.binds md e || decide (e.on < i)) = true)
    (hstep : ∀ (D : Nat → Bool) (a : Act) (w : World) (i : Nat) (o : Oper), ops[i]? = some o → D i = false → (o.after.all fun e => !Region.binds md e || D e.on) = true → I D a w →
      ∀ K : Act → World → Prop, (∀ a w, I (upd D i) a w → K a w) → if Region.wanted o (yielded ops a.tmps) = true then o.wp P a w K Q else K (a.put o.dst undef) w)
    (hend : ∀ D a w, (∀ i, i < ops.size → D i = true) → I D a w → Q .normal a w) :
    ∀ (fuel : Nat) (listed : Array Bool) (a : Act) (w : World), listed.size = ops.size → (listed.toList.filter (!·)).length = fuel → I (fun j => listed.getD j true) a w → wpAny P md ops Q fuel listed a w := by
 have hbe : ∀ (i : Nat) (o : Oper), ops[i]? = some o → ∀ e ∈ o.after, Region.binds md e = true → e.on < i := by
  intro i o ho e he hbd
  have h1 := List.all_eq_true.1 hB (o, i) (by rw [List.mem_zipIdx_iff_getElem?]; simpa using ho)
  have h2 := Array.all_eq_true'.1 h1 e he
  rw [hbd] at h2
  simpa using h2
 intro fuel
 induction fuel with
 | zero =>
   intro listed a w hs hf hI
   have hall : ∀ i, i < ops.size → listed.getD i true = true := by
    intro i hi
    rw [List.length_eq_zero_iff, List.filter_eq_nil_iff] at hf
    have h1 := hf (listed[i]'(by omega)) (by simp)
    simp only [Array.getD_eq_getD_getElem?, Array.getElem?_eq_getElem (show i < listed.size by omega), Option.getD_some]
    simpa using h1
   refine ⟨?_, hend _ a w hall hI⟩
   rw [Region.ready, List.filter_eq_nil_iff]
   intro i hi
   rw [List.mem_range] at hi
   simp [hall i hi]
 | succ fuel ih =>
   intro listed a w hs hf hI
   refine ⟨fun hr => ?_, fun i hi => ?_⟩
   · exfalso
     have hne : ∃ i, i < ops.size ∧ listed.getD i true = false := by
      apply Classical.byContradiction
      intro hno
      have : (listed.toList.filter (!·)) = [] := by
       rw [List.filter_eq_nil_iff]
       intro b hb
       obtain ⟨i, hi, rfl⟩ := List.mem_iff_getElem.1 hb
       cases hbi : listed.toList[i] with
       | true => simp
       | false =>
         exfalso
         refine hno ⟨i, by simpa [hs] using hi, ?_⟩
         have hi2 : i < listed.size := by simpa using hi
         simp only [Array.getD_eq_getD_getElem?, Array.getElem?_eq_getElem hi2, Option.getD_some]
         simpa using hbi
      rw [this] at hf
      simp at hf
     have hmin : ∃ i, i < ops.size ∧ listed.getD i true = false ∧ ∀ j, j < i → listed.getD j true = true := by
      obtain ⟨i, h1, h2⟩ := hne
      induction i using Nat.strongRecOn with
      | ind i ihi =>
        by_cases hj : ∃ j, j < i ∧ listed.getD j true = false
        · obtain ⟨j, hj1, hj2⟩ := hj
          exact ihi j hj1 (by omega) hj2
        · refine ⟨i, h1, h2, fun j hj1 => ?_⟩
          cases hb : listed.getD j true with
          | true => rfl
          | false => exact absurd ⟨j, hj1, hb⟩ hj
     obtain ⟨i, h1, h2, h3⟩ := hmin
     rw [Region.ready, List.filter_eq_nil_iff] at hr
     have h4 := hr i (by rw [List.mem_range]; exact h1)
     apply h4
     have ho : ops[i]? = some ops[i] := Array.getElem?_eq_getElem h1
     simp only [h2, ho, Bool.not_false, Bool.true_and, Option.map_some, Option.getD_some]
     rw [Array.all_eq_true']
     intro e he
     cases hbd : Region.binds md e with
     | false => rfl
     | true =>
     have h5 := hbe i _ ho e he hbd
     have h6 := h3 e.on h5
     have h7 : listed.getD e.on false = true := by
      have hlt : e.on < listed.size := by omega
      simp only [Array.getD_eq_getD_getElem?, Array.getElem?_eq_getElem hlt, Option.getD_some] at h6 ⊢
      exact h6
     rw [h7, Bool.or_true]
   · rw [Region.ready, List.mem_filter, List.mem_range] at hi
     obtain ⟨hlt, hcond⟩ := hi
     have ho : ops[i]? = some ops[i] := Array.getElem?_eq_getElem hlt
     simp only [ho, Option.map_some, Option.getD_some, Bool.and_eq_true, Bool.not_eq_true'] at hcond
     have hdep : (ops[i].after.all fun e => !Region.binds md e || (fun j => listed.getD j true) e.on) = true := by
      rw [Array.all_eq_true']
      intro e he
      cases hbd : Region.binds md e with
      | false => rfl
      | true =>
      have h5 := hbe i _ ho e he hbd
      have h6 := Array.all_eq_true'.1 hcond.2 e he
      rw [hbd] at h6
      have hlt2 : e.on < listed.size := by omega
      simp only [Array.getD_eq_getD_getElem?, Array.getElem?_eq_getElem hlt2, Option.getD_some] at h6 ⊢
      exact h6
     have hst := hstep _ a w i _ ho hcond.1 hdep hI
     refine wpOp_step ho fun K hK => hst K fun a' w' hI' => hK a' w' ?_
     refine ih _ a' w' (by simp [hs]) ?_ ?_
     · have hil : i < listed.size := by omega
       have hli : listed[i] = false := by
        have := hcond.1
        simpa only [Array.getD_eq_getD_getElem?, Array.getElem?_eq_getElem hil, Option.getD_some] using this
       rw [Array.toList_setIfInBounds]
       have hcnt : ∀ (l : List Bool) (i : Nat), l[i]? = some false → ((l.set i true).filter (!·)).length + 1 = (l.filter (!·)).length := by
        intro l
        induction l with
        | nil => intro i h; simp at h
        | cons b l ihl =>
          intro i h
          cases i with
          | zero =>
            simp only [List.getElem?_cons_zero, Option.some.injEq] at h
            subst h
            simp
          | succ i =>
            simp only [List.getElem?_cons_succ] at h
            have := ihl i h
            cases b <;> simp [List.set_cons_succ] <;> omega
       have := hcnt listed.toList i (by simp [hil, hli])
       omega
     · have e : (fun j => (listed.setIfInBounds i true).getD j true) = upd (fun j => listed.getD j true) i := by
         funext j
         have hil : i < listed.size := by omega
         by_cases hj : j = i
         · subst hj
           simp [upd, Array.getD_eq_getD_getElem?, hil]
         · simp only [upd, if_neg hj, Array.getD_eq_getD_getElem?]
           rw [Array.getElem?_setIfInBounds_ne (by omega)]
       rw [e]
       exact hI'
theorem wpAny_detB {P : Program} {md : Region.Mode} {ops : Array Oper} {Q : Exit → Act → World → Prop} {a : Act} {w : World} (S : World → Prop) (A : Act)
    (hB : (ops.toList.zipIdx.all fun (o, i) => o.after.all fun e => !Region.binds md e || decide (e.on < i)) = true) (hL : detLook md ops = true) (hP : detPlain ops = true)
    (hsz : a.tmps.size = A.tmps.size) (hdf : a.defers = A.defers) (hag : ∀ s : Tmp, (∀ (i : Nat) (o : Oper), ops[i]? = some o → o.dst ≠ some s) → a.tmps[s]? = A.tmps[s]?) (hS : S w)
    (hok : ∀ (i : Nat) (o : Oper), ops[i]? = some o → DetOk P ops S A o) (hfin : ∀ w, S w → Q .normal A w) :
    wpAny P md ops Q ops.size (Array.replicate ops.size false) a w := by
 refine wpAny_invB (fun D a w => S w ∧ a.defers = A.defers ∧ a.tmps.size = A.tmps.size ∧ ∀ s : Tmp, (∀ (i : Nat) (o : Oper), ops[i]? = some o → o.dst = some s → D i = true) → a.tmps[s]? = A.tmps[s]?) hB ?_ ?_ _ _ _ _ (by simp) ?_ ⟨hS, hdf, hsz, ?_⟩
 · intro D a w i o ho hDi hdep ⟨hS, hdf, hsz, hag⟩ K hK
   have hlook : ∀ s ∈ o.looksAt ops, a.tmps[s]? = A.tmps[s]? := fun s hs => hag s fun j o' hj hdst => detLook_of hL ho hdep hs hj hdst
   have hpl := List.all_eq_true.1 hP o (by have := Array.mem_of_getElem? ho; simpa using this)
   have hex : execOp a.eval o = execOp A.eval o := by
    refine execOp_congr o (fun cs b e => by rw [e] at hpl; cases hpl) fun x hx => ?_
    cases x with
    | tmp s =>
      have := hlook s (List.mem_append_left _ (List.mem_filterMap.2 ⟨.tmp s, by simpa using hx, rfl⟩))
      simp only [Act.eval, Array.getD_eq_getD_getElem?, this]
    | const v => rfl
    | global g => rfl
    | func f => rfl
   have hwt : Region.wanted o (yielded ops a.tmps) = Region.wanted o (yielded ops A.tmps) := by
    unfold Region.wanted
    cases hg : o.guard with
    | none => rfl
    | some gw =>
      obtain ⟨g, want⟩ := gw
      have : yielded ops a.tmps g = yielded ops A.tmps g := by
       unfold yielded
       cases hdst : (ops[g]?).bind (·.dst) with
       | none => rfl
       | some s =>
         have := hlook s (List.mem_append_right _ (by rw [hg]; simp [hdst]))
         simp only [Option.bind_some, this]
      simp only [this]
   have put_ok : ∀ v, A.put o.dst v = A → ∀ w', S w' → K (a.put o.dst v) w' := by
    intro v hv w' hS'
    refine hK _ _ ⟨hS', ?_, ?_, ?_⟩
    · cases hd : o.dst <;> simpa [Act.put] using hdf
    · cases hd : o.dst <;> simpa [Act.put] using hsz
    · intro s hs
      cases hd : o.dst with
      | none =>
        refine hag s fun j o' hj hdst => ?_
        have := hs j o' hj hdst
        by_cases e : j = i
        · subst e; rw [ho] at hj; cases hj; rw [hd] at hdst; cases hdst
        · rwa [upd_other D e] at this
      | some d =>
        rw [hd] at hv
        by_cases e : d = s
        · subst e
          have h1 := congrArg (fun x : Act => x.tmps[d]?) hv
          simp only [Act.put] at h1 ⊢
          by_cases hlt : d < A.tmps.size
          · rw [Array.getElem?_setIfInBounds_self_of_lt hlt] at h1
            rw [Array.getElem?_setIfInBounds_self_of_lt (hsz ▸ hlt), h1]
          · have hle : A.tmps.size ≤ d := Nat.le_of_not_lt hlt
            rw [Array.getElem?_eq_none (by rw [Array.size_setIfInBounds, hsz]; exact hle), Array.getElem?_eq_none hle]
        · simp only [Act.put]
          rw [Array.getElem?_setIfInBounds_ne e]
          refine hag s fun j o' hj hdst => ?_
          have := hs j o' hj hdst
          by_cases e' : j = i
          · subst e'; rw [ho] at hj; cases hj; rw [hd] at hdst; cases hdst; exact absurd rfl e
          · rwa [upd_other D e'] at this
   have h := hok i o ho w hS
   rw [hwt]
   split
   · rename_i hw
     rw [if_pos hw] at h
     unfold Oper.wp at h ⊢
     rw [hex]
     generalize (execOp A.eval o).run P w = r at *
     cases r with
     | ok x w' =>
       cases x <;> simp only [Oper.upon] at h ⊢
       case value v => exact put_ok v h.1 w' h.2
       case skip => exact put_ok undef h.1 w' h.2
       case defer d =>
        have e := congrArg Act.defers h.1
        exfalso
        cases hd : o.dst <;> simp only [hd, Act.put] at e <;> exact absurd (congrArg List.length e) (by simp)
       case enter f args =>
        refine Calls.mono h fun e w'' he => ?_
        cases e with
        | returned v => exact put_ok v he.1 w'' he.2
        | panicked ch => exact he.elim
        | outgrown => obtain ⟨_, _, he⟩ := he; exact he.elim
       case row row args =>
        intro c cs
        obtain ⟨v, w'', hr, hs⟩ := h c cs
        exact ⟨v, w'', put_ok v hr.1 w'' hr.2, hs⟩
     | halt x w' => cases x <;> simp only [Oper.upon] at h
   · rename_i hw
     rw [if_neg hw] at h
     exact put_ok undef h w hS
 · intro D a w hall ⟨hS, hdf, hsz, hag⟩
   have hall' : ∀ s, a.tmps[s]? = A.tmps[s]? := fun s => hag s fun i o hi _ => hall i (by
    rw [Array.getElem?_eq_some_iff] at hi
    exact hi.1)
   have : a = A := by
    cases a
    cases A
    simp only at hdf hall'
    subst hdf
    congr 1
    exact Array.ext_getElem? hall'
   rw [this]
   exact hfin w hS
 · simp
 · intro s hs
   refine hag s fun i o ho hd => ?_
   have h := hs i o ho hd
   have hi : i < ops.size := by rw [Array.getElem?_eq_some_iff] at ho; exact ho.1
   simp [Array.getD_eq_getD_getElem?, hi] at h
theorem wp_region_detB {P : Program} {id : Nat} {ops : Array Oper} {Q : Exit → Act → World → Prop} {a : Act} {w : World} (S : World → Prop) (vals : List (Tmp × Value)) (hm : P.follows .mixedOrders = true)
    (hB : (ops.toList.zipIdx.all fun (o, i) => o.after.all fun e => !Region.binds .any e || decide (e.on < i)) = true) (hL : detLook .any ops = true) (hP : detPlain ops = true) (hV : detVals ops vals = true) (hS : S w.drew)
    (hok : ∀ A, A = putAll a vals → detAll P ops S A ops.toList) (hfin : ∀ A, A = putAll a vals → ∀ w, S w → Q .normal A w) : (Code.region id ops true).wp P Q a w := by
 refine wp_region_any hm (wpAny_detB S (putAll a vals) hB hL hP (putAll_size _ _).symm (putAll_defers _ _).symm (fun s hs => ?_) hS (fun i o ho => ?_) (hfin _ rfl))
 · refine (putAll_other vals s (fun p hp e => ?_) a).symm
   have h1 := List.all_eq_true.1 hV p hp
   obtain ⟨o, ho, hd⟩ := List.any_eq_true.1 h1
   obtain ⟨i, hi, rfl⟩ := List.mem_iff_getElem.1 ho
   have hi2 : i < ops.size := by simpa using hi
   refine hs i ops[i] (Array.getElem?_eq_getElem hi2) ?_
   have := eq_of_beq hd
   rw [e] at this
   simpa using this
 · exact detAll_of (hok _ rfl) o (by have := Array.mem_of_getElem? ho; simpa using this)
theorem wpAny_ghostB {G : Type} {P : Program} {md : Region.Mode} {ops : Array Oper} {Q : Exit → Act → World → Prop} {a : Act} {w : World} (S : (Nat → Bool) → G → World → Prop) (A : G → Act) (g0 : G)
    (hB : (ops.toList.zipIdx.all fun (o, i) => o.after.all fun e => !Region.binds md e || decide (e.on < i)) = true) (hL : detLook md ops = true) (hP : detPlain ops = true)
    (hsz : ∀ g, a.tmps.size = (A g).tmps.size) (hdf : ∀ g, a.defers = (A g).defers) (hag : ∀ s : Tmp, (∀ (i : Nat) (o : Oper), ops[i]? = some o → o.dst ≠ some s) → a.tmps[s]? = (A g0).tmps[s]?) (hS : S (fun j => (Array.replicate ops.size false).getD j true) g0 w)
    (hok : ∀ (i : Nat) (o : Oper), ops[i]? = some o → GhOk P md ops S A i o) (hfin : ∀ D g w, (∀ i, i < ops.size → D i = true) → S D g w → Q .normal (A g) w) :
    wpAny P md ops Q ops.size (Array.replicate ops.size false) a w := by
 refine wpAny_invB (fun D a w => ∃ g, S D g w ∧ a.defers = (A g).defers ∧ a.tmps.size = (A g).tmps.size ∧ ∀ s : Tmp, (∀ (i : Nat) (o : Oper), ops[i]? = some o → o.dst = some s → D i = true) → a.tmps[s]? = (A g).tmps[s]?) hB ?_ ?_ _ _ _ _ (by simp) ?_ ⟨g0, hS, hdf g0, hsz g0, ?_⟩
 · have hsz' := hsz
   have hdf' := hdf
   intro D a w i o ho hDi hdep ⟨g, hS, hdf, hsz, hag⟩ K hK
   have hlook : ∀ s ∈ o.looksAt ops, a.tmps[s]? = (A g).tmps[s]? := fun s hs => hag s fun j o' hj hdst => detLook_of hL ho hdep hs hj hdst
   have hpl := List.all_eq_true.1 hP o (by have := Array.mem_of_getElem? ho; simpa using this)
   have hex : execOp a.eval o = execOp (A g).eval o := by
    refine execOp_congr o (fun cs b e => by rw [e] at hpl; cases hpl) fun x hx => ?_
    cases x with
    | tmp s =>
      have := hlook s (List.mem_append_left _ (List.mem_filterMap.2 ⟨.tmp s, by simpa using hx, rfl⟩))
      simp only [Act.eval, Array.getD_eq_getD_getElem?, this]
    | const v => rfl
    | global g => rfl
    | func f => rfl
   have hwt : Region.wanted o (yielded ops a.tmps) = Region.wanted o (yielded ops (A g).tmps) := by
    unfold Region.wanted
    cases hg : o.guard with
    | none => rfl
    | some gw =>
      obtain ⟨q, want⟩ := gw
      have : yielded ops a.tmps q = yielded ops (A g).tmps q := by
       unfold yielded
       cases hdst : (ops[q]?).bind (·.dst) with
       | none => rfl
       | some s =>
         have := hlook s (List.mem_append_right _ (by rw [hg]; simp [hdst]))
         simp only [Option.bind_some, this]
      simp only [this]
   have put_ok : ∀ v w' g', (∀ s, o.dst = some s → ((A g).put o.dst v).tmps[s]? = (A g').tmps[s]?) → (∀ s : Tmp, (∀ (j : Nat) (o' : Oper), ops[j]? = some o' → o'.dst = some s → D j = true) → (A g).tmps[s]? = (A g').tmps[s]?) → S (upd D i) g' w' → K (a.put o.dst v) w' := by
    intro v w' g' hv hgg hS'
    have hszA : (A g).tmps.size = (A g').tmps.size := (hsz' g).symm.trans (hsz' g')
    have hdfA : (A g).defers = (A g').defers := (hdf' g).symm.trans (hdf' g')
    refine hK _ _ ⟨g', hS', ?_, ?_, ?_⟩
    · cases hd : o.dst <;> simpa [Act.put] using hdf.trans hdfA
    · cases hd : o.dst <;> simpa [Act.put] using hsz.trans hszA
    · intro s hs
      have hall : (o.dst ≠ some s) → ∀ (j : Nat) (o' : Oper), ops[j]? = some o' → o'.dst = some s → D j = true := by
       intro hne j o' hj hdst
       have := hs j o' hj hdst
       by_cases e : j = i
       · subst e; rw [ho] at hj; cases hj; exact absurd hdst hne
       · rwa [upd_other D e] at this
      cases hd : o.dst with
      | none =>
        have hal := hall (by rw [hd]; intro h; cases h)
        exact (hag s hal).trans (hgg s hal)
      | some d =>
        by_cases e : d = s
        · subst e
          have h1 := hv d hd
          rw [hd] at h1
          simp only [Act.put] at h1 ⊢
          by_cases hlt : d < (A g).tmps.size
          · rw [Array.getElem?_setIfInBounds_self_of_lt hlt] at h1
            rw [Array.getElem?_setIfInBounds_self_of_lt (hsz ▸ hlt), h1]
          · have hle : (A g).tmps.size ≤ d := Nat.le_of_not_lt hlt
            rw [Array.getElem?_eq_none (by rw [Array.size_setIfInBounds, hsz]; exact hle), Array.getElem?_eq_none (hszA ▸ hle)]
        · simp only [Act.put]
          rw [Array.getElem?_setIfInBounds_ne e]
          have hal := hall (by rw [hd]; intro h; injection h with h; exact e h)
          exact (hag s hal).trans (hgg s hal)
   have h := hok i o ho D g w hDi hdep hS
   rw [hwt]
   split
   · rename_i hw
     rw [if_pos hw] at h
     unfold Oper.wp at h ⊢
     rw [hex]
     generalize (execOp (A g).eval o).run P w = r at *
     cases r with
     | ok x w' =>
       cases x <;> simp only [Oper.upon] at h ⊢
       case value v => obtain ⟨g', _, h1, h2, h3⟩ := h; exact put_ok v w' g' h1 h2 h3
       case skip => obtain ⟨g', _, h1, h2, h3⟩ := h; exact put_ok undef w' g' h1 h2 h3
       case defer d =>
        obtain ⟨g', h0, _⟩ := h
        exfalso
        have hdfA : (A g).defers = (A g').defers := (hdf' g).symm.trans (hdf' g')
        rw [← hdfA] at h0
        cases hd : o.dst <;> simp only [hd, Act.put] at h0 <;> exact absurd (congrArg List.length h0) (by simp)
       case enter f args =>
        refine Calls.mono h fun e w'' he => ?_
        cases e with
        | returned v => obtain ⟨g', _, h1, h2, h3⟩ := he; exact put_ok v w'' g' h1 h2 h3
        | panicked ch => exact he.elim
        | outgrown => obtain ⟨_, _, he⟩ := he; exact he.elim
       case row row args =>
        intro c cs
        obtain ⟨v, w'', hr, hs⟩ := h c cs
        obtain ⟨g', _, h1, h2, h3⟩ := hr
        exact ⟨v, w'', put_ok v w'' g' h1 h2 h3, hs⟩
     | halt x w' => cases x <;> simp only [Oper.upon] at h
   · rename_i hw
     rw [if_neg hw] at h
     obtain ⟨g', h1, h2, h3⟩ := h; exact put_ok undef w g' h1 h2 h3
 · intro D a w hall ⟨g, hS, hdf, hsz, hag⟩
   have hall' : ∀ s, a.tmps[s]? = (A g).tmps[s]? := fun s => hag s fun i o hi _ => hall i (by
    rw [Array.getElem?_eq_some_iff] at hi
    exact hi.1)
   have : a = A g := by
    cases a
    cases hA : A g
    rw [hA] at hdf hall'
    simp only at hdf hall'
    subst hdf
    congr 1
    exact Array.ext_getElem? hall'
   rw [this]
   exact hfin D g w hall hS
 · simp
 · intro s hs
   refine hag s fun i o ho hd => ?_
   have h := hs i o ho hd
   have hi : i < ops.size := by rw [Array.getElem?_eq_some_iff] at ho; exact ho.1
   simp [Array.getD_eq_getD_getElem?, hi] at h
theorem wp_region_ghostB {G : Type} {P : Program} {id : Nat} {ops : Array Oper} {Q : Exit → Act → World → Prop} {a : Act} {w : World} (S : (Nat → Bool) → G → World → Prop) (vals : G → List (Tmp × Value)) (g0 : G) (hm : P.follows .mixedOrders = true)
    (hB : (ops.toList.zipIdx.all fun (o, i) => o.after.all fun e => !Region.binds .any e || decide (e.on < i)) = true) (hL : detLook .any ops = true) (hP : detPlain ops = true) (hV : ∀ g, detVals ops (vals g) = true) (hS : ∀ D, (∀ i, i < ops.size → D i = false) → S D g0 w.drew)
    (hok : ∀ A : G → Act, (∀ g, A g = putAll a (vals g)) → ghAll P .any ops S A 0 ops.toList) (hfin : ∀ A : G → Act, (∀ g, A g = putAll a (vals g)) → ∀ D g w, (∀ i, i < ops.size → D i = true) → S D g w → Q .normal (A g) w) : (Code.region id ops true).wp P Q a w := by
 refine wp_region_any hm (wpAny_ghostB S (fun g => putAll a (vals g)) g0 hB hL hP (fun g => (putAll_size _ _).symm) (fun g => (putAll_defers _ _).symm) (fun s hs => ?_) (hS _ fun i hi => ?_) (fun i o ho => ?_) (hfin _ fun _ => rfl))
 · refine (putAll_other (vals g0) s (fun p hp e => ?_) a).symm
   have h1 := List.all_eq_true.1 (hV g0) p hp
   obtain ⟨o, ho, hd⟩ := List.any_eq_true.1 h1
   obtain ⟨i, hi, rfl⟩ := List.mem_iff_getElem.1 ho
   have hi2 : i < ops.size := by simpa using hi
   refine hs i ops[i] (Array.getElem?_eq_getElem hi2) ?_
   have := eq_of_beq hd
   rw [e] at this
   simpa using this
 · simp [Array.getD_eq_getD_getElem?, hi]
 · have := ghAll_of ops.toList 0 (hok _ fun _ => rfl) i o (by simpa using ho)
   rwa [Nat.zero_add] at this
end Go.Proofs.YtjclfkbhakjdaaaDoor
