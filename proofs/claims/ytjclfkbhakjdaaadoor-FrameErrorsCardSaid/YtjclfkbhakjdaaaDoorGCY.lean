import Derived.Test.YtjclfkbhakjdaaaDoorDTY
namespace Go.Proofs.YtjclfkbhakjdaaaDoor
open Go.RowKit
def GhPost {G : Type} (ops : Array Oper) (S : (Nat → Bool) → G → World → Prop) (A : G → Act) (D : Nat → Bool) (i : Nat) (o : Oper) (g : G) (a' : Act) (w' : World) : Prop :=
 ∃ g', a'.defers = (A g').defers ∧ (∀ s, o.dst = some s → a'.tmps[s]? = (A g').tmps[s]?) ∧ (∀ s : Tmp, (∀ (j : Nat) (o' : Oper), ops[j]? = some o' → o'.dst = some s → D j = true) → (A g).tmps[s]? = (A g').tmps[s]?) ∧ S (upd D i) g' w'
def GhOk {G : Type} (P : Program) (md : Region.Mode) (ops : Array Oper) (S : (Nat → Bool) → G → World → Prop) (A : G → Act) (i : Nat) (o : Oper) : Prop :=
 ∀ D g w, D i = false → (o.after.all fun e => !Region.binds md e || D e.on) = true → S D g w →
   if Region.wanted o (yielded ops (A g).tmps) = true then
     o.wp P (A g) w (GhPost ops S A D i o g) (fun _ _ _ => False)
   else ∃ g', (∀ s, o.dst = some s → ((A g).put o.dst undef).tmps[s]? = (A g').tmps[s]?) ∧ (∀ s : Tmp, (∀ (j : Nat) (o' : Oper), ops[j]? = some o' → o'.dst = some s → D j = true) → (A g).tmps[s]? = (A g').tmps[s]?) ∧ S (upd D i) g' w
theorem wpAny_ghost {G : Type} {P : Program} {md : Region.Mode} {ops : Array Oper} {Q : Exit → Act → World → Prop} {a : Act} {w : World} (S : (Nat → Bool) → G → World → Prop) (A : G → Act) (g0 : G)
    (hB : (ops.toList.zipIdx.all fun (o, i) => o.after.all fun e => decide (e.on < i)) = true) (hL : detLook md ops = true) (hP : detPlain ops = true)
    (hsz : ∀ g, a.tmps.size = (A g).tmps.size) (hdf : ∀ g, a.defers = (A g).defers) (hag : ∀ s : Tmp, (∀ (i : Nat) (o : Oper), ops[i]? = some o → o.dst ≠ some s) → a.tmps[s]? = (A g0).tmps[s]?) (hS : S (fun j => (Array.replicate ops.size false).getD j true) g0 w)
    (hok : ∀ (i : Nat) (o : Oper), ops[i]? = some o → GhOk P md ops S A i o) (hfin : ∀ D g w, (∀ i, i < ops.size → D i = true) → S D g w → Q .normal (A g) w) :
    wpAny P md ops Q ops.size (Array.replicate ops.size false) a w := by
 refine wpAny_inv (fun D a w => ∃ g, S D g w ∧ a.defers = (A g).defers ∧ a.tmps.size = (A g).tmps.size ∧ ∀ s : Tmp, (∀ (i : Nat) (o : Oper), ops[i]? = some o → o.dst = some s → D i = true) → a.tmps[s]? = (A g).tmps[s]?) hB ?_ ?_ _ _ _ _ (by simp) ?_ ⟨g0, hS, hdf g0, hsz g0, ?_⟩
 · have hsz' := hsz
   have hdf' := hdf
   intro D a w i o ho hDi hdep ⟨g, hS, hdf, hsz, hag⟩ K hK
   have hlook : ∀ s ∈ o.looksAt ops, a.tmps[s]? = (A g).tmps[s]? := fun s hs => hag s fun j o' hj hdst => detLook_of hL ho hdep hs hj hdst
   have hpl := List.all_eq_true.1 hP o (by have := Array.mem_of_getElem? ho; simpa using this)
   have hex : execOp a.eval o = execOp (A g).eval o := by
    refine execOp_congr o (fun cs b e => by rw [e] at hpl; cases hpl) fun x hx => ?_
    cases x with
    | tmp s =>
      have := hlook s (List.mem_append_left _ (List.mem_filterMap.2 ⟨.tmp s, by simpa using hx, rfl⟩))
      simp only [Act.eval, Array.getD_eq_getD_getElem?, this]
    | const v => rfl
    | global g => rfl
    | func f => rfl
   have hwt : Region.wanted o (yielded ops a.tmps) = Region.wanted o (yielded ops (A g).tmps) := by
    unfold Region.wanted
    cases hg : o.guard with
    | none => rfl
    | some gw =>
      obtain ⟨q, want⟩ := gw
      have : yielded ops a.tmps q = yielded ops (A g).tmps q := by
       unfold yielded
       cases hdst : (ops[q]?).bind (·.dst) with
       | none => rfl
       | some s =>
         have := hlook s (List.mem_append_right _ (by rw [hg]; simp [hdst]))
         simp only [Option.bind_some, this]
      simp only [this]
   have put_ok : ∀ v w' g', (∀ s, o.dst = some s → ((A g).put o.dst v).tmps[s]? = (A g').tmps[s]?) → (∀ s : Tmp, (∀ (j : Nat) (o' : Oper), ops[j]? = some o' → o'.dst = some s → D j = true) → (A g).tmps[s]? = (A g').tmps[s]?) → S (upd D i) g' w' → K (a.put o.dst v) w' := by
    intro v w' g' hv hgg hS'
    have hszA : (A g).tmps.size = (A g').tmps.size := (hsz' g).symm.trans (hsz' g')
    have hdfA : (A g).defers = (A g').defers := (hdf' g).symm.trans (hdf' g')
    refine hK _ _ ⟨g', hS', ?_, ?_, ?_⟩
    · cases hd : o.dst <;> simpa [Act.put] using hdf.trans hdfA
    · cases hd : o.dst <;> simpa [Act.put] using hsz.trans hszA
    · intro s hs
      have hall : (o.dst ≠ some s) → ∀ (j : Nat) (o' : Oper), ops[j]? = some o' → o'.dst = some s → D j = true := by
       intro hne j o' hj hdst
       have := hs j o' hj hdst
       by_cases e : j = i
       · subst e; rw [ho] at hj; cases hj; exact absurd hdst hne
       · rwa [upd_other D e] at this
      cases hd : o.dst with
      | none =>
        have hal := hall (by rw [hd]; intro h; cases h)
        exact (hag s hal).trans (hgg s hal)
      | some d =>
        by_cases e : d = s
        · subst e
          have h1 := hv d hd
          rw [hd] at h1
          simp only [Act.put] at h1 ⊢
          by_cases hlt : d < (A g).tmps.size
          · rw [Array.getElem?_setIfInBounds_self_of_lt hlt] at h1
            rw [Array.getElem?_setIfInBounds_self_of_lt (hsz ▸ hlt), h1]
          · have hle : (A g).tmps.size ≤ d := Nat.le_of_not_lt hlt
            rw [Array.getElem?_eq_none (by rw [Array.size_setIfInBounds, hsz]; exact hle), Array.getElem?_eq_none (hszA ▸ hle)]
        · simp only [Act.put]
          rw [Array.getElem?_setIfInBounds_ne e]
          have hal := hall (by rw [hd]; intro h; injection h with h; exact e h)
          exact (hag s hal).trans (hgg s hal)
   have h := hok i o ho D g w hDi hdep hS
   rw [hwt]
   split
   · rename_i hw
     rw [if_pos hw] at h
     unfold Oper.wp at h ⊢
     rw [hex]
     generalize (execOp (A g).eval o).run P w = r at *
     cases r with
     | ok x w' =>
       cases x <;> simp only [Oper.upon] at h ⊢
       case value v => obtain ⟨g', _, h1, h2, h3⟩ := h; exact put_ok v w' g' h1 h2 h3
       case skip => obtain ⟨g', _, h1, h2, h3⟩ := h; exact put_ok undef w' g' h1 h2 h3
       case defer d =>
        obtain ⟨g', h0, _⟩ := h
        exfalso
        have hdfA : (A g).defers = (A g').defers := (hdf' g).symm.trans (hdf' g')
        rw [← hdfA] at h0
        cases hd : o.dst <;> simp only [hd, Act.put] at h0 <;> exact absurd (congrArg List.length h0) (by simp)
       case enter f args =>
        refine Calls.mono h fun e w'' he => ?_
        cases e with
        | returned v => obtain ⟨g', _, h1, h2, h3⟩ := he; exact put_ok v w'' g' h1 h2 h3
        | panicked ch => exact he.elim
        | outgrown => obtain ⟨_, _, he⟩ := he; exact he.elim
       case row row args =>
        intro c cs
        obtain ⟨v, w'', hr, hs⟩ := h c cs
        obtain ⟨g', _, h1, h2, h3⟩ := hr
        exact ⟨v, w'', put_ok v w'' g' h1 h2 h3, hs⟩
     | halt x w' => cases x <;> simp only [Oper.upon] at h
   · rename_i hw
     rw [if_neg hw] at h
     obtain ⟨g', h1, h2, h3⟩ := h; exact put_ok undef w g' h1 h2 h3
 · intro D a w hall ⟨g, hS, hdf, hsz, hag⟩
   have hall' : ∀ s, a.tmps[s]? = (A g).tmps[s]? := fun s => hag s fun i o hi _ => hall i (by
    rw [Array.getElem?_eq_some_iff] at hi
    exact hi.1)
   have : a = A g := by
    cases a
    cases hA : A g
    rw [hA] at hdf hall'
    simp only at hdf hall'
    subst hdf
    congr 1
    exact Array.ext_getElem? hall'
   rw [this]
   exact hfin D g w hall hS
 · simp
 · intro s hs
   refine hag s fun i o ho hd => ?_
   have h := hs i o ho hd
   have hi : i < ops.size := by rw [Array.getElem?_eq_some_iff] at ho; exact ho.1
   simp [Array.getD_eq_getD_getElem?, hi] at h
theorem gh_same {G : Type} {P : Program} {md : Region.Mode} {ops : Array Oper} {S : (Nat → Bool) → G → World → Prop} {A : G → Act} {i : Nat} {o : Oper}
    (h : ∀ D g w, D i = false → (o.after.all fun e => !Region.binds md e || D e.on) = true → S D g w →
      if Region.wanted o (yielded ops (A g).tmps) = true then o.wp P (A g) w (fun a' w' => a' = A g ∧ S (upd D i) g w') (fun _ _ _ => False) else (A g).put o.dst undef = A g ∧ S (upd D i) g w) : GhOk P md ops S A i o := by
  intro D g w h1 h2 h3
  have h := h D g w h1 h2 h3
  split
  · rename_i hw
    rw [if_pos hw] at h
    refine Oper.wp_mono (fun a w ⟨e, hs⟩ => ?_) h
    subst e
    exact ⟨g, rfl, fun _ _ => rfl, fun _ _ => rfl, hs⟩
  · rename_i hw
    rw [if_neg hw] at h
    refine ⟨g, fun _ _ => ?_, fun _ _ => rfl, h.2⟩
    rw [h.1]
def ghAll {G : Type} (P : Program) (md : Region.Mode) (ops : Array Oper) (S : (Nat → Bool) → G → World → Prop) (A : G → Act) : Nat → List Oper → Prop
  | _, [] => True
  | i, o :: l => GhOk P md ops S A i o ∧ ghAll P md ops S A (i + 1) l
theorem ghAll_of {G : Type} {P : Program} {md : Region.Mode} {ops : Array Oper} {S : (Nat → Bool) → G → World → Prop} {A : G → Act} (l : List Oper) : ∀ n, ghAll P md ops S A n l → ∀ i o, l[i]? = some o → GhOk P md ops S A (n + i) o := by
 induction l with
 | nil => intro n _ i o h; simp at h
 | cons p l ih =>
   intro n h i o hi
   cases i with
   | zero =>
     simp only [List.getElem?_cons_zero, Option.some.injEq] at hi
     subst hi
     exact h.1
   | succ i =>
     have := ih (n + 1) h.2 i o (by simpa using hi)
     rwa [show n + 1 + i = n + (i + 1) by omega] at this
theorem wp_region_ghost {G : Type} {P : Program} {id : Nat} {ops : Array Oper} {Q : Exit → Act → World → Prop} {a : Act} {w : World} (S : (Nat → Bool) → G → World → Prop) (vals : G → List (Tmp × Value)) (g0 : G) (hm : P.follows .mixedOrders = true)
    (hB : (ops.toList.zipIdx.all fun (o, i) => o.after.all fun e => decide (e.on < i)) = true) (hL : detLook .any ops = true) (hP : detPlain ops = true) (hV : ∀ g, detVals ops (vals g) = true) (hS : ∀ D, (∀ i, i < ops.size → D i = false) → S D g0 w.drew)
    (hok : ∀ A : G → Act, (∀ g, A g = putAll a (vals g)) → ghAll P .any ops S A 0 ops.toList) (hfin : ∀ A : G → Act, (∀ g, A g = putAll a (vals g)) → ∀ D g w, (∀ i, i < ops.size → D i = true) → S D g w → Q .normal (A g) w) : (Code.region id ops true).wp P Q a w := by
 refine wp_region_any hm (wpAny_ghost S (fun g => putAll a (vals g)) g0 hB hL hP (fun g => (putAll_size _ _).symm) (fun g => (putAll_defers _ _).symm) (fun s hs => ?_) (hS _ fun i hi => ?_) (fun i o ho => ?_) (hfin _ fun _ => rfl))
 · refine (putAll_other (vals g0) s (fun p hp e => ?_) a).symm
   have h1 := List.all_eq_true.1 (hV g0) p hp
   obtain ⟨o, ho, hd⟩ := List.any_eq_true.1 h1
   obtain ⟨i, hi, rfl⟩ := List.mem_iff_getElem.1 ho
   have hi2 : i < ops.size := by simpa using hi
   refine hs i ops[i] (Array.getElem?_eq_getElem hi2) ?_
   have := eq_of_beq hd
   rw [e] at this
   simpa using this
 · simp [Array.getD_eq_getD_getElem?, hi]
 · have := ghAll_of ops.toList 0 (hok _ fun _ => rfl) i o (by simpa using ho)
   rwa [Nat.zero_add] at this
end Go.Proofs.YtjclfkbhakjdaaaDoor
namespace Go.Proofs.YtjclfkbhakjdaaaDoor
open Go.RowKit
inductive Rw where
  | b (l : List UInt8)
  | i (l : List Int)
section
variable {P : Program} {md : Region.Mode} {ops : Array Oper} {cs : List (Nat × Rw)} {w0 : World} {A : (Nat → Value) → Act} {i : Nat} {o : Oper}
end
end Go.Proofs.YtjclfkbhakjdaaaDoor
