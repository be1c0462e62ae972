import Derived.Test.YtkibigbcdlilkaaGreatDoorMMY
namespace Go.Proofs.YtkibigbcdlilkaaGreatDoor
open Go.RowKit
def DetOk (P : Program) (ops : Array Oper) (S : World → Prop) (A : Act) (o : Oper) : Prop :=
 ∀ w, S w → if Region.wanted o (yielded ops A.tmps) = true then o.wp P A w (fun a' w' => a' = A ∧ S w') (fun _ _ _ => False) else A.put o.dst undef = A
def detLook (md : Region.Mode) (ops : Array Oper) : Bool :=
 ops.toList.all fun o => (o.looksAt ops).all fun s => ops.toList.zipIdx.all fun (o', j) => o'.dst != some s || o.after.toList.any fun e => Region.binds md e && e.on == j
def detPlain (ops : Array Oper) : Bool := ops.toList.all fun o => match o.op with | .select _ _ => false | .defer _ => false | _ => true
theorem detLook_of {md : Region.Mode} {ops : Array Oper} (h : detLook md ops = true) {D : Nat → Bool} {i : Nat} {o : Oper} (ho : ops[i]? = some o) (hd : (o.after.all fun e => !Region.binds md e || D e.on) = true) {s : Tmp} (hs : s ∈ o.looksAt ops)
    {j : Nat} {o' : Oper} (hj : ops[j]? = some o') (hdst : o'.dst = some s) : D j = true := by
 have h1 := List.all_eq_true.1 h o (by have := Array.mem_of_getElem? ho; simpa using this)
 have h2 := List.all_eq_true.1 h1 s hs
 have h3 := List.all_eq_true.1 h2 (o', j) (by rw [List.mem_zipIdx_iff_getElem?]; simpa using hj)
 simp only [hdst, bne_self_eq_false, Bool.false_or] at h3
 obtain ⟨e, he, hb⟩ := List.any_eq_true.1 h3
 rw [Bool.and_eq_true] at hb
 have h4 := Array.all_eq_true'.1 hd e (by simpa using he)
 rw [hb.1, Bool.not_true, Bool.false_or] at h4
 rw [← eq_of_beq hb.2]
 exact h4
theorem wpAny_det {P : Program} {md : Region.Mode} {ops : Array Oper} {Q : Exit → Act → World → Prop} {a : Act} {w : World} (S : World → Prop) (A : Act)
    (hB : (ops.toList.zipIdx.all fun (o, i) => o.after.all fun e => decide (e.on < i)) = true) (hL : detLook md ops = true) (hP : detPlain ops = true)
    (hsz : a.tmps.size = A.tmps.size) (hdf : a.defers = A.defers) (hag : ∀ s : Tmp, (∀ (i : Nat) (o : Oper), ops[i]? = some o → o.dst ≠ some s) → a.tmps[s]? = A.tmps[s]?) (hS : S w)
    (hok : ∀ (i : Nat) (o : Oper), ops[i]? = some o → DetOk P ops S A o) (hfin : ∀ w, S w → Q .normal A w) :
    wpAny P md ops Q ops.size (Array.replicate ops.size false) a w := by
 refine wpAny_inv (fun D a w => S w ∧ a.defers = A.defers ∧ a.tmps.size = A.tmps.size ∧ ∀ s : Tmp, (∀ (i : Nat) (o : Oper), ops[i]? = some o → o.dst = some s → D i = true) → a.tmps[s]? = A.tmps[s]?) hB ?_ ?_ _ _ _ _ (by simp) ?_ ⟨hS, hdf, hsz, ?_⟩
 · intro D a w i o ho hDi hdep ⟨hS, hdf, hsz, hag⟩ K hK
   have hlook : ∀ s ∈ o.looksAt ops, a.tmps[s]? = A.tmps[s]? := fun s hs => hag s fun j o' hj hdst => detLook_of hL ho hdep hs hj hdst
   have hpl := List.all_eq_true.1 hP o (by have := Array.mem_of_getElem? ho; simpa using this)
   have hex : execOp a.eval o = execOp A.eval o := by
    refine execOp_congr o (fun cs b e => by rw [e] at hpl; cases hpl) fun x hx => ?_
    cases x with
    | tmp s =>
      have := hlook s (List.mem_append_left _ (List.mem_filterMap.2 ⟨.tmp s, by simpa using hx, rfl⟩))
      simp only [Act.eval, Array.getD_eq_getD_getElem?, this]
    | const v => rfl
    | global g => rfl
    | func f => rfl
   have hwt : Region.wanted o (yielded ops a.tmps) = Region.wanted o (yielded ops A.tmps) := by
    unfold Region.wanted
    cases hg : o.guard with
    | none => rfl
    | some gw =>
      obtain ⟨g, want⟩ := gw
      have : yielded ops a.tmps g = yielded ops A.tmps g := by
       unfold yielded
       cases hdst : (ops[g]?).bind (·.dst) with
       | none => rfl
       | some s =>
         have := hlook s (List.mem_append_right _ (by rw [hg]; simp [hdst]))
         simp only [Option.bind_some, this]
      simp only [this]
   have put_ok : ∀ v, A.put o.dst v = A → ∀ w', S w' → K (a.put o.dst v) w' := by
    intro v hv w' hS'
    refine hK _ _ ⟨hS', ?_, ?_, ?_⟩
    · cases hd : o.dst <;> simpa [Act.put] using hdf
    · cases hd : o.dst <;> simpa [Act.put] using hsz
    · intro s hs
      cases hd : o.dst with
      | none =>
        refine hag s fun j o' hj hdst => ?_
        have := hs j o' hj hdst
        by_cases e : j = i
        · subst e; rw [ho] at hj; cases hj; rw [hd] at hdst; cases hdst
        · rwa [upd_other D e] at this
      | some d =>
        rw [hd] at hv
        by_cases e : d = s
        · subst e
          have h1 := congrArg (fun x : Act => x.tmps[d]?) hv
          simp only [Act.put] at h1 ⊢
          by_cases hlt : d < A.tmps.size
          · rw [Array.getElem?_setIfInBounds_self_of_lt hlt] at h1
            rw [Array.getElem?_setIfInBounds_self_of_lt (hsz ▸ hlt), h1]
          · have hle : A.tmps.size ≤ d := Nat.le_of_not_lt hlt
            rw [Array.getElem?_eq_none (by rw [Array.size_setIfInBounds, hsz]; exact hle), Array.getElem?_eq_none hle]
        · simp only [Act.put]
          rw [Array.getElem?_setIfInBounds_ne e]
          refine hag s fun j o' hj hdst => ?_
          have := hs j o' hj hdst
          by_cases e' : j = i
          · subst e'; rw [ho] at hj; cases hj; rw [hd] at hdst; cases hdst; exact absurd rfl e
          · rwa [upd_other D e'] at this
   have h := hok i o ho w hS
   rw [hwt]
   split
   · rename_i hw
     rw [if_pos hw] at h
     unfold Oper.wp at h ⊢
     rw [hex]
     generalize (execOp A.eval o).run P w = r at *
     cases r with
     | ok x w' =>
       cases x <;> simp only [Oper.upon] at h ⊢
       case value v => exact put_ok v h.1 w' h.2
       case skip => exact put_ok undef h.1 w' h.2
       case defer d =>
        have e := congrArg Act.defers h.1
        exfalso
        cases hd : o.dst <;> simp only [hd, Act.put] at e <;> exact absurd (congrArg List.length e) (by simp)
       case enter f args =>
        refine Calls.mono h fun e w'' he => ?_
        cases e with
        | returned v => exact put_ok v he.1 w'' he.2
        | panicked ch => exact he.elim
        | outgrown => obtain ⟨_, _, he⟩ := he; exact he.elim
       case row row args =>
        intro c cs
        obtain ⟨v, w'', hr, hs⟩ := h c cs
        exact ⟨v, w'', put_ok v hr.1 w'' hr.2, hs⟩
     | halt x w' => cases x <;> simp only [Oper.upon] at h
   · rename_i hw
     rw [if_neg hw] at h
     exact put_ok undef h w hS
 · intro D a w hall ⟨hS, hdf, hsz, hag⟩
   have hall' : ∀ s, a.tmps[s]? = A.tmps[s]? := fun s => hag s fun i o hi _ => hall i (by
    rw [Array.getElem?_eq_some_iff] at hi
    exact hi.1)
   have : a = A := by
    cases a
    cases A
    simp only at hdf hall'
    subst hdf
    congr 1
    exact Array.ext_getElem? hall'
   rw [this]
   exact hfin w hS
 · simp
 · intro s hs
   refine hag s fun i o ho hd => ?_
   have h := hs i o ho hd
   have hi : i < ops.size := by rw [Array.getElem?_eq_some_iff] at ho; exact ho.1
   simp [Array.getD_eq_getD_getElem?, hi] at h
def putAll (a : Act) : List (Tmp × Value) → Act
  | [] => a
  | p :: l => putAll (a.put (some p.1) p.2) l
theorem putAll_size (l : List (Tmp × Value)) : ∀ a : Act, (putAll a l).tmps.size = a.tmps.size := by
 induction l with
 | nil => intro a; rfl
 | cons p l ih => intro a; rw [putAll, ih]; simp [Act.put]
theorem putAll_defers (l : List (Tmp × Value)) : ∀ a : Act, (putAll a l).defers = a.defers := by
 induction l with
 | nil => intro a; rfl
 | cons p l ih => intro a; rw [putAll, ih]; rfl
theorem putAll_other (l : List (Tmp × Value)) (s : Tmp) (hs : ∀ p ∈ l, p.1 ≠ s) : ∀ a : Act, (putAll a l).tmps[s]? = a.tmps[s]? := by
 induction l with
 | nil => intro a; rfl
 | cons p l ih =>
   intro a
   rw [putAll, ih (fun q hq => hs q (List.mem_cons_of_mem _ hq))]
   simp only [Act.put]
   rw [Array.getElem?_setIfInBounds_ne (hs p (List.mem_cons_self ..))]
def detAll (P : Program) (ops : Array Oper) (S : World → Prop) (A : Act) : List Oper → Prop
  | [] => True
  | o :: l => DetOk P ops S A o ∧ detAll P ops S A l
theorem detAll_of {P : Program} {ops : Array Oper} {S : World → Prop} {A : Act} {l : List Oper} (h : detAll P ops S A l) : ∀ o ∈ l, DetOk P ops S A o := by
 induction l with
 | nil => intro o ho; cases ho
 | cons p l ih =>
   intro o ho
   rcases List.mem_cons.1 ho with rfl | ho
   · exact h.1
   · exact ih h.2 o ho
def detVals (ops : Array Oper) (l : List (Tmp × Value)) : Bool := l.all fun p => ops.toList.any fun o => o.dst == some p.1
theorem wp_region_det {P : Program} {id : Nat} {ops : Array Oper} {Q : Exit → Act → World → Prop} {a : Act} {w : World} (S : World → Prop) (vals : List (Tmp × Value)) (hm : P.follows .mixedOrders = true)
    (hB : (ops.toList.zipIdx.all fun (o, i) => o.after.all fun e => decide (e.on < i)) = true) (hL : detLook .any ops = true) (hP : detPlain ops = true) (hV : detVals ops vals = true) (hS : S w.drew)
    (hok : ∀ A, A = putAll a vals → detAll P ops S A ops.toList) (hfin : ∀ A, A = putAll a vals → ∀ w, S w → Q .normal A w) : (Code.region id ops true).wp P Q a w := by
 refine wp_region_any hm (wpAny_det S (putAll a vals) hB hL hP (putAll_size _ _).symm (putAll_defers _ _).symm (fun s hs => ?_) hS (fun i o ho => ?_) (hfin _ rfl))
 · refine (putAll_other vals s (fun p hp e => ?_) a).symm
   have h1 := List.all_eq_true.1 hV p hp
   obtain ⟨o, ho, hd⟩ := List.any_eq_true.1 h1
   obtain ⟨i, hi, rfl⟩ := List.mem_iff_getElem.1 ho
   have hi2 : i < ops.size := by simpa using hi
   refine hs i ops[i] (Array.getElem?_eq_getElem hi2) ?_
   have := eq_of_beq hd
   rw [e] at this
   simpa using this
 · exact detAll_of (hok _ rfl) o (by have := Array.mem_of_getElem? ho; simpa using this)
end Go.Proofs.YtkibigbcdlilkaaGreatDoor
namespace Go.Proofs.YtkibigbcdlilkaaGreatDoor
theorem way_len {m : Nat} {a b : List UInt8} (h : Way m a b) : a.length ≤ b.length + m ∧ b.length ≤ a.length + m := by
 induction h with
 | nil => simp
 | keep x _ ih => simp only [List.length_cons]; omega
 | swap x y _ ih => simp only [List.length_cons]; omega
 | gap x _ ih => simp only [List.length_cons]; omega
 | more y _ ih => simp only [List.length_cons]; omega
theorem way_split {m : Nat} {a b : List UInt8} (h : Way m a b) : ∀ p u : List UInt8, a = p ++ u → ∃ q1 q2 m1 m2, b = q1 ++ q2 ∧ m1 + m2 = m ∧ Way m1 p q1 ∧ Way m2 u q2 := by
 induction h with
 | nil =>
   intro p u e
   obtain ⟨rfl, rfl⟩ := List.append_eq_nil_iff.1 e.symm
   exact ⟨[], [], 0, 0, rfl, rfl, .nil, .nil⟩
 | @keep n a b x h ih =>
   intro p u e
   cases p with
   | nil => exact ⟨[], x :: b, 0, n, rfl, by omega, .nil, by rw [← show x :: a = u from e]; exact .keep x h⟩
   | cons z p =>
     obtain ⟨rfl, e2⟩ := List.cons.inj e
     obtain ⟨q1, q2, m1, m2, rfl, hm, h1, h2⟩ := ih p u e2
     exact ⟨x :: q1, q2, m1, m2, rfl, hm, .keep x h1, h2⟩
 | @swap n a b x y h ih =>
   intro p u e
   cases p with
   | nil => exact ⟨[], y :: b, 0, n + 1, rfl, by omega, .nil, by rw [← show x :: a = u from e]; exact .swap x y h⟩
   | cons z p =>
     obtain ⟨rfl, e2⟩ := List.cons.inj e
     obtain ⟨q1, q2, m1, m2, rfl, hm, h1, h2⟩ := ih p u e2
     exact ⟨y :: q1, q2, m1 + 1, m2, rfl, by omega, .swap x y h1, h2⟩
 | @gap n a b x h ih =>
   intro p u e
   cases p with
   | nil => exact ⟨[], b, 0, n + 1, rfl, by omega, .nil, by rw [← show x :: a = u from e]; exact .gap x h⟩
   | cons z p =>
     obtain ⟨rfl, e2⟩ := List.cons.inj e
     obtain ⟨q1, q2, m1, m2, rfl, hm, h1, h2⟩ := ih p u e2
     exact ⟨q1, q2, m1 + 1, m2, rfl, by omega, .gap x h1, h2⟩
 | @more n a b y h ih =>
   intro p u e
   obtain ⟨q1, q2, m1, m2, rfl, hm, h1, h2⟩ := ih p u e
   exact ⟨y :: q1, q2, m1 + 1, m2, rfl, by omega, .more y h1, h2⟩
section
variable (cls : UInt8 → Bool)
def Alt : Bool → List UInt8 → Prop
  | _, [] => True
  | b, x :: l => cls x = b ∧ Alt (!b) l
def diffN : List UInt8 → List UInt8 → Nat
  | x :: a, y :: b => (if x = y then 0 else 1) + diffN a b
  | _, _ => 0
theorem diffN_self (a : List UInt8) : diffN a a = 0 := by
 induction a with
 | nil => rfl
 | cons x a ih => show (if x = x then 0 else 1) + diffN a a = 0; rw [ih, if_pos rfl]
theorem diffN_head (x y : UInt8) (a : List UInt8) : diffN (x :: a) (y :: a) ≤ 1 := by
 show (if x = y then 0 else 1) + diffN a a ≤ 1
 rw [diffN_self]
 split <;> omega
theorem diffN_pos {a b : List UInt8} (hl : a.length = b.length) (h : a ≠ b) : 1 ≤ diffN a b := by
 induction a generalizing b with
 | nil => cases b with
   | nil => exact absurd rfl h
   | cons y b => simp at hl
 | cons x a ih =>
   cases b with
   | nil => simp at hl
   | cons y b =>
     show 1 ≤ (if x = y then 0 else 1) + diffN a b
     by_cases hx : x = y
     · subst hx
       have := ih (b := b) (by simpa using hl) (fun e => h (by rw [e]))
       omega
     · rw [if_neg hx]; omega
theorem diffN_append {a b : List UInt8} (c d : List UInt8) (hl : a.length = b.length) : diffN (a ++ c) (b ++ d) = diffN a b + diffN c d := by
 induction a generalizing b with
 | nil => cases b with
   | nil => show _ = 0 + _; simp
   | cons y b => simp at hl
 | cons x a ih =>
   cases b with
   | nil => simp at hl
   | cons y b =>
     show (if x = y then 0 else 1) + diffN (a ++ c) (b ++ d) = (if x = y then 0 else 1) + diffN a b + diffN c d
     rw [ih (by simpa using hl)]
     omega
theorem off_one {m : Nat} {u v : List UInt8} (h : Way m u v) (hm : m ≤ 1) (b : Bool) (hu : Alt cls (!b) u) (hv : Alt cls b v) (hl : u.length + 1 = v.length) : ∃ y, v = y :: u := by
 cases h with
 | nil => simp at hl
 | keep x h =>
   have h1 : cls x = !b := hu.1
   have h2 : cls x = b := hv.1
   rw [h1] at h2
   cases b <;> cases h2
 | @swap n a b' x y h =>
   have := way_len h
   simp only [List.length_cons] at hl
   omega
 | @gap n a _ x h =>
   have := way_len h
   simp only [List.length_cons] at hl
   omega
 | @more n _ b' y h =>
   obtain rfl := h.zero (by omega)
   exact ⟨y, rfl⟩
theorem in_step {m : Nat} {u v : List UInt8} (h : Way m u v) : ∀ b, m ≤ 2 → Alt cls b u → Alt cls b v → u.length = v.length → diffN u v ≤ m := by
 induction h with
 | nil => intros; exact Nat.le_refl _
 | @keep n a c x h ih =>
   intro b hm hu hv hl
   show (if x = x then 0 else 1) + diffN a c ≤ n
   rw [if_pos rfl]
   have := ih (!b) hm hu.2 hv.2 (by simpa using hl)
   omega
 | @swap n a c x y h ih =>
   intro b hm hu hv hl
   show (if x = y then 0 else 1) + diffN a c ≤ n + 1
   have := ih (!b) (by omega) hu.2 hv.2 (by simpa using hl)
   split <;> omega
 | @gap n a c x h _ =>
   intro b hm hu hv hl
   obtain ⟨y, rfl⟩ := off_one cls h (by omega) b hu.2 hv (by simpa using hl)
   have := diffN_head x y a
   omega
 | @more n a c y h _ =>
   intro b hm hu hv hl
   obtain ⟨x, rfl⟩ := off_one cls h.symm (by omega) b hv.2 hu (by simpa using hl.symm)
   have := diffN_head x y c
   omega
theorem tails_near {m : Nat} {p u q v : List UInt8} (h : Way m (p ++ u) (q ++ v)) (hm : m ≤ 2) (b : Bool) (hu : Alt cls b u) (hv : Alt cls b v) (hp : p.length = q.length) (hl : u.length = v.length) : diffN u v ≤ 2 := by
 obtain ⟨q1, q2, m1, m2, e, hmm, h1, h2⟩ := way_split h p u rfl
 have l1 := way_len h1
 have l2 := way_len h2
 have le := congrArg List.length e
 simp only [List.length_append] at le
 rcases (show q2.length = v.length ∨ q2.length = v.length + 1 ∨ q2.length + 1 = v.length by omega) with hd | hd | hd
 · obtain ⟨rfl, rfl⟩ := List.append_inj' e hd.symm
   have := in_step cls h2 b (by omega) hu hv hl
   omega
 · obtain ⟨j, rfl⟩ : ∃ j, q2 = j :: v := by
     cases q2 with
     | nil => simp at hd
     | cons j t =>
       have e2 : q ++ v = (q1 ++ [j]) ++ t := by rw [e]; simp
       have := (List.append_inj' e2 (by simpa using hd.symm)).2
       exact ⟨j, by rw [this]⟩
   cases h2 with
   | @keep n a c x h =>
     obtain ⟨y, rfl⟩ := off_one cls h (by omega) b hu.2 hv (by simpa using hl)
     have := diffN_head j y a
     omega
   | @swap n a c x y h =>
     have := way_len h
     simp only [List.length_cons] at hl
     omega
   | @gap n a c x h =>
     have := way_len h
     simp only [List.length_cons] at hl this
     omega
   | @more n a c y h =>
     obtain rfl := h.zero (by omega)
     rw [diffN_self]
     omega
 · obtain ⟨c, rfl⟩ : ∃ c, v = c :: q2 := by
     cases v with
     | nil => simp at hd
     | cons c t =>
       have e2 : (q ++ [c]) ++ t = q1 ++ q2 := by rw [← e]; simp
       have := (List.append_inj' e2 (by simpa using hd.symm)).2
       exact ⟨c, by rw [this]⟩
   cases h2 with
   | nil => simp at hl
   | @keep n a d x h =>
     have h3 : cls x = b := hu.1
     have h4 : cls x = !b := hv.2.1
     rw [h3] at h4
     cases b <;> cases h4
   | @swap n a d x y h9 =>
     have l3 := way_len h9
     have l4 : a.length + 1 = d.length + 2 := by simpa using hl
     omega
   | @gap n a _ x h =>
     obtain rfl := h.zero (by omega)
     have := diffN_head x c a
     omega
   | @more n _ d y h9 =>
     have l3 := way_len h9
     have l4 : u.length = d.length + 2 := by simpa using hl
     omega
theorem fields_far {p q f g : List UInt8} (b : Bool) (hu : Alt cls b (f ++ f ++ f)) (hv : Alt cls b (g ++ g ++ g)) (hp : p.length = q.length) (hl : f.length = g.length) (hne : f ≠ g) : 2 < dist (p ++ (f ++ f ++ f)) (q ++ (g ++ g ++ g)) := by
 refine Decidable.byContradiction fun h => ?_
 obtain ⟨m, hm, hw⟩ := (dist_le_iff (p ++ (f ++ f ++ f)) (q ++ (g ++ g ++ g)) 2).1 (by omega)
 have h1 := tails_near cls hw hm b hu hv hp (by simp [hl])
 have h2 := diffN_pos hl hne
 rw [diffN_append _ _ (by simp [hl]), diffN_append _ _ hl] at h1
 omega
end
end Go.Proofs.YtkibigbcdlilkaaGreatDoor
namespace Go.Proofs.YtkibigbcdlilkaaGreatDoor
inductive Step (L : UInt8 → Prop) : List UInt8 → List UInt8 → Prop
  | keep {a c} (x : UInt8) (h : Step L a c) : Step L (x :: a) (x :: c)
  | swap {a} (x y : UInt8) (h : L y) : Step L (x :: a) (y :: a)
  | gap {a} (x : UInt8) : Step L (x :: a) a
  | more {a} (y : UInt8) (h : L y) : Step L a (y :: a)
theorem way_step {L : UInt8 → Prop} {m : Nat} {a b : List UInt8} (h : Way m a b) : ∀ n, m = n + 1 → (∀ y ∈ b, L y) → ∃ c, Step L a c ∧ Way n c b := by
 induction h with
 | nil => intro n h; omega
 | keep x _ ih =>
   intro n hn hL
   obtain ⟨c, h1, h2⟩ := ih n hn fun y hy => hL y (List.mem_cons_of_mem _ hy)
   exact ⟨x :: c, .keep x h1, .keep x h2⟩
 | @swap m a b x y h _ =>
   intro n hn hL
   obtain rfl : m = n := by omega
   exact ⟨y :: a, .swap x y (hL y (List.mem_cons_self ..)), .keep y h⟩
 | @gap m a b x h _ =>
   intro n hn hL
   obtain rfl : m = n := by omega
   exact ⟨a, .gap x, h⟩
 | @more m a b y h _ =>
   intro n hn hL
   obtain rfl : m = n := by omega
   exact ⟨y :: a, .more y (hL y (List.mem_cons_self ..)), .keep y h⟩
theorem step_is {L : UInt8 → Prop} {a c : List UInt8} (h : Step L a c) :
    (∃ p, p < a.length ∧ c = a.take p ++ a.drop (p + 1)) ∨ (∃ p y, L y ∧ p ≤ a.length ∧ c = a.take p ++ y :: a.drop p) ∨ (∃ p y, L y ∧ p < a.length ∧ c = a.take p ++ y :: a.drop (p + 1)) := by
  induction h with
  | keep x _ ih =>
    rcases ih with ⟨p, h1, rfl⟩ | ⟨p, y, h0, h1, rfl⟩ | ⟨p, y, h0, h1, rfl⟩
    · exact .inl ⟨p + 1, by rw [List.length_cons]; omega, rfl⟩
    · exact .inr (.inl ⟨p + 1, y, h0, by rw [List.length_cons]; omega, rfl⟩)
    · exact .inr (.inr ⟨p + 1, y, h0, by rw [List.length_cons]; omega, rfl⟩)
  | swap x y h => exact .inr (.inr ⟨0, y, h, by rw [List.length_cons]; omega, rfl⟩)
  | gap x => exact .inl ⟨0, by rw [List.length_cons]; omega, rfl⟩
  | more y h => exact .inr (.inl ⟨0, y, h, Nat.zero_le _, rfl⟩)
end Go.Proofs.YtkibigbcdlilkaaGreatDoor
namespace Go.Proofs.YtkibigbcdlilkaaGreatDoor
open Go.RowKit
def GhPost {G : Type} (ops : Array Oper) (S : (Nat → Bool) → G → World → Prop) (A : G → Act) (D : Nat → Bool) (i : Nat) (o : Oper) (g : G) (a' : Act) (w' : World) : Prop :=
 ∃ g', a'.defers = (A g').defers ∧ (∀ s, o.dst = some s → a'.tmps[s]? = (A g').tmps[s]?) ∧ (∀ s : Tmp, (∀ (j : Nat) (o' : Oper), ops[j]? = some o' → o'.dst = some s → D j = true) → (A g).tmps[s]? = (A g').tmps[s]?) ∧ S (upd D i) g' w'
def GhOk {G : Type} (P : Program) (md : Region.Mode) (ops : Array Oper) (S : (Nat → Bool) → G → World → Prop) (A : G → Act) (i : Nat) (o : Oper) : Prop :=
 ∀ D g w, D i = false → (o.after.all fun e => !Region.binds md e || D e.on) = true → S D g w →
   if Region.wanted o (yielded ops (A g).tmps) = true then
     o.wp P (A g) w (GhPost ops S A D i o g) (fun _ _ _ => False)
   else ∃ g', (∀ s, o.dst = some s → ((A g).put o.dst undef).tmps[s]? = (A g').tmps[s]?) ∧ (∀ s : Tmp, (∀ (j : Nat) (o' : Oper), ops[j]? = some o' → o'.dst = some s → D j = true) → (A g).tmps[s]? = (A g').tmps[s]?) ∧ S (upd D i) g' w
theorem wpAny_ghost {G : Type} {P : Program} {md : Region.Mode} {ops : Array Oper} {Q : Exit → Act → World → Prop} {a : Act} {w : World} (S : (Nat → Bool) → G → World → Prop) (A : G → Act) (g0 : G)
    (hB : (ops.toList.zipIdx.all fun (o, i) => o.after.all fun e => decide (e.on < i)) = true) (hL : detLook md ops = true) (hP : detPlain ops = true)
    (hsz : ∀ g, a.tmps.size = (A g).tmps.size) (hdf : ∀ g, a.defers = (A g).defers) (hag : ∀ s : Tmp, (∀ (i : Nat) (o : Oper), ops[i]? = some o → o.dst ≠ some s) → a.tmps[s]? = (A g0).tmps[s]?) (hS : S (fun j => (Array.replicate ops.size false).getD j true) g0 w)
    (hok : ∀ (i : Nat) (o : Oper), ops[i]? = some o → GhOk P md ops S A i o) (hfin : ∀ D g w, (∀ i, i < ops.size → D i = true) → S D g w → Q .normal (A g) w) :
    wpAny P md ops Q ops.size (Array.replicate ops.size false) a w := by
 refine wpAny_inv (fun D a w => ∃ g, S D g w ∧ a.defers = (A g).defers ∧ a.tmps.size = (A g).tmps.size ∧ ∀ s : Tmp, (∀ (i : Nat) (o : Oper), ops[i]? = some o → o.dst = some s → D i = true) → a.tmps[s]? = (A g).tmps[s]?) hB ?_ ?_ _ _ _ _ (by simp) ?_ ⟨g0, hS, hdf g0, hsz g0, ?_⟩
 · have hsz' := hsz
   have hdf' := hdf
   intro D a w i o ho hDi hdep ⟨g, hS, hdf, hsz, hag⟩ K hK
   have hlook : ∀ s ∈ o.looksAt ops, a.tmps[s]? = (A g).tmps[s]? := fun s hs => hag s fun j o' hj hdst => detLook_of hL ho hdep hs hj hdst
   have hpl := List.all_eq_true.1 hP o (by have := Array.mem_of_getElem? ho; simpa using this)
   have hex : execOp a.eval o = execOp (A g).eval o := by
    refine execOp_congr o (fun cs b e => by rw [e] at hpl; cases hpl) fun x hx => ?_
    cases x with
    | tmp s =>
      have := hlook s (List.mem_append_left _ (List.mem_filterMap.2 ⟨.tmp s, by simpa using hx, rfl⟩))
      simp only [Act.eval, Array.getD_eq_getD_getElem?, this]
    | const v => rfl
    | global g => rfl
    | func f => rfl
   have hwt : Region.wanted o (yielded ops a.tmps) = Region.wanted o (yielded ops (A g).tmps) := by
    unfold Region.wanted
    cases hg : o.guard with
    | none => rfl
    | some gw =>
      obtain ⟨q, want⟩ := gw
      have : yielded ops a.tmps q = yielded ops (A g).tmps q := by
       unfold yielded
       cases hdst : (ops[q]?).bind (·.dst) with
       | none => rfl
       | some s =>
         have := hlook s (List.mem_append_right _ (by rw [hg]; simp [hdst]))
         simp only [Option.bind_some, this]
      simp only [this]
   have put_ok : ∀ v w' g', (∀ s, o.dst = some s → ((A g).put o.dst v).tmps[s]? = (A g').tmps[s]?) → (∀ s : Tmp, (∀ (j : Nat) (o' : Oper), ops[j]? = some o' → o'.dst = some s → D j = true) → (A g).tmps[s]? = (A g').tmps[s]?) → S (upd D i) g' w' → K (a.put o.dst v) w' := by
    intro v w' g' hv hgg hS'
    have hszA : (A g).tmps.size = (A g').tmps.size := (hsz' g).symm.trans (hsz' g')
    have hdfA : (A g).defers = (A g').defers := (hdf' g).symm.trans (hdf' g')
    refine hK _ _ ⟨g', hS', ?_, ?_, ?_⟩
    · cases hd : o.dst <;> simpa [Act.put] using hdf.trans hdfA
    · cases hd : o.dst <;> simpa [Act.put] using hsz.trans hszA
    · intro s hs
      have hall : (o.dst ≠ some s) → ∀ (j : Nat) (o' : Oper), ops[j]? = some o' → o'.dst = some s → D j = true := by
       intro hne j o' hj hdst
       have := hs j o' hj hdst
       by_cases e : j = i
       · subst e; rw [ho] at hj; cases hj; exact absurd hdst hne
       · rwa [upd_other D e] at this
      cases hd : o.dst with
      | none =>
        have hal := hall (by rw [hd]; intro h; cases h)
        exact (hag s hal).trans (hgg s hal)
      | some d =>
        by_cases e : d = s
        · subst e
          have h1 := hv d hd
          rw [hd] at h1
          simp only [Act.put] at h1 ⊢
          by_cases hlt : d < (A g).tmps.size
          · rw [Array.getElem?_setIfInBounds_self_of_lt hlt] at h1
            rw [Array.getElem?_setIfInBounds_self_of_lt (hsz ▸ hlt), h1]
          · have hle : (A g).tmps.size ≤ d := Nat.le_of_not_lt hlt
            rw [Array.getElem?_eq_none (by rw [Array.size_setIfInBounds, hsz]; exact hle), Array.getElem?_eq_none (hszA ▸ hle)]
        · simp only [Act.put]
          rw [Array.getElem?_setIfInBounds_ne e]
          have hal := hall (by rw [hd]; intro h; injection h with h; exact e h)
          exact (hag s hal).trans (hgg s hal)
   have h := hok i o ho D g w hDi hdep hS
   rw [hwt]
   split
   · rename_i hw
     rw [if_pos hw] at h
     unfold Oper.wp at h ⊢
     rw [hex]
     generalize (execOp (A g).eval o).run P w = r at *
     cases r with
     | ok x w' =>
       cases x <;> simp only [Oper.upon] at h ⊢
       case value v => obtain ⟨g', _, h1, h2, h3⟩ := h; exact put_ok v w' g' h1 h2 h3
       case skip => obtain ⟨g', _, h1, h2, h3⟩ := h; exact put_ok undef w' g' h1 h2 h3
       case defer d =>
        obtain ⟨g', h0, _⟩ := h
        exfalso
        have hdfA : (A g).defers = (A g').defers := (hdf' g).symm.trans (hdf' g')
        rw [← hdfA] at h0
        cases hd : o.dst <;> simp only [hd, Act.put] at h0 <;> exact absurd (congrArg List.length h0) (by simp)
       case enter f args =>
        refine Calls.mono h fun e w'' he => ?_
        cases e with
        | returned v => obtain ⟨g', _, h1, h2, h3⟩ := he; exact put_ok v w'' g' h1 h2 h3
        | panicked ch => exact he.elim
        | outgrown => obtain ⟨_, _, he⟩ := he; exact he.elim
       case row row args =>
        intro c cs
        obtain ⟨v, w'', hr, hs⟩ := h c cs
        obtain ⟨g', _, h1, h2, h3⟩ := hr
        exact ⟨v, w'', put_ok v w'' g' h1 h2 h3, hs⟩
     | halt x w' => cases x <;> simp only [Oper.upon] at h
   · rename_i hw
     rw [if_neg hw] at h
     obtain ⟨g', h1, h2, h3⟩ := h; exact put_ok undef w g' h1 h2 h3
 · intro D a w hall ⟨g, hS, hdf, hsz, hag⟩
   have hall' : ∀ s, a.tmps[s]? = (A g).tmps[s]? := fun s => hag s fun i o hi _ => hall i (by
    rw [Array.getElem?_eq_some_iff] at hi
    exact hi.1)
   have : a = A g := by
    cases a
    cases hA : A g
    rw [hA] at hdf hall'
    simp only at hdf hall'
    subst hdf
    congr 1
    exact Array.ext_getElem? hall'
   rw [this]
   exact hfin D g w hall hS
 · simp
 · intro s hs
   refine hag s fun i o ho hd => ?_
   have h := hs i o ho hd
   have hi : i < ops.size := by rw [Array.getElem?_eq_some_iff] at ho; exact ho.1
   simp [Array.getD_eq_getD_getElem?, hi] at h
theorem gh_same {G : Type} {P : Program} {md : Region.Mode} {ops : Array Oper} {S : (Nat → Bool) → G → World → Prop} {A : G → Act} {i : Nat} {o : Oper}
    (h : ∀ D g w, D i = false → (o.after.all fun e => !Region.binds md e || D e.on) = true → S D g w →
      if Region.wanted o (yielded ops (A g).tmps) = true then o.wp P (A g) w (fun a' w' => a' = A g ∧ S (upd D i) g w') (fun _ _ _ => False) else (A g).put o.dst undef = A g ∧ S (upd D i) g w) : GhOk P md ops S A i o := by
  intro D g w h1 h2 h3
  have h := h D g w h1 h2 h3
  split
  · rename_i hw
    rw [if_pos hw] at h
    refine Oper.wp_mono (fun a w ⟨e, hs⟩ => ?_) h
    subst e
    exact ⟨g, rfl, fun _ _ => rfl, fun _ _ => rfl, hs⟩
  · rename_i hw
    rw [if_neg hw] at h
    refine ⟨g, fun _ _ => ?_, fun _ _ => rfl, h.2⟩
    rw [h.1]
def ghAll {G : Type} (P : Program) (md : Region.Mode) (ops : Array Oper) (S : (Nat → Bool) → G → World → Prop) (A : G → Act) : Nat → List Oper → Prop
  | _, [] => True
  | i, o :: l => GhOk P md ops S A i o ∧ ghAll P md ops S A (i + 1) l
theorem ghAll_of {G : Type} {P : Program} {md : Region.Mode} {ops : Array Oper} {S : (Nat → Bool) → G → World → Prop} {A : G → Act} (l : List Oper) : ∀ n, ghAll P md ops S A n l → ∀ i o, l[i]? = some o → GhOk P md ops S A (n + i) o := by
 induction l with
 | nil => intro n _ i o h; simp at h
 | cons p l ih =>
   intro n h i o hi
   cases i with
   | zero =>
     simp only [List.getElem?_cons_zero, Option.some.injEq] at hi
     subst hi
     exact h.1
   | succ i =>
     have := ih (n + 1) h.2 i o (by simpa using hi)
     rwa [show n + 1 + i = n + (i + 1) by omega] at this
theorem wp_region_ghost {G : Type} {P : Program} {id : Nat} {ops : Array Oper} {Q : Exit → Act → World → Prop} {a : Act} {w : World} (S : (Nat → Bool) → G → World → Prop) (vals : G → List (Tmp × Value)) (g0 : G) (hm : P.follows .mixedOrders = true)
    (hB : (ops.toList.zipIdx.all fun (o, i) => o.after.all fun e => decide (e.on < i)) = true) (hL : detLook .any ops = true) (hP : detPlain ops = true) (hV : ∀ g, detVals ops (vals g) = true) (hS : ∀ D, (∀ i, i < ops.size → D i = false) → S D g0 w.drew)
    (hok : ∀ A : G → Act, (∀ g, A g = putAll a (vals g)) → ghAll P .any ops S A 0 ops.toList) (hfin : ∀ A : G → Act, (∀ g, A g = putAll a (vals g)) → ∀ D g w, (∀ i, i < ops.size → D i = true) → S D g w → Q .normal (A g) w) : (Code.region id ops true).wp P Q a w := by
 refine wp_region_any hm (wpAny_ghost S (fun g => putAll a (vals g)) g0 hB hL hP (fun g => (putAll_size _ _).symm) (fun g => (putAll_defers _ _).symm) (fun s hs => ?_) (hS _ fun i hi => ?_) (fun i o ho => ?_) (hfin _ fun _ => rfl))
 · refine (putAll_other (vals g0) s (fun p hp e => ?_) a).symm
   have h1 := List.all_eq_true.1 (hV g0) p hp
   obtain ⟨o, ho, hd⟩ := List.any_eq_true.1 h1
   obtain ⟨i, hi, rfl⟩ := List.mem_iff_getElem.1 ho
   have hi2 : i < ops.size := by simpa using hi
   refine hs i ops[i] (Array.getElem?_eq_getElem hi2) ?_
   have := eq_of_beq hd
   rw [e] at this
   simpa using this
 · simp [Array.getD_eq_getD_getElem?, hi]
 · have := ghAll_of ops.toList 0 (hok _ fun _ => rfl) i o (by simpa using ho)
   rwa [Nat.zero_add] at this
end Go.Proofs.YtkibigbcdlilkaaGreatDoor
namespace Go.Proofs.YtkibigbcdlilkaaGreatDoor
section
variable (e : Nat → Nat → Bool) (la lb : Nat)
def inR (n : Nat) (k : Int) : Prop := -(n : Int) ≤ k ∧ -(la : Int) ≤ k ∧ k ≤ n ∧ k ≤ lb
instance (n : Nat) (k : Int) : Decidable (inR la lb n k) := by unfold inR; infer_instance
def extG : Nat → Int → Int → Int
  | 0, _, i => i
  | f + 1, k, i => if i < la ∧ i + k < lb ∧ e i.toNat (i + k).toNat = true then extG f k (i + 1) else i
def startG (s m g k : Int) : Int := min (min (max (max s m) g) la) (lb - k)
def rch : Nat → Int → Int
  | 0, k => if k = 0 then -1 else -2000
  | n + 1, k => if inR la lb n k then extG e la lb la k (startG la lb (rch n k + 1) (rch n (k - 1)) (rch n (k + 1) + 1) k) else -2000
theorem rch_zero (k : Int) : rch e la lb 0 k = if k = 0 then -1 else -2000 := rfl
theorem rch_out (n : Nat) (k : Int) (h : ¬ inR la lb n k) : rch e la lb (n + 1) k = -2000 := by rw [rch, if_neg h]
theorem rch_in (n : Nat) (k : Int) (h : inR la lb n k) : rch e la lb (n + 1) k = extG e la lb la k (startG la lb (rch e la lb n k + 1) (rch e la lb n (k - 1)) (rch e la lb n (k + 1) + 1) k) := by rw [rch, if_pos h]
def Far (n : Nat) (k v : Int) : Prop := ∃ i j : Nat, v = i ∧ (j : Int) = i + k ∧ i ≤ la ∧ j ≤ lb ∧ lev e i j ≤ n ∧ ∀ i' j' : Nat, (j' : Int) = i' + k → i' ≤ la → j' ≤ lb → lev e i' j' ≤ n → i' ≤ i
theorem ext_spec (k : Int) : ∀ (f i j : Nat), (j : Int) = i + k → i ≤ la → j ≤ lb → la ≤ i + f → ∃ t, extG e la lb f k i = ((i + t : Nat) : Int) ∧ i + t ≤ la ∧ j + t ≤ lb ∧ lev e (i + t) (j + t) = lev e i j ∧ (i + t < la → j + t < lb → e (i + t) (j + t) = false)
 | 0, i, j, hk, hi, hj, hf => ⟨0, rfl, hi, hj, rfl, fun h => by omega⟩
 | f + 1, i, j, hk, hi, hj, hf => by
   rw [extG]
   have e1 : ((i : Int)).toNat = i := by omega
   have e2 : ((i : Int) + k).toNat = j := by omega
   rw [e1, e2]
   by_cases h : (i : Int) < la ∧ (i : Int) + k < lb ∧ e i j = true
   · rw [if_pos h]
     obtain ⟨t, h1, h2, h3, h4, h5⟩ := ext_spec k f (i + 1) (j + 1) (by omega) (by omega) (by omega) (by omega)
     refine ⟨t + 1, ?_, by omega, by omega, ?_, ?_⟩
     · rw [show (i : Int) + 1 = ((i + 1 : Nat) : Int) by omega, h1]
       omega
     · rw [show i + (t + 1) = i + 1 + t by omega, show j + (t + 1) = j + 1 + t by omega, h4, lev_keep e i j h.2.2]
     · rw [show i + (t + 1) = i + 1 + t by omega, show j + (t + 1) = j + 1 + t by omega]
       exact h5
   · rw [if_neg h]
     refine ⟨0, rfl, hi, hj, rfl, fun h1 h2 => ?_⟩
     cases hh : e i j with
     | false => simp
     | true => exact absurd ⟨by omega, by omega, hh⟩ h
theorem start_step (n : Nat) (k : Int) (hk : inR la lb (n + 1) k) (r : Int → Int) (hr : ∀ k', (inR la lb n k' ∧ Far e la lb n k' (r k')) ∨ (¬ inR la lb n k' ∧ r k' = -2000)) :
    ∃ i j : Nat, startG la lb (r k + 1) (r (k - 1)) (r (k + 1) + 1) k = i ∧ (j : Int) = i + k ∧ i ≤ la ∧ j ≤ lb ∧ lev e i j ≤ n + 1 := by
  obtain ⟨k1, k2, k3, k4⟩ := hk
  have hv : ∃ i j : Nat, max (max (r k + 1) (r (k - 1))) (r (k + 1) + 1) = i ∧ (j : Int) = i + k ∧ lev e i j ≤ n + 1 := by
   have c1 : (∃ i j : Nat, r k + 1 = i ∧ (j : Int) = i + k ∧ lev e i j ≤ n + 1) ∨ (¬ inR la lb n k ∧ r k = -2000) := by
    rcases hr k with ⟨-, i, j, h1, h2, h3, h4, h5, -⟩ | h
    · exact .inl ⟨i + 1, j + 1, by omega, by omega, by have := lev_swap e i j; omega⟩
    · exact .inr h
   have c2 : (∃ i j : Nat, r (k - 1) = i ∧ (j : Int) = i + k ∧ lev e i j ≤ n + 1) ∨ (¬ inR la lb n (k - 1) ∧ r (k - 1) = -2000) := by
    rcases hr (k - 1) with ⟨-, i, j, h1, h2, h3, h4, h5, -⟩ | h
    · exact .inl ⟨i, j + 1, by omega, by omega, by have := lev_on e i j; omega⟩
    · exact .inr h
   have c3 : (∃ i j : Nat, r (k + 1) + 1 = i ∧ (j : Int) = i + k ∧ lev e i j ≤ n + 1) ∨ (¬ inR la lb n (k + 1) ∧ r (k + 1) = -2000) := by
    rcases hr (k + 1) with ⟨-, i, j, h1, h2, h3, h4, h5, -⟩ | h
    · exact .inl ⟨i + 1, j, by omega, by omega, by have := lev_up e i j; omega⟩
    · exact .inr h
   have hin : inR la lb n k ∨ inR la lb n (k - 1) ∨ inR la lb n (k + 1) := by
    unfold inR
    by_cases h1 : k = (n : Int) + 1
    · right; left; omega
    · by_cases h2 : k = -((n : Int) + 1)
      · right; right; omega
      · left; omega
   have pick : ∀ x y z : Int, max (max x y) z = x ∨ max (max x y) z = y ∨ max (max x y) z = z := by omega
   rcases pick (r k + 1) (r (k - 1)) (r (k + 1) + 1) with hm | hm | hm
   · rw [hm]
     rcases c1 with h | ⟨h1, h2⟩
     · exact h
     · exfalso
       rcases hin with h | h | h
       · exact h1 h
       · rcases c2 with ⟨i, j, h3, -⟩ | ⟨h3, -⟩
         · omega
         · exact h3 h
       · rcases c3 with ⟨i, j, h3, -⟩ | ⟨h3, -⟩
         · omega
         · exact h3 h
   · rw [hm]
     rcases c2 with h | ⟨h1, h2⟩
     · exact h
     · exfalso
       rcases hin with h | h | h
       · rcases c1 with ⟨i, j, h3, -⟩ | ⟨h3, -⟩
         · omega
         · exact h3 h
       · exact h1 h
       · rcases c3 with ⟨i, j, h3, -⟩ | ⟨h3, -⟩
         · omega
         · exact h3 h
   · rw [hm]
     rcases c3 with h | ⟨h1, h2⟩
     · exact h
     · exfalso
       rcases hin with h | h | h
       · rcases c1 with ⟨i, j, h3, -⟩ | ⟨h3, -⟩
         · omega
         · exact h3 h
       · rcases c2 with ⟨i, j, h3, -⟩ | ⟨h3, -⟩
         · omega
         · exact h3 h
       · exact h1 h
  obtain ⟨i, j, h1, h2, h3⟩ := hv
  unfold startG
  rw [h1]
  by_cases hle : (i : Int) ≤ la ∧ (i : Int) ≤ lb - k
  · exact ⟨i, j, by omega, h2, by omega, by omega, h3⟩
  · -- down the diagonal
    obtain ⟨i0, hi0⟩ : ∃ i0 : Nat, min (min (i : Int) la) (lb - k) = i0 := ⟨(min (min (i : Int) la) (lb - k)).toNat, by omega⟩
    obtain ⟨j0, hj0⟩ : ∃ j0 : Nat, (j0 : Int) = i0 + k := ⟨((i0 : Int) + k).toNat, by omega⟩
    refine ⟨i0, j0, hi0, hj0, by omega, by omega, ?_⟩
    have := lev_diag_le e i0 j0 (i - i0)
    rw [show i0 + (i - i0) = i by omega, show j0 + (i - i0) = j by omega] at this
    omega
theorem far_step (n : Nat) (k : Int) (hk : inR la lb (n + 1) k) (r : Int → Int) (hr : ∀ k', (inR la lb n k' ∧ Far e la lb n k' (r k')) ∨ (¬ inR la lb n k' ∧ r k' = -2000)) :
    Far e la lb (n + 1) k (extG e la lb la k (startG la lb (r k + 1) (r (k - 1)) (r (k + 1) + 1) k)) := by
  have hb := start_step e la lb n k hk r hr
  obtain ⟨k1, k2, k3, k4⟩ := hk
  obtain ⟨i, j, h1, h2, h3, h4, h5⟩ := hb
  have hs := h1
  rw [h1]
  obtain ⟨t, e1, e2, e3, e4, e5⟩ := ext_spec e la lb k la i j h2 h3 h4 (by omega)
  rw [e1]
  refine ⟨i + t, j + t, rfl, by omega, e2, e3, by omega, fun i' j' f1 f2 f3 f4 => ?_⟩
  refine Decidable.byContradiction fun hlt => ?_
  have hd : lev e (i + t + 1) (j + t + 1) ≤ n + 1 := by
   have := lev_diag_le e (i + t + 1) (j + t + 1) (i' - (i + t + 1))
   rw [show i + t + 1 + (i' - (i + t + 1)) = i' by omega, show j + t + 1 + (i' - (i + t + 1)) = j' by omega] at this
   omega
  have hne := e5 (by omega) (by omega)
  rw [lev_step, if_neg (by rw [hne]; simp)] at hd
  have ap := lev_apart e
  unfold startG at hs
  by_cases g1 : lev e (i + t) (j + t + 1) ≤ n
  · have a1 := ap (i + t) (j + t + 1)
    rcases hr (k + 1) with ⟨-, i2, j2, q1, q2, q3, q4, q5, q6⟩ | ⟨q1, -⟩
    · have := q6 (i + t) (j + t + 1) (by omega) (by omega) (by omega) g1
      omega
    · exact q1 ⟨by omega, by omega, by omega, by omega⟩
  · by_cases g2 : lev e (i + t + 1) (j + t) ≤ n
    · have a1 := ap (i + t + 1) (j + t)
      rcases hr (k - 1) with ⟨-, i2, j2, q1, q2, q3, q4, q5, q6⟩ | ⟨q1, -⟩
      · have := q6 (i + t + 1) (j + t) (by omega) (by omega) (by omega) g2
        omega
      · exact q1 ⟨by omega, by omega, by omega, by omega⟩
    · have g3 : lev e (i + t) (j + t) ≤ n := by omega
      have a1 := ap (i + t) (j + t)
      rcases hr k with ⟨-, i2, j2, q1, q2, q3, q4, q5, q6⟩ | ⟨q1, -⟩
      · have := q6 (i + t) (j + t) (by omega) (by omega) (by omega) g3
        omega
      · exact q1 ⟨by omega, by omega, by omega, by omega⟩
theorem far_first (k : Int) (hk : inR la lb 0 k) : Far e la lb 0 k (rch e la lb 1 k) := by
 obtain ⟨k1, k2, k3, k4⟩ := hk
 obtain rfl : k = 0 := by omega
 rw [rch_in e la lb 0 0 ⟨by omega, by omega, by omega, by omega⟩, rch_zero, rch_zero, rch_zero, if_pos rfl, if_neg (by omega), if_neg (by omega)]
 have hs : startG la lb (-1 + 1) (-2000) (-2000 + 1) 0 = ((0 : Nat) : Int) := by unfold startG; omega
 rw [hs]
 obtain ⟨t, e1, e2, e3, e4, e5⟩ := ext_spec e la lb 0 la 0 0 (by omega) (by omega) (by omega) (by omega)
 rw [e1]
 refine ⟨0 + t, 0 + t, rfl, by omega, e2, e3, by rw [e4, lev_zero]; omega, fun i' j' f1 f2 f3 f4 => ?_⟩
 refine Decidable.byContradiction fun hlt => ?_
 have hd : lev e (0 + t + 1) (0 + t + 1) ≤ 0 := by
  have := lev_diag_le e (0 + t + 1) (0 + t + 1) (i' - (0 + t + 1))
  rw [show 0 + t + 1 + (i' - (0 + t + 1)) = i' by omega] at this
  obtain rfl : j' = i' := by omega
  omega
 have hne := e5 (by omega) (by omega)
 rw [lev_step, if_neg (by rw [hne]; simp)] at hd
 omega
theorem rch_far : ∀ n k, inR la lb n k → Far e la lb n k (rch e la lb (n + 1) k)
 | 0, k, hk => far_first e la lb k hk
 | n + 1, k, hk => by
   rw [rch_in e la lb (n + 1) k hk]
   refine far_step e la lb n k hk (rch e la lb (n + 1)) fun k' => ?_
   by_cases h : inR la lb n k'
   · exact .inl ⟨h, rch_far n k' h⟩
   · exact .inr ⟨h, rch_out e la lb n k' h⟩
theorem start_rch (n : Nat) (k : Int) (hk : inR la lb n k) : ∃ i j : Nat, startG la lb (rch e la lb n k + 1) (rch e la lb n (k - 1)) (rch e la lb n (k + 1) + 1) k = i ∧ (j : Int) = i + k ∧ i ≤ la ∧ j ≤ lb := by
 cases n with
 | zero =>
   obtain ⟨k1, k2, k3, k4⟩ := hk
   obtain rfl : k = 0 := by omega
   rw [rch_zero, rch_zero, rch_zero, if_pos rfl, if_neg (by omega), if_neg (by omega)]
   exact ⟨0, 0, by unfold startG; omega, by omega, by omega, by omega⟩
 | succ n =>
   obtain ⟨i, j, h1, h2, h3, h4, -⟩ := start_step e la lb n k hk (rch e la lb (n + 1)) fun k' => by
    by_cases h : inR la lb n k'
    · exact .inl ⟨h, rch_far e la lb n k' h⟩
    · exact .inr ⟨h, rch_out e la lb n k' h⟩
   exact ⟨i, j, h1, h2, h3, h4⟩
theorem reach_all (n : Nat) : (∃ k, inR la lb n k ∧ rch e la lb (n + 1) k = la ∧ rch e la lb (n + 1) k + k = lb) ↔ lev e la lb ≤ n := by
 constructor
 · rintro ⟨k, hk, h1, h2⟩
   obtain ⟨i, j, q1, q2, q3, q4, q5, q6⟩ := rch_far e la lb n k hk
   obtain rfl : i = la := by omega
   obtain rfl : j = lb := by omega
   exact q5
 · intro h
   have a1 := lev_apart e la lb
   have hk : inR la lb n ((lb : Int) - la) := ⟨by omega, by omega, by omega, by omega⟩
   obtain ⟨i, j, q1, q2, q3, q4, q5, q6⟩ := rch_far e la lb n _ hk
   have := q6 la lb (by omega) (Nat.le_refl _) (Nat.le_refl _) h
   exact ⟨_, hk, by omega, by omega⟩
theorem rch_bound (n : Nat) (k : Int) : -2000 ≤ rch e la lb n k ∧ rch e la lb n k ≤ la := by
 cases n with
 | zero => rw [rch_zero]; split <;> omega
 | succ n =>
   by_cases h : inR la lb n k
   · obtain ⟨i, j, q1, q2, q3, q4, q5, q6⟩ := rch_far e la lb n k h
     omega
   · rw [rch_out e la lb n k h]; omega
end
end Go.Proofs.YtkibigbcdlilkaaGreatDoor
namespace Go.Proofs.YtkibigbcdlilkaaGreatDoor
open Go.RowKit
inductive Rw where
  | b (l : List UInt8)
  | i (l : List Int)
def Rw.is : Rw → World → Value → Prop
  | .b l, w, v => Sl eB w.heap.size w v l
  | .i l, w, v => Sl eI w.heap.size w v l
theorem Rw.is_next {r : Rw} {w w' : World} {v : Value} (h : r.is w v) (hB : Below w.heap.size w w') : r.is w' v := by
 cases r with
 | b l => exact Sl.next h hB
 | i l => exact Sl.next h hB
def CallS (cs : List (Nat × Rw)) (w0 : World) (D : Nat → Bool) (g : Nat → Value) (w : World) : Prop :=
 Below w0.heap.size w0 w ∧ ∀ c ∈ cs, D c.1 = true → c.2.is w (g c.1)
theorem CallS.start {cs : List (Nat × Rw)} {w0 : World} {D : Nat → Bool} {g : Nat → Value} (h : ∀ c ∈ cs, D c.1 = false) : CallS cs w0 D g w0 :=
 ⟨Below.refl _ _, fun c hc hd => by rw [h c hc] at hd; cases hd⟩
theorem CallS.keep {cs : List (Nat × Rw)} {w0 w w' : World} {D : Nat → Bool} {g : Nat → Value} {i : Nat} (h : CallS cs w0 D g w) (h1 : (cs.all fun c => c.1 != i) = true) (hB : Below w.heap.size w w') : CallS cs w0 (upd D i) g w' := by
 refine ⟨below_trans h.1 hB, fun c hc hd => ?_⟩
 have h2 := List.all_eq_true.1 h1 c hc
 have h3 : c.1 ≠ i := by simpa using h2
 rw [upd_other D h3] at hd
 exact Rw.is_next (h.2 c hc hd) hB
theorem CallS.same {cs : List (Nat × Rw)} {w0 w : World} {D : Nat → Bool} {g : Nat → Value} {i : Nat} (h : CallS cs w0 D g w) (h1 : (cs.all fun c => c.1 != i) = true) : CallS cs w0 (upd D i) g w := h.keep h1 (Below.refl _ _)
theorem dep_on {md : Region.Mode} {o : Oper} {D : Nat → Bool} {k : Nat} (h : (o.after.all fun e => !Region.binds md e || D e.on) = true) (hk : (o.after.any fun e => Region.binds md e && decide (e.on = k)) = true) : D k = true := by
 obtain ⟨j, hj, h2⟩ := Array.any_iff_exists.1 hk
 obtain ⟨h3, h4⟩ := h2
 simp only [Bool.and_eq_true, decide_eq_true_eq] at h4
 have h5 := Array.all_eq_true'.1 h o.after[j] (by simp)
 rw [h4.2.2, h4.2.1] at h5
 simpa using h5
section
variable {P : Program} {md : Region.Mode} {ops : Array Oper} {cs : List (Nat × Rw)} {w0 : World} {A : (Nat → Value) → Act} {i : Nat} {o : Oper}
theorem gc_call {s : Tmp} {r : Rw} (hi : ops[i]? = some o) (hd : o.dst = some s) (hcs : ∀ c ∈ cs, c.1 = i → c.2 = r)
    (hA : ∀ g v, A (fun j => if j = i then v else g j) = (A g).put (some s) v) (hw : ∀ g, Region.wanted o (yielded ops (A g).tmps) = true)
    (hrun : ∀ D g w, (o.after.all fun e => !Region.binds md e || D e.on) = true → CallS cs w0 D g w → o.wp P (A g) w (fun a' w' => ∃ v, a' = (A g).put (some s) v ∧ r.is w' v ∧ Below w.heap.size w w') (fun _ _ _ => False)) : GhOk P md ops (CallS cs w0) A i o := by
 intro D g w hD hdep hS
 rw [if_pos (hw g)]
 refine Oper.wp_mono (fun a' w' ⟨v, e, hv, hB⟩ => ?_) (hrun D g w hdep hS)
 obtain ⟨h1, h2⟩ := hS
 refine ⟨fun j => if j = i then v else g j, ?_, ?_, ?_, below_trans h1 hB, fun c hc hdc => ?_⟩
 · rw [hA, e]
 · intro s' _
   rw [e, hA]
 · intro s' hs'
   rw [hA]
   have hne : s ≠ s' := by
    rintro rfl
    have := hs' i o hi hd
    rw [hD] at this
    cases this
   simp only [Act.put]
   rw [Array.getElem?_setIfInBounds_ne hne]
 · by_cases e1 : c.1 = i
   · simp only [if_pos e1, hcs c hc e1]
     exact hv
   · simp only [if_neg e1]
     rw [upd_other D e1] at hdc
     exact Rw.is_next (h2 c hc hdc) hB
theorem gc_op (h1 : (cs.all fun c => c.1 != i) = true)
    (hrun : ∀ D g w, (o.after.all fun e => !Region.binds md e || D e.on) = true → CallS cs w0 D g w →
      if Region.wanted o (yielded ops (A g).tmps) = true then o.wp P (A g) w (fun a' w' => a' = A g ∧ Below w.heap.size w w') (fun _ _ _ => False) else (A g).put o.dst undef = A g) : GhOk P md ops (CallS cs w0) A i o := by
 refine gh_same fun D g w _ hdep hS => ?_
 have h := hrun D g w hdep hS
 split
 · rename_i hw
   rw [if_pos hw] at h
   exact Oper.wp_mono (fun a' w' ⟨e, hB⟩ => ⟨e, hS.keep h1 hB⟩) h
 · rename_i hw
   rw [if_neg hw] at h
   exact ⟨h, hS.same h1⟩
theorem gc_conv (src dst : TypeId) (x : Operand) (ho : o.op = .convert src dst x) (v : Value) (h1 : (cs.all fun c => c.1 != i) = true) (hw : ∀ g, Region.wanted o (yielded ops (A g).tmps) = true)
    (hrun : ∀ D g w, (o.after.all fun e => !Region.binds md e || D e.on) = true → CallS cs w0 D g w → (convert src dst ((A g).eval x)).run P w = .ok v w) (hput : ∀ g, (A g).put o.dst v = A g) : GhOk P md ops (CallS cs w0) A i o := by
 refine gc_op h1 fun D g w hdp h => ?_
 rw [if_pos (hw g)]
 unfold Oper.wp execOp
 simp only [ho, Sem.run_bind, Result.andThen_ok, hrun D g w hdp h, Sem.run_pure]
 exact ⟨hput g, Below.refl _ _⟩
end
end Go.Proofs.YtkibigbcdlilkaaGreatDoor
namespace Go.Proofs.YtkibigbcdlilkaaGreatDoor
open Go.RowKit
def BlkS (i1 i2 iC i4 : Nat) (W0 W1 W2 : World) (R : World → Value → Prop) (D : Nat → Bool) (g : Value × Value) (w : World) : Prop :=
 ((D i4 = true → D iC = true) ∧ (D i4 = true → g.2 = g.1)) ∧ (D i2 = true → D i1 = true) ∧ (D iC = true → D i2 = true) ∧ (D iC = true → R w g.1) ∧ (D iC = false → w = if D i2 = true then W2 else if D i1 = true then W1 else W0)
section
variable {i1 i2 iC i4 : Nat} {W0 W1 W2 : World} {R : World → Value → Prop} {D : Nat → Bool} {g : Value × Value} {w : World}
theorem BlkS.start (h1 : D i1 = false) (h2 : D i2 = false) (h3 : D iC = false) (h4 : D i4 = false) : BlkS i1 i2 iC i4 W0 W1 W2 R D g W0 :=
 ⟨⟨(fun h => by rw [h4] at h; cases h), (fun h => by rw [h4] at h; cases h)⟩, (fun h => by rw [h2] at h; cases h), (fun h => by rw [h3] at h; cases h), (fun h => by rw [h3] at h; cases h), (fun _ => by rw [h1, h2]; simp)⟩
theorem BlkS.other (h : BlkS i1 i2 iC i4 W0 W1 W2 R D g w) {i : Nat} (n1 : i1 ≠ i) (n2 : i2 ≠ i) (n3 : iC ≠ i) (n4 : i4 ≠ i) : BlkS i1 i2 iC i4 W0 W1 W2 R (upd D i) g w := by
 unfold BlkS
 rw [upd_other D n1, upd_other D n2, upd_other D n3, upd_other D n4]
 exact h
theorem BlkS.below {B : Nat} {w0 : World} (h : BlkS i1 i2 iC i4 W0 W1 W2 R D g w) (b0 : Below B w0 W0) (b1 : Below B w0 W1) (b2 : Below B w0 W2) (bR : ∀ w g, R w g → Below B w0 w) : Below B w0 w := by
 cases hc : D iC with
 | true => exact bR _ _ (h.2.2.2.1 hc)
 | false =>
   rw [h.2.2.2.2 hc]
   split
   · exact b2
   · split
     · exact b1
     · exact b0
variable {P : Program} {md : Region.Mode} {ops : Array Oper} {A : Value × Value → Act} {i : Nat} {o : Oper}
theorem gb_op (n : (i != i1 && i != i2 && i != iC && i != i4) = true)
    (hrun : ∀ D g w, BlkS i1 i2 iC i4 W0 W1 W2 R D g w → if Region.wanted o (yielded ops (A g).tmps) = true then o.wp P (A g) w (fun a' w' => a' = A g ∧ w' = w) (fun _ _ _ => False) else (A g).put o.dst undef = A g) :
    GhOk P md ops (BlkS i1 i2 iC i4 W0 W1 W2 R) A i o := by
 simp only [Bool.and_eq_true, bne_iff_ne, ne_eq] at n
 obtain ⟨⟨⟨n1, n2⟩, n3⟩, n4⟩ := n
 refine gh_same fun D g w _ hdep hS => ?_
 have h := hrun D g w hS
 split
 · rename_i hw
   rw [if_pos hw] at h
   exact Oper.wp_mono (fun a' w' ⟨e, e2⟩ => ⟨e, by rw [e2]; exact hS.other (Ne.symm n1) (Ne.symm n2) (Ne.symm n3) (Ne.symm n4)⟩) h
 · rename_i hw
   rw [if_neg hw] at h
   exact ⟨h, hS.other (Ne.symm n1) (Ne.symm n2) (Ne.symm n3) (Ne.symm n4)⟩
theorem upd_self (D : Nat → Bool) (i : Nat) : upd D i i = true := by simp [upd]
theorem gb_first (hi : i = i1) (n2 : i2 ≠ i1) (n3 : iC ≠ i1) (n4 : i4 ≠ i1) (hw : ∀ g, Region.wanted o (yielded ops (A g).tmps) = true)
    (hrun : ∀ g, o.wp P (A g) W0 (fun a' w' => a' = A g ∧ w' = W1) (fun _ _ _ => False)) : GhOk P md ops (BlkS i1 i2 iC i4 W0 W1 W2 R) A i o := by
 subst hi
 refine gh_same fun D g w hD hdep hS => ?_
 obtain ⟨⟨h5, h6⟩, h1, h2, h3, h4⟩ := hS
 have d2 : D i2 = false := by
  cases h : D i2 with
  | false => rfl
  | true => rw [h1 h] at hD; cases hD
 have d3 : D iC = false := by
  cases h : D iC with
  | false => rfl
  | true => rw [h2 h] at d2; cases d2
 obtain rfl : w = W0 := by rw [h4 d3, d2, hD]; simp
 rw [if_pos (hw g)]
 refine Oper.wp_mono (fun a' w' ⟨e, e2⟩ => ⟨e, ?_⟩) (hrun g)
 unfold BlkS
 rw [upd_other D n2, upd_other D n3, upd_other D n4, upd_self, d2, d3, e2]
 rw [d3] at h5
 exact ⟨⟨h5, h6⟩, fun h => (by cases h), fun h => (by cases h), fun h => (by cases h), fun _ => by simp⟩
theorem gb_second (hi : i = i2) (n1 : i1 ≠ i2) (n3 : iC ≠ i2) (n4 : i4 ≠ i2) (hw : ∀ g, Region.wanted o (yielded ops (A g).tmps) = true) (hk : (o.after.any fun e => Region.binds md e && decide (e.on = i1)) = true)
    (hrun : ∀ g, o.wp P (A g) W1 (fun a' w' => a' = A g ∧ w' = W2) (fun _ _ _ => False)) : GhOk P md ops (BlkS i1 i2 iC i4 W0 W1 W2 R) A i o := by
 subst hi
 refine gh_same fun D g w hD hdep hS => ?_
 obtain ⟨⟨h5, h6⟩, h1, h2, h3, h4⟩ := hS
 have d1 := dep_on hdep hk
 have d3 : D iC = false := by
  cases h : D iC with
  | false => rfl
  | true => rw [h2 h] at hD; cases hD
 obtain rfl : w = W1 := by rw [h4 d3, hD, d1]; simp
 rw [if_pos (hw g)]
 refine Oper.wp_mono (fun a' w' ⟨e, e2⟩ => ⟨e, ?_⟩) (hrun g)
 unfold BlkS
 rw [upd_other D n1, upd_other D n3, upd_other D n4, upd_self, d1, d3, e2]
 rw [d3] at h5
 exact ⟨⟨h5, h6⟩, fun _ => rfl, fun h => (by cases h), fun h => (by cases h), fun _ => by simp⟩
theorem gb_call {s : Tmp} (hi : ops[i]? = some o) (hic : i = iC) (n1 : i1 ≠ iC) (n2 : i2 ≠ iC) (n4 : i4 ≠ iC) (hd : o.dst = some s) (hA : ∀ (g : Value × Value) v, A (v, g.2) = (A g).put (some s) v) (hw : ∀ g, Region.wanted o (yielded ops (A g).tmps) = true) (hk : (o.after.any fun e => Region.binds md e && decide (e.on = i2)) = true)
    (hrun : ∀ g, o.wp P (A g) W2 (fun a' w' => ∃ v, a' = (A g).put (some s) v ∧ R w' v) (fun _ _ _ => False)) : GhOk P md ops (BlkS i1 i2 iC i4 W0 W1 W2 R) A i o := by
 subst hic
 intro D g w hD hdep hS
 obtain ⟨⟨h5, h6⟩, h1, h2, h3, h4⟩ := hS
 have d2 := dep_on hdep hk
 obtain rfl : w = W2 := by rw [h4 hD, d2]; simp
 rw [if_pos (hw g)]
 refine Oper.wp_mono (fun a' w' ⟨v, e, hR⟩ => ?_) (hrun g)
 refine ⟨(v, g.2), ?_, ?_, ?_, ?_⟩
 · rw [hA g v, e]
 · intro s' _
   rw [e, hA g v]
 · intro s' hs'
   rw [hA g v]
   have hne : s ≠ s' := by
    rintro rfl
    have := hs' i o hi hd
    rw [hD] at this
    cases this
   simp only [Act.put]
   rw [Array.getElem?_setIfInBounds_ne hne]
 · unfold BlkS
   have d4 : D i4 = false := by
    cases h : D i4 with
    | false => rfl
    | true => rw [h5 h] at hD; cases hD
   rw [upd_other D n1, upd_other D n2, upd_other D n4, upd_self, d2, h1 d2, d4]
   exact ⟨⟨fun h => (by cases h), fun h => (by cases h)⟩, fun _ => rfl, fun _ => rfl, fun _ => hR, fun h => (by cases h)⟩
theorem gb_last {s : Tmp} (hi : ops[i]? = some o) (hi4 : i = i4) (n1 : i1 ≠ i4) (n2 : i2 ≠ i4) (n3 : iC ≠ i4) (hd : o.dst = some s) (hA : ∀ (g : Value × Value), A (g.1, g.1) = (A g).put (some s) g.1) (hw : ∀ g, Region.wanted o (yielded ops (A g).tmps) = true) (hk : (o.after.any fun e => Region.binds md e && decide (e.on = iC)) = true)
    (hrun : ∀ g w, o.wp P (A g) w (fun a' w' => a' = (A g).put (some s) g.1 ∧ w' = w) (fun _ _ _ => False)) : GhOk P md ops (BlkS i1 i2 iC i4 W0 W1 W2 R) A i o := by
 subst hi4
 intro D g w hD hdep hS
 obtain ⟨⟨h5, h6⟩, h1, h2, h3, h4⟩ := hS
 have d3 := dep_on hdep hk
 rw [if_pos (hw g)]
 refine Oper.wp_mono (fun a' w' ⟨e, e2⟩ => ?_) (hrun g w)
 refine ⟨(g.1, g.1), ?_, ?_, ?_, ?_⟩
 · rw [hA g, e]
 · intro s' _
   rw [e, hA g]
 · intro s' hs'
   rw [hA g]
   have hne : s ≠ s' := by
    rintro rfl
    have := hs' i o hi hd
    rw [hD] at this
    cases this
   simp only [Act.put]
   rw [Array.getElem?_setIfInBounds_ne hne]
 · unfold BlkS
   rw [upd_other D n1, upd_other D n2, upd_other D n3, upd_self, d3, e2]
   exact ⟨⟨fun _ => rfl, fun _ => rfl⟩, h1, fun _ => h2 d3, fun _ => h3 d3, fun h => (by cases h)⟩
end
end Go.Proofs.YtkibigbcdlilkaaGreatDoor
