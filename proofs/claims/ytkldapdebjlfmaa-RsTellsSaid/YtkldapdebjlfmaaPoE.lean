/- Contract of poly.Mul. -/
import Derived.Test.YtkldapdebjlfmaaPoD
import Derived.Stop.RegionWithIn
namespace Go.Proofs.Ytkldapdebjlfmaa
open Go.RowKit Go.Shelf
attribute [local go_sem] Oper.semAt_some run_store_func

/-- A region without a defer, inside a round. -/
theorem wpAnyIn_out {F : Fence} {n l : Nat} {P : Program} {md : Region.Mode} {ops : Array Oper} {Q : Exit → Act → World → Prop} (hp : ∀ (j : Nat) (o : Oper), ops[j]? = some o → ∀ c, o.op ≠ .defer c) :
    ∀ {fuel : Nat} {listed : Array Bool} {a : Act} {w : World}, wpAnyIn F n P md ops Q fuel listed a w → wpAnyIn (F.inRound l) n P md ops Q fuel listed a w := by
  have one : ∀ (i : Nat) (K K' : Act → World → Prop) (a : Act) (w : World), (∀ a w, K a w → K' a w) → wpOpIn F n P ops Q i K a w → wpOpIn (F.inRound l) n P ops Q i K' a w := by
    intro i K K' a w hK h
    have h := wpOpIn_mono hK h
    unfold wpOpIn at h ⊢
    cases hi : ops[i]? with
    | none => rw [hi] at h; exact h
    | some o =>
      rw [hi] at h
      simp only [] at h ⊢
      split
      · rename_i hw
        rw [if_pos hw] at h
        unfold Oper.wpIn at h ⊢
        refine ⟨h.1, ?_⟩
        have h2 := h.2
        rw [Oper.semAt_plain F _ _ (hp i o hi)] at h2
        rw [Oper.semAt_plain (F.inRound l) _ _ (hp i o hi)]
        exact h2
      · rename_i hw
        rw [if_neg hw] at h
        exact h
  intro fuel
  induction fuel with
  | zero => intro listed a w h; exact h
  | succ fuel ih =>
    intro listed a w h
    exact ⟨h.1, fun i hi => one i _ _ a w (fun a w h => ih h) (h.2 i hi)⟩
theorem plain_of {ops : Array Oper} (h : (ops.toList.all fun o => match o.op with | .defer _ => false | _ => true) = true) : ∀ (j : Nat) (o : Oper), ops[j]? = some o → ∀ c, o.op ≠ .defer c := by
  intro j o hj c e
  have h1 := List.all_eq_true.1 h o (by
    have := Array.mem_of_getElem? hj
    simpa using this)
  rw [e] at h1
  cases h1
theorem acc_step {M : Nat} (o : Nat) (g f : Nat → UInt8) (pre : List (Fin M)) (y : Fin M) (u : UInt8) (hu : acc o g f pre (o + y.val) = u) : (fun k => if k = o + y.val then u ^^^ g y.val else acc o g f pre k) = acc o g f (pre ++ [y]) := by
  rw [acc_snoc]
  funext k
  simp only [upd]
  split
  · rename_i h; rw [h, hu]
  · rfl
theorem ownFrom_keep {β : Type} {B B' g : Nat} {w₀ : World} (h1 : B ≤ w₀.heap.size) (h2 : B ≤ B') : OwnFrom B' (fun (_ : β) W => Keep B g w₀ W) :=
  fun _ X Y row hs hg hr => ⟨⟨hg.os.trans hs.1.1, hg.tape.trans hs.1.2.1, hg.output.trans hs.1.2.2.1, Nat.le_trans hs.1.2.2.2 hg.size⟩, fun k hk hkg => by
    have hsz := hs.1.2.2.2
    exact (hg.block k (by omega) (fun e => by have := (hr k e.symm).1; omega)).trans (hs.2 k hk hkg)⟩
theorem keepsFrom_below {B : Nat} {W W' : World} (h : Below W.heap.size W W') : KeepsFrom B W W' :=
  ⟨h.size, fun k _ _ hk _ => (h.block k (Array.getElem?_eq_some_iff.1 hk).1).trans hk⟩
theorem keepsFrom_set (B : Nat) {W : World} {g : Nat} {t : TypeId} {cs : Array Value} (_h : Rowed W g t cs) (j : Nat) (v : Value) : KeepsFrom B W (W.setCell ⟨g, j, none⟩ v) := (KeepsOthers.setCell W ⟨g, j, none⟩ v).from B

/-- The product, factor by factor. -/
def accM (p q : List UInt8) (pre : List (Fin p.length)) : Nat → UInt8 :=
  pre.foldl (fun f x => acc x.val (fun n => ma p[x] (C q n)) f (nzS q q.length)) (fun _ => 0)
theorem accM_snoc (p q : List UInt8) (pre : List (Fin p.length)) (x : Fin p.length) : accM p q (pre ++ [x]) = acc x.val (fun n => ma p[x] (C q n)) (accM p q pre) (nzS q q.length) := by simp [accM]
theorem PM_snoc (p : List UInt8) (a : UInt8) (f : Nat → UInt8) (n : Nat) : PM (p ++ [a]) f n = PM p f n ^^^ (if p.length ≤ n then ma a (f (n - p.length)) else 0) := by
  induction p generalizing n with
  | nil => simp [PM]; cases n <;> simp [sh]
  | cons b p ih =>
    simp only [List.cons_append, PM, List.length_cons]
    cases n with
    | zero => simp [sh]
    | succ n =>
      simp only [sh, ih]
      rw [x_assoc]
      congr 2
      by_cases h : p.length ≤ n
      · rw [if_pos h, if_pos (by omega), show n + 1 - (p.length + 1) = n - p.length by omega]
      · rw [if_neg h, if_neg (by omega)]
theorem accM_nz (p q : List UInt8) (k : Nat) (hk : k ≤ p.length) : accM p q (nzS p k) = PM (p.take k) (C q) := by
  induction k with
  | zero => rfl
  | succ k ih =>
    have hlt : k < p.length := by omega
    have e : nzS p (k + 1) = if p[k] = 0 then nzS p k else nzS p k ++ [⟨k, hlt⟩] := by simp only [nzS, dif_pos hlt]
    have ht : p.take (k + 1) = p.take k ++ [p[k]] := List.take_succ_eq_append_getElem hlt
    have hl : (p.take k).length = k := by rw [List.length_take]; omega
    funext j
    rw [e, ht, PM_snoc, hl]
    by_cases hz : p[k] = 0
    · rw [if_pos hz, ih (by omega), hz]
      split <;> simp [zero_ma]
    · rw [if_neg hz, accM_snoc, acc_nz q k _ _ (fun n h h0 => by simp only [C_get q n h, h0, ma_zero]) q.length (Nat.le_refl _), ih (by omega)]
      by_cases h1 : k ≤ j
      · rw [if_pos h1]
        by_cases h2 : j - k < q.length
        · rw [if_pos ⟨h1, h2⟩]; rfl
        · rw [if_neg (by omega), C_big q (j - k) (by omega), ma_zero, x_zero]
      · rw [if_neg h1, if_neg (by omega), x_zero]
theorem accM_all (p q : List UInt8) : accM p q (nzS p p.length) = PM p (C q) := by rw [accM_nz p q p.length (Nat.le_refl _), List.take_length]

theorem Mul8_any (a b : UInt8) (w : World) : Calls Try.prog 49 #[eB a, eB b] w fun e w' => e = .returned (eB (ma a b)) ∧ Below w.heap.size w w' := by
  have h := Mul_any a.toNat b.toNat a.toNat_lt b.toNat_lt w
  rw [← ma_toNat] at h
  exact h
theorem Keep.boxed {B g b : Nat} {W W' : World} {t : TypeId} {v : Value} (h : Keep B g W W') (hb : Boxed W b t v) (h1 : b < B) (h2 : b ≠ g) : Boxed W' b t v := (h.2 b h1 h2).trans hb
theorem below_of_keep {B g s : Nat} {w W W' : World} (h : Keep B g W W') (hB : Below s w W) (h1 : s ≤ B) (h2 : s ≤ g) : Below s w W' :=
  hB.trans ⟨h.1.1, h.1.2.1, h.1.2.2.1, h.1.2.2.2, fun k hk => h.2 k (by omega) (by omega)⟩

set_option maxRecDepth 100000 in
theorem gather_any (j : Nat) (c u : UInt8) (b g N : Nat) (f : Nat → UInt8) (hj : j < N) (hu : f j = u) (w : World) (hb : w.cell? ⟨b, 0, none⟩ = some (.slice (some ⟨g, 0, none⟩) N N)) (hr : Rowed w g 5 (cellsF f N)) :
    Calls Try.prog 58 #[.int .i64 j, eB c, .pointer (some ⟨b, 0, none⟩)] w fun e w' => (∃ v, e = .returned v) ∧ w' = w.setCell ⟨g, j, none⟩ (eB (u ^^^ c)) := by
  have cg := hr.cell j
  rw [cellsF_get f N j hj, hu] at cg
  have fg := hr.frozen j
  have hx := u8_xor u.toNat c.toNat u.toNat_lt c.toNat_lt
  clear hu hr
  go_enter Try.func58, Try.ntmps58
  go_wp2
  go_end0
  exact ⟨⟨_, rfl⟩, by simp only [eB, xor_toNat]⟩

set_option maxRecDepth 100000 in
set_option maxHeartbeats 4000000 in
theorem Mul_row (pv qv : Value) (p q : List UInt8) (hp : p.length ≤ 100000) (hq : q.length ≤ 100000) (w : World) (hP : Sl eB w.heap.size w pv p) (hQ : Sl eB w.heap.size w qv q) :
    Calls Try.prog 40 #[pv, qv] w fun e w' => ∃ v, e = .returned v ∧ Own8 w.heap.size w' v (tr (PM p (C q)) (p.length + q.length)) ∧ Below w.heap.size w w' := by
  refine (callsIn_wide (n := 9)).1 ?_
  obtain ⟨Ap, cp, rfl⟩ := hP.len
  obtain ⟨Aq, cq, rfl⟩ := hQ.len
  obtain ⟨N, hN⟩ : ∃ N : Nat, p.length + q.length = N := ⟨_, rfl⟩
  have hmk := fun w => make_run N (by omega) ((p.length : Int) + q.length) (by omega) w
  have HN := Lib.hid hN
  rw [hN]
  clear hN
  have hfp := fun w => factors_any Ap p.length cp w
  have hfq := fun w => factors_any Aq q.length cq w
  refine callsIn_of_wp_marks Try.func40 rfl trivial ?_ rfl
  simp only [Try.ntmps40, List.size_toArray, List.length_cons, List.length_nil, Nat.reduceAdd, Nat.reduceSub, Array.replicate_succ, Array.replicate_zero, List.push_toArray, List.append_toArray, List.nil_append, List.cons_append]
  gi_wp2_with (refine ⟨trivial, ?_⟩; gi_at_call 59; refine (callsIn_wide.2 (hfp _)).mono ?_; rintro e w' ⟨rfl, rfl⟩)
  obtain ⟨W0, hW0⟩ : ∃ W0, ((((w.alloc (.cells #[.slice Aq q.length cq] 22)).alloc (.cells (cellsF (fun _ => 0) N) 5)).alloc (.cells #[.slice (some ⟨w.heap.size + 1, 0, none⟩) N N] 22)).alloc (.cells #[.func (.func 58) #[] #[.pointer (some ⟨w.heap.size + 1 + 1, 0, none⟩)]] 64)).alloc (.cells #[.slice Ap p.length cp] 22) = W0 := ⟨_, rfl⟩
  have hs0 : W0.heap.size = w.heap.size + 5 := by rw [← hW0]; simp
  have hB0 : Below w.heap.size w W0 := by
    rw [← hW0]
    exact (((((Below.refl _ w).alloc (Nat.le_refl _) _).alloc (by simp) _).alloc (by simp; omega) _).alloc (by simp; omega) _).alloc (by simp; omega) _
  have bQ : Boxed W0 w.heap.size 22 (.slice Aq q.length cq) := by
    rw [← hW0]; exact ((((Boxed.new w _ _).alloc _).alloc _).alloc _).alloc _
  have rR : Rowed W0 (w.heap.size + 1) 5 (cellsF (fun _ => 0) N) := by
    rw [← hW0]
    have := (((Rowed.new (w.alloc (.cells #[.slice Aq q.length cq] 22)) 5 (cellsF (fun _ => 0) N)).alloc (.cells #[.slice (some ⟨w.heap.size + 1, 0, none⟩) N N] 22)).alloc (.cells #[.func (.func 58) #[] #[.pointer (some ⟨w.heap.size + 1 + 1, 0, none⟩)]] 64)).alloc (.cells #[.slice Ap p.length cp] 22)
    rw [World.size_alloc] at this
    exact this
  have bP : Boxed W0 (w.heap.size + 1 + 1) 22 (.slice (some ⟨w.heap.size + 1, 0, none⟩) N N) := by
    rw [← hW0]
    have := ((Boxed.new ((w.alloc (.cells #[.slice Aq q.length cq] 22)).alloc (.cells (cellsF (fun _ => 0) N) 5)) 22 (.slice (some ⟨w.heap.size + 1, 0, none⟩) N N)).alloc (.cells #[.func (.func 58) #[] #[.pointer (some ⟨w.heap.size + 1 + 1, 0, none⟩)]] 64)).alloc (.cells #[.slice Ap p.length cp] 22)
    rw [World.size_alloc, World.size_alloc] at this
    exact this
  have bG : Boxed W0 (w.heap.size + 1 + 1 + 1) 64 (.func (.func 58) #[] #[.pointer (some ⟨w.heap.size + 1 + 1, 0, none⟩)]) := by
    rw [← hW0]
    have := (Boxed.new (((w.alloc (.cells #[.slice Aq q.length cq] 22)).alloc (.cells (cellsF (fun _ => 0) N) 5)).alloc (.cells #[.slice (some ⟨w.heap.size + 1, 0, none⟩) N N] 22)) 64 (.func (.func 58) #[] #[.pointer (some ⟨w.heap.size + 1 + 1, 0, none⟩)])).alloc (.cells #[.slice Ap p.length cp] 22)
    rw [World.size_alloc, World.size_alloc, World.size_alloc] at this
    exact this
  have bF : Boxed W0 (w.heap.size + 1 + 1 + 1 + 1) 22 (.slice Ap p.length cp) := by
    rw [← hW0]
    have := Boxed.new ((((w.alloc (.cells #[.slice Aq q.length cq] 22)).alloc (.cells (cellsF (fun _ => 0) N) 5)).alloc (.cells #[.slice (some ⟨w.heap.size + 1, 0, none⟩) N N] 22)).alloc (.cells #[.func (.func 58) #[] #[.pointer (some ⟨w.heap.size + 1 + 1, 0, none⟩)]] 64)) 22 (.slice Ap p.length cp)
    rw [World.size_alloc, World.size_alloc, World.size_alloc, World.size_alloc] at this
    exact this
  rw [hW0]
  clear hW0 hmk hfp
  refine wpIn_rangeFunc_ownH rfl (by decide) (gf := 64) (lb := #[.pointer (some ⟨w.heap.size + 1 + 1 + 1 + 1, 0, none⟩)]) rfl trivial (enters_of Try.func64 (by kernel_rfl) rfl)
    (factors_stops 7 (w.heap.size + 1 + 1 + 1 + 1) w.heap.size W0.heap.size (w.heap.size + 1) _ p (by omega) W0 (by omega) (by omega) (by omega) bF.cell (hP.below hB0)) keep_t (keep_b (Nat.le_refl _)) (Below.refl _ _) (fun _ => rfl)
    (fun (pre : List (Fin p.length)) W => Rowed W (w.heap.size + 1) 5 (cellsF (accM p q pre) N) ∧ Keep W0.heap.size (w.heap.size + 1) W0 W)
    (fun _ _ _ => False)
    (OwnFrom.and (rowed_ownFrom (w.heap.size + 1) 5 (fun (pre : List (Fin p.length)) => cellsF (accM p q pre) N) _) (ownFrom_keep (Nat.le_refl _) (Nat.le_refl _)))
    (fun _ _ _ _ _ hs _ _ => hs)
    ⟨rR, keep_r _ _ _⟩
    (fun x a' W => ∃ Bi Bc, W0.heap.size ≤ Bi ∧ W0.heap.size ≤ Bc ∧ Boxed W Bi 3 (.int .i64 (x.val : Nat)) ∧ Boxed W Bc 5 (eB p[x]) ∧ a' = { tmps := #[.slice Ap p.length cp, .slice Aq q.length cq, undef, .pointer (some ⟨w.heap.size, 0, none⟩), .slice none 0 0, .pointer (some ⟨w.heap.size + 1 + 1, 0, none⟩), .pointer (some ⟨w.heap.size + 1 + 1 + 1, 0, none⟩), .pointer (some ⟨Bi, 0, none⟩), .pointer (some ⟨Bc, 0, none⟩), undef, undef, .slice Ap p.length cp, .int .i64 p.length, .slice Aq q.length cq, .int .i64 q.length, .int .i64 ((p.length : Int) + q.length), .slice (some ⟨w.heap.size + 1, 0, none⟩) N N, .func (.func 58) #[] #[.pointer (some ⟨w.heap.size + 1 + 1, 0, none⟩)], .slice Ap p.length cp, .func (.func 64) #[] #[.pointer (some ⟨w.heap.size + 1 + 1 + 1 + 1, 0, none⟩)], .int .i64 (x.val : Nat), eB p[x], undef, undef, undef, undef, undef, undef, undef, undef, undef, undef, undef, undef, undef, undef], defers := [] })
    (fun x a' _ X Y row hs hg hr => by
      obtain ⟨Bi, Bc, h1, h2, h3, h4, h5⟩ := hs
      exact ⟨Bi, Bc, h1, h2, boxed_own Bi 3 (fun (_ : Unit) => .int .i64 (x.val : Nat)) () X Y row h3 hg (fun r e => (hr r e).2), boxed_own Bc 5 (fun (_ : Unit) => eB p[x]) () X Y row h4 hg (fun r e => (hr r e).2), h5⟩)
    ?assign ?body ?done ?stop
  case assign =>
    rintro l pre x W K ⟨hR1, hK1⟩ hK
    have hsz := keep_size hK1
    have hba := Boxed.new (W.alloc (.cells #[.int .i64 (x.val : Nat)] 3)) 5 (eB p[x])
    have hbb := (Boxed.new W 3 (.int .i64 (x.val : Nat))).alloc (.cells #[eB p[x]] 5)
    rw [World.size_alloc] at hba
    have hBx : Below W0.heap.size W ((W.alloc (.cells #[.int .i64 (x.val : Nat)] 3)).alloc (.cells #[eB p[x]] 5)) := ((Below.refl _ W).alloc hsz _).alloc (by simp; omega) _
    gi_wp2
    exact hK _ _ (((KeepsOthers.alloc _ _).from _).trans ((KeepsOthers.alloc _ _).from _)) (keep_of hBx) ⟨(hR1.alloc _).alloc _, keep_t hK1 (keep_of hBx)⟩ ⟨W.heap.size, W.heap.size + 1, hsz, by omega, hbb, hba, rfl⟩
  case body =>
    rintro l pre x a' W hl ⟨r, hr⟩ ⟨hR1, hK1⟩ ⟨Bi, Bc, hBi, hBc, bi, bc, rfl⟩ hlt
    have hsz := keep_size hK1
    have bQ1 := Keep.boxed hK1 bQ (by omega) (by omega)
    have cQ := bQ1.cell
    have hBw := below_of_keep hK1 hB0 (by omega) (by omega)
    have h1' : 1 ≤ 9 - 1 - 1 := by omega
    gi_wp2_with (refine ⟨trivial, ?_⟩; gi_at_call 59; refine (CallsIn.inRound l (callsIn_wide.2 (hfq _))).mono ?_; rintro e w' ⟨rfl, rfl⟩)
    have bN := Boxed.new W 22 (.slice Aq q.length cq)
    have hA := below_alloc W (.cells #[.slice Aq q.length cq] 22)
    have hr' : (W.alloc (.cells #[.slice Aq q.length cq] 22)).heap[l]? = some (.loop r) := (Below.heap_alloc W _ l (Array.getElem?_eq_some_iff.1 hr).1).trans hr
    have hs1 : (W.alloc (.cells #[.slice Aq q.length cq] 22)).heap.size = W.heap.size + 1 := by simp
    refine wpIn_rangeFunc_ownN (l₀ := l) (r₀ := r) rfl hr' h1' (gf := 64) (lb := #[.pointer (some ⟨W.heap.size, 0, none⟩)]) rfl trivial (enters_of Try.func64 (by kernel_rfl) rfl)
      ((factors_stops 5 W.heap.size w.heap.size W0.heap.size (w.heap.size + 1) _ q (by omega) (W.alloc (.cells #[.slice Aq q.length cq] 22)) (by omega) (by omega) (by omega) bN.cell (hQ.below (hBw.trans (hA.mono (by omega))))).inRound l) keep_t (keep_b (by omega)) (Below.refl _ _) (fun _ => rfl)
      (fun (pre' : List (Fin q.length)) W' => (Rowed W' (w.heap.size + 1) 5 (cellsF (acc x.val (fun n => ma p[x] (C q n)) (accM p q pre) pre') N) ∧ (Boxed W' Bi 3 (.int .i64 (x.val : Nat)) ∧ Boxed W' Bc 5 (eB p[x]))) ∧ (Keep W0.heap.size (w.heap.size + 1) W W' ∧ KeepsFrom W0.heap.size W W'))
      (fun _ _ _ => False)
      (OwnFrom.and (OwnFrom.and (rowed_ownFrom (w.heap.size + 1) 5 (fun (pre' : List (Fin q.length)) => cellsF (acc x.val (fun n => ma p[x] (C q n)) (accM p q pre) pre') N) _) (OwnFrom.and (Own.from (boxed_own Bi 3 (fun (_ : List (Fin q.length)) => .int .i64 (x.val : Nat))) _) (Own.from (boxed_own Bc 5 (fun (_ : List (Fin q.length)) => eB p[x])) _))) (OwnFrom.and (ownFrom_keep hsz (by omega)) (ownFrom_keepsFrom (by omega))))
      (fun _ _ _ _ _ hs _ _ => hs)
      ⟨⟨hR1.alloc _, bi.alloc _, bc.alloc _⟩, keep_of (hA.mono hsz), (KeepsOthers.alloc _ _).from _⟩
      (fun y a'' _ => a'' = { tmps := #[.slice Ap p.length cp, .slice Aq q.length cq, undef, .pointer (some ⟨w.heap.size, 0, none⟩), .slice none 0 0, .pointer (some ⟨w.heap.size + 1 + 1, 0, none⟩), .pointer (some ⟨w.heap.size + 1 + 1 + 1, 0, none⟩), .pointer (some ⟨Bi, 0, none⟩), .pointer (some ⟨Bc, 0, none⟩), .int .i64 (y.val : Nat), eB q[y], .slice Ap p.length cp, .int .i64 p.length, .slice Aq q.length cq, .int .i64 q.length, .int .i64 ((p.length : Int) + q.length), .slice (some ⟨w.heap.size + 1, 0, none⟩) N N, .func (.func 58) #[] #[.pointer (some ⟨w.heap.size + 1 + 1, 0, none⟩)], .slice Ap p.length cp, .func (.func 64) #[] #[.pointer (some ⟨w.heap.size + 1 + 1 + 1 + 1, 0, none⟩)], .int .i64 (x.val : Nat), eB p[x], .slice Aq q.length cq, .func (.func 64) #[] #[.pointer (some ⟨W.heap.size, 0, none⟩)], .int .i64 (y.val : Nat), eB q[y], undef, undef, undef, undef, undef, undef, undef, undef, undef, undef], defers := [] })
      (fun _ _ _ _ _ _ hs _ _ => hs)
      ?assign2 ?body2 ?done2 ?stop2
    case assign2 =>
      rintro l2 pre' y W' K hi hK
      gi_wp2
      exact hK _ _ (KeepsFrom.refl _ _) (keep_r _ _ _) hi rfl
    case body2 =>
      rintro l2 pre' y a'' W' hl2 _ ⟨⟨hR2, bi2, bc2⟩, hK2, hKF⟩ rfl _
      have hsz2 := keep_size hK2
      have hK02 := keep_t hK1 hK2
      have hxy : x.val + y.val < N := by have := x.isLt; have := y.isLt; have := HN.out; omega
      have hx1 := x.isLt
      have hy1 := y.isLt
      have cG := (Keep.boxed hK02 bG (by omega) (by omega)).cell
      have cP := (Keep.boxed hK02 bP (by omega) (by omega)).cell
      have lP := (Keep.boxed hK02 bP (by omega) (by omega)).lt
      have lG := (Keep.boxed hK02 bG (by omega) (by omega)).lt
      have ci := bi2.cell
      have cc := bc2.cell
      have e1 : IntKind.i64.wrap ((x.val : Int) + y.val) = ((x.val + y.val : Nat) : Int) := by rw [IntWalk.i64_in _ (by omega)]; omega
      obtain ⟨u, hu⟩ : ∃ u, acc x.val (fun n => ma p[x] (C q n)) (accM p q pre) pre' (x.val + y.val) = u := ⟨_, rfl⟩
      have Hu := Lib.hid hu
      have hstep := acc_step x.val (fun n => ma p[x] (C q n)) (accM p q pre) pre' y u hu
      have hCy : C q y.val = q[y] := C_get q y.val hy1
      simp only [hCy] at hstep
      have Hstep := Lib.hid hstep
      have li := bi2.lt
      have lR := hR2.lt
      have hfin : ∀ w5 : World, Below W'.drew.heap.size W'.drew w5 →
          (∀ B, KeepsFrom B W' (w5.setCell ⟨w.heap.size + 1, x.val + y.val, none⟩ (eB (u ^^^ ma p[x] q[y])))) ∧ Keep W0.heap.size (w.heap.size + 1) W' (w5.setCell ⟨w.heap.size + 1, x.val + y.val, none⟩ (eB (u ^^^ ma p[x] q[y]))) ∧
          Rowed (w5.setCell ⟨w.heap.size + 1, x.val + y.val, none⟩ (eB (u ^^^ ma p[x] q[y]))) (w.heap.size + 1) 5 (cellsF (acc x.val (fun n => ma p[x] (C q n)) (accM p q pre) (pre' ++ [y])) N) ∧
          Boxed (w5.setCell ⟨w.heap.size + 1, x.val + y.val, none⟩ (eB (u ^^^ ma p[x] q[y]))) Bi 3 (.int .i64 (x.val : Nat)) ∧ Boxed (w5.setCell ⟨w.heap.size + 1, x.val + y.val, none⟩ (eB (u ^^^ ma p[x] q[y]))) Bc 5 (eB p[x]) ∧
          Keep W0.heap.size (w.heap.size + 1) W (w5.setCell ⟨w.heap.size + 1, x.val + y.val, none⟩ (eB (u ^^^ ma p[x] q[y]))) ∧ KeepsFrom W0.heap.size W (w5.setCell ⟨w.heap.size + 1, x.val + y.val, none⟩ (eB (u ^^^ ma p[x] q[y]))) := by
        intro w5 hB5
        have hd : Below W'.heap.size W' W'.drew := ⟨rfl, rfl, rfl, Nat.le_refl _, fun _ _ => rfl⟩
        have hB6 : Below W'.heap.size W' w5 := hd.trans hB5
        have r5 := hR2.below hB6 lR
        have kf : ∀ B, KeepsFrom B W' (w5.setCell ⟨w.heap.size + 1, x.val + y.val, none⟩ (eB (u ^^^ ma p[x] q[y]))) := fun B => (keepsFrom_below hB6).trans ((KeepsOthers.setCell _ _ _).from _)
        have ks : Keep W0.heap.size (w.heap.size + 1) W' (w5.setCell ⟨w.heap.size + 1, x.val + y.val, none⟩ (eB (u ^^^ ma p[x] q[y]))) := keep_t (keep_of (hB6.mono (by omega))) (keep_set _ _ _ _ _)
        have b5i : Boxed w5 Bi 3 (.int .i64 (x.val : Nat)) := (hB6.block _ bi2.lt).trans bi2
        have b5c : Boxed w5 Bc 5 (eB p[x]) := (hB6.block _ bc2.lt).trans bc2
        refine ⟨kf, ks, ?_, Boxed.kept b5i (grownBy_setCellAt w5 (w.heap.size + 1) _ _) (by simp; omega), Boxed.kept b5c (grownBy_setCellAt w5 (w.heap.size + 1) _ _) (by simp; omega), keep_t hK2 ks, hKF.trans (kf _)⟩
        have hset := r5.set (x.val + y.val) (eB (u ^^^ ma p[x] q[y]))
        rw [cellsF_set] at hset
        rw [← Hstep.out]
        exact hset
      clear hu hstep hCy hfq hr hr' bN hA hs1
      gi_wp2_with fail
      refine wpIn_region_any (by kernel_rfl) ?_
      refine wpAnyIn_out (plain_of rfl) ?_
      refine wpAnyIn_out (plain_of rfl) ?_
      change wpAnyIn _ _ _ _ _ _ _ _ _ (World.drew _)
      refine wpAnyIn_take (i := 2) (v := ?_) rfl rfl (by kernel_rfl) (by kernel_rfl) (by kernel_rfl) (fun _ _ _ h => h) ⟨Or.inl ⟨by rfl, ?_⟩, fun _ => rfl⟩ ?_
      rotate_left
      · intro w; go_simp; try with_reducible rfl
      refine wpAnyIn_take (i := 5) (v := ?_) rfl rfl (by kernel_rfl) (by kernel_rfl) (by kernel_rfl) (fun _ _ _ h => h) ⟨Or.inl ⟨by rfl, ?_⟩, fun _ => rfl⟩ ?_
      rotate_left
      · intro w; go_simp; try with_reducible rfl
      refine wpAnyIn_ready (rs := [0, 1, 4]) (by kernel_rfl) (by simp) ?_
      refine AllReadyIn.cons rfl (fun K hK => ?_) ?_
      · go_simp
        refine hK _ _ ?_
        clear hK K
        refine wpAnyIn_ready (rs := [1, 4]) (by kernel_rfl) (by simp) ?_
        refine AllReadyIn.cons rfl (fun K hK => ?_) ?_
        · go_simp
          refine hK _ _ ?_
          clear hK K
          refine wpAnyIn_take (i := 3) (v := ?_) rfl rfl (by kernel_rfl) (by kernel_rfl) (by kernel_rfl) (fun _ _ _ h => h) ⟨Or.inl ⟨by rfl, ?_⟩, fun _ => rfl⟩ ?_
          rotate_left
          · intro w; go_simp; try with_reducible rfl
          refine wpAnyIn_ready (rs := [4]) (by kernel_rfl) (by simp) ?_
          refine AllReadyIn.cons rfl (fun K hK => ?_) ?_
          · go_simp
            refine hK _ _ ?_
            clear hK K
            refine wpAnyIn_ready (rs := [6]) (by kernel_rfl) (by simp) ?_
            refine AllReadyIn.cons rfl (fun K hK => ?_) ?_
            · go_simp
              refine ⟨trivial, ?_⟩
              refine (callsIn_wide.2 (Mul8_any p[x] q[y] _)).mono ?_
              rintro e w5 ⟨rfl, hB5⟩
              have k6 := (hB5.cell (p := ⟨w.heap.size + 1 + 1 + 1, 0, none⟩) lG).trans cG
              have k7 := (hB5.cell (p := ⟨Bi, 0, none⟩) li).trans ci
              refine hK _ _ ?_
              clear hK K
              refine wpAnyIn_ready (rs := [7]) (by kernel_rfl) (by simp) ?_
              refine AllReadyIn.cons rfl (fun K hK => ?_) ?_
              · go_simp
                refine ⟨trivial, ?_⟩
                refine (callsIn_wide.2 (gather_any (x.val + y.val) _ u (w.heap.size + 1 + 1) (w.heap.size + 1) N _ hxy Hu.out _ ((hB5.cell (p := ⟨w.heap.size + 1 + 1, 0, none⟩) lP).trans cP) (Rowed.below (W := W'.drew) hR2 hB5 lR))).mono ?_
                rintro e w6 ⟨⟨v, rfl⟩, rfl⟩
                refine hK _ _ ?_
                clear hK K
                refine wpAnyIn_done (by kernel_rfl) ?_ _
                obtain ⟨f1, f2, f3, f4, f5, f6, f7⟩ := hfin w5 hB5
                gi_wp2
                exact ⟨f1 _, f2, ⟨f3, f4, f5⟩, f6, f7⟩
              exact AllReadyIn.nil
            exact AllReadyIn.nil
          exact AllReadyIn.nil
        refine AllReadyIn.cons rfl (fun K hK => ?_) ?_
        · go_simp
          refine hK _ _ ?_
          clear hK K
          refine wpAnyIn_ready (rs := [1, 6]) (by kernel_rfl) (by simp) ?_
          refine AllReadyIn.cons rfl (fun K hK => ?_) ?_
          · go_simp
            refine hK _ _ ?_
            clear hK K
            refine wpAnyIn_take (i := 3) (v := ?_) rfl rfl (by kernel_rfl) (by kernel_rfl) (by kernel_rfl) (fun _ _ _ h => h) ⟨Or.inl ⟨by rfl, ?_⟩, fun _ => rfl⟩ ?_
            rotate_left
            · intro w; go_simp; try with_reducible rfl
            refine wpAnyIn_ready (rs := [6]) (by kernel_rfl) (by simp) ?_
            refine AllReadyIn.cons rfl (fun K hK => ?_) ?_
            · go_simp
              refine ⟨trivial, ?_⟩
              refine (callsIn_wide.2 (Mul8_any p[x] q[y] _)).mono ?_
              rintro e w5 ⟨rfl, hB5⟩
              have k6 := (hB5.cell (p := ⟨w.heap.size + 1 + 1 + 1, 0, none⟩) lG).trans cG
              have k7 := (hB5.cell (p := ⟨Bi, 0, none⟩) li).trans ci
              refine hK _ _ ?_
              clear hK K
              refine wpAnyIn_ready (rs := [7]) (by kernel_rfl) (by simp) ?_
              refine AllReadyIn.cons rfl (fun K hK => ?_) ?_
              · go_simp
                refine ⟨trivial, ?_⟩
                refine (callsIn_wide.2 (gather_any (x.val + y.val) _ u (w.heap.size + 1 + 1) (w.heap.size + 1) N _ hxy Hu.out _ ((hB5.cell (p := ⟨w.heap.size + 1 + 1, 0, none⟩) lP).trans cP) (Rowed.below (W := W'.drew) hR2 hB5 lR))).mono ?_
                rintro e w6 ⟨⟨v, rfl⟩, rfl⟩
                refine hK _ _ ?_
                clear hK K
                refine wpAnyIn_done (by kernel_rfl) ?_ _
                obtain ⟨f1, f2, f3, f4, f5, f6, f7⟩ := hfin w5 hB5
                gi_wp2
                exact ⟨f1 _, f2, ⟨f3, f4, f5⟩, f6, f7⟩
              exact AllReadyIn.nil
            exact AllReadyIn.nil
          refine AllReadyIn.cons rfl (fun K hK => ?_) ?_
          · go_simp
            refine ⟨trivial, ?_⟩
            refine (callsIn_wide.2 (Mul8_any p[x] q[y] _)).mono ?_
            rintro e w5 ⟨rfl, hB5⟩
            have k6 := (hB5.cell (p := ⟨w.heap.size + 1 + 1 + 1, 0, none⟩) lG).trans cG
            have k7 := (hB5.cell (p := ⟨Bi, 0, none⟩) li).trans ci
            refine hK _ _ ?_
            clear hK K
            refine wpAnyIn_ready (rs := [1]) (by kernel_rfl) (by simp) ?_
            refine AllReadyIn.cons rfl (fun K hK => ?_) ?_
            · go_simp
              refine hK _ _ ?_
              clear hK K
              refine wpAnyIn_take (i := 3) (v := ?_) rfl rfl (by kernel_rfl) (by kernel_rfl) (by kernel_rfl) (fun _ _ _ h => h) ⟨Or.inl ⟨by rfl, ?_⟩, fun _ => rfl⟩ ?_
              rotate_left
              · intro w; go_simp; try with_reducible rfl
              refine wpAnyIn_ready (rs := [7]) (by kernel_rfl) (by simp) ?_
              refine AllReadyIn.cons rfl (fun K hK => ?_) ?_
              · go_simp
                refine ⟨trivial, ?_⟩
                refine (callsIn_wide.2 (gather_any (x.val + y.val) _ u (w.heap.size + 1 + 1) (w.heap.size + 1) N _ hxy Hu.out _ ((hB5.cell (p := ⟨w.heap.size + 1 + 1, 0, none⟩) lP).trans cP) (Rowed.below (W := W'.drew) hR2 hB5 lR))).mono ?_
                rintro e w6 ⟨⟨v, rfl⟩, rfl⟩
                refine hK _ _ ?_
                clear hK K
                refine wpAnyIn_done (by kernel_rfl) ?_ _
                obtain ⟨f1, f2, f3, f4, f5, f6, f7⟩ := hfin w5 hB5
                gi_wp2
                exact ⟨f1 _, f2, ⟨f3, f4, f5⟩, f6, f7⟩
              exact AllReadyIn.nil
            exact AllReadyIn.nil
          exact AllReadyIn.nil
        exact AllReadyIn.nil
      refine AllReadyIn.cons rfl (fun K hK => ?_) ?_
      · go_simp
        refine hK _ _ ?_
        clear hK K
        refine wpAnyIn_take (i := 3) (v := ?_) rfl rfl (by kernel_rfl) (by kernel_rfl) (by kernel_rfl) (fun _ _ _ h => h) ⟨Or.inl ⟨by rfl, ?_⟩, fun _ => rfl⟩ ?_
        rotate_left
        · intro w; go_simp; try with_reducible rfl
        refine wpAnyIn_ready (rs := [0, 4]) (by kernel_rfl) (by simp) ?_
        refine AllReadyIn.cons rfl (fun K hK => ?_) ?_
        · go_simp
          refine hK _ _ ?_
          clear hK K
          refine wpAnyIn_ready (rs := [4]) (by kernel_rfl) (by simp) ?_
          refine AllReadyIn.cons rfl (fun K hK => ?_) ?_
          · go_simp
            refine hK _ _ ?_
            clear hK K
            refine wpAnyIn_ready (rs := [6]) (by kernel_rfl) (by simp) ?_
            refine AllReadyIn.cons rfl (fun K hK => ?_) ?_
            · go_simp
              refine ⟨trivial, ?_⟩
              refine (callsIn_wide.2 (Mul8_any p[x] q[y] _)).mono ?_
              rintro e w5 ⟨rfl, hB5⟩
              have k6 := (hB5.cell (p := ⟨w.heap.size + 1 + 1 + 1, 0, none⟩) lG).trans cG
              have k7 := (hB5.cell (p := ⟨Bi, 0, none⟩) li).trans ci
              refine hK _ _ ?_
              clear hK K
              refine wpAnyIn_ready (rs := [7]) (by kernel_rfl) (by simp) ?_
              refine AllReadyIn.cons rfl (fun K hK => ?_) ?_
              · go_simp
                refine ⟨trivial, ?_⟩
                refine (callsIn_wide.2 (gather_any (x.val + y.val) _ u (w.heap.size + 1 + 1) (w.heap.size + 1) N _ hxy Hu.out _ ((hB5.cell (p := ⟨w.heap.size + 1 + 1, 0, none⟩) lP).trans cP) (Rowed.below (W := W'.drew) hR2 hB5 lR))).mono ?_
                rintro e w6 ⟨⟨v, rfl⟩, rfl⟩
                refine hK _ _ ?_
                clear hK K
                refine wpAnyIn_done (by kernel_rfl) ?_ _
                obtain ⟨f1, f2, f3, f4, f5, f6, f7⟩ := hfin w5 hB5
                gi_wp2
                exact ⟨f1 _, f2, ⟨f3, f4, f5⟩, f6, f7⟩
              exact AllReadyIn.nil
            exact AllReadyIn.nil
          exact AllReadyIn.nil
        refine AllReadyIn.cons rfl (fun K hK => ?_) ?_
        · go_simp
          refine hK _ _ ?_
          clear hK K
          refine wpAnyIn_ready (rs := [0, 6]) (by kernel_rfl) (by simp) ?_
          refine AllReadyIn.cons rfl (fun K hK => ?_) ?_
          · go_simp
            refine hK _ _ ?_
            clear hK K
            refine wpAnyIn_ready (rs := [6]) (by kernel_rfl) (by simp) ?_
            refine AllReadyIn.cons rfl (fun K hK => ?_) ?_
            · go_simp
              refine ⟨trivial, ?_⟩
              refine (callsIn_wide.2 (Mul8_any p[x] q[y] _)).mono ?_
              rintro e w5 ⟨rfl, hB5⟩
              have k6 := (hB5.cell (p := ⟨w.heap.size + 1 + 1 + 1, 0, none⟩) lG).trans cG
              have k7 := (hB5.cell (p := ⟨Bi, 0, none⟩) li).trans ci
              refine hK _ _ ?_
              clear hK K
              refine wpAnyIn_ready (rs := [7]) (by kernel_rfl) (by simp) ?_
              refine AllReadyIn.cons rfl (fun K hK => ?_) ?_
              · go_simp
                refine ⟨trivial, ?_⟩
                refine (callsIn_wide.2 (gather_any (x.val + y.val) _ u (w.heap.size + 1 + 1) (w.heap.size + 1) N _ hxy Hu.out _ ((hB5.cell (p := ⟨w.heap.size + 1 + 1, 0, none⟩) lP).trans cP) (Rowed.below (W := W'.drew) hR2 hB5 lR))).mono ?_
                rintro e w6 ⟨⟨v, rfl⟩, rfl⟩
                refine hK _ _ ?_
                clear hK K
                refine wpAnyIn_done (by kernel_rfl) ?_ _
                obtain ⟨f1, f2, f3, f4, f5, f6, f7⟩ := hfin w5 hB5
                gi_wp2
                exact ⟨f1 _, f2, ⟨f3, f4, f5⟩, f6, f7⟩
              exact AllReadyIn.nil
            exact AllReadyIn.nil
          refine AllReadyIn.cons rfl (fun K hK => ?_) ?_
          · go_simp
            refine ⟨trivial, ?_⟩
            refine (callsIn_wide.2 (Mul8_any p[x] q[y] _)).mono ?_
            rintro e w5 ⟨rfl, hB5⟩
            have k6 := (hB5.cell (p := ⟨w.heap.size + 1 + 1 + 1, 0, none⟩) lG).trans cG
            have k7 := (hB5.cell (p := ⟨Bi, 0, none⟩) li).trans ci
            refine hK _ _ ?_
            clear hK K
            refine wpAnyIn_ready (rs := [0]) (by kernel_rfl) (by simp) ?_
            refine AllReadyIn.cons rfl (fun K hK => ?_) ?_
            · go_simp
              refine hK _ _ ?_
              clear hK K
              refine wpAnyIn_ready (rs := [7]) (by kernel_rfl) (by simp) ?_
              refine AllReadyIn.cons rfl (fun K hK => ?_) ?_
              · go_simp
                refine ⟨trivial, ?_⟩
                refine (callsIn_wide.2 (gather_any (x.val + y.val) _ u (w.heap.size + 1 + 1) (w.heap.size + 1) N _ hxy Hu.out _ ((hB5.cell (p := ⟨w.heap.size + 1 + 1, 0, none⟩) lP).trans cP) (Rowed.below (W := W'.drew) hR2 hB5 lR))).mono ?_
                rintro e w6 ⟨⟨v, rfl⟩, rfl⟩
                refine hK _ _ ?_
                clear hK K
                refine wpAnyIn_done (by kernel_rfl) ?_ _
                obtain ⟨f1, f2, f3, f4, f5, f6, f7⟩ := hfin w5 hB5
                gi_wp2
                exact ⟨f1 _, f2, ⟨f3, f4, f5⟩, f6, f7⟩
              exact AllReadyIn.nil
            exact AllReadyIn.nil
          exact AllReadyIn.nil
        exact AllReadyIn.nil
      refine AllReadyIn.cons rfl (fun K hK => ?_) ?_
      · go_simp
        refine hK _ _ ?_
        clear hK K
        refine wpAnyIn_ready (rs := [0, 1, 6]) (by kernel_rfl) (by simp) ?_
        refine AllReadyIn.cons rfl (fun K hK => ?_) ?_
        · go_simp
          refine hK _ _ ?_
          clear hK K
          refine wpAnyIn_ready (rs := [1, 6]) (by kernel_rfl) (by simp) ?_
          refine AllReadyIn.cons rfl (fun K hK => ?_) ?_
          · go_simp
            refine hK _ _ ?_
            clear hK K
            refine wpAnyIn_take (i := 3) (v := ?_) rfl rfl (by kernel_rfl) (by kernel_rfl) (by kernel_rfl) (fun _ _ _ h => h) ⟨Or.inl ⟨by rfl, ?_⟩, fun _ => rfl⟩ ?_
            rotate_left
            · intro w; go_simp; try with_reducible rfl
            refine wpAnyIn_ready (rs := [6]) (by kernel_rfl) (by simp) ?_
            refine AllReadyIn.cons rfl (fun K hK => ?_) ?_
            · go_simp
              refine ⟨trivial, ?_⟩
              refine (callsIn_wide.2 (Mul8_any p[x] q[y] _)).mono ?_
              rintro e w5 ⟨rfl, hB5⟩
              have k6 := (hB5.cell (p := ⟨w.heap.size + 1 + 1 + 1, 0, none⟩) lG).trans cG
              have k7 := (hB5.cell (p := ⟨Bi, 0, none⟩) li).trans ci
              refine hK _ _ ?_
              clear hK K
              refine wpAnyIn_ready (rs := [7]) (by kernel_rfl) (by simp) ?_
              refine AllReadyIn.cons rfl (fun K hK => ?_) ?_
              · go_simp
                refine ⟨trivial, ?_⟩
                refine (callsIn_wide.2 (gather_any (x.val + y.val) _ u (w.heap.size + 1 + 1) (w.heap.size + 1) N _ hxy Hu.out _ ((hB5.cell (p := ⟨w.heap.size + 1 + 1, 0, none⟩) lP).trans cP) (Rowed.below (W := W'.drew) hR2 hB5 lR))).mono ?_
                rintro e w6 ⟨⟨v, rfl⟩, rfl⟩
                refine hK _ _ ?_
                clear hK K
                refine wpAnyIn_done (by kernel_rfl) ?_ _
                obtain ⟨f1, f2, f3, f4, f5, f6, f7⟩ := hfin w5 hB5
                gi_wp2
                exact ⟨f1 _, f2, ⟨f3, f4, f5⟩, f6, f7⟩
              exact AllReadyIn.nil
            exact AllReadyIn.nil
          refine AllReadyIn.cons rfl (fun K hK => ?_) ?_
          · go_simp
            refine ⟨trivial, ?_⟩
            refine (callsIn_wide.2 (Mul8_any p[x] q[y] _)).mono ?_
            rintro e w5 ⟨rfl, hB5⟩
            have k6 := (hB5.cell (p := ⟨w.heap.size + 1 + 1 + 1, 0, none⟩) lG).trans cG
            have k7 := (hB5.cell (p := ⟨Bi, 0, none⟩) li).trans ci
            refine hK _ _ ?_
            clear hK K
            refine wpAnyIn_ready (rs := [1]) (by kernel_rfl) (by simp) ?_
            refine AllReadyIn.cons rfl (fun K hK => ?_) ?_
            · go_simp
              refine hK _ _ ?_
              clear hK K
              refine wpAnyIn_take (i := 3) (v := ?_) rfl rfl (by kernel_rfl) (by kernel_rfl) (by kernel_rfl) (fun _ _ _ h => h) ⟨Or.inl ⟨by rfl, ?_⟩, fun _ => rfl⟩ ?_
              rotate_left
              · intro w; go_simp; try with_reducible rfl
              refine wpAnyIn_ready (rs := [7]) (by kernel_rfl) (by simp) ?_
              refine AllReadyIn.cons rfl (fun K hK => ?_) ?_
              · go_simp
                refine ⟨trivial, ?_⟩
                refine (callsIn_wide.2 (gather_any (x.val + y.val) _ u (w.heap.size + 1 + 1) (w.heap.size + 1) N _ hxy Hu.out _ ((hB5.cell (p := ⟨w.heap.size + 1 + 1, 0, none⟩) lP).trans cP) (Rowed.below (W := W'.drew) hR2 hB5 lR))).mono ?_
                rintro e w6 ⟨⟨v, rfl⟩, rfl⟩
                refine hK _ _ ?_
                clear hK K
                refine wpAnyIn_done (by kernel_rfl) ?_ _
                obtain ⟨f1, f2, f3, f4, f5, f6, f7⟩ := hfin w5 hB5
                gi_wp2
                exact ⟨f1 _, f2, ⟨f3, f4, f5⟩, f6, f7⟩
              exact AllReadyIn.nil
            exact AllReadyIn.nil
          exact AllReadyIn.nil
        refine AllReadyIn.cons rfl (fun K hK => ?_) ?_
        · go_simp
          refine hK _ _ ?_
          clear hK K
          refine wpAnyIn_take (i := 3) (v := ?_) rfl rfl (by kernel_rfl) (by kernel_rfl) (by kernel_rfl) (fun _ _ _ h => h) ⟨Or.inl ⟨by rfl, ?_⟩, fun _ => rfl⟩ ?_
          rotate_left
          · intro w; go_simp; try with_reducible rfl
          refine wpAnyIn_ready (rs := [0, 6]) (by kernel_rfl) (by simp) ?_
          refine AllReadyIn.cons rfl (fun K hK => ?_) ?_
          · go_simp
            refine hK _ _ ?_
            clear hK K
            refine wpAnyIn_ready (rs := [6]) (by kernel_rfl) (by simp) ?_
            refine AllReadyIn.cons rfl (fun K hK => ?_) ?_
            · go_simp
              refine ⟨trivial, ?_⟩
              refine (callsIn_wide.2 (Mul8_any p[x] q[y] _)).mono ?_
              rintro e w5 ⟨rfl, hB5⟩
              have k6 := (hB5.cell (p := ⟨w.heap.size + 1 + 1 + 1, 0, none⟩) lG).trans cG
              have k7 := (hB5.cell (p := ⟨Bi, 0, none⟩) li).trans ci
              refine hK _ _ ?_
              clear hK K
              refine wpAnyIn_ready (rs := [7]) (by kernel_rfl) (by simp) ?_
              refine AllReadyIn.cons rfl (fun K hK => ?_) ?_
              · go_simp
                refine ⟨trivial, ?_⟩
                refine (callsIn_wide.2 (gather_any (x.val + y.val) _ u (w.heap.size + 1 + 1) (w.heap.size + 1) N _ hxy Hu.out _ ((hB5.cell (p := ⟨w.heap.size + 1 + 1, 0, none⟩) lP).trans cP) (Rowed.below (W := W'.drew) hR2 hB5 lR))).mono ?_
                rintro e w6 ⟨⟨v, rfl⟩, rfl⟩
                refine hK _ _ ?_
                clear hK K
                refine wpAnyIn_done (by kernel_rfl) ?_ _
                obtain ⟨f1, f2, f3, f4, f5, f6, f7⟩ := hfin w5 hB5
                gi_wp2
                exact ⟨f1 _, f2, ⟨f3, f4, f5⟩, f6, f7⟩
              exact AllReadyIn.nil
            exact AllReadyIn.nil
          refine AllReadyIn.cons rfl (fun K hK => ?_) ?_
          · go_simp
            refine ⟨trivial, ?_⟩
            refine (callsIn_wide.2 (Mul8_any p[x] q[y] _)).mono ?_
            rintro e w5 ⟨rfl, hB5⟩
            have k6 := (hB5.cell (p := ⟨w.heap.size + 1 + 1 + 1, 0, none⟩) lG).trans cG
            have k7 := (hB5.cell (p := ⟨Bi, 0, none⟩) li).trans ci
            refine hK _ _ ?_
            clear hK K
            refine wpAnyIn_ready (rs := [0]) (by kernel_rfl) (by simp) ?_
            refine AllReadyIn.cons rfl (fun K hK => ?_) ?_
            · go_simp
              refine hK _ _ ?_
              clear hK K
              refine wpAnyIn_ready (rs := [7]) (by kernel_rfl) (by simp) ?_
              refine AllReadyIn.cons rfl (fun K hK => ?_) ?_
              · go_simp
                refine ⟨trivial, ?_⟩
                refine (callsIn_wide.2 (gather_any (x.val + y.val) _ u (w.heap.size + 1 + 1) (w.heap.size + 1) N _ hxy Hu.out _ ((hB5.cell (p := ⟨w.heap.size + 1 + 1, 0, none⟩) lP).trans cP) (Rowed.below (W := W'.drew) hR2 hB5 lR))).mono ?_
                rintro e w6 ⟨⟨v, rfl⟩, rfl⟩
                refine hK _ _ ?_
                clear hK K
                refine wpAnyIn_done (by kernel_rfl) ?_ _
                obtain ⟨f1, f2, f3, f4, f5, f6, f7⟩ := hfin w5 hB5
                gi_wp2
                exact ⟨f1 _, f2, ⟨f3, f4, f5⟩, f6, f7⟩
              exact AllReadyIn.nil
            exact AllReadyIn.nil
          exact AllReadyIn.nil
        refine AllReadyIn.cons rfl (fun K hK => ?_) ?_
        · go_simp
          refine ⟨trivial, ?_⟩
          refine (callsIn_wide.2 (Mul8_any p[x] q[y] _)).mono ?_
          rintro e w5 ⟨rfl, hB5⟩
          have k6 := (hB5.cell (p := ⟨w.heap.size + 1 + 1 + 1, 0, none⟩) lG).trans cG
          have k7 := (hB5.cell (p := ⟨Bi, 0, none⟩) li).trans ci
          refine hK _ _ ?_
          clear hK K
          refine wpAnyIn_ready (rs := [0, 1]) (by kernel_rfl) (by simp) ?_
          refine AllReadyIn.cons rfl (fun K hK => ?_) ?_
          · go_simp
            refine hK _ _ ?_
            clear hK K
            refine wpAnyIn_ready (rs := [1]) (by kernel_rfl) (by simp) ?_
            refine AllReadyIn.cons rfl (fun K hK => ?_) ?_
            · go_simp
              refine hK _ _ ?_
              clear hK K
              refine wpAnyIn_take (i := 3) (v := ?_) rfl rfl (by kernel_rfl) (by kernel_rfl) (by kernel_rfl) (fun _ _ _ h => h) ⟨Or.inl ⟨by rfl, ?_⟩, fun _ => rfl⟩ ?_
              rotate_left
              · intro w; go_simp; try with_reducible rfl
              refine wpAnyIn_ready (rs := [7]) (by kernel_rfl) (by simp) ?_
              refine AllReadyIn.cons rfl (fun K hK => ?_) ?_
              · go_simp
                refine ⟨trivial, ?_⟩
                refine (callsIn_wide.2 (gather_any (x.val + y.val) _ u (w.heap.size + 1 + 1) (w.heap.size + 1) N _ hxy Hu.out _ ((hB5.cell (p := ⟨w.heap.size + 1 + 1, 0, none⟩) lP).trans cP) (Rowed.below (W := W'.drew) hR2 hB5 lR))).mono ?_
                rintro e w6 ⟨⟨v, rfl⟩, rfl⟩
                refine hK _ _ ?_
                clear hK K
                refine wpAnyIn_done (by kernel_rfl) ?_ _
                obtain ⟨f1, f2, f3, f4, f5, f6, f7⟩ := hfin w5 hB5
                gi_wp2
                exact ⟨f1 _, f2, ⟨f3, f4, f5⟩, f6, f7⟩
              exact AllReadyIn.nil
            exact AllReadyIn.nil
          refine AllReadyIn.cons rfl (fun K hK => ?_) ?_
          · go_simp
            refine hK _ _ ?_
            clear hK K
            refine wpAnyIn_take (i := 3) (v := ?_) rfl rfl (by kernel_rfl) (by kernel_rfl) (by kernel_rfl) (fun _ _ _ h => h) ⟨Or.inl ⟨by rfl, ?_⟩, fun _ => rfl⟩ ?_
            rotate_left
            · intro w; go_simp; try with_reducible rfl
            refine wpAnyIn_ready (rs := [0]) (by kernel_rfl) (by simp) ?_
            refine AllReadyIn.cons rfl (fun K hK => ?_) ?_
            · go_simp
              refine hK _ _ ?_
              clear hK K
              refine wpAnyIn_ready (rs := [7]) (by kernel_rfl) (by simp) ?_
              refine AllReadyIn.cons rfl (fun K hK => ?_) ?_
              · go_simp
                refine ⟨trivial, ?_⟩
                refine (callsIn_wide.2 (gather_any (x.val + y.val) _ u (w.heap.size + 1 + 1) (w.heap.size + 1) N _ hxy Hu.out _ ((hB5.cell (p := ⟨w.heap.size + 1 + 1, 0, none⟩) lP).trans cP) (Rowed.below (W := W'.drew) hR2 hB5 lR))).mono ?_
                rintro e w6 ⟨⟨v, rfl⟩, rfl⟩
                refine hK _ _ ?_
                clear hK K
                refine wpAnyIn_done (by kernel_rfl) ?_ _
                obtain ⟨f1, f2, f3, f4, f5, f6, f7⟩ := hfin w5 hB5
                gi_wp2
                exact ⟨f1 _, f2, ⟨f3, f4, f5⟩, f6, f7⟩
              exact AllReadyIn.nil
            exact AllReadyIn.nil
          exact AllReadyIn.nil
        exact AllReadyIn.nil
      exact AllReadyIn.nil
    case done2 =>
      rintro ys' W' rfl ⟨⟨hR2, -⟩, hK2, hKF⟩
      gi_wp2
      exact ⟨hKF, hK2, by rw [accM_snoc]; exact hR2, keep_t hK1 hK2⟩
    case stop2 =>
      rintro c pre' W' _ h
      exact h.elim
  case done =>
    rintro D ys W hD rfl ⟨hR1, hK1⟩ hK
    rw [accM_all] at hR1
    have hsz := keep_size hK1
    have hBw := below_of_keep hK1 hB0 (by omega) (by omega)
    have hc := (Keep.boxed hK1 bP (by omega) (by omega)).cell
    have hDl := (Array.getElem?_eq_some_iff.1 hK).1
    have hSr := sl_cellsF hR1 W.heap.size hR1.lt
    have hNp := HN.out
    have htr := fun W hS => Trim_any (.slice (some ⟨w.heap.size + 1, 0, none⟩) N N) ((List.range N).map (PM p (C q))) (by simp; omega) W hS
    rw [C_range _ N (fun k hk => PM_big' p q k (by omega)), List.length_map, List.length_range] at htr
    gi_wp2_with fail
    refine ⟨trivial, ?_⟩
    gi_at_call 60
    refine (callsIn_wide.2 (htr _ hSr)).mono ?_
    rintro e w4 ⟨v4, rfl, hv4, hB4⟩
    have hK4 := (hB4.block D hDl).trans hK
    gi_wp2
    refine ⟨by simp, .inl ⟨_, _, rfl, run_takeDeferred hK4, ?_⟩⟩
    have hsW := hBw.size
    exact ⟨_, results_tmp rfl _ _ _, v4, rfl, (hv4.put D _ hDl).mono (by omega), (hBw.trans (hB4.mono hsW)).trans (belowK_b (w := w) (Nat.le_refl _) _ D _ _ (by omega) hK4 rfl rfl)⟩
  case stop =>
    rintro D c pre W hD hpre h hK
    exact h.elim
end Go.Proofs.Ytkldapdebjlfmaa
