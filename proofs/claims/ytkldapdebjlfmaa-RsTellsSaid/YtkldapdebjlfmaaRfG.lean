/- Contract of helixref04.Divide. -/
import Derived.Test.YtkldapdebjlfmaaRfF
import Derived.Test.YtkldapdebjlfmaaDm
namespace Go.Proofs.Ytkldapdebjlfmaa
open Go.RowKit Go.Shelf
attribute [local go_sem] Oper.semAt_some

def shF (n : Nat) (f : Nat → UInt8) : Nat → UInt8 := fun j => if j < n then 0 else f (j - n)
theorem C_shN (n : Nat) (r : List UInt8) : C (shN n r) = shF n (C r) := by
  funext j
  simp only [C, shN, shF]
  by_cases h : j < n
  · rw [if_pos h, List.getElem?_append_left (by simpa using h), List.getElem?_replicate, if_pos h]; rfl
  · rw [if_neg h, List.getElem?_append_right (by simp; omega), List.length_replicate]
theorem shF_succ (n : Nat) (f : Nat → UInt8) : shF (n + 1) f = sh (shF n f) := by
  funext j
  cases j with
  | zero => simp [shF, sh]
  | succ j =>
    show (if j + 1 < n + 1 then 0 else f (j + 1 - (n + 1))) = (if j < n then 0 else f (j - n))
    by_cases h : j < n
    · rw [if_pos h, if_pos (by omega)]
    · rw [if_neg h, if_neg (by omega), show j + 1 - (n + 1) = j - n by omega]
theorem PM_shN (n : Nat) (r s : List UInt8) : PM (shN n r) (C s) = shF n (PM r (C s)) := by
  induction n with
  | zero => funext j; simp [shN, shF]
  | succ n ih =>
    rw [shF_succ, ← ih, ← PM_nought]
    rfl
theorem PM_single (c : UInt8) (s : List UInt8) : PM [c] (C s) = fun k => ma c (C s k) := by
  funext k
  show ma c (C s k) ^^^ sh (fun _ => 0) k = _
  have : sh (fun _ => (0 : UInt8)) k = 0 := by cases k <;> rfl
  rw [this, x_zero]
theorem shN_len (n : Nat) (r : List UInt8) : (shN n r).length = n + r.length := by simp [shN]
/-- One step of the long division. -/
theorem step_is {T P Q : List UInt8} {f : Nat → UInt8} (c : UInt8) (n : Nat) (ht : 0 < T.length) (hlp : T.length ≤ P.length) (hn : n = P.length - T.length) (hc : ma c (C T (T.length - 1)) = C P (P.length - 1)) (hf : f = fun x => PM Q (C T) x ^^^ C P x)
    (S1 S2 T' Q2 P2 : List UInt8) (h1 : S1 = tr (C (shN n [c])) (shN n [c]).length) (hT : T' = tr (fun k => ma c (C T k)) (T.length + 1)) (h2 : S2 = tr (C (shN n T')) (shN n T').length)
    (hQ2 : Q2 = tr (fun k => C Q k ^^^ C S1 k) (max Q.length S1.length)) (hP2 : P2 = tr (fun k => C P k ^^^ C S2 k) (max P.length S2.length)) :
    (f = fun x => PM Q2 (C T) x ^^^ C P2 x) ∧ P2.length < P.length ∧ Trd P2 ∧ Q2.length ≤ max Q.length (n + 1) ∧ T'.length ≤ T.length + 1 ∧ S1.length ≤ n + 1 ∧ S2.length ≤ n + T.length + 1 := by
  have cS1 : C S1 = shF n (C [c]) := by rw [h1, C_tr _ _ (fun k hk => C_big _ k hk), C_shN]
  have cT' : C T' = fun k => ma c (C T k) := by rw [hT]; exact C_tr _ _ (fun k hk => by rw [C_big T k (by omega), ma_zero])
  have cS2 : C S2 = shF n (fun k => ma c (C T k)) := by rw [h2, C_tr _ _ (fun k hk => C_big _ k hk), C_shN, cT']
  have cQ2 : C Q2 = fun k => C Q k ^^^ C S1 k := by rw [hQ2]; exact C_tr _ _ (sum_big Q S1 _ (by omega) (by omega))
  have cP2 : C P2 = fun k => C P k ^^^ C S2 k := by rw [hP2]; exact C_tr _ _ (sum_big P S2 _ (by omega) (by omega))
  have lT' : T'.length ≤ T.length + 1 := by rw [hT, tr_length]; exact tl_le _ _
  have lS1 : S1.length ≤ n + 1 := by rw [h1, tr_length]; exact Nat.le_trans (tl_le _ _) (by rw [shN_len]; simp)
  have lS2 : S2.length ≤ n + T.length + 1 := by rw [h2, tr_length]; exact Nat.le_trans (tl_le _ _) (by rw [shN_len]; omega)
  refine ⟨?_, ?_, by rw [hP2]; exact tr_trd _ _, by rw [hQ2, tr_length]; exact Nat.le_trans (tl_le _ _) (by omega), lT', lS1, lS2⟩
  · have e : PM S1 (C T) = shF n (fun k => ma c (C T k)) := by rw [PM_congr (q := shN n [c]) (by rw [cS1, C_shN]), PM_shN, PM_single]
    rw [PM_add (fun k => congrFun cQ2 k) T, cP2, cS2, hf, e]
    funext x
    show PM Q (C T) x ^^^ C P x = (PM Q (C T) x ^^^ shF n (fun k => ma c (C T k)) x) ^^^ (C P x ^^^ shF n (fun k => ma c (C T k)) x)
    rw [x_four, x_self, x_zero]
  · rw [hP2, tr_length]
    have hz : ∀ j, P.length - 1 ≤ j → C P j ^^^ C S2 j = 0 := by
      intro j hj
      rw [cS2]
      show C P j ^^^ (if j < n then 0 else ma c (C T (j - n))) = 0
      rw [if_neg (by omega)]
      by_cases e : j = P.length - 1
      · subst e
        rw [show P.length - 1 - n = T.length - 1 by omega, hc, x_self]
      · rw [C_big P j (by omega), C_big T _ (by omega), ma_zero, x_self]
    have := tl_below (fun k => C P k ^^^ C S2 k) (max P.length S2.length) (P.length - 1) (fun j hj _ => hz j hj)
    omega

theorem div_ex (a b : UInt8) (h : b ≠ 0) : ∃ c, ma c b = a := by
  obtain ⟨D, h1, h2, h3⟩ := inv_is b h
  have e : (UInt8.ofNat D).toNat = D := by simp; omega
  have hi : ma b (UInt8.ofNat D) = 1 := b_ext (by rw [ma_toNat, e, h3]; rfl)
  exact ⟨ma a (UInt8.ofNat D), by rw [ma_assoc, ma_comm _ b, hi, ma_one]⟩
theorem RDiv_is (a b c : UInt8) (h : b ≠ 0) (hc : ma c b = a) (w : World) :
    Calls Try.prog 50 #[eB a, eB b] w fun e w' => e = .returned (.tuple #[eB c, .int .i64 0]) ∧ w = w' := by
  refine (RDiv_any a b h w).mono ?_
  rintro e w' ⟨d, hd, rfl, rfl⟩
  have : d = c := by
    by_cases hz : d ^^^ c = 0
    · exact (x_eq_zero d c).1 hz
    · have := ma_ne _ _ hz h
      rw [xor_ma, hd, hc, x_self] at this
      exact absurd rfl this
  subst this
  exact ⟨rfl, rfl⟩
theorem ownGrow {B : Nat} {W W' : World} {v : Value} {bs : List UInt8} (h : Own8 B W v bs) (hB : Below W.heap.size W W') : Own8 B W' v bs :=
  World.ownsRow.kept h (row := none) ⟨hB.os, hB.tape, hB.output, hB.size, fun k hk _ => hB.block k hk⟩ (by
    cases hv : v.ownBlock with
    | none => exact .inl rfl
    | some k => exact .inr (fun e => by cases e))
def lenOf0 : Value → Nat
  | .slice _ n _ => n
  | _ => 0
theorem Sl.nilB (B : Nat) (w : World) : Sl eB B w (.slice none 0 0) [] := ⟨none, 0, rfl, Nat.le_refl _, fun h => absurd h (by simp)⟩

set_option maxRecDepth 100000 in
set_option maxHeartbeats 4000000 in
theorem RDivide_no (pv qv : Value) (p q : List UInt8) (hp : p.length ≤ 600) (hq : q.length ≤ 600) (hz : tr (C q) q.length = []) (w : World) (hP : Sl eB w.heap.size w pv p) (hQ : Sl eB w.heap.size w qv q) :
    Calls Try.prog 30 #[pv, qv] w fun e w' => e = .returned (.tuple #[.slice none 0 0, .slice none 0 0, .int .i64 30]) ∧ Below w.heap.size w w' := by
  have hTp := RTrim_any pv p (by omega) w hP
  have hTq := fun w h => RTrim_any qv q (by omega) w h
  rw [hz] at hTq
  go_enter Try.func30, Try.ntmps30
  go_wp2_with fail
  go_at_call 45
  refine hTp.mono ?_
  rintro e w1 ⟨v1, rfl, hv1, hB1⟩
  go_wp2_with fail
  go_at_call 45
  refine (hTq w1 (hQ.next hB1)).mono ?_
  rintro e w2 ⟨v2, rfl, hv2, hB2⟩
  obtain ⟨A2, c2, rfl⟩ := hv2.sl.len
  clear hTp hTq
  go_wp2
  go_ret3
  exact ⟨rfl, below_trans hB1 hB2⟩

set_option maxRecDepth 100000 in
set_option maxHeartbeats 8000000 in
theorem RDivide_own (pv qv : Value) (p q : List UInt8) (hp : p.length ≤ 600) (hq : q.length ≤ 600) (hm : 0 < tl (C q) q.length) (w : World) (hP : Sl eB w.heap.size w pv p) (hQ : Sl eB w.heap.size w qv q) :
    Calls Try.prog 30 #[pv, qv] w fun e w' => ∃ vq vr Q R, DivOk p q Q R ∧ e = .returned (.tuple #[vq, vr, .int .i64 0]) ∧ Sl eB w'.heap.size w' vq Q ∧ Own8 w.heap.size w' vr R ∧ Below w.heap.size w w' := by
  have hTp := RTrim_any pv p (by omega) w hP
  have hTq := fun w h => RTrim_any qv q (by omega) w h
  have eT : C (tr (C q) q.length) = C q := C_tr _ _ (fun k hk => C_big q k hk)
  have eP : C (tr (C p) p.length) = C p := C_tr _ _ (fun k hk => C_big p k hk)
  have lT := tr_length (C q) q.length
  have lP := tr_length (C p) p.length
  have bT := tl_le (C q) q.length
  have bP := tl_le (C p) p.length
  have htop : C (tr (C q) q.length) ((tr (C q) q.length).length - 1) ≠ 0 := by rw [eT, lT]; exact tl_last _ _ hm
  have hPt : Trd (tr (C p) p.length) := tr_trd _ _
  have hDiv : ∀ Q R, (C p = fun x => PM Q (C (tr (C q) q.length)) x ^^^ C R x) → R.length < (tr (C q) q.length).length → Trd R → DivOk p q (tr (C Q) Q.length) R := by
    intro Q R h1 h2 h3
    refine ⟨?_, h2, tr_trd _ _, h3⟩
    rw [h1, eT, PM_congr (C_tr (C Q) Q.length (fun k hk => C_big Q k hk))]
  have hP0 : C p = fun x => PM [] (C (tr (C q) q.length)) x ^^^ C (tr (C p) p.length) x := by
    rw [eP]
    funext x
    show C p x = 0 ^^^ C p x
    rw [zero_x]
  rw [← eP] at hP0
  have lT0 : 0 < (tr (C q) q.length).length := by omega
  have lT1 : (tr (C q) q.length).length ≤ 600 := by omega
  have lP1 : (tr (C p) p.length).length ≤ 600 := by omega
  rw [eP] at hP0
  clear eT eP lT lP bT bP
  generalize tr (C q) q.length = T at *
  generalize tr (C p) p.length = P0 at *
  generalize C p = f at *
  go_enter Try.func30, Try.ntmps30
  go_wp2_with fail
  go_at_call 45
  refine hTp.mono ?_
  rintro e w1 ⟨v1, rfl, hv1, hB1⟩
  go_wp2_with fail
  go_at_call 45
  refine (hTq w1 (hQ.next hB1)).mono ?_
  rintro e w2 ⟨v2, rfl, hv2, hB2⟩
  have hPs := ownGrow hv1 hB2
  have hTs := hv2.sl
  have hBw := below_trans hB1 hB2
  clear hTp hTq hP hQ hv1 hv2 hB1 hB2
  obtain ⟨AT, cT, rfl⟩ := hTs.len
  have n1 : ((T.length : Int) == 0) = false := by rw [beq_eq_false_iff_ne]; omega
  have n2 : ¬ T.length = 0 := by omega
  go_wp2_with fail
  go_loopw [0, 7] (fun vP vQ wr => ∃ P Q : List UInt8, Own8 w.heap.size wr vP P ∧ Sl eB wr.heap.size wr vQ Q ∧ Sl eB wr.heap.size wr (.slice AT T.length cT) T ∧ P.length ≤ 600 ∧ Q.length ≤ 601 ∧ Trd P ∧ (f = fun x => PM Q (C T) x ^^^ C P x) ∧ Below w.heap.size w wr) (fun vP _ _ => lenOf0 vP)
  case atStart => exact ⟨P0, [], hPs, Sl.nilB _ _, hTs, lP1, by simp, hPt, hP0, hBw⟩
  case round =>
    clear hPs hTs hBw hP0 hPt lP1
    obtain ⟨P, Q, hPo, hQ, hT, lP, lQ, tP, hf, hBr⟩ := hrel
    have hP := hPo.sl
    obtain ⟨AP, cP, rfl⟩ := hP.len
    obtain ⟨AQ, cQ, rfl⟩ := hQ.len
    by_cases hge : T.length ≤ P.length
    · have hd : decide ((T.length : Int) ≤ (P.length : Int)) = true := decide_eq_true (by omega)
      obtain ⟨c, hc⟩ := div_ex (C P (P.length - 1)) (C T (T.length - 1)) htop
      have hdv := fun w => RDiv_is (C P (P.length - 1)) (C T (T.length - 1)) c htop hc w
      obtain ⟨S1, hS1⟩ : ∃ S1, S1 = tr (C (shN (P.length - T.length) [c])) (shN (P.length - T.length) [c]).length := ⟨_, rfl⟩
      obtain ⟨T', hT'⟩ : ∃ T', T' = tr (fun k => ma c (C T k)) (T.length + 1) := ⟨_, rfl⟩
      obtain ⟨S2, hS2⟩ : ∃ S2, S2 = tr (C (shN (P.length - T.length) T')) (shN (P.length - T.length) T').length := ⟨_, rfl⟩
      obtain ⟨Q2, hQ2⟩ : ∃ Q2, Q2 = tr (fun k => C Q k ^^^ C S1 k) (max Q.length S1.length) := ⟨_, rfl⟩
      obtain ⟨P2, hP2⟩ : ∃ P2, P2 = tr (fun k => C P k ^^^ C S2 k) (max P.length S2.length) := ⟨_, rfl⟩
      obtain ⟨k1, k2, k3, k4, k5, k6, k7⟩ := step_is c (P.length - T.length) lT0 hge rfl hc hf S1 S2 T' Q2 P2 hS1 hT' hS2 hQ2 hP2
      obtain ⟨bP, oP, rfl, hbP, hcP⟩ := hP.cells_at (by omega)
      obtain ⟨bT, oT, rfl, hbT, hcT⟩ := hT.cells_at lT0
      have xP := hcP (P.length - 1) (by omega)
      have xT := hcT (T.length - 1) (by omega)
      have e1 : IntKind.i64.wrap ((P.length : Int) - 1) = ((P.length - 1 : Nat) : Int) := by rw [IntWalk.i64_in _ (by omega)]; omega
      have e2 : IntKind.i64.wrap ((T.length : Int) - 1) = ((T.length - 1 : Nat) : Int) := by rw [IntWalk.i64_in _ (by omega)]; omega
      have e3 : IntKind.i64.wrap ((P.length : Int) - (T.length : Int)) = ((P.length - T.length : Nat) : Int) := by rw [IntWalk.i64_in _ (by omega)]; omega
      have i1 : P.length - 1 < P.length := by omega
      have i2 : T.length - 1 < T.length := by omega
      have i1' : ((P.length - 1 : Nat) : Int) < (P.length : Int) := by omega
      have i2' : ((T.length - 1 : Nat) : Int) < (T.length : Int) := by omega
      have hcl : clampN ((P.length - T.length : Nat) : Int) = P.length - T.length := by unfold clampN; omega
      have hn : P.length - T.length ≤ 600 := by omega
      have sh1 := fun v w h => RShift_any v [c] ((P.length - T.length : Nat) : Int) (by simp) w h
      rw [hcl, ← hS1] at sh1
      have ad1 := fun v va w h1 h2 => RAdd_any va v Q S1 (by omega) (by omega) w h1 h2
      rw [← hQ2] at ad1
      have sc1 := fun va w h => RScale_any va T c (by omega) w h
      rw [← hT'] at sc1
      have sh2 := fun v w h => RShift_any v T' ((P.length - T.length : Nat) : Int) (by omega) w h
      rw [hcl, ← hS2] at sh2
      have ad2 := fun v va w h1 h2 => RAdd_any va v P S2 (by omega) (by omega) w h1 h2
      rw [← hP2] at ad2
      have kQ2 : Q2.length ≤ 601 := by omega
      have kP2 : P2.length ≤ 600 := by omega
      clear hS1 hT' hS2 hQ2 hP2 hcl hc hcP hcT hf k4 k5 k6 k7 hPo
      generalize C P (P.length - 1) = a at *
      generalize C T (T.length - 1) = b at *
      generalize P.length - 1 = jP at *
      generalize T.length - 1 = jT at *
      generalize P.length - T.length = n at *
      have hdq : ∀ n, Calls Try.prog 50 #[eB a, eB b] (wr.drewN n) fun e w' => e = .returned (.tuple #[eB c, .int .i64 0]) ∧ w' = wr.drewN n := fun n => (hdv _).mono fun _ _ h => ⟨h.1, h.2.symm⟩
      go_wp2_with fail
      go_quiet ((go_at_call 50; with_reducible exact Calls.quiet_of_same (hdq _)))
      have hBd : Below wr.heap.size wr (wr.drewN nq) := below_drewN wr nq
      clear hdq hdv xP xT e1 e2
      generalize wr.drewN nq = wd at *
      have hP1 := hP.next hBd
      have hQ1 := hQ.next hBd
      have hT1 := hT.next hBd
      have hB1 := below_trans hBr hBd
      clear hP hQ hT hBr hBd
      have hBa := below_alloc wd (.cells #[eB c] 5)
      have hq := Sl.new eB wd [c] #[eB c] 5 (0, 0) 1 1 rfl (Nat.le_refl _) rfl
      have hP2 := hP1.next hBa
      have hQ2 := hQ1.next hBa
      have hT2 := hT1.next hBa
      have hB2 := below_trans hB1 hBa
      clear hP1 hQ1 hT1 hB1 hBa
      go_wp2_with fail
      generalize wd.alloc (.cells #[eB c] 5) = we at *
      go_at_call 31
      refine (sh1 _ _ hq).mono ?_
      rintro e w3 ⟨v3, rfl, hv3, hB3⟩
      have hQ3 := hQ2.next hB3
      go_wp2_with fail
      go_at_call 51
      refine (ad1 v3 _ w3 hQ3 hv3.sl).mono ?_
      rintro e w4 ⟨v4, rfl, hv4, hB4⟩
      have hB34 := below_trans hB3 hB4
      have hT4 := hT2.next hB34
      have hP4 := hP2.next hB34
      have hBw4 := below_trans hB2 hB34
      have hvq := hv4.sl
      clear hQ3 hQ2 hv3 hB3 hB4 hB34 hT2 hP2 hB2 hq hv4
      go_wp2_with fail
      go_at_call 52
      refine (sc1 _ w4 hT4).mono ?_
      rintro e w5 ⟨v5, rfl, hv5, hB5⟩
      go_wp2_with fail
      go_at_call 31
      refine (sh2 v5 w5 hv5.sl).mono ?_
      rintro e w6 ⟨v6, rfl, hv6, hB6⟩
      have hB56 := below_trans hB5 hB6
      go_wp2_with fail
      go_at_call 51
      refine (ad2 v6 _ w6 (hP4.next hB56) hv6.sl).mono ?_
      rintro e w7 ⟨v7, rfl, hv7, hB7⟩
      have hB57 := below_trans hB56 hB7
      have hT7 := hT4.next hB57
      have hQ7 := hvq.next hB57
      have hBw := below_trans hBw4 hB57
      have hP7 := hv7.mono (B' := w.heap.size) (below_trans hBw4 hB56).size
      obtain ⟨A7, c7, rfl⟩ := hv7.sl.len
      clear hT4 hP4 hv5 hv6 hv7 hB5 hB6 hB56 hB7 hB57 hBw4 hvq sh1 sh2 sc1 ad1 ad2
      go_wp2
      go_roundw
      case rel => exact ⟨P2, Q2, hP7, hQ7, hT7, kP2, kQ2, k3, k1, hBw⟩
      case measure => simpa [lenOf0] using k2
    · have hd : decide ((T.length : Int) ≤ (P.length : Int)) = false := decide_eq_false (by omega)
      have hTr := RTrim_any (.slice AQ Q.length cQ) Q (by omega) wr hQ
      have hok := hDiv Q P hf (by omega) tP
      generalize tr (C Q) Q.length = Qt at *
      clear hDiv hf
      go_wp2_with fail
      go_at_call 45
      refine hTr.mono ?_
      rintro e w3 ⟨v3, rfl, hv3, hB3⟩
      go_wp2
      go_ret3
      exact ⟨_, _, Qt, P, hok, rfl, hv3.sl, ownGrow hPo hB3, below_trans hBr hB3⟩
theorem RDivide_yes (pv qv : Value) (p q : List UInt8) (hp : p.length ≤ 600) (hq : q.length ≤ 600) (hm : 0 < tl (C q) q.length) (w : World) (hP : Sl eB w.heap.size w pv p) (hQ : Sl eB w.heap.size w qv q) :
    Calls Try.prog 30 #[pv, qv] w fun e w' => ∃ vq vr Q R, DivOk p q Q R ∧ e = .returned (.tuple #[vq, vr, .int .i64 0]) ∧ Sl eB w'.heap.size w' vq Q ∧ Sl eB w'.heap.size w' vr R ∧ Below w.heap.size w w' := by
  refine (RDivide_own pv qv p q hp hq hm w hP hQ).mono ?_
  rintro e w' ⟨vq, vr, Q, R, h1, h2, h3, h4, h5⟩
  exact ⟨vq, vr, Q, R, h1, h2, h3, h4.sl, h5⟩
end Go.Proofs.Ytkldapdebjlfmaa
