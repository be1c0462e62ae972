/- Contract of sums.of, in the fence of the program. -/
import Derived.Test.YtnlndaknljbhcaaDoorSuBZ
namespace Go.Proofs.YtnlndaknljbhcaaDoor
open Go.RowKit Go.Shelf
attribute [local go_sem] Oper.semAt_some inProg_round inProg_depth

/-- The three sums of the first k letters. -/
def sT (x : List UInt8) : Nat → Int
  | 0 => 0
  | k + 1 => sT x k + if riseB x k then (k : Int) else 0
def sS (x : List UInt8) : Nat → Int
  | 0 => 0
  | k + 1 => sS x k + codeOf (atB x k).toNat
def sW (x : List UInt8) : Nat → Int
  | 0 => 0
  | k + 1 => sW x k + codeOf (atB x k).toNat * ((k : Int) + 1)
/-- A word's sums, or the error. -/
def sumsG (x : List UInt8) : Except Int (Int × Int × Int) :=
  if mayB x.length = false then .error 2 else if ∃ k, k < x.length ∧ codeOf (atB x k).toNat = -1 then .error 10 else .ok (sT x x.length % x.length, sS x x.length % 4, sW x x.length % (6 * x.length + 1))
abbrev v3 (a b c : Int) : Value := .agg #[.int .i64 a, .int .i64 b, .int .i64 c]
theorem sT_range (x : List UInt8) (k : Nat) (hk : k ≤ 1000) : 0 ≤ sT x k ∧ sT x k ≤ 1000 * k := by
  induction k with
  | zero => simp [sT]
  | succ k ih =>
    have := ih (by omega)
    rw [sT]
    split <;> omega
theorem sS_range (x : List UInt8) (k : Nat) (h : ∀ j, j < k → codeOf (atB x j).toNat ≠ -1) : 0 ≤ sS x k ∧ sS x k ≤ 3 * k := by
  induction k with
  | zero => simp [sS]
  | succ k ih =>
    have := ih (fun j hj => h j (by omega))
    have h1 := codeOf_range (atB x k).toNat
    have h2 := h k (by omega)
    rw [sS]
    omega
theorem sW_range (x : List UInt8) (k : Nat) (hk : k ≤ 1000) (h : ∀ j, j < k → codeOf (atB x j).toNat ≠ -1) : 0 ≤ sW x k ∧ sW x k ≤ 3000 * k := by
  induction k with
  | zero => simp [sW]
  | succ k ih =>
    have := ih (by omega) (fun j hj => h j (by omega))
    have h1 := codeOf_range (atB x k).toNat
    have h2 := h k (by omega)
    rw [sW]
    have h3 : codeOf (atB x k).toNat = 0 ∨ codeOf (atB x k).toNat = 1 ∨ codeOf (atB x k).toNat = 2 ∨ codeOf (atB x k).toNat = 3 := by omega
    rcases h3 with e | e | e | e <;> rw [e] <;> omega
theorem infoS : (Tryd.prog.info? 28).map (fun i => (i.zero, i.size)) = some (some (v3 0 0 0), 3) := by kernel_rfl
theorem zero_sums : ∃ i, Tryd.prog.info? 28 = some i ∧ i.zero = some (v3 0 0 0) ∧ i.size = 3 := by
  have h := infoS
  cases hq : Tryd.prog.info? 28 with
  | none => rw [hq] at h; cases h
  | some i => rw [hq] at h; simp at h; exact ⟨i, rfl, h.1, h.2⟩

set_option maxRecDepth 100000 in
set_option maxHeartbeats 4000000 in
theorem of_in (sv : Value) (x : List UInt8) (hreach : x.length ≤ 1000000) (w : World) (hT : Tab w) (hS : Sl eB w.heap.size w sv x) (n : Nat) :
    CallsIn (Fence.inProg Tryd.prog) n Tryd.prog 68 #[sv] w fun e w' => Below w.heap.size w w' ∧
      ((∃ a b c, sumsG x = .ok (a, b, c) ∧ e = .returned (v3 a b c)) ∨ ∃ m, sumsG x = .error m ∧ e = .panicked (errno m)) := by
  obtain ⟨A, c, rfl⟩ := hS.len
  obtain ⟨hz, hsz⟩ := zero_of_info infoS
  have hc0 : (v3 0 0 0).cells = #[.int .i64 0, .int .i64 0, .int .i64 0] := rfl
  have hmy := fun n => may_in x.length n
  refine callsIn_of_wp_marks Tryd.func68 rfl ⟨_, Tryd.func68⟩ ?_ rfl
  simp only [Tryd.ntmps68, List.size_toArray, List.length_cons, List.length_nil, Nat.reduceAdd, Nat.reduceSub, Array.replicate_succ, Array.replicate_zero, List.push_toArray, List.append_toArray, List.nil_append, List.cons_append]
  have hA1 := ((Below.refl w.heap.size w).alloc (Nat.le_refl _) (.cells #[.slice A x.length c] 22)).alloc (by simp) (.cells #[.int .i64 0, .int .i64 0, .int .i64 0] 28)
  by_cases hm : mayB x.length = false
  · have he : sumsG x = .error 2 := by rw [sumsG, if_pos hm]
    rw [he]
    rw [hm] at hmy
    gi_wp2_with fail
    refine ⟨⟨_, Tryd.func63⟩, ?_⟩
    gi_at_call 63
    refine (hmy _ _).mono ?_
    rintro e w' ⟨rfl, rfl⟩
    gi_wp2_with fail
    refine ⟨⟨_, Tryd.func70⟩, ?_⟩
    gi_at_call 70
    refine (must_no _ _).mono ?_
    rintro e w' ⟨rfl, rfl⟩
    gi_wp2_with fail
    exact ⟨hA1, .inr ⟨2, rfl, rfl⟩⟩
  have hm : mayB x.length = true := by simpa using hm
  rw [hm] at hmy
  have hx2 : 2 ≤ x.length ∧ x.length ≤ 1000 := by
    unfold mayB at hm
    rw [Bool.and_eq_true, decide_eq_true_eq, decide_eq_true_eq] at hm
    omega
  have hA := hA1.alloc (by simp; omega) (.cells #[.int .i64 0, .int .i64 0, .int .i64 0] 28)
  have hs0 : (((w.alloc (.cells #[.slice A x.length c] 22)).alloc (.cells #[.int .i64 0, .int .i64 0, .int .i64 0] 28)).alloc (.cells #[.int .i64 0, .int .i64 0, .int .i64 0] 28)).heap.size = w.heap.size + 3 := by simp
  have hb0 := ((Boxed.new w 22 (.slice A x.length c)).alloc (.cells #[.int .i64 0, .int .i64 0, .int .i64 0] 28)).alloc (.cells #[.int .i64 0, .int .i64 0, .int .i64 0] 28)
  have hr1 := (Rowed.new (w.alloc (.cells #[.slice A x.length c] 22)) 28 #[.int .i64 0, .int .i64 0, .int .i64 0]).alloc (.cells #[.int .i64 0, .int .i64 0, .int .i64 0] 28)
  have hr2 := Rowed.new ((w.alloc (.cells #[.slice A x.length c] 22)).alloc (.cells #[.int .i64 0, .int .i64 0, .int .i64 0] 28)) 28 #[.int .i64 0, .int .i64 0, .int .i64 0]
  rw [World.size_alloc] at hr1
  rw [World.size_alloc, World.size_alloc] at hr2
  gi_wp2_with fail
  refine ⟨⟨_, Tryd.func63⟩, ?_⟩
  gi_at_call 63
  refine (hmy _ _).mono ?_
  rintro e w' ⟨rfl, rfl⟩
  gi_wp2_with fail
  refine ⟨⟨_, Tryd.func70⟩, ?_⟩
  gi_at_call 70
  refine (must_yes _ _).mono ?_
  rintro e w' ⟨rfl, rfl⟩
  gi_wp2_with fail
  generalize ((w.alloc (.cells #[.slice A x.length c] 22)).alloc (.cells #[.int .i64 0, .int .i64 0, .int .i64 0] 28)).alloc (.cells #[.int .i64 0, .int .i64 0, .int .i64 0] 28) = w1 at *
  refine ⟨⟨_, Tryd.func79⟩, ?_⟩
  gi_at_call 79
  refine (rising_in A x.length c _ w1).mono ?_
  rintro e w2 ⟨rfl, rfl⟩
  gi_wp2_with fail
  have hb3 := Boxed.new w1 22 (.slice A x.length c)
  have hA2 := hA.alloc (by omega) (.cells #[.slice A x.length c] 22)
  have hs2 : (w1.alloc (.cells #[.slice A x.length c] 22)).heap.size = w.heap.size + 4 := by simp; omega
  have hb0' := hb0.alloc (.cells #[.slice A x.length c] 22)
  have hr1' := hr1.alloc (.cells #[.slice A x.length c] 22)
  have hr2' := hr2.alloc (.cells #[.slice A x.length c] 22)
  rw [hs0] at hb3
  generalize w1.alloc (.cells #[.slice A x.length c] 22) = w2 at *
  have hS2 := hS.below hA2
  have hTl := hT.lt
  have hT2 := hT.below hA2
  have hne : 0 < x.length → ∀ a, A = some a → a.block < w.heap.size := by
    intro h0 a ha
    obtain ⟨A', c', e, _, hcs⟩ := hS
    injection e with e1 e2 e3
    subst e1
    obtain ⟨b, off, e4, hb, _⟩ := hcs h0
    rw [e4] at ha
    cases ha
    exact hb
  have hseq := rising_seq (w.heap.size + 3) (w.heap.size + 4) (w.heap.size + 1 + 1) A c x hreach w2 (by omega) (by omega) (by omega) hb3.cell (hS2.more (by omega)) (fun h0 a ha => by have := hne h0 a ha; omega)
  clear hb0 hr1 hr2 hb3 hA hmy hT hS hA1
  refine wpIn_range_P (gf := 85) (lb := #[.pointer (some ⟨w.heap.size + 3, 0, none⟩)]) (fun _ h => h) rfl rfl ⟨_, Tryd.func85⟩ rfl (enters_of Tryd.func85 (by kernel_rfl) rfl)
    hseq (fun _ _ _ => keep_t) (fun W l o o' h1 h2 h3 => keep_put (by omega) W l o o' h1 h2 h3) (Below.refl _ _) (fun _ => rfl)
    (fun (pre : List Nat) W => (Rowed W (w.heap.size + 1 + 1) 28 #[.int .i64 (sT x pre.length), .int .i64 (sS x pre.length), .int .i64 (sW x pre.length)] ∧ ∀ k, k < pre.length → codeOf (atB x k).toNat ≠ -1) ∧ Keep (w.heap.size + 4) (w.heap.size + 1 + 1) w2 W)
    (fun _ _ => False)
    (fun ch W => ∃ m, sumsG x = .error m ∧ ch = errno m ∧ Keep (w.heap.size + 4) (w.heap.size + 1 + 1) w2 W)
    (OwnFrom.and (fun s X Y row hs hg hr => ⟨(hg.block _ (Rowed.lt hs.1) (fun e => by have := (hr _ e.symm).1; omega)).trans hs.1, hs.2⟩) (ownFrom_keep (by omega) (by omega)))
    ⟨⟨hr2', fun k hk => absurd hk (by simp)⟩, keep_r _ _ _⟩
    (fun _ _ _ _ _ h => h.elim)
    (fun j => { tmps := #[.slice A x.length c, .pointer (some ⟨w.heap.size, 0, none⟩), .pointer (some ⟨w.heap.size + 1, 0, none⟩), .int .i64 x.length, .pointer (some ⟨w.heap.size + 1 + 1, 0, none⟩), .int .i64 (j : Nat), .bool (riseB x j), undef, undef, .slice A x.length c, .int .i64 x.length, .int .i64 x.length, .bool true, .tuple #[], .slice A x.length c, .func (.func 85) #[] #[.pointer (some ⟨w.heap.size + 3, 0, none⟩)], .int .i64 (j : Nat), .bool (riseB x j), undef, undef, undef, undef, undef, undef, undef, undef, undef, undef, undef, undef, undef, undef, undef, undef, undef, undef, undef, undef, undef, undef, undef, undef, undef, undef, undef, undef, undef, undef, undef, undef, undef, undef, undef, undef, undef, undef, undef, undef, undef, undef, undef, undef, undef], defers := [] }) ?assign ?body ?done ?stop ?pan
  case assign =>
    intro l j W K hK
    gi_wp2
    exact hK
  case stop => rintro c D W _ h _; exact h.elim
  case body =>
    rintro l pre j W ⟨⟨hr, hok⟩, hK⟩ hpre
    obtain ⟨hjn, rfl⟩ := range_is hpre
    clear hpre hseq
    rw [List.length_range] at hr hok
    have hpl : (List.range j ++ [j]).length = j + 1 := by simp
    have hbx : Boxed W w.heap.size 22 (.slice A x.length c) := (hK.2 _ (by omega) (by omega)).trans hb0'
    have cb := hbx.cell
    have hSW : Sl eB w.heap.size W (.slice A x.length c) x := by
      obtain ⟨A', c', e, hc, hcs⟩ := hS2
      refine ⟨A', c', e, hc, fun h0 => ?_⟩
      obtain ⟨b, off, e4, hb, hcell⟩ := hcs h0
      exact ⟨b, off, e4, hb, fun i y hy => (hK.cell (p := ⟨b, off + i, none⟩) (by show b < _; omega) (by show b ≠ _; omega)).trans (hcell i y hy)⟩
    have hTW : Tab W := hT2.keep hK (by omega) (by omega)
    obtain ⟨A', c', he, _, hcs⟩ := hSW
    injection he with e1 e2 e3
    subst e1 e3
    obtain ⟨b, off, rfl, hb, hcell⟩ := hcs (by omega)
    have hcx : W.cell? ⟨b, off + j, none⟩ = some (eB (atB x j)) := hcell j _ (atB_lt hjn)
    have hC := fun n => CallsIn.inRound l (Code_in (atB x j) n W hTW)
    have hjx : (j : Int) < (x.length : Int) := by omega
    have Hs := Lib.hid (show sT x (j + 1) = sT x j + (if riseB x j then (j : Int) else 0) ∧ sS x (j + 1) = sS x j + codeOf (atB x j).toNat ∧ sW x (j + 1) = sW x j + codeOf (atB x j).toNat * ((j : Int) + 1) from ⟨rfl, rfl, rfl⟩)
    have hcr := codeOf_range (atB x j).toNat
    have rT := sT_range x j (by omega)
    have rS := sS_range x j hok
    have rW := sW_range x j (by omega) hok
    by_cases hbad : codeOf (atB x j).toNat = -1
    · have hG : sumsG x = .error 10 := by
        rw [sumsG, if_neg (by rw [hm]; simp), if_pos ⟨j, hjn, hbad⟩]
      simp only [if_pos hbad] at hC
      have HG := Lib.hid hG
      have HK := Lib.hid hK
      clear Hs hbad hcr rT rS rW hG hok hcell hcs hS2 hT2 hTW
      generalize atB x j = y at *
      generalize riseB x j = r at *
      gi_wp2_with fail
      refine ⟨⟨_, Tryd.func80⟩, ?_⟩
      gi_at_call 80
      refine (hC _).mono ?_
      rintro e w' ⟨rfl, rfl⟩
      gi_wp2_with fail
      exact ⟨rfl, keepsFrom_below (Below.refl _ _), 10, HG.out, rfl, HK.out⟩
    · simp only [if_neg hbad] at hC
      have Hok := Lib.hid (show ∀ k, k < j + 1 → codeOf (atB x k).toNat ≠ -1 from fun k hk => by
        by_cases e : k = j
        · rw [e]; exact hbad
        · exact hok k (by omega))
      generalize codeOf (atB x j).toNat = q at *
      have hq3 : q = 0 ∨ q = 1 ∨ q = 2 ∨ q = 3 := by omega
      clear hok hbad hcell hcs hS2 hT2 hTW
      generalize atB x j = y at *
      generalize hTj : sT x j = tj at *
      generalize hSj : sS x j = sj at *
      generalize hWj : sW x j = wj at *
      clear hTj hSj hWj
      have m1 : IntKind.i64.wrap ((j : Int) + 1) = (j : Int) + 1 := IntWalk.i64_in _ (by omega)
      have hqp : 0 ≤ q * ((j : Int) + 1) ∧ q * ((j : Int) + 1) ≤ 3000 := by rcases hq3 with e | e | e | e <;> rw [e] <;> omega
      obtain ⟨p, hp⟩ : ∃ p, q * ((j : Int) + 1) = p := ⟨_, rfl⟩
      rw [hp] at hqp Hs
      have m2 : wrap64 (q * ((j : Int) + 1)) = p := by rw [hp, IntWalk.wrap64_in _ (by omega)]
      have m2' : IntKind.i64.wrap (q * ((j : Int) + 1)) = p := by rw [hp, IntWalk.i64_in _ (by omega)]
      have m3 : IntKind.i64.wrap (wj + p) = wj + p := IntWalk.i64_in _ (by omega)
      have m4 : IntKind.i64.wrap (sj + q) = sj + q := IntWalk.i64_in _ (by omega)
      have m5 : IntKind.i64.wrap (tj + j) = tj + j := IntWalk.i64_in _ (by omega)
      have w5 : wrap64 (tj + j) = tj + j := IntWalk.wrap64_in _ (by omega)
      have w4 : wrap64 (sj + q) = sj + q := IntWalk.wrap64_in _ (by omega)
      have w3 : wrap64 (wj + p) = wj + p := IntWalk.wrap64_in _ (by omega)
      clear hp
      have HK := Lib.hid hK
      clear hK
      cases hrise : riseB x j with
      | true =>
        rw [hrise] at Hs
        have c0 := hr.cell 0
        have f0 := hr.frozen 0
        have hra := hr.set 0 (.int .i64 (tj + j))
        have c1 := hra.cell 1
        have f1 := hra.frozen 1
        have hrb := hra.set 1 (.int .i64 (sj + q))
        have c2 := hrb.cell 2
        have f2 := hrb.frozen 2
        have hrc := hrb.set 2 (.int .i64 (wj + p))
        simp at c0 c1 c2 hrc
        have hKS : KeepsFrom w2.heap.size W (((W.setCell ⟨w.heap.size + 1 + 1, 0, none⟩ (.int .i64 (tj + j))).setCell ⟨w.heap.size + 1 + 1, 1, none⟩ (.int .i64 (sj + q))).setCell ⟨w.heap.size + 1 + 1, 2, none⟩ (.int .i64 (wj + p))) :=
          (keepsFrom_set _ hr 0 _).trans ((keepsFrom_set _ hra 1 _).trans (keepsFrom_set _ hrb 2 _))
        have hKK : Keep (w.heap.size + 4) (w.heap.size + 1 + 1) W (((W.setCell ⟨w.heap.size + 1 + 1, 0, none⟩ (.int .i64 (tj + j))).setCell ⟨w.heap.size + 1 + 1, 1, none⟩ (.int .i64 (sj + q))).setCell ⟨w.heap.size + 1 + 1, 2, none⟩ (.int .i64 (wj + p))) :=
          keep_t (keep_set _ _ _ _ _) (keep_t (keep_set _ _ _ _ _) (keep_set _ _ _ _ _))
        have Hc := Lib.hid hrc
        clear hr hra hrb hrc
        gi_wp2_with fail
        refine ⟨⟨_, Tryd.func80⟩, ?_⟩
        gi_at_call 80
        refine (hC _).mono ?_
        rintro e w' ⟨rfl, rfl⟩
        gi_wp2_with fail
        refine ⟨hKS, hKK, ⟨?_, ?_⟩, keep_t HK.out hKK⟩
        · rw [hpl, Hs.out.1, Hs.out.2.1, Hs.out.2.2]; exact Hc.out
        · rw [hpl]; exact Hok.out
      | false =>
        rw [hrise] at Hs
        have c1 := hr.cell 1
        have f1 := hr.frozen 1
        have hrb := hr.set 1 (.int .i64 (sj + q))
        have c2 := hrb.cell 2
        have f2 := hrb.frozen 2
        have hrc := hrb.set 2 (.int .i64 (wj + p))
        simp at c1 c2 hrc
        have hKS : KeepsFrom w2.heap.size W ((W.setCell ⟨w.heap.size + 1 + 1, 1, none⟩ (.int .i64 (sj + q))).setCell ⟨w.heap.size + 1 + 1, 2, none⟩ (.int .i64 (wj + p))) :=
          (keepsFrom_set _ hr 1 _).trans (keepsFrom_set _ hrb 2 _)
        have hKK : Keep (w.heap.size + 4) (w.heap.size + 1 + 1) W ((W.setCell ⟨w.heap.size + 1 + 1, 1, none⟩ (.int .i64 (sj + q))).setCell ⟨w.heap.size + 1 + 1, 2, none⟩ (.int .i64 (wj + p))) :=
          keep_t (keep_set _ _ _ _ _) (keep_set _ _ _ _ _)
        have Hc := Lib.hid hrc
        clear hr hrb hrc
        gi_wp2_with fail
        refine ⟨⟨_, Tryd.func80⟩, ?_⟩
        gi_at_call 80
        refine (hC _).mono ?_
        rintro e w' ⟨rfl, rfl⟩
        gi_wp2_with fail
        refine ⟨hKS, hKK, ⟨?_, ?_⟩, keep_t HK.out hKK⟩
        · rw [hpl, Hs.out.1, Hs.out.2.1, Hs.out.2.2]; simpa using Hc.out
        · rw [hpl]; exact Hok.out
  case done =>
    rintro D W hD ⟨⟨hr, hok⟩, hK⟩ hk
    rw [List.length_range] at hr hok
    have hG : sumsG x = .ok (sT x x.length % x.length, sS x x.length % 4, sW x x.length % (6 * x.length + 1)) := by
      rw [sumsG, if_neg (by rw [hm]; simp), if_neg (fun ⟨k, h1, h2⟩ => hok k h1 h2)]
    have rT := sT_range x x.length (by omega)
    have rS := sS_range x x.length hok
    have rW := sW_range x x.length (by omega) hok
    have HG := Lib.hid hG
    clear hG hok hseq
    have hr1W : Rowed W (w.heap.size + 1) 28 #[.int .i64 0, .int .i64 0, .int .i64 0] := (hK.2 _ (by omega) (by omega)).trans hr1'
    generalize sT x x.length = a at *
    generalize sS x x.length = b at *
    generalize sW x x.length = d at *
    have c0 := hr.cell 0
    have c1 := hr.cell 1
    have c2 := hr.cell 2
    simp at c0 c1 c2
    have n0 : ((x.length : Int) == 0) = false := by rw [beq_eq_false_iff_ne]; omega
    have e6 : IntKind.i64.wrap (6 * (x.length : Int)) = 6 * (x.length : Int) := IntWalk.i64_in _ (by omega)
    have e7 : IntKind.i64.wrap (6 * (x.length : Int) + 1) = 6 * (x.length : Int) + 1 := IntWalk.i64_in _ (by omega)
    have w6 : wrap64 (6 * (x.length : Int)) = 6 * (x.length : Int) := IntWalk.wrap64_in _ (by omega)
    have w7 : wrap64 (6 * (x.length : Int) + 1) = 6 * (x.length : Int) + 1 := IntWalk.wrap64_in _ (by omega)
    have n7 : ((6 * (x.length : Int) + 1) == 0) = false := by rw [beq_eq_false_iff_ne]; omega
    gi_wp2_with fail
    have t1 : a.tmod (x.length : Int) = a % x.length := Int.tmod_eq_emod_of_nonneg rT.1
    have t2 : b.tmod 4 = b % 4 := Int.tmod_eq_emod_of_nonneg rS.1
    have t3 : d.tmod (6 * (x.length : Int) + 1) = d % (6 * (x.length : Int) + 1) := Int.tmod_eq_emod_of_nonneg rW.1
    generalize a % (x.length : Int) = ra at *
    generalize b % 4 = rb at *
    generalize d % (6 * (x.length : Int) + 1) = rd at *
    have hxn : ¬ x = [] := fun e => by rw [e] at hx2; simp at hx2
    have n7' : ¬ (6 * (x.length : Int) + 1 = 0) := by omega
    have g0 : W.drew.cell? ⟨w.heap.size + 1 + 1, 0, none⟩ = some (.int .i64 a) := c0
    have g1 : W.drew.cell? ⟨w.heap.size + 1 + 1, 1, none⟩ = some (.int .i64 b) := c1
    have g2 : W.drew.cell? ⟨w.heap.size + 1 + 1, 2, none⟩ = some (.int .i64 d) := c2
    have hrd : Rowed W.drew (w.heap.size + 1) 28 #[.int .i64 0, .int .i64 0, .int .i64 0] := hr1W
    have hbd : ∀ w, (Instr.build 28 #[(0, .int .i64 ra), (1, .int .i64 rb), (2, .int .i64 rd)]).run Tryd.prog w = .ok (v3 ra rb rd) w := fun _ => by kernel_rfl
    have hsr : (Tryd.prog.info? 28).map (·.size) = some (#[Value.int .i64 ra, Value.int .i64 rb, Value.int .i64 rd] : Array Value).size := by rw [hsz]; rfl
    refine wpIn_region_det 14 [(49, .pointer (some ⟨w.heap.size + 1 + 1, 0, none⟩)), (50, .int .i64 a), (51, .int .i64 x.length), (52, .int .i64 ra), (53, .pointer (some ⟨w.heap.size + 1 + 1, 1, none⟩)), (54, .int .i64 b), (55, .int .i64 rb),
      (56, .pointer (some ⟨w.heap.size + 1 + 1, 2, none⟩)), (57, .int .i64 d), (58, .int .i64 x.length), (59, .int .i64 (6 * (x.length : Int))), (60, .int .i64 (6 * (x.length : Int) + 1)), (61, .int .i64 rd), (62, v3 ra rb rd)]
      (by kernel_rfl) (by decide) (by kernel_rfl) (by kernel_rfl) (by kernel_rfl) (by kernel_rfl) (by kernel_rfl) ?ok1 ?tail1
    case ok1 =>
      intro A hA
      simp only [putAll, Act.put, List.setIfInBounds_toArray, List.set_cons_zero, List.set_cons_succ] at hA
      subst hA
      refine ⟨?_, ?_, ?_, ?_, ?_, ?_, ?_, ?_, ?_, ?_, ?_, ?_, ?_, ?_, trivial⟩
      all_goals unfold DetIn
      all_goals go_simp
    case tail1 =>
      intro A hA
      simp only [putAll, Act.put, List.setIfInBounds_toArray, List.set_cons_zero, List.set_cons_succ] at hA
      subst hA
      simp only [List.drop_succ_cons, List.drop_zero]
      refine wpListIn_store_row rfl 28 (.tmp 2) (.tmp 62) rfl (w.heap.size + 1) #[.int .i64 ra, .int .i64 rb, .int .i64 rd] rfl rfl _ _ hrd hsr rfl (by simp [Value.oneCell']) ?_
      have hsW := keep_size hK
      have hrow := setRow_heap W.drew (w.heap.size + 1) #[.int .i64 0, .int .i64 0, .int .i64 0] #[.int .i64 ra, .int .i64 rb, .int .i64 rd] _ _ hrd
      have hkk : (W.drew.setRow (w.heap.size + 1) #[.int .i64 ra, .int .i64 rb, .int .i64 rd]).heap[D]? = some (.deferred (some [])) := (setRow_other _ (w.heap.size + 1) D _ (by omega)).trans hk
      have hBw : Below w.heap.size w (W.drew.setRow (w.heap.size + 1) #[.int .i64 ra, .int .i64 rb, .int .i64 rd]) :=
        ((below_of_keep hK hA2 (by omega) (by omega)).trans ⟨rfl, rfl, rfl, Nat.le_refl _, fun _ _ => rfl⟩).trans ⟨rfl, rfl, rfl, by simp, fun k hk => setRow_other _ (w.heap.size + 1) k _ (by omega)⟩
      clear g0 g1 g2 c0 c1 c2 hr hrd hr1W hbd
      generalize W.drew.setRow (w.heap.size + 1) #[.int .i64 ra, .int .i64 rb, .int .i64 rd] = W3 at *
      gi_wp2_with fail
      refine ⟨by simp, .inl ⟨_, _, rfl, run_takeDeferred hkk, ?_⟩⟩
      have hrow4 : (W3.putObj D (.deferred none)).heap[w.heap.size + 1]? = some (.cells #[.int .i64 ra, .int .i64 rb, .int .i64 rd] 28 (0, 0)) := (World.putObj_heap_other (by omega)).trans hrow
      refine ⟨v3 ra rb rd, ?_, ?_, .inl ⟨ra, rb, rd, HG.out, rfl⟩⟩
      · exact results_cell_row (p := 2) rfl _ _ (w.heap.size + 1) _ _ _ _ rfl hrow4 Tryd.underlying28 rfl hsr
      · exact hBw.trans (belowK_b (w := w) (Nat.le_refl _) W3 D _ _ (by omega) hkk rfl rfl)
  case pan =>
    rintro ch D W hD ⟨m, hm3, rfl, hK⟩ hk
    refine ⟨by simp, .inl ⟨_, _, rfl, run_takeDeferred hk, ?_⟩⟩
    have hBw := (below_of_keep hK hA2 (by omega) (by omega)).trans (belowK_b (w := w) (Nat.le_refl _) W D _ (.deferred none) (by have := keep_size hK; omega) hk rfl rfl)
    exact ⟨hBw, .inr ⟨m, hm3, rfl⟩⟩
end Go.Proofs.YtnlndaknljbhcaaDoor
