/- Contracts of nt.code, Code, sums.may, must, in the fence of the program. -/
import Derived.LoopTactic
import Derived.Test.YtnlndaknljbhcaaDoorRows
import Derived.Test.YtnlndaknljbhcaaDoorARZ
import Derived.Test.YtnlndaknljbhcaaDoorDTIZ
namespace Go.Proofs.YtnlndaknljbhcaaDoor
open Go.RowKit Go.Shelf
attribute [local go_sem] Oper.semAt_some inProg_round inProg_depth

/-- The table of letters lies in memory. -/
def Tab (w : World) : Prop := ∃ t fr, w.heap[0]? = some (.cells #[.int .u8 65, .int .u8 67, .int .u8 71, .int .u8 84] t fr)
theorem Tab.lt {w : World} (h : Tab w) : 0 < w.heap.size := by
  obtain ⟨_, _, h⟩ := h
  exact (Array.getElem?_eq_some_iff.1 h).1
theorem Tab.below' {B : Nat} {w w' : World} (h : Tab w) (hb : Below B w w') (hB : 0 < B) : Tab w' := by
  obtain ⟨t, fr, h⟩ := h
  exact ⟨t, fr, (hb.block _ hB).trans h⟩
theorem Tab.below {w w' : World} (h : Tab w) (hb : Below w.heap.size w w') : Tab w' := h.below' hb h.lt
theorem Tab.keep {B g : Nat} {W W' : World} (h : Tab W) (hk : Keep B g W W') (hB : 0 < B) (hg : 0 ≠ g) : Tab W' := by
  obtain ⟨t, fr, h⟩ := h
  exact ⟨t, fr, (hk.2 _ hB hg).trans h⟩
theorem Tab.of_var {w : World} (h : w.var? Tryd.prog "helix/nt.letters" = some #[.int .u8 65, .int .u8 67, .int .u8 71, .int .u8 84]) : Tab w := by
  have hg : Tryd.prog.globalNamed "helix/nt.letters" = some 0 := by kernel_rfl
  unfold World.var? at h
  rw [hg, Option.bind_some] at h
  split at h
  · rename_i cs t fr he
    cases h
    exact ⟨_, _, he⟩
  · cases h

/-- A byte's code; -1 of one that is no letter. -/
def codeOf (c : Nat) : Int := if c = 65 then 0 else if c = 67 then 1 else if c = 71 then 2 else if c = 84 then 3 else -1
theorem codeOf_range (c : Nat) : -1 ≤ codeOf c ∧ codeOf c ≤ 3 := by
  unfold codeOf
  repeat' split
  all_goals omega
def lett (j : Nat) : UInt8 := if j = 0 then 65 else if j = 1 then 67 else if j = 2 then 71 else 84
theorem lett_at (j : Nat) (hj : j < 4) (w : World) : (Instr.index 65 (.agg #[.int .u8 65, .int .u8 67, .int .u8 71, .int .u8 84]) (.int .i64 (j : Nat))).run Tryd.prog w = .ok (eB (lett j)) w := by
  rcases (show j = 0 ∨ j = 1 ∨ j = 2 ∨ j = 3 by omega) with rfl | rfl | rfl | rfl <;> kernel_rfl
theorem lett_code (j : Nat) (hj : j < 4) : codeOf (lett j).toNat = (j : Int) := by
  rcases (show j = 0 ∨ j = 1 ∨ j = 2 ∨ j = 3 by omega) with rfl | rfl | rfl | rfl <;> rfl
theorem code_not (c : UInt8) (h : ∀ j, j < 4 → lett j ≠ c) : codeOf c.toNat = -1 := by
  have e : ∀ k : UInt8, c.toNat = k.toNat → k = c := fun k hk => (UInt8.toNat_inj.1 hk).symm
  unfold codeOf
  split
  · exact absurd (e 65 (by assumption)) (h 0 (by omega))
  · split
    · exact absurd (e 67 (by assumption)) (h 1 (by omega))
    · split
      · exact absurd (e 71 (by assumption)) (h 2 (by omega))
      · split
        · exact absurd (e 84 (by assumption)) (h 3 (by omega))
        · rfl
theorem size4 : (Tryd.prog.info? 65).map (·.size) = some 4 := by kernel_rfl

set_option maxRecDepth 100000 in
set_option maxHeartbeats 2000000 in
theorem code_in (c : UInt8) (n : Nat) (w : World) (hT : Tab w) :
    CallsIn (Fence.inProg Tryd.prog) n Tryd.prog 86 #[eB c] w fun e w' => e = .returned (.int .i64 (codeOf c.toNat)) ∧ w = w' := by
  obtain ⟨tt, fr, ht⟩ := hT
  refine callsIn_of_wp Tryd.func86 rfl ⟨_, Tryd.func86⟩ ?_ rfl
  simp only [Tryd.ntmps86, List.size_toArray, List.length_cons, List.length_nil, Nat.reduceAdd, Nat.reduceSub, Array.replicate_succ, Array.replicate_zero, List.push_toArray, List.append_toArray, List.nil_append, List.cons_append]
  gi_wp2_with (refine wpListIn_load_row rfl 65 (.global 0) rfl 0 rfl _ _ _ _ ht Tryd.underlying65 rfl size4 ?_)
  clear ht
  gi_loopw [6] (fun i wr => ∃ j : Nat, j ≤ 4 ∧ i = .int .i64 j ∧ (∀ k, k < j → lett k ≠ c) ∧ wr = w) (fun i _ => 4 - (intOf i).toNat)
  case atStart => exact ⟨0, Nat.zero_le _, rfl, fun k hk => absurd hk (by omega), rfl⟩
  case round =>
    obtain ⟨j, hj, rfl, hno, rfl⟩ := hrel
    by_cases hlt : j < 4
    · have dj : decide ((j : Int) < 4) = true := decide_eq_true (by omega)
      have hat := lett_at j hlt
      have hcd := lett_code j hlt
      generalize hl : lett j = x at *
      by_cases hx : x = c
      · have hb : ((x.toNat : Int) == (c.toNat : Int)) = true := by rw [hx]; simp
        rw [hx] at hcd
        have Hc := Lib.hid hcd
        clear hx hcd hno hl
        gi_wp2_with fail
        refine bodyPost_ret (results_tmp rfl _ _ _) rfl ⟨by rw [Hc.out]; rfl, rfl⟩
      · have hb : ((x.toNat : Int) == (c.toNat : Int)) = false := by
          rw [beq_eq_false_iff_ne]
          intro h
          exact hx (UInt8.toNat_inj.1 (by omega))
        have Hno := Lib.hid (show ∀ k, k < j + 1 → lett k ≠ c from fun k hk => by
          by_cases e : k = j
          · rw [e, hl]; exact hx
          · exact hno k (by omega))
        clear hx hcd hno hl
        gi_wp2_with fail
        refine ⟨⟨j + 1, by omega, by go_num, Hno.out, trivial⟩, ?_⟩
        simp [intOf]
        omega
    · obtain rfl : j = 4 := by omega
      have hc := code_not c hno
      have Hc := Lib.hid hc
      clear hno hc
      gi_wp2_with fail
      refine bodyPost_ret (results_tmp rfl _ _ _) rfl ⟨by rw [Hc.out]; rfl, rfl⟩
set_option maxRecDepth 100000 in
set_option maxHeartbeats 2000000 in
theorem Code_in (c : UInt8) (n : Nat) (w : World) (hT : Tab w) :
    CallsIn (Fence.inProg Tryd.prog) n Tryd.prog 80 #[eB c] w fun e w' => e = .returned (.tuple #[.int .i64 (if codeOf c.toNat = -1 then 0 else codeOf c.toNat), .int .i64 (if codeOf c.toNat = -1 then 10 else 0)]) ∧ w = w' := by
  have hC := fun n => code_in c n w hT
  refine callsIn_of_wp Tryd.func80 rfl ⟨_, Tryd.func80⟩ ?_ rfl
  simp only [Tryd.ntmps80, List.size_toArray, List.length_cons, List.length_nil, Nat.reduceAdd, Nat.reduceSub, Array.replicate_succ, Array.replicate_zero, List.push_toArray, List.append_toArray, List.nil_append, List.cons_append]
  by_cases h : codeOf c.toNat = -1
  · have hb : (codeOf c.toNat == -1) = true := by simpa using h
    simp only [if_pos h]
    generalize codeOf c.toNat = k at *
    clear h
    gi_wp2_with fail
    refine ⟨⟨_, Tryd.func86⟩, ?_⟩
    gi_at_call 86
    refine (hC _).mono ?_
    rintro e w' ⟨rfl, rfl⟩
    gi_wp2_with fail
    refine bodyPost_ret ?_ rfl ⟨rfl, rfl⟩
    simp [results, Tryd.f80, go_sem]
  · have hb : (codeOf c.toNat == -1) = false := by simpa using h
    simp only [if_neg h]
    generalize codeOf c.toNat = k at *
    clear h
    gi_wp2_with fail
    refine ⟨⟨_, Tryd.func86⟩, ?_⟩
    gi_at_call 86
    refine (hC _).mono ?_
    rintro e w' ⟨rfl, rfl⟩
    gi_wp2_with fail
    refine bodyPost_ret ?_ rfl ⟨rfl, rfl⟩
    simp [results, Tryd.f80, go_sem]

abbrev errno (n : Int) : List PanicEntry := [{ v := .iface 24 (.int .i64 n), recovered := false }]
def mayB (n : Int) : Bool := decide (2 ≤ n) && decide (n ≤ 1000)
set_option maxRecDepth 100000 in
theorem may_in (k : Int) (n : Nat) (w : World) :
    CallsIn (Fence.inProg Tryd.prog) n Tryd.prog 63 #[.int .i64 k] w fun e w' => e = .returned (.bool (mayB k)) ∧ w = w' := by
  refine callsIn_of_wp Tryd.func63 rfl ⟨_, Tryd.func63⟩ ?_ rfl
  simp only [Tryd.ntmps63, List.size_toArray, List.length_cons, List.length_nil, Nat.reduceAdd, Nat.reduceSub, Array.replicate_succ, Array.replicate_zero, List.push_toArray, List.append_toArray, List.nil_append, List.cons_append]
  by_cases h : 2 ≤ k
  · have d : decide (2 ≤ k) = true := decide_eq_true h
    rw [mayB, d, Bool.true_and]
    gi_wp2_with fail
    refine bodyPost_ret (results_tmp rfl _ _ _) rfl ⟨rfl, rfl⟩
  · have d : decide (2 ≤ k) = false := decide_eq_false h
    rw [mayB, d, Bool.false_and]
    gi_wp2_with fail
    refine bodyPost_ret (results_tmp rfl _ _ _) rfl ⟨rfl, rfl⟩
set_option maxRecDepth 100000 in
theorem must_yes (n : Nat) (w : World) :
    CallsIn (Fence.inProg Tryd.prog) n Tryd.prog 70 #[.bool true] w fun e w' => e = .returned (.tuple #[]) ∧ w = w' := by
  refine callsIn_of_wp Tryd.func70 rfl ⟨_, Tryd.func70⟩ ?_ rfl
  simp only [Tryd.ntmps70, List.size_toArray, List.length_cons, List.length_nil, Nat.reduceAdd, Nat.reduceSub, Array.replicate_succ, Array.replicate_zero, List.push_toArray, List.append_toArray, List.nil_append, List.cons_append]
  gi_wp2_with fail
  go_end0
  exact ⟨rfl, rfl⟩
set_option maxRecDepth 100000 in
theorem must_no (n : Nat) (w : World) :
    CallsIn (Fence.inProg Tryd.prog) n Tryd.prog 70 #[.bool false] w fun e w' => e = .panicked (errno 2) ∧ w = w' := by
  refine callsIn_of_wp Tryd.func70 rfl ⟨_, Tryd.func70⟩ ?_ rfl
  simp only [Tryd.ntmps70, List.size_toArray, List.length_cons, List.length_nil, Nat.reduceAdd, Nat.reduceSub, Array.replicate_succ, Array.replicate_zero, List.push_toArray, List.append_toArray, List.nil_append, List.cons_append]
  gi_wp2_with fail
  exact ⟨rfl, rfl, rfl⟩
end Go.Proofs.YtnlndaknljbhcaaDoor
/- Contracts of sums.rising and of its iterator, in the fence of the program. -/
namespace Go.Proofs.YtnlndaknljbhcaaDoor
open Go.RowKit Go.Shelf
attribute [local go_sem] Oper.semAt_some inProg_round inProg_depth

/-- The byte at a place. -/
def atB (x : List UInt8) (i : Nat) : UInt8 := (x[i]?).getD 0
theorem atB_lt {x : List UInt8} {i : Nat} (h : i < x.length) : x[i]? = some (atB x i) := by simp [atB, h]
/-- Whether x rises at a place. -/
def riseB (x : List UInt8) (i : Nat) : Bool := decide (0 < i) && decide ((atB x (i - 1)).toNat ≤ (atB x i).toNat)

theorem rising_in (A : Option Addr) (l c : Nat) (n : Nat) (w : World) :
    CallsIn (Fence.inProg Tryd.prog) n Tryd.prog 79 #[.slice A l c] w fun e w' => e = .returned (.func (.func 85) #[] #[.pointer (some ⟨w.heap.size, 0, none⟩)]) ∧ w' = w.alloc (.cells #[.slice A l c] 22) := by
  have hmf : ∀ (fn : Fn) (first cap : Array Value) (w : World), (Instr.makeFunc fn first cap).run Tryd.prog w = .ok (.func fn first cap) w := fun _ _ _ _ => rfl
  refine callsIn_of_wp Tryd.func79 rfl ⟨_, Tryd.func79⟩ ?_ rfl
  simp only [Tryd.ntmps79, List.size_toArray, List.length_cons, List.length_nil, Nat.reduceAdd, Nat.reduceSub, Array.replicate_succ, Array.replicate_zero, List.push_toArray, List.append_toArray, List.nil_append, List.cons_append]
  gi_wp2_with fail
  refine bodyPost_ret (results_tmp rfl _ _ _) rfl ⟨rfl, rfl⟩
set_option maxRecDepth 1000000 in
set_option maxHeartbeats 4000000 in
theorem rising_seq (b1 B g : Nat) (A : Option Addr) (c : Nat) (x : List UInt8) (hreach : x.length ≤ 1000000) (w0 : World) (hB : B ≤ w0.heap.size) (h1 : b1 < B) (g1 : b1 ≠ g)
    (hc1 : w0.cell? ⟨b1, 0, none⟩ = some (.slice A x.length c)) (hS : Sl eB B w0 (.slice A x.length c) x) (hne : 0 < x.length → ∀ a, A = some a → a.block ≠ g) :
    SeqP (Fence.inProg Tryd.prog) Tryd.prog 85 #[.pointer (some ⟨b1, 0, none⟩)] (fun i : Nat => #[.int .i64 i, .bool (riseB x i)]) (Keep B g) (List.range x.length) w0 := by
  intro l J JS JP W hW hJo hY h0
  have hc1' := (hW.cell (p := ⟨b1, 0, none⟩) (show b1 < _ by omega)).trans hc1
  have hSW := hS.below (hW.mono hB)
  refine callsIn_of_wp Tryd.func85 rfl ⟨_, Tryd.func85⟩ ?_ rfl
  simp only [Tryd.ntmps85, List.size_toArray, List.length_cons, List.length_nil, Nat.reduceAdd, Nat.reduceSub, Array.replicate_succ, Array.replicate_zero, List.push_toArray, List.append_toArray, List.nil_append, List.cons_append]
  gi_wp2_with fail
  gi_loopw [6] (fun i wr => ∃ j : Nat, j ≤ x.length ∧ i = .int .i64 j ∧ J (List.range j) wr ∧ Keep B g W wr) (fun i _ => x.length - (intOf i).toNat)
  case atStart => exact ⟨0, Nat.zero_le _, rfl, h0, keep_r _ _ _⟩
  case round =>
    obtain ⟨j, hj, rfl, hJ, hK⟩ := hrel
    have k1 := (hK.cell (p := ⟨b1, 0, none⟩) h1 g1).trans hc1'
    by_cases hlt : j < x.length
    · obtain ⟨A', c', he, _, hcs⟩ := id hSW
      injection he with e1 e2 e3
      subst e1 e3
      obtain ⟨b, off, rfl, hb, hcell⟩ := hcs (by omega)
      have hbg : b ≠ g := hne (by omega) _ rfl
      have hcx : ∀ i, i < x.length → wr.cell? ⟨b, off + i, none⟩ = some (eB (atB x i)) := fun i hi => (hK.cell (p := ⟨b, off + i, none⟩) hb hbg).trans (hcell i _ (atB_lt hi))
      have c1 := hcx j hlt
      have c2 := hcx (j - 1) (by omega)
      have dj : decide ((j : Int) < (x.length : Int)) = true := decide_eq_true (by omega)
      have hJd : J (List.range j) wr.drew := hJo _ _ _ none hJ ⟨rfl, rfl, rfl, Nat.le_refl _, fun _ _ _ => rfl⟩ (fun r e => by cases e)
      obtain ⟨fn, tmps, assign, body, hy, hR⟩ := hY _ j wr.drew hJd (range_pre j x.length hlt)
      rw [← List.range_succ] at hR
      have hKd : Keep B g W wr.drew := keep_t hK ⟨⟨rfl, rfl, rfl, Nat.le_refl _⟩, fun _ _ _ => rfl⟩
      have Hr := Lib.hid (show riseB x j = (decide (0 < j) && decide ((atB x (j - 1)).toNat ≤ (atB x j).toNat)) from rfl)
      have hxl : (j : Int) < (x.length : Int) := by omega
      have d1 : wr.drew.cell? ⟨b1, 0, none⟩ = some (.slice (some ⟨b, off, none⟩) x.length c) := k1
      have d2 : wr.drew.cell? ⟨b, off + j, none⟩ = some (eB (atB x j)) := c1
      have d3 : wr.drew.cell? ⟨b, off + (j - 1), none⟩ = some (eB (atB x (j - 1))) := c2
      clear hJo hY hJ hJd hcs hcell hcx hSW hS hc1 hc1' h0 c1 c2 hW
      generalize atB x j = y at *
      generalize atB x (j - 1) = z at *
      generalize riseB x j = r at *
      gi_wp2_with fail
      by_cases hp : 0 < j
      · have dp : decide (0 < (j : Int)) = true := decide_eq_true (by omega)
        have hj1 : IntKind.i64.wrap ((j : Int) - 1) = ((j - 1 : Nat) : Int) := by rw [IntWalk.i64_in _ (by omega)]; omega
        have hr : decide (z.toNat ≤ y.toNat) = r := by
          rw [Hr.out, decide_eq_true hp, Bool.true_and]
        have hjx : ((j - 1 : Nat) : Int) < (x.length : Int) := by omega
        have hjx2 : j - 1 < x.length := by omega
        clear Hr
        refine wpIn_region_det 16 [(9, .func (.yield l) #[] #[]), (10, .int .i64 j), (11, .int .i64 j), (12, .bool true), (13, .bool true), (14, .slice (some ⟨b, off, none⟩) x.length c), (15, .int .i64 j), (16, .pointer (some ⟨b, off + j, none⟩)), (17, eB y),
          (18, .slice (some ⟨b, off, none⟩) x.length c), (19, .int .i64 j), (20, .int .i64 (j - 1 : Nat)), (21, .pointer (some ⟨b, off + (j - 1), none⟩)), (22, eB z), (23, .bool r), (24, .bool r)]
          (by kernel_rfl) (by decide) (by kernel_rfl) (by kernel_rfl) (by kernel_rfl) (by kernel_rfl) (by kernel_rfl) ?ok1 ?tail1
        case ok1 =>
          intro A hA
          simp only [putAll, Act.put, List.setIfInBounds_toArray, List.set_cons_zero, List.set_cons_succ] at hA
          subst hA
          clear hR hK hKd hy
          refine ⟨?_, ?_, ?_, ?_, ?_, ?_, ?_, ?_, ?_, ?_, ?_, ?_, ?_, ?_, ?_, ?_, trivial⟩
          all_goals unfold DetIn
          all_goals go_simp
          all_goals exact hr
        case tail1 =>
          intro A hA
          simp only [putAll, Act.put, List.setIfInBounds_toArray, List.set_cons_zero, List.set_cons_succ] at hA
          subst hA
          clear d1 d2 d3 hr
          simp only [List.drop_succ_cons, List.drop_zero]
          gi_wp2_with fail
          refine (roundIn_room rfl hR).mono ?_
          clear hy hR
          rintro e W3 (⟨rfl, hJ3, hK3, hF3⟩ | ⟨rfl, hS3⟩ | ⟨ch, rfl, hP3⟩)
          · gi_wp2_with fail
            refine ⟨⟨j + 1, by omega, by go_num, hJ3, keep_t hKd hK3⟩, ?_⟩
            simp [intOf]
            omega
          · gi_wp2_with fail
            refine bodyPost_ret (results_none rfl _ _ _) rfl ?_
            exact .inl ⟨⟨_, rfl⟩, .inr hS3⟩
          · gi_wp2_with fail
            exact ⟨rfl, .inr ⟨ch, rfl, hP3⟩⟩
      · have dp : decide (0 < (j : Int)) = false := decide_eq_false (by omega)
        have hr : r = false := by rw [Hr.out, decide_eq_false hp, Bool.false_and]
        subst hr
        clear Hr
        refine wpIn_region_det 16 [(9, .func (.yield l) #[] #[]), (10, .int .i64 j), (11, .int .i64 j), (12, .bool false), (13, .bool false), (14, undef), (15, undef), (16, undef), (17, undef),
          (18, undef), (19, undef), (20, undef), (21, undef), (22, undef), (23, undef), (24, .bool false)]
          (by kernel_rfl) (by decide) (by kernel_rfl) (by kernel_rfl) (by kernel_rfl) (by kernel_rfl) (by kernel_rfl) ?ok2 ?tail2
        case ok2 =>
          intro A hA
          simp only [putAll, Act.put, List.setIfInBounds_toArray, List.set_cons_zero, List.set_cons_succ] at hA
          subst hA
          clear hR hK hKd hy
          refine ⟨?_, ?_, ?_, ?_, ?_, ?_, ?_, ?_, ?_, ?_, ?_, ?_, ?_, ?_, ?_, ?_, trivial⟩
          all_goals unfold DetIn
          all_goals go_simp
        case tail2 =>
          intro A hA
          simp only [putAll, Act.put, List.setIfInBounds_toArray, List.set_cons_zero, List.set_cons_succ] at hA
          subst hA
          clear d1 d2 d3
          simp only [List.drop_succ_cons, List.drop_zero]
          gi_wp2_with fail
          refine (roundIn_room rfl hR).mono ?_
          clear hy hR
          rintro e W3 (⟨rfl, hJ3, hK3, hF3⟩ | ⟨rfl, hS3⟩ | ⟨ch, rfl, hP3⟩)
          · gi_wp2_with fail
            refine ⟨⟨j + 1, by omega, by go_num, hJ3, keep_t hKd hK3⟩, ?_⟩
            simp [intOf]
            omega
          · gi_wp2_with fail
            refine bodyPost_ret (results_none rfl _ _ _) rfl ?_
            exact .inl ⟨⟨_, rfl⟩, .inr hS3⟩
          · gi_wp2_with fail
            exact ⟨rfl, .inr ⟨ch, rfl, hP3⟩⟩
    · obtain rfl : j = x.length := by omega
      have d0 : decide ((x.length : Int) < (x.length : Int)) = false := decide_eq_false (by omega)
      clear hSW hS hY hJo
      gi_wp2_with fail
      go_end0
      exact .inl ⟨⟨_, rfl⟩, .inl hJ⟩
end Go.Proofs.YtnlndaknljbhcaaDoor
