/- Contracts of nt.code, Code, sums.may, must, in the fence of the program. -/
import Derived.Test.YtpjpfgahjalggaaDoorRows
import Derived.Test.YtpjpfgahjalggaaDoorDTI
import Derived.Test.YtpjpfgahjalggaaDoorAR
import Derived.LoopTactic
namespace Go.Proofs.YtpjpfgahjalggaaDoor
open Go.RowKit Go.Shelf
attribute [local go_sem] Oper.semAt_some inProg_round inProg_depth

/-- The table of letters lies in memory. -/
def Tab (w : World) : Prop := ∃ t fr, w.heap[0]? = some (.cells #[.int .u8 65, .int .u8 67, .int .u8 71, .int .u8 84] t fr)
theorem Tab.lt {w : World} (h : Tab w) : 0 < w.heap.size := by
  obtain ⟨_, _, h⟩ := h
  exact (Array.getElem?_eq_some_iff.1 h).1
theorem Tab.below' {B : Nat} {w w' : World} (h : Tab w) (hb : Below B w w') (hB : 0 < B) : Tab w' := by
  obtain ⟨t, fr, h⟩ := h
  exact ⟨t, fr, (hb.block _ hB).trans h⟩
theorem Tab.below {w w' : World} (h : Tab w) (hb : Below w.heap.size w w') : Tab w' := h.below' hb h.lt
theorem Tab.keep {B g : Nat} {W W' : World} (h : Tab W) (hk : Keep B g W W') (hB : 0 < B) (hg : 0 ≠ g) : Tab W' := by
  obtain ⟨t, fr, h⟩ := h
  exact ⟨t, fr, (hk.2 _ hB hg).trans h⟩
theorem Tab.of_var {w : World} (h : w.var? Tryd.prog "helix/nt.letters" = some #[.int .u8 65, .int .u8 67, .int .u8 71, .int .u8 84]) : Tab w := by
  have hg : Tryd.prog.globalNamed "helix/nt.letters" = some 0 := by kernel_rfl
  unfold World.var? at h
  rw [hg, Option.bind_some] at h
  split at h
  · rename_i cs t fr he
    cases h
    exact ⟨_, _, he⟩
  · cases h

/-- A byte's code; -1 of one that is no letter. -/
def codeOf (c : Nat) : Int := if c = 65 then 0 else if c = 67 then 1 else if c = 71 then 2 else if c = 84 then 3 else -1
theorem codeOf_range (c : Nat) : -1 ≤ codeOf c ∧ codeOf c ≤ 3 := by
  unfold codeOf
  repeat' split
  all_goals omega
def lett (j : Nat) : UInt8 := if j = 0 then 65 else if j = 1 then 67 else if j = 2 then 71 else 84
theorem lett_at (j : Nat) (hj : j < 4) (w : World) : (Instr.index 63 (.agg #[.int .u8 65, .int .u8 67, .int .u8 71, .int .u8 84]) (.int .i64 (j : Nat))).run Tryd.prog w = .ok (eB (lett j)) w := by
  rcases (show j = 0 ∨ j = 1 ∨ j = 2 ∨ j = 3 by omega) with rfl | rfl | rfl | rfl <;> kernel_rfl
theorem lett_code (j : Nat) (hj : j < 4) : codeOf (lett j).toNat = (j : Int) := by
  rcases (show j = 0 ∨ j = 1 ∨ j = 2 ∨ j = 3 by omega) with rfl | rfl | rfl | rfl <;> rfl
theorem code_not (c : UInt8) (h : ∀ j, j < 4 → lett j ≠ c) : codeOf c.toNat = -1 := by
  have e : ∀ k : UInt8, c.toNat = k.toNat → k = c := fun k hk => (UInt8.toNat_inj.1 hk).symm
  unfold codeOf
  split
  · exact absurd (e 65 (by assumption)) (h 0 (by omega))
  · split
    · exact absurd (e 67 (by assumption)) (h 1 (by omega))
    · split
      · exact absurd (e 71 (by assumption)) (h 2 (by omega))
      · split
        · exact absurd (e 84 (by assumption)) (h 3 (by omega))
        · rfl
theorem size4 : (Tryd.prog.info? 63).map (·.size) = some 4 := by kernel_rfl

set_option maxRecDepth 100000 in
set_option maxHeartbeats 2000000 in
theorem code_in (c : UInt8) (n : Nat) (w : World) (hT : Tab w) :
    CallsIn (Fence.inProg Tryd.prog) n Tryd.prog 34 #[eB c] w fun e w' => e = .returned (.int .i64 (codeOf c.toNat)) ∧ w = w' := by
  obtain ⟨tt, fr, ht⟩ := hT
  refine callsIn_of_wp Tryd.func34 rfl ⟨_, Tryd.func34⟩ ?_ rfl
  simp only [Tryd.ntmps34, List.size_toArray, List.length_cons, List.length_nil, Nat.reduceAdd, Nat.reduceSub, Array.replicate_succ, Array.replicate_zero, List.push_toArray, List.append_toArray, List.nil_append, List.cons_append]
  gi_wp2_with (refine wpListIn_load_row rfl 63 (.global 0) rfl 0 rfl _ _ _ _ ht Tryd.underlying63 rfl size4 ?_)
  clear ht
  gi_loopw [6] (fun i wr => ∃ j : Nat, j ≤ 4 ∧ i = .int .i64 j ∧ (∀ k, k < j → lett k ≠ c) ∧ wr = w) (fun i _ => 4 - (intOf i).toNat)
  case atStart => exact ⟨0, Nat.zero_le _, rfl, fun k hk => absurd hk (by omega), rfl⟩
  case round =>
    obtain ⟨j, hj, rfl, hno, rfl⟩ := hrel
    by_cases hlt : j < 4
    · have dj : decide ((j : Int) < 4) = true := decide_eq_true (by omega)
      have hat := lett_at j hlt
      have hcd := lett_code j hlt
      generalize hl : lett j = x at *
      by_cases hx : x = c
      · have hb : ((x.toNat : Int) == (c.toNat : Int)) = true := by rw [hx]; simp
        rw [hx] at hcd
        have Hc := Lib.hid hcd
        clear hx hcd hno hl
        gi_wp2_with fail
        refine bodyPost_ret (results_tmp rfl _ _ _) rfl ⟨by rw [Hc.out]; rfl, rfl⟩
      · have hb : ((x.toNat : Int) == (c.toNat : Int)) = false := by
          rw [beq_eq_false_iff_ne]
          intro h
          exact hx (UInt8.toNat_inj.1 (by omega))
        have Hno := Lib.hid (show ∀ k, k < j + 1 → lett k ≠ c from fun k hk => by
          by_cases e : k = j
          · rw [e, hl]; exact hx
          · exact hno k (by omega))
        clear hx hcd hno hl
        gi_wp2_with fail
        refine ⟨⟨j + 1, by omega, by go_num, Hno.out, trivial⟩, ?_⟩
        simp [intOf]
        omega
    · obtain rfl : j = 4 := by omega
      have hc := code_not c hno
      have Hc := Lib.hid hc
      clear hno hc
      gi_wp2_with fail
      refine bodyPost_ret (results_tmp rfl _ _ _) rfl ⟨by rw [Hc.out]; rfl, rfl⟩
set_option maxRecDepth 100000 in
set_option maxHeartbeats 2000000 in
theorem Code_in (c : UInt8) (n : Nat) (w : World) (hT : Tab w) :
    CallsIn (Fence.inProg Tryd.prog) n Tryd.prog 41 #[eB c] w fun e w' => e = .returned (.tuple #[.int .i64 (if codeOf c.toNat = -1 then 0 else codeOf c.toNat), .int .i64 (if codeOf c.toNat = -1 then 10 else 0)]) ∧ w = w' := by
  have hC := fun n => code_in c n w hT
  refine callsIn_of_wp Tryd.func41 rfl ⟨_, Tryd.func41⟩ ?_ rfl
  simp only [Tryd.ntmps41, List.size_toArray, List.length_cons, List.length_nil, Nat.reduceAdd, Nat.reduceSub, Array.replicate_succ, Array.replicate_zero, List.push_toArray, List.append_toArray, List.nil_append, List.cons_append]
  by_cases h : codeOf c.toNat = -1
  · have hb : (codeOf c.toNat == -1) = true := by simpa using h
    simp only [if_pos h]
    generalize codeOf c.toNat = k at *
    clear h
    gi_wp2_with fail
    refine ⟨⟨_, Tryd.func34⟩, ?_⟩
    gi_at_call 34
    refine (hC _).mono ?_
    rintro e w' ⟨rfl, rfl⟩
    gi_wp2_with fail
    refine bodyPost_ret ?_ rfl ⟨rfl, rfl⟩
    simp [results, Tryd.f41, go_sem]
  · have hb : (codeOf c.toNat == -1) = false := by simpa using h
    simp only [if_neg h]
    generalize codeOf c.toNat = k at *
    clear h
    gi_wp2_with fail
    refine ⟨⟨_, Tryd.func34⟩, ?_⟩
    gi_at_call 34
    refine (hC _).mono ?_
    rintro e w' ⟨rfl, rfl⟩
    gi_wp2_with fail
    refine bodyPost_ret ?_ rfl ⟨rfl, rfl⟩
    simp [results, Tryd.f41, go_sem]

abbrev errno (n : Int) : List PanicEntry := [{ v := .iface 26 (.int .i64 n), recovered := false }]
def mayB (n : Int) : Bool := decide (2 ≤ n) && decide (n ≤ 1000)
set_option maxRecDepth 100000 in
theorem may_in (k : Int) (n : Nat) (w : World) :
    CallsIn (Fence.inProg Tryd.prog) n Tryd.prog 27 #[.int .i64 k] w fun e w' => e = .returned (.bool (mayB k)) ∧ w = w' := by
  refine callsIn_of_wp Tryd.func27 rfl ⟨_, Tryd.func27⟩ ?_ rfl
  simp only [Tryd.ntmps27, List.size_toArray, List.length_cons, List.length_nil, Nat.reduceAdd, Nat.reduceSub, Array.replicate_succ, Array.replicate_zero, List.push_toArray, List.append_toArray, List.nil_append, List.cons_append]
  by_cases h : 2 ≤ k
  · have d : decide (2 ≤ k) = true := decide_eq_true h
    rw [mayB, d, Bool.true_and]
    gi_wp2_with fail
    refine bodyPost_ret (results_tmp rfl _ _ _) rfl ⟨rfl, rfl⟩
  · have d : decide (2 ≤ k) = false := decide_eq_false h
    rw [mayB, d, Bool.false_and]
    gi_wp2_with fail
    refine bodyPost_ret (results_tmp rfl _ _ _) rfl ⟨rfl, rfl⟩
set_option maxRecDepth 100000 in
theorem must_yes (n : Nat) (w : World) :
    CallsIn (Fence.inProg Tryd.prog) n Tryd.prog 39 #[.bool true] w fun e w' => e = .returned (.tuple #[]) ∧ w = w' := by
  refine callsIn_of_wp Tryd.func39 rfl ⟨_, Tryd.func39⟩ ?_ rfl
  simp only [Tryd.ntmps39, List.size_toArray, List.length_cons, List.length_nil, Nat.reduceAdd, Nat.reduceSub, Array.replicate_succ, Array.replicate_zero, List.push_toArray, List.append_toArray, List.nil_append, List.cons_append]
  gi_wp2_with fail
  go_end0
  exact ⟨rfl, rfl⟩
set_option maxRecDepth 100000 in
theorem must_no (n : Nat) (w : World) :
    CallsIn (Fence.inProg Tryd.prog) n Tryd.prog 39 #[.bool false] w fun e w' => e = .panicked (errno 2) ∧ w = w' := by
  refine callsIn_of_wp Tryd.func39 rfl ⟨_, Tryd.func39⟩ ?_ rfl
  simp only [Tryd.ntmps39, List.size_toArray, List.length_cons, List.length_nil, Nat.reduceAdd, Nat.reduceSub, Array.replicate_succ, Array.replicate_zero, List.push_toArray, List.append_toArray, List.nil_append, List.cons_append]
  gi_wp2_with fail
  exact ⟨rfl, rfl, rfl⟩
end Go.Proofs.YtpjpfgahjalggaaDoor
