/- Contracts of sums.rising and of its iterator, in the fence of the program. -/
import Derived.Test.YtpjpfgahjalggaaDoorSuA
namespace Go.Proofs.YtpjpfgahjalggaaDoor
open Go.RowKit Go.Shelf
attribute [local go_sem] Oper.semAt_some inProg_round inProg_depth

/-- The byte at a place. -/
def atB (x : List UInt8) (i : Nat) : UInt8 := (x[i]?).getD 0
theorem atB_lt {x : List UInt8} {i : Nat} (h : i < x.length) : x[i]? = some (atB x i) := by simp [atB, h]
/-- Whether x rises at a place. -/
def riseB (x : List UInt8) (i : Nat) : Bool := decide (0 < i) && decide ((atB x (i - 1)).toNat ≤ (atB x i).toNat)

theorem rising_in (A : Option Addr) (l c : Nat) (n : Nat) (w : World) :
    CallsIn (Fence.inProg Tryd.prog) n Tryd.prog 40 #[.slice A l c] w fun e w' => e = .returned (.func (.func 42) #[] #[.pointer (some ⟨w.heap.size, 0, none⟩)]) ∧ w' = w.alloc (.cells #[.slice A l c] 22) := by
  have hmf : ∀ (fn : Fn) (first cap : Array Value) (w : World), (Instr.makeFunc fn first cap).run Tryd.prog w = .ok (.func fn first cap) w := fun _ _ _ _ => rfl
  refine callsIn_of_wp Tryd.func40 rfl ⟨_, Tryd.func40⟩ ?_ rfl
  simp only [Tryd.ntmps40, List.size_toArray, List.length_cons, List.length_nil, Nat.reduceAdd, Nat.reduceSub, Array.replicate_succ, Array.replicate_zero, List.push_toArray, List.append_toArray, List.nil_append, List.cons_append]
  gi_wp2_with fail
  refine bodyPost_ret (results_tmp rfl _ _ _) rfl ⟨rfl, rfl⟩
set_option maxRecDepth 1000000 in
set_option maxHeartbeats 4000000 in
theorem rising_seq (b1 B g : Nat) (A : Option Addr) (c : Nat) (x : List UInt8) (hreach : x.length ≤ 1000000) (w0 : World) (hB : B ≤ w0.heap.size) (h1 : b1 < B) (g1 : b1 ≠ g)
    (hc1 : w0.cell? ⟨b1, 0, none⟩ = some (.slice A x.length c)) (hS : Sl eB B w0 (.slice A x.length c) x) (hne : 0 < x.length → ∀ a, A = some a → a.block ≠ g) :
    SeqP (Fence.inProg Tryd.prog) Tryd.prog 42 #[.pointer (some ⟨b1, 0, none⟩)] (fun i : Nat => #[.int .i64 i, .bool (riseB x i)]) (Keep B g) (List.range x.length) w0 := by
  intro l J JS JP W hW hJo hY h0
  have hc1' := (hW.cell (p := ⟨b1, 0, none⟩) (show b1 < _ by omega)).trans hc1
  have hSW := hS.below (hW.mono hB)
  refine callsIn_of_wp Tryd.func42 rfl ⟨_, Tryd.func42⟩ ?_ rfl
  simp only [Tryd.ntmps42, List.size_toArray, List.length_cons, List.length_nil, Nat.reduceAdd, Nat.reduceSub, Array.replicate_succ, Array.replicate_zero, List.push_toArray, List.append_toArray, List.nil_append, List.cons_append]
  gi_wp2_with fail
  gi_loopw [6] (fun i wr => ∃ j : Nat, j ≤ x.length ∧ i = .int .i64 j ∧ J (List.range j) wr ∧ Keep B g W wr) (fun i _ => x.length - (intOf i).toNat)
  case atStart => exact ⟨0, Nat.zero_le _, rfl, h0, keep_r _ _ _⟩
  case round =>
    obtain ⟨j, hj, rfl, hJ, hK⟩ := hrel
    have k1 := (hK.cell (p := ⟨b1, 0, none⟩) h1 g1).trans hc1'
    by_cases hlt : j < x.length
    · obtain ⟨A', c', he, _, hcs⟩ := id hSW
      injection he with e1 e2 e3
      subst e1 e3
      obtain ⟨b, off, rfl, hb, hcell⟩ := hcs (by omega)
      have hbg : b ≠ g := hne (by omega) _ rfl
      have hcx : ∀ i, i < x.length → wr.cell? ⟨b, off + i, none⟩ = some (eB (atB x i)) := fun i hi => (hK.cell (p := ⟨b, off + i, none⟩) hb hbg).trans (hcell i _ (atB_lt hi))
      have c1 := hcx j hlt
      have c2 := hcx (j - 1) (by omega)
      have dj : decide ((j : Int) < (x.length : Int)) = true := decide_eq_true (by omega)
      have hJd : J (List.range j) wr.drew := hJo _ _ _ none hJ ⟨rfl, rfl, rfl, Nat.le_refl _, fun _ _ _ => rfl⟩ (fun r e => by cases e)
      obtain ⟨fn, tmps, assign, body, hy, hR⟩ := hY _ j wr.drew hJd (range_pre j x.length hlt)
      rw [← List.range_succ] at hR
      have hKd : Keep B g W wr.drew := keep_t hK ⟨⟨rfl, rfl, rfl, Nat.le_refl _⟩, fun _ _ _ => rfl⟩
      have Hr := Lib.hid (show riseB x j = (decide (0 < j) && decide ((atB x (j - 1)).toNat ≤ (atB x j).toNat)) from rfl)
      have hxl : (j : Int) < (x.length : Int) := by omega
      have d1 : wr.drew.cell? ⟨b1, 0, none⟩ = some (.slice (some ⟨b, off, none⟩) x.length c) := k1
      have d2 : wr.drew.cell? ⟨b, off + j, none⟩ = some (eB (atB x j)) := c1
      have d3 : wr.drew.cell? ⟨b, off + (j - 1), none⟩ = some (eB (atB x (j - 1))) := c2
      clear hJo hY hJ hJd hcs hcell hcx hSW hS hc1 hc1' h0 c1 c2 hW
      generalize atB x j = y at *
      generalize atB x (j - 1) = z at *
      generalize riseB x j = r at *
      gi_wp2_with fail
      by_cases hp : 0 < j
      · have dp : decide (0 < (j : Int)) = true := decide_eq_true (by omega)
        have hj1 : IntKind.i64.wrap ((j : Int) - 1) = ((j - 1 : Nat) : Int) := by rw [IntWalk.i64_in _ (by omega)]; omega
        have hr : decide (z.toNat ≤ y.toNat) = r := by
          rw [Hr.out, decide_eq_true hp, Bool.true_and]
        have hjx : ((j - 1 : Nat) : Int) < (x.length : Int) := by omega
        have hjx2 : j - 1 < x.length := by omega
        clear Hr
        refine wpIn_region_det 16 [(9, .func (.yield l) #[] #[]), (10, .int .i64 j), (11, .int .i64 j), (12, .bool true), (13, .bool true), (14, .slice (some ⟨b, off, none⟩) x.length c), (15, .int .i64 j), (16, .pointer (some ⟨b, off + j, none⟩)), (17, eB y),
          (18, .slice (some ⟨b, off, none⟩) x.length c), (19, .int .i64 j), (20, .int .i64 (j - 1 : Nat)), (21, .pointer (some ⟨b, off + (j - 1), none⟩)), (22, eB z), (23, .bool r), (24, .bool r)]
          (by kernel_rfl) (by decide) (by kernel_rfl) (by kernel_rfl) (by kernel_rfl) (by kernel_rfl) (by kernel_rfl) ?ok1 ?tail1
        case ok1 =>
          intro A hA
          simp only [putAll, Act.put, List.setIfInBounds_toArray, List.set_cons_zero, List.set_cons_succ] at hA
          subst hA
          clear hR hK hKd hy
          refine ⟨?_, ?_, ?_, ?_, ?_, ?_, ?_, ?_, ?_, ?_, ?_, ?_, ?_, ?_, ?_, ?_, trivial⟩
          all_goals unfold DetIn
          all_goals go_simp
          all_goals exact hr
        case tail1 =>
          intro A hA
          simp only [putAll, Act.put, List.setIfInBounds_toArray, List.set_cons_zero, List.set_cons_succ] at hA
          subst hA
          clear d1 d2 d3 hr
          simp only [List.drop_succ_cons, List.drop_zero]
          gi_wp2_with fail
          refine (roundIn_room rfl hR).mono ?_
          clear hy hR
          rintro e W3 (⟨rfl, hJ3, hK3, hF3⟩ | ⟨rfl, hS3⟩ | ⟨ch, rfl, hP3⟩)
          · gi_wp2_with fail
            refine ⟨⟨j + 1, by omega, by go_num, hJ3, keep_t hKd hK3⟩, ?_⟩
            simp [intOf]
            omega
          · gi_wp2_with fail
            refine bodyPost_ret (results_none rfl _ _ _) rfl ?_
            exact .inl ⟨⟨_, rfl⟩, .inr hS3⟩
          · gi_wp2_with fail
            exact ⟨rfl, .inr ⟨ch, rfl, hP3⟩⟩
      · have dp : decide (0 < (j : Int)) = false := decide_eq_false (by omega)
        have hr : r = false := by rw [Hr.out, decide_eq_false hp, Bool.false_and]
        subst hr
        clear Hr
        refine wpIn_region_det 16 [(9, .func (.yield l) #[] #[]), (10, .int .i64 j), (11, .int .i64 j), (12, .bool false), (13, .bool false), (14, undef), (15, undef), (16, undef), (17, undef),
          (18, undef), (19, undef), (20, undef), (21, undef), (22, undef), (23, undef), (24, .bool false)]
          (by kernel_rfl) (by decide) (by kernel_rfl) (by kernel_rfl) (by kernel_rfl) (by kernel_rfl) (by kernel_rfl) ?ok2 ?tail2
        case ok2 =>
          intro A hA
          simp only [putAll, Act.put, List.setIfInBounds_toArray, List.set_cons_zero, List.set_cons_succ] at hA
          subst hA
          clear hR hK hKd hy
          refine ⟨?_, ?_, ?_, ?_, ?_, ?_, ?_, ?_, ?_, ?_, ?_, ?_, ?_, ?_, ?_, ?_, trivial⟩
          all_goals unfold DetIn
          all_goals go_simp
        case tail2 =>
          intro A hA
          simp only [putAll, Act.put, List.setIfInBounds_toArray, List.set_cons_zero, List.set_cons_succ] at hA
          subst hA
          clear d1 d2 d3
          simp only [List.drop_succ_cons, List.drop_zero]
          gi_wp2_with fail
          refine (roundIn_room rfl hR).mono ?_
          clear hy hR
          rintro e W3 (⟨rfl, hJ3, hK3, hF3⟩ | ⟨rfl, hS3⟩ | ⟨ch, rfl, hP3⟩)
          · gi_wp2_with fail
            refine ⟨⟨j + 1, by omega, by go_num, hJ3, keep_t hKd hK3⟩, ?_⟩
            simp [intOf]
            omega
          · gi_wp2_with fail
            refine bodyPost_ret (results_none rfl _ _ _) rfl ?_
            exact .inl ⟨⟨_, rfl⟩, .inr hS3⟩
          · gi_wp2_with fail
            exact ⟨rfl, .inr ⟨ch, rfl, hP3⟩⟩
    · obtain rfl : j = x.length := by omega
      have d0 : decide ((x.length : Int) < (x.length : Int)) = false := decide_eq_false (by omega)
      clear hSW hS hY hJo
      gi_wp2_with fail
      go_end0
      exact .inl ⟨⟨_, rfl⟩, .inl hJ⟩
end Go.Proofs.YtpjpfgahjalggaaDoor
