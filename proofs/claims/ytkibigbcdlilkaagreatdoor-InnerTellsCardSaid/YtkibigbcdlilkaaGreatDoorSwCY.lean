import Derived.LoopTactic
import Derived.Test.YtkibigbcdlilkaaGreatDoorRows
import Derived.Defers
import Derived.Recover
import Derived.Test.YtkibigbcdlilkaaGreatDoorDTJY
import Derived.Test.YtkibigbcdlilkaaGreatDoorKpY
import Derived.Test.YtkibigbcdlilkaaGreatDoorMMY
namespace Go.Proofs.YtkibigbcdlilkaaGreatDoor
open Go.RowKit Go.Shelf
attribute [local go_sem] Oper.semAt_some inProg_round inProg_depth
def Tab (w : World) : Prop := ∃ t fr, w.heap[1]? = some (.cells #[.int .u8 65, .int .u8 67, .int .u8 71, .int .u8 84] t fr)
theorem Tab.lt {w : World} (h : Tab w) : 1 < w.heap.size := by
 obtain ⟨_, _, h⟩ := h
 exact (Array.getElem?_eq_some_iff.1 h).1
theorem Tab.below' {B : Nat} {w w' : World} (h : Tab w) (hb : Below B w w') (hB : 1 < B) : Tab w' := by
 obtain ⟨t, fr, h⟩ := h
 exact ⟨t, fr, (hb.block _ hB).trans h⟩
theorem Tab.below {w w' : World} (h : Tab w) (hb : Below w.heap.size w w') : Tab w' := h.below' hb h.lt
theorem Tab.keep {B g : Nat} {W W' : World} (h : Tab W) (hk : Keep B g W W') (hB : 1 < B) (hg : 1 ≠ g) : Tab W' := by
 obtain ⟨t, fr, h⟩ := h
 exact ⟨t, fr, (hk.2 _ hB hg).trans h⟩
theorem Tab.of_var {w : World} (h : w.var? Tryz.prog "helix/nt.letters" = some #[.int .u8 65, .int .u8 67, .int .u8 71, .int .u8 84]) : Tab w := by
 have hg : Tryz.prog.globalNamed "helix/nt.letters" = some 1 := by kernel_rfl
 unfold World.var? at h
 rw [hg, Option.bind_some] at h
 split at h
 · rename_i cs t fr he
   cases h
   exact ⟨_, _, he⟩
 · cases h
def codeOf (c : Nat) : Int := if c = 65 then 0 else if c = 67 then 1 else if c = 71 then 2 else if c = 84 then 3 else -1
theorem codeOf_range (c : Nat) : -1 ≤ codeOf c ∧ codeOf c ≤ 3 := by
 unfold codeOf
 repeat' split
 all_goals omega
def lett (j : Nat) : UInt8 := if j = 0 then 65 else if j = 1 then 67 else if j = 2 then 71 else 84
theorem lett_at (j : Nat) (hj : j < 4) (w : World) : (Instr.index 93 (.agg #[.int .u8 65, .int .u8 67, .int .u8 71, .int .u8 84]) (.int .i64 (j : Nat))).run Tryz.prog w = .ok (eB (lett j)) w := by
 rcases (show j = 0 ∨ j = 1 ∨ j = 2 ∨ j = 3 by omega) with rfl | rfl | rfl | rfl <;> kernel_rfl
theorem lett_code (j : Nat) (hj : j < 4) : codeOf (lett j).toNat = (j : Int) := by
 rcases (show j = 0 ∨ j = 1 ∨ j = 2 ∨ j = 3 by omega) with rfl | rfl | rfl | rfl <;> rfl
theorem code_not (c : UInt8) (h : ∀ j, j < 4 → lett j ≠ c) : codeOf c.toNat = -1 := by
 have e : ∀ k : UInt8, c.toNat = k.toNat → k = c := fun k hk => (UInt8.toNat_inj.1 hk).symm
 unfold codeOf
 split
 · exact absurd (e 65 (by assumption)) (h 0 (by omega))
 · split
   · exact absurd (e 67 (by assumption)) (h 1 (by omega))
   · split
     · exact absurd (e 71 (by assumption)) (h 2 (by omega))
     · split
       · exact absurd (e 84 (by assumption)) (h 3 (by omega))
       · rfl
theorem size4 : (Tryz.prog.info? 93).map (·.size) = some 4 := by kernel_rfl
set_option maxRecDepth 100000 in
set_option maxHeartbeats 2000000 in
theorem code_in (c : UInt8) (n : Nat) (w : World) (hT : Tab w) :
    CallsIn (Fence.inProg Tryz.prog) n Tryz.prog 76 #[eB c] w fun e w' => e = .returned (.int .i64 (codeOf c.toNat)) ∧ w = w' := by
  obtain ⟨tt, fr, ht⟩ := hT
  refine callsIn_of_wp Tryz.func76 rfl ⟨_, Tryz.func76⟩ ?_ rfl
  simp only [Tryz.ntmps76, List.size_toArray, List.length_cons, List.length_nil, Nat.reduceAdd, Nat.reduceSub, Array.replicate_succ, Array.replicate_zero, List.push_toArray, List.append_toArray, List.nil_append, List.cons_append]
  gi_wp2_with (refine wpListIn_load_row rfl 93 (.global 1) rfl 1 rfl _ _ _ _ ht Tryz.underlying93 rfl size4 ?_)
  clear ht
  gi_loopw [6] (fun i wr => ∃ j : Nat, j ≤ 4 ∧ i = .int .i64 j ∧ (∀ k, k < j → lett k ≠ c) ∧ wr = w) (fun i _ => 4 - (intOf i).toNat)
  case atStart => exact ⟨0, Nat.zero_le _, rfl, fun k hk => absurd hk (by omega), rfl⟩
  case round =>
   obtain ⟨j, hj, rfl, hno, rfl⟩ := hrel
   by_cases hlt : j < 4
   · have dj : decide ((j : Int) < 4) = true := decide_eq_true (by omega)
     have hat := lett_at j hlt
     have hcd := lett_code j hlt
     generalize hl : lett j = x at *
     by_cases hx : x = c
     · have hb : ((x.toNat : Int) == (c.toNat : Int)) = true := by rw [hx]; simp
       rw [hx] at hcd
       have Hc := Lib.hid hcd
       clear hx hcd hno hl
       gi_wp2_with fail
       refine bodyPost_ret (results_tmp rfl _ _ _) rfl ⟨by rw [Hc.out]; rfl, rfl⟩
     · have hb : ((x.toNat : Int) == (c.toNat : Int)) = false := by
         rw [beq_eq_false_iff_ne]
         intro h
         exact hx (UInt8.toNat_inj.1 (by omega))
       have Hno := Lib.hid (show ∀ k, k < j + 1 → lett k ≠ c from fun k hk => by
        by_cases e : k = j
        · rw [e, hl]; exact hx
        · exact hno k (by omega))
       clear hx hcd hno hl
       gi_wp2_with fail
       refine ⟨⟨j + 1, by omega, by go_num, Hno.out, trivial⟩, ?_⟩
       simp [intOf]
       omega
   · obtain rfl : j = 4 := by omega
     have hc := code_not c hno
     have Hc := Lib.hid hc
     clear hno hc
     gi_wp2_with fail
     refine bodyPost_ret (results_tmp rfl _ _ _) rfl ⟨by rw [Hc.out]; rfl, rfl⟩
set_option maxRecDepth 100000 in
set_option maxHeartbeats 2000000 in
theorem Code_in (c : UInt8) (n : Nat) (w : World) (hT : Tab w) :
    CallsIn (Fence.inProg Tryz.prog) n Tryz.prog 64 #[eB c] w fun e w' => e = .returned (.tuple #[.int .i64 (if codeOf c.toNat = -1 then 0 else codeOf c.toNat), .int .i64 (if codeOf c.toNat = -1 then 10 else 0)]) ∧ w = w' := by
  have hC := fun n => code_in c n w hT
  refine callsIn_of_wp Tryz.func64 rfl ⟨_, Tryz.func64⟩ ?_ rfl
  simp only [Tryz.ntmps64, List.size_toArray, List.length_cons, List.length_nil, Nat.reduceAdd, Nat.reduceSub, Array.replicate_succ, Array.replicate_zero, List.push_toArray, List.append_toArray, List.nil_append, List.cons_append]
  by_cases h : codeOf c.toNat = -1
  · have hb : (codeOf c.toNat == -1) = true := by simpa using h
    simp only [if_pos h]
    generalize codeOf c.toNat = k at *
    clear h
    gi_wp2_with fail
    refine ⟨⟨_, Tryz.func76⟩, ?_⟩
    gi_at_call 76
    refine (hC _).mono ?_
    rintro e w' ⟨rfl, rfl⟩
    gi_wp2_with fail
    refine bodyPost_ret ?_ rfl ⟨rfl, rfl⟩
    simp [results, Tryz.f64, go_sem]
  · have hb : (codeOf c.toNat == -1) = false := by simpa using h
    simp only [if_neg h]
    generalize codeOf c.toNat = k at *
    clear h
    gi_wp2_with fail
    refine ⟨⟨_, Tryz.func76⟩, ?_⟩
    gi_at_call 76
    refine (hC _).mono ?_
    rintro e w' ⟨rfl, rfl⟩
    gi_wp2_with fail
    refine bodyPost_ret ?_ rfl ⟨rfl, rfl⟩
    simp [results, Tryz.f64, go_sem]
abbrev errno (n : Int) : List PanicEntry := [{ v := .iface 24 (.int .i64 n), recovered := false }]
def mayB (n : Int) : Bool := decide (2 ≤ n) && decide (n ≤ 1000)
set_option maxRecDepth 100000 in
theorem may_in (k : Int) (n : Nat) (w : World) :
    CallsIn (Fence.inProg Tryz.prog) n Tryz.prog 57 #[.int .i64 k] w fun e w' => e = .returned (.bool (mayB k)) ∧ w = w' := by
  refine callsIn_of_wp Tryz.func57 rfl ⟨_, Tryz.func57⟩ ?_ rfl
  simp only [Tryz.ntmps57, List.size_toArray, List.length_cons, List.length_nil, Nat.reduceAdd, Nat.reduceSub, Array.replicate_succ, Array.replicate_zero, List.push_toArray, List.append_toArray, List.nil_append, List.cons_append]
  by_cases h : 2 ≤ k
  · have d : decide (2 ≤ k) = true := decide_eq_true h
    rw [mayB, d, Bool.true_and]
    gi_wp2_with fail
    refine bodyPost_ret (results_tmp rfl _ _ _) rfl ⟨rfl, rfl⟩
  · have d : decide (2 ≤ k) = false := decide_eq_false h
    rw [mayB, d, Bool.false_and]
    gi_wp2_with fail
    refine bodyPost_ret (results_tmp rfl _ _ _) rfl ⟨rfl, rfl⟩
set_option maxRecDepth 100000 in
theorem must_yes (n : Nat) (w : World) :
    CallsIn (Fence.inProg Tryz.prog) n Tryz.prog 152 #[.bool true] w fun e w' => e = .returned (.tuple #[]) ∧ w = w' := by
  refine callsIn_of_wp Tryz.func152 rfl ⟨_, Tryz.func152⟩ ?_ rfl
  simp only [Tryz.ntmps152, List.size_toArray, List.length_cons, List.length_nil, Nat.reduceAdd, Nat.reduceSub, Array.replicate_succ, Array.replicate_zero, List.push_toArray, List.append_toArray, List.nil_append, List.cons_append]
  gi_wp2_with fail
  go_end0
  exact ⟨rfl, rfl⟩
set_option maxRecDepth 100000 in
theorem must_no (n : Nat) (w : World) :
    CallsIn (Fence.inProg Tryz.prog) n Tryz.prog 152 #[.bool false] w fun e w' => e = .panicked (errno 2) ∧ w = w' := by
  refine callsIn_of_wp Tryz.func152 rfl ⟨_, Tryz.func152⟩ ?_ rfl
  simp only [Tryz.ntmps152, List.size_toArray, List.length_cons, List.length_nil, Nat.reduceAdd, Nat.reduceSub, Array.replicate_succ, Array.replicate_zero, List.push_toArray, List.append_toArray, List.nil_append, List.cons_append]
  gi_wp2_with fail
  exact ⟨rfl, rfl, rfl⟩
end Go.Proofs.YtkibigbcdlilkaaGreatDoor
namespace Go.Proofs.YtkibigbcdlilkaaGreatDoor
open Go.RowKit Go.Shelf
attribute [local go_sem] Oper.semAt_some inProg_round inProg_depth
def atB (x : List UInt8) (i : Nat) : UInt8 := (x[i]?).getD 0
theorem atB_lt {x : List UInt8} {i : Nat} (h : i < x.length) : x[i]? = some (atB x i) := by simp [atB, h]
def riseB (x : List UInt8) (i : Nat) : Bool := decide (0 < i) && decide ((atB x (i - 1)).toNat ≤ (atB x i).toNat)
theorem rising_in (A : Option Addr) (l c : Nat) (n : Nat) (w : World) :
    CallsIn (Fence.inProg Tryz.prog) n Tryz.prog 159 #[.slice A l c] w fun e w' => e = .returned (.func (.func 165) #[] #[.pointer (some ⟨w.heap.size, 0, none⟩)]) ∧ w' = w.alloc (.cells #[.slice A l c] 22) := by
  have hmf : ∀ (fn : Fn) (first cap : Array Value) (w : World), (Instr.makeFunc fn first cap).run Tryz.prog w = .ok (.func fn first cap) w := fun _ _ _ _ => rfl
  refine callsIn_of_wp Tryz.func159 rfl ⟨_, Tryz.func159⟩ ?_ rfl
  simp only [Tryz.ntmps159, List.size_toArray, List.length_cons, List.length_nil, Nat.reduceAdd, Nat.reduceSub, Array.replicate_succ, Array.replicate_zero, List.push_toArray, List.append_toArray, List.nil_append, List.cons_append]
  gi_wp2_with fail
  refine bodyPost_ret (results_tmp rfl _ _ _) rfl ⟨rfl, rfl⟩
set_option maxRecDepth 1000000 in
set_option maxHeartbeats 4000000 in
theorem rising_seq (b1 B g : Nat) (A : Option Addr) (c : Nat) (x : List UInt8) (hreach : x.length ≤ 1000000) (w0 : World) (hB : B ≤ w0.heap.size) (h1 : b1 < B) (g1 : b1 ≠ g)
    (hc1 : w0.cell? ⟨b1, 0, none⟩ = some (.slice A x.length c)) (hS : Sl eB B w0 (.slice A x.length c) x) (hne : 0 < x.length → ∀ a, A = some a → a.block ≠ g) :
    SeqP (Fence.inProg Tryz.prog) Tryz.prog 165 #[.pointer (some ⟨b1, 0, none⟩)] (fun i : Nat => #[.int .i64 i, .bool (riseB x i)]) (Keep B g) (List.range x.length) w0 := by
 intro l J JS JP W hW hJo hY h0
 have hc1' := (hW.cell (p := ⟨b1, 0, none⟩) (show b1 < _ by omega)).trans hc1
 have hSW := hS.below (hW.mono hB)
 refine callsIn_of_wp Tryz.func165 rfl ⟨_, Tryz.func165⟩ ?_ rfl
 simp only [Tryz.ntmps165, List.size_toArray, List.length_cons, List.length_nil, Nat.reduceAdd, Nat.reduceSub, Array.replicate_succ, Array.replicate_zero, List.push_toArray, List.append_toArray, List.nil_append, List.cons_append]
 gi_wp2_with fail
 gi_loopw [6] (fun i wr => ∃ j : Nat, j ≤ x.length ∧ i = .int .i64 j ∧ J (List.range j) wr ∧ Keep B g W wr) (fun i _ => x.length - (intOf i).toNat)
 case atStart => exact ⟨0, Nat.zero_le _, rfl, h0, keep_r _ _ _⟩
 case round =>
  obtain ⟨j, hj, rfl, hJ, hK⟩ := hrel
  have k1 := (hK.cell (p := ⟨b1, 0, none⟩) h1 g1).trans hc1'
  by_cases hlt : j < x.length
  · obtain ⟨A', c', he, _, hcs⟩ := id hSW
    injection he with e1 e2 e3
    subst e1 e3
    obtain ⟨b, off, rfl, hb, hcell⟩ := hcs (by omega)
    have hbg : b ≠ g := hne (by omega) _ rfl
    have hcx : ∀ i, i < x.length → wr.cell? ⟨b, off + i, none⟩ = some (eB (atB x i)) := fun i hi => (hK.cell (p := ⟨b, off + i, none⟩) hb hbg).trans (hcell i _ (atB_lt hi))
    have c1 := hcx j hlt
    have c2 := hcx (j - 1) (by omega)
    have dj : decide ((j : Int) < (x.length : Int)) = true := decide_eq_true (by omega)
    have hJd : J (List.range j) wr.drew := hJo _ _ _ none hJ ⟨rfl, rfl, rfl, Nat.le_refl _, fun _ _ _ => rfl⟩ (fun r e => by cases e)
    obtain ⟨fn, tmps, assign, body, hy, hR⟩ := hY _ j wr.drew hJd (range_pre j x.length hlt)
    rw [← List.range_succ] at hR
    have hKd : Keep B g W wr.drew := keep_t hK ⟨⟨rfl, rfl, rfl, Nat.le_refl _⟩, fun _ _ _ => rfl⟩
    have Hr := Lib.hid (show riseB x j = (decide (0 < j) && decide ((atB x (j - 1)).toNat ≤ (atB x j).toNat)) from rfl)
    have hxl : (j : Int) < (x.length : Int) := by omega
    have d1 : wr.drew.cell? ⟨b1, 0, none⟩ = some (.slice (some ⟨b, off, none⟩) x.length c) := k1
    have d2 : wr.drew.cell? ⟨b, off + j, none⟩ = some (eB (atB x j)) := c1
    have d3 : wr.drew.cell? ⟨b, off + (j - 1), none⟩ = some (eB (atB x (j - 1))) := c2
    clear hJo hY hJ hJd hcs hcell hcx hSW hS hc1 hc1' h0 c1 c2 hW
    generalize atB x j = y at *
    generalize atB x (j - 1) = z at *
    generalize riseB x j = r at *
    gi_wp2_with fail
    by_cases hp : 0 < j
    · have dp : decide (0 < (j : Int)) = true := decide_eq_true (by omega)
      have hj1 : IntKind.i64.wrap ((j : Int) - 1) = ((j - 1 : Nat) : Int) := by rw [IntWalk.i64_in _ (by omega)]; omega
      have hr : decide (z.toNat ≤ y.toNat) = r := by
       rw [Hr.out, decide_eq_true hp, Bool.true_and]
      have hjx : ((j - 1 : Nat) : Int) < (x.length : Int) := by omega
      have hjx2 : j - 1 < x.length := by omega
      clear Hr
      refine wpIn_region_det 16 [(9, .func (.yield l) #[] #[]), (10, .int .i64 j), (11, .int .i64 j), (12, .bool true), (13, .bool true), (14, .slice (some ⟨b, off, none⟩) x.length c), (15, .int .i64 j), (16, .pointer (some ⟨b, off + j, none⟩)), (17, eB y),
       (18, .slice (some ⟨b, off, none⟩) x.length c), (19, .int .i64 j), (20, .int .i64 (j - 1 : Nat)), (21, .pointer (some ⟨b, off + (j - 1), none⟩)), (22, eB z), (23, .bool r), (24, .bool r)]
       (by kernel_rfl) (by decide) (by kernel_rfl) (by kernel_rfl) (by kernel_rfl) (by kernel_rfl) (by kernel_rfl) ?ok1 ?tail1
      case ok1 =>
       intro A hA
       simp only [putAll, Act.put, List.setIfInBounds_toArray, List.set_cons_zero, List.set_cons_succ] at hA
       subst hA
       clear hR hK hKd hy
       refine ⟨?_, ?_, ?_, ?_, ?_, ?_, ?_, ?_, ?_, ?_, ?_, ?_, ?_, ?_, ?_, ?_, trivial⟩
       all_goals unfold DetIn
       all_goals go_simp
       all_goals exact hr
      case tail1 =>
       intro A hA
       simp only [putAll, Act.put, List.setIfInBounds_toArray, List.set_cons_zero, List.set_cons_succ] at hA
       subst hA
       clear d1 d2 d3 hr
       simp only [List.drop_succ_cons, List.drop_zero]
       gi_wp2_with fail
       refine (roundIn_room rfl hR).mono ?_
       clear hy hR
       rintro e W3 (⟨rfl, hJ3, hK3, hF3⟩ | ⟨rfl, hS3⟩ | ⟨ch, rfl, hP3⟩)
       · gi_wp2_with fail
         refine ⟨⟨j + 1, by omega, by go_num, hJ3, keep_t hKd hK3⟩, ?_⟩
         simp [intOf]
         omega
       · gi_wp2_with fail
         refine bodyPost_ret (results_none rfl _ _ _) rfl ?_
         exact .inl ⟨⟨_, rfl⟩, .inr hS3⟩
       · gi_wp2_with fail
         exact ⟨rfl, .inr ⟨ch, rfl, hP3⟩⟩
    · have dp : decide (0 < (j : Int)) = false := decide_eq_false (by omega)
      have hr : r = false := by rw [Hr.out, decide_eq_false hp, Bool.false_and]
      subst hr
      clear Hr
      refine wpIn_region_det 16 [(9, .func (.yield l) #[] #[]), (10, .int .i64 j), (11, .int .i64 j), (12, .bool false), (13, .bool false), (14, undef), (15, undef), (16, undef), (17, undef),
       (18, undef), (19, undef), (20, undef), (21, undef), (22, undef), (23, undef), (24, .bool false)]
       (by kernel_rfl) (by decide) (by kernel_rfl) (by kernel_rfl) (by kernel_rfl) (by kernel_rfl) (by kernel_rfl) ?ok2 ?tail2
      case ok2 =>
       intro A hA
       simp only [putAll, Act.put, List.setIfInBounds_toArray, List.set_cons_zero, List.set_cons_succ] at hA
       subst hA
       clear hR hK hKd hy
       refine ⟨?_, ?_, ?_, ?_, ?_, ?_, ?_, ?_, ?_, ?_, ?_, ?_, ?_, ?_, ?_, ?_, trivial⟩
       all_goals unfold DetIn
       all_goals go_simp
      case tail2 =>
       intro A hA
       simp only [putAll, Act.put, List.setIfInBounds_toArray, List.set_cons_zero, List.set_cons_succ] at hA
       subst hA
       clear d1 d2 d3
       simp only [List.drop_succ_cons, List.drop_zero]
       gi_wp2_with fail
       refine (roundIn_room rfl hR).mono ?_
       clear hy hR
       rintro e W3 (⟨rfl, hJ3, hK3, hF3⟩ | ⟨rfl, hS3⟩ | ⟨ch, rfl, hP3⟩)
       · gi_wp2_with fail
         refine ⟨⟨j + 1, by omega, by go_num, hJ3, keep_t hKd hK3⟩, ?_⟩
         simp [intOf]
         omega
       · gi_wp2_with fail
         refine bodyPost_ret (results_none rfl _ _ _) rfl ?_
         exact .inl ⟨⟨_, rfl⟩, .inr hS3⟩
       · gi_wp2_with fail
         exact ⟨rfl, .inr ⟨ch, rfl, hP3⟩⟩
  · obtain rfl : j = x.length := by omega
    have d0 : decide ((x.length : Int) < (x.length : Int)) = false := decide_eq_false (by omega)
    clear hSW hS hY hJo
    gi_wp2_with fail
    go_end0
    exact .inl ⟨⟨_, rfl⟩, .inl hJ⟩
end Go.Proofs.YtkibigbcdlilkaaGreatDoor
namespace Go.Proofs.YtkibigbcdlilkaaGreatDoor
open Go.RowKit Go.Shelf
attribute [local go_sem] Oper.semAt_some inProg_round inProg_depth
def sT (x : List UInt8) : Nat → Int
  | 0 => 0
  | k + 1 => sT x k + if riseB x k then (k : Int) else 0
def sS (x : List UInt8) : Nat → Int
  | 0 => 0
  | k + 1 => sS x k + codeOf (atB x k).toNat
def sW (x : List UInt8) : Nat → Int
  | 0 => 0
  | k + 1 => sW x k + codeOf (atB x k).toNat * ((k : Int) + 1)
def sumsG (x : List UInt8) : Except Int (Int × Int × Int) :=
 if mayB x.length = false then .error 2 else if ∃ k, k < x.length ∧ codeOf (atB x k).toNat = -1 then .error 10 else .ok (sT x x.length % x.length, sS x x.length % 4, sW x x.length % (6 * x.length + 1))
abbrev v3 (a b c : Int) : Value := .agg #[.int .i64 a, .int .i64 b, .int .i64 c]
theorem sT_range (x : List UInt8) (k : Nat) (hk : k ≤ 1000) : 0 ≤ sT x k ∧ sT x k ≤ 1000 * k := by
 induction k with
 | zero => simp [sT]
 | succ k ih =>
   have := ih (by omega)
   rw [sT]
   split <;> omega
theorem sS_range (x : List UInt8) (k : Nat) (h : ∀ j, j < k → codeOf (atB x j).toNat ≠ -1) : 0 ≤ sS x k ∧ sS x k ≤ 3 * k := by
 induction k with
 | zero => simp [sS]
 | succ k ih =>
   have := ih (fun j hj => h j (by omega))
   have h1 := codeOf_range (atB x k).toNat
   have h2 := h k (by omega)
   rw [sS]
   omega
theorem sW_range (x : List UInt8) (k : Nat) (hk : k ≤ 1000) (h : ∀ j, j < k → codeOf (atB x j).toNat ≠ -1) : 0 ≤ sW x k ∧ sW x k ≤ 3000 * k := by
 induction k with
 | zero => simp [sW]
 | succ k ih =>
   have := ih (by omega) (fun j hj => h j (by omega))
   have h1 := codeOf_range (atB x k).toNat
   have h2 := h k (by omega)
   rw [sW]
   have h3 : codeOf (atB x k).toNat = 0 ∨ codeOf (atB x k).toNat = 1 ∨ codeOf (atB x k).toNat = 2 ∨ codeOf (atB x k).toNat = 3 := by omega
   rcases h3 with e | e | e | e <;> rw [e] <;> omega
theorem infoS : (Tryz.prog.info? 51).map (fun i => (i.zero, i.size)) = some (some (v3 0 0 0), 3) := by kernel_rfl
set_option maxRecDepth 100000 in
set_option maxHeartbeats 4000000 in
theorem of_in (sv : Value) (x : List UInt8) (hreach : x.length ≤ 1000000) (w : World) (hT : Tab w) (hS : Sl eB w.heap.size w sv x) (n : Nat) :
    CallsIn (Fence.inProg Tryz.prog) n Tryz.prog 150 #[sv] w fun e w' => Below w.heap.size w w' ∧
      ((∃ a b c, sumsG x = .ok (a, b, c) ∧ e = .returned (v3 a b c)) ∨ ∃ m, sumsG x = .error m ∧ e = .panicked (errno m)) := by
  obtain ⟨A, c, rfl⟩ := hS.len
  obtain ⟨hz, hsz⟩ := zero_of_info infoS
  have hc0 : (v3 0 0 0).cells = #[.int .i64 0, .int .i64 0, .int .i64 0] := rfl
  have hmy := fun n => may_in x.length n
  refine callsIn_of_wp_marks Tryz.func150 rfl ⟨_, Tryz.func150⟩ ?_ rfl
  simp only [Tryz.ntmps150, List.size_toArray, List.length_cons, List.length_nil, Nat.reduceAdd, Nat.reduceSub, Array.replicate_succ, Array.replicate_zero, List.push_toArray, List.append_toArray, List.nil_append, List.cons_append]
  have hA1 := ((Below.refl w.heap.size w).alloc (Nat.le_refl _) (.cells #[.slice A x.length c] 22)).alloc (by simp) (.cells #[.int .i64 0, .int .i64 0, .int .i64 0] 51)
  by_cases hm : mayB x.length = false
  · have he : sumsG x = .error 2 := by rw [sumsG, if_pos hm]
    rw [he]
    rw [hm] at hmy
    gi_wp2_with fail
    refine ⟨⟨_, Tryz.func57⟩, ?_⟩
    gi_at_call 57
    refine (hmy _ _).mono ?_
    rintro e w' ⟨rfl, rfl⟩
    gi_wp2_with fail
    refine ⟨⟨_, Tryz.func152⟩, ?_⟩
    gi_at_call 152
    refine (must_no _ _).mono ?_
    rintro e w' ⟨rfl, rfl⟩
    gi_wp2_with fail
    exact ⟨hA1, .inr ⟨2, rfl, rfl⟩⟩
  have hm : mayB x.length = true := by simpa using hm
  rw [hm] at hmy
  have hx2 : 2 ≤ x.length ∧ x.length ≤ 1000 := by
   unfold mayB at hm
   rw [Bool.and_eq_true, decide_eq_true_eq, decide_eq_true_eq] at hm
   omega
  have hA := hA1.alloc (by simp; omega) (.cells #[.int .i64 0, .int .i64 0, .int .i64 0] 51)
  have hs0 : (((w.alloc (.cells #[.slice A x.length c] 22)).alloc (.cells #[.int .i64 0, .int .i64 0, .int .i64 0] 51)).alloc (.cells #[.int .i64 0, .int .i64 0, .int .i64 0] 51)).heap.size = w.heap.size + 3 := by simp
  have hb0 := ((Boxed.new w 22 (.slice A x.length c)).alloc (.cells #[.int .i64 0, .int .i64 0, .int .i64 0] 51)).alloc (.cells #[.int .i64 0, .int .i64 0, .int .i64 0] 51)
  have hr1 := (Rowed.new (w.alloc (.cells #[.slice A x.length c] 22)) 51 #[.int .i64 0, .int .i64 0, .int .i64 0]).alloc (.cells #[.int .i64 0, .int .i64 0, .int .i64 0] 51)
  have hr2 := Rowed.new ((w.alloc (.cells #[.slice A x.length c] 22)).alloc (.cells #[.int .i64 0, .int .i64 0, .int .i64 0] 51)) 51 #[.int .i64 0, .int .i64 0, .int .i64 0]
  rw [World.size_alloc] at hr1
  rw [World.size_alloc, World.size_alloc] at hr2
  gi_wp2_with fail
  refine ⟨⟨_, Tryz.func57⟩, ?_⟩
  gi_at_call 57
  refine (hmy _ _).mono ?_
  rintro e w' ⟨rfl, rfl⟩
  gi_wp2_with fail
  refine ⟨⟨_, Tryz.func152⟩, ?_⟩
  gi_at_call 152
  refine (must_yes _ _).mono ?_
  rintro e w' ⟨rfl, rfl⟩
  gi_wp2_with fail
  generalize ((w.alloc (.cells #[.slice A x.length c] 22)).alloc (.cells #[.int .i64 0, .int .i64 0, .int .i64 0] 51)).alloc (.cells #[.int .i64 0, .int .i64 0, .int .i64 0] 51) = w1 at *
  refine ⟨⟨_, Tryz.func159⟩, ?_⟩
  gi_at_call 159
  refine (rising_in A x.length c _ w1).mono ?_
  rintro e w2 ⟨rfl, rfl⟩
  gi_wp2_with fail
  have hb3 := Boxed.new w1 22 (.slice A x.length c)
  have hA2 := hA.alloc (by omega) (.cells #[.slice A x.length c] 22)
  have hs2 : (w1.alloc (.cells #[.slice A x.length c] 22)).heap.size = w.heap.size + 4 := by simp; omega
  have hb0' := hb0.alloc (.cells #[.slice A x.length c] 22)
  have hr1' := hr1.alloc (.cells #[.slice A x.length c] 22)
  have hr2' := hr2.alloc (.cells #[.slice A x.length c] 22)
  rw [hs0] at hb3
  generalize w1.alloc (.cells #[.slice A x.length c] 22) = w2 at *
  have hS2 := hS.below hA2
  have hTl := hT.lt
  have hT2 := hT.below hA2
  have hne : 0 < x.length → ∀ a, A = some a → a.block < w.heap.size := by
   intro h0 a ha
   obtain ⟨A', c', e, _, hcs⟩ := hS
   injection e with e1 e2 e3
   subst e1
   obtain ⟨b, off, e4, hb, _⟩ := hcs h0
   rw [e4] at ha
   cases ha
   exact hb
  have hseq := rising_seq (w.heap.size + 3) (w.heap.size + 4) (w.heap.size + 1 + 1) A c x hreach w2 (by omega) (by omega) (by omega) hb3.cell (hS2.more (by omega)) (fun h0 a ha => by have := hne h0 a ha; omega)
  clear hb0 hr1 hr2 hb3 hA hmy hT hS hA1
  refine wpIn_range_P (gf := 165) (lb := #[.pointer (some ⟨w.heap.size + 3, 0, none⟩)]) (fun _ h => h) rfl rfl ⟨_, Tryz.func165⟩ rfl (enters_of Tryz.func165 (by kernel_rfl) rfl)
   hseq (fun _ _ _ => keep_t) (fun W l o o' h1 h2 h3 => keep_put (by omega) W l o o' h1 h2 h3) (Below.refl _ _) (fun _ => rfl)
   (fun (pre : List Nat) W => (Rowed W (w.heap.size + 1 + 1) 51 #[.int .i64 (sT x pre.length), .int .i64 (sS x pre.length), .int .i64 (sW x pre.length)] ∧ ∀ k, k < pre.length → codeOf (atB x k).toNat ≠ -1) ∧ Keep (w.heap.size + 4) (w.heap.size + 1 + 1) w2 W)
   (fun _ _ => False)
   (fun ch W => ∃ m, sumsG x = .error m ∧ ch = errno m ∧ Keep (w.heap.size + 4) (w.heap.size + 1 + 1) w2 W)
   (OwnFrom.and (fun s X Y row hs hg hr => ⟨(hg.block _ (Rowed.lt hs.1) (fun e => by have := (hr _ e.symm).1; omega)).trans hs.1, hs.2⟩) (ownFrom_keep (by omega) (by omega)))
   ⟨⟨hr2', fun k hk => absurd hk (by simp)⟩, keep_r _ _ _⟩
   (fun _ _ _ _ _ h => h.elim)
   (fun j => { tmps := #[.slice A x.length c, .pointer (some ⟨w.heap.size, 0, none⟩), .pointer (some ⟨w.heap.size + 1, 0, none⟩), .int .i64 x.length, .pointer (some ⟨w.heap.size + 1 + 1, 0, none⟩), .int .i64 (j : Nat), .bool (riseB x j), undef, undef, .slice A x.length c, .int .i64 x.length, .int .i64 x.length, .bool true, .tuple #[], .slice A x.length c, .func (.func 165) #[] #[.pointer (some ⟨w.heap.size + 3, 0, none⟩)], .int .i64 (j : Nat), .bool (riseB x j), undef, undef, undef, undef, undef, undef, undef, undef, undef, undef, undef, undef, undef, undef, undef, undef, undef, undef, undef, undef, undef, undef, undef, undef, undef, undef, undef, undef, undef, undef, undef, undef, undef, undef, undef, undef, undef, undef, undef, undef, undef, undef, undef, undef, undef], defers := [] }) ?assign ?body ?done ?stop ?pan
  case assign =>
   intro l j W K hK
   gi_wp2
   exact hK
  case stop => rintro c D W _ h _; exact h.elim
  case body =>
   rintro l pre j W ⟨⟨hr, hok⟩, hK⟩ hpre
   obtain ⟨hjn, rfl⟩ := range_is hpre
   clear hpre hseq
   rw [List.length_range] at hr hok
   have hpl : (List.range j ++ [j]).length = j + 1 := by simp
   have hbx : Boxed W w.heap.size 22 (.slice A x.length c) := (hK.2 _ (by omega) (by omega)).trans hb0'
   have cb := hbx.cell
   have hSW : Sl eB w.heap.size W (.slice A x.length c) x := by
    obtain ⟨A', c', e, hc, hcs⟩ := hS2
    refine ⟨A', c', e, hc, fun h0 => ?_⟩
    obtain ⟨b, off, e4, hb, hcell⟩ := hcs h0
    exact ⟨b, off, e4, hb, fun i y hy => (hK.cell (p := ⟨b, off + i, none⟩) (by show b < _; omega) (by show b ≠ _; omega)).trans (hcell i y hy)⟩
   have hTW : Tab W := hT2.keep hK (by omega) (by omega)
   obtain ⟨A', c', he, _, hcs⟩ := hSW
   injection he with e1 e2 e3
   subst e1 e3
   obtain ⟨b, off, rfl, hb, hcell⟩ := hcs (by omega)
   have hcx : W.cell? ⟨b, off + j, none⟩ = some (eB (atB x j)) := hcell j _ (atB_lt hjn)
   have hC := fun n => CallsIn.inRound l (Code_in (atB x j) n W hTW)
   have hjx : (j : Int) < (x.length : Int) := by omega
   have Hs := Lib.hid (show sT x (j + 1) = sT x j + (if riseB x j then (j : Int) else 0) ∧ sS x (j + 1) = sS x j + codeOf (atB x j).toNat ∧ sW x (j + 1) = sW x j + codeOf (atB x j).toNat * ((j : Int) + 1) from ⟨rfl, rfl, rfl⟩)
   have hcr := codeOf_range (atB x j).toNat
   have rT := sT_range x j (by omega)
   have rS := sS_range x j hok
   have rW := sW_range x j (by omega) hok
   by_cases hbad : codeOf (atB x j).toNat = -1
   · have hG : sumsG x = .error 10 := by
       rw [sumsG, if_neg (by rw [hm]; simp), if_pos ⟨j, hjn, hbad⟩]
     simp only [if_pos hbad] at hC
     have HG := Lib.hid hG
     have HK := Lib.hid hK
     clear Hs hbad hcr rT rS rW hG hok hcell hcs hS2 hT2 hTW
     generalize atB x j = y at *
     generalize riseB x j = r at *
     gi_wp2_with fail
     refine ⟨⟨_, Tryz.func64⟩, ?_⟩
     gi_at_call 64
     refine (hC _).mono ?_
     rintro e w' ⟨rfl, rfl⟩
     gi_wp2_with fail
     exact ⟨rfl, keepsFrom_below (Below.refl _ _), 10, HG.out, rfl, HK.out⟩
   · simp only [if_neg hbad] at hC
     have Hok := Lib.hid (show ∀ k, k < j + 1 → codeOf (atB x k).toNat ≠ -1 from fun k hk => by
      by_cases e : k = j
      · rw [e]; exact hbad
      · exact hok k (by omega))
     generalize codeOf (atB x j).toNat = q at *
     have hq3 : q = 0 ∨ q = 1 ∨ q = 2 ∨ q = 3 := by omega
     clear hok hbad hcell hcs hS2 hT2 hTW
     generalize atB x j = y at *
     generalize hTj : sT x j = tj at *
     generalize hSj : sS x j = sj at *
     generalize hWj : sW x j = wj at *
     clear hTj hSj hWj
     have m1 : IntKind.i64.wrap ((j : Int) + 1) = (j : Int) + 1 := IntWalk.i64_in _ (by omega)
     have hqp : 0 ≤ q * ((j : Int) + 1) ∧ q * ((j : Int) + 1) ≤ 3000 := by rcases hq3 with e | e | e | e <;> rw [e] <;> omega
     obtain ⟨p, hp⟩ : ∃ p, q * ((j : Int) + 1) = p := ⟨_, rfl⟩
     rw [hp] at hqp Hs
     have m2 : wrap64 (q * ((j : Int) + 1)) = p := by rw [hp, IntWalk.wrap64_in _ (by omega)]
     have m2' : IntKind.i64.wrap (q * ((j : Int) + 1)) = p := by rw [hp, IntWalk.i64_in _ (by omega)]
     have m3 : IntKind.i64.wrap (wj + p) = wj + p := IntWalk.i64_in _ (by omega)
     have m4 : IntKind.i64.wrap (sj + q) = sj + q := IntWalk.i64_in _ (by omega)
     have m5 : IntKind.i64.wrap (tj + j) = tj + j := IntWalk.i64_in _ (by omega)
     have w5 : wrap64 (tj + j) = tj + j := IntWalk.wrap64_in _ (by omega)
     have w4 : wrap64 (sj + q) = sj + q := IntWalk.wrap64_in _ (by omega)
     have w3 : wrap64 (wj + p) = wj + p := IntWalk.wrap64_in _ (by omega)
     clear hp
     have HK := Lib.hid hK
     clear hK
     cases hrise : riseB x j with
     | true =>
       rw [hrise] at Hs
       have c0 := hr.cell 0
       have f0 := hr.frozen 0
       have hra := hr.set 0 (.int .i64 (tj + j))
       have c1 := hra.cell 1
       have f1 := hra.frozen 1
       have hrb := hra.set 1 (.int .i64 (sj + q))
       have c2 := hrb.cell 2
       have f2 := hrb.frozen 2
       have hrc := hrb.set 2 (.int .i64 (wj + p))
       simp at c0 c1 c2 hrc
       have hKS : KeepsFrom w2.heap.size W (((W.setCell ⟨w.heap.size + 1 + 1, 0, none⟩ (.int .i64 (tj + j))).setCell ⟨w.heap.size + 1 + 1, 1, none⟩ (.int .i64 (sj + q))).setCell ⟨w.heap.size + 1 + 1, 2, none⟩ (.int .i64 (wj + p))) :=
        (keepsFrom_set _ hr 0 _).trans ((keepsFrom_set _ hra 1 _).trans (keepsFrom_set _ hrb 2 _))
       have hKK : Keep (w.heap.size + 4) (w.heap.size + 1 + 1) W (((W.setCell ⟨w.heap.size + 1 + 1, 0, none⟩ (.int .i64 (tj + j))).setCell ⟨w.heap.size + 1 + 1, 1, none⟩ (.int .i64 (sj + q))).setCell ⟨w.heap.size + 1 + 1, 2, none⟩ (.int .i64 (wj + p))) :=
        keep_t (keep_set _ _ _ _ _) (keep_t (keep_set _ _ _ _ _) (keep_set _ _ _ _ _))
       have Hc := Lib.hid hrc
       clear hr hra hrb hrc
       gi_wp2_with fail
       refine ⟨⟨_, Tryz.func64⟩, ?_⟩
       gi_at_call 64
       refine (hC _).mono ?_
       rintro e w' ⟨rfl, rfl⟩
       gi_wp2_with fail
       refine ⟨hKS, hKK, ⟨?_, ?_⟩, keep_t HK.out hKK⟩
       · rw [hpl, Hs.out.1, Hs.out.2.1, Hs.out.2.2]; exact Hc.out
       · rw [hpl]; exact Hok.out
     | false =>
       rw [hrise] at Hs
       have c1 := hr.cell 1
       have f1 := hr.frozen 1
       have hrb := hr.set 1 (.int .i64 (sj + q))
       have c2 := hrb.cell 2
       have f2 := hrb.frozen 2
       have hrc := hrb.set 2 (.int .i64 (wj + p))
       simp at c1 c2 hrc
       have hKS : KeepsFrom w2.heap.size W ((W.setCell ⟨w.heap.size + 1 + 1, 1, none⟩ (.int .i64 (sj + q))).setCell ⟨w.heap.size + 1 + 1, 2, none⟩ (.int .i64 (wj + p))) :=
        (keepsFrom_set _ hr 1 _).trans (keepsFrom_set _ hrb 2 _)
       have hKK : Keep (w.heap.size + 4) (w.heap.size + 1 + 1) W ((W.setCell ⟨w.heap.size + 1 + 1, 1, none⟩ (.int .i64 (sj + q))).setCell ⟨w.heap.size + 1 + 1, 2, none⟩ (.int .i64 (wj + p))) :=
        keep_t (keep_set _ _ _ _ _) (keep_set _ _ _ _ _)
       have Hc := Lib.hid hrc
       clear hr hrb hrc
       gi_wp2_with fail
       refine ⟨⟨_, Tryz.func64⟩, ?_⟩
       gi_at_call 64
       refine (hC _).mono ?_
       rintro e w' ⟨rfl, rfl⟩
       gi_wp2_with fail
       refine ⟨hKS, hKK, ⟨?_, ?_⟩, keep_t HK.out hKK⟩
       · rw [hpl, Hs.out.1, Hs.out.2.1, Hs.out.2.2]; simpa using Hc.out
       · rw [hpl]; exact Hok.out
  case done =>
   rintro D W hD ⟨⟨hr, hok⟩, hK⟩ hk
   rw [List.length_range] at hr hok
   have hG : sumsG x = .ok (sT x x.length % x.length, sS x x.length % 4, sW x x.length % (6 * x.length + 1)) := by
    rw [sumsG, if_neg (by rw [hm]; simp), if_neg (fun ⟨k, h1, h2⟩ => hok k h1 h2)]
   have rT := sT_range x x.length (by omega)
   have rS := sS_range x x.length hok
   have rW := sW_range x x.length (by omega) hok
   have HG := Lib.hid hG
   clear hG hok hseq
   have hr1W : Rowed W (w.heap.size + 1) 51 #[.int .i64 0, .int .i64 0, .int .i64 0] := (hK.2 _ (by omega) (by omega)).trans hr1'
   generalize sT x x.length = a at *
   generalize sS x x.length = b at *
   generalize sW x x.length = d at *
   have c0 := hr.cell 0
   have c1 := hr.cell 1
   have c2 := hr.cell 2
   simp at c0 c1 c2
   have n0 : ((x.length : Int) == 0) = false := by rw [beq_eq_false_iff_ne]; omega
   have e6 : IntKind.i64.wrap (6 * (x.length : Int)) = 6 * (x.length : Int) := IntWalk.i64_in _ (by omega)
   have e7 : IntKind.i64.wrap (6 * (x.length : Int) + 1) = 6 * (x.length : Int) + 1 := IntWalk.i64_in _ (by omega)
   have w6 : wrap64 (6 * (x.length : Int)) = 6 * (x.length : Int) := IntWalk.wrap64_in _ (by omega)
   have w7 : wrap64 (6 * (x.length : Int) + 1) = 6 * (x.length : Int) + 1 := IntWalk.wrap64_in _ (by omega)
   have n7 : ((6 * (x.length : Int) + 1) == 0) = false := by rw [beq_eq_false_iff_ne]; omega
   gi_wp2_with fail
   have t1 : a.tmod (x.length : Int) = a % x.length := Int.tmod_eq_emod_of_nonneg rT.1
   have t2 : b.tmod 4 = b % 4 := Int.tmod_eq_emod_of_nonneg rS.1
   have t3 : d.tmod (6 * (x.length : Int) + 1) = d % (6 * (x.length : Int) + 1) := Int.tmod_eq_emod_of_nonneg rW.1
   generalize a % (x.length : Int) = ra at *
   generalize b % 4 = rb at *
   generalize d % (6 * (x.length : Int) + 1) = rd at *
   have hxn : ¬ x = [] := fun e => by rw [e] at hx2; simp at hx2
   have n7' : ¬ (6 * (x.length : Int) + 1 = 0) := by omega
   have g0 : W.drew.cell? ⟨w.heap.size + 1 + 1, 0, none⟩ = some (.int .i64 a) := c0
   have g1 : W.drew.cell? ⟨w.heap.size + 1 + 1, 1, none⟩ = some (.int .i64 b) := c1
   have g2 : W.drew.cell? ⟨w.heap.size + 1 + 1, 2, none⟩ = some (.int .i64 d) := c2
   have hrd : Rowed W.drew (w.heap.size + 1) 51 #[.int .i64 0, .int .i64 0, .int .i64 0] := hr1W
   have hbd : ∀ w, (Instr.build 51 #[(0, .int .i64 ra), (1, .int .i64 rb), (2, .int .i64 rd)]).run Tryz.prog w = .ok (v3 ra rb rd) w := fun _ => by kernel_rfl
   have hsr : (Tryz.prog.info? 51).map (·.size) = some (#[Value.int .i64 ra, Value.int .i64 rb, Value.int .i64 rd] : Array Value).size := by rw [hsz]; rfl
   refine wpIn_region_det 14 [(49, .pointer (some ⟨w.heap.size + 1 + 1, 0, none⟩)), (50, .int .i64 a), (51, .int .i64 x.length), (52, .int .i64 ra), (53, .pointer (some ⟨w.heap.size + 1 + 1, 1, none⟩)), (54, .int .i64 b), (55, .int .i64 rb),
    (56, .pointer (some ⟨w.heap.size + 1 + 1, 2, none⟩)), (57, .int .i64 d), (58, .int .i64 x.length), (59, .int .i64 (6 * (x.length : Int))), (60, .int .i64 (6 * (x.length : Int) + 1)), (61, .int .i64 rd), (62, v3 ra rb rd)]
    (by kernel_rfl) (by decide) (by kernel_rfl) (by kernel_rfl) (by kernel_rfl) (by kernel_rfl) (by kernel_rfl) ?ok1 ?tail1
   case ok1 =>
    intro A hA
    simp only [putAll, Act.put, List.setIfInBounds_toArray, List.set_cons_zero, List.set_cons_succ] at hA
    subst hA
    refine ⟨?_, ?_, ?_, ?_, ?_, ?_, ?_, ?_, ?_, ?_, ?_, ?_, ?_, ?_, trivial⟩
    all_goals unfold DetIn
    all_goals go_simp
   case tail1 =>
    intro A hA
    simp only [putAll, Act.put, List.setIfInBounds_toArray, List.set_cons_zero, List.set_cons_succ] at hA
    subst hA
    simp only [List.drop_succ_cons, List.drop_zero]
    refine wpListIn_store_row rfl 51 (.tmp 2) (.tmp 62) rfl (w.heap.size + 1) #[.int .i64 ra, .int .i64 rb, .int .i64 rd] rfl rfl _ _ hrd hsr rfl (by simp [Value.oneCell']) ?_
    have hsW := keep_size hK
    have hrow := setRow_heap W.drew (w.heap.size + 1) #[.int .i64 0, .int .i64 0, .int .i64 0] #[.int .i64 ra, .int .i64 rb, .int .i64 rd] _ _ hrd
    have hkk : (W.drew.setRow (w.heap.size + 1) #[.int .i64 ra, .int .i64 rb, .int .i64 rd]).heap[D]? = some (.deferred (some [])) := (setRow_other _ (w.heap.size + 1) D _ (by omega)).trans hk
    have hBw : Below w.heap.size w (W.drew.setRow (w.heap.size + 1) #[.int .i64 ra, .int .i64 rb, .int .i64 rd]) :=
     ((below_of_keep hK hA2 (by omega) (by omega)).trans ⟨rfl, rfl, rfl, Nat.le_refl _, fun _ _ => rfl⟩).trans ⟨rfl, rfl, rfl, by simp, fun k hk => setRow_other _ (w.heap.size + 1) k _ (by omega)⟩
    clear g0 g1 g2 c0 c1 c2 hr hrd hr1W hbd
    generalize W.drew.setRow (w.heap.size + 1) #[.int .i64 ra, .int .i64 rb, .int .i64 rd] = W3 at *
    gi_wp2_with fail
    refine ⟨by simp, .inl ⟨_, _, rfl, run_takeDeferred hkk, ?_⟩⟩
    have hrow4 : (W3.putObj D (.deferred none)).heap[w.heap.size + 1]? = some (.cells #[.int .i64 ra, .int .i64 rb, .int .i64 rd] 51 (0, 0)) := (World.putObj_heap_other (by omega)).trans hrow
    refine ⟨v3 ra rb rd, ?_, ?_, .inl ⟨ra, rb, rd, HG.out, rfl⟩⟩
    · exact results_cell_row (p := 2) rfl _ _ (w.heap.size + 1) _ _ _ _ rfl hrow4 Tryz.underlying51 rfl hsr
    · exact hBw.trans (belowK_b (w := w) (Nat.le_refl _) W3 D _ _ (by omega) hkk rfl rfl)
  case pan =>
   rintro ch D W hD ⟨m, hm3, rfl, hK⟩ hk
   refine ⟨by simp, .inl ⟨_, _, rfl, run_takeDeferred hk, ?_⟩⟩
   have hBw := (below_of_keep hK hA2 (by omega) (by omega)).trans (belowK_b (w := w) (Nat.le_refl _) W D _ (.deferred none) (by have := keep_size hK; omega) hk rfl rfl)
   exact ⟨hBw, .inr ⟨m, hm3, rfl⟩⟩
end Go.Proofs.YtkibigbcdlilkaaGreatDoor
namespace Go.Proofs.YtkibigbcdlilkaaGreatDoor
open Go.RowKit Go.Shelf
attribute [local go_sem] Oper.semAt_some run_store_func
set_option maxRecDepth 100000 in
set_option maxHeartbeats 2000000 in
theorem catch_idle (p : Addr) (w : World) :
    CallsD Tryz.prog 157 #[.pointer (some p)] .returning w fun e u' w' => e = .returned (.tuple #[]) ∧ u' = .returning ∧ w' = w := by
  refine callsD_of_wpS Tryz.func157 rfl fun c₀ cs hu => ?_
  apply wpS_seq
  apply wpS_region
  simp [wpOpsS, go_sem, recoverD, hu, Tryz.ntmps157, Exit.thenS]
  refine wpS_of_wp ?_
  go_wp2
  cases c₀
  simp_all [bodyPostS, results, Tryz.results157]
set_option maxRecDepth 100000 in
set_option maxHeartbeats 2000000 in
theorem catch_take (b : Nat) (n : Int) (v0 : Value) (w : World) (hc : w.cell? ⟨b, 0, none⟩ = some v0) (hf : w.frozen? ⟨b, 0, none⟩ = false) :
    CallsD Tryz.prog 157 #[.pointer (some ⟨b, 0, none⟩)] (.panicking (errno n)) w fun e u' w' => e = .returned (.tuple #[]) ∧ u' = .panicking [{ v := .iface 24 (.int .i64 n), recovered := true }] ∧ w' = w.setCell ⟨b, 0, none⟩ (.int .i64 n) := by
  have hta : ∀ w, (Instr.typeAssert (.iface 24 (.int .i64 n)) 20 24 true).run Tryz.prog w = .ok (.tuple #[.int .i64 n, .bool true]) w := fun _ => by kernel_rfl
  refine callsD_of_wpS Tryz.func157 rfl fun c₀ cs hu => ?_
  apply wpS_seq
  apply wpS_region
  simp [wpOpsS, go_sem, recoverD, hu, Tryz.ntmps157, Exit.thenS]
  refine wpS_of_wp ?_
  go_wp2
  cases c₀
  simp_all [bodyPostS, results, Tryz.results157]
def WorkIs (f : Nat) (lb : Array Value) (g : Nat) (W0 : World) (R0 : World → Prop) (Rn : Int → World → Prop) : Prop :=
 Calls Tryz.prog f lb W0 fun e w' => Keep W0.heap.size g W0 w' ∧ (((∃ v, e = .returned v) ∧ R0 w') ∨ ∃ n, e = .panicked (errno n) ∧ Rn n w')
set_option maxRecDepth 100000 in
set_option maxHeartbeats 2000000 in
theorem caught_any (f : Nat) (lb : Array Value) (g : Nat) (w : World) (hg : g < w.heap.size) (hen : ∀ args w, (callFunc f args).run Tryz.prog w = .ok (.enter f args) w) (R0 : World → Prop) (Rn : Int → World → Prop)
    (hwork : WorkIs f lb g (w.alloc (.cells #[.int .i64 0] 24)) R0 Rn) :
    Calls Tryz.prog 134 #[.func (.func f) #[] lb] w fun e w' => ∃ w1 n, Keep w.heap.size g w w1 ∧ e = .returned (.int .i64 n) ∧ w' = w1.setCell ⟨w.heap.size, 0, none⟩ (.int .i64 n) ∧ w.heap.size < w1.heap.size ∧ ((n = 0 ∧ R0 w1) ∨ Rn n w1) := by
 have hmf : ∀ (fn : Fn) (first cap : Array Value) (w : World), (Instr.makeFunc fn first cap).run Tryz.prog w = .ok (.func fn first cap) w := fun _ _ _ _ => rfl
 have hA := below_alloc w (.cells #[.int .i64 0] 24)
 have hb0 := Boxed.new w 24 (.int .i64 0)
 have hs0 : (w.alloc (.cells #[.int .i64 0] 24)).heap.size = w.heap.size + 1 := by simp
 unfold WorkIs at hwork
 go_enter_defers Tryz.func134, Tryz.ntmps134
 go_wp2_with fail
 generalize w.alloc (.cells #[.int .i64 0] 24) = w0 at *
 refine hwork.mono ?_
 clear hwork
 rintro e w1 ⟨hK, ⟨⟨v, rfl⟩, hR⟩ | ⟨n, rfl, hR⟩⟩
 · have hb1 := hK.boxed hb0 (by omega) (by omega)
   have hc := hb1.cell
   have hf := hb1.frozen
   have hsz := keep_size hK
   go_wp2
   refine leaves_cons (f := 157) (args := #[.pointer (some ⟨w.heap.size, 0, none⟩)]) (by simp) (by simp [go_sem]) ?_
   refine (catch_idle ⟨w.heap.size, 0, none⟩ _).mono ?_
   rintro e u' w'' ⟨rfl, rfl, rfl⟩
   have hc5 := (hb1.set (.int .i64 0)).cell
   refine ⟨.int .i64 0, ?_, w1, 0, ⟨⟨hK.1.1.trans hA.os, hK.1.2.1.trans hA.tape, hK.1.2.2.1.trans hA.output, by omega⟩, fun k hk hkg => (hK.2 k (by omega) hkg).trans (hA.block k hk)⟩, rfl, rfl, by omega, .inl ⟨rfl, hR⟩⟩
   simp [results, Tryz.f134, go_sem, hc5]
 · have hb1 := hK.boxed hb0 (by omega) (by omega)
   have hc := hb1.cell
   have hf := hb1.frozen
   have hsz := keep_size hK
   go_wp2
   refine leaves_cons (f := 157) (args := #[.pointer (some ⟨w.heap.size, 0, none⟩)]) (by simp) (by simp [go_sem]) ?_
   refine (catch_take w.heap.size n _ w1 hc hf).mono ?_
   rintro e u' w'' ⟨rfl, rfl, rfl⟩
   have hc5 := (hb1.set (.int .i64 n)).cell
   refine ⟨.int .i64 n, ?_, w1, n, ⟨⟨hK.1.1.trans hA.os, hK.1.2.1.trans hA.tape, hK.1.2.2.1.trans hA.output, by omega⟩, fun k hk hkg => (hK.2 k (by omega) hkg).trans (hA.block k hk)⟩, rfl, rfl, by omega, .inr hR⟩
   simp [results, Tryz.f134, go_sem, hc5]
end Go.Proofs.YtkibigbcdlilkaaGreatDoor
namespace Go.Proofs.YtkibigbcdlilkaaGreatDoor
open Go.RowKit Go.Shelf
attribute [local go_sem] Oper.semAt_some run_store_func
theorem Boxed.set_other {W : World} {b b' : Nat} {t : TypeId} {x y : Value} (h : Boxed W b t x) (hne : b ≠ b') : Boxed (W.setCell ⟨b', 0, none⟩ y) b t x :=
 (Below.heap_setCell _ _ _ _ hne).trans h
abbrev c3 (a b c : Int) : Array Value := #[.int .i64 a, .int .i64 b, .int .i64 c]
theorem size_c3 (a b c : Int) : (Tryz.prog.info? 51).map (·.size) = some (c3 a b c).size := by rw [(zero_of_info infoS).2]; rfl
theorem one_c3 (a b c : Int) : (c3 a b c).all (·.oneCell') = true := by simp [Value.oneCell']
theorem keep_setRow {B g : Nat} {w W : World} (h : Keep B g w W) (cs : Array Value) : Keep B g w (W.setRow g cs) :=
 keep_t h ⟨⟨rfl, rfl, rfl, by simp⟩, fun k _ hk => setRow_other _ g k _ hk⟩
theorem below_setRow {B : Nat} {w W : World} (h : Below B w W) (g : Nat) (cs : Array Value) (hg : B ≤ g) : Below B w (W.setRow g cs) :=
 h.trans ⟨rfl, rfl, rfl, by simp, fun k hk => setRow_other _ g k _ (by omega)⟩
theorem of_any (sv : Value) (x : List UInt8) (hreach : x.length ≤ 1000000) (w : World) (hT : Tab w) (hS : Sl eB w.heap.size w sv x) :
    Calls Tryz.prog 150 #[sv] w fun e w' => Below w.heap.size w w' ∧
      ((∃ a b c, sumsG x = .ok (a, b, c) ∧ e = .returned (v3 a b c)) ∨ ∃ m, sumsG x = .error m ∧ e = .panicked (errno m)) := callsIn_inProg (of_in sv x hreach w hT hS 0)
set_option maxRecDepth 100000 in
set_option maxHeartbeats 2000000 in
theorem Of1_is (b1 b3 : Nat) (A : Option Addr) (c : Nat) (x : List UInt8) (hreach : x.length ≤ 1000000) (W : World) (hT : Tab W) (hS : Sl eB W.heap.size W (.slice A x.length c) x) (h1 : W.cell? ⟨b1, 0, none⟩ = some (.slice A x.length c)) (h3 : Rowed W b3 51 (c3 0 0 0)) :
    WorkIs 149 #[.pointer (some ⟨b1, 0, none⟩), .pointer (some ⟨b3, 0, none⟩)] b3 W
      (fun w' => ∃ a b c, sumsG x = .ok (a, b, c) ∧ Rowed w' b3 51 (c3 a b c)) (fun n w' => sumsG x = .error n ∧ Rowed w' b3 51 (c3 0 0 0)) := by
  have hb := of_any _ x hreach W hT hS
  have hl := h3.lt
  unfold WorkIs
  go_enter Tryz.func149, Tryz.ntmps149
  go_wp2_with fail
  go_at_call 150
  refine hb.mono ?_
  rintro e w1 ⟨hB, ⟨a, b, d, hc, rfl⟩ | ⟨n, hn, rfl⟩⟩
  · have h3' : Rowed w1 b3 51 (c3 0 0 0) := h3.below hB hl
    have hK : Keep W.heap.size b3 W (w1.setRow b3 (c3 a b d)) := keep_setRow (keep_of hB) _
    have hrow := setRow_heap w1 b3 (c3 0 0 0) (c3 a b d) _ _ h3'
    have Hc := Lib.hid hc
    clear hc hb
    go_wp2_with (refine wpList_store_row rfl 51 (.tmp 1) (.tmp 3) rfl b3 (c3 a b d) rfl rfl _ _ h3' (size_c3 a b d) rfl (one_c3 a b d) ?_)
    go_end0
    exact ⟨hK, .inl ⟨⟨_, rfl⟩, a, b, d, Hc.out, hrow⟩⟩
  · exact ⟨rfl, keep_of hB, .inr ⟨n, rfl, hn, h3.below hB hl⟩⟩
theorem results_cell_slot {P : Program} {fn : Func} {p q : Tmp} {ty : TypeId} (h : fn.results = #[.cell p ty, .tmp q]) (tmps : Array Value) (w : World) (g : Nat) (t : TypeId) (cs : Array Value) (fr : Nat × Nat) (d : TypeDesc)
    (hp : tmps.getD p undef = .pointer (some ⟨g, 0, none⟩)) (hg : w.heap[g]? = some (.cells cs t fr)) (hu : P.underlying ty = some d) (hd : (match d with | .struct _ | .array _ _ => true | _ => false) = true) (hi : (P.info? ty).map (·.size) = some cs.size) :
    (results fn tmps).run P w = .ok (.tuple #[.agg cs, tmps.getD q undef]) w := by
 have hp' : tmps[p]?.getD undef = .pointer (some ⟨g, 0, none⟩) := by simpa using hp
 simp [results, h, hp', asAddr, run_loadVar_row w g t ty cs fr d hg hu hd hi, Result.andThen]
set_option maxRecDepth 100000 in
set_option maxHeartbeats 2000000 in
theorem Of_any (sv : Value) (x : List UInt8) (hreach : x.length ≤ 1000000) (w : World) (hT : Tab w) (hS : Sl eB w.heap.size w sv x) :
    Calls Tryz.prog 129 #[sv] w fun e w' => Below w.heap.size w w' ∧
      ((∃ a b c, sumsG x = .ok (a, b, c) ∧ e = .returned (.tuple #[v3 a b c, .int .i64 0])) ∨ ∃ m, sumsG x = .error m ∧ e = .returned (.tuple #[v3 0 0 0, .int .i64 m])) := by
  have hmf : ∀ (fn : Fn) (first cap : Array Value) (w : World), (Instr.makeFunc fn first cap).run Tryz.prog w = .ok (.func fn first cap) w := fun _ _ _ _ => rfl
  obtain ⟨A, c, rfl⟩ := hS.len
  obtain ⟨hz, hsz⟩ := zero_of_info infoS
  have hc0 : (v3 0 0 0).cells = #[.int .i64 0, .int .i64 0, .int .i64 0] := rfl
  have hb1 := ((Boxed.new w 22 (.slice A x.length c)).alloc (.cells (c3 0 0 0) 51)).alloc (.cells (c3 0 0 0) 51)
  have hb2 := (Rowed.new (w.alloc (.cells #[.slice A x.length c] 22)) 51 (c3 0 0 0)).alloc (.cells (c3 0 0 0) 51)
  have hb3 := Rowed.new ((w.alloc (.cells #[.slice A x.length c] 22)).alloc (.cells (c3 0 0 0) 51)) 51 (c3 0 0 0)
  rw [World.size_alloc] at hb2
  rw [World.size_alloc, World.size_alloc] at hb3
  have hA : Below w.heap.size w (((w.alloc (.cells #[.slice A x.length c] 22)).alloc (.cells (c3 0 0 0) 51)).alloc (.cells (c3 0 0 0) 51)) := (((Below.refl _ w).alloc (Nat.le_refl _) _).alloc (by simp) _).alloc (by simp; omega) _
  have hs0 : (((w.alloc (.cells #[.slice A x.length c] 22)).alloc (.cells (c3 0 0 0) 51)).alloc (.cells (c3 0 0 0) 51)).heap.size = w.heap.size + 3 := by simp
  obtain ⟨W0, hW0⟩ : ∃ W0, ((w.alloc (.cells #[.slice A x.length c] 22)).alloc (.cells (c3 0 0 0) 51)).alloc (.cells (c3 0 0 0) 51) = W0 := ⟨_, rfl⟩
  rw [hW0] at hb1 hb2 hb3 hA hs0
  have hA4 := below_alloc W0 (.cells #[.int .i64 0] 24)
  have hB4 := below_trans hA hA4
  have hwork := Of1_is w.heap.size (w.heap.size + 1 + 1) A c x hreach (W0.alloc (.cells #[.int .i64 0] 24)) (hT.below hB4) (hS.next hB4) (hb1.alloc _).cell (hb3.alloc _)
  have hct := caught_any 149 _ (w.heap.size + 1 + 1) W0 (by omega) (enters_of Tryz.func149 (by kernel_rfl) rfl) _ _ hwork
  have HW0 := Lib.hid hW0
  clear hwork hA4 hB4 hb1 hb3 hW0
  go_enter Tryz.func129, Tryz.ntmps129
  go_wp2_with fail
  rw [HW0.out]
  go_at_call 134
  refine hct.mono ?_
  rintro e w' ⟨w1, n, hK, rfl, rfl, hlt, hR⟩
  have hBf : Below w.heap.size w (w1.setCell ⟨W0.heap.size, 0, none⟩ (.int .i64 n)) := (below_of_keep hK hA (by omega) (by omega)).setCell (p := ⟨W0.heap.size, 0, none⟩) (by show w.heap.size ≤ W0.heap.size; omega) _
  have hb2' : Rowed w1 (w.heap.size + 1) 51 (c3 0 0 0) := (hK.2 _ (by omega) (by omega)).trans hb2
  have hb2w := hb2'.other W0.heap.size 0 (.int .i64 n) (by omega)
  clear hct
  rcases hR with ⟨rfl, a, b, d, hg, hv⟩ | ⟨hg, hv⟩
  · have hvw := hv.other W0.heap.size 0 (.int .i64 0) (by omega)
    have Hg := Lib.hid hg
    clear hg
    generalize w1.setCell ⟨W0.heap.size, 0, none⟩ (.int .i64 0) = w2 at *
    have hrow := setRow_heap w2 (w.heap.size + 1) (c3 0 0 0) (c3 a b d) _ _ hb2w
    have hB3 := below_setRow hBf (w.heap.size + 1) (c3 a b d) (by omega)
    go_wp2_with (first
     | (refine wpList_load_row rfl 51 (.tmp 4) rfl (w.heap.size + 1 + 1) rfl _ (c3 a b d) _ _ hvw Tryz.underlying51 rfl (size_c3 a b d) ?_)
     | (refine wpList_store_row rfl 51 (.tmp 2) (.tmp 8) rfl (w.heap.size + 1) (c3 a b d) rfl rfl _ _ hb2w (size_c3 a b d) rfl (one_c3 a b d) ?_))
    refine bodyPost_ret (v := .tuple #[v3 a b d, .int .i64 0]) ?_ rfl ⟨hB3, .inl ⟨a, b, d, Hg.out, rfl⟩⟩
    exact results_cell_slot (p := 2) (q := 3) rfl _ _ (w.heap.size + 1) _ _ _ _ rfl hrow Tryz.underlying51 rfl (size_c3 a b d)
  · have hvw := hv.other W0.heap.size 0 (.int .i64 n) (by omega)
    have Hg := Lib.hid hg
    clear hg
    generalize w1.setCell ⟨W0.heap.size, 0, none⟩ (.int .i64 n) = w2 at *
    have hrow := setRow_heap w2 (w.heap.size + 1) (c3 0 0 0) (c3 0 0 0) _ _ hb2w
    have hB3 := below_setRow hBf (w.heap.size + 1) (c3 0 0 0) (by omega)
    go_wp2_with (first
     | (refine wpList_load_row rfl 51 (.tmp 4) rfl (w.heap.size + 1 + 1) rfl _ (c3 0 0 0) _ _ hvw Tryz.underlying51 rfl (size_c3 0 0 0) ?_)
     | (refine wpList_store_row rfl 51 (.tmp 2) (.tmp 8) rfl (w.heap.size + 1) (c3 0 0 0) rfl rfl _ _ hb2w (size_c3 0 0 0) rfl (one_c3 0 0 0) ?_))
    refine bodyPost_ret (v := .tuple #[v3 0 0 0, .int .i64 n]) ?_ rfl ⟨hB3, .inr ⟨n, Hg.out, rfl⟩⟩
    exact results_cell_slot (p := 2) (q := 3) rfl _ _ (w.heap.size + 1) _ _ _ _ rfl hrow Tryz.underlying51 rfl (size_c3 0 0 0)
end Go.Proofs.YtkibigbcdlilkaaGreatDoor
namespace Go.Proofs.YtkibigbcdlilkaaGreatDoor.Gp
open Go.RowKit Go.Shelf
attribute [local go_sem] Oper.semAt_some run_store_func
set_option maxRecDepth 100000 in
set_option maxHeartbeats 2000000 in
theorem gcatch_idle (p : Addr) (w : World) :
    CallsD Tryz.prog 114 #[.pointer (some p)] .returning w fun e u' w' => e = .returned (.tuple #[]) ∧ u' = .returning ∧ w' = w := by
  refine callsD_of_wpS Tryz.func114 rfl fun c₀ cs hu => ?_
  apply wpS_seq
  apply wpS_region
  simp [wpOpsS, go_sem, recoverD, hu, Tryz.ntmps114, Exit.thenS]
  refine wpS_of_wp ?_
  go_wp2
  cases c₀
  simp_all [bodyPostS, results, Tryz.results114]
set_option maxRecDepth 100000 in
set_option maxHeartbeats 2000000 in
theorem gcatch_take (b : Nat) (n : Int) (v0 : Value) (w : World) (hc : w.cell? ⟨b, 0, none⟩ = some v0) (hf : w.frozen? ⟨b, 0, none⟩ = false) :
    CallsD Tryz.prog 114 #[.pointer (some ⟨b, 0, none⟩)] (.panicking (errno n)) w fun e u' w' => e = .returned (.tuple #[]) ∧ u' = .panicking [{ v := .iface 24 (.int .i64 n), recovered := true }] ∧ w' = w.setCell ⟨b, 0, none⟩ (.int .i64 n) := by
  have hta : ∀ w, (Instr.typeAssert (.iface 24 (.int .i64 n)) 20 24 true).run Tryz.prog w = .ok (.tuple #[.int .i64 n, .bool true]) w := fun _ => by kernel_rfl
  refine callsD_of_wpS Tryz.func114 rfl fun c₀ cs hu => ?_
  apply wpS_seq
  apply wpS_region
  simp [wpOpsS, go_sem, recoverD, hu, Tryz.ntmps114, Exit.thenS]
  refine wpS_of_wp ?_
  go_wp2
  cases c₀
  simp_all [bodyPostS, results, Tryz.results114]
def gWork (f : Nat) (lb : Array Value) (g1 g2 : Nat) (W0 : World) (R0 : World → Prop) (Rn : Int → World → Prop) : Prop :=
 Calls Tryz.prog f lb W0 fun e w' => Kp2 W0.heap.size g1 g2 W0 w' ∧ (((∃ v, e = .returned v) ∧ R0 w') ∨ ∃ n, e = .panicked (errno n) ∧ Rn n w')
set_option maxRecDepth 100000 in
set_option maxHeartbeats 2000000 in
theorem gcaught_any (f : Nat) (lb : Array Value) (g1 g2 : Nat) (w : World) (hg1 : g1 < w.heap.size) (hg2 : g2 < w.heap.size) (hen : ∀ args w, (callFunc f args).run Tryz.prog w = .ok (.enter f args) w) (R0 : World → Prop) (Rn : Int → World → Prop)
    (hwork : gWork f lb g1 g2 (w.alloc (.cells #[.int .i64 0] 24)) R0 Rn) :
    Calls Tryz.prog 93 #[.func (.func f) #[] lb] w fun e w' => ∃ w1 n, Kp2 w.heap.size g1 g2 w w1 ∧ e = .returned (.int .i64 n) ∧ w' = w1.setCell ⟨w.heap.size, 0, none⟩ (.int .i64 n) ∧ w.heap.size < w1.heap.size ∧ ((n = 0 ∧ R0 w1) ∨ Rn n w1) := by
 have hmf : ∀ (fn : Fn) (first cap : Array Value) (w : World), (Instr.makeFunc fn first cap).run Tryz.prog w = .ok (.func fn first cap) w := fun _ _ _ _ => rfl
 have hA := below_alloc w (.cells #[.int .i64 0] 24)
 have hb0 := Boxed.new w 24 (.int .i64 0)
 have hs0 : (w.alloc (.cells #[.int .i64 0] 24)).heap.size = w.heap.size + 1 := by simp
 unfold gWork at hwork
 go_enter_defers Tryz.func93, Tryz.ntmps93
 go_wp2_with fail
 generalize w.alloc (.cells #[.int .i64 0] 24) = w0 at *
 refine hwork.mono ?_
 clear hwork
 rintro e w1 ⟨hK, ⟨⟨v, rfl⟩, hR⟩ | ⟨n, rfl, hR⟩⟩
 · have hb1 := hK.boxed hb0 (by omega) (by omega) (by omega)
   have hc := hb1.cell
   have hf := hb1.frozen
   have hsz := kp2_size hK
   go_wp2
   refine leaves_cons (f := 114) (args := #[.pointer (some ⟨w.heap.size, 0, none⟩)]) (by simp) (by simp [go_sem]) ?_
   refine (gcatch_idle ⟨w.heap.size, 0, none⟩ _).mono ?_
   rintro e u' w'' ⟨rfl, rfl, rfl⟩
   have hc5 := (hb1.set (.int .i64 0)).cell
   refine ⟨.int .i64 0, ?_, w1, 0, ⟨⟨hK.1.1.trans hA.os, hK.1.2.1.trans hA.tape, hK.1.2.2.1.trans hA.output, by omega⟩, fun k hk ha hb => (hK.2 k (by omega) ha hb).trans (hA.block k hk)⟩, rfl, rfl, by omega, .inl ⟨rfl, hR⟩⟩
   simp [results, Tryz.f93, go_sem, hc5]
 · have hb1 := hK.boxed hb0 (by omega) (by omega) (by omega)
   have hc := hb1.cell
   have hf := hb1.frozen
   have hsz := kp2_size hK
   go_wp2
   refine leaves_cons (f := 114) (args := #[.pointer (some ⟨w.heap.size, 0, none⟩)]) (by simp) (by simp [go_sem]) ?_
   refine (gcatch_take w.heap.size n _ w1 hc hf).mono ?_
   rintro e u' w'' ⟨rfl, rfl, rfl⟩
   have hc5 := (hb1.set (.int .i64 n)).cell
   refine ⟨.int .i64 n, ?_, w1, n, ⟨⟨hK.1.1.trans hA.os, hK.1.2.1.trans hA.tape, hK.1.2.2.1.trans hA.output, by omega⟩, fun k hk ha hb => (hK.2 k (by omega) ha hb).trans (hA.block k hk)⟩, rfl, rfl, by omega, .inr hR⟩
   simp [results, Tryz.f93, go_sem, hc5]
end Go.Proofs.YtkibigbcdlilkaaGreatDoor.Gp
namespace Go.Proofs.YtkibigbcdlilkaaGreatDoor.Sw
open Go.RowKit Go.Shelf
attribute [local go_sem] Oper.semAt_some run_store_func
set_option maxRecDepth 100000 in
set_option maxHeartbeats 2000000 in
theorem scatch_idle (p : Addr) (w : World) :
    CallsD Tryz.prog 141 #[.pointer (some p)] .returning w fun e u' w' => e = .returned (.tuple #[]) ∧ u' = .returning ∧ w' = w := by
  refine callsD_of_wpS Tryz.func141 rfl fun c₀ cs hu => ?_
  apply wpS_seq
  apply wpS_region
  simp [wpOpsS, go_sem, recoverD, hu, Tryz.ntmps141, Exit.thenS]
  refine wpS_of_wp ?_
  go_wp2
  cases c₀
  simp_all [bodyPostS, results, Tryz.results141]
set_option maxRecDepth 100000 in
set_option maxHeartbeats 2000000 in
theorem scatch_take (b : Nat) (n : Int) (v0 : Value) (w : World) (hc : w.cell? ⟨b, 0, none⟩ = some v0) (hf : w.frozen? ⟨b, 0, none⟩ = false) :
    CallsD Tryz.prog 141 #[.pointer (some ⟨b, 0, none⟩)] (.panicking (errno n)) w fun e u' w' => e = .returned (.tuple #[]) ∧ u' = .panicking [{ v := .iface 24 (.int .i64 n), recovered := true }] ∧ w' = w.setCell ⟨b, 0, none⟩ (.int .i64 n) := by
  have hta : ∀ w, (Instr.typeAssert (.iface 24 (.int .i64 n)) 20 24 true).run Tryz.prog w = .ok (.tuple #[.int .i64 n, .bool true]) w := fun _ => by kernel_rfl
  refine callsD_of_wpS Tryz.func141 rfl fun c₀ cs hu => ?_
  apply wpS_seq
  apply wpS_region
  simp [wpOpsS, go_sem, recoverD, hu, Tryz.ntmps141, Exit.thenS]
  refine wpS_of_wp ?_
  go_wp2
  cases c₀
  simp_all [bodyPostS, results, Tryz.results141]
def sWork (f : Nat) (lb : Array Value) (g1 g2 : Nat) (W0 : World) (R0 : World → Prop) (Rn : Int → World → Prop) : Prop :=
 Calls Tryz.prog f lb W0 fun e w' => Kp2 W0.heap.size g1 g2 W0 w' ∧ (((∃ v, e = .returned v) ∧ R0 w') ∨ ∃ n, e = .panicked (errno n) ∧ Rn n w')
set_option maxRecDepth 100000 in
set_option maxHeartbeats 2000000 in
theorem scaught_any (f : Nat) (lb : Array Value) (g1 g2 : Nat) (w : World) (hg1 : g1 < w.heap.size) (hg2 : g2 < w.heap.size) (hen : ∀ args w, (callFunc f args).run Tryz.prog w = .ok (.enter f args) w) (R0 : World → Prop) (Rn : Int → World → Prop)
    (hwork : sWork f lb g1 g2 (w.alloc (.cells #[.int .i64 0] 24)) R0 Rn) :
    Calls Tryz.prog 118 #[.func (.func f) #[] lb] w fun e w' => ∃ w1 n, Kp2 w.heap.size g1 g2 w w1 ∧ e = .returned (.int .i64 n) ∧ w' = w1.setCell ⟨w.heap.size, 0, none⟩ (.int .i64 n) ∧ w.heap.size < w1.heap.size ∧ ((n = 0 ∧ R0 w1) ∨ Rn n w1) := by
 have hmf : ∀ (fn : Fn) (first cap : Array Value) (w : World), (Instr.makeFunc fn first cap).run Tryz.prog w = .ok (.func fn first cap) w := fun _ _ _ _ => rfl
 have hA := below_alloc w (.cells #[.int .i64 0] 24)
 have hb0 := Boxed.new w 24 (.int .i64 0)
 have hs0 : (w.alloc (.cells #[.int .i64 0] 24)).heap.size = w.heap.size + 1 := by simp
 unfold sWork at hwork
 go_enter_defers Tryz.func118, Tryz.ntmps118
 go_wp2_with fail
 generalize w.alloc (.cells #[.int .i64 0] 24) = w0 at *
 refine hwork.mono ?_
 clear hwork
 rintro e w1 ⟨hK, ⟨⟨v, rfl⟩, hR⟩ | ⟨n, rfl, hR⟩⟩
 · have hb1 := hK.boxed hb0 (by omega) (by omega) (by omega)
   have hc := hb1.cell
   have hf := hb1.frozen
   have hsz := kp2_size hK
   go_wp2
   refine leaves_cons (f := 141) (args := #[.pointer (some ⟨w.heap.size, 0, none⟩)]) (by simp) (by simp [go_sem]) ?_
   refine (scatch_idle ⟨w.heap.size, 0, none⟩ _).mono ?_
   rintro e u' w'' ⟨rfl, rfl, rfl⟩
   have hc5 := (hb1.set (.int .i64 0)).cell
   refine ⟨.int .i64 0, ?_, w1, 0, ⟨⟨hK.1.1.trans hA.os, hK.1.2.1.trans hA.tape, hK.1.2.2.1.trans hA.output, by omega⟩, fun k hk ha hb => (hK.2 k (by omega) ha hb).trans (hA.block k hk)⟩, rfl, rfl, by omega, .inl ⟨rfl, hR⟩⟩
   simp [results, Tryz.f118, go_sem, hc5]
 · have hb1 := hK.boxed hb0 (by omega) (by omega) (by omega)
   have hc := hb1.cell
   have hf := hb1.frozen
   have hsz := kp2_size hK
   go_wp2
   refine leaves_cons (f := 141) (args := #[.pointer (some ⟨w.heap.size, 0, none⟩)]) (by simp) (by simp [go_sem]) ?_
   refine (scatch_take w.heap.size n _ w1 hc hf).mono ?_
   rintro e u' w'' ⟨rfl, rfl, rfl⟩
   have hc5 := (hb1.set (.int .i64 n)).cell
   refine ⟨.int .i64 n, ?_, w1, n, ⟨⟨hK.1.1.trans hA.os, hK.1.2.1.trans hA.tape, hK.1.2.2.1.trans hA.output, by omega⟩, fun k hk ha hb => (hK.2 k (by omega) ha hb).trans (hA.block k hk)⟩, rfl, rfl, by omega, .inr hR⟩
   simp [results, Tryz.f118, go_sem, hc5]
end Go.Proofs.YtkibigbcdlilkaaGreatDoor.Sw
