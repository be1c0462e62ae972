/- RsTells. -/
import Derived.Test.YtkldapdebjlfmaaRtF
import Derived.Test.YtkldapdebjlfmaaRsW
namespace Go.Proofs.Ytkldapdebjlfmaa
open Go.RowKit Go.Shelf
attribute [local go_sem] Oper.semAt_some

/-- A call that returns these bytes and this number. -/
abbrev Gives (c : FuncId) (args : Array Value) (L : List UInt8) (n : Int) (w : World) : Prop :=
  Calls Try.prog c args w fun e w' => ∃ v, e = .returned (.tuple #[v, .int .i64 n]) ∧ Sl eB w'.heap.size w' v L ∧ Below w.heap.size w w'
theorem gives_nil {c : FuncId} {args : Array Value} {w : World} (h : Calls Try.prog c args w fun e w' => e = .returned (.tuple #[.slice none 0 0, .int .i64 2]) ∧ Below w.heap.size w w') : Gives c args [] 2 w :=
  h.mono fun _ _ h => ⟨_, h.1, Sl.nilB _ _, h.2⟩
theorem gen_both (p : Int) : ∃ L n, (∀ w, Gives 9 #[.int .i64 p] L n w) ∧ ∀ w, Gives 10 #[.int .i64 p] L n w := by
  by_cases h : p < 0 ∨ 255 < p
  · exact ⟨[], 2, fun w => gives_nil (Generator_no p h w), fun w => gives_nil (RGen_no p h w)⟩
  · obtain ⟨m, rfl⟩ : ∃ m : Nat, p = m := ⟨p.toNat, by omega⟩
    exact ⟨RT (pows2 m), 0, fun w => Generator_yes m (by omega) w, fun w => RGen_yes m (by omega) w⟩
theorem enc_both (data : List UInt8) (hd : data.length ≤ 300) (p : Int) : ∃ L n, (∀ v w, Sl eB w.heap.size w v data → Gives 12 #[v, .int .i64 p] L n w) ∧ ∀ v w, Sl eB w.heap.size w v data → Gives 13 #[v, .int .i64 p] L n w := by
  by_cases h : p < 0 ∨ 255 - (data.length : Int) < p
  · refine ⟨[], 2, fun v w hv => ?_, fun v w hv => ?_⟩
    · obtain ⟨A, c, rfl⟩ := hv.len
      exact gives_nil (Encode_no A _ c (by omega) p h w)
    · obtain ⟨A, c, rfl⟩ := hv.len
      exact gives_nil (REnc_no A _ c p h w)
  · obtain ⟨m, rfl⟩ : ∃ m : Nat, p = m := ⟨p.toNat, by omega⟩
    refine ⟨restL m data, 0, fun v w hv => Encode_yes v data m (by omega) w hv, fun v w hv => (REnc_yes v data m (by omega) w hv).mono ?_⟩
    rintro e w' ⟨v', h1, h2, h3⟩
    exact ⟨v', h1, h2.sl, h3⟩
theorem word_both (data : List UInt8) (hd : data.length ≤ 300) (p : Int) : ∃ L n, (∀ v w, Sl eB w.heap.size w v data → Gives 14 #[v, .int .i64 p] L n w) ∧ ∀ v w, Sl eB w.heap.size w v data → Gives 15 #[v, .int .i64 p] L n w := by
  by_cases h : p < 0 ∨ 255 - (data.length : Int) < p
  · refine ⟨[], 2, fun v w hv => ?_, fun v w hv => ?_⟩
    · obtain ⟨A, c, rfl⟩ := hv.len
      exact gives_nil (Word_no A _ c (by omega) p h w)
    · obtain ⟨A, c, rfl⟩ := hv.len
      exact gives_nil (RWord_no A _ c p h w)
  · obtain ⟨m, rfl⟩ : ∃ m : Nat, p = m := ⟨p.toNat, by omega⟩
    refine ⟨data ++ restL m data, 0, fun v w hv => (Word_yes v data m (by omega) w hv).mono ?_, fun v w hv => RWord_yes v data m (by omega) w hv⟩
    rintro e w' ⟨v', h1, h2, h3⟩
    exact ⟨v', h1, h2.sl, h3⟩
theorem syn_both (word : List UInt8) (p : Int) : ∃ L n, (∀ v w, Sl eB w.heap.size w v word → Gives 16 #[v, .int .i64 p] L n w) ∧ ∀ v w, Sl eB w.heap.size w v word → Gives 17 #[v, .int .i64 p] L n w := by
  by_cases h : p < 0 ∨ 255 < p ∨ 255 < word.length ∨ (word.length : Int) < p
  · refine ⟨[], 2, fun v w hv => ?_, fun v w hv => ?_⟩
    · obtain ⟨A, c, rfl⟩ := hv.len
      exact gives_nil (Syndromes_no A _ c p h w)
    · obtain ⟨A, c, rfl⟩ := hv.len
      exact gives_nil (RSyn_no A _ c p h w)
  · obtain ⟨m, rfl⟩ : ∃ m : Nat, p = m := ⟨p.toNat, by omega⟩
    exact ⟨synL word.reverse m, 0, fun v w hv => Syndromes_yes v word m (by omega) (by omega) w hv, fun v w hv => RSyn_yes v word m (by omega) (by omega) w hv⟩
theorem right_both (word : List UInt8) (p : Int) : ∃ o, (∀ v w, Sl eB w.heap.size w v word → Calls Try.prog 18 #[v, .int .i64 p] w fun e w' => e = .returned (.bool o) ∧ Below w.heap.size w w') ∧ ∀ v w, Sl eB w.heap.size w v word → Calls Try.prog 19 #[v, .int .i64 p] w fun e w' => e = .returned (.bool o) ∧ Below w.heap.size w w' := by
  by_cases h : p < 0 ∨ 255 < p ∨ 255 < word.length ∨ (word.length : Int) < p
  · refine ⟨false, fun v w hv => ?_, fun v w hv => ?_⟩
    · obtain ⟨A, c, rfl⟩ := hv.len
      exact Right_no A _ c p h w
    · obtain ⟨A, c, rfl⟩ := hv.len
      exact RRight_no A _ c p h w
  · obtain ⟨m, rfl⟩ : ∃ m : Nat, p = m := ⟨p.toNat, by omega⟩
    exact ⟨_, fun v w hv => Right_yes v word m (by omega) (by omega) w hv, fun v w hv => RRight_yes v word m (by omega) (by omega) w hv⟩

set_option maxRecDepth 100000 in
set_option maxHeartbeats 4000000 in
theorem RsTells_big (A : Option Addr) (l c : Nat) (p : Int) (w : World) (hbig : 300 < l) :
    Calls Try.prog 3 #[.slice A l c, .int .i64 p] w fun e w' => e = .returned (.bool true) ∧ Below w.heap.size w w' := by
  have d1 : decide ((300 : Int) < (l : Int)) = true := decide_eq_true (by omega)
  go_enter Try.func3, Try.ntmps3
  go_wp2_with (go_at_call 8; refine (wakes_any _).mono ?_; rintro e w2 ⟨rfl, hB⟩)
  go_ret
  exact ⟨rfl, hB⟩

set_option maxRecDepth 100000 in
set_option maxHeartbeats 8000000 in
theorem RsTells_some (v : Value) (data : List UInt8) (p : Int) (w : World) (hd : data.length ≤ 300) (hS : Sl eB w.heap.size w v data) :
    Calls Try.prog 3 #[v, .int .i64 p] w fun e w' => e = .returned (.bool true) ∧ Below w.heap.size w w' := by
  obtain ⟨Lg, ng, g1, g2⟩ := gen_both p
  obtain ⟨Le, ne, e1, e2⟩ := enc_both data hd p
  obtain ⟨Lw, nw, w1, w2⟩ := word_both data hd p
  obtain ⟨Ls, ns, s1, s2⟩ := syn_both data p
  obtain ⟨o1, r1, r2⟩ := right_both data p
  obtain ⟨o2, r3, r4⟩ := right_both Lw p
  have e1' := e1 v
  have e2' := e2 v
  have w1' := w1 v
  have w2' := w2 v
  have s1' := s1 v
  have s2' := s2 v
  have r1' := r1 v
  have r2' := r2 v
  have d1 : decide ((300 : Int) < (data.length : Int)) = false := decide_eq_false (by omega)
  have d1' : decide (300 < data.length) = false := decide_eq_false (by omega)
  clear e1 e2 w1 w2 s1 s2 r1 r2 hd
  obtain ⟨A, c, rfl⟩ := hS.len
  go_enter Try.func3, Try.ntmps3
  go_wp2_with fail
  go_at_call 9
  refine (g1 w).mono ?_
  rintro e x1 ⟨v1, rfl, hv1, hB1⟩
  clear d1 d1' g1
  go_wp2_with fail
  go_at_call 10
  refine (g2 x1).mono ?_
  rintro e x2 ⟨v2, rfl, hv2, hB2⟩
  have q1 := same_eq _ _ _ _ _ (hv1.next hB2) hv2
  have hBw2 := below_trans hB1 hB2
  have hS2 := hS.next hBw2
  clear g2 hv1 hv2 hB1 hB2 hS
  go_wp2_with fail
  go_at_call 11
  refine q1.mono ?_
  rintro e x3 ⟨rfl, rfl⟩
  clear q1
  go_wp2_with fail
  go_at_call 12
  refine (e1' x2 hS2).mono ?_
  rintro e x3 ⟨v3, rfl, hv3, hB3⟩
  have hBw3 := below_trans hBw2 hB3
  have hS3 := hS2.next hB3
  clear e1' hB3 hS2 hBw2
  go_wp2_with fail
  go_at_call 13
  refine (e2' x3 hS3).mono ?_
  rintro e x4 ⟨v4, rfl, hv4, hB4⟩
  have hBw4 := below_trans hBw3 hB4
  have hS4 := hS3.next hB4
  have hv3' := hv3.next hB4
  clear e2' hB4 hS3 hBw3 hv3
  go_wp2_with fail
  go_at_call 14
  refine (w1' x4 hS4).mono ?_
  rintro e x5 ⟨v5, rfl, hv5, hB5⟩
  have hBw5 := below_trans hBw4 hB5
  have hS5 := hS4.next hB5
  have hv3' := hv3'.next hB5
  have hv4' := hv4.next hB5
  clear w1' hB5 hS4 hBw4 hv4
  go_wp2_with fail
  go_at_call 15
  refine (w2' x5 hS5).mono ?_
  rintro e x6 ⟨v6, rfl, hv6, hB6⟩
  have hBw6 := below_trans hBw5 hB6
  have hS6 := hS5.next hB6
  have hv3' := hv3'.next hB6
  have hv4' := hv4'.next hB6
  have hv5' := hv5.next hB6
  clear w2' hB6 hS5 hBw5 hv5
  go_wp2_with fail
  go_at_call 16
  refine (s1' x6 hS6).mono ?_
  rintro e x7 ⟨v7, rfl, hv7, hB7⟩
  have hBw7 := below_trans hBw6 hB7
  have hS7 := hS6.next hB7
  have hv3' := hv3'.next hB7
  have hv4' := hv4'.next hB7
  have hv5' := hv5'.next hB7
  have hv6' := hv6.next hB7
  clear s1' hB7 hS6 hBw6 hv6
  go_wp2_with fail
  go_at_call 17
  refine (s2' x7 hS7).mono ?_
  rintro e x8 ⟨v8, rfl, hv8, hB8⟩
  have hBw8 := below_trans hBw7 hB8
  have hS8 := hS7.next hB8
  have q2 := same_eq _ _ _ _ _ (hv3'.next hB8) (hv4'.next hB8)
  have q3 := same_eq _ _ _ _ _ (hv5'.next hB8) (hv6'.next hB8)
  have q4 := same_eq _ _ _ _ _ (hv7.next hB8) hv8
  have hv6'' := hv6'.next hB8
  clear s2' hB8 hS7 hBw7 hv3' hv4' hv5' hv6' hv7 hv8
  go_wp2_with fail
  go_at_call 11
  refine q2.mono ?_
  rintro e x9 ⟨rfl, rfl⟩
  clear q2
  go_wp2_with fail
  go_at_call 11
  refine q3.mono ?_
  rintro e x9 ⟨rfl, rfl⟩
  clear q3
  go_wp2_with fail
  go_at_call 11
  refine q4.mono ?_
  rintro e x9 ⟨rfl, rfl⟩
  clear q4
  go_wp2_with fail
  go_at_call 18
  refine (r1' x8 hS8).mono ?_
  rintro e x9 ⟨rfl, hB9⟩
  have hBw9 := below_trans hBw8 hB9
  have hS9 := hS8.next hB9
  have hv9 := hv6''.next hB9
  clear r1' hB9 hS8 hBw8 hv6''
  go_wp2_with fail
  go_at_call 19
  refine (r2' x9 hS9).mono ?_
  rintro e y1 ⟨rfl, hB10⟩
  have hBw10 := below_trans hBw9 hB10
  have hv10 := hv9.next hB10
  clear r2' hB10 hS9 hBw9 hv9
  go_wp2_with fail
  go_at_call 18
  refine (r3 v6 y1 hv10).mono ?_
  rintro e y2 ⟨rfl, hB11⟩
  have hBw11 := below_trans hBw10 hB11
  have hv11 := hv10.next hB11
  clear r3 hB11 hBw10 hv10
  go_wp2_with fail
  go_at_call 19
  refine (r4 v6 y2 hv11).mono ?_
  rintro e y3 ⟨rfl, hB12⟩
  have hBw12 := below_trans hBw11 hB12
  clear r4 hB12 hBw11 hv11
  go_wp2_with fail
  go_at_call 8
  refine (wakes_any _).mono ?_
  rintro e wz ⟨rfl, hBz⟩
  go_wp2
  go_ret
  exact ⟨rfl, below_trans hBw12 hBz⟩
theorem RsTells_any (v : Value) (data : List UInt8) (p : Int) (w : World) (hS : Sl eB w.heap.size w v data) :
    Calls Try.prog 3 #[v, .int .i64 p] w fun e w' => e = .returned (.bool true) ∧ Below w.heap.size w w' := by
  by_cases hbig : 300 < data.length
  · obtain ⟨A, c, rfl⟩ := hS.len
    exact RsTells_big A _ c p w hbig
  · exact RsTells_some v data p w (by omega) hS
end Go.Proofs.Ytkldapdebjlfmaa
