/- Contracts of slices.Chunk and of its iterator, in the fence of the program. -/
import Derived.Test.YtmppkfiocleicaaTrC
import Derived.Test.YtmppkfiocleicaaRQ
namespace Go.Proofs.Ytmppkfiocleicaa
open Go.RowKit Go.Shelf
attribute [local go_sem] Oper.semAt_some inProg_round inProg_depth

theorem Chunk_in (A : Option Addr) (l c m : Nat) (hm : 1 ≤ m) (n : Nat) (w : World) :
    CallsIn (Fence.inProg Try.prog) n Try.prog 24 #[.slice A l c, .int .i64 m] w fun e w' =>
      e = .returned (.func (.func 25) #[] #[.pointer (some ⟨w.heap.size, 0, none⟩), .pointer (some ⟨w.heap.size + 1, 0, none⟩)]) ∧
      Below w.heap.size w w' ∧ w'.heap.size = w.heap.size + 2 ∧ Boxed w' w.heap.size 24 (.slice A l c) ∧ Boxed w' (w.heap.size + 1) 3 (.int .i64 m) := by
  have d1 : decide ((m : Int) < 1) = false := decide_eq_false (by omega)
  have hmf : ∀ (fn : Fn) (first cap : Array Value) (w : World), (Instr.makeFunc fn first cap).run Try.prog w = .ok (.func fn first cap) w := fun _ _ _ _ => rfl
  refine callsIn_of_wp Try.func24 rfl ⟨_, Try.func24⟩ ?_ rfl
  simp only [Try.ntmps24, List.size_toArray, List.length_cons, List.length_nil, Nat.reduceAdd, Nat.reduceSub, Array.replicate_succ, Array.replicate_zero, List.push_toArray, List.append_toArray, List.nil_append, List.cons_append]
  have hb1 := (Boxed.new w 24 (.slice A l c)).alloc (.cells #[.int .i64 m] 3)
  have hb2 := Boxed.new (w.alloc (.cells #[.slice A l c] 24)) 3 (.int .i64 m)
  rw [World.size_alloc] at hb2
  have hB : Below w.heap.size w ((w.alloc (.cells #[.slice A l c] 24)).alloc (.cells #[.int .i64 m] 3)) := ((Below.refl _ w).alloc (Nat.le_refl _) _).alloc (by simp) _
  have hsz : ((w.alloc (.cells #[.slice A l c] 24)).alloc (.cells #[.int .i64 m] 3)).heap.size = w.heap.size + 2 := by simp
  gi_wp2_with fail
  refine bodyPost_ret (results_tmp rfl _ _ _) rfl ⟨rfl, hB, hsz, hb1, hb2⟩
set_option maxRecDepth 1000000 in
set_option maxHeartbeats 4000000 in
theorem Chunk_seq (b1 b2 B g b off c k m : Nat) (hm : 1 ≤ m) (hreach : k * m ≤ 1000000) (hc : k * m ≤ c) (A : Option Addr) (hA : 0 < k → A = some ⟨b, off, none⟩) (w0 : World) (hB : B ≤ w0.heap.size) (h1 : b1 < B) (h2 : b2 < B) (g1 : b1 ≠ g) (g2 : b2 ≠ g)
    (hc1 : w0.cell? ⟨b1, 0, none⟩ = some (.slice A (k * m : Nat) c)) (hc2 : w0.cell? ⟨b2, 0, none⟩ = some (.int .i64 m)) :
    SeqP (Fence.inProg Try.prog) Try.prog 25 #[.pointer (some ⟨b1, 0, none⟩), .pointer (some ⟨b2, 0, none⟩)] (fun j : Nat => #[.slice (some ⟨b, off + j * m, none⟩) m m]) (Keep B g) (List.range k) w0 := by
  intro l J JS JP W hW hJo hY h0
  have hc1' := (hW.cell (p := ⟨b1, 0, none⟩) (show b1 < _ by omega)).trans hc1
  have hc2' := (hW.cell (p := ⟨b2, 0, none⟩) (show b2 < _ by omega)).trans hc2
  refine callsIn_of_wp Try.func25 rfl ⟨_, Try.func25⟩ ?_ rfl
  simp only [Try.ntmps25, List.size_toArray, List.length_cons, List.length_nil, Nat.reduceAdd, Nat.reduceSub, Array.replicate_succ, Array.replicate_zero, List.push_toArray, List.append_toArray, List.nil_append, List.cons_append]
  gi_wp2_with fail
  gi_loopw [4] (fun i wr => ∃ j : Nat, j ≤ k ∧ i = .int .i64 (j * m : Nat) ∧ J (List.range j) wr ∧ Keep B g W wr) (fun i _ => k * m - (intOf i).toNat)
  case atStart => exact ⟨0, Nat.zero_le _, by simp, h0, keep_r _ _ _⟩
  case round =>
    obtain ⟨j, hj, rfl, hJ, hK⟩ := hrel
    have k1 := (hK.cell (p := ⟨b1, 0, none⟩) h1 g1).trans hc1'
    have k2 := (hK.cell (p := ⟨b2, 0, none⟩) h2 g2).trans hc2'
    by_cases hlt : j < k
    · have hjm : (j + 1) * m ≤ k * m := Nat.mul_le_mul_right m (by omega)
      rw [Nat.succ_mul] at hjm
      obtain rfl := hA (by omega)
      have Hjm := Lib.hid (show (j + 1) * m = j * m + m from Nat.succ_mul j m)
      clear hA h0 hc1 hc2 hc1' hc2' hW
      generalize k * m = L at *
      generalize hv : j * m = v at *
      have Hv := Lib.hid hv
      clear hv
      have e0 : decide ((v : Int) < (L : Int)) = true := decide_eq_true (by omega)
      have e1 : IntKind.i64.wrap ((v : Int) + (m : Int)) = ((v + m : Nat) : Int) := by rw [IntWalk.i64_in _ (by omega)]; omega
      have m1 : (v : Int) ≤ (L : Int) := by omega
      have m2 : (v : Int) ≤ (c : Int) := by omega
      have m3 : ((v + m : Nat) : Int) ≤ (c : Int) := by omega
      have m5 : ¬ c = v := by omega
      have mn : ¬ ((L - v : Nat) : Int) < (m : Int) := by omega
      have mn2 : ¬ (L : Int) - (v : Int) < (m : Int) := by omega
      gi_wp2_with fail
      gi_quiet_th (fail)
      have hJd : J (List.range j) (wr.drewN nq) := hJo _ _ _ none hJ ⟨rfl, rfl, rfl, Nat.le_refl _, fun _ _ _ => rfl⟩ (fun r e => by cases e)
      rw [if_neg (show ¬ L - v < m by omega)]
      obtain ⟨fn, tmps, assign, body, hy, hR⟩ := hY _ j (wr.drewN nq) hJd (range_pre j k hlt)
      rw [Hv.out] at hy
      rw [← List.range_succ] at hR
      have k1' : (wr.drewN nq).cell? ⟨b1, 0, none⟩ = some (.slice (some ⟨b, off, none⟩) L c) := k1
      have hKd : Keep B g W (wr.drewN nq) := keep_t hK ⟨⟨rfl, rfl, rfl, Nat.le_refl _⟩, fun _ _ _ => rfl⟩
      have k2' : (wr.drewN nq).cell? ⟨b2, 0, none⟩ = some (.int .i64 m) := k2
      clear hJo hY hJ hJd hK k1 k2
      generalize wr.drewN nq = wd at *
      have m6 : ¬ ((v + m : Nat) : Int) < (v : Int) := by omega
      gi_wp2_with fail
      refine (roundIn_room rfl hR).mono ?_
      clear hy hR
      rintro e W3 (⟨rfl, hJ3, hK3, hF3⟩ | ⟨rfl, hS3⟩ | ⟨ch, rfl, hP3⟩)
      · have k13 := (hK3.cell (p := ⟨b1, 0, none⟩) h1 g1).trans k1'
        have k23 := (hK3.cell (p := ⟨b2, 0, none⟩) h2 g2).trans k2'
        gi_wp2_with fail
        refine ⟨⟨j + 1, by omega, by rw [Hjm.out]; go_num, hJ3, keep_t hKd hK3⟩, ?_⟩
        simp [intOf]
        omega
      · gi_wp2_with fail
        refine bodyPost_ret (results_none rfl _ _ _) rfl ?_
        exact .inl ⟨⟨_, rfl⟩, .inr hS3⟩
      · gi_wp2_with fail
        exact ⟨rfl, .inr ⟨ch, rfl, hP3⟩⟩
    · obtain rfl : j = k := by omega
      generalize j * m = L at *
      have d0 : decide ((L : Int) < (L : Int)) = false := decide_eq_false (by omega)
      gi_wp2_with fail
      go_end0
      exact .inl ⟨⟨_, rfl⟩, .inl hJ⟩
end Go.Proofs.Ytmppkfiocleicaa
