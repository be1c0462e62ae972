/- Contracts of swap.find's closure, of swaps and of its iterator. -/
import Derived.Test.YtmdpodgodhkjdaaDoorSwB
namespace Go.Proofs.YtmdpodgodhkjdaaDoor
open Go.RowKit Go.Shelf
attribute [local go_sem] Oper.semAt_some run_store_func

theorem own_below {β : Type} {B : Nat} {I : β → World → Prop} (h : OwnFrom B I) {s : β} {W W' : World} (hs : I s W) (hB : Below W.heap.size W W') : I s W' :=
  h _ _ _ none hs ⟨hB.os, hB.tape, hB.output, hB.size, fun k hk _ => hB.block k hk⟩ (fun r e => by cases e)
set_option maxRecDepth 100000 in
theorem swapped_any (b4 b8 : Nat) (s S q : Int) (hs0 : 0 ≤ s) (hs4 : s < 4) (hS0 : 0 ≤ S) (hS4 : S < 4) (hq0 : 0 ≤ q) (hq4 : q < 4) (w : World) (h4 : w.cell? ⟨b4, 0, none⟩ = some (.int .i64 s)) (h8 : w.cell? ⟨b8, 1, none⟩ = some (.int .i64 S)) :
    Calls Tryd.prog 64 #[.int .i64 q, .pointer (some ⟨b4, 0, none⟩), .pointer (some ⟨b8, 0, none⟩)] w fun e w' => e = .returned (.int .i64 (swC (s - S) q)) ∧ w = w' := by
  have e1 : wrap64 (q + s) = q + s := IntWalk.wrap64_in _ (by omega)
  have e2 : wrap64 (q + s - S) = q + s - S := IntWalk.wrap64_in _ (by omega)
  have e3 : wrap64 (q + s - S + 4) = q + s - S + 4 := IntWalk.wrap64_in _ (by omega)
  have e1' : IntKind.i64.wrap (q + s) = q + s := IntWalk.i64_in _ (by omega)
  have e2' : IntKind.i64.wrap (q + s - S) = q + s - S := IntWalk.i64_in _ (by omega)
  have e3' : IntKind.i64.wrap (q + s - S + 4) = q + s - S + 4 := IntWalk.i64_in _ (by omega)
  have e4 : (q + s - S + 4).tmod 4 = swC (s - S) q := by
    rw [Int.tmod_eq_emod_of_nonneg (by omega), swC]
    congr 1
    omega
  have He := Lib.hid e4
  clear e4 hs0 hs4 hS0 hS4 hq0 hq4
  go_enter Tryd.func64, Tryd.ntmps64
  go_wp2_with fail
  go_ret
  refine ⟨?_, rfl⟩
  rw [← He.out]
  rfl
theorem swaps_any (A : Option Addr) (l c g : Nat) (lb : Array Value) (w : World) :
    Calls Tryd.prog 65 #[.slice A l c, .func (.func g) #[] lb] w fun e w' => e = .returned (.func (.func 74) #[] #[.pointer (some ⟨w.heap.size, 0, none⟩), .pointer (some ⟨w.heap.size + 1, 0, none⟩)]) ∧ w' = (w.alloc (.cells #[.slice A l c] 22)).alloc (.cells #[.func (.func g) #[] lb] 75) := by
  have hmf : ∀ (fn : Fn) (first cap : Array Value) (w : World), (Instr.makeFunc fn first cap).run Tryd.prog w = .ok (.func fn first cap) w := fun _ _ _ _ => rfl
  go_enter Tryd.func65, Tryd.ntmps65
  go_wp2_with fail
  go_ret
  exact ⟨rfl, rfl⟩
/-- By how much the sum W grows. -/
def moreG (y : List UInt8) (d : Int) (p : Nat) : Int := (swC d (codeOf (atB y p).toNat) - codeOf (atB y p).toNat) * ((p : Int) + 1)
set_option maxRecDepth 1000000 in
set_option maxHeartbeats 4000000 in
theorem swaps_seq (b0 b1 b4 b8 : Nat) (A : Option Addr) (cap : Nat) (y : List UInt8) (s S : Int) (hreach : y.length ≤ 1000) (hy : FourL y) (hs0 : 0 ≤ s) (hs4 : s < 4) (hS0 : 0 ≤ S) (hS4 : S < 4) (w0 : World) (l0 : b0 < w0.heap.size) (l1 : b1 < w0.heap.size) (l4 : b4 < w0.heap.size) (l8 : b8 < w0.heap.size)
    (k0 : w0.cell? ⟨b0, 0, none⟩ = some (.slice A y.length cap)) (k1 : w0.cell? ⟨b1, 0, none⟩ = some (.func (.func 64) #[] #[.pointer (some ⟨b4, 0, none⟩), .pointer (some ⟨b8, 0, none⟩)]))
    (k4 : w0.cell? ⟨b4, 0, none⟩ = some (.int .i64 s)) (k8 : w0.cell? ⟨b8, 1, none⟩ = some (.int .i64 S)) (hSl : Sl eB w0.heap.size w0 (.slice A y.length cap) y) (hT : Tab w0) :
    SeqI Fence.wide Tryd.prog 74 #[.pointer (some ⟨b0, 0, none⟩), .pointer (some ⟨b1, 0, none⟩)] (fun p : Nat => #[.int .i64 p, .int .i64 (moreG y (s - S) p)]) (Below w0.heap.size) (List.range y.length) none w0 := by
  intro l J JS W hW hJo hY h0
  have c0 := (hW.cell (p := ⟨b0, 0, none⟩) l0).trans k0
  refine callsIn_of_wp Tryd.func74 rfl trivial ?_ rfl
  simp only [Tryd.ntmps74, List.size_toArray, List.length_cons, List.length_nil, Nat.reduceAdd, Nat.reduceSub, Array.replicate_succ, Array.replicate_zero, List.push_toArray, List.append_toArray, List.nil_append, List.cons_append]
  gi_wp2_with fail
  gi_loopw [9] (fun i wr => ∃ j : Nat, j ≤ y.length ∧ i = .int .i64 j ∧ J (List.range j) wr ∧ Below w0.heap.size w0 wr) (fun i _ => y.length - (intOf i).toNat)
  case atStart => exact ⟨0, Nat.zero_le _, rfl, h0, hW⟩
  case round =>
    obtain ⟨j, hj, rfl, hJ, hB⟩ := hrel
    by_cases hlt : j < y.length
    · obtain ⟨A', c', he, _, hcs⟩ := id hSl
      injection he with he1 he2 he3
      subst he1 he3
      obtain ⟨b, off, rfl, hb, hcell⟩ := hcs (by omega)
      have hck := (hB.cell (p := ⟨b, off + j, none⟩) hb).trans (hcell j _ (atB_lt hlt))
      have r1 := (hB.cell (p := ⟨b1, 0, none⟩) l1).trans k1
      have r4 := (hB.cell (p := ⟨b4, 0, none⟩) l4).trans k4
      have r8 := (hB.cell (p := ⟨b8, 1, none⟩) l8).trans k8
      have hTr := hT.below hB
      have hcc := code_bound (hy j hlt)
      have hC := fun w hT => scode_yes (atB y j) (hy j hlt) w hT
      have hsw := swapped_any b4 b8 s S (codeOf (atB y j).toNat) hs0 hs4 hS0 hS4 (by omega) (by omega) wr r4 r8
      have hrg := swC_range (s - S) (codeOf (atB y j).toNat)
      have Hm := Lib.hid (show moreG y (s - S) j = (swC (s - S) (codeOf (atB y j).toNat) - codeOf (atB y j).toNat) * ((j : Int) + 1) from rfl)
      obtain ⟨fn, tmps, assign, body, hyy, hR⟩ := hY _ j wr hJ (range_pre j y.length hlt)
      rw [← List.range_succ] at hR
      have hj1000 : j < 1000 := by omega
      have dl : decide ((j : Int) < (y.length : Int)) = true := decide_eq_true (by omega)
      have hjl : (j : Int) < y.length := by omega
      generalize moreG y (s - S) j = mg at *
      generalize swC (s - S) (codeOf (atB y j).toNat) = nw at *
      generalize codeOf (atB y j).toNat = q at *
      generalize atB y j = ch at *
      have e1 : wrap64 (nw - q) = nw - q := IntWalk.wrap64_in _ (by omega)
      have e1' : IntKind.i64.wrap (nw - q) = nw - q := IntWalk.i64_in _ (by omega)
      have hd : nw - q = -3 ∨ nw - q = -2 ∨ nw - q = -1 ∨ nw - q = 0 ∨ nw - q = 1 ∨ nw - q = 2 ∨ nw - q = 3 := by omega
      have hb3 : -3003 ≤ (nw - q) * ((j : Int) + 1) ∧ (nw - q) * ((j : Int) + 1) ≤ 3003 := by rcases hd with e | e | e | e | e | e | e <;> rw [e] <;> omega
      have e2 : wrap64 ((nw - q) * ((j : Int) + 1)) = mg := by rw [Hm.out]; exact IntWalk.wrap64_in _ (by omega)
      have e2' : IntKind.i64.wrap ((nw - q) * ((j : Int) + 1)) = mg := by rw [Hm.out]; exact IntWalk.i64_in _ (by omega)
      clear hcell hcs hSl hT hY hJo hb3 hd Hm
      gi_wp2_with fail
      refine ⟨trivial, ?_⟩
      gi_at_call 66
      refine (callsIn_wide.2 (hC _ hTr)).mono ?_
      rintro e w' ⟨rfl, rfl⟩
      gi_wp2_with fail
      refine ⟨trivial, ?_⟩
      gi_at_call 64
      refine (callsIn_wide.2 hsw).mono ?_
      rintro e w' ⟨rfl, rfl⟩
      gi_wp2_with fail
      refine (roundIn_room rfl hR).mono ?_
      rintro e W3 (⟨rfl, hJ3, hK3, hF3⟩ | ⟨rfl, hS3⟩)
      · gi_wp2_with fail
        refine ⟨⟨j + 1, by omega, by go_num, hJ3, hB.trans hK3⟩, ?_⟩
        simp [intOf]
        omega
      · gi_wp2_with fail
        refine bodyPost_ret (results_none rfl _ _ _) rfl ?_
        exact .inl ⟨_, rfl, hS3⟩
    · obtain rfl : j = y.length := by omega
      have dl : decide ((y.length : Int) < (y.length : Int)) = false := decide_eq_false (by omega)
      gi_wp2_with fail
      go_end0
      exact .inr (.inl ⟨trivial, ⟨_, rfl⟩, hJ⟩)
end Go.Proofs.YtmdpodgodhkjdaaDoor
