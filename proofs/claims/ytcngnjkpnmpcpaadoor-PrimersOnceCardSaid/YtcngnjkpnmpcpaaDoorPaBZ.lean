import Derived.Laws.Rows
import Derived.Laws.Tables
import Derived.Test.YtcngnjkpnmpcpaaDoorMMZ
import Derived.Test.YtcngnjkpnmpcpaaDoorPaAZ
import Derived.Test.YtcngnjkpnmpcpaaDoorRPWZ
import Derived.Test.YtcngnjkpnmpcpaaDoorRQZ
import Derived.Test.YtcngnjkpnmpcpaaDoorRXZ
namespace Go.Proofs.YtcngnjkpnmpcpaaDoor
open Go.RowKit Go.Shelf
attribute [local go_sem] Oper.semAt_some run_store_func
abbrev Pr := List UInt8 × List UInt8
def PrsIn (B : Nat) (W : World) (v : Value) (L : List Pr) : Prop :=
 ∃ A cap, v = .slice A L.length cap ∧ L.length ≤ cap ∧ (0 < L.length → ∃ b off, A = some ⟨b, off, none⟩ ∧ b < B ∧ ∀ i (hi : i < L.length), W.cell? ⟨b, off + i * 2, none⟩ = some (sV L[i].1) ∧ W.cell? ⟨b, off + i * 2 + 1, none⟩ = some (sV L[i].2))
theorem PrsIn.below {B : Nat} {w w' : World} {v : Value} {L : List Pr} (h : PrsIn B w v L) (hb : Below B w w') : PrsIn B w' v L := by
 obtain ⟨A, cap, e, hc, hcs⟩ := h
 refine ⟨A, cap, e, hc, fun h0 => ?_⟩
 obtain ⟨b, off, e', hb', hcell⟩ := hcs h0
 exact ⟨b, off, e', hb', fun i hi => ⟨(hb.cell (p := ⟨b, off + i * 2, none⟩) hb').trans (hcell i hi).1, (hb.cell (p := ⟨b, off + i * 2 + 1, none⟩) hb').trans (hcell i hi).2⟩⟩
theorem PrsIn.more {B B' : Nat} {w : World} {v : Value} {L : List Pr} (h : PrsIn B w v L) (hb : B ≤ B') : PrsIn B' w v L := by
 obtain ⟨A, cap, e, hc, hcs⟩ := h
 refine ⟨A, cap, e, hc, fun h0 => ?_⟩
 obtain ⟨b, off, e', hb', hcell⟩ := hcs h0
 exact ⟨b, off, e', by omega, hcell⟩
theorem PrsIn.next {w w' : World} {v : Value} {L : List Pr} (h : PrsIn w.heap.size w v L) (hb : Below w.heap.size w w') : PrsIn w'.heap.size w' v L := (h.below hb).more hb.size
theorem PrsIn.len {B : Nat} {W : World} {v : Value} {L : List Pr} (h : PrsIn B W v L) : ∃ A c, v = .slice A L.length c := by
 obtain ⟨A, c, e, -, -⟩ := h
 exact ⟨A, c, e⟩
def allP (L : List Pr) : List (List UInt8) := L.flatMap fun p => [p.1, p.2]
theorem allP_app (a b : List Pr) : allP (a ++ b) = allP a ++ allP b := by simp [allP]
theorem allP_succ (L : List Pr) (j : Nat) (h : j < L.length) : allP (L.take (j + 1)) = allP (L.take j) ++ [L[j].1] ++ [L[j].2] := by
 rw [List.take_succ_eq_append_getElem h, allP_app]
 simp [allP]
theorem allP_len (L : List Pr) : (allP L).length = 2 * L.length := by
 induction L with
 | nil => rfl
 | cons p L ih =>
   have e : allP (p :: L) = p.1 :: p.2 :: allP L := rfl
   rw [e]
   simp only [List.length_cons, ih]
   omega
theorem allP_pre (L : List Pr) (j : Nat) : allP (L.take j) <+: allP L := by
 refine ⟨allP (L.drop j), ?_⟩
 rw [← allP_app, List.take_append_drop]
theorem allP_pre1 (L : List Pr) (j : Nat) (h : j < L.length) : allP (L.take j) ++ [L[j].1] <+: allP L :=
 List.IsPrefix.trans ⟨[L[j].2], by rw [allP_succ L j h]⟩ (allP_pre L (j + 1))
theorem allP_pre2 (L : List Pr) (j : Nat) (h : j < L.length) : (allP (L.take j) ++ [L[j].1]) ++ [L[j].2] <+: allP L := by
 rw [← allP_succ L j h]
 exact allP_pre L (j + 1)
def KT (B g : Nat) (W W' : World) : Prop := Keep B g W W' ∧ ∀ (k : Nat) (cs : Array Value) (fr : Nat × Nat), W.heap[k]? = some (.cells cs 46 fr) → W'.heap[k]? = some (.cells cs 46 fr)
theorem kt_r (B g : Nat) (W : World) : KT B g W W := ⟨keep_r _ _ _, fun _ _ _ h => h⟩
theorem kt_t {B g : Nat} {X Y Z : World} (h : KT B g X Y) (k : KT B g Y Z) : KT B g X Z := ⟨keep_t h.1 k.1, fun i cs fr hi => k.2 i cs fr (h.2 i cs fr hi)⟩
theorem kt_below {B g : Nat} {W W' : World} (h : Below W.heap.size W W') (hB : B ≤ W.heap.size) : KT B g W W' :=
 ⟨⟨⟨h.os, h.tape, h.output, h.size⟩, fun k hk _ => h.block k (by omega)⟩, fun k cs fr hk => (h.block k (Array.getElem?_eq_some_iff.1 hk).1).trans hk⟩
theorem kt_alloc {B g : Nat} {W : World} (o : Obj) (hB : B ≤ W.heap.size) : KT B g W (W.alloc o) := kt_below (below_alloc W o) hB
set_option maxRecDepth 100000 in
theorem each_any (A : Option Addr) (l c : Nat) (w : World) :
    Calls Tryd.prog 33 #[.slice A l c] w fun e w' => e = .returned (.func (.func 53) #[] #[.pointer (some ⟨w.heap.size, 0, none⟩)]) ∧ w' = w.alloc (.cells #[.slice A l c] 22) := by
  have hmf : ∀ (fn : Fn) (first cap : Array Value) (w : World), (Instr.makeFunc fn first cap).run Tryd.prog w = .ok (.func fn first cap) w := fun _ _ _ _ => rfl
  go_enter Tryd.func33, Tryd.ntmps33
  go_wp2_with fail
  go_ret
  exact ⟨rfl, rfl⟩
set_option maxRecDepth 1000000 in
set_option maxHeartbeats 4000000 in
theorem each_seq (b1 B g : Nat) (A : Option Addr) (c : Nat) (L : List Pr) (hreach : L.length ≤ 1000000) (w0 : World) (hB : B ≤ w0.heap.size) (h1 : b1 < B)
    (hc1 : w0.cell? ⟨b1, 0, none⟩ = some (.slice A L.length c)) (hS : PrsIn B w0 (.slice A L.length c) L) (hne : 0 < L.length → ∀ a, A = some a → a.block ≠ g) :
    SeqP Fence.wide Tryd.prog 53 #[.pointer (some ⟨b1, 0, none⟩)] (fun l : List UInt8 => #[sV l]) (KT B g) (allP L) w0 := by
 intro l J JS JP W hW hJo hY h0
 have hc1' := (hW.cell (p := ⟨b1, 0, none⟩) (show b1 < _ by omega)).trans hc1
 have hSW := hS.below (hW.mono hB)
 refine callsIn_of_wp Tryd.func53 rfl trivial ?_ rfl
 simp only [Tryd.ntmps53, List.size_toArray, List.length_cons, List.length_nil, Nat.reduceAdd, Nat.reduceSub, Array.replicate_succ, Array.replicate_zero, List.push_toArray, List.append_toArray, List.nil_append, List.cons_append]
 gi_wp2_with fail
 gi_loopw [7] (fun i wr => ∃ j : Nat, j ≤ L.length ∧ i = .int .i64 j ∧ J (allP (L.take j)) wr ∧ KT B g W wr) (fun i _ => L.length - (intOf i).toNat)
 case atStart => exact ⟨0, Nat.zero_le _, rfl, h0, kt_r _ _ _⟩
 case round =>
  obtain ⟨j, hj, rfl, hJ, hK⟩ := hrel
  by_cases hlt : j < L.length
  · obtain ⟨A', c', he, _, hcs⟩ := id hSW
    injection he with e1 e2 e3
    subst e1 e3
    obtain ⟨b, off, rfl, hb, hcell⟩ := hcs (by omega)
    have hbg : b ≠ g := hne (by omega) _ rfl
    have cx1 := (hK.1.cell (p := ⟨b, off + j * 2, none⟩) hb hbg).trans (hcell j hlt).1
    have cx2 := (hK.1.cell (p := ⟨b, off + j * 2 + 1, none⟩) hb hbg).trans (hcell j hlt).2
    have hxl : (j : Int) < (L.length : Int) := by omega
    have hsz := keep_size hK.1
    have hsW := hW.size
    have hJ1 : J (allP (L.take j)) (wr.alloc (.cells #[sV L[j].1, sV L[j].2] 46)) := hJo.alloc _ hJ
    have hK1 : KT B g W (wr.alloc (.cells #[sV L[j].1, sV L[j].2] 46)) := kt_t hK (kt_alloc _ (by omega))
    have hr1 := Rowed.new wr 46 #[sV L[j].1, sV L[j].2]
    obtain ⟨fn, tmps, assign, body, hy, hR⟩ := hY _ L[j].1 _ hJ1 (allP_pre1 L j hlt)
    have HY := Lib.hid (fun W2 (h : J (allP (L.take j) ++ [L[j].1]) W2) => hY _ L[j].2 W2 h (allP_pre2 L j hlt))
    have HSU := Lib.hid (allP_succ L j hlt)
    have Hlt := Lib.hid hlt
    clear hY hJo hJ hcs hcell hSW hS hc1 hc1' h0 hW hne
    generalize L[j] = P at *
    generalize allP (L.take j) = pre at *
    gi_wp2_with fail
    refine (roundIn_room rfl hR).mono ?_
    clear hy hR
    rintro e W3 (⟨rfl, hJ3, hK3, -⟩ | ⟨rfl, hS3⟩ | ⟨ch, rfl, hP3⟩)
    · have hr3 : Rowed W3 wr.heap.size 46 #[sV P.1, sV P.2] := hK3.2 _ _ _ hr1
      have c1 := hr3.cell 1
      simp at c1
      obtain ⟨fn2, tmps2, assign2, body2, hy2, hR2⟩ := HY.out W3 hJ3
      clear HY hJ1 hJ3 hr3 hr1 cx1 cx2
      gi_wp2_with fail
      refine (roundIn_room rfl hR2).mono ?_
      clear hy2 hR2
      rintro e W4 (⟨rfl, hJ4, hK4, -⟩ | ⟨rfl, hS4⟩ | ⟨ch, rfl, hP4⟩)
      · gi_wp2_with fail
        refine ⟨⟨j + 1, Hlt.out, by go_num, by rw [HSU.out]; exact hJ4, kt_t hK1 (kt_t hK3 hK4)⟩, ?_⟩
        have := Hlt.out
        simp [intOf]
        omega
      · gi_wp2_with fail
        refine bodyPost_ret (results_none rfl _ _ _) rfl ?_
        exact .inl ⟨⟨_, rfl⟩, .inr hS4⟩
      · gi_wp2_with fail
        exact ⟨rfl, .inr ⟨ch, rfl, hP4⟩⟩
    · gi_wp2_with fail
      repeat (refine ⟨fun f hf => (by cases hf), ?_⟩; gi_wp2_with fail)
      refine bodyPost_ret (results_none rfl _ _ _) rfl ?_
      exact .inl ⟨⟨_, rfl⟩, .inr hS3⟩
    · gi_wp2_with fail
      exact ⟨rfl, .inr ⟨ch, rfl, hP3⟩⟩
  · obtain rfl : j = L.length := by omega
    rw [List.take_length] at hJ
    clear hSW hS hY hJo
    gi_wp2_with fail
    go_end0
    exact .inl ⟨⟨_, rfl⟩, .inl hJ⟩
end Go.Proofs.YtcngnjkpnmpcpaaDoor
