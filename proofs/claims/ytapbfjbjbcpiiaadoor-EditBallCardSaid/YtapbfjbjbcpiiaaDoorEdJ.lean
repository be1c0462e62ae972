/- Contracts of edit.each (its iterator). -/
import Derived.Test.YtapbfjbjbcpiiaaDoorEdI
import Derived.Test.YtapbfjbjbcpiiaaDoorRX
import Derived.LoopIn
namespace Go.Proofs.YtapbfjbjbcpiiaaDoor
open Go.RowKit Go.Shelf
attribute [local go_sem] Oper.semAt_some run_store_func

/-- An edit's three fields. -/
structure Edt where
  k : UInt8
  z : Int
  b : UInt8
def encE (x : Edt) : Array Value := #[eE x.k x.z x.b]
def lettE (j : Nat) : UInt8 := if j = 0 then 65 else if j = 1 then 67 else if j = 2 then 71 else 84
/-- The swaps of a letter, by the first j letters. -/
def swE (c : UInt8) (at_ : Nat) (j : Nat) : List Edt := ((List.range j).filter fun i => lettE i != c).map fun i => ⟨3, at_, lettE i⟩
def moE (at_ : Nat) (j : Nat) : List Edt := (List.range j).map fun i => ⟨2, at_, lettE i⟩
def upS (s : List UInt8) (k : Nat) : List Edt := (List.range k).flatMap fun (at_ : Nat) => ⟨1, (at_ : Int), 0⟩ :: swE (s.getD at_ 0) at_ 4
def upM (k : Nat) : List Edt := (List.range k).flatMap fun (at_ : Nat) => moE at_ 4
/-- All edits of a word, in order. -/
def edG (s : List UInt8) : List Edt := ⟨0, 0, 0⟩ :: (upS s s.length ++ upM (s.length + 1))
theorem swE_succ (c : UInt8) (a j : Nat) : swE c a (j + 1) = if lettE j != c then swE c a j ++ [⟨3, a, lettE j⟩] else swE c a j := by
  unfold swE
  rw [List.range_succ, List.filter_append, List.map_append]
  by_cases h : (lettE j != c) = true
  · rw [if_pos h]; simp [h]
  · rw [if_neg h]; simp [h]
theorem moE_succ (a j : Nat) : moE a (j + 1) = moE a j ++ [⟨2, a, lettE j⟩] := by
  unfold moE
  rw [List.range_succ, List.map_append]; rfl
theorem upS_succ (s : List UInt8) (k : Nat) : upS s (k + 1) = upS s k ++ (⟨1, k, 0⟩ :: swE (s.getD k 0) k 4) := by
  unfold upS
  rw [List.range_succ, List.flatMap_append]; simp
theorem upM_succ (k : Nat) : upM (k + 1) = upM k ++ moE k 4 := by
  unfold upM
  rw [List.range_succ, List.flatMap_append]; simp
theorem upS_pre (s : List UInt8) (k n : Nat) (h : k ≤ n) : upS s k <+: upS s n := by
  induction n with
  | zero => obtain rfl : k = 0 := by omega
            exact List.prefix_rfl
  | succ n ih =>
    by_cases e : k = n + 1
    · subst e; exact List.prefix_rfl
    · rw [upS_succ]
      exact (ih (by omega)).trans (List.prefix_append _ _)
theorem upM_pre (k n : Nat) (h : k ≤ n) : upM k <+: upM n := by
  induction n with
  | zero => obtain rfl : k = 0 := by omega
            exact List.prefix_rfl
  | succ n ih =>
    by_cases e : k = n + 1
    · subst e; exact List.prefix_rfl
    · rw [upM_succ]
      exact (ih (by omega)).trans (List.prefix_append _ _)
theorem swE_pre (c : UInt8) (a j m : Nat) (h : j ≤ m) : swE c a j <+: swE c a m := by
  induction m with
  | zero => obtain rfl : j = 0 := by omega
            exact List.prefix_rfl
  | succ m ih =>
    by_cases e : j = m + 1
    · subst e; exact List.prefix_rfl
    · rw [swE_succ]
      split
      · exact (ih (by omega)).trans (List.prefix_append _ _)
      · exact ih (by omega)
theorem moE_pre (a j m : Nat) (h : j ≤ m) : moE a j <+: moE a m := by
  induction m with
  | zero => obtain rfl : j = 0 := by omega
            exact List.prefix_rfl
  | succ m ih =>
    by_cases e : j = m + 1
    · subst e; exact List.prefix_rfl
    · rw [moE_succ]
      exact (ih (by omega)).trans (List.prefix_append _ _)
/-- What has been gone through: in the first part; in the second. -/
def preA (s : List UInt8) (k : Nat) : List Edt := ⟨0, 0, 0⟩ :: upS s k
def preB (s : List UInt8) (k j : Nat) : List Edt := preA s k ++ (⟨1, k, 0⟩ :: swE (s.getD k 0) k j)
def preC (s : List UInt8) (k : Nat) : List Edt := preA s s.length ++ upM k
def preD (s : List UInt8) (k j : Nat) : List Edt := preC s k ++ moE k j
theorem edG_is (s : List UInt8) : edG s = preC s (s.length + 1) := rfl
theorem preA_all (s : List UInt8) (k : Nat) (h : k ≤ s.length) : preA s k <+: edG s := by
  have : preA s k <+: preA s s.length := by unfold preA; exact (List.cons_prefix_cons).2 ⟨rfl, upS_pre s k _ h⟩
  exact this.trans (List.prefix_append _ _)
theorem preB_all (s : List UInt8) (k j : Nat) (h : k < s.length) (hj : j ≤ 4) : preB s k j <+: edG s := by
  have h1 : preB s k j <+: preA s (k + 1) := by
    unfold preB preA
    rw [upS_succ]
    show _ <+: ⟨0, 0, 0⟩ :: (upS s k ++ _)
    rw [List.cons_append]
    refine (List.cons_prefix_cons).2 ⟨rfl, (List.prefix_append_right_inj _).2 ((List.cons_prefix_cons).2 ⟨rfl, swE_pre _ _ _ _ hj⟩)⟩
  exact h1.trans (preA_all s (k + 1) h)
theorem preD_all (s : List UInt8) (k j : Nat) (h : k ≤ s.length) (hj : j ≤ 4) : preD s k j <+: edG s := by
  have h1 : preD s k j <+: preC s (k + 1) := by
    unfold preD preC
    rw [upM_succ, ← List.append_assoc]
    exact (List.prefix_append_right_inj _).2 (moE_pre _ _ _ hj)
  refine h1.trans ?_
  rw [edG_is]
  exact (List.prefix_append_right_inj _).2 (upM_pre _ _ (by omega))
theorem preB_succ (s : List UInt8) (k j : Nat) (h : (lettE j != s.getD k 0) = true) : preB s k (j + 1) = preB s k j ++ [⟨3, k, lettE j⟩] := by
  unfold preB
  rw [swE_succ, if_pos h]; simp
theorem preB_same (s : List UInt8) (k j : Nat) (h : (lettE j != s.getD k 0) = false) : preB s k (j + 1) = preB s k j := by
  unfold preB
  rw [swE_succ, h]; simp
theorem preB_zero (s : List UInt8) (k : Nat) : preB s k 0 = preA s k ++ [⟨1, k, 0⟩] := by unfold preB swE; simp
theorem preB_four (s : List UInt8) (k : Nat) : preB s k 4 = preA s (k + 1) := by unfold preB preA; rw [upS_succ]; simp
theorem preD_succ (s : List UInt8) (k j : Nat) : preD s k (j + 1) = preD s k j ++ [⟨2, k, lettE j⟩] := by unfold preD; rw [moE_succ]; simp
theorem preD_zero (s : List UInt8) (k : Nat) : preD s k 0 = preC s k := by unfold preD moE; simp
theorem preD_four (s : List UInt8) (k : Nat) : preD s k 4 = preC s (k + 1) := by unfold preD preC; rw [upM_succ]; simp
theorem preA_zero (s : List UInt8) : preA s 0 = [⟨0, 0, 0⟩] := rfl
theorem preC_zero (s : List UInt8) : preC s 0 = preA s s.length := by unfold preC upM; simp
/-- The table of letters lies in memory. -/
def TabE (w : World) : Prop := ∃ t fr, w.heap[1]? = some (.cells #[.int .u8 65, .int .u8 67, .int .u8 71, .int .u8 84] t fr)
theorem TabE.lt {w : World} (h : TabE w) : 1 < w.heap.size := by
  obtain ⟨_, _, h⟩ := h
  exact (Array.getElem?_eq_some_iff.1 h).1
theorem TabE.below {w w' : World} (h : TabE w) (hb : Below w.heap.size w w') : TabE w' := by
  obtain ⟨t, fr, h'⟩ := h
  exact ⟨t, fr, (hb.block _ (TabE.lt ⟨t, fr, h'⟩)).trans h'⟩
theorem bl_cell {w0 W : World} {p : Addr} {v : Value} (h : Below w0.heap.size w0 W) (hc : w0.cell? p = some v) : W.cell? p = some v := (h.cell (World.block_lt_of_cell? _ _ hc)).trans hc
theorem sizeE4 : (Tryd.prog.info? 70).map (·.size) = some 4 := by kernel_rfl
theorem lettE_at (j : Nat) (hj : j < 4) (w : World) : (Instr.index 70 (.agg #[.int .u8 65, .int .u8 67, .int .u8 71, .int .u8 84]) (.int .i64 (j : Nat))).run Tryd.prog w = .ok (eB (lettE j)) w := by
  rcases (show j = 0 ∨ j = 1 ∨ j = 2 ∨ j = 3 by omega) with rfl | rfl | rfl | rfl <;> kernel_rfl
set_option maxRecDepth 100000 in
set_option maxHeartbeats 4000000 in
theorem each_seq (b1 : Nat) (A : Option Addr) (cap : Nat) (s : List UInt8) (h9 : s.length ≤ 1000) (w0 : World) (k1 : w0.cell? ⟨b1, 0, none⟩ = some (.slice A s.length cap)) (hSl : Sl eB w0.heap.size w0 (.slice A s.length cap) s) (hT : TabE w0) :
    SeqX Fence.wide Tryd.prog 55 #[.pointer (some ⟨b1, 0, none⟩)] encE (Below w0.heap.size) (edG s) none w0 := by
  intro l J JS W hW _ hY h0
  have hRC := hW
  have hbd0 : ∀ w, (Instr.build 36 #[(0, .int .u8 0)]).run Tryd.prog w = .ok (eE 0 0 0) w := fun _ => by kernel_rfl
  have hbd1 : ∀ (z : Int) w, (Instr.build 36 #[(0, .int .u8 1), (1, .int .i64 z)]).run Tryd.prog w = .ok (eE 1 z 0) w := fun _ _ => by kernel_rfl
  have hbd2 : ∀ (z : Int) (b : UInt8) w, (Instr.build 36 #[(0, .int .u8 2), (1, .int .i64 z), (2, eB b)]).run Tryd.prog w = .ok (eE 2 z b) w := fun _ _ _ => by kernel_rfl
  have hbd3 : ∀ (z : Int) (b : UInt8) w, (Instr.build 36 #[(0, .int .u8 3), (1, .int .i64 z), (2, eB b)]).run Tryd.prog w = .ok (eE 3 z b) w := fun _ _ _ => by kernel_rfl
  have H9 := Lib.hid h9
  clear h9
  obtain ⟨fn, tmps, assign, body, hyy, hR⟩ := hY [] ⟨0, 0, 0⟩ W h0 (by rw [List.nil_append, ← preA_zero s]; exact preA_all s 0 (Nat.zero_le _))
  replace hyy : (Instr.yield l #[.agg #[.int .u8 0, .int .i64 0, .int .u8 0]]).run Tryd.prog W = .ok (.round l fn tmps assign body) W := hyy
  rw [List.nil_append, ← preA_zero s] at hR
  refine callsIn_of_wp Tryd.func55 rfl trivial ?_ rfl
  simp only [Tryd.ntmps55, List.size_toArray, List.length_cons, List.length_nil, Nat.reduceAdd, Nat.reduceSub, Array.replicate_succ, Array.replicate_zero, List.push_toArray, List.append_toArray, List.nil_append, List.cons_append]
  gi_wp2_with fail
  refine (roundIn_room rfl hR).mono ?_
  rintro e W1 (⟨rfl, hJ1, hK1, hF1⟩ | ⟨rfl, hS1⟩)
  case inr =>
    gi_wp2_with fail
    refine bodyPost_ret (results_none rfl _ _ _) rfl ?_
    exact .inl ⟨_, rfl, hS1⟩
  have hRC1 := hRC.trans hK1
  have c1 := bl_cell hRC1 k1
  clear hR hyy hK1 hF1 h0
  gi_wp2_with fail
  gi_loopw [16] (fun i wr => ∃ k : Nat, k ≤ s.length ∧ i = .int .i64 k ∧ J (preA s k) wr ∧ Below w0.heap.size w0 wr) (fun i _ => s.length - (intOf i).toNat)
  case atStart =>
    exact ⟨0, by omega, rfl, hJ1, hRC1⟩
  case round =>
    obtain ⟨k, hk, rfl, hJ, hRC⟩ := hrel
    by_cases hlt : k < s.length
    · have hpi : (k : Int) < (s.length : Int) := by omega
      have hpd : decide ((k : Int) < (s.length : Int)) = true := decide_eq_true hpi
      obtain ⟨bk, off, rfl, hcl⟩ := letters_at hSl hlt
      have hc2 := bl_cell hRC hcl
      have hk9 : k ≤ 1000 := by have := H9.out; omega
      have hwk := w_succ k hk9
      have hwk' := i_succ k hk9
      clear hk9
      have hgd : s.getD k 0 = s[k] := by simp [List.getD, hlt]
      generalize s[k] = ck at hcl hc2 hgd
      obtain ⟨fn, tmps, assign, body, hyy, hR⟩ := hY (preA s k) ⟨1, k, 0⟩ wr hJ (by rw [← preB_zero]; exact preB_all s k 0 hlt (by omega))
      replace hyy : (Instr.yield l #[.agg #[.int .u8 1, .int .i64 k, .int .u8 0]]).run Tryd.prog wr = .ok (.round l fn tmps assign body) wr := hyy
      rw [← preB_zero] at hR
      have Hlt := Lib.hid hlt
      clear hlt hk hJ hJ1 hRC1 c1
      gi_wp2_with fail
      refine (roundIn_room rfl hR).mono ?_
      rintro e W2 (⟨rfl, hJ2, hK2, hF2⟩ | ⟨rfl, hS2⟩)
      case inr =>
        gi_wp2_with fail
        refine bodyPost_ret (results_none rfl _ _ _) rfl ?_
        exact .inl ⟨_, rfl, hS2⟩
      have hRC2 := hRC.trans hK2
      obtain ⟨tt, ff, ht⟩ := hT.below hRC2
      clear hR hyy hK2 hF2 hRC hc2
      gi_wp2_with (refine wpListIn_load_row rfl 70 (.global 1) rfl 1 rfl _ _ _ _ ht Tryd.underlying70 rfl sizeE4 ?_)
      clear ht
      gi_loopw [27] (fun i wr => ∃ j : Nat, j ≤ 4 ∧ i = .int .i64 j ∧ J (preB s k j) wr ∧ Below w0.heap.size w0 wr) (fun i _ => 4 - (intOf i).toNat)
      case atStart => exact ⟨0, by omega, rfl, hJ2, hRC2⟩
      case round =>
        obtain ⟨j, hj, rfl, hJ, hRC⟩ := hrel
        by_cases hj4 : j < 4
        · have dj : decide ((j : Int) < 4) = true := decide_eq_true (by omega)
          have hat := lettE_at j hj4
          have hwj := w_succ j (by omega)
          have hwj' := i_succ j (by omega)
          cases hne : lettE j != ck with
          | true =>
            have hnb : (((lettE j).toNat : Int) != (ck.toNat : Int)) = true := by
              rw [bne_iff_ne] at hne ⊢
              exact fun h => hne (UInt8.toNat_inj.1 (Int.ofNat_inj.1 h))
            obtain ⟨fn, tmps, assign, body, hyy, hR⟩ := hY (preB s k j) ⟨3, k, lettE j⟩ wr hJ (by rw [← preB_succ s k j (by rw [hgd]; exact hne)]; exact preB_all s k (j + 1) Hlt.out (by omega))
            replace hyy : (Instr.yield l #[.agg #[.int .u8 3, .int .i64 k, eB (lettE j)]]).run Tryd.prog wr = .ok (.round l fn tmps assign body) wr := hyy
            rw [← preB_succ s k j (by rw [hgd]; exact hne)] at hR
            have Hj := Lib.hid hj4
            clear hne hj hj4 hJ hJ2 hRC2
            generalize lettE j = lj at *
            gi_wp2_with fail
            refine (roundIn_room rfl hR).mono ?_
            rintro e W3 (⟨rfl, hJ3, hK3, hF3⟩ | ⟨rfl, hS3⟩)
            case inr =>
              gi_wp2_with fail
              refine bodyPost_ret (results_none rfl _ _ _) rfl ?_
              exact .inl ⟨_, rfl, hS3⟩
            have hRC3 := hRC.trans hK3
            clear hR hyy hK3 hF3 hRC
            gi_wp2_with fail
            go_roundw
            case rel => exact ⟨j + 1, Hj.out, by go_num, hJ3, hRC3⟩
            case measure => have := Hj.out; simp [intOf]; omega
          | false =>
            have hnb : (((lettE j).toNat : Int) != (ck.toNat : Int)) = false := by
              rw [bne_eq_false_iff_eq] at hne ⊢
              rw [hne]
            have Hs := Lib.hid (preB_same s k j (by rw [hgd]; exact hne))
            have Hj := Lib.hid hj4
            clear hne hj hj4 hJ2 hRC2
            generalize lettE j = lj at *
            gi_wp2_with fail
            repeat (refine ⟨fun f hf => (by cases hf), ?_⟩; gi_wp2_with fail)
            go_roundw
            case rel => exact ⟨j + 1, Hj.out, by go_num, by rw [Hs.out]; exact hJ, hRC⟩
            case measure => have := Hj.out; simp [intOf]; omega
        · obtain rfl : j = 4 := by omega
          rw [preB_four] at hJ
          clear hj hj4 hJ2 hRC2
          gi_wp2_with fail
          go_roundw
          case rel => exact ⟨k + 1, Hlt.out, by go_num, hJ, hRC⟩
          case measure => have := Hlt.out; simp [intOf]; omega
    · obtain rfl : k = s.length := by omega
      have hpd : decide ((s.length : Int) < (s.length : Int)) = false := decide_eq_false (by omega)
      have c1 := bl_cell hRC k1
      have hw1 := w_succ s.length H9.out
      have hw2 := i_succ s.length H9.out
      rw [← preC_zero] at hJ
      have Hk9 := Lib.hid (show s.length + 1 ≤ 100000 by have := H9.out; omega)
      clear hk hlt hJ1 hRC1
      gi_wp2_with fail
      gi_loopw [46] (fun i wr => ∃ k : Nat, k ≤ s.length + 1 ∧ i = .int .i64 k ∧ J (preC s k) wr ∧ Below w0.heap.size w0 wr) (fun i _ => s.length + 1 - (intOf i).toNat)
      case atStart => exact ⟨0, by omega, rfl, hJ, hRC⟩
      case round =>
        obtain ⟨k, hk, rfl, hJ, hRC⟩ := hrel
        by_cases hlt : k < s.length + 1
        · have hpi : (k : Int) < (s.length : Int) + 1 := by omega
          have hpd : decide ((k : Int) < (s.length : Int) + 1) = true := decide_eq_true hpi
          have hk9 : k ≤ 1000 := by have := H9.out; omega
          have hwk := w_succ k hk9
          have hwk' := i_succ k hk9
          have Hlt := Lib.hid hlt
          obtain ⟨tt, ff, ht⟩ := hT.below hRC
          have hJ2 := hJ
          rw [← preD_zero] at hJ2
          have hRC2 := hRC
          clear hlt hk hJ hRC hk9
          gi_wp2_with (refine wpListIn_load_row rfl 70 (.global 1) rfl 1 rfl _ _ _ _ ht Tryd.underlying70 rfl sizeE4 ?_)
          clear ht
          gi_loopw [50] (fun i wr => ∃ j : Nat, j ≤ 4 ∧ i = .int .i64 j ∧ J (preD s k j) wr ∧ Below w0.heap.size w0 wr) (fun i _ => 4 - (intOf i).toNat)
          case atStart => exact ⟨0, by omega, rfl, hJ2, hRC2⟩
          case round =>
            obtain ⟨j, hj, rfl, hJ, hRC⟩ := hrel
            by_cases hj4 : j < 4
            · have dj : decide ((j : Int) < 4) = true := decide_eq_true (by omega)
              have hat := lettE_at j hj4
              have hwj := w_succ j (by omega)
              have hwj' := i_succ j (by omega)
              obtain ⟨fn, tmps, assign, body, hyy, hR⟩ := hY (preD s k j) ⟨2, k, lettE j⟩ wr hJ (by rw [← preD_succ s k j]; exact preD_all s k (j + 1) (Nat.le_of_lt_succ Hlt.out) (by omega))
              replace hyy : (Instr.yield l #[.agg #[.int .u8 2, .int .i64 k, eB (lettE j)]]).run Tryd.prog wr = .ok (.round l fn tmps assign body) wr := hyy
              rw [← preD_succ s k j] at hR
              have Hj := Lib.hid hj4
              clear hj hj4 hJ hJ2 hRC2
              generalize lettE j = lj at *
              gi_wp2_with fail
              refine (roundIn_room rfl hR).mono ?_
              rintro e W3 (⟨rfl, hJ3, hK3, hF3⟩ | ⟨rfl, hS3⟩)
              case inr =>
                gi_wp2_with fail
                refine bodyPost_ret (results_none rfl _ _ _) rfl ?_
                exact .inl ⟨_, rfl, hS3⟩
              have hRC3 := hRC.trans hK3
              clear hR hyy hK3 hF3 hRC
              gi_wp2_with fail
              go_roundw
              case rel => exact ⟨j + 1, Hj.out, by go_num, hJ3, hRC3⟩
              case measure => have := Hj.out; simp [intOf]; omega
            · obtain rfl : j = 4 := by omega
              rw [preD_four] at hJ
              clear hj hj4 hJ2 hRC2
              gi_wp2_with fail
              go_roundw
              case rel => exact ⟨k + 1, Hlt.out, by go_num, hJ, hRC⟩
              case measure => have := Hlt.out; simp [intOf]; omega
        · obtain rfl : k = s.length + 1 := by omega
          have hpd : decide (((s.length + 1 : Nat) : Int) < (s.length : Int) + 1) = false := decide_eq_false (by omega)
          rw [← edG_is] at hJ
          clear hk hlt
          gi_wp2_with fail
          go_end0
          exact .inr (.inl ⟨trivial, ⟨_, rfl⟩, hJ⟩)
end Go.Proofs.YtapbfjbjbcpiiaaDoor
