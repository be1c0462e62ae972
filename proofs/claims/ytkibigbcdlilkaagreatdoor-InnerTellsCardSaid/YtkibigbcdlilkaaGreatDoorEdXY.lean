import Derived.LoopIn
import Derived.Test.YtkibigbcdlilkaaGreatDoorEdHY
import Derived.Test.YtkibigbcdlilkaaGreatDoorGBY
import Derived.Test.YtkibigbcdlilkaaGreatDoorRXY
namespace Go.Proofs.YtkibigbcdlilkaaGreatDoor.Ed
open Go.RowKit Go.Shelf
attribute [local go_sem] Oper.semAt_some run_store_func
set_option maxRecDepth 100000 in
theorem Apply_e0 (k : UInt8) (hk : k ≠ 2) (z : Int) (b : UInt8) (A : Option Addr) (c : Nat) (w : World) :
    Calls Tryz.prog 31 #[.slice A 0 c, eE k z b] w fun e w' => ∃ u, e = .returned u ∧ Own8 w.heap.size w' u [] ∧ Below w.heap.size w w' := by
  have hcl : (eE k z b).cells = cE k z b := rfl
  have g1 : ((k.toNat : Int) == 2) = false := by
   rw [beq_eq_false_iff_ne]
   intro e
   exact hk (UInt8.toNat_inj.1 (show k.toNat = 2 by omega))
  have hb1 := Boxed.new w 22 (.slice A 0 c)
  have hA1 := below_alloc w (.cells #[.slice A 0 c] 22)
  have hr2 := Rowed.new (w.alloc (.cells #[.slice A 0 c] 22)) 28 (cE k z b)
  have hA2 := below_trans hA1 (below_alloc (w.alloc (.cells #[.slice A 0 c] 22)) (.cells (cE k z b) 28))
  rw [World.size_alloc] at hr2
  have hb1 := hb1.alloc (.cells (cE k z b) 28)
  go_enter Tryz.func31, Tryz.ntmps31
  go_upto_region 1 with fail
  generalize (w.alloc (.cells #[.slice A 0 c] 22)).alloc (.cells (cE k z b) 28) = w0 at *
  have q1 := hb1.cell
  have q2 := hr2.cell 0
  go_wp2_with fail
  go_ret
  exact ⟨_, rfl, ⟨rfl, .inl ⟨rfl, rfl⟩⟩, hA2⟩
set_option maxRecDepth 100000 in
set_option maxHeartbeats 4000000 in
theorem Apply_e2 (z : Int) (b : UInt8) (A : Option Addr) (c : Nat) (w : World) :
    Calls Tryz.prog 31 #[.slice A 0 c, .agg #[.int .u8 2, .int .i64 z, eB b]] w fun e w' => ∃ u, e = .returned u ∧ Own8 w.heap.size w' u [b] ∧ Below w.heap.size w w' := by
  have hmf : ∀ (fn : Fn) (first cap : Array Value) (w : World), (Instr.makeFunc fn first cap).run Tryz.prog w = .ok (.func fn first cap) w := fun _ _ _ _ => rfl
  have hcl : (Value.agg #[.int .u8 2, .int .i64 z, eB b]).cells = #[.int .u8 2, .int .i64 z, eB b] := rfl
  obtain ⟨hpl, hat⟩ := pl_is z 1 (by omega) (by omega)
  have hp0 : plG z 1 = 0 := by omega
  rw [hp0] at hat
  have hrs := fun w => erest_any z 1 0 (by omega) hat w
  clear hpl hat hp0
  have hb1 := Boxed.new w 22 (.slice A 0 c)
  have hA1 := below_alloc w (.cells #[(.slice A 0 c)] 22)
  have hr2 := Rowed.new (w.alloc (.cells #[(.slice A 0 c)] 22)) 28 #[.int .u8 2, .int .i64 z, eB b]
  have hA2 := below_trans hA1 (below_alloc (w.alloc (.cells #[(.slice A 0 c)] 22)) (.cells #[.int .u8 2, .int .i64 z, eB b] 28))
  rw [World.size_alloc] at hr2
  have hb1 := hb1.alloc (.cells #[.int .u8 2, .int .i64 z, eB b] 28)
  go_enter Tryz.func31, Tryz.ntmps31
  go_upto_region 1 with fail
  generalize (w.alloc (.cells #[(.slice A 0 c)] 22)).alloc (.cells #[.int .u8 2, .int .i64 z, eB b] 28) = w0 at *
  have q1 := hb1.cell
  have q2 := hr2.cell 0
  have q3 := hr2.cell 1
  have lx := hb1.lt
  have lr := hr2.lt
  go_wp2_with fail
  go_at_call 49
  refine (hrs _).mono ?_
  rintro e w' ⟨rfl, rfl⟩
  have hr3 := Rowed.new w0 3 #[.int .i64 0]
  have hB3 := below_alloc w0 (.cells #[.int .i64 0] 3)
  have hr4 := Rowed.new (w0.alloc (.cells #[.int .i64 0] 3)) 78 #[.func (.func 50) #[] #[.pointer (some ⟨w.heap.size, 0, none⟩)], .func (.func 51) #[] #[.pointer (some ⟨w.heap.size, 0, none⟩), .pointer (some ⟨w0.heap.size, 0, none⟩)], .func (.func 53) #[] #[.pointer (some ⟨w.heap.size, 0, none⟩), .pointer (some ⟨w0.heap.size, 0, none⟩), .pointer (some ⟨w.heap.size + 1, 0, none⟩)], .func (.func 54) #[] #[.pointer (some ⟨w.heap.size, 0, none⟩), .pointer (some ⟨w0.heap.size, 0, none⟩), .pointer (some ⟨w.heap.size + 1, 0, none⟩)]]
  have hB4 := below_alloc (w0.alloc (.cells #[.int .i64 0] 3)) (.cells #[.func (.func 50) #[] #[.pointer (some ⟨w.heap.size, 0, none⟩)], .func (.func 51) #[] #[.pointer (some ⟨w.heap.size, 0, none⟩), .pointer (some ⟨w0.heap.size, 0, none⟩)], .func (.func 53) #[] #[.pointer (some ⟨w.heap.size, 0, none⟩), .pointer (some ⟨w0.heap.size, 0, none⟩), .pointer (some ⟨w.heap.size + 1, 0, none⟩)], .func (.func 54) #[] #[.pointer (some ⟨w.heap.size, 0, none⟩), .pointer (some ⟨w0.heap.size, 0, none⟩), .pointer (some ⟨w.heap.size + 1, 0, none⟩)]] 78)
  have hB34 := below_trans hB3 hB4
  have c1 := (hb1.alloc (.cells #[.int .i64 0] 3)).alloc (.cells #[.func (.func 50) #[] #[.pointer (some ⟨w.heap.size, 0, none⟩)], .func (.func 51) #[] #[.pointer (some ⟨w.heap.size, 0, none⟩), .pointer (some ⟨w0.heap.size, 0, none⟩)], .func (.func 53) #[] #[.pointer (some ⟨w.heap.size, 0, none⟩), .pointer (some ⟨w0.heap.size, 0, none⟩), .pointer (some ⟨w.heap.size + 1, 0, none⟩)], .func (.func 54) #[] #[.pointer (some ⟨w.heap.size, 0, none⟩), .pointer (some ⟨w0.heap.size, 0, none⟩), .pointer (some ⟨w.heap.size + 1, 0, none⟩)]] 78) |>.cell
  have c2 := (hr3.below hB4 hr3.lt).cell 0
  have c0 := (hr2.below hB34 lr).cell 0
  have c3 := (hr2.below hB34 lr).cell 2
  rw [World.size_alloc] at hr4
  have c7 := hr4.cell 2
  have hBB := below_trans hA2 hB34
  go_upto_region 8 with fail
  generalize (w0.alloc (.cells #[.int .i64 0] 3)).alloc (.cells #[.func (.func 50) #[] #[.pointer (some ⟨w.heap.size, 0, none⟩)], .func (.func 51) #[] #[.pointer (some ⟨w.heap.size, 0, none⟩), .pointer (some ⟨w0.heap.size, 0, none⟩)], .func (.func 53) #[] #[.pointer (some ⟨w.heap.size, 0, none⟩), .pointer (some ⟨w0.heap.size, 0, none⟩), .pointer (some ⟨w.heap.size + 1, 0, none⟩)], .func (.func 54) #[] #[.pointer (some ⟨w.heap.size, 0, none⟩), .pointer (some ⟨w0.heap.size, 0, none⟩), .pointer (some ⟨w.heap.size + 1, 0, none⟩)]] 78) = w6 at *
  have hCC := deed_moreE b A c w.heap.size w0.heap.size (w.heap.size + 1) w6 c1 c2 c3
  clear hrs q1 q2 q3 hr2 hr3 hr4 hB3 hB4 hB34 hb1 hA1 hA2
  go_wp2_with fail
  go_at_call 53
  refine hCC.mono ?_
  rintro e w7 ⟨u, rfl, hu, hB7⟩
  go_wp2_with fail
  go_ret
  exact ⟨u, rfl, own_mono8 hu hBB.size, below_trans hBB hB7⟩
theorem u8_cases (k : UInt8) : k = 0 ∨ k = 1 ∨ k = 2 ∨ k = 3 ∨ (4 ≤ k.toNat ∧ k ≠ 1 ∧ k ≠ 2 ∧ k ≠ 3) := by
 have e : ∀ c : UInt8, k.toNat = c.toNat → k = c := fun c h => UInt8.toNat_inj.1 h
 by_cases h0 : k.toNat = 0
 · exact .inl (e 0 h0)
 · by_cases h1 : k.toNat = 1
   · exact .inr (.inl (e 1 h1))
   · by_cases h2 : k.toNat = 2
     · exact .inr (.inr (.inl (e 2 h2)))
     · by_cases h3 : k.toNat = 3
       · exact .inr (.inr (.inr (.inl (e 3 h3))))
       · exact .inr (.inr (.inr (.inr ⟨by omega, by rintro rfl; exact h1 rfl, by rintro rfl; exact h2 rfl, by rintro rfl; exact h3 rfl⟩)))
theorem Apply_any (v : Value) (x : List UInt8) (k : UInt8) (z : Int) (b : UInt8) (hl : x.length ≤ 400) (w : World) (hS : Sl eB w.heap.size w v x) :
    Calls Tryz.prog 31 #[v, eE k z b] w fun e w' => ∃ u, e = .returned u ∧ Own8 w.heap.size w' u (apG x k z b) ∧ Below w.heap.size w w' := by
  by_cases h0 : 0 < x.length
  · obtain ⟨A, c, rfl, -, hcs⟩ := id hS
    obtain ⟨bk, off, rfl, -⟩ := hcs h0
    have hx : ¬ x.length = 0 := by omega
    rcases u8_cases k with rfl | rfl | rfl | rfl | ⟨h4, n1, n2, n3⟩
    · exact Apply_ne0 x z b bk off c h0 hl w hS
    · have := Apply_ne1 x z b bk off c h0 hl w hS
      have e : apG x 1 z b = x.take (plG z x.length) ++ x.drop (plG z x.length + 1) := by unfold apG; rw [if_pos rfl, if_neg hx]
      rw [e]; exact this
    · exact Apply_ne2 x z b bk off c h0 hl w hS
    · have := Apply_ne3 x z b bk off c h0 hl w hS
      have e : apG x 3 z b = x.take (plG z x.length) ++ b :: x.drop (plG z x.length + 1) := by unfold apG; rw [if_neg (by decide), if_neg (by decide), if_pos rfl, if_neg hx]
      rw [e]; exact this
    · have := Apply_nek x k h4 z b bk off c h0 hl w hS
      have e : apG x k z b = x := by unfold apG; rw [if_neg n1, if_neg n2, if_neg n3]
      rw [e]; exact this
  · obtain rfl : x = [] := List.eq_nil_of_length_eq_zero (by omega)
    obtain ⟨A, c, rfl⟩ := hS.len
    by_cases hk : k = 2
    · subst hk
      have e : apG [] 2 z b = [b] := by unfold apG; simp
      rw [e]; exact Apply_e2 z b A c w
    · have e : apG [] k z b = [] := by
        unfold apG
        rw [if_neg hk]
        simp
      rw [e]; exact Apply_e0 k hk z b A c w
end Go.Proofs.YtkibigbcdlilkaaGreatDoor.Ed
namespace Go.Proofs.YtkibigbcdlilkaaGreatDoor.Ed
open Go.RowKit Go.Shelf
attribute [local go_sem] Oper.semAt_some run_store_func
structure Edt where
  k : UInt8
  z : Int
  b : UInt8
def encE (x : Edt) : Array Value := #[eE x.k x.z x.b]
def lettE (j : Nat) : UInt8 := if j = 0 then 65 else if j = 1 then 67 else if j = 2 then 71 else 84
def swE (c : UInt8) (at_ : Nat) (j : Nat) : List Edt := ((List.range j).filter fun i => lettE i != c).map fun i => ⟨3, at_, lettE i⟩
def moE (at_ : Nat) (j : Nat) : List Edt := (List.range j).map fun i => ⟨2, at_, lettE i⟩
def upS (s : List UInt8) (k : Nat) : List Edt := (List.range k).flatMap fun (at_ : Nat) => ⟨1, (at_ : Int), 0⟩ :: swE (s.getD at_ 0) at_ 4
def upM (k : Nat) : List Edt := (List.range k).flatMap fun (at_ : Nat) => moE at_ 4
def edG (s : List UInt8) : List Edt := ⟨0, 0, 0⟩ :: (upS s s.length ++ upM (s.length + 1))
theorem swE_succ (c : UInt8) (a j : Nat) : swE c a (j + 1) = if lettE j != c then swE c a j ++ [⟨3, a, lettE j⟩] else swE c a j := by
 unfold swE
 rw [List.range_succ, List.filter_append, List.map_append]
 by_cases h : (lettE j != c) = true
 · rw [if_pos h]; simp [h]
 · rw [if_neg h]; simp [h]
theorem moE_succ (a j : Nat) : moE a (j + 1) = moE a j ++ [⟨2, a, lettE j⟩] := by
 unfold moE
 rw [List.range_succ, List.map_append]; rfl
theorem upS_succ (s : List UInt8) (k : Nat) : upS s (k + 1) = upS s k ++ (⟨1, k, 0⟩ :: swE (s.getD k 0) k 4) := by
 unfold upS
 rw [List.range_succ, List.flatMap_append]; simp
theorem upM_succ (k : Nat) : upM (k + 1) = upM k ++ moE k 4 := by
 unfold upM
 rw [List.range_succ, List.flatMap_append]; simp
theorem upS_pre (s : List UInt8) (k n : Nat) (h : k ≤ n) : upS s k <+: upS s n := by
 induction n with
 | zero => obtain rfl : k = 0 := by omega
           exact List.prefix_rfl
 | succ n ih =>
   by_cases e : k = n + 1
   · subst e; exact List.prefix_rfl
   · rw [upS_succ]
     exact (ih (by omega)).trans (List.prefix_append _ _)
theorem upM_pre (k n : Nat) (h : k ≤ n) : upM k <+: upM n := by
 induction n with
 | zero => obtain rfl : k = 0 := by omega
           exact List.prefix_rfl
 | succ n ih =>
   by_cases e : k = n + 1
   · subst e; exact List.prefix_rfl
   · rw [upM_succ]
     exact (ih (by omega)).trans (List.prefix_append _ _)
theorem swE_pre (c : UInt8) (a j m : Nat) (h : j ≤ m) : swE c a j <+: swE c a m := by
 induction m with
 | zero => obtain rfl : j = 0 := by omega
           exact List.prefix_rfl
 | succ m ih =>
   by_cases e : j = m + 1
   · subst e; exact List.prefix_rfl
   · rw [swE_succ]
     split
     · exact (ih (by omega)).trans (List.prefix_append _ _)
     · exact ih (by omega)
theorem moE_pre (a j m : Nat) (h : j ≤ m) : moE a j <+: moE a m := by
 induction m with
 | zero => obtain rfl : j = 0 := by omega
           exact List.prefix_rfl
 | succ m ih =>
   by_cases e : j = m + 1
   · subst e; exact List.prefix_rfl
   · rw [moE_succ]
     exact (ih (by omega)).trans (List.prefix_append _ _)
def preA (s : List UInt8) (k : Nat) : List Edt := ⟨0, 0, 0⟩ :: upS s k
def preB (s : List UInt8) (k j : Nat) : List Edt := preA s k ++ (⟨1, k, 0⟩ :: swE (s.getD k 0) k j)
def preC (s : List UInt8) (k : Nat) : List Edt := preA s s.length ++ upM k
def preD (s : List UInt8) (k j : Nat) : List Edt := preC s k ++ moE k j
theorem edG_is (s : List UInt8) : edG s = preC s (s.length + 1) := rfl
theorem preA_all (s : List UInt8) (k : Nat) (h : k ≤ s.length) : preA s k <+: edG s := by
 have : preA s k <+: preA s s.length := by unfold preA; exact (List.cons_prefix_cons).2 ⟨rfl, upS_pre s k _ h⟩
 exact this.trans (List.prefix_append _ _)
theorem preB_all (s : List UInt8) (k j : Nat) (h : k < s.length) (hj : j ≤ 4) : preB s k j <+: edG s := by
 have h1 : preB s k j <+: preA s (k + 1) := by
  unfold preB preA
  rw [upS_succ]
  show _ <+: ⟨0, 0, 0⟩ :: (upS s k ++ _)
  rw [List.cons_append]
  refine (List.cons_prefix_cons).2 ⟨rfl, (List.prefix_append_right_inj _).2 ((List.cons_prefix_cons).2 ⟨rfl, swE_pre _ _ _ _ hj⟩)⟩
 exact h1.trans (preA_all s (k + 1) h)
theorem preD_all (s : List UInt8) (k j : Nat) (h : k ≤ s.length) (hj : j ≤ 4) : preD s k j <+: edG s := by
 have h1 : preD s k j <+: preC s (k + 1) := by
  unfold preD preC
  rw [upM_succ, ← List.append_assoc]
  exact (List.prefix_append_right_inj _).2 (moE_pre _ _ _ hj)
 refine h1.trans ?_
 rw [edG_is]
 exact (List.prefix_append_right_inj _).2 (upM_pre _ _ (by omega))
theorem preB_succ (s : List UInt8) (k j : Nat) (h : (lettE j != s.getD k 0) = true) : preB s k (j + 1) = preB s k j ++ [⟨3, k, lettE j⟩] := by
 unfold preB
 rw [swE_succ, if_pos h]; simp
theorem preB_same (s : List UInt8) (k j : Nat) (h : (lettE j != s.getD k 0) = false) : preB s k (j + 1) = preB s k j := by
 unfold preB
 rw [swE_succ, h]; simp
theorem preB_zero (s : List UInt8) (k : Nat) : preB s k 0 = preA s k ++ [⟨1, k, 0⟩] := by unfold preB swE; simp
theorem preB_four (s : List UInt8) (k : Nat) : preB s k 4 = preA s (k + 1) := by unfold preB preA; rw [upS_succ]; simp
theorem preD_succ (s : List UInt8) (k j : Nat) : preD s k (j + 1) = preD s k j ++ [⟨2, k, lettE j⟩] := by unfold preD; rw [moE_succ]; simp
theorem preD_zero (s : List UInt8) (k : Nat) : preD s k 0 = preC s k := by unfold preD moE; simp
theorem preD_four (s : List UInt8) (k : Nat) : preD s k 4 = preC s (k + 1) := by unfold preD preC; rw [upM_succ]; simp
theorem preA_zero (s : List UInt8) : preA s 0 = [⟨0, 0, 0⟩] := rfl
theorem preC_zero (s : List UInt8) : preC s 0 = preA s s.length := by unfold preC upM; simp
def TabE (w : World) : Prop := ∃ t fr, w.heap[0]? = some (.cells #[.int .u8 65, .int .u8 67, .int .u8 71, .int .u8 84] t fr)
theorem TabE.lt {w : World} (h : TabE w) : 0 < w.heap.size := by
 obtain ⟨_, _, h⟩ := h
 exact (Array.getElem?_eq_some_iff.1 h).1
theorem TabE.below {w w' : World} (h : TabE w) (hb : Below w.heap.size w w') : TabE w' := by
 obtain ⟨t, fr, h'⟩ := h
 exact ⟨t, fr, (hb.block _ (TabE.lt ⟨t, fr, h'⟩)).trans h'⟩
theorem bl_cell {w0 W : World} {p : Addr} {v : Value} (h : Below w0.heap.size w0 W) (hc : w0.cell? p = some v) : W.cell? p = some v := (h.cell (World.block_lt_of_cell? _ _ hc)).trans hc
theorem sizeE4 : (Tryz.prog.info? 93).map (·.size) = some 4 := by kernel_rfl
theorem lettE_at (j : Nat) (hj : j < 4) (w : World) : (Instr.index 93 (.agg #[.int .u8 65, .int .u8 67, .int .u8 71, .int .u8 84]) (.int .i64 (j : Nat))).run Tryz.prog w = .ok (eB (lettE j)) w := by
 rcases (show j = 0 ∨ j = 1 ∨ j = 2 ∨ j = 3 by omega) with rfl | rfl | rfl | rfl <;> kernel_rfl
set_option maxRecDepth 100000 in
set_option maxHeartbeats 4000000 in
theorem each_seq (b1 : Nat) (A : Option Addr) (cap : Nat) (s : List UInt8) (h9 : s.length ≤ 1000) (w0 : World) (k1 : w0.cell? ⟨b1, 0, none⟩ = some (.slice A s.length cap)) (hSl : Sl eB w0.heap.size w0 (.slice A s.length cap) s) (hT : TabE w0) :
    SeqX Fence.wide Tryz.prog 78 #[.pointer (some ⟨b1, 0, none⟩)] encE (Below w0.heap.size) (edG s) none w0 := by
  intro l J JS W hW _ hY h0
  have hRC := hW
  have hbd0 : ∀ w, (Instr.build 28 #[(0, .int .u8 0)]).run Tryz.prog w = .ok (eE 0 0 0) w := fun _ => by kernel_rfl
  have hbd1 : ∀ (z : Int) w, (Instr.build 28 #[(0, .int .u8 1), (1, .int .i64 z)]).run Tryz.prog w = .ok (eE 1 z 0) w := fun _ _ => by kernel_rfl
  have hbd2 : ∀ (z : Int) (b : UInt8) w, (Instr.build 28 #[(0, .int .u8 2), (1, .int .i64 z), (2, eB b)]).run Tryz.prog w = .ok (eE 2 z b) w := fun _ _ _ => by kernel_rfl
  have hbd3 : ∀ (z : Int) (b : UInt8) w, (Instr.build 28 #[(0, .int .u8 3), (1, .int .i64 z), (2, eB b)]).run Tryz.prog w = .ok (eE 3 z b) w := fun _ _ _ => by kernel_rfl
  have H9 := Lib.hid h9
  clear h9
  obtain ⟨fn, tmps, assign, body, hyy, hR⟩ := hY [] ⟨0, 0, 0⟩ W h0 (by rw [List.nil_append, ← preA_zero s]; exact preA_all s 0 (Nat.zero_le _))
  replace hyy : (Instr.yield l #[.agg #[.int .u8 0, .int .i64 0, .int .u8 0]]).run Tryz.prog W = .ok (.round l fn tmps assign body) W := hyy
  rw [List.nil_append, ← preA_zero s] at hR
  refine callsIn_of_wp Tryz.func78 rfl trivial ?_ rfl
  simp only [Tryz.ntmps78, List.size_toArray, List.length_cons, List.length_nil, Nat.reduceAdd, Nat.reduceSub, Array.replicate_succ, Array.replicate_zero, List.push_toArray, List.append_toArray, List.nil_append, List.cons_append]
  gi_wp2_with fail
  refine (roundIn_room rfl hR).mono ?_
  rintro e W1 (⟨rfl, hJ1, hK1, hF1⟩ | ⟨rfl, hS1⟩)
  case inr =>
   gi_wp2_with fail
   refine bodyPost_ret (results_none rfl _ _ _) rfl ?_
   exact .inl ⟨_, rfl, hS1⟩
  have hRC1 := hRC.trans hK1
  have c1 := bl_cell hRC1 k1
  clear hR hyy hK1 hF1 h0
  gi_wp2_with fail
  gi_loopw [16] (fun i wr => ∃ k : Nat, k ≤ s.length ∧ i = .int .i64 k ∧ J (preA s k) wr ∧ Below w0.heap.size w0 wr) (fun i _ => s.length - (intOf i).toNat)
  case atStart =>
   exact ⟨0, by omega, rfl, hJ1, hRC1⟩
  case round =>
   obtain ⟨k, hk, rfl, hJ, hRC⟩ := hrel
   by_cases hlt : k < s.length
   · have hpi : (k : Int) < (s.length : Int) := by omega
     have hpd : decide ((k : Int) < (s.length : Int)) = true := decide_eq_true hpi
     obtain ⟨bk, off, rfl, hcl⟩ := letters_at hSl hlt
     have hc2 := bl_cell hRC hcl
     have hk9 : k ≤ 1000 := by have := H9.out; omega
     have hwk := w_succ k hk9
     have hwk' := i_succ k hk9
     clear hk9
     have hgd : s.getD k 0 = s[k] := by simp [List.getD, hlt]
     generalize s[k] = ck at hcl hc2 hgd
     obtain ⟨fn, tmps, assign, body, hyy, hR⟩ := hY (preA s k) ⟨1, k, 0⟩ wr hJ (by rw [← preB_zero]; exact preB_all s k 0 hlt (by omega))
     replace hyy : (Instr.yield l #[.agg #[.int .u8 1, .int .i64 k, .int .u8 0]]).run Tryz.prog wr = .ok (.round l fn tmps assign body) wr := hyy
     rw [← preB_zero] at hR
     have Hlt := Lib.hid hlt
     clear hlt hk hJ hJ1 hRC1 c1
     gi_wp2_with fail
     refine (roundIn_room rfl hR).mono ?_
     rintro e W2 (⟨rfl, hJ2, hK2, hF2⟩ | ⟨rfl, hS2⟩)
     case inr =>
      gi_wp2_with fail
      refine bodyPost_ret (results_none rfl _ _ _) rfl ?_
      exact .inl ⟨_, rfl, hS2⟩
     have hRC2 := hRC.trans hK2
     obtain ⟨tt, ff, ht⟩ := hT.below hRC2
     clear hR hyy hK2 hF2 hRC hc2
     gi_wp2_with (refine wpListIn_load_row rfl 93 (.global 0) rfl 0 rfl _ _ _ _ ht Tryz.underlying93 rfl sizeE4 ?_)
     clear ht
     gi_loopw [27] (fun i wr => ∃ j : Nat, j ≤ 4 ∧ i = .int .i64 j ∧ J (preB s k j) wr ∧ Below w0.heap.size w0 wr) (fun i _ => 4 - (intOf i).toNat)
     case atStart => exact ⟨0, by omega, rfl, hJ2, hRC2⟩
     case round =>
      obtain ⟨j, hj, rfl, hJ, hRC⟩ := hrel
      by_cases hj4 : j < 4
      · have dj : decide ((j : Int) < 4) = true := decide_eq_true (by omega)
        have hat := lettE_at j hj4
        have hwj := w_succ j (by omega)
        have hwj' := i_succ j (by omega)
        cases hne : lettE j != ck with
        | true =>
          have hnb : (((lettE j).toNat : Int) != (ck.toNat : Int)) = true := by
           rw [bne_iff_ne] at hne ⊢
           exact fun h => hne (UInt8.toNat_inj.1 (Int.ofNat_inj.1 h))
          obtain ⟨fn, tmps, assign, body, hyy, hR⟩ := hY (preB s k j) ⟨3, k, lettE j⟩ wr hJ (by rw [← preB_succ s k j (by rw [hgd]; exact hne)]; exact preB_all s k (j + 1) Hlt.out (by omega))
          replace hyy : (Instr.yield l #[.agg #[.int .u8 3, .int .i64 k, eB (lettE j)]]).run Tryz.prog wr = .ok (.round l fn tmps assign body) wr := hyy
          rw [← preB_succ s k j (by rw [hgd]; exact hne)] at hR
          have Hj := Lib.hid hj4
          clear hne hj hj4 hJ hJ2 hRC2
          generalize lettE j = lj at *
          gi_wp2_with fail
          refine (roundIn_room rfl hR).mono ?_
          rintro e W3 (⟨rfl, hJ3, hK3, hF3⟩ | ⟨rfl, hS3⟩)
          case inr =>
           gi_wp2_with fail
           refine bodyPost_ret (results_none rfl _ _ _) rfl ?_
           exact .inl ⟨_, rfl, hS3⟩
          have hRC3 := hRC.trans hK3
          clear hR hyy hK3 hF3 hRC
          gi_wp2_with fail
          go_roundw
          case rel => exact ⟨j + 1, Hj.out, by go_num, hJ3, hRC3⟩
          case measure => have := Hj.out; simp [intOf]; omega
        | false =>
          have hnb : (((lettE j).toNat : Int) != (ck.toNat : Int)) = false := by
           rw [bne_eq_false_iff_eq] at hne ⊢
           rw [hne]
          have Hs := Lib.hid (preB_same s k j (by rw [hgd]; exact hne))
          have Hj := Lib.hid hj4
          clear hne hj hj4 hJ2 hRC2
          generalize lettE j = lj at *
          gi_wp2_with fail
          repeat (refine ⟨fun f hf => (by cases hf), ?_⟩; gi_wp2_with fail)
          go_roundw
          case rel => exact ⟨j + 1, Hj.out, by go_num, by rw [Hs.out]; exact hJ, hRC⟩
          case measure => have := Hj.out; simp [intOf]; omega
      · obtain rfl : j = 4 := by omega
        rw [preB_four] at hJ
        clear hj hj4 hJ2 hRC2
        gi_wp2_with fail
        go_roundw
        case rel => exact ⟨k + 1, Hlt.out, by go_num, hJ, hRC⟩
        case measure => have := Hlt.out; simp [intOf]; omega
   · obtain rfl : k = s.length := by omega
     have hpd : decide ((s.length : Int) < (s.length : Int)) = false := decide_eq_false (by omega)
     have c1 := bl_cell hRC k1
     have hw1 := w_succ s.length H9.out
     have hw2 := i_succ s.length H9.out
     rw [← preC_zero] at hJ
     have Hk9 := Lib.hid (show s.length + 1 ≤ 100000 by have := H9.out; omega)
     clear hk hlt hJ1 hRC1
     gi_wp2_with fail
     gi_loopw [46] (fun i wr => ∃ k : Nat, k ≤ s.length + 1 ∧ i = .int .i64 k ∧ J (preC s k) wr ∧ Below w0.heap.size w0 wr) (fun i _ => s.length + 1 - (intOf i).toNat)
     case atStart => exact ⟨0, by omega, rfl, hJ, hRC⟩
     case round =>
      obtain ⟨k, hk, rfl, hJ, hRC⟩ := hrel
      by_cases hlt : k < s.length + 1
      · have hpi : (k : Int) < (s.length : Int) + 1 := by omega
        have hpd : decide ((k : Int) < (s.length : Int) + 1) = true := decide_eq_true hpi
        have hk9 : k ≤ 1000 := by have := H9.out; omega
        have hwk := w_succ k hk9
        have hwk' := i_succ k hk9
        have Hlt := Lib.hid hlt
        obtain ⟨tt, ff, ht⟩ := hT.below hRC
        have hJ2 := hJ
        rw [← preD_zero] at hJ2
        have hRC2 := hRC
        clear hlt hk hJ hRC hk9
        gi_wp2_with (refine wpListIn_load_row rfl 93 (.global 0) rfl 0 rfl _ _ _ _ ht Tryz.underlying93 rfl sizeE4 ?_)
        clear ht
        gi_loopw [50] (fun i wr => ∃ j : Nat, j ≤ 4 ∧ i = .int .i64 j ∧ J (preD s k j) wr ∧ Below w0.heap.size w0 wr) (fun i _ => 4 - (intOf i).toNat)
        case atStart => exact ⟨0, by omega, rfl, hJ2, hRC2⟩
        case round =>
         obtain ⟨j, hj, rfl, hJ, hRC⟩ := hrel
         by_cases hj4 : j < 4
         · have dj : decide ((j : Int) < 4) = true := decide_eq_true (by omega)
           have hat := lettE_at j hj4
           have hwj := w_succ j (by omega)
           have hwj' := i_succ j (by omega)
           obtain ⟨fn, tmps, assign, body, hyy, hR⟩ := hY (preD s k j) ⟨2, k, lettE j⟩ wr hJ (by rw [← preD_succ s k j]; exact preD_all s k (j + 1) (Nat.le_of_lt_succ Hlt.out) (by omega))
           replace hyy : (Instr.yield l #[.agg #[.int .u8 2, .int .i64 k, eB (lettE j)]]).run Tryz.prog wr = .ok (.round l fn tmps assign body) wr := hyy
           rw [← preD_succ s k j] at hR
           have Hj := Lib.hid hj4
           clear hj hj4 hJ hJ2 hRC2
           generalize lettE j = lj at *
           gi_wp2_with fail
           refine (roundIn_room rfl hR).mono ?_
           rintro e W3 (⟨rfl, hJ3, hK3, hF3⟩ | ⟨rfl, hS3⟩)
           case inr =>
            gi_wp2_with fail
            refine bodyPost_ret (results_none rfl _ _ _) rfl ?_
            exact .inl ⟨_, rfl, hS3⟩
           have hRC3 := hRC.trans hK3
           clear hR hyy hK3 hF3 hRC
           gi_wp2_with fail
           go_roundw
           case rel => exact ⟨j + 1, Hj.out, by go_num, hJ3, hRC3⟩
           case measure => have := Hj.out; simp [intOf]; omega
         · obtain rfl : j = 4 := by omega
           rw [preD_four] at hJ
           clear hj hj4 hJ2 hRC2
           gi_wp2_with fail
           go_roundw
           case rel => exact ⟨k + 1, Hlt.out, by go_num, hJ, hRC⟩
           case measure => have := Hlt.out; simp [intOf]; omega
      · obtain rfl : k = s.length + 1 := by omega
        have hpd : decide (((s.length + 1 : Nat) : Int) < (s.length : Int) + 1) = false := decide_eq_false (by omega)
        rw [← edG_is] at hJ
        clear hk hlt
        gi_wp2_with fail
        go_end0
        exact .inr (.inl ⟨trivial, ⟨_, rfl⟩, hJ⟩)
end Go.Proofs.YtkibigbcdlilkaaGreatDoor.Ed
namespace Go.Proofs.YtkibigbcdlilkaaGreatDoor.Ed
open Go.RowKit Go.Shelf
attribute [local go_sem] Oper.semAt_some run_store_func
def flatG (l : List Edt) : List Value := l.flatMap fun x => [eB x.k, .int .i64 x.z, eB x.b]
theorem flatG_snoc (l : List Edt) (x : Edt) : flatG (l ++ [x]) = flatG l ++ [eB x.k, .int .i64 x.z, eB x.b] := by simp [flatG]
theorem flatG_at (l : List Edt) (i : Nat) (x : Edt) (h : l[i]? = some x) : (flatG l)[i * 3]? = some (eB x.k) ∧ (flatG l)[i * 3 + 1]? = some (.int .i64 x.z) ∧ (flatG l)[i * 3 + 2]? = some (eB x.b) := by
 induction l generalizing i with
 | nil => simp at h
 | cons a l ih =>
   have e : flatG (a :: l) = [eB a.k, .int .i64 a.z, eB a.b] ++ flatG l := rfl
   rcases i with _ | i
   · simp at h
     subst h
     simp [flatG]
   · have := ih i (by simpa using h)
     have hl : ([eB a.k, Value.int .i64 a.z, eB a.b] : List Value).length = 3 := rfl
     refine ⟨?_, ?_, ?_⟩
     · rw [e, List.getElem?_append_right (by rw [hl]; omega), hl, show (i + 1) * 3 - 3 = i * 3 by omega]
       exact this.1
     · rw [e, List.getElem?_append_right (by rw [hl]; omega), hl, show (i + 1) * 3 + 1 - 3 = i * 3 + 1 by omega]
       exact this.2.1
     · rw [e, List.getElem?_append_right (by rw [hl]; omega), hl, show (i + 1) * 3 + 2 - 3 = i * 3 + 2 by omega]
       exact this.2.2
theorem info_edt : (Tryz.prog.info? 28).map (fun i => (i.zero, i.size, i.bytes)) = some (some (.agg #[.int .u8 0, .int .i64 0, .int .u8 0]), 3, 24) := by kernel_rfl
theorem cells_edt (w : World) (a b c : Value) : ∀ j u, ([a, b, c] : List Value)[j]? = some u → (w.alloc (.cells #[a, b, c] 28)).cell? ((⟨w.heap.size, 0, none⟩ : Addr).add j) = some u := by
 intro j u h
 have := (Rowed.new w 28 #[a, b, c]).cell j
 have e : ((⟨w.heap.size, 0, none⟩ : Addr).add j) = ⟨w.heap.size, j, none⟩ := by rcases j with _ | j <;> simp [Addr.add]
 rw [e, this]
 simpa using h
theorem own_monoE {B B' : Nat} {w : World} {v : Value} {n : Nat} {xs : List Value} (h : w.ownsRow B 28 3 v n xs) (hb : B' ≤ B) : w.ownsRow B' 28 3 v n xs := by
 obtain ⟨h1, h2⟩ := h
 refine ⟨h1, ?_⟩
 rcases h2 with ⟨h3, h4⟩ | ⟨g, cap, cur, h3, h4, h5⟩
 · exact .inl ⟨h3, h4⟩
 · exact .inr ⟨g, cap, cur, h3, by omega, h5⟩
theorem below_putX {B D : Nat} (hD : B ≤ D) (W : World) (o : Obj) : Below B W (W.putObj D o) := ⟨rfl, rfl, rfl, by simp [World.putObj], fun k hk => World.putObj_heap_other (by omega)⟩
set_option maxRecDepth 100000 in
set_option maxHeartbeats 4000000 in
theorem AppendSeqE_any (gf : Nat) (lb : Array Value) (xs : List Edt) (hxs : xs.length ≤ 10000) (w : World) (hen : ∀ args w, (callFunc gf args).run Tryz.prog w = .ok (.enter gf args) w)
    (hseq : SeqX Fence.wide Tryz.prog gf lb encE (Below w.heap.size) xs none w) :
    Calls Tryz.prog 77 #[.slice none 0 0, .func (.func gf) #[] lb] w fun e w' => ∃ v, e = .returned v ∧ w'.ownsRow w.heap.size 28 3 v xs.length (flatG xs) ∧ Below w.heap.size w w' := by
 refine (callsIn_wide (n := 5)).1 ?_
 obtain ⟨i0, hi, hz0, hz1, hz2⟩ := info_parts info_edt
 refine callsIn_of_wp_marks Tryz.func77 rfl trivial ?_ rfl
 simp only [Tryz.ntmps77, List.size_toArray, List.length_cons, List.length_nil, Nat.reduceAdd, Nat.reduceSub, Array.replicate_succ, Array.replicate_zero, List.push_toArray, List.append_toArray, List.nil_append, List.cons_append]
 have hA := below_alloc w (.cells #[.slice none 0 0] 40)
 have hb0 := Boxed.new w 40 (.slice none 0 0)
 have hsz := World.size_alloc w (.cells #[.slice none 0 0] 40)
 gi_wp2_with fail
 generalize w.alloc (.cells #[.slice none 0 0] 40) = w0 at *
 obtain ⟨T, hT⟩ : ∃ T : Edt → Nat → Act, T = fun x bt => { tmps := #[.slice none 0 0, .func (.func gf) #[] lb, .pointer (some ⟨w.heap.size, 0, none⟩), undef, .slice none 0 0, .pointer (some ⟨bt, 0, none⟩), .func (.func gf) #[] lb, eE x.k x.z x.b, undef, undef, undef, undef, undef], defers := [] } := ⟨_, rfl⟩
 have HT := Lib.hid hT
 clear hT
 refine wpIn_range_X (gf := gf) (lb := lb) rfl rfl trivial rfl hen
   hseq (fun _ _ _ h k => h.trans k) (fun W' l o o' e1 e2 e3 => below_putX (Nat.le_trans hA.size e1) W' o') hA (fun _ => rfl)
   (fun (pre : List Edt) W => (∃ v, Boxed W w.heap.size 40 v ∧ W.ownsRow w.heap.size 28 3 v pre.length (flatG pre) ∧ True) ∧ Below w.heap.size w W)
   (fun _ _ => False)
   (OwnFrom.and (Own.from (holdsRow_own w.heap.size w.heap.size 40 28 3 (fun (pre : List Edt) => pre.length) (fun (pre : List Edt) => flatG pre) (fun _ _ => True)) _) (ownFrom_below (Nat.le_refl _) (by omega)))
   ⟨⟨_, hb0, ⟨rfl, .inl ⟨rfl, rfl⟩⟩, trivial⟩, hA⟩
   (fun _ _ _ _ _ hs => hs)
   (fun (x : Edt) a' W => ∃ bt, a' = T x bt ∧ Rowed W bt 28 (cE x.k x.z x.b))
   (fun x a' W l o o' ⟨bt, e1, e2⟩ hl ho => ⟨bt, e1, kc_put W l o o' hl ho bt _ e2 rfl⟩)
   (fun X Y hX h => h.mono (by omega))
   ?assign1 ?body1 ?done1 ?stop1 ?pan1
 case assign1 =>
  intro l x W K hK
  have hcx : (eE x.k x.z x.b).cells = cE x.k x.z x.b := rfl
  have hK2 := hK _ _ ⟨W.heap.size, rfl, Rowed.new W 28 (cE x.k x.z x.b)⟩ (below_alloc W _)
  rw [HT.out] at hK2
  clear hK
  unfold encE
  gi_wp2_with fail
  exact hK2
 case pan1 =>
  rintro ch D W hf
  cases hf
 case body1 =>
  rintro l pre x a' W ⟨⟨v, hv, hrow, -⟩, hB⟩ ⟨bt, rfl, hbt⟩ hpre
  rw [HT.out]
  have hlen : pre.length + 1 ≤ 10000 := by
   have := hpre.length_le
   rw [List.length_append, List.length_singleton] at this
   omega
  have hc := hv.cell
  have hf := hv.frozen
  have t0 := hbt.cell 0
  have t1 := hbt.cell 1
  have t2 := hbt.cell 2
  have hm1 : pre.length + 1 ≤ maxLen := by unfold maxLen; omega
  gi_wp2_with
    (gi_at_builtin; refine wpListIn_append_own _ rfl _ _ 40 rfl w.heap.size 28 i0 _ 3 24 Tryz.underlying40 hi hz0 hz1 hz2 (by decide) (by decide) _ _ _ rfl (hrow.alloc _) ⟨W.heap.size, 0, none⟩ 1 1 [eB x.k, .int .i64 x.z, eB x.b] rfl rfl (cells_edt _ _ _ _) (by simp [Value.oneCell']) hm1 (by omega) (by have := hB.size; simp; omega) ?_
     intro v' w2 hown' hgrow _
     obtain ⟨g', cap', rfl⟩ := ownsRow_succ hown'
     obtain ⟨hv1', hv2', hr2, hk2, hbl2⟩ := hv.appended (by decide) hrow hB.size (Nat.le_refl _) hown' hgrow
     have hc1 := hv1'.cell
     have hf1 := hv1'.frozen)
  exact ⟨hk2.from _, hbl2, ⟨_, hv2', by rw [flatG_snoc, List.length_append]; exact hr2, trivial⟩, hB.trans hbl2⟩
 case done1 =>
  rintro - D W hD ⟨⟨v, hv, hrow, -⟩, hB⟩ hK
  have hc := hv.cell
  gi_wp2
  refine ⟨by simp, .inl ⟨_, _, rfl, run_takeDeferred hK, ?_⟩⟩
  exact ⟨_, results_tmp rfl _ _ _, v, rfl, ownsRow_putObj hrow _ hK rfl, hB.trans (belowK_b (w := w) (Nat.le_refl _) _ D _ _ (by omega) hK rfl rfl)⟩
 case stop1 =>
  rintro c D W _ h _
  exact h.elim
set_option maxHeartbeats 1000000 in
theorem CollectE_any (gf : Nat) (lb : Array Value) (xs : List Edt) (hxs : xs.length ≤ 10000) (w : World) (hen : ∀ args w, (callFunc gf args).run Tryz.prog w = .ok (.enter gf args) w)
    (hseq : SeqX Fence.wide Tryz.prog gf lb encE (Below w.heap.size) xs none w) :
    Calls Tryz.prog 47 #[.func (.func gf) #[] lb] w fun e w' => ∃ v, e = .returned v ∧ w'.ownsRow w.heap.size 28 3 v xs.length (flatG xs) ∧ Below w.heap.size w w' := by
 go_enter Tryz.func47, Tryz.ntmps47
 go_wp2_with fail
 go_at_call 77
 refine (AppendSeqE_any gf lb xs hxs w hen hseq).mono ?_
 rintro e w' ⟨v, rfl, hv, hB⟩
 go_wp2
 go_ret
 exact ⟨v, rfl, hv, hB⟩
theorem each_any (A : Option Addr) (n c : Nat) (w : World) :
    Calls Tryz.prog 48 #[.slice A n c] w fun e w' => e = .returned (.func (.func 78) #[] #[.pointer (some ⟨w.heap.size, 0, none⟩)]) ∧ w' = w.alloc (.cells #[.slice A n c] 22) := by
  have hmf : ∀ (fn : Fn) (first cap : Array Value) (w : World), (Instr.makeFunc fn first cap).run Tryz.prog w = .ok (.func fn first cap) w := fun _ _ _ _ => rfl
  go_enter Tryz.func48, Tryz.ntmps48
  go_wp2_with fail
  go_ret
  exact ⟨rfl, rfl⟩
theorem edG_len (s : List UInt8) : (edG s).length ≤ 9 * s.length + 5 := by
 have h1 : ∀ k, (upS s k).length ≤ 5 * k := by
  intro k
  induction k with
  | zero => simp [upS]
  | succ k ih =>
    rw [upS_succ, List.length_append, List.length_cons]
    have : (swE (s.getD k 0) k 4).length ≤ 4 := by
     unfold swE
     rw [List.length_map]
     have := List.length_filter_le (fun i => lettE i != s.getD k 0) (List.range 4)
     simpa using this
    omega
 have h2 : ∀ k, (upM k).length = 4 * k := by
  intro k
  induction k with
  | zero => simp [upM]
  | succ k ih =>
    rw [upM_succ, List.length_append, ih]
    simp [moE]
    omega
 have := h1 s.length
 unfold edG
 rw [List.length_cons, List.length_append, h2]
 omega
set_option maxHeartbeats 1000000 in
theorem Edits_any (sv : Value) (s : List UInt8) (hl : s.length ≤ 1000) (w : World) (hS : Sl eB w.heap.size w sv s) (hT : TabE w) :
    Calls Tryz.prog 29 #[sv] w fun e w' => ∃ v, e = .returned v ∧ w'.ownsRow w.heap.size 28 3 v (edG s).length (flatG (edG s)) ∧ Below w.heap.size w w' := by
  obtain ⟨A, c, rfl⟩ := hS.len
  have hA := below_alloc w (.cells #[.slice A s.length c] 22)
  have hb := Boxed.new w 22 (.slice A s.length c)
  have hC := CollectE_any 78 #[.pointer (some ⟨w.heap.size, 0, none⟩)] (edG s) (by have := edG_len s; omega) (w.alloc (.cells #[.slice A s.length c] 22)) (enters_of Tryz.func78 (by kernel_rfl) rfl)
   (each_seq w.heap.size A c s hl _ hb.cell (hS.next hA) (hT.below hA))
  have hE := each_any A s.length c w
  clear hS hl
  go_enter Tryz.func29, Tryz.ntmps29
  go_wp2_with fail
  go_at_call 48
  refine hE.mono ?_
  rintro e w' ⟨rfl, rfl⟩
  go_wp2_with fail
  go_at_call 47
  refine hC.mono ?_
  rintro e w2 ⟨v, rfl, hv, hB⟩
  go_wp2_with fail
  go_ret
  exact ⟨v, rfl, own_monoE hv hA.size, below_trans hA hB⟩
end Go.Proofs.YtkibigbcdlilkaaGreatDoor.Ed
namespace Go.Proofs.YtkibigbcdlilkaaGreatDoor.Ed
open Go.RowKit Go.Shelf
theorem plG_at (p n : Nat) (h : p < n) (hn : n ≤ 100000) : plG (p : Int) n = p := by
 unfold plG
 have e0 : (p : Int).tmod (n : Int) = p := Int.tmod_eq_of_lt (by omega) (by omega)
 rw [e0, wz _ (by omega) (by omega)]
 have e1 : ((p : Int) + (n : Int)).tmod (n : Int) = p := by
  rw [Int.tmod_eq_emod_of_nonneg (by omega), Int.add_emod_right]
  exact Int.emod_eq_of_lt (by omega) (by omega)
 rw [e1]
 simp
theorem plG_lt (z : Int) (n : Nat) (h : 0 < n) (hn : n ≤ 100000) : plG z n < n := (pl_is z n h hn).1
theorem cut_at (s : List UInt8) (p : Nat) (h : p < s.length) : s = s.take p ++ s[p] :: s.drop (p + 1) := by
 rw [← List.drop_eq_getElem_cons h, List.take_append_drop]
theorem way_ap (s : List UInt8) (k : UInt8) (z : Int) (b : UInt8) (hl : s.length ≤ 1000) : ∃ m, m ≤ 1 ∧ Way m s (apG s k z b) := by
 unfold apG
 by_cases h1 : k = 1
 · rw [if_pos h1]
   by_cases h0 : s.length = 0
   · rw [if_pos h0]; exact ⟨0, by omega, Way.refl s⟩
   · rw [if_neg h0]
     have hp := plG_lt z s.length (by omega) (by omega)
     have := (Way.refl (s.take (plG z s.length))).append (Way.gap s[plG z s.length] (Way.refl (s.drop (plG z s.length + 1))))
     rw [← cut_at s _ hp] at this
     exact ⟨1, by omega, this⟩
 · rw [if_neg h1]
   by_cases h2 : k = 2
   · rw [if_pos h2]
     have := (Way.refl (s.take (plG z (s.length + 1)))).append (Way.more b (Way.refl (s.drop (plG z (s.length + 1)))))
     rw [List.take_append_drop] at this
     exact ⟨1, by omega, this⟩
   · rw [if_neg h2]
     by_cases h3 : k = 3
     · rw [if_pos h3]
       by_cases h0 : s.length = 0
       · rw [if_pos h0]; exact ⟨0, by omega, Way.refl s⟩
       · rw [if_neg h0]
         have hp := plG_lt z s.length (by omega) (by omega)
         have := (Way.refl (s.take (plG z s.length))).append (Way.swap s[plG z s.length] b (Way.refl (s.drop (plG z s.length + 1))))
         rw [← cut_at s _ hp] at this
         exact ⟨1, by omega, this⟩
     · rw [if_neg h3]; exact ⟨0, by omega, Way.refl s⟩
theorem dist_ap (s : List UInt8) (k : UInt8) (z : Int) (b : UInt8) (hl : s.length ≤ 1000) : dist s (apG s k z b) ≤ 1 := (dist_le_iff _ _ _).2 (way_ap s k z b hl)
theorem apG_len (s : List UInt8) (k : UInt8) (z : Int) (b : UInt8) (hl : s.length ≤ 1000) : (apG s k z b).length ≤ s.length + 1 := by
 have := (dist_apart s (apG s k z b)).2
 have := dist_ap s k z b hl
 omega
theorem apG_gap (s : List UInt8) (z : Int) (b : UInt8) (h : s.length ≠ 0) : apG s 1 z b = s.take (plG z s.length) ++ s.drop (plG z s.length + 1) := by
 unfold apG
 rw [if_pos rfl, if_neg h]
theorem apG_more (s : List UInt8) (z : Int) (b : UInt8) : apG s 2 z b = s.take (plG z (s.length + 1)) ++ b :: s.drop (plG z (s.length + 1)) := by
 unfold apG
 rw [if_neg (by decide), if_pos rfl]
theorem apG_swap (s : List UInt8) (z : Int) (b : UInt8) (h : s.length ≠ 0) : apG s 3 z b = s.take (plG z s.length) ++ b :: s.drop (plG z s.length + 1) := by
 unfold apG
 rw [if_neg (by decide), if_neg (by decide), if_pos rfl, if_neg h]
theorem apG_none (s : List UInt8) (z : Int) (b : UInt8) : apG s 0 z b = s := by
 unfold apG
 rw [if_neg (by decide), if_neg (by decide), if_neg (by decide)]
def isL (c : UInt8) : Bool := c == 65 || c == 67 || c == 71 || c == 84
theorem lett_of (y : UInt8) (h : isL y = true) : ∃ j, j < 4 ∧ y = lettE j := by
 unfold isL at h
 simp only [Bool.or_eq_true, beq_iff_eq] at h
 rcases h with ((h | h) | h) | h
 · exact ⟨0, by omega, h⟩
 · exact ⟨1, by omega, h⟩
 · exact ⟨2, by omega, h⟩
 · exact ⟨3, by omega, h⟩
theorem mem_gap (a : List UInt8) (p : Nat) (h : p < a.length) : (⟨1, (p : Int), 0⟩ : Edt) ∈ edG a := by
 unfold edG upS
 exact List.mem_cons_of_mem _ (List.mem_append_left _ (List.mem_flatMap.2 ⟨p, List.mem_range.2 h, List.mem_cons_self ..⟩))
theorem mem_swap (a : List UInt8) (p j : Nat) (h : p < a.length) (hj : j < 4) (hn : lettE j ≠ a.getD p 0) : (⟨3, (p : Int), lettE j⟩ : Edt) ∈ edG a := by
 unfold edG upS swE
 refine List.mem_cons_of_mem _ (List.mem_append_left _ (List.mem_flatMap.2 ⟨p, List.mem_range.2 h, List.mem_cons_of_mem _ (List.mem_map.2 ⟨j, List.mem_filter.2 ⟨List.mem_range.2 hj, ?_⟩, rfl⟩)⟩))
 simpa using hn
theorem mem_more (a : List UInt8) (p j : Nat) (h : p ≤ a.length) (hj : j < 4) : (⟨2, (p : Int), lettE j⟩ : Edt) ∈ edG a := by
 unfold edG upM moE
 exact List.mem_cons_of_mem _ (List.mem_append_right _ (List.mem_flatMap.2 ⟨p, List.mem_range.2 (by omega), List.mem_map.2 ⟨j, List.mem_range.2 hj, rfl⟩⟩))
theorem mem_none (a : List UInt8) : (⟨0, 0, 0⟩ : Edt) ∈ edG a := List.mem_cons_self ..
theorem step_edit {a c : List UInt8} (hl : a.length ≤ 1000) (h : Step (fun y => isL y = true) a c) : ∃ d, d ∈ edG a ∧ apG a d.k d.z d.b = c := by
 rcases step_is h with ⟨p, h1, rfl⟩ | ⟨p, y, h0, h1, rfl⟩ | ⟨p, y, h0, h1, rfl⟩
 · refine ⟨_, mem_gap a p h1, ?_⟩
   rw [apG_gap a _ _ (by omega), plG_at p _ h1 (by omega)]
 · obtain ⟨j, hj, rfl⟩ := lett_of y h0
   refine ⟨_, mem_more a p j h1 hj, ?_⟩
   rw [apG_more, plG_at p _ (by omega) (by omega)]
 · obtain ⟨j, hj, rfl⟩ := lett_of y h0
   by_cases hn : lettE j = a.getD p 0
   · refine ⟨_, mem_none a, ?_⟩
     rw [apG_none, hn, List.getD_eq_getElem?_getD, List.getElem?_eq_getElem h1]
     exact cut_at a p h1
   · refine ⟨_, mem_swap a p j h1 hj hn, ?_⟩
     rw [apG_swap a _ _ (by omega), plG_at p _ h1 (by omega)]
end Go.Proofs.YtkibigbcdlilkaaGreatDoor.Ed
