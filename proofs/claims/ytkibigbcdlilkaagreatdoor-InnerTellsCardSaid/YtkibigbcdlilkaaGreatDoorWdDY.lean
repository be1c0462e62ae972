import Derived.Defers
import Derived.Recover
import Derived.Test.YtkibigbcdlilkaaGreatDoorBuDY
import Derived.Test.YtkibigbcdlilkaaGreatDoorExMY
import Derived.Test.YtkibigbcdlilkaaGreatDoorGBY
import Derived.Test.YtkibigbcdlilkaaGreatDoorRdDY
import Derived.Test.YtkibigbcdlilkaaGreatDoorSuNY
namespace Go.Proofs.YtkibigbcdlilkaaGreatDoor
open Go.RowKit Go.Shelf
attribute [local go_sem] Oper.semAt_some run_store_func
def jN (a b : UInt8) : Nat := if a ≠ 65 ∧ b ≠ 65 then 0 else if a ≠ 67 ∧ b ≠ 67 then 1 else 2
theorem lett_n : letterOf ((0 : Nat) : Int) = 65 ∧ letterOf ((1 : Nat) : Int) = 67 ∧ letterOf ((2 : Nat) : Int) = 71 := ⟨by kernel_rfl, by kernel_rfl, by kernel_rfl⟩
theorem jN_le (a b : UInt8) : jN a b ≤ 2 := by unfold jN; split <;> (try split) <;> omega
theorem jN_hit (a b : UInt8) (k : Nat) (h : k < jN a b) : letterOf (k : Int) = a ∨ letterOf (k : Int) = b := by
 obtain ⟨l0, l1, -⟩ := lett_n
 unfold jN at h
 by_cases h0 : a ≠ 65 ∧ b ≠ 65
 · rw [if_pos h0] at h; omega
 · rw [if_neg h0] at h
   have e0 : a = 65 ∨ b = 65 := by
    by_cases h1 : a = 65
    · exact .inl h1
    · exact .inr (Decidable.byContradiction fun h2 => h0 ⟨h1, h2⟩)
   by_cases h1 : a ≠ 67 ∧ b ≠ 67
   · rw [if_pos h1] at h
     obtain rfl : k = 0 := by omega
     rw [l0]
     rcases e0 with e | e
     · exact .inl e.symm
     · exact .inr e.symm
   · rw [if_neg h1] at h
     have e1 : a = 67 ∨ b = 67 := by
      by_cases h2 : a = 67
      · exact .inl h2
      · exact .inr (Decidable.byContradiction fun h3 => h1 ⟨h2, h3⟩)
     rcases (show k = 0 ∨ k = 1 by omega) with rfl | rfl
     · rw [l0]
       rcases e0 with e | e
       · exact .inl e.symm
       · exact .inr e.symm
     · rw [l1]
       rcases e1 with e | e
       · exact .inl e.symm
       · exact .inr e.symm
theorem jN_free (a b : UInt8) : letterOf (jN a b : Nat) ≠ a ∧ letterOf (jN a b : Nat) ≠ b := by
 obtain ⟨l0, l1, l2⟩ := lett_n
 unfold jN
 by_cases h0 : a ≠ 65 ∧ b ≠ 65
 · rw [if_pos h0, l0]; exact ⟨fun e => h0.1 e.symm, fun e => h0.2 e.symm⟩
 · rw [if_neg h0]
   by_cases h1 : a ≠ 67 ∧ b ≠ 67
   · rw [if_pos h1, l1]; exact ⟨fun e => h1.1 e.symm, fun e => h1.2 e.symm⟩
   · rw [if_neg h1, l2]
     constructor
     · rintro rfl
       exact h0 ⟨by decide, fun e => h1 ⟨by decide, by rw [e]; decide⟩⟩
     · rintro rfl
       exact h0 ⟨fun e => h1 ⟨by rw [e]; decide, by decide⟩, by decide⟩
set_option maxRecDepth 100000 in
set_option maxHeartbeats 1000000 in
theorem Junction_any (a b : UInt8) (w : World) (hT : Tab w) :
    Calls Tryz.prog 128 #[eB a, eB b] w fun e w' => e = .returned (eB (letterOf (jN a b : Nat))) ∧ w = w' := by
  have hL := fun n : Int => Letter_any n w hT
  have hj := jN_le a b
  go_enter Tryz.func128, Tryz.ntmps128
  go_wp2_with fail
  go_loopw [5] (fun t wr => ∃ k : Nat, k ≤ jN a b ∧ t = .int .i64 k ∧ wr = w) (fun t _ => jN a b - (intOf t).toNat)
  case atStart => exact ⟨0, Nat.zero_le _, rfl, rfl⟩
  case round =>
   obtain ⟨k, hk, rfl, rfl⟩ := hrel
   by_cases hlt : k < jN a b
   · have hh := jN_hit a b k hlt
     have hLk := hL k
     have Hk := Lib.hid hlt
     have hk9 : k ≤ 2 := by omega
     generalize letterOf (k : Int) = l at *
     by_cases ha : l = a
     · have f1 : ((l.toNat : Int) == (a.toNat : Int)) = true := by rw [ha]; simp
       clear hL hh hk hlt hj hT
       go_wp2_with (go_at_call 65; refine hLk.mono ?_; rintro e w' ⟨rfl, rfl⟩)
       go_roundw
       case rel => exact ⟨k + 1, Hk.out, by go_num, trivial⟩
       case measure => have := Hk.out; simp [intOf]; omega
     · have hb : l = b := hh.resolve_left ha
       have f1 : ((l.toNat : Int) == (a.toNat : Int)) = false := beq_eq_false_iff_ne.2 (u8_neR _ _ ha)
       have f2 : ((l.toNat : Int) == (b.toNat : Int)) = true := by rw [hb]; simp
       clear hL hh hk hlt hj hT ha hb
       go_wp2_with (go_at_call 65; refine hLk.mono ?_; rintro e w' ⟨rfl, rfl⟩)
       go_roundw
       case rel => exact ⟨k + 1, Hk.out, by go_num, trivial⟩
       case measure => have := Hk.out; simp [intOf]; omega
   · have hkj : k = jN a b := by omega
     have hf := jN_free a b
     rw [← hkj] at hf
     have hLk := hL k
     have Hkj := Lib.hid hkj
     obtain ⟨l, hl⟩ : ∃ l, letterOf (k : Int) = l := ⟨_, rfl⟩
     rw [hl] at hLk hf
     have Hl := Lib.hid hl
     have f1 : ((l.toNat : Int) == (a.toNat : Int)) = false := beq_eq_false_iff_ne.2 (u8_neR _ _ hf.1)
     have f2 : ((l.toNat : Int) == (b.toNat : Int)) = false := beq_eq_false_iff_ne.2 (u8_neR _ _ hf.2)
     clear hL hk hlt hj hT hf hl hkj
     go_wp2_with fail
     go_at_call 65
     refine hLk.mono ?_
     rintro e w' ⟨rfl, rfl⟩
     go_wp2_with fail
     go_at_call 65
     refine hLk.mono ?_
     rintro e w' ⟨rfl, rfl⟩
     go_wp2_with fail
     go_at_call 65
     refine hLk.mono ?_
     rintro e w' ⟨rfl, rfl⟩
     go_wp2_with fail
     go_ret
     exact ⟨by rw [← Hkj.out, Hl.out]; rfl, rfl⟩
end Go.Proofs.YtkibigbcdlilkaaGreatDoor
namespace Go.Proofs.YtkibigbcdlilkaaGreatDoor
open Go.RowKit Go.Shelf
attribute [local go_sem] Oper.semAt_some run_store_func
theorem wmay_yes (k : Int) (h : 2 ≤ k) (h2 : k ≤ 800) (w : World) : Calls Tryz.prog 38 #[.int .i64 k] w fun e w' => e = .returned (.bool true) ∧ w = w' := by
 go_enter Tryz.func38, Tryz.ntmps38
 go_wp2
 go_ret
 exact ⟨rfl, rfl⟩
theorem wmay_no (k : Int) (h : k < 2 ∨ 800 < k) (w : World) : Calls Tryz.prog 38 #[.int .i64 k] w fun e w' => e = .returned (.bool false) ∧ w = w' := by
 by_cases h1 : k < 2
 · have h2 : ¬ 2 ≤ k := by omega
   clear h
   go_enter Tryz.func38, Tryz.ntmps38
   go_wp2
   go_ret
   exact ⟨rfl, rfl⟩
 · have h2 : 2 ≤ k := by omega
   have h3 : ¬ k ≤ 800 := by omega
   clear h h1
   go_enter Tryz.func38, Tryz.ntmps38
   go_wp2
   go_ret
   exact ⟨rfl, rfl⟩
theorem WLong_no (k : Int) (h : k < 2 ∨ 800 < k) (w : World) : Calls Tryz.prog 23 #[.int .i64 k] w fun e w' => e = .returned (.int .i64 (-1)) ∧ w = w' := by
 have hm := wmay_no k h w
 clear h
 go_enter Tryz.func23, Tryz.ntmps23
 go_wp2_with fail
 go_at_call 38
 refine hm.mono ?_
 rintro e w' ⟨rfl, rfl⟩
 go_wp2_with fail
 go_ret
 exact ⟨rfl, rfl⟩
def wlongN (n : Nat) : Nat := n + 1 + 3 * longN n
theorem long_facts (n L : Nat) (h : n ≤ 800) (hL : L ≤ 1000) :
    (wrap64 ((n : Int) + 1) = (n : Int) + 1 ∧ IntKind.i64.wrap ((n : Int) + 1) = (n : Int) + 1) ∧ (wrap64 (3 * (L : Int)) = 3 * (L : Int) ∧ IntKind.i64.wrap (3 * (L : Int)) = 3 * (L : Int)) ∧
    wrap64 ((n : Int) + 1 + 3 * (L : Int)) = ((n + 1 + 3 * L : Nat) : Int) ∧ IntKind.i64.wrap ((n : Int) + 1 + 3 * (L : Int)) = ((n + 1 + 3 * L : Nat) : Int) :=
  ⟨rw_is _ _ rfl (by omega) (by omega), rw_is _ _ rfl (by omega) (by omega), rw_is _ _ (by omega) (by omega) (by omega)⟩
theorem WLong_yes (n : Nat) (h2 : 2 ≤ n) (h8 : n ≤ 800) (hl : longN n ≤ 1000) (w : World) : Calls Tryz.prog 23 #[.int .i64 n] w fun e w' => e = .returned (.int .i64 (wlongN n : Nat)) ∧ Below w.heap.size w w' := by
 have hm := wmay_yes n (by omega) (by omega) w
 have hL := Long_yes n h2 (by omega) w
 have hf := long_facts n (longN n) h8 hl
 unfold wlongN
 generalize longN n = L at *
 have HF := Lib.hid hf
 clear hf hl h2 h8
 go_enter Tryz.func23, Tryz.ntmps23
 go_wp2_with fail
 go_at_call 38
 refine hm.mono ?_
 rintro e w' ⟨rfl, rfl⟩
 obtain ⟨⟨a1, a2⟩, ⟨b1, b2⟩, c1, c2⟩ := HF.out
 go_wp2_with fail
 go_at_call 39
 refine hL.mono ?_
 rintro e w2 ⟨rfl, hB⟩
 go_wp2_with fail
 go_ret
 exact ⟨rfl, hB⟩
end Go.Proofs.YtkibigbcdlilkaaGreatDoor
namespace Go.Proofs.YtkibigbcdlilkaaGreatDoor
open Go.RowKit Go.Shelf
attribute [local go_sem] Oper.semAt_some run_store_func
set_option maxRecDepth 100000 in
set_option maxHeartbeats 2000000 in
theorem wcatch_idle (p : Addr) (w : World) :
    CallsD Tryz.prog 102 #[.pointer (some p)] .returning w fun e u' w' => e = .returned (.tuple #[]) ∧ u' = .returning ∧ w' = w := by
  refine callsD_of_wpS Tryz.func102 rfl fun c₀ cs hu => ?_
  apply wpS_seq
  apply wpS_region
  simp [wpOpsS, go_sem, recoverD, hu, Tryz.ntmps102, Exit.thenS]
  refine wpS_of_wp ?_
  go_wp2
  cases c₀
  simp_all [bodyPostS, results, Tryz.results102]
set_option maxRecDepth 100000 in
set_option maxHeartbeats 2000000 in
theorem wcatch_take (b : Nat) (n : Int) (v0 : Value) (w : World) (hc : w.cell? ⟨b, 0, none⟩ = some v0) (hf : w.frozen? ⟨b, 0, none⟩ = false) :
    CallsD Tryz.prog 102 #[.pointer (some ⟨b, 0, none⟩)] (.panicking (errno n)) w fun e u' w' => e = .returned (.tuple #[]) ∧ u' = .panicking [{ v := .iface 24 (.int .i64 n), recovered := true }] ∧ w' = w.setCell ⟨b, 0, none⟩ (.int .i64 n) := by
  have hta : ∀ w, (Instr.typeAssert (.iface 24 (.int .i64 n)) 20 24 true).run Tryz.prog w = .ok (.tuple #[.int .i64 n, .bool true]) w := fun _ => by kernel_rfl
  refine callsD_of_wpS Tryz.func102 rfl fun c₀ cs hu => ?_
  apply wpS_seq
  apply wpS_region
  simp [wpOpsS, go_sem, recoverD, hu, Tryz.ntmps102, Exit.thenS]
  refine wpS_of_wp ?_
  go_wp2
  cases c₀
  simp_all [bodyPostS, results, Tryz.results102]
set_option maxRecDepth 100000 in
set_option maxHeartbeats 2000000 in
theorem wcaught_any (f : Nat) (lb : Array Value) (g : Nat) (w : World) (hg : g < w.heap.size) (hen : ∀ args w, (callFunc f args).run Tryz.prog w = .ok (.enter f args) w) (R0 : World → Prop) (Rn : Int → World → Prop)
    (hwork : WorkIs f lb g (w.alloc (.cells #[.int .i64 0] 24)) R0 Rn) :
    Calls Tryz.prog 86 #[.func (.func f) #[] lb] w fun e w' => ∃ w1 n, Keep w.heap.size g w w1 ∧ e = .returned (.int .i64 n) ∧ w' = w1.setCell ⟨w.heap.size, 0, none⟩ (.int .i64 n) ∧ w.heap.size < w1.heap.size ∧ ((n = 0 ∧ R0 w1) ∨ Rn n w1) := by
 have hmf : ∀ (fn : Fn) (first cap : Array Value) (w : World), (Instr.makeFunc fn first cap).run Tryz.prog w = .ok (.func fn first cap) w := fun _ _ _ _ => rfl
 have hA := below_alloc w (.cells #[.int .i64 0] 24)
 have hb0 := Boxed.new w 24 (.int .i64 0)
 have hs0 : (w.alloc (.cells #[.int .i64 0] 24)).heap.size = w.heap.size + 1 := by simp
 unfold WorkIs at hwork
 go_enter_defers Tryz.func86, Tryz.ntmps86
 go_wp2_with fail
 generalize w.alloc (.cells #[.int .i64 0] 24) = w0 at *
 refine hwork.mono ?_
 clear hwork
 rintro e w1 ⟨hK, ⟨⟨v, rfl⟩, hR⟩ | ⟨n, rfl, hR⟩⟩
 · have hb1 := hK.boxed hb0 (by omega) (by omega)
   have hc := hb1.cell
   have hf := hb1.frozen
   have hsz := keep_size hK
   go_wp2
   refine leaves_cons (f := 102) (args := #[.pointer (some ⟨w.heap.size, 0, none⟩)]) (by simp) (by simp [go_sem]) ?_
   refine (wcatch_idle ⟨w.heap.size, 0, none⟩ _).mono ?_
   rintro e u' w'' ⟨rfl, rfl, rfl⟩
   have hc5 := (hb1.set (.int .i64 0)).cell
   refine ⟨.int .i64 0, ?_, w1, 0, ⟨⟨hK.1.1.trans hA.os, hK.1.2.1.trans hA.tape, hK.1.2.2.1.trans hA.output, by omega⟩, fun k hk hkg => (hK.2 k (by omega) hkg).trans (hA.block k hk)⟩, rfl, rfl, by omega, .inl ⟨rfl, hR⟩⟩
   simp [results, Tryz.f86, go_sem, hc5]
 · have hb1 := hK.boxed hb0 (by omega) (by omega)
   have hc := hb1.cell
   have hf := hb1.frozen
   have hsz := keep_size hK
   go_wp2
   refine leaves_cons (f := 102) (args := #[.pointer (some ⟨w.heap.size, 0, none⟩)]) (by simp) (by simp [go_sem]) ?_
   refine (wcatch_take w.heap.size n _ w1 hc hf).mono ?_
   rintro e u' w'' ⟨rfl, rfl, rfl⟩
   have hc5 := (hb1.set (.int .i64 n)).cell
   refine ⟨.int .i64 n, ?_, w1, n, ⟨⟨hK.1.1.trans hA.os, hK.1.2.1.trans hA.tape, hK.1.2.2.1.trans hA.output, by omega⟩, fun k hk hkg => (hK.2 k (by omega) hkg).trans (hA.block k hk)⟩, rfl, rfl, by omega, .inr hR⟩
   simp [results, Tryz.f86, go_sem, hc5]
set_option maxRecDepth 100000 in
set_option maxHeartbeats 1000000 in
theorem wmust_ok (w : World) : Calls Tryz.prog 112 #[.int .i64 0] w fun e w' => e = .returned (.tuple #[]) ∧ w = w' := by
 go_enter Tryz.func112, Tryz.ntmps112
 go_wp2
 go_end0
 exact ⟨rfl, rfl⟩
set_option maxRecDepth 100000 in
set_option maxHeartbeats 1000000 in
theorem wmust_not (n : Int) (h : n ≠ 0) (w : World) : Calls Tryz.prog 112 #[.int .i64 n] w fun e w' => e = .panicked (errno n) ∧ w = w' := by
 have h1 : (n != 0) = true := by simpa using h
 have h2 : (n == 0) = false := by simpa using h
 clear h
 go_enter Tryz.func112, Tryz.ntmps112
 go_wp2
 exact ⟨rfl, rfl, rfl⟩
end Go.Proofs.YtkibigbcdlilkaaGreatDoor
