import Derived.Defers
import Derived.Recover
import Derived.Test.YtjclfkbhakjdaaaDoorClBY
import Derived.Test.YtjclfkbhakjdaaaDoorRIY
import Derived.Test.YtjclfkbhakjdaaaDoorRPY
import Derived.Test.YtjclfkbhakjdaaaDoorRQY
namespace Go.Proofs.YtjclfkbhakjdaaaDoor
open Go.RowKit Go.Shelf
attribute [local go_sem] Oper.semAt_some run_store_func
abbrev errno (n : Int) : List PanicEntry := [{ v := .iface 28 (.int .i64 n), recovered := false }]
theorem must_ok (w : World) : Calls Tryd.prog 18 #[.int .i64 0] w fun e w' => e = .returned (.tuple #[]) ∧ w = w' := by
 go_enter Tryd.func18, Tryd.ntmps18
 go_wp2
 go_end0
 exact ⟨rfl, rfl⟩
theorem must_no (n : Int) (hn : n ≠ 0) (w : World) : Calls Tryd.prog 18 #[.int .i64 n] w fun e w' => e = .panicked (errno n) ∧ w = w' := by
 have h : ((n : Int) != 0) = true := by simpa using hn
 go_enter Tryd.func18, Tryd.ntmps18
 go_wp2
 exact ⟨rfl, rfl, rfl⟩
set_option maxRecDepth 100000 in
set_option maxHeartbeats 2000000 in
theorem catch_idle (p : Addr) (w : World) :
    CallsD Tryd.prog 31 #[.pointer (some p)] .returning w fun e u' w' => e = .returned (.tuple #[]) ∧ u' = .returning ∧ w' = w := by
  refine callsD_of_wpS Tryd.func31 rfl fun c₀ cs hu => ?_
  apply wpS_seq
  apply wpS_region
  simp [wpOpsS, go_sem, recoverD, hu, Tryd.ntmps31, Exit.thenS]
  refine wpS_of_wp ?_
  go_wp2
  cases c₀
  simp_all [bodyPostS, results, Tryd.results31]
set_option maxRecDepth 100000 in
set_option maxHeartbeats 2000000 in
theorem catch_take (b : Nat) (n : Int) (v0 : Value) (w : World) (hc : w.cell? ⟨b, 0, none⟩ = some v0) (hf : w.frozen? ⟨b, 0, none⟩ = false) :
    CallsD Tryd.prog 31 #[.pointer (some ⟨b, 0, none⟩)] (.panicking (errno n)) w fun e u' w' => e = .returned (.tuple #[]) ∧ u' = .panicking [{ v := .iface 28 (.int .i64 n), recovered := true }] ∧ w' = w.setCell ⟨b, 0, none⟩ (.int .i64 n) := by
  have hta : ∀ w, (Instr.typeAssert (.iface 28 (.int .i64 n)) 20 28 true).run Tryd.prog w = .ok (.tuple #[.int .i64 n, .bool true]) w := fun _ => by kernel_rfl
  refine callsD_of_wpS Tryd.func31 rfl fun c₀ cs hu => ?_
  apply wpS_seq
  apply wpS_region
  simp [wpOpsS, go_sem, recoverD, hu, Tryd.ntmps31, Exit.thenS]
  refine wpS_of_wp ?_
  go_wp2
  cases c₀
  simp_all [bodyPostS, results, Tryd.results31]
def WorkIs (f : Nat) (lb : Array Value) (g : Nat) (W0 : World) (R0 : World → Prop) (Rn : Int → World → Prop) : Prop :=
 Calls Tryd.prog f lb W0 fun e w' => Keep W0.heap.size g W0 w' ∧ (((∃ v, e = .returned v) ∧ R0 w') ∨ ∃ n, e = .panicked (errno n) ∧ Rn n w')
set_option maxRecDepth 100000 in
set_option maxHeartbeats 2000000 in
theorem caught_any (f : Nat) (lb : Array Value) (g : Nat) (w : World) (hg : g < w.heap.size) (hen : ∀ args w, (callFunc f args).run Tryd.prog w = .ok (.enter f args) w) (R0 : World → Prop) (Rn : Int → World → Prop)
    (hwork : WorkIs f lb g (w.alloc (.cells #[.int .i64 0] 28)) R0 Rn) :
    Calls Tryd.prog 16 #[.func (.func f) #[] lb] w fun e w' => ∃ w1 n, Keep w.heap.size g w w1 ∧ e = .returned (.int .i64 n) ∧ w' = w1.setCell ⟨w.heap.size, 0, none⟩ (.int .i64 n) ∧ w.heap.size < w1.heap.size ∧ ((n = 0 ∧ R0 w1) ∨ Rn n w1) := by
 have hmf : ∀ (fn : Fn) (first cap : Array Value) (w : World), (Instr.makeFunc fn first cap).run Tryd.prog w = .ok (.func fn first cap) w := fun _ _ _ _ => rfl
 have hA := below_alloc w (.cells #[.int .i64 0] 28)
 have hb0 := Boxed.new w 28 (.int .i64 0)
 have hs0 : (w.alloc (.cells #[.int .i64 0] 28)).heap.size = w.heap.size + 1 := by simp
 unfold WorkIs at hwork
 go_enter_defers Tryd.func16, Tryd.ntmps16
 go_wp2_with fail
 generalize w.alloc (.cells #[.int .i64 0] 28) = w0 at *
 refine hwork.mono ?_
 clear hwork
 rintro e w1 ⟨hK, ⟨⟨v, rfl⟩, hR⟩ | ⟨n, rfl, hR⟩⟩
 · have hb1 := hK.boxed hb0 (by omega) (by omega)
   have hc := hb1.cell
   have hf := hb1.frozen
   have hsz := keep_size hK
   go_wp2
   refine leaves_cons (f := 31) (args := #[.pointer (some ⟨w.heap.size, 0, none⟩)]) (by simp) (by simp [go_sem]) ?_
   refine (catch_idle ⟨w.heap.size, 0, none⟩ _).mono ?_
   rintro e u' w'' ⟨rfl, rfl, rfl⟩
   have hc5 := (hb1.set (.int .i64 0)).cell
   refine ⟨.int .i64 0, ?_, w1, 0, ⟨⟨hK.1.1.trans hA.os, hK.1.2.1.trans hA.tape, hK.1.2.2.1.trans hA.output, by omega⟩, fun k hk hkg => (hK.2 k (by omega) hkg).trans (hA.block k hk)⟩, rfl, rfl, by omega, .inl ⟨rfl, hR⟩⟩
   simp [results, Tryd.f16, go_sem, hc5]
 · have hb1 := hK.boxed hb0 (by omega) (by omega)
   have hc := hb1.cell
   have hf := hb1.frozen
   have hsz := keep_size hK
   go_wp2
   refine leaves_cons (f := 31) (args := #[.pointer (some ⟨w.heap.size, 0, none⟩)]) (by simp) (by simp [go_sem]) ?_
   refine (catch_take w.heap.size n _ w1 hc hf).mono ?_
   rintro e u' w'' ⟨rfl, rfl, rfl⟩
   have hc5 := (hb1.set (.int .i64 n)).cell
   refine ⟨.int .i64 n, ?_, w1, n, ⟨⟨hK.1.1.trans hA.os, hK.1.2.1.trans hA.tape, hK.1.2.2.1.trans hA.output, by omega⟩, fun k hk hkg => (hK.2 k (by omega) hkg).trans (hA.block k hk)⟩, rfl, rfl, by omega, .inr hR⟩
   simp [results, Tryd.f16, go_sem, hc5]
end Go.Proofs.YtjclfkbhakjdaaaDoor
namespace Go.Proofs.YtjclfkbhakjdaaaDoor
open Go.RowKit Go.Shelf
attribute [local go_sem] Oper.semAt_some run_store_func
abbrev frV (G PL : Int) (v : Value) : Value := .agg #[.int .i64 G, .int .i64 PL, v]
abbrev frB (G PL : Int) (v : Value) : Array Value := #[.int .i64 G, .int .i64 PL, v]
def u8Z (z : Int) : UInt8 := UInt8.ofNat (IntKind.u8.wrap z).toNat
theorem u8Z_int (z : Int) : ((u8Z z).toNat : Int) = IntKind.u8.wrap z := by
 have h : IntKind.u8.wrap z = z % 256 := by unfold IntKind.wrap; rfl
 unfold u8Z
 rw [h]
 have h1 := Int.emod_nonneg z (show (256 : Int) ≠ 0 by decide)
 have h2 := Int.emod_lt_of_pos z (show (0 : Int) < 256 by decide)
 simp
 omega
def headG (G PL : Int) : List UInt8 := [u8Z (G / 256), u8Z G, u8Z PL]
def saidG (G PL : Int) (pay : List UInt8) : List UInt8 := headG G PL ++ pay
set_option maxHeartbeats 400000 in
theorem said_any (G PL : Int) (v : Value) (w : World) : Calls Tryd.prog 21 #[frV G PL v] w fun e w' => e = .returned (.func (.func 33) #[] #[.pointer (some ⟨w.heap.size, 0, none⟩)]) ∧ w' = w.alloc (.cells (frB G PL v) 26) := by
 have hcl : (frV G PL v).cells = frB G PL v := rfl
 go_enter Tryd.func21, Tryd.ntmps21
 go_wp2
 go_ret
 exact ⟨rfl, rfl⟩
set_option maxRecDepth 100000 in
set_option maxHeartbeats 2000000 in
theorem said1_in (n : Nat) (l B1 n₀ : Nat) (G PL : Int) (pv : Value) (pay : List UInt8) (hp : pay.length ≤ 900) (J Jx : List UInt8 → World → Prop)
    (hY : ∀ pre x W, J pre W → pre.length < (saidG G PL pay).length → YieldAt Fence.wide n Tryd.prog l #[eB x] W fun e W' =>
     (e = .returned (.bool true) ∧ J (pre ++ [x]) W' ∧ Below n₀ W W') ∨ (e = .returned (.bool false) ∧ Jx (pre ++ [x]) W'))
    (W : World) (hr : Rowed W B1 26 (frB G PL pv)) (hB1 : B1 < n₀) (hS : Sl eB n₀ W pv pay) (h0 : J [] W) :
    CallsIn Fence.wide (n + 1) Tryd.prog 33 #[.func (.yield l) #[] #[], .pointer (some ⟨B1, 0, none⟩)] W fun e W' => (∃ v, e = .returned v) ∧
      ((∃ ys, ys = saidG G PL pay ∧ J ys W') ∨ (∃ pre, pre <+: saidG G PL pay ∧ Jx pre W')) := by
 obtain ⟨A, c, rfl⟩ := hS.len
 have k0 := hr.cell 0
 have k1 := hr.cell 1
 have k2 := hr.cell 2
 refine callsIn_of_wp Tryd.func33 rfl trivial ?_ rfl
 simp only [Tryd.ntmps33, List.size_toArray, List.length_cons, List.length_nil, Nat.reduceAdd, Nat.reduceSub, Array.replicate_succ, Array.replicate_zero, List.push_toArray, List.append_toArray, List.nil_append, List.cons_append]
 have c1 : ∀ z w, (convert 3 5 (.int .i64 z)).run Tryd.prog w = .ok (eB (u8Z z)) w := fun z w => by
  have h1 := run_convert_int (P := Tryd.prog) (w := w) 3 5 .i64 z (by kernel_rfl) (by kernel_rfl)
  have hk : Tryd.prog.intKind 5 = .u8 := by kernel_rfl
  rw [hk] at h1
  rw [h1, ← u8Z_int]
 obtain ⟨a0, ha0⟩ : ∃ x, u8Z (G / 256) = x := ⟨_, rfl⟩
 obtain ⟨a1, ha1⟩ : ∃ x, u8Z G = x := ⟨_, rfl⟩
 obtain ⟨a2, ha2⟩ : ∃ x, u8Z PL = x := ⟨_, rfl⟩
 have hsd : saidG G PL pay = a0 :: a1 :: a2 :: pay := by unfold saidG headG; rw [ha0, ha1, ha2]; rfl
 rw [hsd] at hY ⊢
 have i0 : ∀ w, (Instr.index 59 (.agg #[eB a0, eB a1, eB a2]) (.int .i64 0)).run Tryd.prog w = .ok (eB a0) w := fun _ => by kernel_rfl
 have i1 : ∀ w, (Instr.index 59 (.agg #[eB a0, eB a1, eB a2]) (.int .i64 1)).run Tryd.prog w = .ok (eB a1) w := fun _ => by kernel_rfl
 have i2 : ∀ w, (Instr.index 59 (.agg #[eB a0, eB a1, eB a2]) (.int .i64 2)).run Tryd.prog w = .ok (eB a2) w := fun _ => by kernel_rfl
 have HS := Lib.hid hS
 have HR := Lib.hid hr
 have HP := Lib.hid hp
 gi_wp2_with fail
 clear hS hr hp k0 k1 k2 c1 hsd ha0 ha1 ha2
 gi_loopw [18] (fun i wr => ∃ k : Nat, k ≤ 3 ∧ i = .int .i64 k ∧ J ([a0, a1, a2].take k) wr ∧ Below n₀ W wr) (fun i _ => 3 - (intOf i).toNat)
 case atStart => exact ⟨0, Nat.zero_le _, rfl, h0, Below.refl _ _⟩
 case round =>
  obtain ⟨k, hk, rfl, hJs, hnx⟩ := hrel
  have hstep : ∀ (k : Nat) (x : UInt8), k < 3 → [a0, a1, a2][k]? = some x → J ([a0, a1, a2].take k) wr →
      YieldAt Fence.wide n Tryd.prog l #[eB x] wr fun e W' => (e = .returned (.bool true) ∧ J ([a0, a1, a2].take (k + 1)) W' ∧ Below n₀ wr W') ∨ (e = .returned (.bool false) ∧ ∃ pre, pre <+: a0 :: a1 :: a2 :: pay ∧ Jx pre W') := fun k x hk3 hx hJ => by
    have ht : [a0, a1, a2].take (k + 1) = [a0, a1, a2].take k ++ [x] := by rw [List.take_add_one, hx]; rfl
    obtain ⟨fn, tmps, assign, body, hy, hR⟩ := hY _ x wr hJ (by simp; omega)
    refine ⟨fn, tmps, assign, body, hy, hR.mono ?_⟩
    rintro e W' (⟨rfl, h1, h2⟩ | ⟨rfl, h1⟩)
    · exact .inl ⟨rfl, by rw [ht]; exact h1, h2⟩
    · refine .inr ⟨rfl, _, ?_, h1⟩
      rw [← ht]
      exact List.IsPrefix.trans (List.take_prefix _ _) ⟨pay, rfl⟩
  by_cases hlt : k < 3
  · rcases (show k = 0 ∨ k = 1 ∨ k = 2 by omega) with rfl | rfl | rfl
    · obtain ⟨fn, tmps, assign, body, hy, hR⟩ := hstep 0 a0 (by omega) rfl hJs
      have Hnx := Lib.hid hnx
      clear hstep hJs hnx h0 hlt hk
      gi_wp2_with fail
      refine hR.mono ?_
      rintro e W3 (⟨rfl, hJ3, hk3⟩ | ⟨rfl, hJx3⟩)
      · gi_wp2
        go_roundw
        case rel => exact ⟨1, by omega, rfl, hJ3, Hnx.out.trans hk3⟩
        case measure => simp [intOf]
      · gi_wp2
        refine bodyPost_ret (results_none rfl _ _ _) rfl ?_
        exact ⟨⟨_, rfl⟩, .inr hJx3⟩
    · obtain ⟨fn, tmps, assign, body, hy, hR⟩ := hstep 1 a1 (by omega) rfl hJs
      have Hnx := Lib.hid hnx
      clear hstep hJs hnx h0 hlt hk
      gi_wp2_with fail
      refine hR.mono ?_
      rintro e W3 (⟨rfl, hJ3, hk3⟩ | ⟨rfl, hJx3⟩)
      · gi_wp2
        go_roundw
        case rel => exact ⟨2, by omega, rfl, hJ3, Hnx.out.trans hk3⟩
        case measure => simp [intOf]
      · gi_wp2
        refine bodyPost_ret (results_none rfl _ _ _) rfl ?_
        exact ⟨⟨_, rfl⟩, .inr hJx3⟩
    · obtain ⟨fn, tmps, assign, body, hy, hR⟩ := hstep 2 a2 (by omega) rfl hJs
      have Hnx := Lib.hid hnx
      clear hstep hJs hnx h0 hlt hk
      gi_wp2_with fail
      refine hR.mono ?_
      rintro e W3 (⟨rfl, hJ3, hk3⟩ | ⟨rfl, hJx3⟩)
      · gi_wp2
        go_roundw
        case rel => exact ⟨3, by omega, rfl, hJ3, Hnx.out.trans hk3⟩
        case measure => simp [intOf]
      · gi_wp2
        refine bodyPost_ret (results_none rfl _ _ _) rfl ?_
        exact ⟨⟨_, rfl⟩, .inr hJx3⟩
  · obtain rfl : k = 3 := by omega
    have hl : decide ((3 : Int) < (3 : Int)) = false := by decide
    rw [show ((3 : Nat) : Int) = (3 : Int) from rfl]
    have hJ3 : J (a0 :: a1 :: a2 :: pay.take 0) wr := hJs
    have k2 : wr.cell? ⟨B1, 2, none⟩ = some (.slice A pay.length c) := (hnx.cell (p := ⟨B1, 2, none⟩) hB1).trans (HR.out.cell 2)
    have HS2 := Lib.hid (HS.out.below hnx)
    clear hstep hJs h0 hlt hk i0 i1 i2
    gi_wp2_with fail
    gi_loopw [29] (fun i wx => ∃ k : Nat, k ≤ pay.length ∧ i = .int .i64 k ∧ J (a0 :: a1 :: a2 :: pay.take k) wx ∧ Below n₀ W wx) (fun i _ => pay.length - (intOf i).toNat)
    case atStart => exact ⟨0, Nat.zero_le _, rfl, hJ3, hnx⟩
    case round =>
     obtain ⟨k, hk, rfl, hJs, hnx2⟩ := hrel
     by_cases hlt : k < pay.length
     · obtain ⟨A', c', he, _, hcs⟩ := HS.out.below hnx2
       injection he with he1 he2 he3
       subst he1 he3
       obtain ⟨b, off, rfl, hb, hcell⟩ := hcs (by omega)
       obtain ⟨x, hx⟩ : ∃ x, pay[k] = x := ⟨_, rfl⟩
       have hck := hcell k x (by rw [List.getElem?_eq_getElem hlt, hx])
       have dl : decide ((k : Int) < (pay.length : Int)) = true := decide_eq_true (by omega)
       have ht : a0 :: a1 :: a2 :: pay.take (k + 1) = (a0 :: a1 :: a2 :: pay.take k) ++ [x] := by
        rw [List.take_succ_eq_append_getElem hlt, hx]; rfl
       have hpre : (a0 :: a1 :: a2 :: pay.take k) ++ [x] <+: a0 :: a1 :: a2 :: pay := by
        rw [← ht]
        exact ⟨pay.drop (k + 1), by simp⟩
       obtain ⟨fn, tmps, assign, body, hy, hR⟩ := hY _ x _ hJs (by simp; omega)
       rw [← ht] at hR
       have Hnx := Lib.hid hnx2
       have Hpre := Lib.hid (by rw [← ht] at hpre; exact hpre)
       have Hlt := Lib.hid hlt
       have hkl : (k : Int) < (pay.length : Int) := by omega
       have hk9 : k ≤ 900 := by have := HP.out; omega
       clear hcell hcs ht hpre hx hlt hk hJs hnx hnx2 hJ3 hY
       gi_wp2_with fail
       refine hR.mono ?_
       rintro e W3 (⟨rfl, hJ4, hk3⟩ | ⟨rfl, hJx3⟩)
       · gi_wp2
         go_roundw
         case rel => exact ⟨k + 1, Hlt.out, by go_num, hJ4, Hnx.out.trans hk3⟩
         case measure => have := Hlt.out; simp [intOf]; omega
       · gi_wp2
         refine bodyPost_ret (results_none rfl _ _ _) rfl ?_
         exact ⟨⟨_, rfl⟩, .inr ⟨_, Hpre.out, hJx3⟩⟩
     · obtain rfl : k = pay.length := by omega
       have dl : decide ((pay.length : Int) < (pay.length : Int)) = false := decide_eq_false (by omega)
       rw [List.take_length] at hJs
       gi_wp2
       go_end0
       exact ⟨⟨_, rfl⟩, .inl ⟨_, rfl, hJs⟩⟩
theorem said_stops (n : Nat) (B1 n₀ : Nat) (G PL : Int) (pv : Value) (pay : List UInt8) (hp : pay.length ≤ 900) (w : World) (hr : Rowed w B1 26 (frB G PL pv)) (hB1 : B1 < n₀) (hn : n₀ ≤ w.heap.size) (hS : Sl eB n₀ w pv pay) :
    SeqStopsK Fence.wide (n + 1) Tryd.prog 33 #[.pointer (some ⟨B1, 0, none⟩)] (fun x : UInt8 => #[eB x]) (Below n₀) (fun ys => ys = saidG G PL pay) (fun pre => pre <+: saidG G PL pay) (saidG G PL pay).length w := fun l J Jx W hW _ _ hY h0 =>
  said1_in n l B1 n₀ G PL pv pay hp J Jx hY W (((hW.mono hn).block _ hB1).trans hr) hB1 (hS.below (hW.mono hn)) h0
end Go.Proofs.YtjclfkbhakjdaaaDoor
namespace Go.Proofs.YtjclfkbhakjdaaaDoor
open Go.RowKit Go.Shelf
attribute [local go_sem] Oper.semAt_some run_store_func
set_option maxRecDepth 100000 in
set_option maxHeartbeats 4000000 in
theorem AppendSeq_any (gf : Nat) (lb : Array Value) (xs : List UInt8) (hxs : xs.length ≤ 1000) (w : World) (hen : ∀ args w, (callFunc gf args).run Tryd.prog w = .ok (.enter gf args) w)
    (hseq : SeqStopsK Fence.wide 4 Tryd.prog gf lb (fun x : UInt8 => #[eB x]) (Below w.heap.size) (fun ys => ys = xs) (fun pre => pre <+: xs) xs.length w) :
    Calls Tryd.prog 32 #[.slice none 0 0, .func (.func gf) #[] lb] w fun e w' => ∃ v, e = .returned v ∧ Own8 w.heap.size w' v xs ∧ Below w.heap.size w w' := by
 refine (callsIn_wide (n := 5)).1 ?_
 obtain ⟨i0, hi, hz0, hz1, hz2⟩ := info_parts info_u8
 refine callsIn_of_wp_marks Tryd.func32 rfl trivial ?_ rfl
 simp only [Tryd.ntmps32, List.size_toArray, List.length_cons, List.length_nil, Nat.reduceAdd, Nat.reduceSub, Array.replicate_succ, Array.replicate_zero, List.push_toArray, List.append_toArray, List.nil_append, List.cons_append]
 have hA := below_alloc w (.cells #[.slice none 0 0] 24)
 have hb0 := Boxed.new w 24 (.slice none 0 0)
 have hsz := World.size_alloc w (.cells #[.slice none 0 0] 24)
 gi_wp2_with fail
 generalize w.alloc (.cells #[.slice none 0 0] 24) = w0 at *
 refine wpIn_rangeFunc_ownG rfl (by decide) (gf := gf) (lb := lb) rfl trivial hen
   hseq (fun h k => h.trans k) (belowK_b (by omega)) hA (fun _ => rfl)
   (fun (pre : List UInt8) W => (∃ v, Boxed W w.heap.size 24 v ∧ W.ownsRow w.heap.size 5 1 v pre.length (pre.map eB) ∧ True) ∧ Below w.heap.size w W)
   (fun _ _ _ => False)
   (OwnFrom.and (Own.from (holdsRow_own w.heap.size w.heap.size 24 5 1 (fun (pre : List UInt8) => pre.length) (fun (pre : List UInt8) => pre.map eB) (fun _ _ => True)) _) (ownFrom_below (Nat.le_refl _) (by omega)))
   (fun _ _ _ _ _ hs _ _ => hs)
   ⟨⟨_, hb0, ⟨rfl, .inl ⟨rfl, rfl⟩⟩, trivial⟩, hA⟩
   (fun x => { tmps := #[.slice none 0 0, .func (.func gf) #[] lb, .pointer (some ⟨w.heap.size, 0, none⟩), undef, .slice none 0 0, eB x, .func (.func gf) #[] lb, eB x, undef, undef, undef, undef, undef], defers := [] }) ?assign ?body ?done ?stop
 case assign =>
  intro l x W K hK
  gi_wp2
  exact hK
 case body =>
  rintro l pre x W ⟨⟨v, hv, hrow, -⟩, hB⟩ hlt
  have hc := hv.cell
  have hf := hv.frozen
  have hm1 : pre.length + 1 ≤ maxLen := by unfold maxLen; omega
  gi_wp2_with
    (gi_at_builtin; refine wpListIn_append_own _ rfl _ _ 24 rfl w.heap.size 5 i0 (.int .u8 0) 1 1 Tryd.underlying24 hi hz0 hz1 hz2 rfl (by decide) _ _ _ rfl (hrow.alloc _) ⟨W.heap.size, 0, none⟩ 1 1 [eB x] rfl rfl (cell_one_new _ _ _) (by simp [Value.oneCell']) hm1 (by omega) (by have := hB.size; simp; omega) ?_
     intro v' w2 hown' hgrow _
     obtain ⟨g', cap', rfl⟩ := ownsRow_succ hown'
     obtain ⟨hv1', hv2', hr2, hk2, hbl2⟩ := hv.appended (by decide) hrow hB.size (Nat.le_refl _) hown' hgrow
     have hc1 := hv1'.cell
     have hf1 := hv1'.frozen)
  exact ⟨hk2.from _, hbl2, ⟨_, hv2', by simpa using hr2, trivial⟩, hB.trans hbl2⟩
 case done =>
  rintro D ys W hD rfl ⟨⟨v, hv, hrow, -⟩, hB⟩ hK
  have hc := hv.cell
  gi_wp2
  refine ⟨by simp, .inl ⟨_, _, rfl, run_takeDeferred hK, ?_⟩⟩
  exact ⟨_, results_tmp rfl _ _ _, v, rfl, ownsRow_putObj hrow _ hK rfl, hB.trans (belowK_b (w := w) (Nat.le_refl _) _ D _ _ (by omega) hK rfl rfl)⟩
 case stop =>
  rintro D c pre W _ _ h _
  exact h.elim
set_option maxHeartbeats 1000000 in
theorem Collect_any (gf : Nat) (lb : Array Value) (xs : List UInt8) (hxs : xs.length ≤ 1000) (w : World) (hen : ∀ args w, (callFunc gf args).run Tryd.prog w = .ok (.enter gf args) w)
    (hseq : SeqStopsK Fence.wide 4 Tryd.prog gf lb (fun x : UInt8 => #[eB x]) (Below w.heap.size) (fun ys => ys = xs) (fun pre => pre <+: xs) xs.length w) :
    Calls Tryd.prog 20 #[.func (.func gf) #[] lb] w fun e w' => ∃ v, e = .returned v ∧ Own8 w.heap.size w' v xs ∧ Below w.heap.size w w' := by
 go_enter Tryd.func20, Tryd.ntmps20
 go_wp2_with fail
 go_at_call 32
 refine (AppendSeq_any gf lb xs hxs w hen hseq).mono ?_
 rintro e w' ⟨v, rfl, hv, hB⟩
 go_wp2
 go_ret
 exact ⟨v, rfl, hv, hB⟩
end Go.Proofs.YtjclfkbhakjdaaaDoor
