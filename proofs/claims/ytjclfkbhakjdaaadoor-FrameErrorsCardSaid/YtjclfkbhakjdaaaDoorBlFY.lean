import Derived.Defers
import Derived.Recover
import Derived.Deep.QuietTactic
import Derived.Test.YtjclfkbhakjdaaaDoorBlCY
namespace Go.Proofs.YtjclfkbhakjdaaaDoor.Bl
open Go.RowKit Go.Shelf
attribute [local go_sem] Oper.semAt_some run_store_func
set_option maxRecDepth 100000 in
set_option maxHeartbeats 2000000 in
theorem catch_idle (p : Addr) (w : World) :
    CallsD Tryd.prog 96 #[.pointer (some p)] .returning w fun e u' w' => e = .returned (.tuple #[]) ∧ u' = .returning ∧ w' = w := by
  refine callsD_of_wpS Tryd.func96 rfl fun c₀ cs hu => ?_
  apply wpS_seq
  apply wpS_region
  simp [wpOpsS, go_sem, recoverD, hu, Tryd.ntmps96, Exit.thenS]
  refine wpS_of_wp ?_
  go_wp2
  cases c₀
  simp_all [bodyPostS, results, Tryd.results96]
set_option maxRecDepth 100000 in
set_option maxHeartbeats 2000000 in
theorem catch_take (b : Nat) (n : Int) (v0 : Value) (w : World) (hc : w.cell? ⟨b, 0, none⟩ = some v0) (hf : w.frozen? ⟨b, 0, none⟩ = false) :
    CallsD Tryd.prog 96 #[.pointer (some ⟨b, 0, none⟩)] (.panicking [{ v := .iface 28 (.int .i64 n), recovered := false }]) w fun e u' w' => e = .returned (.tuple #[]) ∧ u' = .panicking [{ v := .iface 28 (.int .i64 n), recovered := true }] ∧ w' = w.setCell ⟨b, 0, none⟩ (.int .i64 n) := by
  have hta : ∀ w, (Instr.typeAssert (.iface 28 (.int .i64 n)) 20 28 true).run Tryd.prog w = .ok (.tuple #[.int .i64 n, .bool true]) w := fun _ => by kernel_rfl
  refine callsD_of_wpS Tryd.func96 rfl fun c₀ cs hu => ?_
  apply wpS_seq
  apply wpS_region
  simp [wpOpsS, go_sem, recoverD, hu, Tryd.ntmps96, Exit.thenS]
  refine wpS_of_wp ?_
  go_wp2
  cases c₀
  simp_all [bodyPostS, results, Tryd.results96]
end Go.Proofs.YtjclfkbhakjdaaaDoor.Bl
namespace Go.Proofs.YtjclfkbhakjdaaaDoor.Bl
open Go.RowKit Go.Shelf
attribute [local go_sem] Oper.semAt_some run_store_func
set_option maxRecDepth 100000 in
set_option maxHeartbeats 2000000 in
theorem Flip1_any (sv v0 : Value) (bs : List UInt8) (k : Int) (b1 b2 b3 : Nat) (hreach : bs.length ≤ 17592186044416) (w : World) (hS : Sl eB w.heap.size w sv bs) (hT : Tab w) (hO : TabO w)
    (h1 : w.cell? ⟨b1, 0, none⟩ = some sv) (h2 : w.cell? ⟨b2, 0, none⟩ = some (.int .i64 k)) (h3 : Boxed w b3 24 v0) :
    Calls Tryd.prog 79 #[.pointer (some ⟨b1, 0, none⟩), .pointer (some ⟨b2, 0, none⟩), .pointer (some ⟨b3, 0, none⟩)] w fun e W' =>
     (∃ v w1, e = .returned (.tuple #[]) ∧ Below w.heap.size w w1 ∧ (-1 : Int) ∉ codesOf bs ∧ Fresh w.heap.size v ∧ Sl eB w1.heap.size w1 v (flipOf bs k) ∧ W' = w1.setCell ⟨b3, 0, none⟩ v) ∨
     (e = .panicked [{ v := .iface 28 (.int .i64 10), recovered := false }] ∧ Below w.heap.size w W' ∧ (-1 : Int) ∈ codesOf bs) := by
 go_enter Tryd.func79, Tryd.ntmps79
 go_wp2_with fail
 go_at_call 80
 refine (flipped_any sv bs k hreach _ w hS (Nat.le_refl _) hT hO).mono ?_
 rintro e w1 ⟨hB, ⟨v, rfl, hfine, hfr, hv⟩ | ⟨rfl, hbad⟩⟩
 · obtain ⟨A, cap, rfl⟩ := hv.len
   have h3' : Boxed w1 b3 24 v0 := (hB.block b3 h3.lt).trans h3
   have hc := h3'.cell
   have hf := h3'.frozen
   go_wp2
   go_end0
   exact .inl ⟨_, w1, rfl, hB, hfine, hfr, hv, rfl⟩
 · go_wp2
   exact ⟨rfl, .inr ⟨rfl, hB, hbad⟩⟩
set_option maxRecDepth 100000 in
set_option maxHeartbeats 2000000 in
theorem caughtF (sv v0 : Value) (bs : List UInt8) (k : Int) (b1 b2 b3 : Nat) (hreach : bs.length ≤ 17592186044416) (w : World) (hS : Sl eB w.heap.size w sv bs) (hT : Tab w) (hO : TabO w)
    (h1 : w.cell? ⟨b1, 0, none⟩ = some sv) (h2 : w.cell? ⟨b2, 0, none⟩ = some (.int .i64 k)) (hl1 : b1 < w.heap.size) (hl2 : b2 < w.heap.size) (h3 : Boxed w b3 24 v0) :
    Calls Tryd.prog 76 #[.func (.func 79) #[] #[.pointer (some ⟨b1, 0, none⟩), .pointer (some ⟨b2, 0, none⟩), .pointer (some ⟨b3, 0, none⟩)]] w fun e W' =>
     (∃ v w1, e = .returned (.int .i64 0) ∧ Below w.heap.size w w1 ∧ (-1 : Int) ∉ codesOf bs ∧ Fresh (w.heap.size + 1) v ∧ Sl eB w1.heap.size w1 v (flipOf bs k) ∧ W' = (w1.setCell ⟨b3, 0, none⟩ v).setCell ⟨w.heap.size, 0, none⟩ (.int .i64 0)) ∨
     (∃ w1, e = .returned (.int .i64 10) ∧ Below w.heap.size w w1 ∧ (-1 : Int) ∈ codesOf bs ∧ W' = w1.setCell ⟨w.heap.size, 0, none⟩ (.int .i64 10)) := by
 have hmf : ∀ (fn : Fn) (first cap : Array Value) (w : World), (Instr.makeFunc fn first cap).run Tryd.prog w = .ok (.func fn first cap) w := fun _ _ _ _ => rfl
 have hA := (Below.refl w.heap.size w).alloc (Nat.le_refl _) (.cells #[.int .i64 0] 28)
 have hb0 := Boxed.new w 28 (.int .i64 0)
 go_enter_defers Tryd.func76, Tryd.ntmps76
 go_wp2_with fail
 go_at_call 79
 refine (Flip1_any sv v0 bs k b1 b2 b3 hreach _ (hS.next hA) (hT.below hA) (hO.below hA) ((hA.cell (p := ⟨b1, 0, none⟩) hl1).trans h1) ((hA.cell (p := ⟨b2, 0, none⟩) hl2).trans h2) (h3.alloc _)).mono ?_
 have hb0l := hb0.lt
 rintro e w1 (⟨v, w2, rfl, hB, hfine, hfr, hv, rfl⟩ | ⟨rfl, hB, hbad⟩)
 · have hb3l := h3.lt
   have hb2 : Boxed (w2.setCell ⟨b3, 0, none⟩ v) w.heap.size 28 (.int .i64 0) := Boxed.kept (W := w2) ((hB.block w.heap.size hb0l).trans hb0) (grownBy_setCellAt w2 b3 0 v) (by simp; omega)
   have hc := hb2.cell
   have hf := hb2.frozen
   go_wp2
   refine leaves_cons (f := 96) (args := #[.pointer (some ⟨w.heap.size, 0, none⟩)]) (by simp) (by simp [go_sem]) ?_
   refine (catch_idle ⟨w.heap.size, 0, none⟩ _).mono ?_
   rintro e u' w'' ⟨rfl, rfl, rfl⟩
   have hc5 := (hb2.set (.int .i64 0)).cell
   have hB' : Below w.heap.size w w2 := hA.trans (hB.mono (by simp))
   refine ⟨.int .i64 0, ?_, .inl ⟨v, w2, rfl, hB', hfine, hfr.mono (by simp), hv, rfl⟩⟩
   simp [results, Tryd.f76, go_sem, hc5]
 · have hb2 : Boxed w1 w.heap.size 28 (.int .i64 0) := (hB.block w.heap.size hb0l).trans hb0
   have hc := hb2.cell
   have hf := hb2.frozen
   go_wp2
   refine leaves_cons (f := 96) (args := #[.pointer (some ⟨w.heap.size, 0, none⟩)]) (by simp) (by simp [go_sem]) ?_
   refine (catch_take w.heap.size 10 _ w1 hc hf).mono ?_
   rintro e u' w'' ⟨rfl, rfl, rfl⟩
   have hc5 := (hb2.set (.int .i64 10)).cell
   have hB' : Below w.heap.size w w1 := hA.trans (hB.mono (by simp))
   refine ⟨.int .i64 10, ?_, .inr ⟨w1, rfl, hB', hbad, rfl⟩⟩
   simp [results, Tryd.f76, go_sem, hc5]
set_option maxRecDepth 100000 in
set_option maxHeartbeats 2000000 in
theorem Flip_any (sv : Value) (bs : List UInt8) (k : Int) (hreach : bs.length ≤ 17592186044416) (w : World) (hS : Sl eB w.heap.size w sv bs) (hT : Tab w) (hO : TabO w) :
    Calls Tryd.prog 54 #[sv, .int .i64 k] w fun e W' => Below w.heap.size w W' ∧
      ((∃ v, e = .returned (.tuple #[v, .int .i64 0]) ∧ (-1 : Int) ∉ codesOf bs ∧ Fresh w.heap.size v ∧ Sl eB W'.heap.size W' v (flipOf bs k)) ∨
       (e = .returned (.tuple #[.slice none 0 0, .int .i64 10]) ∧ (-1 : Int) ∈ codesOf bs)) := by
  obtain ⟨A, cap, rfl⟩ := hS.len
  go_enter Tryd.func54, Tryd.ntmps54
  obtain ⟨W0, hW0⟩ : ∃ W0, ((w.alloc (Obj.cells #[Value.slice A bs.length cap] 24)).alloc (Obj.cells #[Value.int IntKind.i64 k] 3)).alloc (Obj.cells #[Value.slice none 0 0] 24) = W0 := ⟨_, rfl⟩
  have hs0 : W0.heap.size = w.heap.size + 3 := by rw [← hW0]; simp
  have hB0 : Below w.heap.size w W0 := by rw [← hW0]; exact (((Below.refl _ w).alloc (Nat.le_refl _) _).alloc (by simp) _).alloc (by simp; omega) _
  have b1 : Boxed W0 w.heap.size 24 (Value.slice A bs.length cap) := by rw [← hW0]; exact ((Boxed.new w _ _).alloc _).alloc _
  have b2 : Boxed W0 (w.heap.size + 1) 3 (Value.int IntKind.i64 k) := by
   rw [← hW0]
   have := (Boxed.new (w.alloc (Obj.cells #[Value.slice A bs.length cap] 24)) 3 (Value.int IntKind.i64 k)).alloc (Obj.cells #[Value.slice none 0 0] 24)
   rw [World.size_alloc] at this
   exact this
  have b3 : Boxed W0 (w.heap.size + 1 + 1) 24 (Value.slice none 0 0) := by
   rw [← hW0]
   have := Boxed.new ((w.alloc (Obj.cells #[Value.slice A bs.length cap] 24)).alloc (Obj.cells #[Value.int IntKind.i64 k] 3)) 24 (Value.slice none 0 0)
   rw [World.size_alloc, World.size_alloc] at this
   exact this
  go_wp2_with fail
  go_at_call 76
  refine (caughtF _ _ bs k w.heap.size (w.heap.size + 1) (w.heap.size + 1 + 1) hreach W0 (hS.next hB0) (hT.below hB0) (hO.below hB0) b1.cell b2.cell b1.lt b2.lt b3).mono ?_
  rintro e W' (⟨v, w1, rfl, hB, hfine, hfr, hv, rfl⟩ | ⟨w1, rfl, hB, hbad, rfl⟩)
  · have hb3 : Boxed w1 (w.heap.size + 1 + 1) 24 (Value.slice none 0 0) := (hB.block _ b3.lt).trans b3
    have hb3' : Boxed ((w1.setCell ⟨w.heap.size + 1 + 1, 0, none⟩ v).setCell ⟨W0.heap.size, 0, none⟩ (.int .i64 0)) (w.heap.size + 1 + 1) 24 v :=
     Boxed.kept (W := w1.setCell ⟨w.heap.size + 1 + 1, 0, none⟩ v) (hb3.set v) (grownBy_setCellAt _ W0.heap.size 0 _) (by simp; omega)
    have hc := hb3'.cell
    have hBw : Below w.heap.size w ((w1.setCell ⟨w.heap.size + 1 + 1, 0, none⟩ v).setCell ⟨W0.heap.size, 0, none⟩ (.int .i64 0)) :=
     ((below_trans hB0 hB).setCell (p := ⟨w.heap.size + 1 + 1, 0, none⟩) (by simp; omega) v).setCell (p := ⟨W0.heap.size, 0, none⟩) (by simp; omega) _
    have hvw : Sl eB ((w1.setCell ⟨w.heap.size + 1 + 1, 0, none⟩ v).setCell ⟨W0.heap.size, 0, none⟩ (.int .i64 0)).heap.size ((w1.setCell ⟨w.heap.size + 1 + 1, 0, none⟩ v).setCell ⟨W0.heap.size, 0, none⟩ (.int .i64 0)) v (flipOf bs k) :=
     ((hv.other hfr (w.heap.size + 1 + 1) 0 v (by omega)).other hfr W0.heap.size 0 (.int .i64 0) (by omega)).more (by simp)
    clear hW0 hv
    generalize World.setCell _ _ _ = W2 at *
    go_wp2
    go_ret2
    exact ⟨hBw, .inl ⟨v, rfl, hfine, hfr.mono (by omega), hvw⟩⟩
  · have hb3 : Boxed w1 (w.heap.size + 1 + 1) 24 (Value.slice none 0 0) := (hB.block _ b3.lt).trans b3
    have hb3' : Boxed (w1.setCell ⟨W0.heap.size, 0, none⟩ (.int .i64 10)) (w.heap.size + 1 + 1) 24 (Value.slice none 0 0) :=
     Boxed.kept (W := w1) hb3 (grownBy_setCellAt _ W0.heap.size 0 _) (by simp; omega)
    have hc := hb3'.cell
    have hBw : Below w.heap.size w (w1.setCell ⟨W0.heap.size, 0, none⟩ (.int .i64 10)) :=
     (below_trans hB0 hB).setCell (p := ⟨W0.heap.size, 0, none⟩) (by simp; omega) _
    clear hW0
    generalize World.setCell _ _ _ = W2 at *
    go_wp2
    go_ret2
    exact ⟨hBw, .inr ⟨rfl, hbad⟩⟩
end Go.Proofs.YtjclfkbhakjdaaaDoor.Bl
namespace Go.Proofs.YtjclfkbhakjdaaaDoor.Bl
open Go.RowKit Go.Shelf
attribute [local go_sem] Oper.semAt_some run_store_func
end Go.Proofs.YtjclfkbhakjdaaaDoor.Bl
namespace Go.Proofs.YtjclfkbhakjdaaaDoor
open Go.Proofs.YtjclfkbhakjdaaaDoor.Bl
open Go.RowKit Go.Shelf
attribute [local go_sem] Oper.semAt_some run_store_func
theorem Sl.cell2 {α : Type} {enc : α → Value} {B : Nat} {W : World} {A : Option Addr} {len cap : Nat} {xs : List α} (h : Sl enc B W (.slice A len cap) xs) (hn : 0 < xs.length) :
    ∃ b off, A = some ⟨b, off, none⟩ ∧ ∀ j x, xs[j]? = some x → W.cell? ⟨b, off + j, none⟩ = some (enc x) := by
  obtain ⟨A', c', e, _, hcells⟩ := h
  cases e
  obtain ⟨b, off, e, hb, hcell⟩ := hcells hn
  exact ⟨b, off, e, hcell⟩
end Go.Proofs.YtjclfkbhakjdaaaDoor
namespace Go.Proofs.YtjclfkbhakjdaaaDoor.Bl
open Go.RowKit Go.Shelf
attribute [local go_sem] Oper.semAt_some run_store_func
theorem below_drewN' (B : Nat) (w : World) (n : Nat) : Below B w (w.drewN n) := ⟨rfl, rfl, rfl, Nat.le_refl _, fun _ _ => rfl⟩
def mk (bs : List UInt8) : Nat → Int
  | 0 => gcOf bs
  | k + 1 => mk bs k + ((gcOf [flipB (bs[k]?.getD 0)] : Int) - gcOf [bs[k]?.getD 0])
theorem gc_one (c : UInt8) : gcOf [c] ≤ 1 := gcOf_le [c]
theorem mk_range (bs : List UInt8) (k : Nat) : -(k : Int) ≤ mk bs k ∧ mk bs k ≤ bs.length + k := by
 induction k with
 | zero => have := gcOf_le bs; simp only [mk]; omega
 | succ k ih =>
   have h1 := gc_one (flipB (bs[k]?.getD 0))
   have h2 := gc_one (bs[k]?.getD 0)
   simp only [mk]
   omega
def pairs (bs : List UInt8) : List (Nat × Int) := (List.range (bs.length + 1)).map fun k => (k, mk bs k)
theorem pairs_take (bs : List UInt8) (k : Nat) (h : k ≤ bs.length + 1) : (pairs bs).take k = (List.range k).map fun k => (k, mk bs k) := by
 rw [pairs, ← List.map_take, List.take_range, Nat.min_eq_left h]
set_option maxRecDepth 100000 in
set_option maxHeartbeats 1600000 in
theorem strong1_in (n : Nat) (l B1 B2 n₀ : Nat) (sv av : Value) (bs : List UInt8) (hreach : bs.length ≤ 17592186044416) (J Jx : List (Nat × Int) → World → Prop)
    (hY : ∀ pre x W, J pre W → pre.length < bs.length + 1 → YieldAt Fence.wide n Tryd.prog l #[.int .i64 (x.1 : Nat), .int .i64 x.2] W fun e W' =>
     (e = .returned (.bool true) ∧ J (pre ++ [x]) W' ∧ Below n₀ W W') ∨ (e = .returned (.bool false) ∧ Jx (pre ++ [x]) W'))
    (W : World) (h1 : W.cell? ⟨B1, 0, none⟩ = some sv) (h2 : W.cell? ⟨B2, 0, none⟩ = some av) (hl1 : B1 < n₀) (hl2 : B2 < n₀) (hS : Sl eB n₀ W sv bs) (hA : Sl eB n₀ W av (flipOf bs bs.length)) (h0 : J [] W) (hJab : AbidesFrom W.heap.size J) :
    CallsIn Fence.wide (n + 1) Tryd.prog 101 #[.func (.yield l) #[] #[], .pointer (some ⟨B1, 0, none⟩), .pointer (some ⟨B2, 0, none⟩)] W fun e W' => (∃ v, e = .returned v) ∧
      ((∃ ys, ys = pairs bs ∧ J ys W') ∨ (∃ pre, pre <+: pairs bs ∧ Jx pre W')) := by
 obtain ⟨A, cap, rfl⟩ := hS.len
 obtain ⟨A2, cap2, rfl⟩ := hA.len
 rw [flipOf_length] at *
 refine callsIn_of_wp Tryd.func101 rfl trivial ?_ rfl
 simp only [Tryd.ntmps101, List.size_toArray, List.length_cons, List.length_nil, Nat.reduceAdd, Nat.reduceSub, Array.replicate_succ, Array.replicate_zero, List.push_toArray, List.append_toArray, List.nil_append, List.cons_append]
 gi_wp2_with (refine ⟨trivial, ?_⟩; gi_at_call 102; refine (callsIn_wide.2 (Gc_any _ bs (by omega) n₀ _ hS)).mono ?_; rintro e w' ⟨rfl, rfl⟩)
 gi_loopw [4, 10] (fun z i wr => ∃ k : Nat, k ≤ bs.length ∧ i = .int .i64 k ∧ z = .int .i64 (mk bs k) ∧ J ((pairs bs).take k) wr ∧ Below n₀ W wr)
  (fun _ i _ => bs.length - (intOf i).toNat)
 case atStart => exact ⟨0, Nat.zero_le _, rfl, rfl, h0, Below.refl _ _⟩
 case round =>
  obtain ⟨k, hk, rfl, rfl, hJs, hnx⟩ := hrel
  have hpl : (pairs bs).length = bs.length + 1 := by simp [pairs]
  have hpre : (pairs bs).take (k + 1) <+: pairs bs := List.take_prefix _ _
  have hsn : (pairs bs).take k ++ [(k, mk bs k)] = (pairs bs).take (k + 1) := by
   rw [List.take_succ_eq_append_getElem (by rw [hpl]; omega)]
   congr 2
   simp [pairs]
  obtain ⟨fn, tmps, assign, body, hy, hR⟩ := hY _ (k, mk bs k) wr hJs (by rw [List.length_take, hpl]; omega)
  rw [hsn] at hR
  have Hpl := Lib.hid hpl
  clear hsn hpl
  dsimp only at hy hR
  by_cases hlt : k < bs.length
  · have hl : decide ((k : Int) < bs.length) = true := decide_eq_true (by omega)
    gi_wp2
    refine hR.mono ?_
    rintro e W3 (⟨rfl, hJ3, hk3⟩ | ⟨rfl, hJx3⟩)
    · have hn3 := hnx.trans hk3
      have h13 : W3.cell? ⟨B1, 0, none⟩ = some (.slice A bs.length cap) := (hn3.cell (p := ⟨B1, 0, none⟩) hl1).trans h1
      have h23 : W3.cell? ⟨B2, 0, none⟩ = some (.slice A2 bs.length cap2) := (hn3.cell (p := ⟨B2, 0, none⟩) hl2).trans h2
      have hS3 := hS.below hn3
      have hA3 := hA.below hn3
      obtain ⟨b, off, rfl, hc1⟩ := hS3.cell2 (by omega)
      obtain ⟨b', off', rfl, hc2⟩ := hA3.cell2 (by rw [flipOf_length]; omega)
      have kc1 : bs.length ≤ cap := by obtain ⟨_, _, e, h, _⟩ := hS3; injection e with e1 e2 e3; omega
      have kc2 : bs.length ≤ cap2 := by obtain ⟨_, _, e, h, _⟩ := hA3; injection e with e1 e2 e3; rw [flipOf_length] at h; omega
      have s1 := (hS3.from_ (p := k) (by omega) (some ⟨b, off + k, none⟩) (fun _ => by simp [Addr.add])).upto (p := 1) (by simp; omega)
      have hA3' : Sl eB n₀ W3 (.slice (some ⟨b', off', none⟩) (flipOf bs bs.length).length cap2) (flipOf bs bs.length) := by rw [flipOf_length]; exact hA3
      have s2 := (hA3'.from_ (p := k) (by rw [flipOf_length]; omega) (some ⟨b', off' + k, none⟩) (fun _ => by simp [Addr.add])).upto (p := 1) (by simp [flipOf_length]; omega)
      have t1 : (bs.drop k).take 1 = [bs[k]'hlt] := by rw [List.drop_eq_getElem_cons hlt]; rfl
      have t2 : ((flipOf bs bs.length).drop k).take 1 = [flipB (bs[k]'hlt)] := by
       rw [List.drop_eq_getElem_cons (by rw [flipOf_length]; exact hlt)]
       have h := flipOf_get bs bs.length k hlt
       rw [List.getElem?_eq_getElem (by rw [flipOf_length]; exact hlt)] at h
       rw [Option.some.inj h]
       simp [flipAt]; omega
      rw [t1] at s1
      rw [t2] at s2
      have q1 := fun x => (Gc_any _ _ (by simp) n₀ (W3.drewN x) (s1.of_cells fun _ _ => rfl)).mono fun e w' h => (⟨h.1, h.2.symm⟩ : e = .returned (.int .i64 (gcOf [bs[k]'hlt])) ∧ w' = W3.drewN x)
      have q2 := fun x => (Gc_any _ _ (by simp) n₀ (W3.drewN x) (s2.of_cells fun _ _ => rfl)).mono fun e w' h => (⟨h.1, h.2.symm⟩ : e = .returned (.int .i64 (gcOf [flipB (bs[k]'hlt)])) ∧ w' = W3.drewN x)
      have Hmk := Lib.hid (show mk bs (k + 1) = mk bs k + ((gcOf [flipB (bs[k]'hlt)] : Int) - gcOf [bs[k]'hlt]) by simp [mk, hlt])
      have g1 := gc_one (bs[k]'hlt)
      have g2 := gc_one (flipB (bs[k]'hlt))
      have hmr := mk_range bs k
      generalize gcOf [bs[k]'hlt] = u1 at *
      generalize gcOf [flipB (bs[k]'hlt)] = u2 at *
      have e1 : IntKind.i64.wrap ((k : Int) + 1) = ((k + 1 : Nat) : Int) := by rw [IntWalk.i64_in _ (by omega)]; omega
      have e2 : IntKind.i64.wrap ((u2 : Int) - u1) = (u2 : Int) - u1 := IntWalk.i64_in _ (by omega)
      have e3 : IntKind.i64.wrap (mk bs k + ((u2 : Int) - u1)) = mk bs (k + 1) := by rw [Hmk.out]; exact IntWalk.i64_in _ (by omega)
      clear s1 s2 t1 t2 hA3' hA3 hS3
      have m1 : (k : Int) ≤ cap := by omega
      have m2 : (k : Int) ≤ cap2 := by omega
      have m3 : ((k + 1 : Nat) : Int) ≤ cap := by omega
      have m4 : ((k + 1 : Nat) : Int) ≤ cap2 := by omega
      have m5 : ¬ cap = k := by omega
      have m6 : ¬ cap2 = k := by omega
      gi_wp2
      refine wpIn_wide.2 ?_
      go_quiet (first
       | (go_at_call 102; with_reducible exact Calls.quiet_of_same (q1 _))
       | (go_at_call 102; with_reducible exact Calls.quiet_of_same (q2 _)))
      have hJd : J ((pairs bs).take (k + 1)) (W3.drewN nq) := hJab _ _ _ none hJ3 ⟨rfl, rfl, rfl, Nat.le_refl _, fun _ _ _ => rfl⟩ (fun r e => by cases e)
      gi_wp2
      go_roundw
      case rel => exact ⟨k + 1, by omega, by go_num, rfl, hJd, hn3.trans (below_drewN' _ _ _)⟩
      case measure => simp [intOf]; omega
    · gi_wp2
      refine bodyPost_ret (results_none rfl _ _ _) rfl ?_
      exact ⟨⟨_, rfl⟩, .inr ⟨_, hpre, hJx3⟩⟩
  · obtain rfl : k = bs.length := by omega
    have h13 : wr.cell? ⟨B1, 0, none⟩ = some (.slice A bs.length cap) := (hnx.cell (p := ⟨B1, 0, none⟩) hl1).trans h1
    rw [List.take_of_length_le (by rw [Hpl.out]; exact Nat.le_refl _)] at hR
    gi_wp2
    refine hR.mono ?_
    rintro e W3 (⟨rfl, hJ3, hk3⟩ | ⟨rfl, hJx3⟩)
    · gi_wp2
      go_end0
      exact ⟨⟨_, rfl⟩, .inl ⟨_, rfl, hJ3⟩⟩
    · gi_wp2
      go_end0
      exact ⟨⟨_, rfl⟩, .inr ⟨_, List.prefix_refl _, hJx3⟩⟩
end Go.Proofs.YtjclfkbhakjdaaaDoor.Bl
