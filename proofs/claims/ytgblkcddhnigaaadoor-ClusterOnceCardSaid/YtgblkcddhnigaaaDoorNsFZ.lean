import Derived.Laws.Externs
import Derived.Test.YtgblkcddhnigaaaDoorNsCZ
namespace Go.Proofs.YtgblkcddhnigaaaDoor
open Go.RowKit Go.Shelf
attribute [local go_sem] Oper.semAt_some
set_option maxRecDepth 100000 in
set_option maxHeartbeats 2000000 in
theorem Valid_any (sv : Value) (bs : List UInt8) (hreach : bs.length ≤ 140737488351232) (w : World) (hS : Sl eB w.heap.size w sv bs) (hT : Tab w) :
    Calls Tryd.prog 57 #[sv] w fun e W' => e = .returned (.bool (decide ((-1 : Int) ∉ codesOf bs))) ∧ Below w.heap.size w W' := by
  refine (callsIn_wide (n := 5)).1 ?_
  obtain ⟨A, cap, rfl⟩ := hS.len
  refine callsIn_of_wp_marks Tryd.func57 rfl trivial ?_ rfl
  simp only [Tryd.ntmps57, List.size_toArray, List.length_cons, List.length_nil, Nat.reduceAdd, Nat.reduceSub, Array.replicate_succ, Array.replicate_zero, List.push_toArray, List.append_toArray, List.nil_append, List.cons_append]
  gi_wp2_with (refine ⟨trivial, ?_⟩; gi_at_call 58; refine (callsIn_wide.2 (codes_any _ _ _ _)).mono ?_; rintro e w' ⟨rfl, rfl⟩)
  obtain ⟨W0, hW0⟩ : ∃ W0, (w.alloc (Obj.cells #[Value.bool false] 4)).alloc (Obj.cells #[Value.slice A bs.length cap] 34) = W0 := ⟨_, rfl⟩
  have hs0 : W0.heap.size = w.heap.size + 2 := by rw [← hW0]; simp
  have hB0 : Below w.heap.size w W0 := by
   rw [← hW0]
   exact ((Below.refl _ w).alloc (Nat.le_refl _) _).alloc (by simp) _
  have b1 : Boxed W0 w.heap.size 4 (.bool false) := by
   rw [← hW0]
   exact (Boxed.new w 4 (.bool false)).alloc _
  have b3 : Boxed W0 (w.heap.size + 1) 34 (.slice A bs.length cap) := by
   rw [← hW0]
   have := Boxed.new (w.alloc (Obj.cells #[Value.bool false] 4)) 34 (Value.slice A bs.length cap)
   simpa only [World.size_alloc] using this
  have hT0 : Tab W0 := hT.below hB0
  rw [hW0]
  refine wpIn_rangeFunc_ownG rfl (by decide) (gf := 71) (lb := #[.pointer (some ⟨w.heap.size + 1, 0, none⟩)]) rfl trivial (enters_of Tryd.func71 (by kernel_rfl) rfl)
   (codes_stops 3 (w.heap.size + 1) w.heap.size _ bs (by omega) W0 (by omega) (by omega) hT.lt b3.cell (hS.below hB0) hT0) belowK_t (belowK_b (by omega)) (Below.refl _ _) (fun _ => rfl)
   (fun (pre : List Int) W => (Boxed W w.heap.size 4 (.bool false) ∧ (-1 : Int) ∉ pre) ∧ Below w.heap.size w W)
   (fun c (pre : List Int) W => (c = .ret ∧ Boxed W w.heap.size 4 (.bool false) ∧ (-1 : Int) ∈ pre) ∧ Below w.heap.size w W)
   (OwnFrom.and (OwnFrom.and (Own.from (boxed_own w.heap.size 4 (fun _ => .bool false)) _) (ownFrom_pure _ (fun (pre : List Int) => (-1 : Int) ∉ pre))) (ownFrom_below (Nat.le_refl _) (by omega)))
   (fun c => OwnFrom.and (OwnFrom.and (ownFrom_pure _ (fun _ => c = .ret)) (OwnFrom.and (Own.from (boxed_own w.heap.size 4 (fun _ => .bool false)) _) (ownFrom_pure _ (fun (pre : List Int) => (-1 : Int) ∈ pre)))) (ownFrom_below (Nat.le_refl _) (by omega)))
   ⟨⟨b1, by simp⟩, hB0⟩
   (fun x => { tmps := #[.slice A bs.length cap, undef, .pointer (some ⟨w.heap.size, 0, none⟩), .int .i64 x, .slice A bs.length cap, .func (.func 71) #[] #[.pointer (some ⟨w.heap.size + 1, 0, none⟩)], .int .i64 x, undef, undef], defers := [] }) ?assign ?body ?done ?stop
  case assign =>
   intro l x W K hK
   gi_wp2
   exact hK
  case body =>
   rintro l pre x W ⟨⟨hv, hnot⟩, hB⟩ hlt
   have hc := hv.cell
   have hf := hv.frozen
   by_cases hx : x = -1
   · subst hx
     gi_wp2
     exact ⟨(KeepsOthers.setCell W _ _).from _, ⟨rfl, hv.set _, by simp⟩, hB.setCell (p := ⟨w.heap.size, 0, none⟩) (Nat.le_refl _) _⟩
   · have hxb : (x == -1) = false := by simpa using hx
     gi_wp2
     refine ⟨KeepsFrom.refl _ _, Below.refl _ _, ⟨hv, ?_⟩, hB⟩
     simp only [List.mem_append, List.mem_singleton]
     exact fun h => h.elim hnot (fun e => hx e.symm)
  case done =>
   rintro D ys W hD rfl ⟨⟨hv, hnot⟩, hB⟩ hK
   have hc := hv.cell
   have hf := hv.frozen
   gi_wp2
   have hK' := (KeepsOthers.setCell W ⟨w.heap.size, 0, none⟩ (.bool true)).same D _ hK rfl
   refine ⟨by simp, .inl ⟨_, _, rfl, run_takeDeferred hK', ?_⟩⟩
   have hc5 := cell_kept (hv.set (.bool true)).cell (grownBy_putObj' _ D (.deferred none)) (fun r e => by cases e; exact ⟨_, hK', rfl⟩)
   refine ⟨.bool true, ?_, by simp [hnot], (hB.setCell (p := ⟨w.heap.size, 0, none⟩) (Nat.le_refl _) _).trans (belowK_b (w := w) (Nat.le_refl _) _ D _ _ (by omega) hK' rfl rfl)⟩
   simp [results, Tryd.f57, go_sem, hc5]
  case stop =>
   rintro D c pre W hD hpre ⟨⟨rfl, hv, hin⟩, hB⟩ hK
   have hc := hv.cell
   gi_wp2
   refine ⟨by simp, .inl ⟨_, _, rfl, run_takeDeferred hK, ?_⟩⟩
   have hc5 := cell_kept hc (grownBy_putObj' _ D (.deferred none)) (fun r e => by cases e; exact ⟨_, hK, rfl⟩)
   have hin' := hpre.subset hin
   refine ⟨.bool false, ?_, by simp [hin'], hB.trans (belowK_b (w := w) (Nat.le_refl _) _ D _ _ (by omega) hK rfl rfl)⟩
   simp [results, Tryd.f57, go_sem, hc5]
set_option maxHeartbeats 400000 in
theorem Backward_any (A : Option Addr) (len cap : Nat) (w : World) :
    Calls Tryd.prog 51 #[.slice A len cap] w fun e w' => e = .returned (.func (.func 59) #[] #[.pointer (some ⟨w.heap.size, 0, none⟩)]) ∧ w' = w.alloc (.cells #[.slice A len cap] 31) := by
  go_enter Tryd.func51, Tryd.ntmps51
  go_wp2
  go_ret
  exact ⟨rfl, rfl⟩
def backAt (l : List Int) (k : Nat) : List (Int × Int) := (List.range k).map fun (j : Nat) => ((l.length : Int) - 1 - (j : Int), l[l.length - 1 - j]?.getD 0)
theorem backAt_succ (l : List Int) (k : Nat) : backAt l (k + 1) = backAt l k ++ [((l.length : Int) - 1 - k, l[l.length - 1 - k]?.getD 0)] := by simp [backAt, List.range_succ]
theorem backAt_length (l : List Int) (k : Nat) : (backAt l k).length = k := by simp [backAt]
theorem backAt_snd (l : List Int) : (backAt l l.length).map (·.2) = l.reverse := by
 apply List.ext_getElem
 · simp [backAt]
 · intro i h1 h2
   simp [backAt] at h1 h2 ⊢
   rw [List.getElem?_eq_getElem (by omega)]
   rfl
set_option maxRecDepth 100000 in
set_option maxHeartbeats 2000000 in
theorem Backward1_in (n : Nat) (l Bs n₀ : Nat) (sv : Value) (zs : List Int) (hreach : zs.length ≤ 140737488351232) (J Jx : List (Int × Int) → World → Prop)
    (hY : ∀ pre x W, J pre W → pre.length < zs.length → YieldAt Fence.wide n Tryd.prog l #[.int .i64 x.1, .int .i64 x.2] W fun e W' =>
     (e = .returned (.bool true) ∧ J (pre ++ [x]) W' ∧ KeepBox n₀ Bs 31 W W') ∨ (e = .returned (.bool false) ∧ Jx (pre ++ [x]) W'))
    (W : World) (hBs : Boxed W Bs 31 sv) (hS : Sl eI n₀ W sv zs) (h0 : J [] W) :
    CallsIn Fence.wide (n + 1) Tryd.prog 59 #[.func (.yield l) #[] #[], .pointer (some ⟨Bs, 0, none⟩)] W fun e W' => (∃ v, e = .returned v) ∧
      ((∃ ys, ys = backAt zs zs.length ∧ J ys W') ∨ (∃ pre, (∃ k, k ≤ zs.length ∧ pre = backAt zs k) ∧ Jx pre W')) := by
 obtain ⟨A, cap, rfl, hcap, hcs⟩ := hS
 refine callsIn_of_wp Tryd.func59 rfl trivial ?_ rfl
 simp only [Tryd.ntmps59, List.size_toArray, List.length_cons, List.length_nil, Nat.reduceAdd, Nat.reduceSub, Array.replicate_succ, Array.replicate_zero, List.push_toArray, List.append_toArray, List.nil_append, List.cons_append]
 have hBc := hBs.cell
 gi_wp2
 gi_loopw [3] (fun i wr => ∃ (k : Nat) (iv : Int), k ≤ zs.length ∧ i = .int .i64 iv ∧ iv = (zs.length : Int) - 1 - k ∧ J (backAt zs k) wr ∧ KeepBox n₀ Bs 31 W wr)
  (fun i _ => (intOf i + 1).toNat)
 case atStart => exact ⟨0, _, Nat.zero_le _, rfl, by simp, h0, keepBox_refl _ _ _ _⟩
 case round =>
  obtain ⟨k, iv, hk, rfl, hiv, hJs, hnx⟩ := hrel
  by_cases hlt : k < zs.length
  · obtain ⟨b, off, rfl, hb, hcell⟩ := hcs (by omega)
    obtain ⟨j, hj⟩ : ∃ j : Nat, zs.length = k + j + 1 := ⟨zs.length - k - 1, by omega⟩
    obtain rfl : iv = (j : Int) := by omega
    have hlj : j < zs.length := by omega
    have hcx : wr.cell? ⟨b, off + j, none⟩ = some (eI zs[j]) := (hnx.1.cell (p := ⟨b, off + j, none⟩) hb).trans (hcell j _ (by simp [hlj]))
    have hcb : wr.cell? ⟨Bs, 0, none⟩ = some (.slice (some ⟨b, off, none⟩) zs.length cap) := (hnx.2 _ hBs).cell
    have hnext : backAt zs k ++ [((j : Int), zs[j])] = backAt zs (k + 1) := by
     rw [backAt_succ, show zs.length - 1 - k = j from by omega, List.getElem?_eq_getElem hlj, Option.getD_some, hiv]
    obtain ⟨fn, tmps, assign, body, hy, hR⟩ := hY _ ((j : Int), zs[j]) wr hJs (by rw [backAt_length]; exact hlt)
    rw [hnext] at hR
    dsimp only at hy
    clear hnext hcell hcs
    have Hiv := Lib.hid hiv
    have Hj := Lib.hid hj
    have hjz : (j : Int) < zs.length := by omega
    have hjm : (j : Int) ≤ 140737488351232 := by omega
    clear hiv hj
    gi_wp2
    refine hR.mono ?_
    rintro e W3 (⟨rfl, hJ3, hk3⟩ | ⟨rfl, hJx3⟩)
    · gi_wp2
      go_roundw
      case rel => exact ⟨k + 1, _, by omega, rfl, by have := Hiv.out; omega, hJ3, keepBox_t hnx hk3⟩
      case measure => simp [intOf]
    · gi_wp2
      refine bodyPost_ret (results_none rfl _ _ _) rfl ?_
      exact ⟨⟨_, rfl⟩, .inr ⟨_, ⟨k + 1, by omega, rfl⟩, hJx3⟩⟩
  · obtain rfl : k = zs.length := by omega
    obtain rfl : iv = -1 := by omega
    clear hiv
    gi_wp2
    go_end0
    exact ⟨⟨_, rfl⟩, .inl ⟨_, rfl, hJs⟩⟩
theorem Backward_stops (n : Nat) (Bs n₀ : Nat) (sv : Value) (zs : List Int) (hreach : zs.length ≤ 140737488351232) (w : World) (hn₀ : n₀ ≤ w.heap.size)
    (hc : Boxed w Bs 31 sv) (hS : Sl eI n₀ w sv zs) :
    SeqStopsK Fence.wide (n + 1) Tryd.prog 59 #[.pointer (some ⟨Bs, 0, none⟩)] (fun x : Int × Int => #[Value.int .i64 x.1, Value.int .i64 x.2]) (KeepBox n₀ Bs 31) (fun ys => ys = backAt zs zs.length) (fun pre => ∃ k, k ≤ zs.length ∧ pre = backAt zs k) zs.length w := fun l J Jx W hW _ _ hY h0 =>
 Backward1_in n l Bs n₀ sv zs hreach J Jx hY W ((hW.block Bs hc.lt).trans hc) (hS.below (hW.mono hn₀)) h0
end Go.Proofs.YtgblkcddhnigaaaDoor
namespace Go.Proofs.YtgblkcddhnigaaaDoor
open Go.RowKit Go.Shelf
attribute [local go_sem] Oper.semAt_some
set_option maxRecDepth 100000 in
set_option maxHeartbeats 400000 in
theorem Compare_any (sa sb : Value) (a b : List UInt8) (B : Nat) (w : World) (ha : Sl eB B w sa a) (hb : Sl eB B w sb b) :
    Calls Tryd.prog 42 #[sa, sb] w fun e w' => e = .returned (.int .i64 (Lib.compareBytes a b)) ∧ w = w' := by
  have hx : ∀ w, (callFunc 53 #[sa, sb]).run Tryd.prog w = ((Extern.BytealgCompare.compare #[sa, sb]).run Tryd.prog w).andThen fun v w' => .ok (.value v) w' := fun w =>
   run_callFunc_extern Tryd.func53 (by kernel_rfl) (by kernel_rfl) (by kernel_rfl) (e := Extern.BytealgCompare.compare) (by kernel_rfl) _ _
  have hc := run_compareSl (P := Tryd.prog) ha hb
  obtain ⟨Aa, ca, rfl⟩ := ha.len
  obtain ⟨Ab, cb, rfl⟩ := hb.len
  clear ha hb
  go_enter Tryd.func42, Tryd.ntmps42
  go_wp2
  go_ret
  exact ⟨rfl, rfl⟩
def rcOf (bs : List UInt8) : List UInt8 := (codesOf bs).reverse.map fun n => letterOf (3 - n)
theorem wrap64_mod4 (n : Int) : (wrap64 n) % 4 = n % 4 := by unfold wrap64; omega
theorem letterOf_wrap (n : Int) : letterOf (wrap64 n) = letterOf n := by unfold letterOf; rw [wrap64_mod4]
end Go.Proofs.YtgblkcddhnigaaaDoor
namespace Go.Proofs.YtgblkcddhnigaaaDoor
open Go.RowKit Go.Shelf
attribute [local go_sem] Oper.semAt_some
def leastOf (bs : List UInt8) : List UInt8 × Bool :=
 if (-1 : Int) ∈ codesOf bs then (bs, false) else if Lib.compareBytes (rcOf bs) bs < 0 then (rcOf bs, true) else (bs, false)
theorem below_alloc (w : World) (o : Obj) : Below w.heap.size w (w.alloc o) := (Below.refl _ w).alloc (Nat.le_refl _) o
end Go.Proofs.YtgblkcddhnigaaaDoor
