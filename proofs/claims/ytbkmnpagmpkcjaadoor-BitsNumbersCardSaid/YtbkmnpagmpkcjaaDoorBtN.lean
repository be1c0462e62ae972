/- Contracts of bits.Value and of its closure. -/
import Derived.Test.YtbkmnpagmpkcjaaDoorBtG
namespace Go.Proofs.YtbkmnpagmpkcjaaDoor
open Go.RowKit Go.Shelf
attribute [local go_sem] Oper.semAt_some

theorem run_store_func (P : Program) (w : World) (a : Addr) (m : Mode) (fn : Fn) (first cap : Array Value) : (store a (.func fn first cap) m).run P w = stored P w a (.func fn first cap) m := run_store P w a _ m rfl
attribute [local go_sem] run_store_func
/-- A number with one more bit behind. -/
def vstep (x : Int) (c : UInt8) : Int := bits .or .u64 (IntKind.u64.wrap (x * 2)) (IntKind.u64.wrap c.toNat)
/-- The number that bits are. -/
def valI (bs : List UInt8) : Int := bs.foldl vstep 0

set_option maxRecDepth 100000 in
set_option maxHeartbeats 2000000 in
theorem vput_any (x : Int) (c : UInt8) (bx : Nat) (w : World) (hcx : w.cell? ⟨bx, 0, none⟩ = some (.int .u64 x)) (hf : w.frozen? ⟨bx, 0, none⟩ = false) :
    Calls Tryd.prog 23 #[eB c, .pointer (some ⟨bx, 0, none⟩)] w fun e w' => (∃ v, e = .returned v) ∧ w' = w.setCell ⟨bx, 0, none⟩ (.int .u64 (vstep x c)) := by
  go_enter Tryd.func23, Tryd.ntmps23
  go_wp2
  go_end0
  exact ⟨⟨_, rfl⟩, rfl⟩

set_option maxRecDepth 100000 in
set_option maxHeartbeats 2000000 in
theorem Value_long (sv : Value) (bs : List UInt8) (hlong : 64 < bs.length) (w : World) (hS : Sl eB w.heap.size w sv bs) :
    Calls Tryd.prog 16 #[sv] w fun e W' => e = .returned (.tuple #[.int .u64 0, .int .i64 2]) ∧ Below w.heap.size w W' := by
  obtain ⟨A, cap, rfl⟩ := hS.len
  have hd : decide ((64 : Int) < bs.length) = true := decide_eq_true (by omega)
  clear hS hlong
  go_enter Tryd.func16, Tryd.ntmps16
  go_wp2
  go_ret2
  exact ⟨rfl, Below.refl _ _⟩

set_option maxRecDepth 100000 in
set_option maxHeartbeats 2000000 in
theorem Value_any (sv : Value) (bs : List UInt8) (hlen : bs.length ≤ 64) (hbits : ∀ b ∈ bs, b.toNat ≤ 1) (w : World) (hS : Sl eB w.heap.size w sv bs) (hT : Tab w) :
    Calls Tryd.prog 16 #[sv] w fun e W' => e = .returned (.tuple #[.int .u64 (valI bs), .int .i64 0]) ∧ Below w.heap.size w W' := by
  refine (callsIn_wide (n := 5)).1 ?_
  obtain ⟨A, cap, rfl⟩ := hS.len
  have hd : decide ((64 : Int) < bs.length) = false := decide_eq_false (by omega)
  have hall : decide (∀ b ∈ bs, b.toNat ≤ 1) = true := decide_eq_true hbits
  refine callsIn_of_wp_marks Tryd.func16 rfl trivial ?_ rfl
  simp only [Tryd.ntmps16, List.size_toArray, List.length_cons, List.length_nil, Nat.reduceAdd, Nat.reduceSub, Array.replicate_succ, Array.replicate_zero, List.push_toArray, List.append_toArray, List.nil_append, List.cons_append]
  gi_wp2_with fail
  refine ⟨trivial, ?_⟩
  gi_at_call 18
  refine (callsIn_wide.2 (areBits_any _ bs (by omega) _ hS hT)).mono ?_
  rintro e w1 ⟨rfl, hB1⟩
  rw [hall]
  have hT1 : Tab w1 := hT.below hB1
  have hS1 := hS.next hB1
  have hsz1 : w.heap.size ≤ w1.heap.size := hB1.size
  gi_wp2_with (refine ⟨trivial, ?_⟩; gi_at_call 19; refine (callsIn_wide.2 (places_any _ _ _ _)).mono ?_; rintro e w' ⟨rfl, rfl⟩)
  obtain ⟨W0, hW0⟩ : ∃ W0, ((w1.alloc (Obj.cells #[Value.int IntKind.u64 0] 34)).alloc (Obj.cells #[Value.func (Fn.func 23) #[] #[Value.pointer (some { block := w1.heap.size, off := 0 })]] 50)).alloc (Obj.cells #[Value.slice A bs.length cap] 24) = W0 := ⟨_, rfl⟩
  have hs0 : W0.heap.size = w1.heap.size + 3 := by rw [← hW0]; simp
  have hB10 : Below w1.heap.size w1 W0 := by
    rw [← hW0]
    exact (((Below.refl _ w1).alloc (Nat.le_refl _) _).alloc (by simp) _).alloc (by simp; omega) _
  have b1 : Boxed W0 w1.heap.size 34 (.int .u64 (valI [])) := by
    rw [← hW0]
    exact ((Boxed.new w1 34 (.int .u64 0)).alloc _).alloc _
  have b2 : Boxed W0 (w1.heap.size + 1) 50 (Value.func (Fn.func 23) #[] #[Value.pointer (some { block := w1.heap.size, off := 0 })]) := by
    rw [← hW0]
    have := (Boxed.new (w1.alloc (Obj.cells #[Value.int IntKind.u64 0] 34)) 50 (Value.func (Fn.func 23) #[] #[Value.pointer (some { block := w1.heap.size, off := 0 })])).alloc (Obj.cells #[Value.slice A bs.length cap] 24)
    simpa only [World.size_alloc] using this
  have b3 : Boxed W0 (w1.heap.size + 1 + 1) 24 (.slice A bs.length cap) := by
    rw [← hW0]
    have := Boxed.new ((w1.alloc (Obj.cells #[Value.int IntKind.u64 0] 34)).alloc (Obj.cells #[Value.func (Fn.func 23) #[] #[Value.pointer (some { block := w1.heap.size, off := 0 })]] 50)) 24 (Value.slice A bs.length cap)
    simpa only [World.size_alloc] using this
  have hT0 : Tab W0 := hT1.below hB10
  rw [hW0]
  refine wpIn_rangeFunc_ownG rfl (by decide) (gf := 24) (lb := #[.pointer (some ⟨w1.heap.size + 1 + 1, 0, none⟩)]) rfl trivial (enters_of Tryd.func24 (by kernel_rfl) rfl)
    (places_stops id bs.zipIdx 3 (w1.heap.size + 1 + 1) w1.heap.size _ bs (by simp) (by omega) W0 (by omega) (by omega) hT1.lt b3.cell (hS1.below hB10) hT0) belowK_t (belowK_b (by omega)) (Below.refl _ _) (fun _ => rfl)
    (fun (pre : List (UInt8 × Nat)) W => (Boxed W w1.heap.size 34 (.int .u64 (valI (pre.map Prod.fst))) ∧ Boxed W (w1.heap.size + 1) 50 (Value.func (Fn.func 23) #[] #[Value.pointer (some { block := w1.heap.size, off := 0 })])) ∧ Below w1.heap.size w1 W)
    (fun _ _ _ => False)
    (OwnFrom.and (OwnFrom.and (Own.from (boxed_own w1.heap.size 34 (fun (pre : List (UInt8 × Nat)) => .int .u64 (valI (pre.map Prod.fst)))) _) (Own.from (boxed_own (w1.heap.size + 1) 50 (fun (_ : List (UInt8 × Nat)) => Value.func (Fn.func 23) #[] #[Value.pointer (some { block := w1.heap.size, off := 0 })])) _)) (ownFrom_below (Nat.le_refl _) (by omega)))
    (fun _ _ _ _ _ hs _ _ => hs)
    ⟨⟨b1, b2⟩, hB10⟩
    (fun x => { tmps := #[.slice A bs.length cap, undef, .int .u64 0, .int .i64 0, .pointer (some ⟨w1.heap.size, 0, none⟩), .pointer (some ⟨w1.heap.size + 1, 0, none⟩), eB x.1, .slice A bs.length cap, .int .i64 bs.length, .bool false, .bool false, .slice A bs.length cap, .bool true, .bool false, .bool false, .func (.func 23) #[] #[.pointer (some ⟨w1.heap.size, 0, none⟩)], .slice A bs.length cap, .func (.func 24) #[] #[.pointer (some ⟨w1.heap.size + 1 + 1, 0, none⟩)], eB x.1, clsV x.2, undef, undef, undef, undef], defers := [] }) ?assign ?body ?done ?stop
  case assign =>
    intro l x W K hK
    gi_wp2
    exact hK
  case body =>
    rintro l pre ⟨c, at_⟩ W ⟨⟨hv, hf⟩, hB⟩ hlt
    have hc2 := hf.cell
    gi_wp2_with (refine ⟨trivial, ?_⟩; gi_at_call 23; refine (CallsIn.inRound l (callsIn_wide.2 (vput_any _ c _ _ hv.cell hv.frozen))).mono ?_; rintro e w' ⟨⟨v, rfl⟩, rfl⟩)
    gi_wp2
    have hval : valI ((pre ++ [(c, at_)]).map Prod.fst) = vstep (valI (pre.map Prod.fst)) c := by
      simp [valI, List.foldl_append]
    refine ⟨(KeepsOthers.setCell W _ _).from _, (Below.refl _ _).setCell (p := ⟨w1.heap.size, 0, none⟩) (Nat.le_refl _) _, ⟨by rw [hval]; exact hv.set _, Boxed.kept hf (grownBy_setCellAt W w1.heap.size 0 _) (by simp)⟩, hB.setCell (p := ⟨w1.heap.size, 0, none⟩) (Nat.le_refl _) _⟩
  case done =>
    rintro D ys W hD rfl ⟨⟨hv, hf⟩, hB⟩ hK
    have hc := hv.cell
    gi_wp2
    refine ⟨by simp, .inl ⟨_, _, rfl, run_takeDeferred hK, ?_⟩⟩
    refine ⟨_, results_tmp2 rfl _ _ _, rfl, below_trans hB1 (hB.trans (belowK_b (w := w1) (Nat.le_refl _) _ D _ _ (by omega) hK rfl rfl))⟩
  case stop =>
    rintro D c pre W hD hpre h hK
    exact h.elim
end Go.Proofs.YtbkmnpagmpkcjaaDoor
