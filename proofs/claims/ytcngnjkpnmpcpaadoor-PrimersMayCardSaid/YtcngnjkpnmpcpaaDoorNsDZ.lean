import Derived.Test.YtcngnjkpnmpcpaaDoorNsCZ
namespace Go.Proofs.YtcngnjkpnmpcpaaDoor
open Go.RowKit Go.Shelf
attribute [local go_sem] Oper.semAt_some
set_option maxRecDepth 100000 in
set_option maxHeartbeats 2000000 in
theorem Valid_any (sv : Value) (bs : List UInt8) (hreach : bs.length ≤ 140737488351232) (w : World) (hS : Sl eB w.heap.size w sv bs) (hT : Tab w) :
    Calls Tryd.prog 38 #[sv] w fun e W' => e = .returned (.bool (decide ((-1 : Int) ∉ codesOf bs))) ∧ Below w.heap.size w W' := by
  refine (callsIn_wide (n := 5)).1 ?_
  obtain ⟨A, cap, rfl⟩ := hS.len
  refine callsIn_of_wp_marks Tryd.func38 rfl trivial ?_ rfl
  simp only [Tryd.ntmps38, List.size_toArray, List.length_cons, List.length_nil, Nat.reduceAdd, Nat.reduceSub, Array.replicate_succ, Array.replicate_zero, List.push_toArray, List.append_toArray, List.nil_append, List.cons_append]
  gi_wp2_with (refine ⟨trivial, ?_⟩; gi_at_call 58; refine (callsIn_wide.2 (codes_any _ _ _ _)).mono ?_; rintro e w' ⟨rfl, rfl⟩)
  obtain ⟨W0, hW0⟩ : ∃ W0, (w.alloc (Obj.cells #[Value.bool false] 4)).alloc (Obj.cells #[Value.slice A bs.length cap] 39) = W0 := ⟨_, rfl⟩
  have hs0 : W0.heap.size = w.heap.size + 2 := by rw [← hW0]; simp
  have hB0 : Below w.heap.size w W0 := by
   rw [← hW0]
   exact ((Below.refl _ w).alloc (Nat.le_refl _) _).alloc (by simp) _
  have b1 : Boxed W0 w.heap.size 4 (.bool false) := by
   rw [← hW0]
   exact (Boxed.new w 4 (.bool false)).alloc _
  have b3 : Boxed W0 (w.heap.size + 1) 39 (.slice A bs.length cap) := by
   rw [← hW0]
   have := Boxed.new (w.alloc (Obj.cells #[Value.bool false] 4)) 39 (Value.slice A bs.length cap)
   simpa only [World.size_alloc] using this
  have hT0 : Tab W0 := hT.below hB0
  rw [hW0]
  refine wpIn_rangeFunc_ownG rfl (by decide) (gf := 64) (lb := #[.pointer (some ⟨w.heap.size + 1, 0, none⟩)]) rfl trivial (enters_of Tryd.func64 (by kernel_rfl) rfl)
   (codes_stops 3 (w.heap.size + 1) w.heap.size _ bs (by omega) W0 (by omega) (by omega) hT.lt b3.cell (hS.below hB0) hT0) belowK_t (belowK_b (by omega)) (Below.refl _ _) (fun _ => rfl)
   (fun (pre : List Int) W => (Boxed W w.heap.size 4 (.bool false) ∧ (-1 : Int) ∉ pre) ∧ Below w.heap.size w W)
   (fun c (pre : List Int) W => (c = .ret ∧ Boxed W w.heap.size 4 (.bool false) ∧ (-1 : Int) ∈ pre) ∧ Below w.heap.size w W)
   (OwnFrom.and (OwnFrom.and (Own.from (boxed_own w.heap.size 4 (fun _ => .bool false)) _) (ownFrom_pure _ (fun (pre : List Int) => (-1 : Int) ∉ pre))) (ownFrom_below (Nat.le_refl _) (by omega)))
   (fun c => OwnFrom.and (OwnFrom.and (ownFrom_pure _ (fun _ => c = .ret)) (OwnFrom.and (Own.from (boxed_own w.heap.size 4 (fun _ => .bool false)) _) (ownFrom_pure _ (fun (pre : List Int) => (-1 : Int) ∈ pre)))) (ownFrom_below (Nat.le_refl _) (by omega)))
   ⟨⟨b1, by simp⟩, hB0⟩
   (fun x => { tmps := #[.slice A bs.length cap, undef, .pointer (some ⟨w.heap.size, 0, none⟩), .int .i64 x, .slice A bs.length cap, .func (.func 64) #[] #[.pointer (some ⟨w.heap.size + 1, 0, none⟩)], .int .i64 x, undef, undef], defers := [] }) ?assign ?body ?done ?stop
  case assign =>
   intro l x W K hK
   gi_wp2
   exact hK
  case body =>
   rintro l pre x W ⟨⟨hv, hnot⟩, hB⟩ hlt
   have hc := hv.cell
   have hf := hv.frozen
   by_cases hx : x = -1
   · subst hx
     gi_wp2
     exact ⟨(KeepsOthers.setCell W _ _).from _, ⟨rfl, hv.set _, by simp⟩, hB.setCell (p := ⟨w.heap.size, 0, none⟩) (Nat.le_refl _) _⟩
   · have hxb : (x == -1) = false := by simpa using hx
     gi_wp2
     refine ⟨KeepsFrom.refl _ _, Below.refl _ _, ⟨hv, ?_⟩, hB⟩
     simp only [List.mem_append, List.mem_singleton]
     exact fun h => h.elim hnot (fun e => hx e.symm)
  case done =>
   rintro D ys W hD rfl ⟨⟨hv, hnot⟩, hB⟩ hK
   have hc := hv.cell
   have hf := hv.frozen
   gi_wp2
   have hK' := (KeepsOthers.setCell W ⟨w.heap.size, 0, none⟩ (.bool true)).same D _ hK rfl
   refine ⟨by simp, .inl ⟨_, _, rfl, run_takeDeferred hK', ?_⟩⟩
   have hc5 := cell_kept (hv.set (.bool true)).cell (grownBy_putObj' _ D (.deferred none)) (fun r e => by cases e; exact ⟨_, hK', rfl⟩)
   refine ⟨.bool true, ?_, by simp [hnot], (hB.setCell (p := ⟨w.heap.size, 0, none⟩) (Nat.le_refl _) _).trans (belowK_b (w := w) (Nat.le_refl _) _ D _ _ (by omega) hK' rfl rfl)⟩
   simp [results, Tryd.f38, go_sem, hc5]
  case stop =>
   rintro D c pre W hD hpre ⟨⟨rfl, hv, hin⟩, hB⟩ hK
   have hc := hv.cell
   gi_wp2
   refine ⟨by simp, .inl ⟨_, _, rfl, run_takeDeferred hK, ?_⟩⟩
   have hc5 := cell_kept hc (grownBy_putObj' _ D (.deferred none)) (fun r e => by cases e; exact ⟨_, hK, rfl⟩)
   have hin' := hpre.subset hin
   refine ⟨.bool false, ?_, by simp [hin'], hB.trans (belowK_b (w := w) (Nat.le_refl _) _ D _ _ (by omega) hK rfl rfl)⟩
   simp [results, Tryd.f38, go_sem, hc5]
end Go.Proofs.YtcngnjkpnmpcpaaDoor
