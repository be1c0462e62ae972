/- Contract of bits.areBits. -/
import Derived.Test.YtbkmnpagmpkcjaaDoorBtA
import Derived.Maps.AppendAt
namespace Go.Proofs.YtbkmnpagmpkcjaaDoor
open Go.RowKit Go.Shelf
attribute [local go_sem] Oper.semAt_some

theorem allBits_idx (bs : List UInt8) : (∀ b ∈ bs, b.toNat ≤ 1) ↔ ∀ y ∈ bs.zipIdx, y.1.toNat ≤ 1 := by
  constructor
  · intro h y hy
    exact h y.1 (by have := List.mem_map_of_mem (f := Prod.fst) hy; rwa [List.zipIdx_map_fst] at this)
  · intro h b hb
    rw [← List.zipIdx_map_fst 0 bs] at hb
    obtain ⟨y, hy, rfl⟩ := List.mem_map.1 hb
    exact h y hy

set_option maxRecDepth 100000 in
set_option maxHeartbeats 2000000 in
theorem areBits_any (sv : Value) (bs : List UInt8) (hreach : bs.length ≤ 140737488351232) (w : World) (hS : Sl eB w.heap.size w sv bs) (hT : Tab w) :
    Calls Tryd.prog 18 #[sv] w fun e W' => e = .returned (.bool (decide (∀ b ∈ bs, b.toNat ≤ 1))) ∧ Below w.heap.size w W' := by
  refine (callsIn_wide (n := 5)).1 ?_
  obtain ⟨A, cap, rfl⟩ := hS.len
  refine callsIn_of_wp_marks Tryd.func18 rfl trivial ?_ rfl
  simp only [Tryd.ntmps18, List.size_toArray, List.length_cons, List.length_nil, Nat.reduceAdd, Nat.reduceSub, Array.replicate_succ, Array.replicate_zero, List.push_toArray, List.append_toArray, List.nil_append, List.cons_append]
  gi_wp2_with (refine ⟨trivial, ?_⟩; gi_at_call 19; refine (callsIn_wide.2 (places_any _ _ _ _)).mono ?_; rintro e w' ⟨rfl, rfl⟩)
  obtain ⟨W0, hW0⟩ : ∃ W0, (w.alloc (Obj.cells #[Value.bool false] 4)).alloc (Obj.cells #[Value.slice A bs.length cap] 24) = W0 := ⟨_, rfl⟩
  have hs0 : W0.heap.size = w.heap.size + 2 := by rw [← hW0]; simp
  have hB0 : Below w.heap.size w W0 := by
    rw [← hW0]
    exact ((Below.refl _ w).alloc (Nat.le_refl _) _).alloc (by simp) _
  have b1 : Boxed W0 w.heap.size 4 (.bool false) := by
    rw [← hW0]
    exact (Boxed.new w 4 (.bool false)).alloc _
  have b3 : Boxed W0 (w.heap.size + 1) 24 (.slice A bs.length cap) := by
    rw [← hW0]
    have := Boxed.new (w.alloc (Obj.cells #[Value.bool false] 4)) 24 (Value.slice A bs.length cap)
    simpa only [World.size_alloc] using this
  have hT0 : Tab W0 := hT.below hB0
  rw [hW0]
  refine wpIn_rangeFunc_ownG rfl (by decide) (gf := 24) (lb := #[.pointer (some ⟨w.heap.size + 1, 0, none⟩)]) rfl trivial (enters_of Tryd.func24 (by kernel_rfl) rfl)
    (places_stops id bs.zipIdx 3 (w.heap.size + 1) w.heap.size _ bs (by simp) (by omega) W0 (by omega) (by omega) hT.lt b3.cell (hS.below hB0) hT0) belowK_t (belowK_b (by omega)) (Below.refl _ _) (fun _ => rfl)
    (fun (pre : List (UInt8 × Nat)) W => (Boxed W w.heap.size 4 (.bool false) ∧ ∀ y ∈ pre, y.1.toNat ≤ 1) ∧ Below w.heap.size w W)
    (fun c (pre : List (UInt8 × Nat)) W => (c = .ret ∧ Boxed W w.heap.size 4 (.bool false) ∧ ¬ ∀ y ∈ pre, y.1.toNat ≤ 1) ∧ Below w.heap.size w W)
    (OwnFrom.and (OwnFrom.and (Own.from (boxed_own w.heap.size 4 (fun _ => .bool false)) _) (ownFrom_pure _ (fun (pre : List (UInt8 × Nat)) => ∀ y ∈ pre, y.1.toNat ≤ 1))) (ownFrom_below (Nat.le_refl _) (by omega)))
    (fun c => OwnFrom.and (OwnFrom.and (ownFrom_pure _ (fun _ => c = .ret)) (OwnFrom.and (Own.from (boxed_own w.heap.size 4 (fun _ => .bool false)) _) (ownFrom_pure _ (fun (pre : List (UInt8 × Nat)) => ¬ ∀ y ∈ pre, y.1.toNat ≤ 1)))) (ownFrom_below (Nat.le_refl _) (by omega)))
    ⟨⟨b1, by simp⟩, hB0⟩
    (fun x => { tmps := #[.slice A bs.length cap, undef, .pointer (some ⟨w.heap.size, 0, none⟩), eB x.1, .slice A bs.length cap, .func (.func 24) #[] #[.pointer (some ⟨w.heap.size + 1, 0, none⟩)], eB x.1, clsV x.2, undef, undef], defers := [] }) ?assign ?body ?done ?stop
  case assign =>
    intro l x W K hK
    gi_wp2
    exact hK
  case body =>
    rintro l pre x W ⟨⟨hv, hnot⟩, hB⟩ hlt
    have hc := hv.cell
    have hf := hv.frozen
    obtain ⟨c, at_⟩ := x
    by_cases hx : 1 < c.toNat
    · have hxb : decide ((1 : Int) < c.toNat) = true := decide_eq_true (by omega)
      gi_wp2
      exact ⟨(KeepsOthers.setCell W _ _).from _, ⟨rfl, hv.set _, fun h => by have := h (c, at_) (by simp); simp at this; omega⟩, hB.setCell (p := ⟨w.heap.size, 0, none⟩) (Nat.le_refl _) _⟩
    · have hxb : decide ((1 : Int) < c.toNat) = false := decide_eq_false (by omega)
      gi_wp2
      refine ⟨KeepsFrom.refl _ _, Below.refl _ _, ⟨hv, fun y hy => ?_⟩, hB⟩
      rcases List.mem_append.1 hy with hy | hy
      · exact hnot y hy
      · rw [List.mem_singleton.1 hy]; simp; omega
  case done =>
    rintro D ys W hD rfl ⟨⟨hv, hnot⟩, hB⟩ hK
    have hc := hv.cell
    have hf := hv.frozen
    gi_wp2
    have hK' := (KeepsOthers.setCell W ⟨w.heap.size, 0, none⟩ (.bool true)).same D _ hK rfl
    refine ⟨by simp, .inl ⟨_, _, rfl, run_takeDeferred hK', ?_⟩⟩
    have hc5 := cell_kept (hv.set (.bool true)).cell (grownBy_putObj' _ D (.deferred none)) (fun r e => by cases e; exact ⟨_, hK', rfl⟩)
    refine ⟨.bool true, ?_, by rw [decide_eq_true ((allBits_idx bs).2 hnot)], (hB.setCell (p := ⟨w.heap.size, 0, none⟩) (Nat.le_refl _) _).trans (belowK_b (w := w) (Nat.le_refl _) _ D _ _ (by omega) hK' rfl rfl)⟩
    simp [results, Tryd.f18, go_sem, hc5]
  case stop =>
    rintro D c pre W hD hpre ⟨⟨rfl, hv, hin⟩, hB⟩ hK
    have hc := hv.cell
    gi_wp2
    refine ⟨by simp, .inl ⟨_, _, rfl, run_takeDeferred hK, ?_⟩⟩
    have hc5 := cell_kept hc (grownBy_putObj' _ D (.deferred none)) (fun r e => by cases e; exact ⟨_, hK, rfl⟩)
    have hin' : ¬ ∀ b ∈ bs, b.toNat ≤ 1 := fun h => hin fun y hy => (allBits_idx bs).1 h y (hpre.subset hy)
    refine ⟨.bool false, ?_, by rw [decide_eq_false hin'], hB.trans (belowK_b (w := w) (Nat.le_refl _) _ D _ _ (by omega) hK rfl rfl)⟩
    simp [results, Tryd.f18, go_sem, hc5]

end Go.Proofs.YtbkmnpagmpkcjaaDoor
