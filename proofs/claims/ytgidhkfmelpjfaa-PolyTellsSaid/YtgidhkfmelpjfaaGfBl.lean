/- Contract of gf.log. -/
import Derived.Test.YtgidhkfmelpjfaaGfB
namespace Go.Proofs.Ytgidhkfmelpjfaa
open Go.RowKit Go.Shelf
attribute [local go_sem] Oper.semAt_some run_store_func

set_option maxRecDepth 100000 in
set_option maxHeartbeats 2000000 in
theorem log_any (a : Nat) (ha : a < 256) (h0 : a ≠ 0) (w : World) :
    Calls Try.prog 44 #[bV a] w fun e W' => ∃ k, k < 255 ∧ pw k = a ∧ e = .returned (.int .i64 (k : Nat)) ∧ Below w.heap.size w W' := by
  refine (callsIn_wide (n := 5)).1 ?_
  have hsome := Lib.hid (pw_all a ha h0)
  refine callsIn_of_wp_marks Try.func44 rfl trivial ?_ rfl
  simp only [Try.ntmps44, List.size_toArray, List.length_cons, List.length_nil, Nat.reduceAdd, Nat.reduceSub, Array.replicate_succ, Array.replicate_zero, List.push_toArray, List.append_toArray, List.nil_append, List.cons_append]
  gi_wp2_with (refine ⟨trivial, ?_⟩; gi_at_call 48; refine (callsIn_wide.2 (each_any _)).mono ?_; rintro e w' ⟨rfl, rfl⟩)
  obtain ⟨W0, hW0⟩ : ∃ W0, (w.alloc (Obj.cells #[bV a] 5)).alloc (Obj.cells #[Value.int IntKind.i64 0] 3) = W0 := ⟨_, rfl⟩
  have hs0 : W0.heap.size = w.heap.size + 2 := by rw [← hW0]; simp
  have hB0 : Below w.heap.size w W0 := by
    rw [← hW0]
    exact ((Below.refl _ w).alloc (Nat.le_refl _) _).alloc (by simp) _
  have b1 : Boxed W0 w.heap.size 5 (bV a) := by
    rw [← hW0]
    exact (Boxed.new w 5 (bV a)).alloc _
  have b2 : Boxed W0 (w.heap.size + 1) 3 (.int .i64 0) := by
    rw [← hW0]
    have := Boxed.new (w.alloc (Obj.cells #[bV a] 5)) 3 (.int .i64 0)
    rw [World.size_alloc] at this
    exact this
  rw [hW0]
  refine wpIn_rangeFunc_ownG rfl (by decide) (gf := 49) (lb := #[]) rfl trivial (enters_of Try.func49 (by kernel_rfl) rfl)
    (each_stops 3 w.heap.size W0) belowK_t (belowK_b (by omega)) (Below.refl _ _) (fun _ => rfl)
    (fun (pre : List Nat) W => ((Boxed W w.heap.size 5 (bV a) ∧ Boxed W (w.heap.size + 1) 3 (.int .i64 0)) ∧ ∀ y ∈ pre, pw y ≠ a) ∧ Below w.heap.size w W)
    (fun c (pre : List Nat) W => (Boxed W (w.heap.size + 1) 3 (.int .i64 (pre.getLast?.getD 0 : Nat)) ∧ (c = .exit 0 ∧ ∃ pre' k, pre = pre' ++ [k] ∧ pw k = a)) ∧ Below w.heap.size w W)
    (OwnFrom.and (OwnFrom.and (OwnFrom.and (Own.from (boxed_own w.heap.size 5 (fun (_ : List Nat) => bV a)) _) (Own.from (boxed_own (w.heap.size + 1) 3 (fun (_ : List Nat) => .int .i64 0)) _)) (ownFrom_pure _ (fun (pre : List Nat) => ∀ y ∈ pre, pw y ≠ a))) (ownFrom_below (Nat.le_refl _) (by omega)))
    (fun c => OwnFrom.and (OwnFrom.and (Own.from (boxed_own (w.heap.size + 1) 3 (fun (pre : List Nat) => .int .i64 (pre.getLast?.getD 0 : Nat))) _) (ownFrom_pure _ (fun (pre : List Nat) => c = .exit 0 ∧ ∃ pre' k, pre = pre' ++ [k] ∧ pw k = a))) (ownFrom_below (Nat.le_refl _) (by omega)))
    ⟨⟨⟨b1, b2⟩, by simp⟩, hB0⟩
    (fun x => { tmps := #[bV a, .pointer (some ⟨w.heap.size, 0, none⟩), .int .i64 0, .pointer (some ⟨w.heap.size + 1, 0, none⟩), .int .i64 (x : Nat), bV (pw x), .func (.func 49) #[] #[], .int .i64 (x : Nat), bV (pw x), undef, undef, undef, undef, undef], defers := [] }) ?assign ?body ?done ?stop
  case assign =>
    intro l x W K hK
    gi_wp2
    exact hK
  case body =>
    rintro l pre x W ⟨⟨⟨hv, hr⟩, hall⟩, hB⟩ hlt
    have hc := hv.cell
    have hc2 := hr.cell
    have hf2 := hr.frozen
    by_cases hx : pw x = a
    · have hd : ((pw x : Int) == (a : Int)) = true := by rw [hx]; simp
      have Hx := Lib.hid hx
      clear hx
      obtain ⟨p, hp⟩ : ∃ p, p = pw x := ⟨_, rfl⟩
      rw [← hp] at hd
      rw [← hp]
      clear hp
      gi_wp2
      refine ⟨(KeepsOthers.setCell W _ _).from _, ⟨?_, rfl, pre, x, rfl, Hx.out⟩, hB.setCell (p := ⟨w.heap.size + 1, 0, none⟩) (by simp) _⟩
      rw [List.getLast?_concat]
      exact hr.set _
    · have hd : ((pw x : Int) == (a : Int)) = false := by simp; omega
      have hd' : (pw x == a) = false := by simp [hx]
      have Hx := Lib.hid hx
      clear hx
      obtain ⟨p, hp⟩ : ∃ p, p = pw x := ⟨_, rfl⟩
      rw [← hp] at hd hd'
      rw [← hp]
      clear hp
      gi_wp2
      refine ⟨KeepsFrom.refl _ _, Below.refl _ _, ⟨⟨hv, hr⟩, fun y hy => ?_⟩, hB⟩
      rcases List.mem_append.1 hy with hy | hy
      · exact hall y hy
      · rw [List.mem_singleton.1 hy]; exact Hx.out
  case done =>
    rintro D ys W hD rfl ⟨⟨⟨hv, hr⟩, hall⟩, hB⟩ hK
    obtain ⟨k, hk, e⟩ := hsome.out
    exact absurd e (hall k (by simp; omega))
  case stop =>
    rintro D c pre W hD hpre ⟨⟨hr, rfl, pre', k, rfl, hpk⟩, hB⟩ hK
    obtain ⟨h1, h2⟩ := snoc_range pre' k hpre
    rw [List.getLast?_concat] at hr
    have hc := hr.cell
    clear hpre
    gi_wp2
    refine ⟨by simp, .inl ⟨_, _, rfl, run_takeDeferred hK, ?_⟩⟩
    refine ⟨_, results_tmp rfl _ _ _, k, h2, hpk, rfl, hB.trans (belowK_b (w := w) (Nat.le_refl _) _ D _ _ (by omega) hK rfl rfl)⟩
end Go.Proofs.Ytgidhkfmelpjfaa
