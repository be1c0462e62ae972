/- Contracts of gf.power and gf.log. -/
import Derived.Test.YtkldapdebjlfmaaGfA
namespace Go.Proofs.Ytkldapdebjlfmaa
open Go.RowKit Go.Shelf
attribute [local go_sem] Oper.semAt_some run_store_func

/-- The last power that was told; 1 ahead of the first. -/
def lastP (pre : List Nat) : Nat := match pre.getLast? with
  | none => 1
  | some k => pw k
theorem lastP_snoc (pre : List Nat) (k : Nat) : lastP (pre ++ [k]) = pw k := by simp [lastP]
theorem lastP_range (k : Nat) (h : 0 < k) : lastP (List.range k) = pw (k - 1) := by
  obtain ⟨j, rfl⟩ : ∃ j, k = j + 1 := ⟨k - 1, by omega⟩
  rw [List.range_succ, lastP_snoc]; rfl
theorem prefix_range (pre : List Nat) (h : pre <+: List.range 255) : pre = List.range pre.length ∧ pre.length ≤ 255 := by
  have h1 := h.length_le
  rw [List.length_range] at h1
  refine ⟨?_, h1⟩
  rw [List.prefix_iff_eq_take.1 h, List.take_range]
  simp [Nat.min_eq_left h1]
theorem snoc_range (pre : List Nat) (k : Nat) (h : pre ++ [k] <+: List.range 255) : pre = List.range k ∧ k < 255 := by
  obtain ⟨h1, h2⟩ := prefix_range _ h
  rw [List.length_append, List.length_singleton, List.range_succ] at h1
  obtain ⟨h3, h4⟩ := List.append_inj' h1 rfl
  rw [List.length_append, List.length_singleton] at h2
  obtain rfl : k = pre.length := by simpa using h4
  exact ⟨h3, by omega⟩

set_option maxRecDepth 100000 in
set_option maxHeartbeats 2000000 in
theorem power_any (n : Int) (w : World) :
    Calls Try.prog 61 #[.int .i64 n] w fun e W' => e = .returned (bV (pw (restN n))) ∧ Below w.heap.size w W' := by
  refine (callsIn_wide (n := 5)).1 ?_
  have hst := restN_lt n
  generalize hs : restN n = s at *
  have hrest := fun w => rest_any n w
  rw [hs] at hrest
  clear hs
  refine callsIn_of_wp_marks Try.func61 rfl trivial ?_ rfl
  simp only [Try.ntmps61, List.size_toArray, List.length_cons, List.length_nil, Nat.reduceAdd, Nat.reduceSub, Array.replicate_succ, Array.replicate_zero, List.push_toArray, List.append_toArray, List.nil_append, List.cons_append]
  gi_wp2_with (first
    | (refine ⟨trivial, ?_⟩; gi_at_call 67; refine (callsIn_wide.2 (hrest _)).mono ?_; rintro e w' ⟨rfl, rfl⟩)
    | (refine ⟨trivial, ?_⟩; gi_at_call 68; refine (callsIn_wide.2 (each_any _)).mono ?_; rintro e w' ⟨rfl, rfl⟩))
  obtain ⟨W0, hW0⟩ : ∃ W0, (w.alloc (Obj.cells #[Value.int IntKind.i64 s] 3)).alloc (Obj.cells #[Value.int IntKind.u8 1] 5) = W0 := ⟨_, rfl⟩
  have hs0 : W0.heap.size = w.heap.size + 2 := by rw [← hW0]; simp
  have hB0 : Below w.heap.size w W0 := by
    rw [← hW0]
    exact ((Below.refl _ w).alloc (Nat.le_refl _) _).alloc (by simp) _
  have b1 : Boxed W0 w.heap.size 3 (.int .i64 s) := by
    rw [← hW0]
    exact (Boxed.new w 3 (.int .i64 s)).alloc _
  have b2 : Boxed W0 (w.heap.size + 1) 5 (bV (lastP [])) := by
    rw [← hW0]
    have := Boxed.new (w.alloc (Obj.cells #[Value.int IntKind.i64 s] 3)) 5 (.int .u8 1)
    rw [World.size_alloc] at this
    exact this
  rw [hW0]
  clear hrest
  refine wpIn_rangeFunc_ownG rfl (by decide) (gf := 71) (lb := #[]) rfl trivial (enters_of Try.func71 (by kernel_rfl) rfl)
    (each_stops 3 w.heap.size W0) belowK_t (belowK_b (by omega)) (Below.refl _ _) (fun _ => rfl)
    (fun (pre : List Nat) W => ((Boxed W w.heap.size 3 (.int .i64 s) ∧ Boxed W (w.heap.size + 1) 5 (bV (lastP pre))) ∧ ∀ y ∈ pre, y ≤ s) ∧ Below w.heap.size w W)
    (fun c (pre : List Nat) W => (Boxed W (w.heap.size + 1) 5 (bV (lastP pre.dropLast)) ∧ (c = .exit 0 ∧ ∃ pre' k, pre = pre' ++ [k] ∧ s < k ∧ ∀ y ∈ pre', y ≤ s)) ∧ Below w.heap.size w W)
    (OwnFrom.and (OwnFrom.and (OwnFrom.and (Own.from (boxed_own w.heap.size 3 (fun (_ : List Nat) => .int .i64 s)) _) (Own.from (boxed_own (w.heap.size + 1) 5 (fun (pre : List Nat) => bV (lastP pre))) _)) (ownFrom_pure _ (fun (pre : List Nat) => ∀ y ∈ pre, y ≤ s))) (ownFrom_below (Nat.le_refl _) (by omega)))
    (fun c => OwnFrom.and (OwnFrom.and (Own.from (boxed_own (w.heap.size + 1) 5 (fun (pre : List Nat) => bV (lastP pre.dropLast))) _) (ownFrom_pure _ (fun (pre : List Nat) => c = .exit 0 ∧ ∃ pre' k, pre = pre' ++ [k] ∧ s < k ∧ ∀ y ∈ pre', y ≤ s))) (ownFrom_below (Nat.le_refl _) (by omega)))
    ⟨⟨⟨b1, b2⟩, by simp⟩, hB0⟩
    (fun x => { tmps := #[.int .i64 n, undef, .int .u8 0, .pointer (some ⟨w.heap.size, 0, none⟩), .pointer (some ⟨w.heap.size + 1, 0, none⟩), .int .i64 (x : Nat), bV (pw x), .int .i64 n, .int .i64 s, .func (.func 71) #[] #[], .int .i64 (x : Nat), bV (pw x), undef, undef, undef, undef, undef], defers := [] }) ?assign ?body ?done ?stop
  case assign =>
    intro l x W K hK
    gi_wp2
    exact hK
  case body =>
    rintro l pre x W ⟨⟨⟨hv, hr⟩, hall⟩, hB⟩ hlt
    have hc := hv.cell
    have hc2 := hr.cell
    have hf2 := hr.frozen
    by_cases hx : s < x
    · have hd : decide ((s : Int) < (x : Int)) = true := decide_eq_true (by omega)
      have hd' : decide (s < x) = true := decide_eq_true hx
      have Hx := Lib.hid hx
      clear hx
      gi_wp2
      refine ⟨KeepsFrom.refl _ _, ⟨by rw [List.dropLast_concat]; exact hr, rfl, pre, x, rfl, Hx.out, hall⟩, hB⟩
    · have hd : decide ((s : Int) < (x : Int)) = false := decide_eq_false (by omega)
      have hd' : decide (s < x) = false := decide_eq_false hx
      have Hx := Lib.hid hx
      clear hx
      gi_wp2
      refine ⟨(KeepsOthers.setCell W _ _).from _, (Below.refl _ _).setCell (p := ⟨w.heap.size + 1, 0, none⟩) (by simp) _, ⟨⟨Boxed.kept hv (grownBy_setCellAt W (w.heap.size + 1) 0 _) (by simp), by rw [lastP_snoc]; exact hr.set _⟩, fun y hy => ?_⟩, hB.setCell (p := ⟨w.heap.size + 1, 0, none⟩) (by simp) _⟩
      rcases List.mem_append.1 hy with hy | hy
      · exact hall y hy
      · rw [List.mem_singleton.1 hy]; have := Hx.out; omega
  case done =>
    rintro D ys W hD rfl ⟨⟨⟨hv, hr⟩, hall⟩, hB⟩ hK
    have hc := hr.cell
    have hv2 : lastP (List.range 255) = pw s := by
      have h1 := hall 254 (by simp)
      rw [lastP_range 255 (by omega), show s = 254 by omega]
    rw [hv2] at hc
    clear hall
    gi_wp2
    refine ⟨by simp, .inl ⟨_, _, rfl, run_takeDeferred hK, ?_⟩⟩
    refine ⟨_, results_tmp rfl _ _ _, rfl, hB.trans (belowK_b (w := w) (Nat.le_refl _) _ D _ _ (by omega) hK rfl rfl)⟩
  case stop =>
    rintro D c pre W hD hpre ⟨⟨hr, rfl, pre', k, rfl, hsk, hall⟩, hB⟩ hK
    obtain ⟨h1, h2⟩ := snoc_range pre' k hpre
    have hc := hr.cell
    have hv2 : lastP (pre' ++ [k]).dropLast = pw s := by
      rw [List.dropLast_concat, h1, lastP_range k (by omega)]
      rw [h1] at hall
      have := hall (k - 1) (by simp; omega)
      rw [show k - 1 = s by omega]
    rw [hv2] at hc
    clear hall hv2 hpre
    gi_wp2
    refine ⟨by simp, .inl ⟨_, _, rfl, run_takeDeferred hK, ?_⟩⟩
    refine ⟨_, results_tmp rfl _ _ _, rfl, hB.trans (belowK_b (w := w) (Nat.le_refl _) _ D _ _ (by omega) hK rfl rfl)⟩
end Go.Proofs.Ytkldapdebjlfmaa
