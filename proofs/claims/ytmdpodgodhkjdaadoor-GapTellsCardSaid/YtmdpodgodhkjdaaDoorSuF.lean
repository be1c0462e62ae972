/- Contract of sums.Rises. -/
import Derived.Test.YtmdpodgodhkjdaaDoorSuE
namespace Go.Proofs.YtmdpodgodhkjdaaDoor
open Go.RowKit Go.Shelf
attribute [local go_sem] Oper.semAt_some inProg_round inProg_depth

abbrev eF (b : Bool) : Value := .bool b
/-- The cells where the first k places are told. -/
def rCells (x : List UInt8) (n k : Nat) : Array Value := ((List.range n).map fun i => Value.bool (decide (i < k) && riseB x i)).toArray
theorem rCells_size (x : List UInt8) (n k : Nat) : (rCells x n k).size = n := by simp [rCells]
theorem rCells_zero (x : List UInt8) (n : Nat) : rCells x n 0 = Array.replicate n (Value.bool false) := by
  apply Array.ext
  · simp [rCells]
  · intro i h1 h2
    simp [rCells]
theorem rCells_set (x : List UInt8) (n k : Nat) : (rCells x n k).setIfInBounds k (.bool (riseB x k)) = rCells x n (k + 1) := by
  apply Array.ext
  · simp [rCells]
  · intro i h1 h2
    have hi : i < n := by simpa [rCells] using h2
    rw [Array.getElem_setIfInBounds (by simpa [rCells] using hi)]
    simp only [rCells, List.getElem_toArray, List.getElem_map, List.getElem_range]
    by_cases e : k = i
    · subst e
      rw [if_pos rfl]
      simp
    · rw [if_neg e]
      have : decide (i < k) = decide (i < k + 1) := by
        rw [decide_eq_decide]; omega
      rw [this]
theorem rCells_get (x : List UInt8) (n k i : Nat) (h : i < n) : (rCells x n k)[i]? = some (.bool (decide (i < k) && riseB x i)) := by
  rw [Array.getElem?_eq_getElem (by rw [rCells_size]; exact h)]
  simp [rCells]
theorem info_b : (Tryd.prog.info? 4).map (fun i => (i.zero, i.size, i.bytes)) = some (some (.bool false), 1, 1) := by kernel_rfl
set_option maxRecDepth 100000 in
set_option maxHeartbeats 4000000 in
theorem Rises_in (sv : Value) (x : List UInt8) (hreach : x.length ≤ 1000000) (w : World) (hS : Sl eB w.heap.size w sv x) (n : Nat) :
    CallsIn (Fence.inProg Tryd.prog) n Tryd.prog 58 #[sv] w fun e w' => Below w.heap.size w w' ∧ ∃ v, e = .returned v ∧ Sl eF w'.heap.size w' v ((List.range x.length).map (riseB x)) := by
  obtain ⟨A, c, rfl⟩ := hS.len
  obtain ⟨i0, hi, hz0, hz1, hz2⟩ := info_parts info_b
  have hmk : ∀ w, (Instr.makeSlice 69 (.int .i64 (x.length : Int)) (.int .i64 (x.length : Int))).run Tryd.prog w = .ok (.slice (some ⟨w.heap.size, 0, none⟩) x.length x.length) (w.alloc (.cells (rCells x x.length 0) 4)) := by
    intro w
    have h1 := run_make (P := Tryd.prog) w 69 4 i0 (.bool false) Tryd.underlying69 hi hz0 .i64 .i64 (x.length : Int) (x.length : Int) (by omega) (by omega) (by rw [hz2]; omega) (by omega)
    have h2 : madeCells (Value.bool false).cells ((x.length : Int).toNat * i0.size) = rCells x x.length 0 := by
      rw [hz1]
      apply Array.ext
      · simp [madeCells, rCells, Value.cells]
      · intro j _ _
        simp [madeCells, rCells, Value.cells, Nat.mod_one]
    rw [h2] at h1
    simpa using h1
  have hA := ((Below.refl w.heap.size w).alloc (Nat.le_refl _) (.cells (rCells x x.length 0) 4)).alloc (by simp) (.cells #[.slice (some ⟨w.heap.size, 0, none⟩) x.length x.length] 69)
  have hr := (Rowed.new w 4 (rCells x x.length 0)).alloc (.cells #[.slice (some ⟨w.heap.size, 0, none⟩) x.length x.length] 69)
  have hb := Boxed.new (w.alloc (.cells (rCells x x.length 0) 4)) 69 (.slice (some ⟨w.heap.size, 0, none⟩) x.length x.length)
  rw [World.size_alloc] at hb
  have hs0 : ((w.alloc (.cells (rCells x x.length 0) 4)).alloc (.cells #[.slice (some ⟨w.heap.size, 0, none⟩) x.length x.length] 69)).heap.size = w.heap.size + 2 := by simp
  refine callsIn_of_wp_marks Tryd.func58 rfl ⟨_, Tryd.func58⟩ ?_ rfl
  simp only [Tryd.ntmps58, List.size_toArray, List.length_cons, List.length_nil, Nat.reduceAdd, Nat.reduceSub, Array.replicate_succ, Array.replicate_zero, List.push_toArray, List.append_toArray, List.nil_append, List.cons_append]
  gi_wp2_with fail
  generalize (w.alloc (.cells (rCells x x.length 0) 4)).alloc (.cells #[.slice (some ⟨w.heap.size, 0, none⟩) x.length x.length] 69) = w1 at *
  refine ⟨⟨_, Tryd.func68⟩, ?_⟩
  gi_at_call 68
  refine (rising_in A x.length c _ w1).mono ?_
  rintro e w2 ⟨rfl, rfl⟩
  gi_wp2_with fail
  have hb3 := Boxed.new w1 22 (.slice A x.length c)
  have hA2 := hA.alloc (by omega) (.cells #[.slice A x.length c] 22)
  have hs2 : (w1.alloc (.cells #[.slice A x.length c] 22)).heap.size = w.heap.size + 3 := by simp; omega
  have hb' := hb.alloc (.cells #[.slice A x.length c] 22)
  have hr' := hr.alloc (.cells #[.slice A x.length c] 22)
  rw [hs0] at hb3
  generalize w1.alloc (.cells #[.slice A x.length c] 22) = w2 at *
  have hS2 := hS.below hA2
  have hne : 0 < x.length → ∀ a, A = some a → a.block < w.heap.size := by
    intro h0 a ha
    obtain ⟨A', c', e, _, hcs⟩ := hS
    injection e with e1 e2 e3
    subst e1
    obtain ⟨b, off, e4, hb, _⟩ := hcs h0
    rw [e4] at ha
    cases ha
    exact hb
  have hseq := rising_seq (w.heap.size + 2) (w.heap.size + 3) w.heap.size A c x hreach w2 (by omega) (by omega) (by omega) hb3.cell (hS2.more (by omega)) (fun h0 a ha => by have := hne h0 a ha; omega)
  clear hb hr hb3 hA hS hmk
  refine wpIn_range_P (gf := 76) (lb := #[.pointer (some ⟨w.heap.size + 2, 0, none⟩)]) (fun _ h => h) rfl rfl ⟨_, Tryd.func76⟩ rfl (enters_of Tryd.func76 (by kernel_rfl) rfl)
    hseq (fun _ _ _ => keep_t) (fun W l o o' h1 h2 h3 => keep_put (by omega) W l o o' h1 h2 h3) (Below.refl _ _) (fun _ => rfl)
    (fun (pre : List Nat) W => Rowed W w.heap.size 4 (rCells x x.length pre.length) ∧ Keep (w.heap.size + 3) w.heap.size w2 W)
    (fun _ _ => False)
    (fun _ _ => False)
    (OwnFrom.and (fun s X Y row hs hg hr => (hg.block _ (Rowed.lt hs) (fun e => by have := (hr _ e.symm).1; omega)).trans hs) (ownFrom_keep (by omega) (by omega)))
    ⟨hr', keep_r _ _ _⟩
    (fun _ _ _ _ _ h => h.elim)
    (fun j => { tmps := #[.slice A x.length c, undef, .slice none 0 0, .pointer (some ⟨w.heap.size + 1, 0, none⟩), .int .i64 (j : Nat), .bool (riseB x j), .slice A x.length c, .int .i64 x.length, .slice (some ⟨w.heap.size, 0, none⟩) x.length x.length, .slice A x.length c, .func (.func 76) #[] #[.pointer (some ⟨w.heap.size + 2, 0, none⟩)], .int .i64 (j : Nat), .bool (riseB x j), undef, undef, undef, undef, undef], defers := [] }) ?assign ?body ?done ?stop ?pan
  case assign =>
    intro l j W K hK
    gi_wp2
    exact hK
  case stop => rintro c D W _ h _; exact h.elim
  case pan => rintro ch D W _ h _; exact h.elim
  case body =>
    rintro l pre j W ⟨hr, hK⟩ hpre
    obtain ⟨hjn, rfl⟩ := range_is hpre
    clear hpre hseq
    rw [List.length_range] at hr
    have hpl : (List.range j ++ [j]).length = j + 1 := by simp
    have hbx : Boxed W (w.heap.size + 1) 69 (.slice (some ⟨w.heap.size, 0, none⟩) x.length x.length) := (hK.2 _ (by omega) (by omega)).trans hb'
    have cb := hbx.cell
    have c0 := hr.cell j
    rw [rCells_get x _ _ j hjn] at c0
    have f0 := hr.frozen j
    have hra := hr.set j (.bool (riseB x j))
    rw [rCells_set] at hra
    have hjx : (j : Int) < (x.length : Int) := by omega
    have hKS : KeepsFrom w2.heap.size W (W.setCell ⟨w.heap.size, j, none⟩ (.bool (riseB x j))) := keepsFrom_set _ hr _ _
    have hKK : Keep (w.heap.size + 3) w.heap.size W (W.setCell ⟨w.heap.size, j, none⟩ (.bool (riseB x j))) := keep_set _ _ _ _ _
    have Hr := Lib.hid hra
    clear hr hra hS2 hr'
    generalize (decide (j < j) && riseB x j) = old at *
    generalize riseB x j = r at *
    gi_wp2_with fail
    refine ⟨hKS, hKK, ?_, keep_t hK hKK⟩
    rw [hpl]
    exact Hr.out
  case done =>
    rintro D W hD ⟨hr, hK⟩ hk
    rw [List.length_range] at hr
    have hbx : Boxed W (w.heap.size + 1) 69 (.slice (some ⟨w.heap.size, 0, none⟩) x.length x.length) := (hK.2 _ (by omega) (by omega)).trans hb'
    have cb := hbx.cell
    have hsW := keep_size hK
    have hBw := (below_of_keep hK hA2 (by omega) (by omega)).trans (belowK_b (w := w) (Nat.le_refl _) W D _ (.deferred none) (by omega) hk rfl rfl)
    have hrow4 : Rowed (W.putObj D (.deferred none)) w.heap.size 4 (rCells x x.length x.length) := (World.putObj_heap_other (by omega)).trans hr
    clear hseq hS2
    gi_wp2_with fail
    refine ⟨by simp, .inl ⟨_, _, rfl, run_takeDeferred hk, ?_⟩⟩
    refine ⟨_, results_tmp rfl _ _ _, hBw, _, rfl, ?_⟩
    refine ⟨some ⟨w.heap.size, 0, none⟩, x.length, by simp, by simp, fun _ => ⟨w.heap.size, 0, rfl, Rowed.lt hrow4, fun i b hb => ?_⟩⟩
    rw [Nat.zero_add, hrow4.cell i]
    have hi : i < x.length := by have := (List.getElem?_eq_some_iff.1 hb).1; simpa using this
    rw [rCells_get x _ _ i hi]
    simp [hi] at hb
    rw [← hb]
    simp [hi]
end Go.Proofs.YtmdpodgodhkjdaaDoor
