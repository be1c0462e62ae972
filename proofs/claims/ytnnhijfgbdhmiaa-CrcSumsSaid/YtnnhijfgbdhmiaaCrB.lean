/- Contract of crc.Table. -/
import Derived.Test.YtnnhijfgbdhmiaaCrA
namespace Go.Proofs.Ytnnhijfgbdhmiaa
open Go.RowKit Go.Shelf
attribute [local go_sem] Oper.semAt_some

/-- The table, of which k rows are made. -/
def tabAt (k : Nat) : Array Value := ((List.range 256).map fun j => if j < k then wV (stepW 0#32 (UInt8.ofNat j)) else .int .u32 0).toArray
theorem tabAt_size (k : Nat) : (tabAt k).size = 256 := by simp [tabAt]
theorem tabAt_set (k : Nat) (_h : k < 256) : (tabAt k).setIfInBounds k (wV (stepW 0#32 (UInt8.ofNat k))) = tabAt (k + 1) := by
  apply Array.ext
  · simp [tabAt]
  · intro j h1 h2
    simp only [tabAt_size] at h2
    rw [Array.getElem_setIfInBounds (by simpa [tabAt_size] using h2)]
    simp only [tabAt, List.getElem_toArray, List.getElem_map, List.getElem_range]
    by_cases hj : k = j
    · subst hj; simp
    · rw [if_neg hj]
      by_cases h3 : j < k
      · rw [if_pos h3, if_pos (by omega)]
      · rw [if_neg h3, if_neg (by omega)]
theorem tab_info : (Try.prog.info? 33).map (fun i => (i.zero, i.size)) = some (some (.agg (tabAt 0)), 256) := by kernel_rfl
theorem tab_one (k : Nat) : (tabAt k).all (·.oneCell') = true := by
  rw [Array.all_eq_true']
  intro x hx
  simp only [tabAt, List.mem_toArray, List.mem_map] at hx
  obtain ⟨j, _, rfl⟩ := hx
  split <;> rfl

set_option maxRecDepth 100000 in
set_option maxHeartbeats 2000000 in
theorem Table_any (w : World) :
    Calls Try.prog 10 #[] w fun e w' => e = .returned (.agg (tabAt 256)) ∧ Below w.heap.size w w' := by
  obtain ⟨hz, hsz⟩ := zero_of_info tab_info
  have hc0 : (Value.agg (tabAt 0)).cells = tabAt 0 := rfl
  go_enter Try.func10, Try.ntmps10
  go_wp2_with fail
  obtain ⟨W0, hW0⟩ : ∃ W0, (w.alloc (Obj.cells (tabAt 0) 33)).alloc (Obj.cells (tabAt 0) 33) = W0 := ⟨_, rfl⟩
  have hB0 : Below w.heap.size w W0 := by rw [← hW0]; exact ((Below.refl _ w).alloc (Nat.le_refl _) _).alloc (by simp) _
  have b0 : Rowed W0 w.heap.size 33 (tabAt 0) := by rw [← hW0]; exact (Rowed.new w _ _).alloc _
  have b1 : Rowed W0 (w.heap.size + 1) 33 (tabAt 0) := by
    rw [← hW0]
    have := Rowed.new (w.alloc (Obj.cells (tabAt 0) 33)) 33 (tabAt 0)
    rwa [World.size_alloc] at this
  rw [hW0]
  clear hW0 hz hc0
  go_loopw [3] (fun i wr => ∃ k : Nat, k ≤ 256 ∧ i = .int .i64 k ∧ Below w.heap.size w wr ∧ Rowed wr w.heap.size 33 (tabAt 0) ∧ Rowed wr (w.heap.size + 1) 33 (tabAt k)) (fun i _ => 256 - (intOf i).toNat)
  case atStart => exact ⟨0, Nat.zero_le _, rfl, hB0, b0, b1⟩
  case round =>
    obtain ⟨k, hk, rfl, hB, r0, r1⟩ := hrel
    clear b0 b1 hB0
    by_cases hlt : k < 256
    · have cg := r1.cell k
      rw [show (tabAt k)[k]? = some (.int .u32 0) by simp [tabAt, hlt]] at cg
      have fg := r1.frozen k
      have hkb : Value.int .u8 (k : Int) = eB (UInt8.ofNat k) := by
        have : (UInt8.ofNat k).toNat = k := by simp; omega
        rw [eB, this]
      have hstep := fun w => Step_any 0#32 (UInt8.ofNat k) w
      rw [show wV 0#32 = .int .u32 0 from rfl, ← hkb] at hstep
      have Hkb := Lib.hid hkb
      clear hkb
      have hl : decide ((k : Int) < 256) = true := decide_eq_true (by omega)
      go_wp2_with (go_at_call 9; refine (hstep _).mono ?_; rintro e w' ⟨rfl, rfl⟩)
      go_roundw
      case rel =>
        refine ⟨k + 1, by omega, by go_num, hB.setCell (p := ⟨w.heap.size + 1, k, none⟩) (by simp) (wV (stepW 0#32 (UInt8.ofNat k))), r0.other (w.heap.size + 1) k _ (by omega), ?_⟩
        rw [← tabAt_set k hlt]
        exact r1.set k _
      case measure => simp [intOf]; omega
    · obtain rfl : k = 256 := by omega
      go_wp2_with (first
        | (refine wpList_load_row rfl 33 (.tmp 1) rfl (w.heap.size + 1) rfl _ (tabAt 256) _ _ r1 Try.underlying33 rfl (by rw [hsz, tabAt_size]) ?_)
        | (refine wpList_store_row rfl 33 (.tmp 0) (.tmp 12) rfl w.heap.size (tabAt 256) rfl rfl _ (tabAt 0) r0 (by rw [hsz, tabAt_size]) (by rw [tabAt_size, tabAt_size]) (tab_one 256) ?_))
      have hrow := setRow_heap wr w.heap.size (tabAt 0) (tabAt 256) _ _ r0
      have hB2 : Below w.heap.size w (wr.setRow w.heap.size (tabAt 256)) :=
        hB.trans ⟨rfl, rfl, rfl, by simp, fun k hk => setRow_other wr w.heap.size k _ (by omega)⟩
      refine bodyPost_ret (v := .agg (tabAt 256)) ?_ rfl ⟨rfl, hB2⟩
      exact results_cell_row rfl _ _ w.heap.size _ _ _ _ rfl hrow Try.underlying33 rfl (by rw [hsz, tabAt_size])
end Go.Proofs.Ytnnhijfgbdhmiaa
