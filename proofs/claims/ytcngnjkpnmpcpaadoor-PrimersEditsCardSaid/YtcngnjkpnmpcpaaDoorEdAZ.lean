import Derived.Shelf.Bits.Mul64
import Derived.Laws.CopyOwn
import Derived.Laws.IdiomCopy
import Derived.Deep.RegionLaw
import Derived.Test.YtcngnjkpnmpcpaaDoorCIZ
import Derived.Test.YtcngnjkpnmpcpaaDoorClBZ
import Derived.Test.YtcngnjkpnmpcpaaDoorRXJZ
namespace Go.Proofs.YtcngnjkpnmpcpaaDoor
open Go.RowKit Go.Shelf
attribute [local go_sem] Oper.semAt_some run_store_func
set_option maxHeartbeats 1000000 in
theorem Mul64_one (n : Nat) (hn : n ≤ 1000000) (w : World) :
    Calls Tryd.prog 70 #[.int .u64 1, .int .u64 (n : Int)] w fun e w' => e = .returned (.tuple #[.int .u64 0, .int .u64 (n : Int)]) ∧ w = w' := by
  have e1 : n % 4294967296 = n := Nat.mod_eq_of_lt (by omega)
  have e2 : n / 4294967296 = 0 := Nat.div_eq_of_lt (by omega)
  have m1 := Mul64.maskN n (by omega)
  have m2 : bits .and .u64 1 4294967295 = 1 := by kernel_rfl
  have z0 : bits .and .u64 0 4294967295 = 0 := by kernel_rfl
  have d1 : (n : Int) / 4294967296 = 0 := by rw [Mul64.divN, e2]; rfl
  have w1 := Mul64.wrapN n (by omega)
  have w0 : IntKind.u64.wrap 0 = 0 := by kernel_rfl
  rw [e1] at m1
  clear e1 e2 hn
  go_enter Tryd.func70, Tryd.ntmps70
  go_wp2
  go_ret2
  exact ⟨by simp, rfl⟩
theorem Mul_one (n : Nat) (hn : n ≤ 1000000) (w : World) :
    Calls Tryd.prog 68 #[.int .u64 1, .int .u64 (n : Int)] w fun e w' => e = .returned (.tuple #[.int .u64 0, .int .u64 (n : Int)]) ∧ w = w' := by
  have h := fun w => Mul64_one n hn w
  clear hn
  go_enter Tryd.func68, Tryd.ntmps68
  go_wp2_with fail
  go_at_call 70
  refine (h _).mono ?_
  rintro e w' ⟨rfl, rfl⟩
  go_wp2_with fail
  go_ret2
  exact ⟨rfl, rfl⟩
set_option maxRecDepth 100000 in
set_option maxHeartbeats 1000000 in
theorem Repeat_any (x : Int) (N : Nat) (hN : N ≤ 100000) (h0 : 0 < N) (b : Nat) (w : World) (hA : w.cell? ⟨b, 0, none⟩ = some (eI x)) (hlt : b < w.heap.size) :
    Calls Tryd.prog 66 #[.slice (some ⟨b, 0, none⟩) 1 1, .int .i64 N] w fun e w' => e = .returned (.slice (some ⟨w.heap.size, 0, none⟩) N N) ∧ Rowed w' w.heap.size 3 (cellsI (fun _ => x) N) ∧ Below w.heap.size w w' := by
  have hM := fun w => Mul_one N (by omega) w
  have d1 : decide ((N : Int) < 0) = false := decide_eq_false (by omega)
  have d2 : decide ((9223372036854775807 : Int) < (N : Int)) = false := decide_eq_false (by omega)
  have hsz : (Tryd.prog.info? 3).map (·.size) = some 1 := by kernel_rfl
  have hB0 := below_alloc w (.cells (cellsI (fun _ => 0) N) 3)
  have hg0 : Hid ((w.alloc (.cells (cellsI (fun _ => 0) N) 3)).heap[w.heap.size]? = some (.cells (rowI (fillF x 0) N).toArray 3 (0, 0))) := Lib.hid (by
   have := Rowed.new w 3 (cellsI (fun _ => 0) N)
   rwa [show cellsI (fun _ => 0) N = (rowI (fillF x 0) N).toArray by unfold cellsI rowI fillF; simp] at this)
  have hc0 : ∀ (j : Nat) (v : Value), (List.replicate 1 (eI x))[j]? = some v → (w.alloc (.cells (cellsI (fun _ => 0) N) 3)).cell? ((⟨b, 0, none⟩ : Addr).add j) = some v := by
   intro j v hj
   have hj0 : j = 0 := by
    have := (List.getElem?_eq_some_iff.1 hj).1
    simpa using this
   subst hj0
   simp at hj
   subst hj
   exact (hB0.cell (p := ⟨b, 0, none⟩) hlt).trans hA
  have hmin : (List.replicate 1 (eI x)).length = Nat.min 1 N := by rw [List.length_replicate]; exact (Nat.min_eq_left h0).symm
  have hfit : 0 + (List.replicate 1 (eI x)).length ≤ (rowI (fillF x 0) N).length := by rw [List.length_replicate, rowI_len]; omega
  have hone : ∀ k, ∀ v ∈ List.replicate k (eI x), v.oneCell' = true := fun k v hv => by rw [(List.mem_replicate.1 hv).2]; rfl
  go_enter Tryd.func66, Tryd.ntmps66
  go_wp2_with fail
  go_at_call 68
  refine (hM _).mono ?_
  rintro e w' ⟨rfl, rfl⟩
  clear hM
  have hmk := make_ints N (by omega) N rfl
  have hwN : wrap64 (N : Int) = N := IntWalk.wrap64_in _ (by omega)
  have Hh := Lib.hid h0
  have HN := Lib.hid hN
  clear h0 hN hlt
  go_wp2_with (refine wpList_copy_splice rfl (.tmp 31) (.tmp 32) 65 65 rfl 3 Tryd.underlying65 hsz (some ⟨w.heap.size, 0, none⟩) (some ⟨b, 0, none⟩) N N 1 1 rfl rfl w.heap.size 0 (rowI (fillF x 0) N) 3 hg0.out (List.replicate 1 (eI x)) hmin (fun _ => ⟨rfl, _, rfl, hc0⟩) hfit (hone 1) w.heap.size w hB0 (Nat.le_refl _) ?_; intro w3 hg3 hB3)
  clear hmk hc0 hmin hfit hB0 hg0
  have hg3 : Hid (w3.heap[w.heap.size]? = some (.cells (rowI (fillF x 1) N).toArray 3 (0, 0))) := Lib.hid (by
   have := hg3.out
   rwa [fill_splice x 0 1 N (by have := Hh.out; omega)] at this)
  go_loopw [8] (fun i wr => ∃ m : Nat, 1 ≤ m ∧ m ≤ N ∧ i = .int .i64 m ∧ wr.heap[w.heap.size]? = some (.cells (rowI (fillF x m) N).toArray 3 (0, 0)) ∧ Below w.heap.size w wr) (fun i _ => N - (intOf i).toNat)
  case atStart => exact ⟨1, Nat.le_refl _, Hh.out, by simp, hg3.out, hB3⟩
  case round =>
   obtain ⟨m, hm1, hm, rfl, hg, hB⟩ := hrel
   by_cases hlt : m < N
   · have hkd : decide ((m : Int) < (N : Int)) = true := decide_eq_true (by omega)
     have hne : ¬ N = m := by omega
     have hi1 : (m : Int) ≤ (N : Int) := by omega
     obtain ⟨c, hc⟩ : ∃ c, c = Nat.min m (N - m) := ⟨_, rfl⟩
     have hcm : c = min m (N - m) := hc
     have k9 : m + c ≤ N := by omega
     have kpos : 0 < c := by omega
     have kle : c ≤ m := by omega
     clear hcm
     have hgd : Hid (wr.drew.heap[w.heap.size]? = some (.cells (rowI (fillF x m) N).toArray 3 (0, 0))) := Lib.hid hg
     have hBd : Below w.heap.size w wr.drew := hB.drew
     have hn2 : Hid ((List.replicate c (eI x)).length = Nat.min m (N - m)) := Lib.hid (by rw [List.length_replicate, hc])
     have hfit2 : m + (List.replicate c (eI x)).length ≤ (rowI (fillF x m) N).length := by rw [List.length_replicate, rowI_len]; exact k9
     have hc2 : ∀ (j : Nat) (v : Value), (List.replicate c (eI x))[j]? = some v → wr.drew.cell? ((⟨w.heap.size, 0, none⟩ : Addr).add j) = some v := by
      intro j v hj
      have hjl := (List.getElem?_eq_some_iff.1 hj).1
      rw [List.length_replicate] at hjl
      rw [List.getElem?_replicate, if_pos hjl] at hj
      cases hj
      have hr : Rowed wr.drew w.heap.size 3 (rowI (fillF x m) N).toArray := hgd.out
      rw [show (⟨w.heap.size, 0, none⟩ : Addr).add j = ⟨w.heap.size, j, none⟩ from by unfold Addr.add; split <;> simp_all, hr.cell j]
      rw [List.getElem?_toArray, rowI_get _ _ _ (by omega)]
      unfold fillF
      rw [if_pos (by omega)]
     have Hk := Lib.hid k9
     have Hp := Lib.hid kpos
     have Hm1 := Lib.hid hm1
     have hw1 : wrap64 ((m : Int) + (c : Nat)) = ((m + c : Nat) : Int) := by rw [IntWalk.wrap64_in _ (by have := HN.out; omega)]; omega
     have hw2 : IntKind.i64.wrap ((m : Int) + (c : Nat)) = ((m + c : Nat) : Int) := by rw [IntWalk.i64_in _ (by have := HN.out; omega)]; omega
     clear hg hlt hm hm1 k9 kpos kle hc hg3 hB3
     go_wp2_with fail
     go_region_law (refine step_copy_splice rfl (.tmp 41) (.tmp 44) 65 65 rfl 3 Tryd.underlying65 hsz (some ⟨w.heap.size, m, none⟩) (some ⟨w.heap.size, 0, none⟩) (N - m) (N - m) m N (by simp [Act.eval, Act.put]) (by simp [Act.eval, Act.put]) w.heap.size m (rowI (fillF x m) N) 3 hgd.out (List.replicate c (eI x)) hn2.out (fun _ => ⟨rfl, _, rfl, hc2⟩) hfit2 (hone _) w.heap.size w hBd (Nat.le_refl _) ?_; intro w4 hg4 hB4)
     all_goals
      have hg4 : Hid (w4.heap[w.heap.size]? = some (.cells (rowI (fillF x (m + c)) N).toArray 3 (0, 0))) := Lib.hid (by
       have := hg4.out
       rwa [fill_splice x m c N Hk.out] at this)
      simp only [Act.put, List.getElem_toArray, List.getElem_cons_succ, List.getElem_cons_zero, List.setIfInBounds_toArray, List.set_cons_zero, List.set_cons_succ]
      go_wp2_with fail
      go_roundw
      case rel => exact ⟨m + c, by have := Hm1.out; omega, Hk.out, by go_num, hg4.out, hB4⟩
      case measure => have := Hp.out; have := Hk.out; simp [intOf]; omega
   · obtain rfl : m = N := by omega
     have hkd : decide ((m : Int) < (m : Int)) = false := decide_eq_false (by omega)
     rw [fill_all] at hg
     clear hlt hm hm1 hg3 hB3
     go_wp2_with fail
     go_ret
     exact ⟨rfl, hg, hB⟩
set_option maxRecDepth 100000 in
theorem unreached_any (N : Nat) (hN : N ≤ 100000) (h0 : 0 < N) (w : World) :
    Calls Tryd.prog 62 #[.int .i64 N] w fun e w' => ∃ g, e = .returned (.slice (some ⟨g, 0, none⟩) N N) ∧ w.heap.size ≤ g ∧ g < w'.heap.size ∧ Rowed w' g 3 (cellsI (fun _ => -2000) N) ∧ Below w.heap.size w w' := by
  have hA := below_alloc w (.cells #[.int .i64 (-2000)] 3)
  have hr := Rowed.new w 3 #[.int .i64 (-2000)]
  have hR := Repeat_any (-2000) N hN h0 w.heap.size (w.alloc (.cells #[.int .i64 (-2000)] 3)) (hr.cell 0) hr.lt
  go_enter Tryd.func62, Tryd.ntmps62
  go_wp2_with fail
  go_at_call 66
  refine hR.mono ?_
  rintro e w1 ⟨rfl, h1, h2⟩
  go_wp2_with fail
  go_ret
  simp only [World.size_alloc] at h1
  exact ⟨_, rfl, by omega, h1.lt, h1, below_trans hA h2⟩
end Go.Proofs.YtcngnjkpnmpcpaaDoor
