/- Contract of sums.Unpack. -/
import Derived.Test.YtnlndaknljbhcaaDoorSuLZ
namespace Go.Proofs.YtnlndaknljbhcaaDoor
open Go.RowKit Go.Shelf
attribute [local go_sem] Oper.semAt_some run_store_func

set_option maxRecDepth 100000 in
set_option maxHeartbeats 2000000 in
theorem Unpack1_is (b1 b2 b3 : Nat) (A : Option Addr) (c : Nat) (x : List UInt8) (n : Int) (W : World) (hS : Sl eB W.heap.size W (.slice A x.length c) x) (h1 : W.cell? ⟨b1, 0, none⟩ = some (.slice A x.length c)) (h2 : W.cell? ⟨b2, 0, none⟩ = some (.int .i64 n)) (h3 : Rowed W b3 28 (c3 0 0 0)) :
    WorkIs 75 #[.pointer (some ⟨b1, 0, none⟩), .pointer (some ⟨b2, 0, none⟩), .pointer (some ⟨b3, 0, none⟩)] b3 W
      (fun w' => ∃ a b c : Nat, unG x n = some (a, b, c) ∧ Rowed w' b3 28 (c3 a b c)) (fun m w' => m = 2 ∧ unG x n = none ∧ Rowed w' b3 28 (c3 0 0 0)) := by
  have hb := unpack_any _ x n W hS
  have hl := h3.lt
  unfold WorkIs
  go_enter Tryd.func75, Tryd.ntmps75
  go_wp2_with fail
  go_at_call 76
  refine hb.mono ?_
  rintro e w1 ⟨hB, ⟨a, b, d, hc, rfl⟩ | ⟨hn, rfl⟩⟩
  · have h3' : Rowed w1 b3 28 (c3 0 0 0) := h3.below hB hl
    have hK : Keep W.heap.size b3 W (w1.setRow b3 (c3 a b d)) := keep_setRow (keep_of hB) _
    have hrow := setRow_heap w1 b3 (c3 0 0 0) (c3 a b d) _ _ h3'
    have Hc := Lib.hid hc
    clear hc hb
    go_wp2_with (refine wpList_store_row rfl 28 (.tmp 2) (.tmp 5) rfl b3 (c3 a b d) rfl rfl _ _ h3' (size_c3 a b d) rfl (one_c3 a b d) ?_)
    go_end0
    exact ⟨hK, .inl ⟨⟨_, rfl⟩, a, b, d, Hc.out, hrow⟩⟩
  · exact ⟨rfl, keep_of hB, .inr ⟨2, rfl, rfl, hn, h3.below hB hl⟩⟩
set_option maxRecDepth 100000 in
set_option maxHeartbeats 2000000 in
theorem Unpack_any (sv : Value) (x : List UInt8) (n : Int) (w : World) (hS : Sl eB w.heap.size w sv x) :
    Calls Tryd.prog 61 #[sv, .int .i64 n] w fun e w' => Below w.heap.size w w' ∧
      ((∃ a b c : Nat, unG x n = some (a, b, c) ∧ e = .returned (.tuple #[v3 a b c, .int .i64 0])) ∨ (unG x n = none ∧ e = .returned (.tuple #[v3 0 0 0, .int .i64 2]))) := by
  have hmf : ∀ (fn : Fn) (first cap : Array Value) (w : World), (Instr.makeFunc fn first cap).run Tryd.prog w = .ok (.func fn first cap) w := fun _ _ _ _ => rfl
  obtain ⟨A, c, rfl⟩ := hS.len
  obtain ⟨hz, hsz⟩ := zero_of_info infoS
  have hc0 : (v3 0 0 0).cells = #[.int .i64 0, .int .i64 0, .int .i64 0] := rfl
  have hb1 := (((Boxed.new w 22 (.slice A x.length c)).alloc (.cells #[.int .i64 n] 3)).alloc (.cells (c3 0 0 0) 28)).alloc (.cells (c3 0 0 0) 28)
  have hbn := ((Boxed.new (w.alloc (.cells #[.slice A x.length c] 22)) 3 (.int .i64 n)).alloc (.cells (c3 0 0 0) 28)).alloc (.cells (c3 0 0 0) 28)
  have hb2 := (Rowed.new ((w.alloc (.cells #[.slice A x.length c] 22)).alloc (.cells #[.int .i64 n] 3)) 28 (c3 0 0 0)).alloc (.cells (c3 0 0 0) 28)
  have hb3 := Rowed.new (((w.alloc (.cells #[.slice A x.length c] 22)).alloc (.cells #[.int .i64 n] 3)).alloc (.cells (c3 0 0 0) 28)) 28 (c3 0 0 0)
  rw [World.size_alloc] at hbn
  rw [World.size_alloc, World.size_alloc] at hb2
  rw [World.size_alloc, World.size_alloc, World.size_alloc] at hb3
  have hA : Below w.heap.size w ((((w.alloc (.cells #[.slice A x.length c] 22)).alloc (.cells #[.int .i64 n] 3)).alloc (.cells (c3 0 0 0) 28)).alloc (.cells (c3 0 0 0) 28)) := ((((Below.refl _ w).alloc (Nat.le_refl _) _).alloc (by simp) _).alloc (by simp; omega) _).alloc (by simp; omega) _
  have hs0 : ((((w.alloc (.cells #[.slice A x.length c] 22)).alloc (.cells #[.int .i64 n] 3)).alloc (.cells (c3 0 0 0) 28)).alloc (.cells (c3 0 0 0) 28)).heap.size = w.heap.size + 4 := by simp
  obtain ⟨W0, hW0⟩ : ∃ W0, (((w.alloc (.cells #[.slice A x.length c] 22)).alloc (.cells #[.int .i64 n] 3)).alloc (.cells (c3 0 0 0) 28)).alloc (.cells (c3 0 0 0) 28) = W0 := ⟨_, rfl⟩
  rw [hW0] at hb1 hbn hb2 hb3 hA hs0
  have hA4 := below_alloc W0 (.cells #[.int .i64 0] 24)
  have hB4 := below_trans hA hA4
  have hwork := Unpack1_is w.heap.size (w.heap.size + 1) (w.heap.size + 1 + 1 + 1) A c x n (W0.alloc (.cells #[.int .i64 0] 24)) (hS.next hB4) (hb1.alloc _).cell (hbn.alloc _).cell (hb3.alloc _)
  have hct := caught_any 75 _ (w.heap.size + 1 + 1 + 1) W0 (by omega) (enters_of Tryd.func75 (by kernel_rfl) rfl) _ _ hwork
  have HW0 := Lib.hid hW0
  clear hwork hA4 hB4 hb1 hbn hb3 hW0
  go_enter Tryd.func61, Tryd.ntmps61
  go_wp2_with fail
  rw [HW0.out]
  go_at_call 66
  refine hct.mono ?_
  rintro e w' ⟨w1, m, hK, rfl, rfl, hlt, hR⟩
  have hBf : Below w.heap.size w (w1.setCell ⟨W0.heap.size, 0, none⟩ (.int .i64 m)) := (below_of_keep hK hA (by omega) (by omega)).setCell (p := ⟨W0.heap.size, 0, none⟩) (by show w.heap.size ≤ W0.heap.size; omega) _
  have hb2' : Rowed w1 (w.heap.size + 1 + 1) 28 (c3 0 0 0) := (hK.2 _ (by omega) (by omega)).trans hb2
  have hb2w := hb2'.other W0.heap.size 0 (.int .i64 m) (by omega)
  clear hct
  rcases hR with ⟨rfl, a, b, d, hg, hv⟩ | ⟨rfl, hg, hv⟩
  · have hvw := hv.other W0.heap.size 0 (.int .i64 0) (by omega)
    have Hg := Lib.hid hg
    clear hg
    generalize w1.setCell ⟨W0.heap.size, 0, none⟩ (.int .i64 0) = w2 at *
    have hrow := setRow_heap w2 (w.heap.size + 1 + 1) (c3 0 0 0) (c3 a b d) _ _ hb2w
    have hB3 := below_setRow hBf (w.heap.size + 1 + 1) (c3 a b d) (by omega)
    go_wp2_with (first
      | (refine wpList_load_row rfl 28 (.tmp 6) rfl (w.heap.size + 1 + 1 + 1) rfl _ (c3 a b d) _ _ hvw Tryd.underlying28 rfl (size_c3 a b d) ?_)
      | (refine wpList_store_row rfl 28 (.tmp 4) (.tmp 10) rfl (w.heap.size + 1 + 1) (c3 a b d) rfl rfl _ _ hb2w (size_c3 a b d) rfl (one_c3 a b d) ?_))
    refine bodyPost_ret (v := .tuple #[v3 a b d, .int .i64 0]) ?_ rfl ⟨hB3, .inl ⟨a, b, d, Hg.out, rfl⟩⟩
    exact results_cell_slot (p := 4) (q := 5) rfl _ _ (w.heap.size + 1 + 1) _ _ _ _ rfl hrow Tryd.underlying28 rfl (size_c3 a b d)
  · have hvw := hv.other W0.heap.size 0 (.int .i64 2) (by omega)
    have Hg := Lib.hid hg
    clear hg
    generalize w1.setCell ⟨W0.heap.size, 0, none⟩ (.int .i64 2) = w2 at *
    have hrow := setRow_heap w2 (w.heap.size + 1 + 1) (c3 0 0 0) (c3 0 0 0) _ _ hb2w
    have hB3 := below_setRow hBf (w.heap.size + 1 + 1) (c3 0 0 0) (by omega)
    go_wp2_with (first
      | (refine wpList_load_row rfl 28 (.tmp 6) rfl (w.heap.size + 1 + 1 + 1) rfl _ (c3 0 0 0) _ _ hvw Tryd.underlying28 rfl (size_c3 0 0 0) ?_)
      | (refine wpList_store_row rfl 28 (.tmp 4) (.tmp 10) rfl (w.heap.size + 1 + 1) (c3 0 0 0) rfl rfl _ _ hb2w (size_c3 0 0 0) rfl (one_c3 0 0 0) ?_))
    refine bodyPost_ret (v := .tuple #[v3 0 0 0, .int .i64 2]) ?_ rfl ⟨hB3, .inr ⟨Hg.out, rfl⟩⟩
    exact results_cell_slot (p := 4) (q := 5) rfl _ _ (w.heap.size + 1 + 1) _ _ _ _ rfl hrow Tryd.underlying28 rfl (size_c3 0 0 0)
end Go.Proofs.YtnlndaknljbhcaaDoor
/- The document's Right, and what bits tell. -/
namespace Go.Proofs.YtnlndaknljbhcaaDoor
open Go.RowKit Go.Shelf
attribute [local go_sem] Oper.semAt_some run_store_func

theorem refmay_any (k : Int) (w : World) : Calls Tryd.prog 62 #[.int .i64 k] w fun e w' => e = .returned (.bool (mayB k)) ∧ w = w' := by
  by_cases h : 2 ≤ k
  · have d : decide (2 ≤ k) = true := decide_eq_true h
    rw [mayB, d, Bool.true_and]
    go_enter Tryd.func62, Tryd.ntmps62
    go_wp2
    go_ret
    exact ⟨rfl, rfl⟩
  · have d : decide (2 ≤ k) = false := decide_eq_false h
    rw [mayB, d, Bool.false_and]
    go_enter Tryd.func62, Tryd.ntmps62
    go_wp2
    go_ret
    exact ⟨rfl, rfl⟩
set_option maxRecDepth 100000 in
set_option maxHeartbeats 2000000 in
theorem refRight_any (a b c n : Int) (w : World) :
    Calls Tryd.prog 58 #[v3 a b c, .int .i64 n] w fun e w' => e = .returned (.bool (rightB a b c n)) ∧ Below w.heap.size w w' := by
  have hmy := refmay_any n
  have hcl : (v3 a b c).cells = c3 a b c := rfl
  have hr := Rowed.new w 28 (c3 a b c)
  have hB := below_alloc w (.cells (c3 a b c) 28)
  have k0 := hr.cell 0
  have k1 := hr.cell 1
  have k2 := hr.cell 2
  simp at k0 k1 k2
  have hn : mayB n = true → 2 ≤ n ∧ n ≤ 1000 := by
    intro h
    unfold mayB at h
    rw [Bool.and_eq_true, decide_eq_true_eq, decide_eq_true_eq] at h
    omega
  cases hm : mayB n with
  | false =>
    have Hv := Lib.hid (show rightB a b c n = false by rw [rightB, hm, Bool.false_and])
    rw [hm] at hmy
    go_enter Tryd.func58, Tryd.ntmps58
    go_wp2_with (go_at_call 62; refine (hmy _).mono ?_; rintro e w' ⟨rfl, rfl⟩)
    go_ret
    exact ⟨by rw [Hv.out]; rfl, hB⟩
  | true =>
    obtain ⟨hn2, hn1⟩ := hn hm
    rw [hm] at hmy
    have e6 : IntKind.i64.wrap (6 * n) = 6 * n := IntWalk.i64_in _ (by omega)
    have w6 : wrap64 (6 * n) = 6 * n := IntWalk.wrap64_in _ (by omega)
    cases h0 : decide (0 ≤ a) with
    | false =>
      have Hv := Lib.hid (show rightB a b c n = false by rw [rightB, hm, h0]; simp)
      go_enter Tryd.func58, Tryd.ntmps58
      go_wp2_with (go_at_call 62; refine (hmy _).mono ?_; rintro e w' ⟨rfl, rfl⟩)
      go_ret
      exact ⟨by rw [Hv.out]; rfl, hB⟩
    | true =>
      cases h1 : decide (a < n) with
      | false =>
        have Hv := Lib.hid (show rightB a b c n = false by rw [rightB, hm, h0, h1]; simp)
        go_enter Tryd.func58, Tryd.ntmps58
        go_wp2_with (go_at_call 62; refine (hmy _).mono ?_; rintro e w' ⟨rfl, rfl⟩)
        go_ret
        exact ⟨by rw [Hv.out]; rfl, hB⟩
      | true =>
        cases h2 : decide (0 ≤ b) with
        | false =>
          have Hv := Lib.hid (show rightB a b c n = false by rw [rightB, hm, h0, h1, h2]; simp)
          go_enter Tryd.func58, Tryd.ntmps58
          go_wp2_with (go_at_call 62; refine (hmy _).mono ?_; rintro e w' ⟨rfl, rfl⟩)
          go_ret
          exact ⟨by rw [Hv.out]; rfl, hB⟩
        | true =>
          cases h3 : decide (b < 4) with
          | false =>
            have Hv := Lib.hid (show rightB a b c n = false by rw [rightB, hm, h0, h1, h2, h3]; simp)
            go_enter Tryd.func58, Tryd.ntmps58
            go_wp2_with (go_at_call 62; refine (hmy _).mono ?_; rintro e w' ⟨rfl, rfl⟩)
            go_ret
            exact ⟨by rw [Hv.out]; rfl, hB⟩
          | true =>
            cases h4 : decide (0 ≤ c) with
            | false =>
              have Hv := Lib.hid (show rightB a b c n = false by rw [rightB, hm, h0, h1, h2, h3, h4]; simp)
              go_enter Tryd.func58, Tryd.ntmps58
              go_wp2_with (go_at_call 62; refine (hmy _).mono ?_; rintro e w' ⟨rfl, rfl⟩)
              go_ret
              exact ⟨by rw [Hv.out]; rfl, hB⟩
            | true =>
              cases h5 : decide (c ≤ 6 * n) with
              | false =>
                have Hv := Lib.hid (show rightB a b c n = false by rw [rightB, hm, h0, h1, h2, h3, h4, h5]; simp)
                go_enter Tryd.func58, Tryd.ntmps58
                go_wp2_with (go_at_call 62; refine (hmy _).mono ?_; rintro e w' ⟨rfl, rfl⟩)
                go_ret
                exact ⟨by rw [Hv.out]; rfl, hB⟩
              | true =>
                have Hv := Lib.hid (show rightB a b c n = true by rw [rightB, hm, h0, h1, h2, h3, h4, h5]; rfl)
                go_enter Tryd.func58, Tryd.ntmps58
                go_wp2_with (go_at_call 62; refine (hmy _).mono ?_; rintro e w' ⟨rfl, rfl⟩)
                go_ret
                exact ⟨by rw [Hv.out]; rfl, hB⟩

theorem numB_congr {l l' : List UInt8} {k : Nat} (h : ∀ j, j < k → atB l j = atB l' j) : numB l k = numB l' k := by
  induction k with
  | zero => rfl
  | succ k ih => rw [numB, numB, ih (fun j hj => h j (by omega)), h k (by omega)]
theorem numB_inj {l l' : List UInt8} {k : Nat} (h : ∀ j, j < k → (atB l j).toNat ≤ 1) (h' : ∀ j, j < k → (atB l' j).toNat ≤ 1) (e : numB l k = numB l' k) : ∀ j, j < k → atB l j = atB l' j := by
  induction k with
  | zero => intro j hj; omega
  | succ k ih =>
    rw [numB, numB] at e
    have h1 := h k (by omega)
    have h2 := h' k (by omega)
    intro j hj
    by_cases ej : j = k
    · subst ej
      exact UInt8.toNat_inj.1 (by omega)
    · exact ih (fun j hj => h j (by omega)) (fun j hj => h' j (by omega)) (by omega) j (by omega)
theorem atB_append_left (l r : List UInt8) {j : Nat} (h : j < l.length) : atB (l ++ r) j = atB l j := by simp [atB, List.getElem?_append_left h]
theorem atB_append_right (l r : List UInt8) {j : Nat} (h : l.length ≤ j) : atB (l ++ r) j = atB r (j - l.length) := by simp [atB, List.getElem?_append_right h]
theorem atB_bits (x wd : Nat) {k : Nat} (h : k < wd) : (atB (bitsOf x wd) k).toNat = x / 2 ^ (wd - 1 - k) % 2 := by
  simp only [atB, bitsOf, List.getElem?_map, List.getElem?_range h, Option.map_some, Option.getD_some]
  have : x / 2 ^ (wd - 1 - k) % 2 < 2 := Nat.mod_lt _ (by omega)
  simp
  omega
theorem numB_bits (x wd : Nat) (hx : x < 2 ^ wd) (r : List UInt8) : ∀ k, k ≤ wd → numB (bitsOf x wd ++ r) k = x / 2 ^ (wd - k) := by
  intro k
  induction k with
  | zero => intro _; rw [numB, Nat.sub_zero, Nat.div_eq_of_lt hx]
  | succ k ih =>
    intro hk
    rw [numB, ih (by omega), atB_append_left _ _ (by rw [bitsOf_length]; omega), atB_bits x wd (by omega)]
    have e : wd - k = (wd - 1 - k) + 1 := by omega
    have e2 : wd - (k + 1) = wd - 1 - k := by omega
    rw [e, e2, Nat.pow_succ, ← Nat.div_div_eq_div_mul]
    omega
theorem numB_all (x wd : Nat) (hx : x < 2 ^ wd) (r : List UInt8) : numB (bitsOf x wd ++ r) wd = x := by
  rw [numB_bits x wd hx r wd (Nat.le_refl _), Nat.sub_self, Nat.pow_zero, Nat.div_one]
theorem bits_le (x wd k : Nat) : (atB (bitsOf x wd) k).toNat ≤ 1 := by
  by_cases h : k < wd
  · rw [atB_bits x wd h]; omega
  · have : (bitsOf x wd)[k]? = none := List.getElem?_eq_none (by rw [bitsOf_length]; omega)
    simp [atB, this]
theorem app_le {l r : List UInt8} (hl : ∀ k, (atB l k).toNat ≤ 1) (hr : ∀ k, (atB r k).toNat ≤ 1) (k : Nat) : (atB (l ++ r) k).toNat ≤ 1 := by
  by_cases h : k < l.length
  · rw [atB_append_left _ _ h]; exact hl k
  · rw [atB_append_right _ _ (by omega)]; exact hr _
theorem pack_le (a b c n k : Nat) : (atB (packL a b c n) k).toNat ≤ 1 := app_le (app_le (app_le (bits_le _ _) (bits_le _ _)) (bits_le _ _)) (bits_le _ _) k
theorem unG_pack (a b c n : Nat) (h : rightB a b c n = true) : unG (packL a b c n) n = some (a, b, c) := by
  obtain ⟨a', b', c', n', ha, hb, hc, hn, h2, h1, hal, hbl, hcl⟩ := rightB_nat h
  obtain rfl : a = a' := by omega
  obtain rfl : b = b' := by omega
  obtain rfl : c = c' := by omega
  obtain rfl : n = n' := by omega
  have t1 := tb_lt n h2 h1
  have t2 := wb_lt n h2 h1
  have hm : mayB n = true := by unfold mayB; rw [decide_eq_true (by omega), decide_eq_true (by omega)]; rfl
  have e0 : numB (packL a b c n) (zb n) = 0 := by
    unfold packL
    rw [List.append_assoc, List.append_assoc]
    exact numB_all 0 _ (Nat.two_pow_pos _) _
  have d1 : (packL a b c n).drop (zb n) = bitsOf a (tb n) ++ (bitsOf b 2 ++ bitsOf c (wb n)) := by
    unfold packL
    rw [List.append_assoc, List.append_assoc, List.drop_left' (bitsOf_length _ _)]
  have d2 : (packL a b c n).drop (zb n + tb n) = bitsOf b 2 ++ bitsOf c (wb n) := by
    rw [← List.drop_drop, d1, List.drop_left' (bitsOf_length _ _)]
  have d3 : (packL a b c n).drop (zb n + tb n + 2) = bitsOf c (wb n) := by
    rw [← List.drop_drop, d2, List.drop_left' (bitsOf_length _ _)]
  have e1 : numB ((packL a b c n).drop (zb n)) (tb n) = a := by rw [d1]; exact numB_all a _ (by omega) _
  have e2 : numB ((packL a b c n).drop (zb n + tb n)) 2 = b := by rw [d2]; exact numB_all b _ (by omega) _
  have e3 : numB ((packL a b c n).drop (zb n + tb n + 2)) (wb n) = c := by
    rw [d3, ← List.append_nil (bitsOf c (wb n))]; exact numB_all c _ (by omega) _
  unfold unG
  simp only [Int.toNat_natCast, e0, e1, e2, e3]
  rw [if_pos ⟨hm, packL_length a b c n, fun k _ => pack_le a b c n k, trivial, h⟩]
theorem unG_some {l : List UInt8} {n : Int} {a b c : Nat} (h : unG l n = some (a, b, c)) : l.length = longN n.toNat ∧ (∀ k, k < l.length → (atB l k).toNat ≤ 1) ∧ numB l (zb n.toNat) = 0 ∧ numB (l.drop (zb n.toNat)) (tb n.toNat) = a ∧ numB (l.drop (zb n.toNat + tb n.toNat)) 2 = b ∧ numB (l.drop (zb n.toNat + tb n.toNat + 2)) (wb n.toNat) = c := by
  unfold unG at h
  split at h
  · rename_i hc
    injection h with h
    injection h with h1 h2
    injection h2 with h2 h3
    exact ⟨hc.2.1, hc.2.2.1, hc.2.2.2.1, h1, h2, h3⟩
  · cases h
theorem unG_inj {l l' : List UInt8} {n : Int} {s : Nat × Nat × Nat} (h : unG l n = some s) (h' : unG l' n = some s) : ∀ j, j < longN n.toNat → atB l j = atB l' j := by
  obtain ⟨a, b, c⟩ := s
  obtain ⟨h0, h1, h2, h3, h4, h5⟩ := unG_some h
  obtain ⟨k0, k1, k2, k3, k4, k5⟩ := unG_some h'
  generalize n.toNat = m at *
  have hl : longN m = zb m + tb m + 2 + wb m := rfl
  have g : ∀ (o d : Nat), o + d ≤ longN m → numB (l.drop o) d = numB (l'.drop o) d → ∀ j, j < d → atB l (o + j) = atB l' (o + j) := by
    intro o d ho e j hj
    have := numB_inj (l := l.drop o) (l' := l'.drop o) (k := d) (fun i hi => by rw [atB_drop]; exact h1 _ (by omega)) (fun i hi => by rw [atB_drop]; exact k1 _ (by omega)) e j hj
    rwa [atB_drop, atB_drop] at this
  intro j hj
  by_cases a1 : j < zb m
  · exact numB_inj (fun i hi => h1 i (by omega)) (fun i hi => k1 i (by omega)) (h2.trans k2.symm) j a1
  · by_cases a2 : j < zb m + tb m
    · have := g (zb m) (tb m) (by omega) (h3.trans k3.symm) (j - zb m) (by omega)
      rwa [show zb m + (j - zb m) = j by omega] at this
    · by_cases a3 : j < zb m + tb m + 2
      · have := g (zb m + tb m) 2 (by omega) (h4.trans k4.symm) (j - (zb m + tb m)) (by omega)
        rwa [show zb m + tb m + (j - (zb m + tb m)) = j by omega] at this
      · have := g (zb m + tb m + 2) (wb m) (by omega) (h5.trans k5.symm) (j - (zb m + tb m + 2)) (by omega)
        rwa [show zb m + tb m + 2 + (j - (zb m + tb m + 2)) = j by omega] at this
theorem atB_set (l : List UInt8) (p : Nat) (y : UInt8) (h : p < l.length) : atB (l.set p y) p = y := by simp [atB, h]
theorem unG_flip (a b c n p : Nat) (h : rightB a b c n = true) (hp : p < longN n) (y : UInt8) (hy : y ≠ atB (packL a b c n) p) : unG ((packL a b c n).set p y) n ≠ some (a, b, c) := by
  intro e
  have := unG_inj e (unG_pack a b c n h) p (by rw [Int.toNat_natCast]; exact hp)
  rw [atB_set _ _ _ (by rw [packL_length]; exact hp)] at this
  exact hy this
theorem unG_bad (l : List UInt8) (n : Int) (p : Nat) (hp : p < l.length) : unG (l.set p 2) n = none := by
  unfold unG
  rw [if_neg]
  rintro ⟨-, -, h, -⟩
  have := h p (by simpa using hp)
  rw [atB_set l p 2 hp] at this
  exact absurd this (by decide)
theorem long_even (n : Nat) : longN n % 2 = 0 := by unfold longN zb; omega
end Go.Proofs.YtnlndaknljbhcaaDoor
