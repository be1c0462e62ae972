/- Contracts of shape.groups and its iterator. -/
import Derived.Test.YtjfhbhidnlgabaaDoorShD
import Derived.Test.YtjfhbhidnlgabaaDoorR2
namespace Go.Proofs.YtjfhbhidnlgabaaDoor
open Go.RowKit Go.Shelf
attribute [local go_sem] Oper.semAt_some run_store_func

/-- How many groups there are of m pieces, d of a group. -/
def cntOf (m d : Nat) : Nat := (m + d - 1) / d
/-- How many pieces each group has. -/
def grp (m d : Nat) : List Nat := (List.range (cntOf m d)).map fun j => min (m - j * d) d
theorem grp_length (m d : Nat) : (grp m d).length = cntOf m d := by simp [grp]
theorem cnt_iff (m d j : Nat) (hd : 0 < d) : j < cntOf m d ↔ j * d < m := by
  unfold cntOf
  rw [Nat.lt_div_iff_mul_lt hd]
  omega
theorem cnt_le (m d : Nat) (hd : 0 < d) : cntOf m d ≤ m := by
  rcases Nat.lt_or_ge m (cntOf m d) with h | h
  · have h1 := (cnt_iff m d m hd).1 h
    have h2 := Nat.le_mul_of_pos_right m hd
    omega
  · exact h
theorem grp_take (m d j : Nat) (h : j < cntOf m d) : (grp m d).take j ++ [min (m - j * d) d] = (grp m d).take (j + 1) := by
  rw [List.take_succ_eq_append_getElem (by rw [grp_length]; exact h)]
  congr 2
  simp [grp]
theorem grp_take_length (m d j : Nat) (h : j ≤ cntOf m d) : ((grp m d).take j).length = j := by
  rw [List.length_take, grp_length]; omega

set_option maxRecDepth 100000 in
set_option maxHeartbeats 1000000 in
theorem groups_yes (p d r n : Nat) (hn : n ≤ 4000) (w : World) :
    Calls Tryd.prog 42 #[shV p d r, .int .i64 n] w fun e w' => e = .returned (.func (.func 53) #[] #[.pointer (some ⟨w.heap.size + 1, 0, none⟩), .pointer (some ⟨w.heap.size, 0, none⟩)]) ∧
      Below w.heap.size w w' ∧ InBox w' w.heap.size p d r ∧ w'.cell? ⟨w.heap.size + 1, 0, none⟩ = some (.int .i64 n) := by
  have hA1 := below_alloc w (.cells #[.int .i64 p, .int .i64 d, .int .i64 r] 23)
  have hA2 := below_alloc (w.alloc (.cells #[.int .i64 p, .int .i64 d, .int .i64 r] 23)) (.cells #[.int .i64 n] 3)
  have hI := (InBox.new w p d r 23).below hA2 (by simp)
  have hb := (Boxed.new (w.alloc (.cells #[.int .i64 p, .int .i64 d, .int .i64 r] 23)) 3 (.int .i64 n)).cell
  rw [World.size_alloc] at hb
  have d1 : decide ((n : Int) < 0) = false := decide_eq_false (by omega)
  have d2 : decide (4000 < (n : Int)) = false := decide_eq_false (by omega)
  go_enter Tryd.func42, Tryd.ntmps42
  go_wp2
  go_ret
  exact ⟨rfl, below_trans hA1 hA2, hI, hb⟩
set_option maxRecDepth 100000 in
set_option maxHeartbeats 1000000 in
theorem groups_no (P D R n : Int) (hn : n < 0 ∨ 4000 < n) (w : World) :
    Calls Tryd.prog 42 #[shV P D R, .int .i64 n] w fun e w' => e = .panicked [{ v := .iface 24 (.int .i64 180), recovered := false }] ∧ Below w.heap.size w w' := by
  have hA1 := below_alloc w (.cells #[.int .i64 P, .int .i64 D, .int .i64 R] 23)
  have hA2 := below_alloc (w.alloc (.cells #[.int .i64 P, .int .i64 D, .int .i64 R] 23)) (.cells #[.int .i64 n] 3)
  have hc : decide (n < 0) = true ∨ (decide (n < 0) = false ∧ decide (4000 < n) = true) := by
    simp only [decide_eq_true_eq, decide_eq_false_iff_not]; omega
  clear hn
  rcases hc with c1 | ⟨c1, c2⟩
  all_goals
    go_enter Tryd.func42, Tryd.ntmps42
    go_wp2
    exact ⟨rfl, rfl, below_trans hA1 hA2⟩

set_option maxRecDepth 100000 in
set_option maxHeartbeats 2000000 in
theorem groups1_in (n : Nat) (l B1 B2 n₀ g : Nat) (len p d r m : Nat) (hlen : len ≤ 4000) (hp : 0 < p) (hp2 : p ≤ 22) (hd : 0 < d) (hd2 : d ≤ 255) (hm : m = (len + p - 1) / p) (J Jx : List Nat → World → Prop)
    (hY : ∀ pre x W, J pre W → pre.length < cntOf m d → YieldAt Fence.wide n Tryd.prog l #[.int .i64 (x : Nat)] W fun e W' =>
      (e = .returned (.bool true) ∧ J (pre ++ [x]) W' ∧ Keep n₀ g W W') ∨ (e = .returned (.bool false) ∧ Jx (pre ++ [x]) W'))
    (W : World) (h1 : W.cell? ⟨B1, 0, none⟩ = some (.int .i64 len)) (h2 : InBox W B2 p d r) (_hl1 : B1 < n₀) (hl2 : B2 < n₀) (hg2 : B2 ≠ g) (h0 : J [] W) :
    CallsIn Fence.wide (n + 1) Tryd.prog 53 #[.func (.yield l) #[] #[], .pointer (some ⟨B1, 0, none⟩), .pointer (some ⟨B2, 0, none⟩)] W fun e W' => (∃ v, e = .returned v) ∧
      ((∃ ys, ys = grp m d ∧ J ys W') ∨ (∃ pre, pre <+: grp m d ∧ Jx pre W')) := by
  have hm4 : m ≤ 4100 := by
    rw [hm]
    exact Nat.le_trans (Nat.div_le_self _ _) (by omega)
  have ed : ((len : Int) + p - 1) / (p : Int) = (m : Int) := by
    rw [hm, show ((len : Int) + p - 1) = ((len + p - 1 : Nat) : Int) by omega]; norm_cast
  have ed2 : ((len : Int) + p - 1).tdiv (p : Int) = (m : Int) := by
    rw [Int.tdiv_eq_ediv_of_nonneg (by omega)]; exact ed
  have e1 : IntKind.i64.wrap ((len : Int) + p) = (len : Int) + p := IntWalk.i64_in _ (by omega)
  have ez : ((p : Int) == 0) = false := by rw [beq_eq_false_iff_ne]; omega
  have ez' : (p == 0) = false := by rw [beq_eq_false_iff_ne]; omega
  clear hm
  refine callsIn_of_wp Tryd.func53 rfl trivial ?_ rfl
  simp only [Tryd.ntmps53, List.size_toArray, List.length_cons, List.length_nil, Nat.reduceAdd, Nat.reduceSub, Array.replicate_succ, Array.replicate_zero, List.push_toArray, List.append_toArray, List.nil_append, List.cons_append]
  have c0 := h2.1
  have c1 := h2.2.1
  gi_wp2
  gi_loopw [4] (fun i wr => ∃ j : Nat, j ≤ cntOf m d ∧ i = .int .i64 ((m : Int) - j * d) ∧ J ((grp m d).take j) wr ∧ Keep n₀ g W wr)
    (fun i _ => (intOf i).toNat)
  case atStart => exact ⟨0, Nat.zero_le _, by simp, h0, keep_r _ _ _⟩
  case round =>
    obtain ⟨j, hj, rfl, hJs, hnx⟩ := hrel
    by_cases hlt : j < cntOf m d
    · have hlm := (cnt_iff m d j hd).1 hlt
      have hYj := hY _ (min (m - j * d) d) wr hJs (by rw [grp_take_length m d j hj]; exact hlt)
      rw [grp_take m d j hlt] at hYj
      have hpre : (grp m d).take (j + 1) <+: grp m d := List.take_prefix _ _
      obtain ⟨x, hx⟩ : ∃ x : Int, (m : Int) - j * d = x := ⟨_, rfl⟩
      have hjd : ((j * d : Nat) : Int) = (j : Int) * d := by push_cast; rfl
      have hmin : ((min (m - j * d) d : Nat) : Int) = min x d := by omega
      rw [hmin] at hYj
      have hx0 : 0 < x := by omega
      have hx1 : x ≤ 4100 := by omega
      have Hnext := Lib.hid (show (m : Int) - ((j + 1 : Nat) : Int) * d = x - d by push_cast; rw [Int.add_mul]; omega)
      rw [hx]
      clear hmin hjd hlm hx
      obtain ⟨fn, tmps, assign, body, hy, hR⟩ := hYj
      have k1 := (hnx.cell (p := ⟨B2, 1, none⟩) hl2 hg2).trans c1
      gi_wp2
      refine hR.mono ?_
      rintro e W3 (⟨rfl, hJ3, hk3⟩ | ⟨rfl, hJx3⟩)
      · have hn3 := keep_t hnx hk3
        have k3 := (hn3.cell (p := ⟨B2, 1, none⟩) hl2 hg2).trans c1
        gi_wp2
        go_roundw
        case rel => exact ⟨j + 1, by omega, by rw [Hnext.out], hJ3, hn3⟩
        case measure => simp [intOf]; omega
      · gi_wp2
        refine bodyPost_ret (results_none rfl _ _ _) rfl ?_
        exact ⟨⟨_, rfl⟩, .inr ⟨_, hpre, hJx3⟩⟩
    · obtain rfl : j = cntOf m d := by omega
      have hge : m ≤ cntOf m d * d := by
        have := mt (cnt_iff m d (cntOf m d) hd).2 (Nat.lt_irrefl _)
        omega
      obtain ⟨x, hx⟩ : ∃ x : Int, (m : Int) - (cntOf m d : Nat) * d = x := ⟨_, rfl⟩
      have hjd : ((cntOf m d * d : Nat) : Int) = (cntOf m d : Int) * d := by push_cast; rfl
      have hx0 : x ≤ 0 := by omega
      have hd0 : decide (0 < x) = false := decide_eq_false (by omega)
      rw [hx]
      rw [List.take_of_length_le (by rw [grp_length]; exact Nat.le_refl _)] at hJs
      clear hjd hx hge
      gi_wp2
      go_end0
      exact ⟨⟨_, rfl⟩, .inl ⟨_, rfl, hJs⟩⟩
theorem groups_stops (n : Nat) (B1 B2 n₀ g : Nat) (len p d r m : Nat) (hlen : len ≤ 4000) (hp : 0 < p) (hp2 : p ≤ 22) (hd : 0 < d) (hd2 : d ≤ 255) (hm : m = (len + p - 1) / p) (w : World) (hl1 : B1 < n₀) (hl2 : B2 < n₀) (hg2 : B2 ≠ g) (hn₀ : n₀ ≤ w.heap.size)
    (h1 : w.cell? ⟨B1, 0, none⟩ = some (.int .i64 len)) (h2 : InBox w B2 p d r) :
    SeqStopsK Fence.wide (n + 1) Tryd.prog 53 #[.pointer (some ⟨B1, 0, none⟩), .pointer (some ⟨B2, 0, none⟩)] (fun x : Nat => #[.int .i64 (x : Nat)]) (Keep n₀ g) (fun ys => ys = grp m d) (fun pre => pre <+: grp m d) (cntOf m d) w := fun l J Jx W hW _ _ hY h0 =>
  groups1_in n l B1 B2 n₀ g len p d r m hlen hp hp2 hd hd2 hm J Jx hY W ((hW.cell (p := ⟨B1, 0, none⟩) (by show B1 < _; omega)).trans h1) (h2.below hW (by omega)) hl1 hl2 hg2 h0
end Go.Proofs.YtjfhbhidnlgabaaDoor
