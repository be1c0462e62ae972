import Derived.Lib.ItoaNum
import Derived.Test.YtkibigbcdlilkaaGreatDoorSuKY
namespace Go.Proofs.YtkibigbcdlilkaaGreatDoor
open Go.RowKit Go.Shelf
attribute [local go_sem] Oper.semAt_some run_store_func
theorem wb_pos (n : Nat) (h2 : 2 ≤ n) (h1 : n ≤ 1000) : 1 ≤ wb n := (Lib.bitLenAux_bounds 64 (6 * n) (by omega) (by omega)).1
theorem tb_pos (n : Nat) (h2 : 2 ≤ n) (h1 : n ≤ 1000) : 1 ≤ tb n := (Lib.bitLenAux_bounds 64 (n - 1) (by omega) (by omega)).1
theorem tb_lt (n : Nat) (h2 : 2 ≤ n) (h1 : n ≤ 1000) : n - 1 < 2 ^ tb n := (Lib.bitLenAux_bounds 64 (n - 1) (by omega) (by omega)).2.2
theorem wb_lt (n : Nat) (h2 : 2 ≤ n) (h1 : n ≤ 1000) : 6 * n < 2 ^ wb n := (Lib.bitLenAux_bounds 64 (6 * n) (by omega) (by omega)).2.2
def unG (bs : List UInt8) (n : Int) : Option (Nat × Nat × Nat) :=
 if mayB n = true ∧ bs.length = longN n.toNat ∧ (∀ k, k < bs.length → (atB bs k).toNat ≤ 1) ∧ numB bs (zb n.toNat) = 0 ∧
     rightB (numB (bs.drop (zb n.toNat)) (tb n.toNat)) (numB (bs.drop (zb n.toNat + tb n.toNat)) 2) (numB (bs.drop (zb n.toNat + tb n.toNat + 2)) (wb n.toNat)) n = true then
   some (numB (bs.drop (zb n.toNat)) (tb n.toNat), numB (bs.drop (zb n.toNat + tb n.toNat)) 2, numB (bs.drop (zb n.toNat + tb n.toNat + 2)) (wb n.toNat)) else none
theorem atB_drop (bs : List UInt8) (o k : Nat) : atB (bs.drop o) k = atB bs (o + k) := by simp [atB]
abbrev UnDoes (bs : List UInt8) (n : Int) (w : World) : Ending → World → Prop := fun e w' => Below w.heap.size w w' ∧ ((∃ a b c : Nat, unG bs n = some (a, b, c) ∧ e = .returned (v3 a b c)) ∨ (unG bs n = none ∧ e = .panicked (errno 2)))
set_option maxRecDepth 100000 in
set_option maxHeartbeats 2000000 in
theorem unpack_may (A : Option Addr) (c : Nat) (bs : List UInt8) (n : Int) (hm : mayB n = false) (w : World) :
    Calls Tryz.prog 136 #[.slice A bs.length c, .int .i64 n] w (UnDoes bs n w) := by
  have hmy := may_any n
  rw [hm] at hmy
  have hu : unG bs n = none := by rw [unG, if_neg]; rw [hm]; simp
  have Hu := Lib.hid hu
  obtain ⟨hz, hsz⟩ := zero_of_info infoS
  have hc0 : (v3 0 0 0).cells = c3 0 0 0 := rfl
  have hB := below_alloc w (.cells (c3 0 0 0) 51)
  clear hm hu
  go_enter Tryz.func136, Tryz.ntmps136
  go_wp2_with fail
  go_at_call 57
  refine (hmy _).mono ?_
  rintro e w' ⟨rfl, rfl⟩
  go_wp2_with (go_at_call 152; refine (must_not _).mono ?_; rintro e w' ⟨rfl, rfl⟩)
  exact ⟨rfl, hB, .inr ⟨Hu.out, rfl⟩⟩
set_option maxRecDepth 100000 in
set_option maxHeartbeats 2000000 in
theorem unpack_len (A : Option Addr) (c : Nat) (bs : List UInt8) (n : Nat) (h2 : 2 ≤ n) (h1 : n ≤ 1000) (hl : bs.length ≠ longN n) (w : World) :
    Calls Tryz.prog 136 #[.slice A bs.length c, .int .i64 n] w (UnDoes bs n w) := by
  have hmy := may_any n
  have hm : mayB n = true := by unfold mayB; rw [decide_eq_true (by omega), decide_eq_true (by omega)]; rfl
  rw [hm] at hmy
  have hLg := fun w => Long_yes n h2 h1 w
  have hu : unG bs n = none := by rw [unG, if_neg]; rintro ⟨-, h, -⟩; exact hl h
  have Hu := Lib.hid hu
  obtain ⟨hz, hsz⟩ := zero_of_info infoS
  have hc0 : (v3 0 0 0).cells = c3 0 0 0 := rfl
  have hB := below_alloc w (.cells (c3 0 0 0) 51)
  have hne : ((bs.length : Int) == (longN n : Int)) = false := by rw [beq_eq_false_iff_ne]; omega
  generalize longN n = L at *
  clear hm hu hl
  go_enter Tryz.func136, Tryz.ntmps136
  go_wp2_with fail
  go_at_call 57
  refine (hmy _).mono ?_
  rintro e w' ⟨rfl, rfl⟩
  go_wp2_with fail
  go_at_call 39
  refine (hLg _).mono ?_
  rintro e w1 ⟨rfl, hB1⟩
  have hB2 := hB.trans (hB1.mono hB.size)
  go_wp2_with (go_at_call 152; refine (must_not _).mono ?_; rintro e w' ⟨rfl, rfl⟩)
  exact ⟨rfl, hB2, .inr ⟨Hu.out, rfl⟩⟩
set_option maxRecDepth 100000 in
set_option maxHeartbeats 8000000 in
theorem unpack_main (bk off c : Nat) (bs : List UInt8) (n : Nat) (h2 : 2 ≤ n) (h1 : n ≤ 1000) (hl : bs.length = longN n) (w : World) (hcap : bs.length ≤ c) (hbk : bk < w.heap.size) (hcell : ∀ j x, bs[j]? = some x → w.cell? ⟨bk, off + j, none⟩ = some (eB x)) :
    Calls Tryz.prog 136 #[.slice (some ⟨bk, off, none⟩) bs.length c, .int .i64 n] w (UnDoes bs n w) := by
  have hmf : ∀ (fn : Fn) (first cap : Array Value) (w : World), (Instr.makeFunc fn first cap).run Tryz.prog w = .ok (.func fn first cap) w := fun _ _ _ _ => rfl
  have hmy := may_any n
  have hm : mayB n = true := by unfold mayB; rw [decide_eq_true (by omega), decide_eq_true (by omega)]; rfl
  have hLg := fun w => Long_yes n h2 h1 w
  have hWd := fun w => widths_any n h2 h1 w
  have ht10 := tb_le n h1
  have hw13 := wb_le n h1
  have hw1 := wb_pos n h2 h1
  have hz2' : zb n ≤ 1 := by unfold zb; omega
  have hUd : unG bs n = if (∀ k, k < bs.length → (atB bs k).toNat ≤ 1) ∧ numB bs (zb n) = 0 ∧ rightB (numB (bs.drop (zb n)) (tb n)) (numB (bs.drop (zb n + tb n)) 2) (numB (bs.drop (zb n + tb n + 2)) (wb n)) n = true then
      some (numB (bs.drop (zb n)) (tb n), numB (bs.drop (zb n + tb n)) 2, numB (bs.drop (zb n + tb n + 2)) (wb n)) else none := by
    unfold unG
    simp only [Int.toNat_natCast, hm, hl, true_and]
  rw [hm] at hmy
  have hll : bs.length = zb n + tb n + 2 + wb n := hl
  generalize hun : unG bs n = UN at *
  have Hd := Lib.hid hUd
  have Hll := Lib.hid hll
  clear hUd hm hll
  have heq : ((bs.length : Int) == (longN n : Int)) = true := by rw [hl]; simp
  have Hl := Lib.hid hl
  clear hl
  generalize longN n = L at *
  generalize zb n = z at *
  generalize tb n = t at *
  generalize wb n = u at *
  obtain ⟨hz, hsz⟩ := zero_of_info infoS
  obtain ⟨hz4, hsz4⟩ := zero_of_info info4
  have hc0 : (v3 0 0 0).cells = c3 0 0 0 := rfl
  have hc4 : (v4 0 0 0 0).cells = #[.int .i64 0, .int .i64 0, .int .i64 0, .int .i64 0] := rfl
  have hA0 := below_alloc w (.cells (c3 0 0 0) 51)
  have hr0 := Rowed.new w 51 (c3 0 0 0)
  go_enter Tryz.func136, Tryz.ntmps136
  go_wp2_with fail
  go_at_call 57
  refine (hmy _).mono ?_
  rintro e w' ⟨rfl, rfl⟩
  go_wp2_with fail
  generalize w.alloc (.cells (c3 0 0 0) 51) = w0 at *
  go_at_call 39
  refine (hLg _).mono ?_
  rintro e w1 ⟨rfl, hB1⟩
  have hA1 := hA0.trans (hB1.mono hA0.size)
  have hr1 := hr0.below hB1 hr0.lt
  have hlt1 := hr1.lt
  clear hLg hmy hA0 hB1 hr0
  have hb1 := (Boxed.new w1 22 (.slice (some ⟨bk, off, none⟩) bs.length c)).alloc (.cells #[.int .i64 0, .int .i64 0, .int .i64 0, .int .i64 0] 80)
  have hp1 := Rowed.new (w1.alloc (.cells #[.slice (some ⟨bk, off, none⟩) bs.length c] 22)) 80 #[.int .i64 0, .int .i64 0, .int .i64 0, .int .i64 0]
  rw [World.size_alloc] at hp1
  have hr2 := (hr1.alloc (.cells #[.slice (some ⟨bk, off, none⟩) bs.length c] 22)).alloc (.cells #[.int .i64 0, .int .i64 0, .int .i64 0, .int .i64 0] 80)
  have hA2 := (hA1.alloc hA1.size (.cells #[.slice (some ⟨bk, off, none⟩) bs.length c] 22)).alloc (by have := hA1.size; simp; omega) (.cells #[.int .i64 0, .int .i64 0, .int .i64 0, .int .i64 0] 80)
  have hs2 : ((w1.alloc (.cells #[.slice (some ⟨bk, off, none⟩) bs.length c] 22)).alloc (.cells #[.int .i64 0, .int .i64 0, .int .i64 0, .int .i64 0] 80)).heap.size = w1.heap.size + 2 := by simp
  go_wp2_with (go_at_call 152; refine (must_ok _).mono ?_; rintro e w' ⟨rfl, rfl⟩)
  generalize ((w1.alloc (.cells #[.slice (some ⟨bk, off, none⟩) bs.length c] 22)).alloc (.cells #[.int .i64 0, .int .i64 0, .int .i64 0, .int .i64 0] 80)) = w3 at *
  go_at_call 58
  refine (hWd _).mono ?_
  rintro e w4 ⟨rfl, hB4⟩
  have hA4 := hA2.trans (hB4.mono hA2.size)
  have hb4 : Boxed w4 w1.heap.size 22 (.slice (some ⟨bk, off, none⟩) bs.length c) := (hB4.block _ hb1.lt).trans hb1
  have hp4 : Rowed w4 (w1.heap.size + 1) 80 #[.int .i64 0, .int .i64 0, .int .i64 0, .int .i64 0] := hp1.below hB4 hp1.lt
  have hr4 := hr2.below hB4 hr2.lt
  clear hWd hb1 hp1 hr2 hA2 hs2 hB4 hr1 hA1
  have j0 : ∀ w, (Instr.index 80 (v4 z t 2 u) (.int .i64 0)).run Tryz.prog w = .ok (.int .i64 z) w := fun _ => by kernel_rfl
  have j1 : ∀ w, (Instr.index 80 (v4 z t 2 u) (.int .i64 1)).run Tryz.prog w = .ok (.int .i64 t) w := fun _ => by kernel_rfl
  have j2 : ∀ w, (Instr.index 80 (v4 z t 2 u) (.int .i64 2)).run Tryz.prog w = .ok (.int .i64 2) w := fun _ => by kernel_rfl
  have j3 : ∀ w, (Instr.index 80 (v4 z t 2 u) (.int .i64 3)).run Tryz.prog w = .ok (.int .i64 u) w := fun _ => by kernel_rfl
  have hcl : ∀ {W : World} (o : Nat), Below w.heap.size w W → ∀ j x, (bs.drop o)[j]? = some x → W.cell? ⟨bk, off + o + j, none⟩ = some (eB x) := fun o hW j x hx => by
   rw [Nat.add_assoc]
   exact (hW.cell (p := ⟨bk, off + (o + j), none⟩) hbk).trans (hcell _ x (by simpa using hx))
  have hnone : ∀ (o d : Nat), o + d ≤ bs.length → (¬ ∀ k, k < d → (atB (bs.drop o) k).toNat ≤ 1) → UN = none := fun o d ho hbad => by
   rw [Hd.out, if_neg]
   rintro ⟨h, -⟩
   refine hbad fun k hk => ?_
   rw [atB_drop]
   exact h _ (by omega)
  have hdl : ∀ o : Nat, (bs.drop o).length = bs.length - o := fun o => by simp
  clear hcell hmf
  generalize hgl : w1.heap.size = gl at *
  have Hgl := Lib.hid hgl
  clear hgl
  have hb4 : Boxed w4 gl 22 (.slice (some ⟨bk, off + 0, none⟩) (bs.drop 0).length (c - 0 : Nat)) := by simpa using hb4
  obtain ⟨p0, hpe0⟩ : ∃ p, numB (bs.drop 0) z = p := ⟨_, rfl⟩
  have Hp0 := Lib.hid hpe0
  clear hpe0
  obtain ⟨p1, hpe1⟩ : ∃ p, numB (bs.drop z) t = p := ⟨_, rfl⟩
  have Hp1 := Lib.hid hpe1
  clear hpe1
  obtain ⟨p2, hpe2⟩ : ∃ p, numB (bs.drop (z + t)) 2 = p := ⟨_, rfl⟩
  have Hp2 := Lib.hid hpe2
  clear hpe2
  obtain ⟨p3, hpe3⟩ : ∃ p, numB (bs.drop (z + t + 2)) u = p := ⟨_, rfl⟩
  have Hp3 := Lib.hid hpe3
  clear hpe3
  go_wp2_with fail
  refine wp_loop_rounds 6 ?_
  rw [rounds_succ]
  go_wp2_with fail
  by_cases hk0 : ∀ k, k < z → (atB (bs.drop 0) k).toNat ≤ 1
  case neg =>
   refine (take_no gl bk (off + 0) z (c - 0) (bs.drop 0) w4 (by rw [hdl]; omega) hb4 (hcl 0 hA4) (by rw [hdl]; have := Hll.out; omega) (by omega) hk0).mono ?_
   rintro e w' ⟨rfl, rfl⟩
   exact ⟨rfl, hA4, .inr ⟨by rw [hun]; exact hnone 0 z (by have := Hll.out; omega) hk0, rfl⟩⟩
  have Hk0 := Lib.hid hk0
  refine (take_yes gl bk (off + 0) z (c - 0) (bs.drop 0) w4 (by rw [hdl]; omega) hb4 (hcl 0 hA4) (by rw [hdl]; have := Hll.out; omega) (by omega) hk0).mono ?_
  rintro e T ⟨he, of, hT, hof⟩
  rw [Hp0.out] at he
  subst he
  have hq := hp4.other gl 0 (.slice (some ⟨bk, of, none⟩) ((bs.drop 0).length - z : Nat) (c - 0 - z : Nat)) (by omega)
  rw [← hT] at hq
  have cq := hq.cell 0
  have fq := hq.frozen 0
  simp at cq
  have hp5 := hq.set 0 (.int .i64 p0)
  simp at hp5
  have hbs : Boxed T gl 22 (.slice (some ⟨bk, off + z, none⟩) (bs.drop z).length (c - z : Nat)) := by
   rw [hT]
   have h1 := hb4.set (.slice (some ⟨bk, of, none⟩) ((bs.drop 0).length - z : Nat) (c - 0 - z : Nat))
   have h2 : of = off + z := by rw [hof (by rw [hdl]; have := Hll.out; omega)]; omega
   have h3 : (bs.drop 0).length - z = (bs.drop z).length := by rw [hdl, hdl]; omega
   have h4 : c - 0 - z = c - z := by omega
   rw [h2, h3, h4] at h1
   rw [h2, h3, h4]
   exact h1
  have hb5 : Boxed (T.setCell ⟨gl + 1, 0, none⟩ (.int .i64 p0)) gl 22 (.slice (some ⟨bk, off + z, none⟩) (bs.drop z).length (c - z : Nat)) := (Below.heap_setCell T ⟨gl + 1, 0, none⟩ _ gl (by show gl ≠ gl + 1; omega)).trans hbs
  clear hbs
  have hr5 : Rowed (T.setCell ⟨gl + 1, 0, none⟩ (.int .i64 p0)) w.heap.size 51 (c3 0 0 0) := by
   have h1 : Rowed T w.heap.size 51 (c3 0 0 0) := by rw [hT]; exact hr4.other gl 0 _ (by omega)
   exact h1.other (gl + 1) 0 _ (by omega)
  have hA5 : Below w.heap.size w (T.setCell ⟨gl + 1, 0, none⟩ (.int .i64 p0)) := by
   have h1 : Below w.heap.size w T := by rw [hT]; exact hA4.setCell (p := ⟨gl, 0, none⟩) (by show w.heap.size ≤ gl; omega) _
   exact h1.setCell (p := ⟨gl + 1, 0, none⟩) (by show w.heap.size ≤ gl + 1; omega) _
  clear hT hof hq hk0 hb4 hp4 hr4 hA4
  go_wp2_with fail
  generalize T.setCell ⟨gl + 1, 0, none⟩ (.int .i64 p0) = w5 at *
  clear cq fq
  rw [rounds_succ]
  go_wp2_with fail
  by_cases hk1 : ∀ k, k < t → (atB (bs.drop z) k).toNat ≤ 1
  case neg =>
   refine (take_no gl bk (off + z) t (c - z) (bs.drop z) w5 (by rw [hdl]; omega) hb5 (hcl z hA5) (by rw [hdl]; have := Hll.out; omega) (by omega) hk1).mono ?_
   rintro e w' ⟨rfl, rfl⟩
   exact ⟨rfl, hA5, .inr ⟨by rw [hun]; exact hnone z t (by have := Hll.out; omega) hk1, rfl⟩⟩
  have Hk1 := Lib.hid hk1
  refine (take_yes gl bk (off + z) t (c - z) (bs.drop z) w5 (by rw [hdl]; omega) hb5 (hcl z hA5) (by rw [hdl]; have := Hll.out; omega) (by omega) hk1).mono ?_
  rintro e T ⟨he, of, hT, hof⟩
  rw [Hp1.out] at he
  subst he
  have hq := hp5.other gl 0 (.slice (some ⟨bk, of, none⟩) ((bs.drop z).length - t : Nat) (c - z - t : Nat)) (by omega)
  rw [← hT] at hq
  have cq := hq.cell 1
  have fq := hq.frozen 1
  simp at cq
  have hp6 := hq.set 1 (.int .i64 p1)
  simp at hp6
  have hbs : Boxed T gl 22 (.slice (some ⟨bk, off + (z + t), none⟩) (bs.drop (z + t)).length (c - (z + t) : Nat)) := by
   rw [hT]
   have h1 := hb5.set (.slice (some ⟨bk, of, none⟩) ((bs.drop z).length - t : Nat) (c - z - t : Nat))
   have h2 : of = off + (z + t) := by rw [hof (by rw [hdl]; have := Hll.out; omega)]; omega
   have h3 : (bs.drop z).length - t = (bs.drop (z + t)).length := by rw [hdl, hdl]; omega
   have h4 : c - z - t = c - (z + t) := by omega
   rw [h2, h3, h4] at h1
   rw [h2, h3, h4]
   exact h1
  have hb6 : Boxed (T.setCell ⟨gl + 1, 1, none⟩ (.int .i64 p1)) gl 22 (.slice (some ⟨bk, off + (z + t), none⟩) (bs.drop (z + t)).length (c - (z + t) : Nat)) := (Below.heap_setCell T ⟨gl + 1, 1, none⟩ _ gl (by show gl ≠ gl + 1; omega)).trans hbs
  clear hbs
  have hr6 : Rowed (T.setCell ⟨gl + 1, 1, none⟩ (.int .i64 p1)) w.heap.size 51 (c3 0 0 0) := by
   have h1 : Rowed T w.heap.size 51 (c3 0 0 0) := by rw [hT]; exact hr5.other gl 0 _ (by omega)
   exact h1.other (gl + 1) 1 _ (by omega)
  have hA6 : Below w.heap.size w (T.setCell ⟨gl + 1, 1, none⟩ (.int .i64 p1)) := by
   have h1 : Below w.heap.size w T := by rw [hT]; exact hA5.setCell (p := ⟨gl, 0, none⟩) (by show w.heap.size ≤ gl; omega) _
   exact h1.setCell (p := ⟨gl + 1, 1, none⟩) (by show w.heap.size ≤ gl + 1; omega) _
  clear hT hof hq hk1 hb5 hp5 hr5 hA5
  go_wp2_with fail
  generalize T.setCell ⟨gl + 1, 1, none⟩ (.int .i64 p1) = w6 at *
  clear cq fq
  rw [rounds_succ]
  go_wp2_with fail
  by_cases hk2 : ∀ k, k < 2 → (atB (bs.drop (z + t)) k).toNat ≤ 1
  case neg =>
   refine (take_no gl bk (off + (z + t)) 2 (c - (z + t)) (bs.drop (z + t)) w6 (by rw [hdl]; omega) hb6 (hcl (z + t) hA6) (by rw [hdl]; have := Hll.out; omega) (by omega) hk2).mono ?_
   rintro e w' ⟨rfl, rfl⟩
   exact ⟨rfl, hA6, .inr ⟨by rw [hun]; exact hnone (z + t) 2 (by have := Hll.out; omega) hk2, rfl⟩⟩
  have Hk2 := Lib.hid hk2
  refine (take_yes gl bk (off + (z + t)) 2 (c - (z + t)) (bs.drop (z + t)) w6 (by rw [hdl]; omega) hb6 (hcl (z + t) hA6) (by rw [hdl]; have := Hll.out; omega) (by omega) hk2).mono ?_
  rintro e T ⟨he, of, hT, hof⟩
  rw [Hp2.out] at he
  subst he
  have hq := hp6.other gl 0 (.slice (some ⟨bk, of, none⟩) ((bs.drop (z + t)).length - 2 : Nat) (c - (z + t) - 2 : Nat)) (by omega)
  rw [← hT] at hq
  have cq := hq.cell 2
  have fq := hq.frozen 2
  simp at cq
  have hp7 := hq.set 2 (.int .i64 p2)
  simp at hp7
  have hbs : Boxed T gl 22 (.slice (some ⟨bk, off + (z + t + 2), none⟩) (bs.drop (z + t + 2)).length (c - (z + t + 2) : Nat)) := by
   rw [hT]
   have h1 := hb6.set (.slice (some ⟨bk, of, none⟩) ((bs.drop (z + t)).length - 2 : Nat) (c - (z + t) - 2 : Nat))
   have h2 : of = off + (z + t + 2) := by rw [hof (by rw [hdl]; have := Hll.out; omega)]; omega
   have h3 : (bs.drop (z + t)).length - 2 = (bs.drop (z + t + 2)).length := by rw [hdl, hdl]; omega
   have h4 : c - (z + t) - 2 = c - (z + t + 2) := by omega
   rw [h2, h3, h4] at h1
   rw [h2, h3, h4]
   exact h1
  have hb7 : Boxed (T.setCell ⟨gl + 1, 2, none⟩ (.int .i64 p2)) gl 22 (.slice (some ⟨bk, off + (z + t + 2), none⟩) (bs.drop (z + t + 2)).length (c - (z + t + 2) : Nat)) := (Below.heap_setCell T ⟨gl + 1, 2, none⟩ _ gl (by show gl ≠ gl + 1; omega)).trans hbs
  clear hbs
  have hr7 : Rowed (T.setCell ⟨gl + 1, 2, none⟩ (.int .i64 p2)) w.heap.size 51 (c3 0 0 0) := by
   have h1 : Rowed T w.heap.size 51 (c3 0 0 0) := by rw [hT]; exact hr6.other gl 0 _ (by omega)
   exact h1.other (gl + 1) 2 _ (by omega)
  have hA7 : Below w.heap.size w (T.setCell ⟨gl + 1, 2, none⟩ (.int .i64 p2)) := by
   have h1 : Below w.heap.size w T := by rw [hT]; exact hA6.setCell (p := ⟨gl, 0, none⟩) (by show w.heap.size ≤ gl; omega) _
   exact h1.setCell (p := ⟨gl + 1, 2, none⟩) (by show w.heap.size ≤ gl + 1; omega) _
  clear hT hof hq hk2 hb6 hp6 hr6 hA6
  go_wp2_with fail
  generalize T.setCell ⟨gl + 1, 2, none⟩ (.int .i64 p2) = w7 at *
  clear cq fq
  rw [rounds_succ]
  go_wp2_with fail
  by_cases hk3 : ∀ k, k < u → (atB (bs.drop (z + t + 2)) k).toNat ≤ 1
  case neg =>
   refine (take_no gl bk (off + (z + t + 2)) u (c - (z + t + 2)) (bs.drop (z + t + 2)) w7 (by rw [hdl]; omega) hb7 (hcl (z + t + 2) hA7) (by rw [hdl]; have := Hll.out; omega) (by omega) hk3).mono ?_
   rintro e w' ⟨rfl, rfl⟩
   exact ⟨rfl, hA7, .inr ⟨by rw [hun]; exact hnone (z + t + 2) u (by have := Hll.out; omega) hk3, rfl⟩⟩
  have Hk3 := Lib.hid hk3
  refine (take_yes gl bk (off + (z + t + 2)) u (c - (z + t + 2)) (bs.drop (z + t + 2)) w7 (by rw [hdl]; omega) hb7 (hcl (z + t + 2) hA7) (by rw [hdl]; have := Hll.out; omega) (by omega) hk3).mono ?_
  rintro e T ⟨he, of, hT, hof⟩
  rw [Hp3.out] at he
  subst he
  have hq := hp7.other gl 0 (.slice (some ⟨bk, of, none⟩) ((bs.drop (z + t + 2)).length - u : Nat) (c - (z + t + 2) - u : Nat)) (by omega)
  rw [← hT] at hq
  have cq := hq.cell 3
  have fq := hq.frozen 3
  simp at cq
  have hp8 := hq.set 3 (.int .i64 p3)
  simp at hp8
  have hr8 : Rowed (T.setCell ⟨gl + 1, 3, none⟩ (.int .i64 p3)) w.heap.size 51 (c3 0 0 0) := by
   have h1 : Rowed T w.heap.size 51 (c3 0 0 0) := by rw [hT]; exact hr7.other gl 0 _ (by omega)
   exact h1.other (gl + 1) 3 _ (by omega)
  have hA8 : Below w.heap.size w (T.setCell ⟨gl + 1, 3, none⟩ (.int .i64 p3)) := by
   have h1 : Below w.heap.size w T := by rw [hT]; exact hA7.setCell (p := ⟨gl, 0, none⟩) (by show w.heap.size ≤ gl; omega) _
   exact h1.setCell (p := ⟨gl + 1, 3, none⟩) (by show w.heap.size ≤ gl + 1; omega) _
  clear hT hof hq hk3 hb7 hp7 hr7 hA7
  go_wp2_with fail
  generalize T.setCell ⟨gl + 1, 3, none⟩ (.int .i64 p3) = w8 at *
  clear cq fq
  rw [rounds_succ]
  have hall : ∀ k, k < bs.length → (atB bs k).toNat ≤ 1 := by
   intro k hk
   have hll := Hll.out
   by_cases a1 : k < z
   · have := Hk0.out k a1; rwa [atB_drop, Nat.zero_add] at this
   · by_cases a2 : k < z + t
     · have := Hk1.out (k - z) (by omega); rwa [atB_drop, show z + (k - z) = k by omega] at this
     · by_cases a3 : k < z + t + 2
       · have := Hk2.out (k - (z + t)) (by omega); rwa [atB_drop, show z + t + (k - (z + t)) = k by omega] at this
       · have := Hk3.out (k - (z + t + 2)) (by omega); rwa [atB_drop, show z + t + 2 + (k - (z + t + 2)) = k by omega] at this
  have Hfin := Lib.hid (show UN = if p0 = 0 ∧ rightB p1 p2 p3 n = true then some (p1, p2, p3) else none by
   have h0 := Hp0.out
   rw [List.drop_zero] at h0
   rw [Hd.out, h0, Hp1.out, Hp2.out, Hp3.out]
   simp only [eq_true hall, true_and])
  clear hall hnone hcl hdl heq j0 j1 j2 j3
  have k0 := hp8.cell 0
  have k1 := hp8.cell 1
  have k2 := hp8.cell 2
  have k3 := hp8.cell 3
  simp at k0 k1 k2 k3
  have m0 := (hp8.alloc (.cells (c3 p1 p2 p3) 51)).cell 0
  simp at m0
  have hs9 := Rowed.new w8 51 (c3 p1 p2 p3)
  have hr9 := hr8.alloc (.cells (c3 p1 p2 p3) 51)
  have hA9 := hA8.alloc hA8.size (.cells (c3 p1 p2 p3) 51)
  have hne9 : w.heap.size ≠ w8.heap.size := by have := hr8.lt; omega
  have hlt9 := hs9.lt
  have hR := fun w => Right_any p1 p2 p3 n w
  have HUN := Lib.hid hun
  clear hun Hd Hll Hl hp8 hr8 hA8 hb4 Hk0 Hk1 Hk2 Hk3 Hp0 Hp1 Hp2 Hp3
  by_cases hp0 : p0 = 0
  · have e0 : ((p0 : Int) == 0) = true := by rw [hp0]; rfl
    have Hp := Lib.hid hp0
    clear hp0
    cases hrb : rightB p1 p2 p3 n with
    | false =>
      rw [hrb] at hR
      have Hn : Hid (UN = none) := Lib.hid (by rw [Hfin.out, if_neg]; rintro ⟨-, h⟩; rw [hrb] at h; cases h)
      clear hrb Hfin
      go_wp2_with fail
      generalize w8.alloc (.cells (c3 p1 p2 p3) 51) = w9 at *
      generalize w8.heap.size = gs at *
      go_wp2_with (refine wpList_load_rowg rfl 51 (.tmp 10) rfl gs rfl _ (c3 p1 p2 p3) _ _ hs9 Tryz.underlying51 rfl (size_c3 p1 p2 p3) ?_)
      go_at_call 123
      refine (hR _).mono ?_
      rintro e wa ⟨rfl, hBa⟩
      have hAa := hA9.trans (hBa.mono hA9.size)
      go_wp2_with (go_at_call 152; refine (must_not _).mono ?_; rintro e w' ⟨rfl, rfl⟩)
      exact ⟨rfl, hAa, .inr ⟨by rw [HUN.out]; exact Hn.out, rfl⟩⟩
    | true =>
      rw [hrb] at hR
      have Hn : Hid (UN = some (p1, p2, p3)) := Lib.hid (by rw [Hfin.out, if_pos ⟨Hp.out, hrb⟩])
      clear hrb Hfin
      go_wp2_with fail
      generalize w8.alloc (.cells (c3 p1 p2 p3) 51) = w9 at *
      generalize w8.heap.size = gs at *
      go_wp2_with (refine wpList_load_rowg rfl 51 (.tmp 10) rfl gs rfl _ (c3 p1 p2 p3) _ _ hs9 Tryz.underlying51 rfl (size_c3 p1 p2 p3) ?_)
      go_at_call 123
      refine (hR _).mono ?_
      rintro e wa ⟨rfl, hBa⟩
      have hAa := hA9.trans (hBa.mono hA9.size)
      have hsa := hs9.below hBa hlt9
      have hra := hr9.below hBa hr9.lt
      clear hR hBa hs9 hr9 hA9 m0
      have hrow := setRow_heap wa w.heap.size (c3 0 0 0) (c3 p1 p2 p3) _ _ hra
      have hB3 := below_setRow hAa w.heap.size (c3 p1 p2 p3) (Nat.le_refl _)
      go_wp2_with (first
       | (go_at_call 152; refine (must_ok _).mono ?_; rintro e w' ⟨rfl, rfl⟩)
       | (refine wpList_load_row rfl 51 (.tmp 10) rfl gs rfl _ (c3 p1 p2 p3) _ _ hsa Tryz.underlying51 rfl (size_c3 p1 p2 p3) ?_)
       | (refine wpList_store_row rfl 51 (.tmp 4) (.tmp 51) rfl w.heap.size (c3 p1 p2 p3) rfl rfl _ _ hra (size_c3 p1 p2 p3) rfl (one_c3 p1 p2 p3) ?_))
      refine bodyPost_end (v := v3 p1 p2 p3) ?_ rfl ⟨hB3, .inl ⟨p1, p2, p3, by rw [HUN.out]; exact Hn.out, rfl⟩⟩
      exact results_cell_row (p := 4) rfl _ _ w.heap.size _ _ _ _ rfl hrow Tryz.underlying51 rfl (size_c3 p1 p2 p3)
  · have e0 : ((p0 : Int) == 0) = false := by rw [beq_eq_false_iff_ne]; omega
    have Hn : Hid (UN = none) := Lib.hid (by rw [Hfin.out, if_neg]; rintro ⟨h, -⟩; exact hp0 h)
    clear hp0 Hfin hR
    go_wp2_with (go_at_call 152; refine (must_not _).mono ?_; rintro e w' ⟨rfl, rfl⟩)
    exact ⟨rfl, hA9, .inr ⟨by rw [HUN.out]; exact Hn.out, rfl⟩⟩
theorem unpack_any (sv : Value) (bs : List UInt8) (n : Int) (w : World) (hS : Sl eB w.heap.size w sv bs) :
    Calls Tryz.prog 136 #[sv, .int .i64 n] w (UnDoes bs n w) := by
  obtain ⟨A, c, rfl, hc, hcs⟩ := hS
  cases hm : mayB n with
  | false => exact unpack_may A c bs n hm w
  | true =>
    obtain ⟨m, rfl, h2, h1⟩ : ∃ m : Nat, n = m ∧ 2 ≤ m ∧ m ≤ 1000 := by
     unfold mayB at hm
     rw [Bool.and_eq_true, decide_eq_true_eq, decide_eq_true_eq] at hm
     exact ⟨n.toNat, by omega, by omega, by omega⟩
    by_cases hl : bs.length = longN m
    · have hp : 0 < bs.length := by rw [hl]; unfold longN; omega
      obtain ⟨b, off, rfl, hb, hcell⟩ := hcs hp
      exact unpack_main b off c bs m h2 h1 hl w hc hb hcell
    · exact unpack_len A c bs m h2 h1 hl w
end Go.Proofs.YtkibigbcdlilkaaGreatDoor
namespace Go.Proofs.YtkibigbcdlilkaaGreatDoor
open Go.RowKit Go.Shelf
attribute [local go_sem] Oper.semAt_some run_store_func
set_option maxRecDepth 100000 in
set_option maxHeartbeats 2000000 in
theorem Unpack1_is (b1 b2 b3 : Nat) (A : Option Addr) (c : Nat) (x : List UInt8) (n : Int) (W : World) (hS : Sl eB W.heap.size W (.slice A x.length c) x) (h1 : W.cell? ⟨b1, 0, none⟩ = some (.slice A x.length c)) (h2 : W.cell? ⟨b2, 0, none⟩ = some (.int .i64 n)) (h3 : Rowed W b3 51 (c3 0 0 0)) :
    WorkIs 135 #[.pointer (some ⟨b1, 0, none⟩), .pointer (some ⟨b2, 0, none⟩), .pointer (some ⟨b3, 0, none⟩)] b3 W
      (fun w' => ∃ a b c : Nat, unG x n = some (a, b, c) ∧ Rowed w' b3 51 (c3 a b c)) (fun m w' => m = 2 ∧ unG x n = none ∧ Rowed w' b3 51 (c3 0 0 0)) := by
  have hb := unpack_any _ x n W hS
  have hl := h3.lt
  unfold WorkIs
  go_enter Tryz.func135, Tryz.ntmps135
  go_wp2_with fail
  go_at_call 136
  refine hb.mono ?_
  rintro e w1 ⟨hB, ⟨a, b, d, hc, rfl⟩ | ⟨hn, rfl⟩⟩
  · have h3' : Rowed w1 b3 51 (c3 0 0 0) := h3.below hB hl
    have hK : Keep W.heap.size b3 W (w1.setRow b3 (c3 a b d)) := keep_setRow (keep_of hB) _
    have hrow := setRow_heap w1 b3 (c3 0 0 0) (c3 a b d) _ _ h3'
    have Hc := Lib.hid hc
    clear hc hb
    go_wp2_with (refine wpList_store_row rfl 51 (.tmp 2) (.tmp 5) rfl b3 (c3 a b d) rfl rfl _ _ h3' (size_c3 a b d) rfl (one_c3 a b d) ?_)
    go_end0
    exact ⟨hK, .inl ⟨⟨_, rfl⟩, a, b, d, Hc.out, hrow⟩⟩
  · exact ⟨rfl, keep_of hB, .inr ⟨2, rfl, rfl, hn, h3.below hB hl⟩⟩
set_option maxRecDepth 100000 in
set_option maxHeartbeats 2000000 in
theorem Unpack_any (sv : Value) (x : List UInt8) (n : Int) (w : World) (hS : Sl eB w.heap.size w sv x) :
    Calls Tryz.prog 113 #[sv, .int .i64 n] w fun e w' => Below w.heap.size w w' ∧
      ((∃ a b c : Nat, unG x n = some (a, b, c) ∧ e = .returned (.tuple #[v3 a b c, .int .i64 0])) ∨ (unG x n = none ∧ e = .returned (.tuple #[v3 0 0 0, .int .i64 2]))) := by
  have hmf : ∀ (fn : Fn) (first cap : Array Value) (w : World), (Instr.makeFunc fn first cap).run Tryz.prog w = .ok (.func fn first cap) w := fun _ _ _ _ => rfl
  obtain ⟨A, c, rfl⟩ := hS.len
  obtain ⟨hz, hsz⟩ := zero_of_info infoS
  have hc0 : (v3 0 0 0).cells = #[.int .i64 0, .int .i64 0, .int .i64 0] := rfl
  have hb1 := (((Boxed.new w 22 (.slice A x.length c)).alloc (.cells #[.int .i64 n] 3)).alloc (.cells (c3 0 0 0) 51)).alloc (.cells (c3 0 0 0) 51)
  have hbn := ((Boxed.new (w.alloc (.cells #[.slice A x.length c] 22)) 3 (.int .i64 n)).alloc (.cells (c3 0 0 0) 51)).alloc (.cells (c3 0 0 0) 51)
  have hb2 := (Rowed.new ((w.alloc (.cells #[.slice A x.length c] 22)).alloc (.cells #[.int .i64 n] 3)) 51 (c3 0 0 0)).alloc (.cells (c3 0 0 0) 51)
  have hb3 := Rowed.new (((w.alloc (.cells #[.slice A x.length c] 22)).alloc (.cells #[.int .i64 n] 3)).alloc (.cells (c3 0 0 0) 51)) 51 (c3 0 0 0)
  rw [World.size_alloc] at hbn
  rw [World.size_alloc, World.size_alloc] at hb2
  rw [World.size_alloc, World.size_alloc, World.size_alloc] at hb3
  have hA : Below w.heap.size w ((((w.alloc (.cells #[.slice A x.length c] 22)).alloc (.cells #[.int .i64 n] 3)).alloc (.cells (c3 0 0 0) 51)).alloc (.cells (c3 0 0 0) 51)) := ((((Below.refl _ w).alloc (Nat.le_refl _) _).alloc (by simp) _).alloc (by simp; omega) _).alloc (by simp; omega) _
  have hs0 : ((((w.alloc (.cells #[.slice A x.length c] 22)).alloc (.cells #[.int .i64 n] 3)).alloc (.cells (c3 0 0 0) 51)).alloc (.cells (c3 0 0 0) 51)).heap.size = w.heap.size + 4 := by simp
  obtain ⟨W0, hW0⟩ : ∃ W0, (((w.alloc (.cells #[.slice A x.length c] 22)).alloc (.cells #[.int .i64 n] 3)).alloc (.cells (c3 0 0 0) 51)).alloc (.cells (c3 0 0 0) 51) = W0 := ⟨_, rfl⟩
  rw [hW0] at hb1 hbn hb2 hb3 hA hs0
  have hA4 := below_alloc W0 (.cells #[.int .i64 0] 24)
  have hB4 := below_trans hA hA4
  have hwork := Unpack1_is w.heap.size (w.heap.size + 1) (w.heap.size + 1 + 1 + 1) A c x n (W0.alloc (.cells #[.int .i64 0] 24)) (hS.next hB4) (hb1.alloc _).cell (hbn.alloc _).cell (hb3.alloc _)
  have hct := caught_any 135 _ (w.heap.size + 1 + 1 + 1) W0 (by omega) (enters_of Tryz.func135 (by kernel_rfl) rfl) _ _ hwork
  have HW0 := Lib.hid hW0
  clear hwork hA4 hB4 hb1 hbn hb3 hW0
  go_enter Tryz.func113, Tryz.ntmps113
  go_wp2_with fail
  rw [HW0.out]
  go_at_call 134
  refine hct.mono ?_
  rintro e w' ⟨w1, m, hK, rfl, rfl, hlt, hR⟩
  have hBf : Below w.heap.size w (w1.setCell ⟨W0.heap.size, 0, none⟩ (.int .i64 m)) := (below_of_keep hK hA (by omega) (by omega)).setCell (p := ⟨W0.heap.size, 0, none⟩) (by show w.heap.size ≤ W0.heap.size; omega) _
  have hb2' : Rowed w1 (w.heap.size + 1 + 1) 51 (c3 0 0 0) := (hK.2 _ (by omega) (by omega)).trans hb2
  have hb2w := hb2'.other W0.heap.size 0 (.int .i64 m) (by omega)
  clear hct
  rcases hR with ⟨rfl, a, b, d, hg, hv⟩ | ⟨rfl, hg, hv⟩
  · have hvw := hv.other W0.heap.size 0 (.int .i64 0) (by omega)
    have Hg := Lib.hid hg
    clear hg
    generalize w1.setCell ⟨W0.heap.size, 0, none⟩ (.int .i64 0) = w2 at *
    have hrow := setRow_heap w2 (w.heap.size + 1 + 1) (c3 0 0 0) (c3 a b d) _ _ hb2w
    have hB3 := below_setRow hBf (w.heap.size + 1 + 1) (c3 a b d) (by omega)
    go_wp2_with (first
     | (refine wpList_load_row rfl 51 (.tmp 6) rfl (w.heap.size + 1 + 1 + 1) rfl _ (c3 a b d) _ _ hvw Tryz.underlying51 rfl (size_c3 a b d) ?_)
     | (refine wpList_store_row rfl 51 (.tmp 4) (.tmp 10) rfl (w.heap.size + 1 + 1) (c3 a b d) rfl rfl _ _ hb2w (size_c3 a b d) rfl (one_c3 a b d) ?_))
    refine bodyPost_ret (v := .tuple #[v3 a b d, .int .i64 0]) ?_ rfl ⟨hB3, .inl ⟨a, b, d, Hg.out, rfl⟩⟩
    exact results_cell_slot (p := 4) (q := 5) rfl _ _ (w.heap.size + 1 + 1) _ _ _ _ rfl hrow Tryz.underlying51 rfl (size_c3 a b d)
  · have hvw := hv.other W0.heap.size 0 (.int .i64 2) (by omega)
    have Hg := Lib.hid hg
    clear hg
    generalize w1.setCell ⟨W0.heap.size, 0, none⟩ (.int .i64 2) = w2 at *
    have hrow := setRow_heap w2 (w.heap.size + 1 + 1) (c3 0 0 0) (c3 0 0 0) _ _ hb2w
    have hB3 := below_setRow hBf (w.heap.size + 1 + 1) (c3 0 0 0) (by omega)
    go_wp2_with (first
     | (refine wpList_load_row rfl 51 (.tmp 6) rfl (w.heap.size + 1 + 1 + 1) rfl _ (c3 0 0 0) _ _ hvw Tryz.underlying51 rfl (size_c3 0 0 0) ?_)
     | (refine wpList_store_row rfl 51 (.tmp 4) (.tmp 10) rfl (w.heap.size + 1 + 1) (c3 0 0 0) rfl rfl _ _ hb2w (size_c3 0 0 0) rfl (one_c3 0 0 0) ?_))
    refine bodyPost_ret (v := .tuple #[v3 0 0 0, .int .i64 2]) ?_ rfl ⟨hB3, .inr ⟨Hg.out, rfl⟩⟩
    exact results_cell_slot (p := 4) (q := 5) rfl _ _ (w.heap.size + 1 + 1) _ _ _ _ rfl hrow Tryz.underlying51 rfl (size_c3 0 0 0)
end Go.Proofs.YtkibigbcdlilkaaGreatDoor
namespace Go.Proofs.YtkibigbcdlilkaaGreatDoor
open Go.RowKit Go.Shelf
attribute [local go_sem] Oper.semAt_some run_store_func
theorem refmay_any (k : Int) (w : World) : Calls Tryz.prog 70 #[.int .i64 k] w fun e w' => e = .returned (.bool (mayB k)) ∧ w = w' := by
 by_cases h : 2 ≤ k
 · have d : decide (2 ≤ k) = true := decide_eq_true h
   rw [mayB, d, Bool.true_and]
   go_enter Tryz.func70, Tryz.ntmps70
   go_wp2
   go_ret
   exact ⟨rfl, rfl⟩
 · have d : decide (2 ≤ k) = false := decide_eq_false h
   rw [mayB, d, Bool.false_and]
   go_enter Tryz.func70, Tryz.ntmps70
   go_wp2
   go_ret
   exact ⟨rfl, rfl⟩
set_option maxRecDepth 100000 in
set_option maxHeartbeats 2000000 in
theorem refRight_any (a b c n : Int) (w : World) :
    Calls Tryz.prog 80 #[v3 a b c, .int .i64 n] w fun e w' => e = .returned (.bool (rightB a b c n)) ∧ Below w.heap.size w w' := by
  have hmy := refmay_any n
  have hcl : (v3 a b c).cells = c3 a b c := rfl
  have hr := Rowed.new w 51 (c3 a b c)
  have hB := below_alloc w (.cells (c3 a b c) 51)
  have k0 := hr.cell 0
  have k1 := hr.cell 1
  have k2 := hr.cell 2
  simp at k0 k1 k2
  have hn : mayB n = true → 2 ≤ n ∧ n ≤ 1000 := by
   intro h
   unfold mayB at h
   rw [Bool.and_eq_true, decide_eq_true_eq, decide_eq_true_eq] at h
   omega
  cases hm : mayB n with
  | false =>
    have Hv := Lib.hid (show rightB a b c n = false by rw [rightB, hm, Bool.false_and])
    rw [hm] at hmy
    go_enter Tryz.func80, Tryz.ntmps80
    go_wp2_with (go_at_call 70; refine (hmy _).mono ?_; rintro e w' ⟨rfl, rfl⟩)
    go_ret
    exact ⟨by rw [Hv.out]; rfl, hB⟩
  | true =>
    obtain ⟨hn2, hn1⟩ := hn hm
    rw [hm] at hmy
    have e6 : IntKind.i64.wrap (6 * n) = 6 * n := IntWalk.i64_in _ (by omega)
    have w6 : wrap64 (6 * n) = 6 * n := IntWalk.wrap64_in _ (by omega)
    cases h0 : decide (0 ≤ a) with
    | false =>
      have Hv := Lib.hid (show rightB a b c n = false by rw [rightB, hm, h0]; simp)
      go_enter Tryz.func80, Tryz.ntmps80
      go_wp2_with (go_at_call 70; refine (hmy _).mono ?_; rintro e w' ⟨rfl, rfl⟩)
      go_ret
      exact ⟨by rw [Hv.out]; rfl, hB⟩
    | true =>
      cases h1 : decide (a < n) with
      | false =>
        have Hv := Lib.hid (show rightB a b c n = false by rw [rightB, hm, h0, h1]; simp)
        go_enter Tryz.func80, Tryz.ntmps80
        go_wp2_with (go_at_call 70; refine (hmy _).mono ?_; rintro e w' ⟨rfl, rfl⟩)
        go_ret
        exact ⟨by rw [Hv.out]; rfl, hB⟩
      | true =>
        cases h2 : decide (0 ≤ b) with
        | false =>
          have Hv := Lib.hid (show rightB a b c n = false by rw [rightB, hm, h0, h1, h2]; simp)
          go_enter Tryz.func80, Tryz.ntmps80
          go_wp2_with (go_at_call 70; refine (hmy _).mono ?_; rintro e w' ⟨rfl, rfl⟩)
          go_ret
          exact ⟨by rw [Hv.out]; rfl, hB⟩
        | true =>
          cases h3 : decide (b < 4) with
          | false =>
            have Hv := Lib.hid (show rightB a b c n = false by rw [rightB, hm, h0, h1, h2, h3]; simp)
            go_enter Tryz.func80, Tryz.ntmps80
            go_wp2_with (go_at_call 70; refine (hmy _).mono ?_; rintro e w' ⟨rfl, rfl⟩)
            go_ret
            exact ⟨by rw [Hv.out]; rfl, hB⟩
          | true =>
            cases h4 : decide (0 ≤ c) with
            | false =>
              have Hv := Lib.hid (show rightB a b c n = false by rw [rightB, hm, h0, h1, h2, h3, h4]; simp)
              go_enter Tryz.func80, Tryz.ntmps80
              go_wp2_with (go_at_call 70; refine (hmy _).mono ?_; rintro e w' ⟨rfl, rfl⟩)
              go_ret
              exact ⟨by rw [Hv.out]; rfl, hB⟩
            | true =>
              cases h5 : decide (c ≤ 6 * n) with
              | false =>
                have Hv := Lib.hid (show rightB a b c n = false by rw [rightB, hm, h0, h1, h2, h3, h4, h5]; simp)
                go_enter Tryz.func80, Tryz.ntmps80
                go_wp2_with (go_at_call 70; refine (hmy _).mono ?_; rintro e w' ⟨rfl, rfl⟩)
                go_ret
                exact ⟨by rw [Hv.out]; rfl, hB⟩
              | true =>
                have Hv := Lib.hid (show rightB a b c n = true by rw [rightB, hm, h0, h1, h2, h3, h4, h5]; rfl)
                go_enter Tryz.func80, Tryz.ntmps80
                go_wp2_with (go_at_call 70; refine (hmy _).mono ?_; rintro e w' ⟨rfl, rfl⟩)
                go_ret
                exact ⟨by rw [Hv.out]; rfl, hB⟩
theorem numB_inj {l l' : List UInt8} {k : Nat} (h : ∀ j, j < k → (atB l j).toNat ≤ 1) (h' : ∀ j, j < k → (atB l' j).toNat ≤ 1) (e : numB l k = numB l' k) : ∀ j, j < k → atB l j = atB l' j := by
 induction k with
 | zero => intro j hj; omega
 | succ k ih =>
   rw [numB, numB] at e
   have h1 := h k (by omega)
   have h2 := h' k (by omega)
   intro j hj
   by_cases ej : j = k
   · subst ej
     exact UInt8.toNat_inj.1 (by omega)
   · exact ih (fun j hj => h j (by omega)) (fun j hj => h' j (by omega)) (by omega) j (by omega)
theorem atB_append_left (l r : List UInt8) {j : Nat} (h : j < l.length) : atB (l ++ r) j = atB l j := by simp [atB, List.getElem?_append_left h]
theorem atB_append_right (l r : List UInt8) {j : Nat} (h : l.length ≤ j) : atB (l ++ r) j = atB r (j - l.length) := by simp [atB, List.getElem?_append_right h]
theorem atB_bits (x wd : Nat) {k : Nat} (h : k < wd) : (atB (bitsOf x wd) k).toNat = x / 2 ^ (wd - 1 - k) % 2 := by
 simp only [atB, bitsOf, List.getElem?_map, List.getElem?_range h, Option.map_some, Option.getD_some]
 have : x / 2 ^ (wd - 1 - k) % 2 < 2 := Nat.mod_lt _ (by omega)
 simp
 omega
theorem numB_bits (x wd : Nat) (hx : x < 2 ^ wd) (r : List UInt8) : ∀ k, k ≤ wd → numB (bitsOf x wd ++ r) k = x / 2 ^ (wd - k) := by
 intro k
 induction k with
 | zero => intro _; rw [numB, Nat.sub_zero, Nat.div_eq_of_lt hx]
 | succ k ih =>
   intro hk
   rw [numB, ih (by omega), atB_append_left _ _ (by rw [bitsOf_length]; omega), atB_bits x wd (by omega)]
   have e : wd - k = (wd - 1 - k) + 1 := by omega
   have e2 : wd - (k + 1) = wd - 1 - k := by omega
   rw [e, e2, Nat.pow_succ, ← Nat.div_div_eq_div_mul]
   omega
theorem numB_all (x wd : Nat) (hx : x < 2 ^ wd) (r : List UInt8) : numB (bitsOf x wd ++ r) wd = x := by
 rw [numB_bits x wd hx r wd (Nat.le_refl _), Nat.sub_self, Nat.pow_zero, Nat.div_one]
theorem bits_le (x wd k : Nat) : (atB (bitsOf x wd) k).toNat ≤ 1 := by
 by_cases h : k < wd
 · rw [atB_bits x wd h]; omega
 · have : (bitsOf x wd)[k]? = none := List.getElem?_eq_none (by rw [bitsOf_length]; omega)
   simp [atB, this]
theorem app_le {l r : List UInt8} (hl : ∀ k, (atB l k).toNat ≤ 1) (hr : ∀ k, (atB r k).toNat ≤ 1) (k : Nat) : (atB (l ++ r) k).toNat ≤ 1 := by
 by_cases h : k < l.length
 · rw [atB_append_left _ _ h]; exact hl k
 · rw [atB_append_right _ _ (by omega)]; exact hr _
theorem pack_le (a b c n k : Nat) : (atB (packL a b c n) k).toNat ≤ 1 := app_le (app_le (app_le (bits_le _ _) (bits_le _ _)) (bits_le _ _)) (bits_le _ _) k
theorem unG_pack (a b c n : Nat) (h : rightB a b c n = true) : unG (packL a b c n) n = some (a, b, c) := by
 obtain ⟨a', b', c', n', ha, hb, hc, hn, h2, h1, hal, hbl, hcl⟩ := rightB_nat h
 obtain rfl : a = a' := by omega
 obtain rfl : b = b' := by omega
 obtain rfl : c = c' := by omega
 obtain rfl : n = n' := by omega
 have t1 := tb_lt n h2 h1
 have t2 := wb_lt n h2 h1
 have hm : mayB n = true := by unfold mayB; rw [decide_eq_true (by omega), decide_eq_true (by omega)]; rfl
 have e0 : numB (packL a b c n) (zb n) = 0 := by
  unfold packL
  rw [List.append_assoc, List.append_assoc]
  exact numB_all 0 _ (Nat.two_pow_pos _) _
 have d1 : (packL a b c n).drop (zb n) = bitsOf a (tb n) ++ (bitsOf b 2 ++ bitsOf c (wb n)) := by
  unfold packL
  rw [List.append_assoc, List.append_assoc, List.drop_left' (bitsOf_length _ _)]
 have d2 : (packL a b c n).drop (zb n + tb n) = bitsOf b 2 ++ bitsOf c (wb n) := by
  rw [← List.drop_drop, d1, List.drop_left' (bitsOf_length _ _)]
 have d3 : (packL a b c n).drop (zb n + tb n + 2) = bitsOf c (wb n) := by
  rw [← List.drop_drop, d2, List.drop_left' (bitsOf_length _ _)]
 have e1 : numB ((packL a b c n).drop (zb n)) (tb n) = a := by rw [d1]; exact numB_all a _ (by omega) _
 have e2 : numB ((packL a b c n).drop (zb n + tb n)) 2 = b := by rw [d2]; exact numB_all b _ (by omega) _
 have e3 : numB ((packL a b c n).drop (zb n + tb n + 2)) (wb n) = c := by
  rw [d3, ← List.append_nil (bitsOf c (wb n))]; exact numB_all c _ (by omega) _
 unfold unG
 simp only [Int.toNat_natCast, e0, e1, e2, e3]
 rw [if_pos ⟨hm, packL_length a b c n, fun k _ => pack_le a b c n k, trivial, h⟩]
theorem unG_some {l : List UInt8} {n : Int} {a b c : Nat} (h : unG l n = some (a, b, c)) : l.length = longN n.toNat ∧ (∀ k, k < l.length → (atB l k).toNat ≤ 1) ∧ numB l (zb n.toNat) = 0 ∧ numB (l.drop (zb n.toNat)) (tb n.toNat) = a ∧ numB (l.drop (zb n.toNat + tb n.toNat)) 2 = b ∧ numB (l.drop (zb n.toNat + tb n.toNat + 2)) (wb n.toNat) = c := by
 unfold unG at h
 split at h
 · rename_i hc
   injection h with h
   injection h with h1 h2
   injection h2 with h2 h3
   exact ⟨hc.2.1, hc.2.2.1, hc.2.2.2.1, h1, h2, h3⟩
 · cases h
theorem unG_inj {l l' : List UInt8} {n : Int} {s : Nat × Nat × Nat} (h : unG l n = some s) (h' : unG l' n = some s) : ∀ j, j < longN n.toNat → atB l j = atB l' j := by
 obtain ⟨a, b, c⟩ := s
 obtain ⟨h0, h1, h2, h3, h4, h5⟩ := unG_some h
 obtain ⟨k0, k1, k2, k3, k4, k5⟩ := unG_some h'
 generalize n.toNat = m at *
 have hl : longN m = zb m + tb m + 2 + wb m := rfl
 have g : ∀ (o d : Nat), o + d ≤ longN m → numB (l.drop o) d = numB (l'.drop o) d → ∀ j, j < d → atB l (o + j) = atB l' (o + j) := by
  intro o d ho e j hj
  have := numB_inj (l := l.drop o) (l' := l'.drop o) (k := d) (fun i hi => by rw [atB_drop]; exact h1 _ (by omega)) (fun i hi => by rw [atB_drop]; exact k1 _ (by omega)) e j hj
  rwa [atB_drop, atB_drop] at this
 intro j hj
 by_cases a1 : j < zb m
 · exact numB_inj (fun i hi => h1 i (by omega)) (fun i hi => k1 i (by omega)) (h2.trans k2.symm) j a1
 · by_cases a2 : j < zb m + tb m
   · have := g (zb m) (tb m) (by omega) (h3.trans k3.symm) (j - zb m) (by omega)
     rwa [show zb m + (j - zb m) = j by omega] at this
   · by_cases a3 : j < zb m + tb m + 2
     · have := g (zb m + tb m) 2 (by omega) (h4.trans k4.symm) (j - (zb m + tb m)) (by omega)
       rwa [show zb m + tb m + (j - (zb m + tb m)) = j by omega] at this
     · have := g (zb m + tb m + 2) (wb m) (by omega) (h5.trans k5.symm) (j - (zb m + tb m + 2)) (by omega)
       rwa [show zb m + tb m + 2 + (j - (zb m + tb m + 2)) = j by omega] at this
theorem atB_set (l : List UInt8) (p : Nat) (y : UInt8) (h : p < l.length) : atB (l.set p y) p = y := by simp [atB, h]
theorem long_even (n : Nat) : longN n % 2 = 0 := by unfold longN zb; omega
end Go.Proofs.YtkibigbcdlilkaaGreatDoor
