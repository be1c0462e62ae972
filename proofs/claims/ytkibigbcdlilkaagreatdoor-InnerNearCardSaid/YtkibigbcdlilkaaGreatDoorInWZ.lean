import Derived.Lib.SlBytesConst
import Derived.Test.YtkibigbcdlilkaaGreatDoorInNZ
import Derived.Test.YtkibigbcdlilkaaGreatDoorWtCZ
namespace Go.Proofs.YtkibigbcdlilkaaGreatDoor
open Go.RowKit Go.Shelf
abbrev wx : List UInt8 := [65, 67, 71, 71, 84]
theorem wk_sums : sumsG wx = .ok (0, 0, 0) := by kernel_rfl
theorem wk_row : RowOk wx 5 0 0 0 := ⟨rfl, by
 intro k hk
 rcases (show k = 0 ∨ k = 1 ∨ k = 2 ∨ k = 3 ∨ k = 4 by have : k < 5 := hk; omega) with rfl | rfl | rfl | rfl | rfl <;> decide, by decide, by decide, wk_sums⟩
theorem wk_long5 : wlongN 5 = 36 := by kernel_rfl
theorem wk_all : ∃ W0 : List UInt8, wfG wx = .ok (fldL wx 0 0 0) ∧ wordL wx (fldL wx 0 0 0) = W0 ∧ W0.length = 36 ∧ decG W0 5 = .ok wx ∧ (∃ z b, editG W0 5 = (⟨0, z, b⟩, 0)) ∧ decG (W0.take 2 ++ W0.drop 3) 5 = .ok wx ∧ decG W0 1 = .error 2 ∧ decG (W0.drop 2) 5 = .error 130 := by
 have hl : (wordL wx (fldL wx 0 0 0)).length = 36 := by rw [word_len wk_row]; exact wk_long5
 have hd : decG (wordL wx (fldL wx 0 0 0)) (5 : Nat) = .ok wx := dec_is wk_row (by rw [dist_self]; omega)
 refine ⟨_, wk_row.wf, rfl, hl, hd, ?_, ?_, ?_, ?_⟩
 · obtain ⟨d, h1, h2, h3⟩ := edit_told hd wk_row (letters_mem (word_letters wk_row))
   have h4 := (edf_same _ _ d h2 h3).2 rfl
   obtain ⟨k, z, b⟩ := d
   obtain rfl : k = 0 := h4
   exact ⟨z, b, h1⟩
 · refine dec_is wk_row ?_
   have h : Ed.apG (wordL wx (fldL wx 0 0 0)) 1 ((2 : Nat) : Int) 0 = (wordL wx (fldL wx 0 0 0)).take 2 ++ (wordL wx (fldL wx 0 0 0)).drop 3 := by
    rw [Ed.apG_gap _ _ _ (by omega), Ed.plG_at 2 _ (by omega) (by omega)]
   rw [← h]
   exact ap_near 1 _ 0 (by omega)
 · unfold decG
   rw [if_neg (by decide)]
 · exact dec_long (n := 5) (by decide) (by decide) (.inl (by rw [List.length_drop, hl, wk_long5]; omega))
theorem Dec_ok {y x : List UInt8} {n : Int} (h : decG y n = .ok x) (hy : y.length ≤ 1000) (v : Value) (w : World) (hT : Tab w) (hTB : TabB w) (hS : Sl eB w.heap.size w v y) :
    Calls Tryz.prog 9 #[v, .int .i64 n] w fun e w' => Below w.heap.size w w' ∧ ∃ u, e = .returned (.tuple #[u, .int .i64 0]) ∧ Sl eB w'.heap.size w' u x := by
  refine (Decode_any y n hy v w hT hTB hS).mono ?_
  rintro e w' ⟨hB, ⟨x', u, h1, rfl, hu⟩ | ⟨m, h1, rfl⟩⟩
  · rw [h] at h1; cases h1; exact ⟨hB, u, rfl, hu⟩
  · rw [h] at h1; cases h1
theorem Dec_no {y : List UInt8} {n m : Int} (h : decG y n = .error m) (hy : y.length ≤ 1000) (v : Value) (w : World) (hT : Tab w) (hTB : TabB w) (hS : Sl eB w.heap.size w v y) :
    Calls Tryz.prog 9 #[v, .int .i64 n] w fun e w' => Below w.heap.size w w' ∧ e = .returned (.tuple #[.slice none 0 0, .int .i64 m]) := by
  refine (Decode_any y n hy v w hT hTB hS).mono ?_
  rintro e w' ⟨hB, ⟨x', u, h1, rfl, hu⟩ | ⟨k, h1, rfl⟩⟩
  · rw [h] at h1; cases h1
  · rw [h] at h1; cases h1; exact ⟨hB, rfl⟩
end Go.Proofs.YtkibigbcdlilkaaGreatDoor
namespace Go.Proofs.YtkibigbcdlilkaaGreatDoor
open Go.RowKit Go.Shelf
attribute [local go_sem] Oper.semAt_some run_store_func
set_option maxRecDepth 100000 in
set_option maxHeartbeats 4000000 in
theorem wakes_any (w : World) (hT : Tab w) (hTB : TabB w) (hTE : Ed.TabE w) : Calls Tryz.prog 8 #[] w fun e w' => e = .returned (.bool true) ∧ Below w.heap.size w w' := by
 obtain ⟨i0, hi, hz0, hz1, hz2⟩ := info_parts info_u8
 obtain ⟨W0, hwf, hW0, hl, h1, ⟨z2, b2, h2⟩, h3, h4, h5⟩ := wk_all
 have f0 := fun v w h => WRMake_ok v wx _ hwf w h
 rw [hW0] at f0
 have f1 := Dec_ok h1 (by omega)
 have f2 := fun v w hT hTB hTE hS => Kind_any W0 5 (by omega) v w hT hTB hTE hS
 rw [h2] at f2
 have f3 := Dec_ok h3 (by simp; omega)
 have f4 := Dec_no h4 (by omega)
 have f5 := Dec_no h5 (by simp; omega)
 have hl7 : decide ((W0.length : Int) < 7) = false := decide_eq_false (by omega)
 have Hl := Lib.hid hl
 clear hwf hW0 h1 h2 h3 h4 h5
 have kc := fun (w : World) (C : Array Value) (n c : Nat) => Lib.run_convert_bytes_const (P := Tryz.prog) w 22 5 C n c Tryz.underlying22 Tryz.underlying5
 clear hl
 go_enter Tryz.func8, Tryz.ntmps8
 have hA := below_alloc w (.cells #[.int .u8 65, .int .u8 67, .int .u8 71, .int .u8 71, .int .u8 84] 5 (5, 6))
 have hq := Sl.new eB w wx #[eB 65, eB 67, eB 71, eB 71, eB 84] 5 (5, 6) 5 5 rfl (Nat.le_refl _) rfl
 go_wp2_with fail
 go_at_call 17
 refine (f0 _ _ hq).mono ?_
 rintro e w1 ⟨hC, u0, rfl, hu0⟩
 have hB := below_trans hA hC
 have hT := hT.below hB
 have hTB := hTB.below hB
 have hTE := hTE.below hB
 obtain ⟨A0, k0, rfl, hk0, hc0⟩ := id hu0
 obtain ⟨b0, o0, rfl, -⟩ := hc0 (by have := Hl.out; omega)
 clear hC hA hq f0 hc0
 have hkw : (W0.length : Int) = 36 := by have := Hl.out; omega
 have HK := Lib.hid hkw
 clear hkw
 go_wp2_with fail
 go_at_call 9
 refine (f1 _ _ hT hTB hu0).mono ?_
 rintro e w2 ⟨hC, u1, rfl, hu1⟩
 have hB := below_trans hB hC
 have hT := hT.below hC
 have hTB := hTB.below hC
 have hTE := hTE.below hC
 have hu0 := hu0.next hC
 clear hC f1
 go_wp2_with fail
 go_at_call 13
 refine (f2 _ _ hT hTB hTE hu0).mono ?_
 rintro e w3 ⟨rfl, hC⟩
 have hB := below_trans hB hC
 have hT := hT.below hC
 have hTB := hTB.below hC
 have hu0 := hu0.next hC
 have hu1 := hu1.next hC
 clear hC f2 hTE
 have hbx := HK.out
 have n1 : ¬ k0 = 3 := by omega
 have n2 : ¬ 3 = k0 := by omega
 have n3 : ¬ k0 = 2 := by omega
 have n4 : ¬ 2 = k0 := by omega
 have l2 : (2 : Int) ≤ (k0 : Int) := by omega
 have l3 : (3 : Int) ≤ (W0.length : Int) := by omega
 have l4 : (2 : Int) ≤ (W0.length : Int) := by omega
 have l5 : W0.length ≤ 1000 := by omega
 have l6 : 3 ≤ W0.length := by omega
 have Hk0 := Lib.hid hk0
 clear hbx hk0
 go_wp2_with fail
 have hA := below_alloc w3 (.cells #[] 5)
 have hrow : (w3.alloc (.cells #[] 5)).drew.ownsRow w3.heap.size 5 1 (.slice (some ⟨w3.heap.size, 0, none⟩) 0 0) 0 [] := row_made w3
 have hA' : Below w3.heap.size w3 (w3.alloc (.cells #[] 5)).drew := hA.drew
 have s1 := hu0.upto (p := 2) (by omega)
 have s2 := hu0.from_ (p := 3) l6 (some ⟨b0, o0 + 3, none⟩) (fun _ => by simp [Addr.add])
 have q1 : 0 + (W0.take 2).length ≤ maxLen := by unfold maxLen; simp; omega
 have q2 : (0 + (W0.take 2).length) * 1 ≤ 140737488355328 := by simp; omega
 have q3 : 0 + (W0.take 2).length + (W0.drop 3).length ≤ maxLen := by unfold maxLen; simp; omega
 have q4 : (0 + (W0.take 2).length + (W0.drop 3).length) * 1 ≤ 140737488355328 := by simp; omega
 go_region_law (first
  | (refine step_append_sl _ rfl (.tmp 37) (.tmp 39) _ rfl w3.heap.size 5 i0 (.int .u8 0) 1 Tryz.underlying22 hi hz0 hz1 hz2 rfl _ 0 [] hrow rfl w3.heap.size _ (W0.take 2) (s1.below hA') rfl (fun _ => rfl) q1 q2 hA'.size ?_
     intro v1 w4 hown1 hg1 hat1
     have hB4 : Below w3.heap.size w3 w4 := hA'.trans (below_grown hrow hg1 hA'.size (Nat.le_refl _)))
  | (refine step_append_sl _ rfl (.tmp 40) (.tmp 42) _ rfl w3.heap.size 5 i0 (.int .u8 0) 1 Tryz.underlying22 hi hz0 hz1 hz2 rfl _ _ _ hown1 rfl w3.heap.size _ (W0.drop 3) (s2.below hB4) rfl (fun _ => rfl) q3 q4 hB4.size ?_
     intro v2 w5 hown2 hg2 hat2
     have hB5 : Below w3.heap.size w3 w5 := hB4.trans (below_grown hown1 hg2 hB4.size (Nat.le_refl _))
     have hsl2 : Sl eB w5.heap.size w5 v2 (W0.take 2 ++ W0.drop 3) := Sl.of_own (n := 0 + (W0.take 2).length + (W0.drop 3).length) (by simpa using hown2))
  | (rw [if_pos (by rfl)]
     unfold Oper.wp
     go_simp
     refine (f3 _ _ (hT.below hB5) (hTB.below hB5) hsl2).mono ?_
     rintro e w6 ⟨hC6, u6, rfl, hu6⟩))
 have hC36 : Below w3.heap.size w3 w6 := hB5.trans (hC6.mono hB5.size)
 have hB := below_trans hB hC36
 have hT := hT.below hC36
 have hTB := hTB.below hC36
 have hu0 := hu0.next hC36
 have hu1 := hu1.next hC36
 clear hC6 hC36 hown1 hown2 hg1 hg2 hat1 hat2 hB4 hB5 hsl2 s1 s2 q1 q2 q3 q4 hA hA' hrow f3
 go_wp2_with fail
 go_at_call 9
 refine (f4 _ _ hT hTB hu0).mono ?_
 rintro e w7 ⟨hC, rfl⟩
 have hB := below_trans hB hC
 have hT := hT.below hC
 have hTB := hTB.below hC
 have hu0 := hu0.next hC
 have hu1 := hu1.next hC
 have hu6 := hu6.next hC
 clear hC f4
 have s3 := hu0.from_ (p := 2) (by omega) (some ⟨b0, o0 + 2, none⟩) (fun _ => by simp [Addr.add])
 go_wp2_with fail
 go_at_call 9
 refine (f5 _ _ hT hTB s3).mono ?_
 rintro e w8 ⟨hC, rfl⟩
 have hB := below_trans hB hC
 have hT := hT.below hC
 have hTB := hTB.below hC
 have hu1 := hu1.next hC
 have hu6 := hu6.next hC
 clear hC f5 s3 hu0
 have hA := below_alloc w8 (.cells #[.int .u8 65, .int .u8 67, .int .u8 71, .int .u8 71, .int .u8 84] 5 (5, 6))
 have hq := Sl.new eB w8 wx #[eB 65, eB 67, eB 71, eB 71, eB 84] 5 (5, 6) 5 5 rfl (Nat.le_refl _) rfl
 have hu1 := hu1.next hA
 have hu6 := hu6.next hA
 have hB := below_trans hB hA
 have k1 := Gp.same_eq _ _ wx _ _ hu1 hq
 have k2 := Gp.same_eq _ _ wx _ _ hu6 hu1
 clear hA hq hu1 hu6
 go_wp2_with fail
 go_at_call 15
 refine k1.mono ?_
 rintro e w' ⟨rfl, rfl⟩
 go_wp2_with fail
 go_at_call 15
 refine k2.mono ?_
 rintro e w' ⟨rfl, rfl⟩
 go_wp2_with fail
 go_ret
 exact ⟨rfl, hB⟩
end Go.Proofs.YtkibigbcdlilkaaGreatDoor
