import Derived.Lib.SlBytesConst
import Derived.BigQuiet
import Derived.Test.YtkibigbcdlilkaaGreatDoorExMY
import Derived.Test.YtkibigbcdlilkaaGreatDoorGBY
import Derived.Test.YtkibigbcdlilkaaGreatDoorInSY
import Derived.Test.YtkibigbcdlilkaaGreatDoorInTY
import Derived.Test.YtkibigbcdlilkaaGreatDoorRdDY
import Derived.Test.YtkibigbcdlilkaaGreatDoorRoAY
import Derived.Test.YtkibigbcdlilkaaGreatDoorVaAY
import Derived.Test.YtkibigbcdlilkaaGreatDoorWtDY
namespace Go.Proofs.YtkibigbcdlilkaaGreatDoor
open Go.RowKit Go.Shelf
abbrev wx : List UInt8 := [65, 67, 71, 71, 84]
theorem wk_sums : sumsG wx = .ok (0, 0, 0) := by kernel_rfl
theorem wk_row : RowOk wx 5 0 0 0 := ⟨rfl, by
 intro k hk
 rcases (show k = 0 ∨ k = 1 ∨ k = 2 ∨ k = 3 ∨ k = 4 by have : k < 5 := hk; omega) with rfl | rfl | rfl | rfl | rfl <;> decide, by decide, by decide, wk_sums⟩
theorem wk_long5 : wlongN 5 = 36 := by kernel_rfl
theorem wk_all : ∃ W0 : List UInt8, wfG wx = .ok (fldL wx 0 0 0) ∧ wordL wx (fldL wx 0 0 0) = W0 ∧ W0.length = 36 ∧ decG W0 5 = .ok wx ∧ (∃ z b, editG W0 5 = (⟨0, z, b⟩, 0)) ∧ decG (W0.take 2 ++ W0.drop 3) 5 = .ok wx ∧ decG W0 1 = .error 2 ∧ decG (W0.drop 2) 5 = .error 130 := by
 have hl : (wordL wx (fldL wx 0 0 0)).length = 36 := by rw [word_len wk_row]; exact wk_long5
 have hd : decG (wordL wx (fldL wx 0 0 0)) (5 : Nat) = .ok wx := dec_is wk_row (by rw [dist_self]; omega)
 refine ⟨_, wk_row.wf, rfl, hl, hd, ?_, ?_, ?_, ?_⟩
 · obtain ⟨d, h1, h2, h3⟩ := edit_told hd wk_row (letters_mem (word_letters wk_row))
   have h4 := (edf_same _ _ d h2 h3).2 rfl
   obtain ⟨k, z, b⟩ := d
   obtain rfl : k = 0 := h4
   exact ⟨z, b, h1⟩
 · refine dec_is wk_row ?_
   have h : Ed.apG (wordL wx (fldL wx 0 0 0)) 1 ((2 : Nat) : Int) 0 = (wordL wx (fldL wx 0 0 0)).take 2 ++ (wordL wx (fldL wx 0 0 0)).drop 3 := by
    rw [Ed.apG_gap _ _ _ (by omega), Ed.plG_at 2 _ (by omega) (by omega)]
   rw [← h]
   exact ap_near 1 _ 0 (by omega)
 · unfold decG
   rw [if_neg (by decide)]
 · exact dec_long (n := 5) (by decide) (by decide) (.inl (by rw [List.length_drop, hl, wk_long5]; omega))
theorem Dec_ok {y x : List UInt8} {n : Int} (h : decG y n = .ok x) (hy : y.length ≤ 1000) (v : Value) (w : World) (hT : Tab w) (hTB : TabB w) (hS : Sl eB w.heap.size w v y) :
    Calls Tryz.prog 9 #[v, .int .i64 n] w fun e w' => Below w.heap.size w w' ∧ ∃ u, e = .returned (.tuple #[u, .int .i64 0]) ∧ Sl eB w'.heap.size w' u x := by
  refine (Decode_any y n hy v w hT hTB hS).mono ?_
  rintro e w' ⟨hB, ⟨x', u, h1, rfl, hu⟩ | ⟨m, h1, rfl⟩⟩
  · rw [h] at h1; cases h1; exact ⟨hB, u, rfl, hu⟩
  · rw [h] at h1; cases h1
theorem Dec_no {y : List UInt8} {n m : Int} (h : decG y n = .error m) (hy : y.length ≤ 1000) (v : Value) (w : World) (hT : Tab w) (hTB : TabB w) (hS : Sl eB w.heap.size w v y) :
    Calls Tryz.prog 9 #[v, .int .i64 n] w fun e w' => Below w.heap.size w w' ∧ e = .returned (.tuple #[.slice none 0 0, .int .i64 m]) := by
  refine (Decode_any y n hy v w hT hTB hS).mono ?_
  rintro e w' ⟨hB, ⟨x', u, h1, rfl, hu⟩ | ⟨k, h1, rfl⟩⟩
  · rw [h] at h1; cases h1
  · rw [h] at h1; cases h1; exact ⟨hB, rfl⟩
end Go.Proofs.YtkibigbcdlilkaaGreatDoor
namespace Go.Proofs.YtkibigbcdlilkaaGreatDoor
open Go.RowKit Go.Shelf
attribute [local go_sem] Oper.semAt_some run_store_func
set_option maxRecDepth 100000 in
set_option maxHeartbeats 4000000 in
theorem wakes_any (w : World) (hT : Tab w) (hTB : TabB w) (hTE : Ed.TabE w) : Calls Tryz.prog 8 #[] w fun e w' => e = .returned (.bool true) ∧ Below w.heap.size w w' := by
 obtain ⟨i0, hi, hz0, hz1, hz2⟩ := info_parts info_u8
 obtain ⟨W0, hwf, hW0, hl, h1, ⟨z2, b2, h2⟩, h3, h4, h5⟩ := wk_all
 have f0 := fun v w h => WRMake_ok v wx _ hwf w h
 rw [hW0] at f0
 have f1 := Dec_ok h1 (by omega)
 have f2 := fun v w hT hTB hTE hS => Kind_any W0 5 (by omega) v w hT hTB hTE hS
 rw [h2] at f2
 have f3 := Dec_ok h3 (by simp; omega)
 have f4 := Dec_no h4 (by omega)
 have f5 := Dec_no h5 (by simp; omega)
 have hl7 : decide ((W0.length : Int) < 7) = false := decide_eq_false (by omega)
 have Hl := Lib.hid hl
 clear hwf hW0 h1 h2 h3 h4 h5
 have kc := fun (w : World) (C : Array Value) (n c : Nat) => Lib.run_convert_bytes_const (P := Tryz.prog) w 22 5 C n c Tryz.underlying22 Tryz.underlying5
 clear hl
 go_enter Tryz.func8, Tryz.ntmps8
 have hA := below_alloc w (.cells #[.int .u8 65, .int .u8 67, .int .u8 71, .int .u8 71, .int .u8 84] 5 (5, 6))
 have hq := Sl.new eB w wx #[eB 65, eB 67, eB 71, eB 71, eB 84] 5 (5, 6) 5 5 rfl (Nat.le_refl _) rfl
 go_wp2_with fail
 go_at_call 17
 refine (f0 _ _ hq).mono ?_
 rintro e w1 ⟨hC, u0, rfl, hu0⟩
 have hB := below_trans hA hC
 have hT := hT.below hB
 have hTB := hTB.below hB
 have hTE := hTE.below hB
 obtain ⟨A0, k0, rfl, hk0, hc0⟩ := id hu0
 obtain ⟨b0, o0, rfl, -⟩ := hc0 (by have := Hl.out; omega)
 clear hC hA hq f0 hc0
 have hkw : (W0.length : Int) = 36 := by have := Hl.out; omega
 have HK := Lib.hid hkw
 clear hkw
 go_wp2_with fail
 go_at_call 9
 refine (f1 _ _ hT hTB hu0).mono ?_
 rintro e w2 ⟨hC, u1, rfl, hu1⟩
 have hB := below_trans hB hC
 have hT := hT.below hC
 have hTB := hTB.below hC
 have hTE := hTE.below hC
 have hu0 := hu0.next hC
 clear hC f1
 go_wp2_with fail
 go_at_call 13
 refine (f2 _ _ hT hTB hTE hu0).mono ?_
 rintro e w3 ⟨rfl, hC⟩
 have hB := below_trans hB hC
 have hT := hT.below hC
 have hTB := hTB.below hC
 have hu0 := hu0.next hC
 have hu1 := hu1.next hC
 clear hC f2 hTE
 have hbx := HK.out
 have n1 : ¬ k0 = 3 := by omega
 have n2 : ¬ 3 = k0 := by omega
 have n3 : ¬ k0 = 2 := by omega
 have n4 : ¬ 2 = k0 := by omega
 have l2 : (2 : Int) ≤ (k0 : Int) := by omega
 have l3 : (3 : Int) ≤ (W0.length : Int) := by omega
 have l4 : (2 : Int) ≤ (W0.length : Int) := by omega
 have l5 : W0.length ≤ 1000 := by omega
 have l6 : 3 ≤ W0.length := by omega
 have Hk0 := Lib.hid hk0
 clear hbx hk0
 go_wp2_with fail
 have hA := below_alloc w3 (.cells #[] 5)
 have hrow : (w3.alloc (.cells #[] 5)).drew.ownsRow w3.heap.size 5 1 (.slice (some ⟨w3.heap.size, 0, none⟩) 0 0) 0 [] := row_made w3
 have hA' : Below w3.heap.size w3 (w3.alloc (.cells #[] 5)).drew := hA.drew
 have s1 := hu0.upto (p := 2) (by omega)
 have s2 := hu0.from_ (p := 3) l6 (some ⟨b0, o0 + 3, none⟩) (fun _ => by simp [Addr.add])
 have q1 : 0 + (W0.take 2).length ≤ maxLen := by unfold maxLen; simp; omega
 have q2 : (0 + (W0.take 2).length) * 1 ≤ 140737488355328 := by simp; omega
 have q3 : 0 + (W0.take 2).length + (W0.drop 3).length ≤ maxLen := by unfold maxLen; simp; omega
 have q4 : (0 + (W0.take 2).length + (W0.drop 3).length) * 1 ≤ 140737488355328 := by simp; omega
 go_region_law (first
  | (refine step_append_sl _ rfl (.tmp 37) (.tmp 39) _ rfl w3.heap.size 5 i0 (.int .u8 0) 1 Tryz.underlying22 hi hz0 hz1 hz2 rfl _ 0 [] hrow rfl w3.heap.size _ (W0.take 2) (s1.below hA') rfl (fun _ => rfl) q1 q2 hA'.size ?_
     intro v1 w4 hown1 hg1 hat1
     have hB4 : Below w3.heap.size w3 w4 := hA'.trans (below_grown hrow hg1 hA'.size (Nat.le_refl _)))
  | (refine step_append_sl _ rfl (.tmp 40) (.tmp 42) _ rfl w3.heap.size 5 i0 (.int .u8 0) 1 Tryz.underlying22 hi hz0 hz1 hz2 rfl _ _ _ hown1 rfl w3.heap.size _ (W0.drop 3) (s2.below hB4) rfl (fun _ => rfl) q3 q4 hB4.size ?_
     intro v2 w5 hown2 hg2 hat2
     have hB5 : Below w3.heap.size w3 w5 := hB4.trans (below_grown hown1 hg2 hB4.size (Nat.le_refl _))
     have hsl2 : Sl eB w5.heap.size w5 v2 (W0.take 2 ++ W0.drop 3) := Sl.of_own (n := 0 + (W0.take 2).length + (W0.drop 3).length) (by simpa using hown2))
  | (rw [if_pos (by rfl)]
     unfold Oper.wp
     go_simp
     refine (f3 _ _ (hT.below hB5) (hTB.below hB5) hsl2).mono ?_
     rintro e w6 ⟨hC6, u6, rfl, hu6⟩))
 have hC36 : Below w3.heap.size w3 w6 := hB5.trans (hC6.mono hB5.size)
 have hB := below_trans hB hC36
 have hT := hT.below hC36
 have hTB := hTB.below hC36
 have hu0 := hu0.next hC36
 have hu1 := hu1.next hC36
 clear hC6 hC36 hown1 hown2 hg1 hg2 hat1 hat2 hB4 hB5 hsl2 s1 s2 q1 q2 q3 q4 hA hA' hrow f3
 go_wp2_with fail
 go_at_call 9
 refine (f4 _ _ hT hTB hu0).mono ?_
 rintro e w7 ⟨hC, rfl⟩
 have hB := below_trans hB hC
 have hT := hT.below hC
 have hTB := hTB.below hC
 have hu0 := hu0.next hC
 have hu1 := hu1.next hC
 have hu6 := hu6.next hC
 clear hC f4
 have s3 := hu0.from_ (p := 2) (by omega) (some ⟨b0, o0 + 2, none⟩) (fun _ => by simp [Addr.add])
 go_wp2_with fail
 go_at_call 9
 refine (f5 _ _ hT hTB s3).mono ?_
 rintro e w8 ⟨hC, rfl⟩
 have hB := below_trans hB hC
 have hT := hT.below hC
 have hTB := hTB.below hC
 have hu1 := hu1.next hC
 have hu6 := hu6.next hC
 clear hC f5 s3 hu0
 have hA := below_alloc w8 (.cells #[.int .u8 65, .int .u8 67, .int .u8 71, .int .u8 71, .int .u8 84] 5 (5, 6))
 have hq := Sl.new eB w8 wx #[eB 65, eB 67, eB 71, eB 71, eB 84] 5 (5, 6) 5 5 rfl (Nat.le_refl _) rfl
 have hu1 := hu1.next hA
 have hu6 := hu6.next hA
 have hB := below_trans hB hA
 have k1 := Gp.same_eq _ _ wx _ _ hu1 hq
 have k2 := Gp.same_eq _ _ wx _ _ hu6 hu1
 clear hA hq hu1 hu6
 go_wp2_with fail
 go_at_call 15
 refine k1.mono ?_
 rintro e w' ⟨rfl, rfl⟩
 go_wp2_with fail
 go_at_call 15
 refine k2.mono ?_
 rintro e w' ⟨rfl, rfl⟩
 go_wp2_with fail
 go_ret
 exact ⟨rfl, hB⟩
end Go.Proofs.YtkibigbcdlilkaaGreatDoor
namespace Go.Proofs.YtkibigbcdlilkaaGreatDoor
open Go.RowKit Go.Shelf
attribute [local go_sem] Oper.semAt_some run_store_func
theorem eqE (k : UInt8) (z : Int) (b : UInt8) (k' : UInt8) (z' : Int) (b' : UInt8) (w : World) : (Op.equalIn 10000 28 (Ed.eE k z b) (Ed.eE k' z' b')).run Tryz.prog w = .ok (((k.toNat : Int) == (k'.toNat : Int)) && (z == z' && ((b.toNat : Int) == (b'.toNat : Int)))) w := by
 have u3 := Tryz.underlying3
 have u5 := Tryz.underlying5
 have hS : Tryz.prog.underlying 28 = some (.struct (Tryz.prog.fieldsOf 28)) := by kernel_rfl
 have hp : Tryz.prog.stoodInHeld 28 = false := by kernel_rfl
 have hi1 : ∀ (d : Nat) (x y : Int) w, (Op.equalIn (d + 1) 3 (.int .i64 x) (.int .i64 y)).run Tryz.prog w = .ok (x == y) w := fun d x y w => run_equalIn_int w d 3 .i64 .i64 x y u3
 have hi2 : ∀ (d : Nat) (x y : Int) w, (Op.equalIn (d + 1) 5 (.int .u8 x) (.int .u8 y)).run Tryz.prog w = .ok (x == y) w := fun d x y w => run_equalIn_int w d 5 .u8 .u8 x y u5
 rw [show (10000 : Nat) = 9999 + 1 from rfl, run_equalIn_agg w 9999 28 _ _ hS hp]
 simp only [Program.fieldsOf, Tryz.underlying28]
 have hsz : (Tryz.prog.info? 3).map (·.size) = some 1 := by kernel_rfl
 have hsz2 : (Tryz.prog.info? 5).map (·.size) = some 1 := by kernel_rfl
 go_simp
 by_cases h1 : (k.toNat : Int) = (k'.toNat : Int) <;> by_cases h2 : z = z' <;> by_cases h3 : (b.toNat : Int) = (b'.toNat : Int) <;> simp [h1, h2, h3]
theorem eqE_same (k : UInt8) (z : Int) (b : UInt8) (w : World) : (Op.equalIn 10000 28 (Ed.eE k z b) (Ed.eE k z b)).run Tryz.prog w = .ok true w := by
 rw [eqE]
 simp
end Go.Proofs.YtkibigbcdlilkaaGreatDoor
namespace Go.Proofs.YtkibigbcdlilkaaGreatDoor
open Go.RowKit Go.Shelf
attribute [local go_sem] Oper.semAt_some run_store_func
abbrev cSeen (f : List UInt8) (a b c : Int) (k : Bool) : Array Value := #[.string ⟨f.toArray⟩, .int .i64 a, .int .i64 b, .int .i64 c, .bool k]
def SeenOk (n : Nat) (f : List UInt8) (a b c : Int) (k : Bool) : Prop := match toldG f n with
 | some (p, q, r) => k = true ∧ a = (p : Int) ∧ b = (q : Int) ∧ c = (r : Int)
 | none => k = false
theorem inn_facts (n L w c : Nat) (hL : w = n + 1 + 3 * L) (h8 : n ≤ 800) (h26 : L ≤ 26) (hc : w ≤ c) (h2 : 2 ≤ n) (h0 : 0 < L) :
    (IntKind.i64.wrap ((w : Int) - (n : Int)) = 1 + 3 * (L : Int) ∧ (1 + 3 * (L : Int) - 1) / 3 = (L : Int)) ∧
    (IntKind.i64.wrap ((n : Int) + 1) = (n : Int) + 1 ∧ IntKind.i64.wrap ((n : Int) + 1 + (L : Int)) = (n : Int) + 1 + (L : Int) ∧ IntKind.i64.wrap (2 * (L : Int)) = 2 * (L : Int) ∧ IntKind.i64.wrap ((n : Int) + 1 + 2 * (L : Int)) = (n : Int) + 1 + 2 * (L : Int) ∧ IntKind.i64.wrap ((n : Int) - 1) = ((n - 1 : Nat) : Int)) ∧
    ((n : Int) + 1 ≤ (n : Int) + 1 + (L : Int) ∧ (n : Int) + 1 + (L : Int) ≤ (w : Int) ∧ (n : Int) + 1 + (L : Int) ≤ (n : Int) + 1 + 2 * (L : Int) ∧ (n : Int) + 1 + 2 * (L : Int) ≤ (w : Int) ∧ (n : Int) + 1 + 2 * (L : Int) ≤ (c : Int) ∧ (n : Int) + 1 + (L : Int) ≤ (c : Int)) ∧
    (¬ c = n + 1 ∧ ¬ n + 1 = c ∧ ¬ c = n + 1 + L ∧ ¬ n + 1 + L = c ∧ ¬ c = n + 1 + 2 * L ∧ ¬ n + 1 + 2 * L = c) ∧
    ((n : Int) < (w : Int) ∧ ((n - 1 : Nat) : Int) < (w : Int) ∧ (n : Int) + 1 < (w : Int) ∧ (n : Int) ≤ (c : Int)) ∧
    (((n : Int) + 1).toNat = n + 1 ∧ ((n : Int) + 1 + (L : Int)).toNat = n + 1 + L ∧ ((n : Int) + 1 + 2 * (L : Int)).toNat = n + 1 + 2 * L) := by
  refine ⟨⟨?_, ?_⟩, ⟨?_, ?_, ?_, ?_, ?_⟩, ⟨?_, ?_, ?_, ?_, ?_, ?_⟩, ⟨?_, ?_, ?_, ?_, ?_, ?_⟩, ⟨?_, ?_, ?_, ?_⟩, ?_, ?_, ?_⟩
  · rw [IntWalk.i64_in _ (by omega)]; omega
  · omega
  · rw [IntWalk.i64_in _ (by omega)]
  · rw [IntWalk.i64_in _ (by omega)]
  · rw [IntWalk.i64_in _ (by omega)]
  · rw [IntWalk.i64_in _ (by omega)]
  · rw [IntWalk.i64_in _ (by omega)]; omega
  all_goals omega
theorem bytes_conv (xs : List UInt8) (W : World) : ∃ v W', (convert 9 22 (.string ⟨xs.toArray⟩)).run Tryz.prog W = .ok v W' ∧ Sl eB W'.heap.size W' v xs ∧ Below W.heap.size W W' := by
 have h := run_bytes_of_string (P := Tryz.prog) W 9 22 5 ⟨xs.toArray⟩ Tryz.underlying9 Tryz.underlying22 Tryz.underlying5
 have hge := grownCap_ge W (⟨xs.toArray⟩ : ByteArray).size 0 5
 generalize grownCap W (⟨xs.toArray⟩ : ByteArray).size 0 5 = cap at h hge
 have hsz : (⟨xs.toArray⟩ : ByteArray).size = xs.length := rfl
 rw [hsz] at h hge
 refine ⟨_, _, h, ⟨_, cap, rfl, hge, fun _ => ⟨W.heap.size, 0, rfl, ?_, fun j x hx => ?_⟩⟩, (Below.refl _ W).drew.alloc (Nat.le_refl _) _⟩
 · show W.heap.size < (W.drew.alloc _).heap.size
   rw [World.size_alloc]
   exact Nat.lt_succ_self _
 · have hj : j < xs.length := (List.getElem?_eq_some_iff.1 hx).1
   have e := bytesRow_at ⟨xs.toArray⟩ cap j (by simpa using hj)
   have e2 := World.alloc_heap_new W.drew (.cells (bytesRow ⟨xs.toArray⟩ cap) 5 ((bytesRow ⟨xs.toArray⟩ cap).size, (bytesRow ⟨xs.toArray⟩ cap).size + 1))
   have e3 : W.drew.heap.size = W.heap.size := rfl
   rw [e3] at e2
   simp only [World.cell?, e2]
   rw [Nat.zero_add, e]
   have : xs[j] = x := by rw [List.getElem?_eq_getElem hj] at hx; exact Option.some.inj hx
   subst this
   rfl
theorem sl_keep {B g : Nat} {W W' : World} {sv : Value} {xs : List UInt8} (h : Keep B g W W') (hs : Sl eB B W sv xs) (hg : ∀ A m c, sv = .slice (some A) m c → A.block ≠ g) : Sl eB B W' sv xs := by
 obtain ⟨A, c, e, hc, hcs⟩ := hs
 refine ⟨A, c, e, hc, fun hn => ?_⟩
 obtain ⟨b, off, rfl, hb, hcell⟩ := hcs hn
 exact ⟨b, off, rfl, hb, fun j x hx => (h.cell (p := ⟨b, off + j, none⟩) hb (show b ≠ g from hg ⟨b, off, none⟩ _ _ e)).trans (hcell j x hx)⟩
theorem sums_errU {x : List UInt8} {m : Int} (h : sumsG x = .error m) : (m == 0) = false := by
 unfold sumsG at h
 split at h
 · cases h; rfl
 · split at h
   · cases h; rfl
   · cases h
def SnS (Wd : World) (g : Nat) (f X : List UInt8) (a b c a' b' c' : Int) (k k' : Bool) (D : Nat → Bool) (_ : Unit) (w : World) : Prop :=
 Keep Wd.heap.size g Wd w ∧ Rowed w g 53 #[.string ⟨(if D 9 = true then X else f).toArray⟩, .int .i64 (if D 12 = true then a' else a), .int .i64 (if D 12 = true then b' else b), .int .i64 (if D 12 = true then c' else c), .bool (if D 15 = true then k' else k)]
theorem SnS.same {Wd : World} {g : Nat} {f X : List UInt8} {a b c a' b' c' : Int} {k k' : Bool} {D : Nat → Bool} {u : Unit} {w : World} {i : Nat} (h : SnS Wd g f X a b c a' b' c' k k' D u w) (h9 : i ≠ 9) (h12 : i ≠ 12) (h15 : i ≠ 15) : SnS Wd g f X a b c a' b' c' k k' (upd D i) u w := by
 unfold SnS
 rw [upd_other D (Ne.symm h9), upd_other D (Ne.symm h12), upd_other D (Ne.symm h15)]
 exact h
theorem told_one (sv : Value) (x : List UInt8) (n : Nat) (hreach : x.length ≤ 100000) (w : World) (hS : Sl eB w.heap.size w sv x) :
    ∃ a b c er : Int, SeenOk n x a b c (er == 0) ∧ Calls Tryz.prog 44 #[sv, .int .i64 n] w fun e w' => Below w.heap.size w w' ∧ e = .returned (.tuple #[v3 a b c, .int .i64 er]) := by
  have h := WRTold_any sv x n hreach w hS
  cases ht : toldG x n with
  | none =>
    have hno := (toldG_none x n).1 ht
    refine ⟨0, 0, 0, 130, by unfold SeenOk; rw [ht]; rfl, h.mono ?_⟩
    rintro e w' ⟨hB, ⟨a, b, c, hk, rfl⟩ | ⟨-, rfl⟩⟩
    · exact absurd ⟨_, hk⟩ hno
    · exact ⟨hB, rfl⟩
  | some s =>
    obtain ⟨p, q, r⟩ := s
    have hs := (toldG_iff x n (p, q, r)).1 ht
    refine ⟨p, q, r, 0, by unfold SeenOk; rw [ht]; exact ⟨rfl, rfl, rfl, rfl⟩, h.mono ?_⟩
    rintro e w' ⟨hB, ⟨a, b, c, hk, rfl⟩ | ⟨hno, rfl⟩⟩
    · have := hs.one hk
      injection this with e1 e2
      injection e2 with e2 e3
      subst e1 e2 e3
      exact ⟨hB, rfl⟩
    · exact absurd ⟨_, hs⟩ hno
set_option maxRecDepth 100000 in
set_option maxHeartbeats 4000000 in
theorem RInner_any (w : List UInt8) (n : Nat) (h2 : 2 ≤ n) (h8 : n ≤ 800) (hl : w.length = wlongN n) (sv : Value) (g : Nat) (f : List UInt8) (a b c : Int) (k : Bool) (hok : SeenOk n f a b c k) (W : World) (hS : Sl eB W.heap.size W sv w) (hr : Rowed W g 53 (cSeen f a b c k)) (hap : ∀ A m c, sv = .slice (some A) m c → A.block ≠ g) :
    Calls Tryz.prog 27 #[sv, .int .i64 n, .pointer (some ⟨g, 0, none⟩)] W fun e W' => Keep W.heap.size g W W' ∧ (∃ f' a' b' c' k', SeenOk n f' a' b' c' k' ∧ Rowed W' g 53 (cSeen f' a' b' c' k')) ∧
      ∃ v, e = .returned (.tuple #[v, .bool (innG w n)]) ∧ (innG w n = true → Sl eB W'.heap.size W' v (w.take n)) := by
  have hL : wlongN n = n + 1 + 3 * longN n := rfl
  have h26 := long_26 n (by omega)
  have hL0 : 0 < longN n := by unfold longN; omega
  obtain ⟨A, cp, rfl, hcp, hcs⟩ := id hS
  obtain ⟨bk, off, rfl, hbk, hcell⟩ := hcs (by omega)
  have hbg : bk ≠ g := hap _ _ _ rfl
  have hla : (fa w n).length = longN n := by unfold fa; rw [List.length_drop, List.length_take]; omega
  have hlb : (fb w n).length = longN n := by unfold fb; rw [List.length_drop, List.length_take]; omega
  have hlc : (fc w n).length = longN n := by unfold fc; rw [List.length_drop]; omega
  have sA : Sl eB W.heap.size W (.slice (some ⟨bk, off + (n + 1), none⟩) (n + 1 + longN n - (n + 1)) (cp - (n + 1))) (fa w n) := (hS.upto (p := n + 1 + longN n) (by omega)).from_ (p := n + 1) (by rw [List.length_take]; omega) _ (fun _ => by simp [Addr.add])
  have sB : Sl eB W.heap.size W (.slice (some ⟨bk, off + (n + 1 + longN n), none⟩) (n + 1 + 2 * longN n - (n + 1 + longN n)) (cp - (n + 1 + longN n))) (fb w n) := (hS.upto (p := n + 1 + 2 * longN n) (by omega)).from_ (p := n + 1 + longN n) (by rw [List.length_take]; omega) _ (fun _ => by simp [Addr.add])
  have sC : Sl eB W.heap.size W (.slice (some ⟨bk, off + (n + 1 + 2 * longN n), none⟩) (w.length - (n + 1 + 2 * longN n)) (cp - (n + 1 + 2 * longN n))) (fc w n) := hS.from_ (p := n + 1 + 2 * longN n) (by omega) _ (fun _ => by simp [Addr.add])
  have sX := hS.upto (p := n) (by omega)
  have x0 := hcell (n - 1) _ (atB_lt (by omega))
  have x1 := hcell n _ (atB_lt (by omega))
  have x2 := hcell (n + 1) _ (atB_lt (by omega))
  have HF := inn_facts n (longN n) w.length cp (by omega) h8 h26 hcp h2 hL0
  have cv : ∀ (sv : Value) (xs : List UInt8), Sl eB W.heap.size W sv xs → ∀ x, (convert 22 9 sv).run Tryz.prog (W.drewN x) = .ok (.string ⟨xs.toArray⟩) (W.drewN x) := fun sv xs h x => run_str (P := Tryz.prog) (show Sl eB W.heap.size (W.drewN x) sv xs from h) 22 9 5 Tryz.underlying22 Tryz.underlying5 Tryz.underlying9
  have vA := cv _ _ sA
  have vB := cv _ _ sB
  rw [show n + 1 + longN n - (n + 1) = longN n by omega] at vA
  have vC := cv _ _ sC
  have HI : Hid (innG w n = (decide (fa w n = fb w n) && decide (fb w n = fc w n) && match toldG (fa w n) n with
   | none => false
   | some (a, b, c) => decide (atB w n = letterOf (jN (atB w (n - 1)) (atB w (n + 1)) : Nat)) && match sumsG (w.take n) with
     | .error _ => false
     | .ok (p, q, r) => decide (p = (a : Int)) && (decide (q = (b : Int)) && decide (r = (c : Int))))) := Lib.hid rfl
  have HLN := Lib.hid (And.intro hl (And.intro hL (And.intro h26 (And.intro hL0 (And.intro h2 h8)))))
  have HLf := Lib.hid (And.intro hla (And.intro hlb hlc))
  obtain ⟨⟨i1, i2⟩, ⟨i4, i5, i6, i7, i8⟩, ⟨j1, j2, j3, j4, j5, j6⟩, ⟨k1, k2, k3, k4, k5, k6⟩, ⟨m1, m2, m3, m4⟩, t1, t2, t3⟩ := HF
  clear hla hlb hlc cv hcs hL h26 hL0 hl h2 h8 hap hcell sA sB sC
  have hn9 : n ≤ 800 := HLN.out.2.2.2.2.2
  have hL9 : longN n ≤ 26 := HLN.out.2.2.1
  generalize longN n = L at *
  have z1 : (0 : Int) ≤ (n : Int) + 1 := by omega
  have z2 : (0 : Int) ≤ (n : Int) + 1 + (L : Int) := by omega
  have z3 : (0 : Int) ≤ (n : Int) + 1 + 2 * (L : Int) := by omega
  go_enter Tryz.func27, Tryz.ntmps27
  go_wp2_with fail
  go_quiet (fail)
  have hK : Keep W.heap.size g W (W.drewN nq) := keep_of ⟨rfl, rfl, rfl, Nat.le_refl _, fun _ _ => rfl⟩
  have hr : Rowed (W.drewN nq) g 53 (cSeen f a b c k) := hr
  have hS : Sl eB (W.drewN nq).heap.size (W.drewN nq) (.slice (some ⟨bk, off, none⟩) w.length cp) w := hS
  have sX : Sl eB (W.drewN nq).heap.size (W.drewN nq) (.slice (some ⟨bk, off, none⟩) n cp) (w.take n) := sX
  have hbk : bk < (W.drewN nq).heap.size := hbk
  have x0 : (W.drewN nq).cell? ⟨bk, off + (n - 1), none⟩ = some (eB (atB w (n - 1))) := x0
  have x1 : (W.drewN nq).cell? ⟨bk, off + n, none⟩ = some (eB (atB w n)) := x1
  have x2 : (W.drewN nq).cell? ⟨bk, off + (n + 1), none⟩ = some (eB (atB w (n + 1))) := x2
  clear vA vB vC i1 i2 i5 i6 i7 j1 j2 j3 j4 j5 j6 k3 k4 k5 k6 t2 t3 z2 z3 hL9
  generalize hX : fa w n = X at *
  generalize hY : fb w n = Y at *
  generalize hZ : fc w n = Z at *
  generalize W.drewN nq = W1 at *
  by_cases e1 : X = Y
  · by_cases e2 : Y = Z
    · have q1 : ((⟨X.toArray⟩ : ByteArray) == ⟨Y.toArray⟩) = true := by rw [str_eq]; exact decide_eq_true e1
      have q1' : (X == Y) = true := by simpa using e1
      have q2 : ((⟨Y.toArray⟩ : ByteArray) == ⟨Z.toArray⟩) = true := by rw [str_eq]; exact decide_eq_true e2
      have q2' : (Y == Z) = true := by simpa using e2
      rw [decide_eq_true e1, decide_eq_true e2, Bool.true_and, Bool.true_and] at HI
      clear e1 e2 hX hY hZ
      have y0 := hr.cell 0
      by_cases ef : f = X
      · have q3 : ((⟨f.toArray⟩ : ByteArray) == ⟨X.toArray⟩) = true := by rw [str_eq]; exact decide_eq_true ef
        have q3' : (f == X) = true := by simpa using ef
        rw [ef] at hok hr y0 q3 q3'
        clear ef
        cases k with
        | false =>
          have hno : toldG X n = none := by
           unfold SeenOk at hok
           cases ht : toldG X n with
           | none => rfl
           | some r => rw [ht] at hok; cases hok.1
          have hI : innG w n = false := by rw [HI.out, hno]
          have z4 := hr.cell 4
          go_wp2_with fail
          go_quiet (fail)
          go_wp2_with fail
          go_ret2
          exact ⟨keep_t hK (keep_of ⟨rfl, rfl, rfl, Nat.le_refl _, fun _ _ => rfl⟩), ⟨_, _, _, _, _, hok, hr⟩, _, by rw [hI]; rfl, by rw [hI]; intro h; cases h⟩
        | true =>
          obtain ⟨p, q, r, ht, hp, hq, hrr⟩ : ∃ p q r : Nat, toldG X n = some (p, q, r) ∧ a = (p : Int) ∧ b = (q : Int) ∧ c = (r : Int) := by
           unfold SeenOk at hok
           cases ht : toldG X n with
           | none => rw [ht] at hok; cases hok
           | some r => rw [ht] at hok; exact ⟨_, _, _, rfl, hok.2.1, hok.2.2.1, hok.2.2.2⟩
          rw [ht] at HI
          have hJ := fun x => (WRJunction_any (atB w (n - 1)) (atB w (n + 1)) (W1.drewN x)).mono fun e w' h => (show e = .returned (eB (letterOf (jN (atB w (n - 1)) (atB w (n + 1)) : Nat))) ∧ w' = W1.drewN x from ⟨h.1, h.2.symm⟩)
          have z4 := hr.cell 4
          by_cases hj : atB w n = letterOf (jN (atB w (n - 1)) (atB w (n + 1)) : Nat)
          · have hjn : (((atB w n).toNat : Int) != ((letterOf (jN (atB w (n - 1)) (atB w (n + 1)) : Nat)).toNat : Int)) = false := by rw [← hj]; simp
            have HI2 : Hid ((∀ a' b' c', sumsG (w.take n) = .ok (a', b', c') → innG w n = (a' == (p : Int) && (b' == (q : Int) && c' == (r : Int)))) ∧ ∀ m, sumsG (w.take n) = .error m → innG w n = false) := Lib.hid ⟨fun a' b' c' hs => by
                rw [HI.out, hs]
                simp only [decide_eq_true hj, Bool.true_and]
                rfl, fun m hs => by rw [HI.out, hs]; simp⟩
            have hOf := rOf_any (.slice (some ⟨bk, off, none⟩) n cp) (w.take n) (by rw [List.length_take]; omega)
            clear hj HI
            generalize letterOf (jN (atB w (n - 1)) (atB w (n + 1)) : Nat) = jl at *
            generalize atB w (n - 1) = y0 at *
            generalize atB w n = y1 at *
            generalize atB w (n + 1) = y2 at *
            go_wp2_with fail
            go_quiet ((go_at_call 33; with_reducible exact Calls.quiet_of_same (hJ _)))
            clear hJ
            have hK := keep_t hK (keep_of (g := g) (show Below W.heap.size W1 (W1.drewN nq) from ⟨rfl, rfl, rfl, Nat.le_refl _, fun _ _ => rfl⟩))
            have hr : Rowed (W1.drewN nq) g 53 (cSeen X a b c true) := hr
            have sX : Sl eB (W1.drewN nq).heap.size (W1.drewN nq) (.slice (some ⟨bk, off, none⟩) n cp) (w.take n) := sX
            clear x0 x1 x2 hS z4
            generalize W1.drewN nq = W5 at *
            go_wp2_with fail
            go_at_call 45
            refine (hOf _ sX).mono ?_
            clear hOf
            rintro e W6 ⟨hC, ⟨a', b', c', hs, rfl⟩ | ⟨m, hs, rfl⟩⟩
            · have hI := HI2.out.1 a' b' c' hs
              have hA := below_alloc W6 (.cells (c3 a' b' c') 51)
              have hc := below_trans hC hA
              have hr := hr.below hc hr.lt
              have hs6 := Rowed.new W6 51 (c3 a' b' c')
              have sX := sX.next hc
              have hK := keep_t hK (keep_of (g := g) (hc.mono (by have := keep_size hK; omega)))
              have y1 := hr.cell 1
              have y2 := hr.cell 2
              have y3 := hr.cell 3
              have s0 := hs6.cell 0
              have s1 := hs6.cell 1
              have s2 := hs6.cell 2
              have hEq := fun w => eqS a' b' c' a b c w
              rw [hp, hq, hrr] at hEq
              rw [← hI] at hEq
              subst hp hq hrr
              clear hI hA hC HI2 hs
              go_wp2_with fail
              go_quiet (fail)
              go_wp2_with fail
              go_ret2
              exact ⟨keep_t hK (keep_of ⟨rfl, rfl, rfl, Nat.le_refl _, fun _ _ => rfl⟩), ⟨_, _, _, _, _, hok, hr⟩, _, rfl, fun _ => sX⟩
            · have hI := HI2.out.2 m hs
              have hm0 := sums_errU hs
              have hA := below_alloc W6 (.cells (c3 0 0 0) 51)
              have hc := below_trans hC hA
              have hr := hr.below hc hr.lt
              have hK := keep_t hK (keep_of (g := g) (hc.mono (by have := keep_size hK; omega)))
              clear hA hC HI2 hs
              go_wp2_with fail
              go_quiet (fail)
              go_wp2_with fail
              go_ret2
              exact ⟨keep_t hK (keep_of ⟨rfl, rfl, rfl, Nat.le_refl _, fun _ _ => rfl⟩), ⟨_, _, _, _, _, hok, hr⟩, _, by rw [hI]; rfl, by rw [hI]; intro h; cases h⟩
          · have hI : innG w n = false := by rw [HI.out]; simp [hj]
            have hjn : (((atB w n).toNat : Int) != ((letterOf (jN (atB w (n - 1)) (atB w (n + 1)) : Nat)).toNat : Int)) = true := by
             rw [bne_iff_ne]
             intro e
             exact hj (UInt8.toNat_inj.1 (by omega))
            clear hj
            generalize letterOf (jN (atB w (n - 1)) (atB w (n + 1)) : Nat) = jl at *
            generalize atB w (n - 1) = y0 at *
            generalize atB w n = y1 at *
            generalize atB w (n + 1) = y2 at *
            go_wp2_with fail
            go_quiet ((go_at_call 33; with_reducible exact Calls.quiet_of_same (hJ _)))
            go_wp2_with fail
            go_ret2
            exact ⟨keep_t hK (keep_of ⟨rfl, rfl, rfl, Nat.le_refl _, fun _ _ => rfl⟩), ⟨_, _, _, _, _, hok, hr⟩, _, by rw [hI]; rfl, by rw [hI]; intro h; cases h⟩
      · have q3 : ((⟨f.toArray⟩ : ByteArray) == ⟨X.toArray⟩) = false := by rw [str_eq]; exact decide_eq_false ef
        have q3' : (f == X) = false := by simpa using ef
        have hr0 := hr
        clear ef
        obtain ⟨v, W2, hcv, hv, hB2⟩ := bytes_conv X W1
        obtain ⟨a', b', c', er, hok', hTo⟩ := told_one v X n (by have := HLf.out; have := HLN.out; omega) W2 hv
        go_wp2_with fail
        go_at_call 44
        refine hTo.mono ?_
        rintro e W3 ⟨hB3, rfl⟩
        have hB13 := below_trans hB2 hB3
        have hA := below_alloc W3 (.cells (c3 a' b' c') 51)
        have hB14 := below_trans hB13 hA
        have hr := hr.below hB14 hr.lt
        have hS := hS.next hB14
        have sX := sX.next hB14
        have x0 := (hB14.cell (p := ⟨bk, off + (n - 1), none⟩) hbk).trans x0
        have x1 := (hB14.cell (p := ⟨bk, off + n, none⟩) hbk).trans x1
        have x2 := (hB14.cell (p := ⟨bk, off + (n + 1), none⟩) hbk).trans x2
        have hbk := Nat.lt_of_lt_of_le hbk hB14.size
        have hgs : g ≠ W3.heap.size := by have := hr0.lt; have := hB13.size; omega
        have hK := keep_t hK (keep_of (g := g) (hB14.mono (by have := keep_size hK; omega)))
        have hs6 := Rowed.new W3 51 (c3 a' b' c')
        have hls := hs6.lt
        have ld := fun w' (h : Keep (W3.alloc (.cells (c3 a' b' c') 51)).heap.size g (W3.alloc (.cells (c3 a' b' c') 51)) w') j => (h.cell (p := ⟨W3.heap.size, j, none⟩) hls (Ne.symm hgs)).trans (hs6.cell j)
        clear hB14 hB13 hB3 hB2 hcv hv hTo hA y0 hr0
        go_wp2_with fail
        clear ld
        generalize W3.heap.size = gs at *
        generalize W3.alloc (.cells (c3 a' b' c') 51) = Wa at *
        have c0 := hr.cell 0
        have c1 := hr.cell 1
        have c2 := hr.cell 2
        have c3' := hr.cell 3
        have c4 := hr.cell 4
        have f0 := hr.frozen 0
        have f1 := hr.frozen 1
        have f2 := hr.frozen 2
        have f3 := hr.frozen 3
        have f4 := hr.frozen 4
        have l0 := hs6.cell 0
        have l1 := hs6.cell 1
        have l2 := hs6.cell 2
        simp only [List.getElem?_toArray, List.getElem?_cons_zero, List.getElem?_cons_succ] at c0 c1 c2 c3' c4 l0 l1 l2
        go_region_with (fail)
        all_goals
         have hr7 : Rowed (((((Wa.setCell ⟨g, 0, none⟩ (.string ⟨X.toArray⟩)).setCell ⟨g, 1, none⟩ (.int .i64 a')).setCell ⟨g, 2, none⟩ (.int .i64 b')).setCell ⟨g, 3, none⟩ (.int .i64 c')).setCell ⟨g, 4, none⟩ (.bool (er == 0))).drew g 53 (cSeen X a' b' c' (er == 0)) := ((((hr.set 0 (.string ⟨X.toArray⟩)).set 1 (.int .i64 a')).set 2 (.int .i64 b')).set 3 (.int .i64 c')).set 4 (.bool (er == 0))
         have hK7 : Keep Wa.heap.size g Wa (((((Wa.setCell ⟨g, 0, none⟩ (.string ⟨X.toArray⟩)).setCell ⟨g, 1, none⟩ (.int .i64 a')).setCell ⟨g, 2, none⟩ (.int .i64 b')).setCell ⟨g, 3, none⟩ (.int .i64 c')).setCell ⟨g, 4, none⟩ (.bool (er == 0))).drew := keep_t (keep_t (keep_t (keep_t (keep_t (keep_set _ g 0 _ (.string ⟨X.toArray⟩)) (keep_set _ g 1 _ (.int .i64 a'))) (keep_set _ g 2 _ (.int .i64 b'))) (keep_set _ g 3 _ (.int .i64 c'))) (keep_set _ g 4 _ (.bool (er == 0)))) (keep_of ⟨rfl, rfl, rfl, Nat.le_refl _, fun _ _ => rfl⟩)
         clear c0 c1 c2 c3' c4 f0 f1 f2 f3 f4 l0 l1 l2
         generalize hW7 : (((((Wa.setCell ⟨g, 0, none⟩ (.string ⟨X.toArray⟩)).setCell ⟨g, 1, none⟩ (.int .i64 a')).setCell ⟨g, 2, none⟩ (.int .i64 b')).setCell ⟨g, 3, none⟩ (.int .i64 c')).setCell ⟨g, 4, none⟩ (.bool (er == 0))).drew = W7 at *
         clear hW7
         have hsz7 := keep_size hK7
         have hK := keep_t hK (⟨hK7.1, fun j hj hg => hK7.2 j (by have := keep_size hK; omega) hg⟩ : Keep W.heap.size g _ _)
         have sX : Sl eB W7.heap.size W7 (.slice (some ⟨bk, off, none⟩) n cp) (w.take n) := (sl_keep hK7 sX (fun A m c e => by cases e; exact hbg)).more hsz7
         have x0 := (hK7.cell (p := ⟨bk, off + (n - 1), none⟩) hbk hbg).trans x0
         have x1 := (hK7.cell (p := ⟨bk, off + n, none⟩) hbk hbg).trans x1
         have x2 := (hK7.cell (p := ⟨bk, off + (n + 1), none⟩) hbk hbg).trans x2
         have hS : Sl eB W7.heap.size W7 (.slice (some ⟨bk, off, none⟩) w.length cp) w := (sl_keep hK7 hS (fun A m c e => by cases e; exact hbg)).more hsz7
         have hbk := Nat.lt_of_lt_of_le hbk hsz7
         clear hr hs6 hls hK7 hsz7 hgs hok
         have hok := hok'
         have hr : Rowed W7 g 53 (cSeen X a' b' c' (er == 0)) := hr7
         clear hok' hr7
         generalize a' = a at *
         generalize b' = b at *
         generalize c' = c at *
         generalize (er == 0) = k at *
         cases k with
         | false =>
           have hno : toldG X n = none := by
            unfold SeenOk at hok
            cases ht : toldG X n with
            | none => rfl
            | some r => rw [ht] at hok; cases hok.1
           have hI : innG w n = false := by rw [HI.out, hno]
           have z4 := hr.cell 4
           go_wp2_with fail
           go_quiet (fail)
           go_wp2_with fail
           go_ret2
           exact ⟨keep_t hK (keep_of ⟨rfl, rfl, rfl, Nat.le_refl _, fun _ _ => rfl⟩), ⟨_, _, _, _, _, hok, hr⟩, _, by rw [hI]; rfl, by rw [hI]; intro h; cases h⟩
         | true =>
           obtain ⟨p, q, r, ht, hp, hq, hrr⟩ : ∃ p q r : Nat, toldG X n = some (p, q, r) ∧ a = (p : Int) ∧ b = (q : Int) ∧ c = (r : Int) := by
            unfold SeenOk at hok
            cases ht : toldG X n with
            | none => rw [ht] at hok; cases hok
            | some r => rw [ht] at hok; exact ⟨_, _, _, rfl, hok.2.1, hok.2.2.1, hok.2.2.2⟩
           rw [ht] at HI
           have hJ := fun x => (WRJunction_any (atB w (n - 1)) (atB w (n + 1)) (W7.drewN x)).mono fun e w' h => (show e = .returned (eB (letterOf (jN (atB w (n - 1)) (atB w (n + 1)) : Nat))) ∧ w' = W7.drewN x from ⟨h.1, h.2.symm⟩)
           have z4 := hr.cell 4
           by_cases hj : atB w n = letterOf (jN (atB w (n - 1)) (atB w (n + 1)) : Nat)
           · have hjn : (((atB w n).toNat : Int) != ((letterOf (jN (atB w (n - 1)) (atB w (n + 1)) : Nat)).toNat : Int)) = false := by rw [← hj]; simp
             have HI2 : Hid ((∀ a' b' c', sumsG (w.take n) = .ok (a', b', c') → innG w n = (a' == (p : Int) && (b' == (q : Int) && c' == (r : Int)))) ∧ ∀ m, sumsG (w.take n) = .error m → innG w n = false) := Lib.hid ⟨fun a' b' c' hs => by
                 rw [HI.out, hs]
                 simp only [decide_eq_true hj, Bool.true_and]
                 rfl, fun m hs => by rw [HI.out, hs]; simp⟩
             have hOf := rOf_any (.slice (some ⟨bk, off, none⟩) n cp) (w.take n) (by rw [List.length_take]; omega)
             clear hj HI
             generalize letterOf (jN (atB w (n - 1)) (atB w (n + 1)) : Nat) = jl at *
             generalize atB w (n - 1) = y0 at *
             generalize atB w n = y1 at *
             generalize atB w (n + 1) = y2 at *
             go_wp2_with fail
             go_quiet ((go_at_call 33; with_reducible exact Calls.quiet_of_same (hJ _)))
             clear hJ
             have hK := keep_t hK (keep_of (g := g) (show Below W.heap.size W7 (W7.drewN nq) from ⟨rfl, rfl, rfl, Nat.le_refl _, fun _ _ => rfl⟩))
             have hr : Rowed (W7.drewN nq) g 53 (cSeen X a b c true) := hr
             have sX : Sl eB (W7.drewN nq).heap.size (W7.drewN nq) (.slice (some ⟨bk, off, none⟩) n cp) (w.take n) := sX
             clear x0 x1 x2 hS z4
             generalize W7.drewN nq = W5 at *
             go_wp2_with fail
             go_at_call 45
             refine (hOf _ sX).mono ?_
             clear hOf
             rintro e W6 ⟨hC, ⟨a', b', c', hs, rfl⟩ | ⟨m, hs, rfl⟩⟩
             · have hI := HI2.out.1 a' b' c' hs
               have hA := below_alloc W6 (.cells (c3 a' b' c') 51)
               have hc := below_trans hC hA
               have hr := hr.below hc hr.lt
               have hs6 := Rowed.new W6 51 (c3 a' b' c')
               have sX := sX.next hc
               have hK := keep_t hK (keep_of (g := g) (hc.mono (by have := keep_size hK; omega)))
               have y1 := hr.cell 1
               have y2 := hr.cell 2
               have y3 := hr.cell 3
               have s0 := hs6.cell 0
               have s1 := hs6.cell 1
               have s2 := hs6.cell 2
               have hEq := fun w => eqS a' b' c' a b c w
               rw [hp, hq, hrr] at hEq
               rw [← hI] at hEq
               subst hp hq hrr
               clear hI hA hC HI2 hs
               go_wp2_with fail
               go_quiet (fail)
               go_wp2_with fail
               go_ret2
               exact ⟨keep_t hK (keep_of ⟨rfl, rfl, rfl, Nat.le_refl _, fun _ _ => rfl⟩), ⟨_, _, _, _, _, hok, hr⟩, _, rfl, fun _ => sX⟩
             · have hI := HI2.out.2 m hs
               have hm0 := sums_errU hs
               have hA := below_alloc W6 (.cells (c3 0 0 0) 51)
               have hc := below_trans hC hA
               have hr := hr.below hc hr.lt
               have hK := keep_t hK (keep_of (g := g) (hc.mono (by have := keep_size hK; omega)))
               clear hA hC HI2 hs
               go_wp2_with fail
               go_quiet (fail)
               go_wp2_with fail
               go_ret2
               exact ⟨keep_t hK (keep_of ⟨rfl, rfl, rfl, Nat.le_refl _, fun _ _ => rfl⟩), ⟨_, _, _, _, _, hok, hr⟩, _, by rw [hI]; rfl, by rw [hI]; intro h; cases h⟩
           · have hI : innG w n = false := by rw [HI.out]; simp [hj]
             have hjn : (((atB w n).toNat : Int) != ((letterOf (jN (atB w (n - 1)) (atB w (n + 1)) : Nat)).toNat : Int)) = true := by
              rw [bne_iff_ne]
              intro e
              exact hj (UInt8.toNat_inj.1 (by omega))
             clear hj
             generalize letterOf (jN (atB w (n - 1)) (atB w (n + 1)) : Nat) = jl at *
             generalize atB w (n - 1) = y0 at *
             generalize atB w n = y1 at *
             generalize atB w (n + 1) = y2 at *
             go_wp2_with fail
             go_quiet ((go_at_call 33; with_reducible exact Calls.quiet_of_same (hJ _)))
             go_wp2_with fail
             go_ret2
             exact ⟨keep_t hK (keep_of ⟨rfl, rfl, rfl, Nat.le_refl _, fun _ _ => rfl⟩), ⟨_, _, _, _, _, hok, hr⟩, _, by rw [hI]; rfl, by rw [hI]; intro h; cases h⟩
    · have q1 : ((⟨X.toArray⟩ : ByteArray) == ⟨Y.toArray⟩) = true := by rw [str_eq]; exact decide_eq_true e1
      have q1' : (X == Y) = true := by simpa using e1
      have q2 : ((⟨Y.toArray⟩ : ByteArray) == ⟨Z.toArray⟩) = false := by rw [str_eq]; exact decide_eq_false e2
      have q2' : (Y == Z) = false := by simpa using e2
      have hI : innG w n = false := by rw [HI.out, decide_eq_false e2]; simp
      clear e1 e2 hX hY hZ
      go_wp2_with fail
      go_ret2
      exact ⟨hK, ⟨_, _, _, _, _, hok, hr⟩, _, by rw [hI]; rfl, by rw [hI]; intro h; cases h⟩
  · have q1 : ((⟨X.toArray⟩ : ByteArray) == ⟨Y.toArray⟩) = false := by rw [str_eq]; exact decide_eq_false e1
    have q1' : (X == Y) = false := by simpa using e1
    have hI : innG w n = false := by rw [HI.out, decide_eq_false e1]; rfl
    clear e1 hX hY hZ
    go_wp2_with fail
    go_ret2
    exact ⟨hK, ⟨_, _, _, _, _, hok, hr⟩, _, by rw [hI]; rfl, by rw [hI]; intro h; cases h⟩
end Go.Proofs.YtkibigbcdlilkaaGreatDoor
