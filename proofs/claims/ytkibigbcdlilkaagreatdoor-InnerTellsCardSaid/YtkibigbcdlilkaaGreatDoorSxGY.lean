import Derived.Test.YtkibigbcdlilkaaGreatDoorRoAY
import Derived.Test.YtkibigbcdlilkaaGreatDoorSxEY
namespace Go.Proofs.YtkibigbcdlilkaaGreatDoor
open Go.RowKit Go.Shelf
attribute [local go_sem] Oper.semAt_some run_store_func
abbrev UnRef (x : List UInt8) (n : Int) (w : World) : Ending → World → Prop := fun e w' => Below w.heap.size w w' ∧
      ((∃ a b c : Nat, unG x n = some (a, b, c) ∧ e = .returned (.tuple #[v3 a b c, .int .i64 0])) ∨ (unG x n = none ∧ e = .returned (.tuple #[v3 0 0 0, .int .i64 2])))
set_option maxRecDepth 100000 in
set_option maxHeartbeats 2000000 in
theorem rUnpack_may (A : Option Addr) (c : Nat) (x : List UInt8) (n : Int) (hm : mayB n = false) (w : World) :
    Calls Tryz.prog 73 #[.slice A x.length c, .int .i64 n] w (UnRef x n w) := by
  obtain ⟨hz, hsz⟩ := zero_of_info infoS
  have hc0 : (v3 0 0 0).cells = #[.int .i64 0, .int .i64 0, .int .i64 0] := rfl
  have hbd0 : ∀ w, (Instr.build 51 #[]).run Tryz.prog w = .ok (v3 0 0 0) w := fun _ => by kernel_rfl
  have hmy := refmay_any n
  rw [hm] at hmy
  have Hg : Hid (unG x n = none) := Lib.hid (by rw [unG, if_neg (fun h => by rw [hm] at h; exact absurd h.1 (by simp))])
  have hr0 := Rowed.new w 51 (c3 0 0 0)
  have hA0 := below_alloc w (.cells (c3 0 0 0) 51)
  clear hm
  go_enter Tryz.func73, Tryz.ntmps73
  go_upto_region 1 with fail
  generalize w.alloc (.cells (c3 0 0 0) 51) = w1 at *
  have k0 := hr0.cell 0
  have k1 := hr0.cell 1
  have k2 := hr0.cell 2
  have f0 := hr0.frozen 0
  have f1 := hr0.frozen 1
  have f2 := hr0.frozen 2
  simp at k0 k1 k2
  go_wp2_with (go_at_call 70; refine (hmy _).mono ?_; rintro e w' ⟨rfl, rfl⟩)
  refine bodyPost_ret (v := .tuple #[v3 0 0 0, .int .i64 2]) ?_ rfl ⟨below3 hA0 _ (Nat.le_refl _) _ _ _, .inr ⟨Hg.out, rfl⟩⟩
  exact results_cell_slot (p := 4) (q := 5) rfl _ _ w.heap.size _ _ _ _ rfl (row3 hr0 0 0 0) Tryz.underlying51 rfl (size_c3 0 0 0)
set_option maxRecDepth 100000 in
set_option maxHeartbeats 4000000 in
theorem rUnpack_len (A : Option Addr) (c : Nat) (x : List UInt8) (n : Nat) (h2 : 2 ≤ n) (h1 : n ≤ 1000) (hl : x.length ≠ longN n) (w : World) :
    Calls Tryz.prog 73 #[.slice A x.length c, .int .i64 n] w (UnRef x n w) := by
  obtain ⟨hz, hsz⟩ := zero_of_info infoS
  have hc0 : (v3 0 0 0).cells = #[.int .i64 0, .int .i64 0, .int .i64 0] := rfl
  have hbd0 : ∀ w, (Instr.build 51 #[]).run Tryz.prog w = .ok (v3 0 0 0) w := fun _ => by kernel_rfl
  have hm : mayB n = true := by unfold mayB; rw [decide_eq_true (by omega), decide_eq_true (by omega)]; rfl
  have hmy := refmay_any n
  rw [hm] at hmy
  have hL := rLong_yes n h2 h1
  have Hg : Hid (unG x n = none) := Lib.hid (by rw [unG, if_neg (fun h => hl (by simpa using h.2.1))])
  have hne : ((x.length : Int) != (longN n : Int)) = true := by rw [bne_iff_ne]; omega
  have hr0 := Rowed.new w 51 (c3 0 0 0)
  have hA0 := below_alloc w (.cells (c3 0 0 0) 51)
  clear hm hl
  generalize longN n = L at *
  go_enter Tryz.func73, Tryz.ntmps73
  go_upto_region 1 with fail
  generalize w.alloc (.cells (c3 0 0 0) 51) = w1 at *
  have k0 := hr0.cell 0
  have k1 := hr0.cell 1
  have k2 := hr0.cell 2
  have f0 := hr0.frozen 0
  have f1 := hr0.frozen 1
  have f2 := hr0.frozen 2
  simp at k0 k1 k2
  go_wp2_with (first
   | (go_at_call 70; refine (hmy _).mono ?_; rintro e w' ⟨rfl, rfl⟩)
   | (go_at_call 43; refine (hL _).mono ?_; rintro e w' ⟨rfl, rfl⟩))
  refine bodyPost_ret (v := .tuple #[v3 0 0 0, .int .i64 2]) ?_ rfl ⟨below3 hA0 _ (Nat.le_refl _) _ _ _, .inr ⟨Hg.out, rfl⟩⟩
  exact results_cell_slot (p := 4) (q := 5) rfl _ _ w.heap.size _ _ _ _ rfl (row3 hr0 0 0 0) Tryz.underlying51 rfl (size_c3 0 0 0)
end Go.Proofs.YtkibigbcdlilkaaGreatDoor
namespace Go.Proofs.YtkibigbcdlilkaaGreatDoor
open Go.RowKit Go.Shelf
attribute [local go_sem] Oper.semAt_some run_store_func
theorem wrapP (P : Nat) (h : P ≤ 8192) : wrap64 (P : Int) = (P : Int) := IntWalk.wrap64_in _ (by omega)
theorem wrapQ (P : Nat) (h1 : 1 ≤ P) (h : P ≤ 8192) : wrap64 ((P : Int) - 1) = ((P - 1 : Nat) : Int) := by
 rw [IntWalk.wrap64_in _ (by omega)]
 omega
theorem andP (V u : Nat) (hV : V < 1099511627776) (hu : u ≤ 13) : bits .and .i64 (V : Int) ((2 ^ u - 1 : Nat) : Int) = ((V % 2 ^ u : Nat) : Int) := by
 have p2 : 2 ^ u ≤ 8192 := (Nat.pow_le_pow_right (by omega) hu : 2 ^ u ≤ 2 ^ 13)
 have hm : V % 2 ^ u < 2 ^ u := Nat.mod_lt _ (Nat.two_pow_pos u)
 have h1 : (BitVec.ofInt IntKind.i64.bits (V : Int) &&& BitVec.ofInt IntKind.i64.bits ((2 ^ u - 1 : Nat) : Int)).toNat = V % 2 ^ u := by
  rw [BitVec.toNat_and, BitVec.toNat_ofInt, BitVec.toNat_ofInt]
  have e1 : ((V : Int) % ((2 ^ IntKind.i64.bits : Nat) : Int)).toNat = V := by
   show ((V : Int) % ((2 ^ 64 : Nat) : Int)).toNat = _
   omega
  have e2 : (((2 ^ u - 1 : Nat) : Int) % ((2 ^ IntKind.i64.bits : Nat) : Int)).toNat = 2 ^ u - 1 := by
   show (((2 ^ u - 1 : Nat) : Int) % ((2 ^ 64 : Nat) : Int)).toNat = _
   omega
  rw [e1, e2, Nat.and_two_pow_sub_one_eq_mod]
 unfold bits
 simp only [h1]
 rw [IntWalk.i64_in _ (by omega)]
set_option maxRecDepth 100000 in
set_option maxHeartbeats 4000000 in
theorem rUnpack_main (bk off c : Nat) (x : List UInt8) (n : Nat) (h2 : 2 ≤ n) (h1 : n ≤ 1000) (hl : x.length = longN n) (w : World) (_hcap : x.length ≤ c) (hbk : bk < w.heap.size) (hcell : ∀ j b, x[j]? = some b → w.cell? ⟨bk, off + j, none⟩ = some (eB b)) :
    Calls Tryz.prog 73 #[.slice (some ⟨bk, off, none⟩) x.length c, .int .i64 n] w (UnRef x n w) := by
  obtain ⟨hz, hsz⟩ := zero_of_info infoS
  have hc0 : (v3 0 0 0).cells = #[.int .i64 0, .int .i64 0, .int .i64 0] := rfl
  have hbd0 : ∀ w, (Instr.build 51 #[]).run Tryz.prog w = .ok (v3 0 0 0) w := fun _ => by kernel_rfl
  have hbd3 : ∀ (a b c : Int) w, (Instr.build 51 #[(0, .int .i64 a), (1, .int .i64 b), (2, .int .i64 c)]).run Tryz.prog w = .ok (v3 a b c) w := fun _ _ _ _ => by kernel_rfl
  have hm : mayB n = true := by unfold mayB; rw [decide_eq_true (by omega), decide_eq_true (by omega)]; rfl
  have hmy := refmay_any n
  rw [hm] at hmy
  have hL := rLong_yes n h2 h1
  have hLn : longN n ≤ 26 := by have := tb_le n h1; have := wb_le n h1; unfold longN zb; omega
  have hne : ((x.length : Int) != (longN n : Int)) = false := by rw [hl]; simp
  have hW := rwide_any (6 * n) (by omega) (by omega)
  have hwb : Lib.bitLen (6 * n) = wb n := rfl
  rw [hwb, show ((6 * n : Nat) : Int) = 6 * (n : Int) by omega] at hW
  have hu13 := wb_le n h1
  have Href : Hid ((∀ k, k < x.length → (atB x k).toNat ≤ 1) → unG x n = if rightB (numB x x.length / 2 ^ (wb n + 2) : Nat) (numB x x.length / 2 ^ wb n % 4 : Nat) (numB x x.length % 2 ^ wb n : Nat) n = true then
      some (numB x x.length / 2 ^ (wb n + 2), numB x x.length / 2 ^ wb n % 4, numB x x.length % 2 ^ wb n) else none) := Lib.hid (fun h => by rw [hl]; exact unG_ref x n h2 h1 hl h)
  have Hbad : Hid (∀ k, k < x.length → ¬ (atB x k).toNat ≤ 1 → unG x n = none) := Lib.hid (fun k hk hb => by rw [unG, if_neg (fun h => hb (h.2.2.1 k hk))])
  have hr0 := Rowed.new w 51 (c3 0 0 0)
  have hA0 := below_alloc w (.cells (c3 0 0 0) 51)
  have hlt0 := hr0.lt
  have hx26 : x.length ≤ 26 := by omega
  have q8 : IntKind.i64.wrap (6 * (n : Int)) = 6 * n := IntWalk.i64_in _ (by omega)
  clear hm hwb hl
  generalize wb n = u at *
  generalize longN n = L at *
  go_enter Tryz.func73, Tryz.ntmps73
  go_upto_region 1 with fail
  have hcell1 : ∀ j b, x[j]? = some b → (w.alloc (.cells (c3 0 0 0) 51)).cell? ⟨bk, off + j, none⟩ = some (eB b) := fun j b h => (hA0.cell (p := ⟨bk, off + j, none⟩) hbk).trans (hcell j b h)
  generalize w.alloc (.cells (c3 0 0 0) 51) = w1 at *
  have k0 := hr0.cell 0
  have k1 := hr0.cell 1
  have k2 := hr0.cell 2
  have f0 := hr0.frozen 0
  have f1 := hr0.frozen 1
  have f2 := hr0.frozen 2
  simp at k0 k1 k2
  go_wp2_with (first
   | (go_at_call 70; refine (hmy _).mono ?_; rintro e w' ⟨rfl, rfl⟩)
   | (go_at_call 43; refine (hL _).mono ?_; rintro e w' ⟨rfl, rfl⟩))
  go_loop [6, 7] (fun v i => ∃ k : Nat, k ≤ x.length ∧ i = .int .i64 k ∧ v = .int .i64 (numB x k) ∧ ∀ j, j < k → (atB x j).toNat ≤ 1) (fun _ i => x.length - (intOf i).toNat)
  case atStart => exact ⟨0, Nat.zero_le _, rfl, rfl, fun j hj => absurd hj (by omega)⟩
  case round =>
   obtain ⟨k, hk, rfl, rfl, hok⟩ := hrel
   by_cases hlt : k < x.length
   · have hc1 := hcell1 k _ (atB_lt hlt)
     have hkl : (k : Int) < x.length := by omega
     by_cases hb : (atB x k).toNat ≤ 1
     · have Hok : Hid (∀ j, j < k + 1 → (atB x j).toNat ≤ 1) := Lib.hid (fun j hj => by
         by_cases e : j = k
         · rw [e]; exact hb
         · exact hok j (by omega))
       have hnb : numB x (k + 1) = numB x k * 2 + (atB x k).toNat := rfl
       have hnl : numB x k < 2 ^ 26 := Nat.lt_of_lt_of_le (numB_lt x k hok) (Nat.pow_le_pow_right (by omega) (by omega))
       have Hnb := Lib.hid hnb
       have Hlt := Lib.hid hlt
       have ho := or1 (numB x k) (atB x k) (by omega) hb
       clear hnb hok hlt hcell hcell1
       generalize numB x k = m at *
       generalize atB x k = b at *
       have hnl : m < 67108864 := hnl
       have d1 : decide (1 < b.toNat) = false := decide_eq_false (by omega)
       go_wp2_with fail
       refine ⟨⟨k + 1, Hlt.out, by go_num, by rw [Hnb.out]; go_num, Hok.out⟩, ?_⟩
       have := Hlt.out
       simp [intOf]
       omega
     · have Hg := Lib.hid (Hbad.out k hlt hb)
       have d1 : 1 < (atB x k).toNat := by omega
       clear hb hok hcell hcell1 hlt
       generalize numB x k = m at *
       generalize atB x k = b at *
       go_wp2_with fail
       refine bodyPost_ret (v := .tuple #[v3 0 0 0, .int .i64 2]) ?_ rfl ⟨below3 hA0 _ (Nat.le_refl _) _ _ _, .inr ⟨Hg.out, rfl⟩⟩
       exact results_cell_slot (p := 4) (q := 5) rfl _ _ w.heap.size _ _ _ _ rfl (row3 hr0 0 0 0) Tryz.underlying51 rfl (size_c3 0 0 0)
   · obtain rfl : k = x.length := by omega
     have hV : numB x x.length < 2 ^ 26 := Nat.lt_of_lt_of_le (numB_lt x _ hok) (Nat.pow_le_pow_right (by omega) (by omega))
     have Href := Lib.hid (Href.out hok)
     clear hok hcell hcell1 hk hlt
     generalize numB x x.length = V at *
     have hV : V < 67108864 := hV
     go_wp2_with (go_at_call 71; refine (hW _).mono ?_; rintro e w' ⟨rfl, rfl⟩)
     have p1 : (2 : Int) ^ u = ((2 ^ u : Nat) : Int) := by simp
     have p2 : 2 ^ u ≤ 8192 := (Nat.pow_le_pow_right (by omega) hu13 : 2 ^ u ≤ 2 ^ 13)
     have p3 : 1 ≤ 2 ^ u := Nat.two_pow_pos u
     have g1 : wrap64 ((2 : Int) ^ u) = (2 : Int) ^ u := by rw [p1]; exact wrapP _ p2
     have g2 : wrap64 ((2 : Int) ^ u - 1) = ((2 ^ u - 1 : Nat) : Int) := by rw [p1]; exact wrapQ _ p3 p2
     have g3 : bits .and .i64 (V : Int) ((2 ^ u - 1 : Nat) : Int) = ((V % 2 ^ u : Nat) : Int) := andP V u (by omega) hu13
     have g4 : bits .and .i64 ((V : Int) / 2 ^ u) 3 = ((V / 2 ^ u % 4 : Nat) : Int) := by rw [bits_and3]; simp
     have g5 : (V : Int) / 2 ^ (u + 2) = ((V / 2 ^ (u + 2) : Nat) : Int) := by simp
     rw [g1, g2, g3, g4, g5]
     clear g1 g2 g3 g4 g5 p1 p2 p3
     have Href := Href
     generalize V / 2 ^ (u + 2) = a at *
     generalize V / 2 ^ u % 4 = b at *
     generalize V % 2 ^ u = d at *
     have hR := fun w => refRight_any a b d n w
     have hr9 := Rowed.new w1 51 (c3 a b d)
     have hr1 := hr0.alloc (.cells (c3 a b d) 51)
     have hA9 := hA0.alloc hA0.size (.cells (c3 a b d) 51)
     have hl9 := hr9.lt
     have hl1 := hr1.lt
     refine (hR _).mono ?_
     rintro e w2 ⟨rfl, hB⟩
     have hr9 := hr9.below hB hl9
     have hrz := hr1.below hB hl1
     have hBz := below_trans hA9 hB
     clear hR hr0 hA0 hr1 hA9 hl9 hl1 hB k0 k1 k2 f0 f1 f2
     have k0 := hrz.cell 0
     have k1 := hrz.cell 1
     have k2 := hrz.cell 2
     have f0 := hrz.frozen 0
     have f1 := hrz.frozen 1
     have f2 := hrz.frozen 2
     have m0 := hr9.cell 0
     have m1 := hr9.cell 1
     have m2 := hr9.cell 2
     simp at k0 k1 k2 m0 m1 m2
     cases hq : rightB a b d n with
     | false =>
       have Hg : Hid (unG x n = none) := Lib.hid (by rw [Href.out, hq]; rfl)
       clear hq
       go_wp2_with fail
       refine bodyPost_ret (v := .tuple #[v3 0 0 0, .int .i64 2]) ?_ rfl ⟨below3 hBz w.heap.size (Nat.le_refl _) _ _ _, .inr ⟨Hg.out, rfl⟩⟩
       exact results_cell_slot (p := 4) (q := 5) rfl _ _ w.heap.size _ _ _ _ rfl (row3 hrz _ _ _) Tryz.underlying51 rfl (size_c3 _ _ _)
     | true =>
       have Hg : Hid (unG x n = some (a, b, d)) := Lib.hid (by rw [Href.out, hq]; rfl)
       clear hq
       go_wp2_with fail
       refine bodyPost_ret (v := .tuple #[v3 a b d, .int .i64 0]) ?_ rfl ⟨below3 hBz w.heap.size (Nat.le_refl _) _ _ _, .inl ⟨_, _, _, Hg.out, rfl⟩⟩
       exact results_cell_slot (p := 4) (q := 5) rfl _ _ w.heap.size _ _ _ _ rfl (row3 hrz _ _ _) Tryz.underlying51 rfl (size_c3 _ _ _)
theorem rUnpack_any (sv : Value) (x : List UInt8) (n : Int) (w : World) (hS : Sl eB w.heap.size w sv x) : Calls Tryz.prog 73 #[sv, .int .i64 n] w (UnRef x n w) := by
 obtain ⟨A, c, rfl, hc, hcs⟩ := hS
 cases hm : mayB n with
 | false => exact rUnpack_may A c x n hm w
 | true =>
   obtain ⟨m, rfl, h2, h1⟩ : ∃ m : Nat, n = m ∧ 2 ≤ m ∧ m ≤ 1000 := by
    unfold mayB at hm
    rw [Bool.and_eq_true] at hm
    have h1 := of_decide_eq_true hm.1
    have h2 := of_decide_eq_true hm.2
    exact ⟨n.toNat, by omega, by omega, by omega⟩
   by_cases hl : x.length = longN m
   · obtain ⟨bk, off, rfl, hbk, hcell⟩ := hcs (by rw [hl]; unfold longN; omega)
     exact rUnpack_main bk off c x m h2 h1 hl w hc hbk hcell
   · exact rUnpack_len A c x m h2 h1 hl w
end Go.Proofs.YtkibigbcdlilkaaGreatDoor
