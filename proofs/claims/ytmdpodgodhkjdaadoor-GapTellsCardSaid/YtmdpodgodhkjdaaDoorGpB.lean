/- Contracts of gap.missing, Missing. -/
import Derived.Test.YtmdpodgodhkjdaaDoorCdA
import Derived.Test.YtmdpodgodhkjdaaDoorMG
import Derived.Test.YtmdpodgodhkjdaaDoorGpC
namespace Go.Proofs.YtmdpodgodhkjdaaDoor
open Go.RowKit Go.Shelf
attribute [local go_sem] Oper.semAt_some run_store_func

/-- Whether a word may be one of which a letter was left out: the error. -/
def fitsG (y : List UInt8) : Option Int := if y.length < 1 ∨ 999 < y.length then some 2 else if (-1 : Int) ∈ codesOf y then some 10 else none
/-- The missing letter. -/
def missL (y : List UInt8) (s : Int) : UInt8 := letterOf (s - csum y)
theorem missL_tmod (y : List UInt8) (s : Int) : letterOf (s.tmod 4 - csum y) = missL y s := by
  unfold missL letterOf
  congr 2
  rw [Int.tmod_eq_emod]
  split
  · omega
  · simp
    omega
theorem csum_codes (l : List Int) (k : Nat) (h : k < l.length) : (l.take (k + 1)).sum = (l.take k).sum + l[k] := by
  rw [List.take_succ_eq_append_getElem h, List.sum_append]
  simp
theorem codes_bound {y : List UInt8} (h : (-1 : Int) ∉ codesOf y) {x : Int} (hx : x ∈ codesOf y) : 0 ≤ x ∧ x ≤ 3 := by
  obtain ⟨b, hb, rfl⟩ := List.mem_map.1 hx
  have := codeOf_range b.toNat
  have : codeOf b.toNat ≠ -1 := fun e => h (by rw [← e]; exact List.mem_map.2 ⟨b, hb, rfl⟩)
  omega
theorem take_sum_bound {y : List UInt8} (h : (-1 : Int) ∉ codesOf y) (k : Nat) (hk : k ≤ (codesOf y).length) : 0 ≤ ((codesOf y).take k).sum ∧ ((codesOf y).take k).sum ≤ 3 * k := by
  induction k with
  | zero => simp
  | succ k ih =>
    rw [csum_codes _ k (by omega)]
    have h1 := ih (by omega)
    have h2 := codes_bound h (x := (codesOf y)[k]) (List.getElem_mem _)
    omega
set_option maxRecDepth 100000 in
set_option maxHeartbeats 2000000 in
theorem missing_any (y : List UInt8) (s : Int) (sv : Value) (w : World) (hT : Tab w) (hS : Sl eB w.heap.size w sv y) (hreach : y.length ≤ 1000000) :
    Calls Tryd.prog 35 #[sv, .int .i64 s] w fun e w' => Below w.heap.size w w' ∧ ((fitsG y = none ∧ e = .returned (eB (missL y s))) ∨ ∃ m, fitsG y = some m ∧ e = .panicked (errno m)) := by
  obtain ⟨A, cap, rfl⟩ := hS.len
  by_cases h1 : y.length < 1
  · have hg : fitsG y = some 2 := by rw [fitsG, if_pos (by omega)]
    have d1 : decide ((y.length : Int) < 1) = true := decide_eq_true (by omega)
    have Hg := Lib.hid hg
    clear hg h1
    go_enter Tryd.func35, Tryd.ntmps35
    go_wp2_with fail
    exact ⟨rfl, Below.refl _ _, .inr ⟨2, Hg.out, rfl⟩⟩
  by_cases h9 : 999 < y.length
  · have hg : fitsG y = some 2 := by rw [fitsG, if_pos (by omega)]
    have d1 : decide ((y.length : Int) < 1) = false := decide_eq_false (by omega)
    have d2 : decide ((999 : Int) < (y.length : Int)) = true := decide_eq_true (by omega)
    have Hg := Lib.hid hg
    clear hg h1 h9
    go_enter Tryd.func35, Tryd.ntmps35
    go_wp2_with fail
    exact ⟨rfl, Below.refl _ _, .inr ⟨2, Hg.out, rfl⟩⟩
  have d1 : decide ((y.length : Int) < 1) = false := decide_eq_false (by omega)
  have d2 : decide ((999 : Int) < (y.length : Int)) = false := decide_eq_false (by omega)
  have hC := Codes_any (.slice A y.length cap) y (by omega) w hS hT
  have hLt := fun n w hT => Letter_any n w hT
  by_cases hbad : (-1 : Int) ∈ codesOf y
  · have hg : fitsG y = some 10 := by rw [fitsG, if_neg (by omega), if_pos hbad]
    have Hg := Lib.hid hg
    clear hg
    go_enter Tryd.func35, Tryd.ntmps35
    go_wp2_with fail
    go_at_call 55
    refine hC.mono ?_
    rintro e w1 ⟨v, hB, ⟨rfl, hno, hv⟩ | ⟨rfl, hin⟩⟩
    · exact absurd hbad hno
    · clear hC
      go_wp2_with fail
      exact ⟨rfl, hB, .inr ⟨10, Hg.out, rfl⟩⟩
  · have hg : fitsG y = none := by rw [fitsG, if_neg (by omega), if_neg hbad]
    have Hg := Lib.hid hg
    have hcl : (codesOf y).length = y.length := by simp [codesOf]
    have Hy := Lib.hid (show y.length ≤ 999 by omega)
    have hsum : (codesOf y).sum = csum y := by simp [codesOf, csum]
    have HS := Lib.hid hsum
    have Hcl := Lib.hid hcl
    have hb4 : -3 ≤ s.tmod 4 ∧ s.tmod 4 ≤ 3 := by
      have h3 := Int.tmod_lt_of_pos s (b := 4) (by omega)
      have h4 : -4 < s.tmod 4 := by
        rw [Int.tmod_eq_emod]
        split <;> simp <;> omega
      omega
    have hml := missL_tmod y s
    clear hg h1 h9 hcl hsum
    go_enter Tryd.func35, Tryd.ntmps35
    go_wp2_with fail
    go_at_call 55
    refine hC.mono ?_
    rintro e w1 ⟨v, hB, ⟨rfl, hno, hv⟩ | ⟨rfl, hin⟩⟩
    · obtain ⟨Av, cv, rfl⟩ := hv.len
      have hT := hT.below hB
      rw [Hcl.out] at hv ⊢
      clear hC
      go_wp2_with fail
      go_loop [1, 31] (fun v i => ∃ k : Nat, k ≤ y.length ∧ i = .int .i64 k ∧ v = .int .i64 (s.tmod 4 - ((codesOf y).take k).sum)) (fun _ i => y.length - (intOf i).toNat)
      case atStart => exact ⟨0, Nat.zero_le _, rfl, by simp⟩
      case round =>
        obtain ⟨k, hk, rfl, rfl⟩ := hrel
        by_cases hlt : k < y.length
        · obtain ⟨A', c', he, _, hcs⟩ := id hv
          injection he with e1 e2 e3
          subst e1 e3
          have hcl := Hcl.out
          obtain ⟨bk, off, rfl, hbk, hcell⟩ := hcs (by omega)
          have hx := hcell k (codesOf y)[k] (by simp [hcl, hlt])
          have hb1 := codes_bound hno (x := (codesOf y)[k]) (List.getElem_mem _)
          have hb2 := take_sum_bound hno k (by omega)
          have Hs := Lib.hid (csum_codes (codesOf y) k (by omega))
          have hkl : (k : Int) < y.length := by omega
          have Hk := Lib.hid hlt
          have h999 := Hy.out
          generalize (codesOf y)[k] = x at *
          generalize ((codesOf y).take k).sum = S at *
          have e1 : wrap64 (s.tmod 4 - S - x) = s.tmod 4 - S - x := IntWalk.wrap64_in _ (by omega)
          have e1' : IntKind.i64.wrap (s.tmod 4 - S - x) = s.tmod 4 - S - x := IntWalk.i64_in _ (by omega)
          clear hcell hcs hno hlt hcl
          go_wp2_with fail
          refine ⟨⟨k + 1, Hk.out, by go_num, ?_⟩, ?_⟩
          · rw [Hs.out]
            congr 1
            omega
          · have := Hk.out
            simp [intOf]
            omega
        · obtain rfl : k = y.length := by omega
          have e : s.tmod 4 - ((codesOf y).take y.length).sum = s.tmod 4 - csum y := by rw [← Hcl.out, List.take_length, HS.out]
          rw [e]
          clear e hlt hk hno
          have hL := hLt (s.tmod 4 - csum y) w1 hT
          rw [hml] at hL
          go_wp2_with (go_at_call 56; refine hL.mono ?_; rintro e w' ⟨rfl, rfl⟩)
          go_ret
          exact ⟨hB, .inl ⟨Hg.out, rfl⟩⟩
    · exact absurd hin hbad
/-- What Missing does. -/
abbrev MissTells (y : List UInt8) (s : Int) (w : World) : Ending → World → Prop := fun e w' => Below w.heap.size w w' ∧ ((fitsG y = none ∧ e = .returned (.tuple #[eB (missL y s), .int .i64 0])) ∨ ∃ m, fitsG y = some m ∧ e = .returned (.tuple #[eB 0, .int .i64 m]))
set_option maxRecDepth 100000 in
set_option maxHeartbeats 2000000 in
theorem Missing1_is (b1 b2 b3 : Nat) (A : Option Addr) (cap : Nat) (y : List UInt8) (s : Int) (hreach : y.length ≤ 1000000) (W : World) (hT : Tab W) (hS : Sl eB W.heap.size W (.slice A y.length cap) y) (h1 : W.cell? ⟨b1, 0, none⟩ = some (.slice A y.length cap)) (h2 : W.cell? ⟨b2, 0, none⟩ = some (.int .i64 s)) (h3 : Boxed W b3 5 (.int .u8 0)) :
    gWork 34 #[.pointer (some ⟨b1, 0, none⟩), .pointer (some ⟨b2, 0, none⟩), .pointer (some ⟨b3, 0, none⟩)] b3 b3 W
      (fun w' => fitsG y = none ∧ Boxed w' b3 5 (eB (missL y s))) (fun n w' => fitsG y = some n ∧ Boxed w' b3 5 (.int .u8 0)) := by
  have hM := missing_any y s (.slice A y.length cap) W hT hS hreach
  have hl3 := h3.lt
  unfold gWork
  clear hS hT
  go_enter Tryd.func34, Tryd.ntmps34
  go_wp2_with fail
  go_at_call 35
  refine hM.mono ?_
  rintro e w1 ⟨hB, ⟨hg, rfl⟩ | ⟨m, hg, rfl⟩⟩
  · have h5 : Boxed w1 b3 5 (.int .u8 0) := (hB.block _ hl3).trans h3
    have hc5 := h5.cell
    have hf5 := h5.frozen
    have h6 := h5.set (eB (missL y s))
    go_wp2_with fail
    go_end0
    exact ⟨kp2_t (kp2_of hB) (kp2_set1 _ _ _ _ _ _), .inl ⟨⟨_, rfl⟩, hg, h6⟩⟩
  · exact ⟨rfl, kp2_of hB, .inr ⟨m, rfl, hg, (hB.block _ hl3).trans h3⟩⟩
set_option maxRecDepth 100000 in
set_option maxHeartbeats 2000000 in
theorem Missing_any (y : List UInt8) (s : Int) (sv : Value) (w : World) (hT : Tab w) (hS : Sl eB w.heap.size w sv y) (hreach : y.length ≤ 1000000) :
    Calls Tryd.prog 14 #[sv, .int .i64 s] w (MissTells y s w) := by
  have hmf : ∀ (fn : Fn) (first cap : Array Value) (w : World), (Instr.makeFunc fn first cap).run Tryd.prog w = .ok (.func fn first cap) w := fun _ _ _ _ => rfl
  obtain ⟨A, cap, rfl⟩ := hS.len
  have hb1 := ((Boxed.new w 22 (.slice A y.length cap)).alloc (.cells #[.int .i64 s] 3)).alloc (.cells #[.int .u8 0] 5)
  have hb2 := (Boxed.new (w.alloc (.cells #[.slice A y.length cap] 22)) 3 (.int .i64 s)).alloc (.cells #[.int .u8 0] 5)
  have hb3 := Boxed.new ((w.alloc (.cells #[.slice A y.length cap] 22)).alloc (.cells #[.int .i64 s] 3)) 5 (.int .u8 0)
  obtain ⟨W0, hW0⟩ : ∃ W0, ((w.alloc (.cells #[.slice A y.length cap] 22)).alloc (.cells #[.int .i64 s] 3)).alloc (.cells #[.int .u8 0] 5) = W0 := ⟨_, rfl⟩
  have hA : Below w.heap.size w W0 := by rw [← hW0]; exact (((Below.refl _ w).alloc (Nat.le_refl _) _).alloc (by simp) _).alloc (by simp; omega) _
  have hs0 : W0.heap.size = w.heap.size + 3 := by rw [← hW0]; simp
  rw [World.size_alloc] at hb2
  rw [World.size_alloc, World.size_alloc] at hb3
  rw [hW0] at hb1 hb2 hb3
  have hA1 := hA.alloc (by omega) (.cells #[.int .i64 0] 24)
  have hwork := Missing1_is w.heap.size (w.heap.size + 1) (w.heap.size + 1 + 1) A cap y s hreach (W0.alloc (.cells #[.int .i64 0] 24)) (hT.below hA1) (hS.next hA1) (hb1.alloc _).cell (hb2.alloc _).cell (hb3.alloc _)
  have hct := gcaught_any 34 _ (w.heap.size + 1 + 1) (w.heap.size + 1 + 1) W0 (by omega) (by omega) (enters_of Tryd.func34 (by kernel_rfl) rfl) _ _ hwork
  have HW0 := Lib.hid hW0
  clear hwork hb1 hb2 hb3 hW0 hA1 hS hT
  go_enter Tryd.func14, Tryd.ntmps14
  go_wp2_with fail
  rw [HW0.out]
  go_at_call 33
  refine hct.mono ?_
  rintro e w' ⟨w1, m, hK, rfl, rfl, hlt, hR⟩
  have hBf : Below w.heap.size w (w1.setCell ⟨W0.heap.size, 0, none⟩ (.int .i64 m)) := (below_of_kp2 hK hA (by omega) (by omega) (by omega)).setCell (p := ⟨W0.heap.size, 0, none⟩) (by show w.heap.size ≤ W0.heap.size; omega) _
  clear hct
  rcases hR with ⟨rfl, hg, hv⟩ | ⟨hg, hv⟩
  all_goals
    have hvw := fun x => Boxed.set_other (b' := W0.heap.size) (y := x) hv (by omega)
  · have hc := (hvw (.int .i64 0)).cell
    clear hvw hv
    generalize w1.setCell ⟨W0.heap.size, 0, none⟩ (.int .i64 0) = w2 at *
    go_wp2_with fail
    go_ret2
    exact ⟨hBf, .inl ⟨hg, rfl⟩⟩
  · have hc := (hvw (.int .i64 m)).cell
    clear hvw hv
    generalize w1.setCell ⟨W0.heap.size, 0, none⟩ (.int .i64 m) = w2 at *
    go_wp2_with fail
    go_ret2
    exact ⟨hBf, .inr ⟨m, hg, rfl⟩⟩
end Go.Proofs.YtmdpodgodhkjdaaDoor
