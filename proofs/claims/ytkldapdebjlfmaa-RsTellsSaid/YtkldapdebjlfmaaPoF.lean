/- Contracts of poly.Eval, Scale, Roots. -/
import Derived.Test.YtkldapdebjlfmaaPoE
import Derived.Deep.RegionHeld3
namespace Go.Proofs.Ytkldapdebjlfmaa
open Go.RowKit Go.Shelf
attribute [local go_sem] Oper.semAt_some run_store_func

theorem keep1 {w0 w w' : World} {b o : Nat} {x : Value} (hl : b < w0.heap.size) (h : w.cell? ⟨b, o, none⟩ = some x ∧ Below w0.heap.size w0 w) (hb : Below w.heap.size w w') :
    w'.cell? ⟨b, o, none⟩ = some x ∧ Below w0.heap.size w0 w' := by
  have hs := h.2.size
  exact ⟨(hb.cell (p := ⟨b, o, none⟩) (by show b < _; omega)).trans h.1, h.2.trans (hb.mono hs)⟩
theorem below_drew (w : World) : Below w.heap.size w w.drew := ⟨rfl, rfl, rfl, Nat.le_refl _, fun _ _ => rfl⟩
theorem ev_drop (p : List UInt8) (x : UInt8) (k : Nat) (h : k < p.length) : ev (p.drop k) x = ma (ev (p.drop (k + 1)) x) x ^^^ p[k] := by
  rw [List.drop_eq_getElem_cons h]; rfl

set_option maxRecDepth 100000 in
set_option maxHeartbeats 1000000 in
theorem Eval_any (pv : Value) (p : List UInt8) (x : UInt8) (hreach : p.length ≤ 100000) (w : World) (hS : Sl eB w.heap.size w pv p) :
    Calls Try.prog 56 #[pv, eB x] w fun e w' => e = .returned (eB (ev p x)) ∧ Below w.heap.size w w' := by
  obtain ⟨A, cap, rfl, hcap, hcs⟩ := hS
  go_enter Try.func56, Try.ntmps56
  go_wp2
  go_loopw [5, 6] (fun v i wr => ∃ k : Nat, k ≤ p.length ∧ i = .int .i64 ((k : Int) - 1) ∧ v = eB (ev (p.drop k) x) ∧ Below w.heap.size w wr) (fun _ i _ => (intOf i + 1).toNat)
  case atStart => exact ⟨p.length, Nat.le_refl _, rfl, by rw [List.drop_length]; rfl, Below.refl _ _⟩
  case round =>
    obtain ⟨k, hk, rfl, rfl, hB⟩ := hrel
    by_cases h0 : k = 0
    · subst h0
      rw [List.drop_zero]
      have d0 : decide ((0 : Int) ≤ ((0 : Nat) : Int) - 1) = false := by decide
      go_wp2
      go_ret
      exact ⟨rfl, hB⟩
    · obtain ⟨j, rfl⟩ : ∃ j, k = j + 1 := ⟨k - 1, by omega⟩
      obtain ⟨b, off, rfl, hb, hcell⟩ := hcs (by omega)
      have hcx : wr.cell? ⟨b, off + j, none⟩ = some (eB (p[j]'(by omega))) := (hB.cell (p := ⟨b, off + j, none⟩) hb).trans (hcell j _ (by simp))
      have Hev := Lib.hid (ev_drop p x j (by omega))
      have e0 : ((j + 1 : Nat) : Int) - 1 = (j : Int) := by omega
      rw [e0]
      have hbr : b < wr.heap.size := by have := hB.size; omega
      have hj0 : (0 : Int) ≤ (j : Int) := by omega
      have hj1 : (j : Int) < (p.length : Int) := by omega
      clear hcell hcs h0
      generalize p[j] = c at *
      generalize ev (p.drop (j + 1)) x = y at *
      have hx := u8_xor (ma y x).toNat c.toNat (ma y x).toNat_lt c.toNat_lt
      have hm := fun w => Mul8_any y x w
      generalize hz : ma y x = z at *
      have Hz := Lib.hid hz
      clear hz e0
      go_wp2_with fail
      go_region_held3 (fun w' => w'.cell? ⟨b, off + j, none⟩ = some (eB c) ∧ Below wr.heap.size wr w')
        (first | assumption | exact keep1 hbr (by assumption) (by assumption) | exact keep1 hbr (by assumption) (below_drew _) | exact ⟨hcx, below_drew _⟩ | exact ⟨hcx, Below.refl _ _⟩)
        (first | (go_at_call 49; refine (hm _).mono ?_; rintro e w' ⟨rfl, hB2⟩))
      all_goals
        rename_i hH
        have hBw := below_trans hB hH.2
        clear hH hm
        go_wp2
        go_roundw
        case rel => exact ⟨j, by omega, rfl, by rw [Hev.out, eB, xor_toNat], hBw⟩
        case measure => simp [intOf]

theorem C_one (c : UInt8) : C [c] = fun n => if n = 0 then c else 0 := by
  funext n
  cases n with
  | zero => rfl
  | succ n => simp [C_succ, C_nil]
/-- The product of the roots. -/
def RT (l : List UInt8) : List UInt8 := l.foldl (fun P r => tr (PM P (C [r, 1])) (P.length + 2)) [1]
theorem RT_snoc (l : List UInt8) (r : UInt8) : RT (l ++ [r]) = tr (PM (RT l) (C [r, 1])) ((RT l).length + 2) := by simp [RT]
theorem C_two (r : UInt8) : C [r, 1] = fun n => (if n = 0 then r else 0) ^^^ sh (fun n => if n = 0 then 1 else 0) n := by
  rw [C_cons, C_one]
theorem PM_two (P : List UInt8) (r : UInt8) : PM P (C [r, 1]) = fun n => ma r (C P n) ^^^ sh (C P) n := by
  rw [C_two, PM_xor, PM_one, PM_sh, PM_one]
  funext n
  congr 1
  cases n with
  | zero => rfl
  | succ n => simp [sh, one_ma]
theorem RT_monic (l : List UInt8) : (RT l).length = l.length + 1 ∧ C (RT l) l.length = 1 := by
  have key : ∀ k, k ≤ l.length → (RT (l.take k)).length = k + 1 ∧ C (RT (l.take k)) k = 1 := by
    intro k
    induction k with
    | zero => intro _; exact ⟨rfl, rfl⟩
    | succ k ih =>
      intro hk
      obtain ⟨h1, h2⟩ := ih (by omega)
      have e : l.take (k + 1) = l.take k ++ [l[k]] := List.take_succ_eq_append_getElem (by omega)
      rw [e, RT_snoc, PM_two, h1]
      have hz : ∀ j, k + 2 ≤ j → ma l[k] (C (RT (l.take k)) j) ^^^ sh (C (RT (l.take k))) j = 0 := by
        intro j hj
        obtain ⟨i, rfl⟩ : ∃ i, j = i + 1 := ⟨j - 1, by omega⟩
        rw [C_big _ _ (by omega), ma_zero, zero_x]
        show C _ i = 0
        exact C_big _ _ (by omega)
      have hone : ma l[k] (C (RT (l.take k)) (k + 1)) ^^^ sh (C (RT (l.take k))) (k + 1) = 1 := by
        rw [C_big _ _ (by omega), ma_zero, zero_x]; exact h2
      refine ⟨?_, ?_⟩
      · rw [tr_length]
        have a := tl_pos (fun n => ma l[k] (C (RT (l.take k)) n) ^^^ sh (C (RT (l.take k))) n) (k + 1 + 2) (k + 1) (by omega) (by rw [hone]; decide)
        have b := tl_below (fun n => ma l[k] (C (RT (l.take k)) n) ^^^ sh (C (RT (l.take k))) n) (k + 1 + 2) (k + 2) (fun j hj _ => hz j hj)
        omega
      · rw [C_tr _ _ (fun j hj => hz j (by omega))]
        exact hone
  have h := key l.length (Nat.le_refl _)
  rwa [List.take_length] at h

set_option maxRecDepth 100000 in
set_option maxHeartbeats 1000000 in
theorem Roots_any (lv : Value) (l : List UInt8) (hreach : l.length ≤ 10000) (w : World) (hS : Sl eB w.heap.size w lv l) :
    Calls Try.prog 23 #[lv] w fun e w' => ∃ v, e = .returned v ∧ Sl eB w'.heap.size w' v (RT l) ∧ Below w.heap.size w w' := by
  obtain ⟨A, cap, rfl, hcap, hcs⟩ := hS
  have hA := below_alloc w (.cells #[.int .u8 1] 5)
  have hq : Sl eB (w.alloc (.cells #[.int .u8 1] 5)).heap.size (w.alloc (.cells #[.int .u8 1] 5)) (.slice (some ⟨w.heap.size, 0, none⟩) 1 1) (RT []) := Sl.new eB w [1] #[eB 1] 5 (0, 0) 1 1 rfl (Nat.le_refl _) rfl
  go_enter Try.func23, Try.ntmps23
  go_wp2_with fail
  generalize w.alloc (.cells #[.int .u8 1] 5) = w0 at *
  go_loopw [3, 9] (fun v i wr => ∃ k : Nat, k ≤ l.length ∧ i = .int .i64 k ∧ Sl eB wr.heap.size wr v (RT (l.take k)) ∧ Below w.heap.size w wr) (fun _ i _ => l.length - (intOf i).toNat)
  case atStart => exact ⟨0, Nat.zero_le _, rfl, hq, hA⟩
  case round =>
    obtain ⟨k, hk, rfl, hv, hB⟩ := hrel
    by_cases hlt : k < l.length
    · obtain ⟨b, off, rfl, hb, hcell⟩ := hcs (by omega)
      have hcx : wr.cell? ⟨b, off + k, none⟩ = some (eB l[k]) := (hB.cell (p := ⟨b, off + k, none⟩) hb).trans (hcell k _ (by simp [hlt]))
      have hl := (RT_monic (l.take k)).1
      rw [List.length_take] at hl
      have e : l.take (k + 1) = l.take k ++ [l[k]] := List.take_succ_eq_append_getElem (by omega)
      have Hs := Lib.hid (show RT (l.take (k + 1)) = tr (PM (RT (l.take k)) (C [l[k], 1])) ((RT (l.take k)).length + 2) by rw [e, RT_snoc])
      clear e hcell hcs
      generalize l[k] = r at *
      have hA2 := below_alloc wr (.cells #[eB r, .int .u8 1] 5)
      have hq2 := Sl.new eB wr [r, 1] #[eB r, eB 1] 5 (0, 0) 2 2 rfl (Nat.le_refl _) rfl
      have hm := Mul_row _ _ (RT (l.take k)) [r, 1] (by omega) (by simp) _ (hv.next hA2) hq2
      generalize RT (l.take k) = P at *
      clear hl
      go_wp2_with fail
      go_at_call 40
      refine hm.mono ?_
      rintro e w1 ⟨v1, rfl, hv1, hB1⟩
      clear hm
      go_wp2
      go_roundw
      case rel => exact ⟨k + 1, by omega, by go_num, by rw [Hs.out]; exact hv1.sl, below_trans hB (below_trans hA2 hB1)⟩
      case measure => simp [intOf]; omega
    · obtain rfl : k = l.length := by omega
      rw [List.take_length] at hv
      go_wp2
      go_ret
      exact ⟨_, rfl, hv, hB⟩
end Go.Proofs.Ytkldapdebjlfmaa
