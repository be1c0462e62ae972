/- Contracts of helixref03.Pow, Inv, Div and of helixref04.Eval. -/
import Derived.Test.YtkldapdebjlfmaaRfE
import Derived.Deep.QuietTactic
import Derived.BigQuiet
namespace Go.Proofs.Ytkldapdebjlfmaa
open Go.RowKit Go.Shelf
attribute [local go_sem] Oper.semAt_some

/-- A power. -/
def pwU (a : UInt8) : Nat → UInt8
  | 0 => 1
  | n + 1 => ma (pwU a n) a
set_option maxRecDepth 100000 in
set_option maxHeartbeats 2000000 in
theorem RPow_any (a : UInt8) (n : Nat) (hn : n < 255) (w : World) :
    Calls Try.prog 46 #[eB a, .int .i64 n] w fun e w' => e = .returned (eB (pwU a n)) ∧ w = w' := by
  by_cases h0 : a = 0
  · subst h0
    by_cases hz : n = 0
    · subst hz
      go_enter Try.func46, Try.ntmps46
      go_wp2
      go_ret
      exact ⟨rfl, rfl⟩
    · obtain ⟨j, rfl⟩ : ∃ j, n = j + 1 := ⟨n - 1, by omega⟩
      have hd : (((j + 1 : Nat) : Int) == 0) = false := by rw [beq_eq_false_iff_ne]; omega
      have Hp := Lib.hid (show pwU 0 (j + 1) = 0 by rw [pwU, ma_zero])
      clear hz
      generalize j + 1 = n at *
      go_enter Try.func46, Try.ntmps46
      go_wp2
      all_goals first | (exfalso; simp_all; done) | skip
      go_ret
      exact ⟨by rw [Hp.out]; rfl, rfl⟩
  · have hb := beq_some a h0
    have e1 : (n : Int).tmod 255 = n := by rw [Int.tmod_eq_emod_of_nonneg (by omega)]; omega
    have e2 : ((n : Int) + 255).tmod 255 = n := by rw [Int.tmod_eq_emod_of_nonneg (by omega)]; omega
    clear h0
    go_enter Try.func46, Try.ntmps46
    go_wp2_with fail
    go_loopw [5, 6] (fun z i wr => ∃ k : Nat, k ≤ n ∧ i = .int .i64 (k : Nat) ∧ z = eB (pwU a k) ∧ w = wr) (fun _ i _ => n - (intOf i).toNat)
    case atStart => exact ⟨0, Nat.zero_le _, rfl, rfl, rfl⟩
    case round =>
      obtain ⟨k, hk, rfl, rfl, rfl⟩ := hrel
      by_cases hlt : k < n
      · have hl : decide ((k : Int) < (n : Int)) = true := decide_eq_true (by omega)
        have hm := fun w => RefMul8 (pwU a k) a w
        have Hp := Lib.hid (show pwU a (k + 1) = ma (pwU a k) a from rfl)
        generalize pwU a k = x at *
        clear e1 e2
        go_wp2_with (go_at_call 44; refine (hm _).mono ?_; rintro e w' ⟨rfl, rfl⟩)
        go_roundw
        case rel => exact ⟨k + 1, by omega, by go_num, by rw [Hp.out], trivial⟩
        case measure => simp [intOf]; omega
      · obtain rfl : k = n := by omega
        have hl : decide ((k : Int) < (k : Int)) = false := decide_eq_false (by omega)
        clear e1 e2
        go_wp2
        go_ret
        exact ⟨rfl, rfl⟩

theorem inv_is (a : UInt8) (h : a ≠ 0) : ∃ D : Nat, 0 < D ∧ D < 256 ∧ mulN a.toNat D = 1 := by
  obtain ⟨k, _, hk⟩ := pw_all a.toNat a.toNat_lt (fun e => h (b_ext e))
  refine ⟨pw ((255 - k % 255) % 255), Nat.pos_of_ne_zero (pw_pos _), pw_lt _, ?_⟩
  rw [← hk, pw_mul, ← pw_mod, show (k + (255 - k % 255) % 255) % 255 = 0 by omega]
  rfl
set_option maxRecDepth 100000 in
set_option maxHeartbeats 2000000 in
theorem RInv_any (a : UInt8) (h : a ≠ 0) (w : World) :
    Calls Try.prog 63 #[eB a] w fun e w' => ∃ d : UInt8, ma a d = 1 ∧ e = .returned (.tuple #[eB d, .int .i64 0]) ∧ w = w' := by
  obtain ⟨D, hD0, hD, hmD⟩ := inv_is a h
  have hlt := a.toNat_lt
  have hback : ∀ k : Nat, k < 256 → mulN a.toNat k = 1 → ∃ d : UInt8, ma a d = 1 ∧ d.toNat = k := fun k hk he => by
    have e : (UInt8.ofNat k).toNat = k := by simp; omega
    exact ⟨UInt8.ofNat k, b_ext (by rw [ma_toNat, e, he]; rfl), e⟩
  clear h
  go_enter Try.func63, Try.ntmps63
  go_wp2_with fail
  go_loopw [4] (fun i wr => ∃ k : Nat, k ≤ D ∧ 0 < k ∧ i = .int .i64 (k : Nat) ∧ w = wr) (fun i _ => 300 - (intOf i).toNat)
  case atStart => exact ⟨1, by omega, by omega, rfl, rfl⟩
  case round =>
    obtain ⟨k, hk, hk0, rfl, rfl⟩ := hrel
    have hl : decide ((k : Int) < 256) = true := decide_eq_true (by omega)
    have hm := fun w => RefMul_any a.toNat k hlt (by omega) w
    have hk256 : (k : Int) < 256 := by omega
    by_cases h1 : mulN a.toNat k = 1
    · obtain ⟨d, hd1, hd2⟩ := hback k (by omega) h1
      rw [h1] at hm
      clear hback hmD h1
      go_wp2_with (go_at_call 44; refine (hm _).mono ?_; rintro e w' ⟨rfl, rfl⟩)
      go_ret2
      exact ⟨d, hd1, by rw [show eB d = Value.int .u8 (k : Int) by rw [eB, hd2]]; rfl, rfl⟩
    · have hne : k ≠ D := fun e => h1 (by rw [e]; exact hmD)
      have hq : ¬ ((mulN a.toNat k : Nat) : Int) = 1 := by omega
      have hq2 : (((mulN a.toNat k : Nat) : Int) == 1) = false := by rw [beq_eq_false_iff_ne]; omega
      clear hback hmD
      generalize mulN a.toNat k = z at *
      go_wp2_with (go_at_call 44; refine (hm _).mono ?_; rintro e w' ⟨rfl, rfl⟩)
      go_roundw
      case rel => exact ⟨k + 1, by omega, by omega, by go_num, trivial⟩
      case measure => simp [intOf]; omega
set_option maxRecDepth 100000 in
set_option maxHeartbeats 2000000 in
theorem RDiv_any (a b : UInt8) (h : b ≠ 0) (w : World) :
    Calls Try.prog 50 #[eB a, eB b] w fun e w' => ∃ c : UInt8, ma c b = a ∧ e = .returned (.tuple #[eB c, .int .i64 0]) ∧ w = w' := by
  go_enter Try.func50, Try.ntmps50
  go_wp2_with fail
  go_at_call 63
  refine (RInv_any b h w).mono ?_
  rintro e w' ⟨d, hd, rfl, rfl⟩
  go_wp2_with fail
  go_at_call 44
  refine (RefMul8 a d w).mono ?_
  rintro e w' ⟨rfl, rfl⟩
  go_wp2
  go_ret2
  exact ⟨ma a d, by rw [ma_assoc, ma_comm d b, hd, ma_one], rfl, rfl⟩

/-- The value at x, power by power. -/
def evK (f : Nat → UInt8) (x : UInt8) : Nat → UInt8
  | 0 => 0
  | k + 1 => evK f x k ^^^ ma (f k) (pwU x k)
theorem evK_cons (a : UInt8) (p : List UInt8) (x : UInt8) (k : Nat) : evK (C (a :: p)) x (k + 1) = ma (evK (C p) x k) x ^^^ a := by
  induction k with
  | zero =>
    show evK (C (a :: p)) x 0 ^^^ ma (C (a :: p) 0) (pwU x 0) = _
    rw [C_zero]
    show (0 : UInt8) ^^^ ma a 1 = ma 0 x ^^^ a
    rw [ma_one, zero_ma]
  | succ k ih =>
    show evK (C (a :: p)) x (k + 1) ^^^ ma (C (a :: p) (k + 1)) (pwU x (k + 1)) = ma (evK (C p) x k ^^^ ma (C p k) (pwU x k)) x ^^^ a
    rw [ih, C_succ, xor_ma, ma_assoc]
    show ma (evK (C p) x k) x ^^^ a ^^^ ma (C p k) (ma (pwU x k) x) = _
    rw [x_assoc, x_comm a, ← x_assoc]
theorem evK_all (p : List UInt8) (x : UInt8) : evK (C p) x p.length = ev p x := by
  induction p with
  | nil => rfl
  | cons a p ih => rw [List.length_cons, evK_cons, ih]; rfl
set_option maxRecDepth 100000 in
set_option maxHeartbeats 2000000 in
theorem REval_any (pv : Value) (p : List UInt8) (x : UInt8) (hp : p.length ≤ 255) (w : World) (hS : Sl eB w.heap.size w pv p) :
    Calls Try.prog 36 #[pv, eB x] w fun e w' => e = .returned (eB (ev p x)) ∧ Below w.heap.size w w' := by
  rw [← evK_all]
  obtain ⟨A, cap, rfl, hcap, hcs⟩ := hS
  go_enter Try.func36, Try.ntmps36
  go_wp2_with fail
  go_loopw [5, 6] (fun z i wr => ∃ k : Nat, k ≤ p.length ∧ i = .int .i64 (k : Nat) ∧ z = eB (evK (C p) x k) ∧ Below w.heap.size w wr) (fun _ i _ => p.length - (intOf i).toNat)
  case atStart => exact ⟨0, Nat.zero_le _, rfl, rfl, Below.refl _ _⟩
  case round =>
    obtain ⟨k, hk, rfl, rfl, hB⟩ := hrel
    by_cases hlt : k < p.length
    · have hl : decide ((k : Int) < (p.length : Int)) = true := decide_eq_true (by omega)
      have hkl : (k : Int) < (p.length : Int) := by omega
      obtain ⟨b, off, rfl, hb, hcell⟩ := hcs (by omega)
      have hcx : wr.cell? ⟨b, off + k, none⟩ = some (eB (C p k)) := by rw [C_get p k hlt]; exact (hB.cell (p := ⟨b, off + k, none⟩) hb).trans (hcell k _ (by simp [hlt]))
      have He := Lib.hid (show evK (C p) x (k + 1) = evK (C p) x k ^^^ ma (C p k) (pwU x k) from rfl)
      have hpw : ∀ n, Calls Try.prog 46 #[eB x, .int .i64 (k : Nat)] (wr.drewN n) fun e w' => e = .returned (eB (pwU x k)) ∧ w' = wr.drewN n := fun n => (RPow_any x k (by omega) (wr.drewN n)).mono fun _ _ h => ⟨h.1, h.2.symm⟩
      have hmu : ∀ n, Calls Try.prog 44 #[eB (C p k), eB (pwU x k)] (wr.drewN n) fun e w' => e = .returned (eB (ma (C p k) (pwU x k))) ∧ w' = wr.drewN n := fun n => (RefMul8 (C p k) (pwU x k) (wr.drewN n)).mono fun _ _ h => ⟨h.1, h.2.symm⟩
      have hx := u8x (evK (C p) x k) (ma (C p k) (pwU x k))
      clear hcell hcs
      generalize ma (C p k) (pwU x k) = m at *
      generalize evK (C p) x k = u at *
      generalize C p k = c at *
      generalize pwU x k = y at *
      obtain ⟨r, hr⟩ : ∃ r : UInt8, u ^^^ m = r := ⟨_, rfl⟩
      rw [hr] at hx He
      clear hr
      go_wp2_with fail
      go_quiet (first
        | (go_at_call 46; with_reducible exact Calls.quiet_of_same (hpw _))
        | (go_at_call 44; with_reducible exact Calls.quiet_of_same (hmu _)))
      have hBd : Below w.heap.size w (wr.drewN nq) := below_trans hB (below_drewN wr nq)
      generalize wr.drewN nq = wd at *
      go_wp2
      go_roundw
      case rel => exact ⟨k + 1, by omega, by go_num, by rw [He.out], hBd⟩
      case measure => simp [intOf]; omega
    · obtain rfl : k = p.length := by omega
      have hl : decide ((p.length : Int) < (p.length : Int)) = false := decide_eq_false (by omega)
      go_wp2
      go_ret
      exact ⟨rfl, hB⟩
end Go.Proofs.Ytkldapdebjlfmaa
