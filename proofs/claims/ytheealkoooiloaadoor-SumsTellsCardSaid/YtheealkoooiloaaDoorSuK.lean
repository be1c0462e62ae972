/- Contract of unpack's take. -/
import Derived.Test.YtheealkoooiloaaDoorSuJ
namespace Go.Proofs.YtheealkoooiloaaDoor
open Go.RowKit Go.Shelf
attribute [local go_sem] Oper.semAt_some run_store_func

/-- The number that the first k bits tell. -/
def numB (ls : List UInt8) : Nat → Nat
  | 0 => 0
  | k + 1 => numB ls k * 2 + (atB ls k).toNat
theorem numB_lt (ls : List UInt8) (k : Nat) (h : ∀ j, j < k → (atB ls j).toNat ≤ 1) : numB ls k < 2 ^ k := by
  induction k with
  | zero => simp [numB]
  | succ k ih =>
    have h1 := ih (fun j hj => h j (by omega))
    have h2 := h k (by omega)
    rw [numB, Nat.pow_succ]
    omega
theorem or1 (m : Nat) (c : UInt8) (h : m < 4294967296) (hc : c.toNat ≤ 1) : bits .or .i64 ((m : Int) * 2) (c.toNat : Int) = (m : Int) * 2 + c.toNat := by
  have h1 : (BitVec.ofInt IntKind.i64.bits ((m : Int) * 2) ||| BitVec.ofInt IntKind.i64.bits (c.toNat : Int)).toNat = m * 2 + c.toNat := by
    rw [BitVec.toNat_or, BitVec.toNat_ofInt, BitVec.toNat_ofInt]
    have e1 : (((m : Int) * 2) % ((2 ^ IntKind.i64.bits : Nat) : Int)).toNat = 2 ^ 1 * m := by
      show (((m : Int) * 2) % ((2 ^ 64 : Nat) : Int)).toNat = _
      omega
    have e2 : ((c.toNat : Int) % ((2 ^ IntKind.i64.bits : Nat) : Int)).toNat = c.toNat := by
      show ((c.toNat : Int) % ((2 ^ 64 : Nat) : Int)).toNat = _
      omega
    rw [e1, e2, ← Nat.two_pow_add_eq_or_of_lt (i := 1) (b := c.toNat) (by omega) m]
    omega
  unfold bits
  simp only [h1]
  rw [IntWalk.i64_in _ (by omega)]
  omega
set_option maxRecDepth 100000 in
set_option maxHeartbeats 4000000 in
theorem take_yes (b bk off wd c : Nat) (ls : List UInt8) (W : World) (hc : ls.length ≤ c) (hb : Boxed W b 22 (.slice (some ⟨bk, off, none⟩) ls.length c)) (hcell : ∀ j x, ls[j]? = some x → W.cell? ⟨bk, off + j, none⟩ = some (eB x)) (hw : wd ≤ ls.length) (hwd : wd ≤ 20) (hbits : ∀ k, k < wd → (atB ls k).toNat ≤ 1) :
    Calls Tryd.prog 42 #[.int .i64 wd, .pointer (some ⟨b, 0, none⟩)] W fun e w' => e = .returned (.int .i64 (numB ls wd)) ∧ ∃ off', w' = W.setCell ⟨b, 0, none⟩ (.slice (some ⟨bk, off', none⟩) (ls.length - wd : Nat) (c - wd : Nat)) ∧ (wd < ls.length → off' = off + wd) := by
  have cb := hb.cell
  have fb := hb.frozen
  have m1 : (wd : Int) ≤ c := by omega
  go_enter Tryd.func42, Tryd.ntmps42
  go_wp2_with fail
  go_loop [4, 11] (fun x i => ∃ k : Nat, k ≤ wd ∧ i = .int .i64 k ∧ x = .int .i64 (numB ls k)) (fun _ i => wd - (intOf i).toNat)
  case atStart => exact ⟨0, Nat.zero_le _, rfl, rfl⟩
  case round =>
    obtain ⟨k, hk, rfl, rfl⟩ := hrel
    by_cases hlt : k < wd
    · have hx := hcell k _ (atB_lt (x := ls) (i := k) (by omega))
      have hle := hbits k hlt
      have hlt2 := numB_lt ls k (fun j hj => hbits j (by omega))
      have hp : 2 ^ k ≤ 2 ^ 20 := Nat.pow_le_pow_right (by omega) (by omega)
      have hor := or1 (numB ls k) (atB ls k) (by omega) hle
      have Hs := Lib.hid (show numB ls (k + 1) = numB ls k * 2 + (atB ls k).toNat from rfl)
      have d1 : decide (((atB ls k).toNat : Int) ≤ 1) = true := decide_eq_true (by omega)
      have m2 : (k : Int) < wd := by omega
      have e1 : IntKind.i64.wrap ((numB ls k : Int) * 2) = (numB ls k : Int) * 2 := IntWalk.i64_in _ (by omega)
      have e2 : wrap64 ((numB ls k : Int) * 2) = (numB ls k : Int) * 2 := IntWalk.wrap64_in _ (by omega)
      have e3 : IntKind.i64.wrap ((atB ls k).toNat : Int) = ((atB ls k).toNat : Int) := IntWalk.i64_in _ (by omega)
      clear hbits hcell hlt2 hp
      generalize numB ls k = m at *
      generalize atB ls k = y at *
      go_wp2_with (go_at_call 29; refine (must_ok _).mono ?_; rintro e w' ⟨rfl, rfl⟩)
      exact ⟨⟨k + 1, by omega, by go_num, by rw [Hs.out]; simp⟩, by simp [intOf]; omega⟩
    · obtain rfl : k = wd := by omega
      by_cases hcw : c = k
      · go_wp2_with fail
        go_ret
        exact ⟨rfl, off, rfl, fun h => by omega⟩
      · go_wp2_with fail
        go_ret
        exact ⟨rfl, off + k, rfl, fun _ => rfl⟩
set_option maxRecDepth 100000 in
set_option maxHeartbeats 4000000 in
theorem take_no (b bk off wd c : Nat) (ls : List UInt8) (W : World) (hc : ls.length ≤ c) (hb : Boxed W b 22 (.slice (some ⟨bk, off, none⟩) ls.length c)) (hcell : ∀ j x, ls[j]? = some x → W.cell? ⟨bk, off + j, none⟩ = some (eB x)) (hw : wd ≤ ls.length) (hwd : wd ≤ 20) (hbad : ¬ ∀ k, k < wd → (atB ls k).toNat ≤ 1) :
    Calls Tryd.prog 42 #[.int .i64 wd, .pointer (some ⟨b, 0, none⟩)] W fun e w' => e = .panicked (errno 2) ∧ w' = W := by
  have cb := hb.cell
  have fb := hb.frozen
  have m1 : (wd : Int) ≤ c := by omega
  have Hb := Lib.hid hbad
  clear hbad
  go_enter Tryd.func42, Tryd.ntmps42
  go_wp2_with fail
  go_loop [4, 11] (fun x i => ∃ k : Nat, k ≤ wd ∧ i = .int .i64 k ∧ x = .int .i64 (numB ls k) ∧ ∀ j, j < k → (atB ls j).toNat ≤ 1) (fun _ i => wd - (intOf i).toNat)
  case atStart => exact ⟨0, Nat.zero_le _, rfl, rfl, fun j hj => absurd hj (by omega)⟩
  case round =>
    obtain ⟨k, hk, rfl, rfl, hbits⟩ := hrel
    by_cases hlt : k < wd
    · have hx := hcell k _ (atB_lt (x := ls) (i := k) (by omega))
      have hlt2 := numB_lt ls k hbits
      have hp : 2 ^ k ≤ 2 ^ 20 := Nat.pow_le_pow_right (by omega) (by omega)
      have m2 : (k : Int) < wd := by omega
      by_cases hle : (atB ls k).toNat ≤ 1
      · have hor := or1 (numB ls k) (atB ls k) (by omega) hle
        have Hs := Lib.hid (show numB ls (k + 1) = numB ls k * 2 + (atB ls k).toNat from rfl)
        have d1 : decide (((atB ls k).toNat : Int) ≤ 1) = true := decide_eq_true (by omega)
        have e1 : IntKind.i64.wrap ((numB ls k : Int) * 2) = (numB ls k : Int) * 2 := IntWalk.i64_in _ (by omega)
        have e2 : wrap64 ((numB ls k : Int) * 2) = (numB ls k : Int) * 2 := IntWalk.wrap64_in _ (by omega)
        have e3 : IntKind.i64.wrap ((atB ls k).toNat : Int) = ((atB ls k).toNat : Int) := IntWalk.i64_in _ (by omega)
        have Hn := Lib.hid (show ∀ j, j < k + 1 → (atB ls j).toNat ≤ 1 from fun j hj => by
          by_cases e : j = k
          · rw [e]; exact hle
          · exact hbits j (by omega))
        clear hbits hcell hlt2 hp hle
        generalize numB ls k = m at *
        generalize atB ls k = y at *
        go_wp2_with (go_at_call 29; refine (must_ok _).mono ?_; rintro e w' ⟨rfl, rfl⟩)
        exact ⟨⟨k + 1, by omega, by go_num, by rw [Hs.out]; simp, Hn.out⟩, by simp [intOf]; omega⟩
      · have d1 : decide (((atB ls k).toNat : Int) ≤ 1) = false := decide_eq_false (by omega)
        have d1' : decide ((atB ls k).toNat ≤ 1) = false := decide_eq_false hle
        clear hbits hcell hlt2 hp hle
        generalize numB ls k = m at *
        generalize atB ls k = y at *
        go_wp2_with (go_at_call 29; refine (must_not _).mono ?_; rintro e w' ⟨rfl, rfl⟩)
        exact ⟨rfl, rfl, rfl⟩
    · obtain rfl : k = wd := by omega
      exact absurd hbits Hb.out
end Go.Proofs.YtheealkoooiloaaDoor
