/- Contracts of gap.places and its iterator; the sum T of a word with a letter more. -/
import Derived.Test.YtmdpodgodhkjdaaDoorGpB
import Derived.Test.YtmdpodgodhkjdaaDoorOfA
import Derived.Test.YtmdpodgodhkjdaaDoorRI
import Derived.Deep.QuietTactic
import Derived.Deep.CutRange
namespace Go.Proofs.YtmdpodgodhkjdaaDoor
open Go.RowKit Go.Shelf
attribute [local go_sem] Oper.semAt_some run_store_func

/-- What rises weigh, each by one more than its place. -/
def bH (y : List UInt8) : Nat → Int
  | 0 => 0
  | k + 1 => bH y k + if riseB y k then (k : Int) + 1 else 0
theorem bH_range (y : List UInt8) (k : Nat) (hk : k ≤ 1000) : 0 ≤ bH y k ∧ bH y k ≤ 1001 * k := by
  induction k with
  | zero => simp [bH]
  | succ k ih =>
    have := ih (by omega)
    rw [bH]
    split <;> omega
theorem bH_le (y : List UInt8) (j d : Nat) : bH y j ≤ bH y (j + d) := by
  induction d with
  | zero => exact Int.le_refl _
  | succ d ih => rw [← Nat.add_assoc, bH]; split <;> omega
/-- The sum T of y with c at p. -/
def tG (y : List UInt8) (c : UInt8) (p : Nat) : Int :=
  sT y p + (bH y y.length - bH y (min (p + 1) y.length)) + (if 0 < p ∧ (atB y (p - 1)).toNat ≤ c.toNat then (p : Int) else 0) + (if p < y.length ∧ c.toNat ≤ (atB y p).toNat then (p : Int) + 1 else 0)
def placesG (y : List UInt8) (c : UInt8) (p : Nat) : Int := tG y c p % (y.length + 1)
theorem ins_lt (y : List UInt8) (c : UInt8) (p : Nat) (hp : p ≤ y.length) (k : Nat) (hk : k < p) : atB (insW y p c) k = atB y k := by rw [atB_ins y p k c hp, if_pos hk]
theorem ins_eq (y : List UInt8) (c : UInt8) (p : Nat) (hp : p ≤ y.length) : atB (insW y p c) p = c := by rw [atB_ins y p p c hp, if_neg (by omega), if_pos rfl]
theorem ins_gt (y : List UInt8) (c : UInt8) (p : Nat) (hp : p ≤ y.length) (k : Nat) (hk : p < k) : atB (insW y p c) k = atB y (k - 1) := by rw [atB_ins y p k c hp, if_neg (by omega), if_neg (by omega)]
theorem sT_low (y : List UInt8) (c : UInt8) (p : Nat) (hp : p ≤ y.length) (k : Nat) (hk : k ≤ p) : sT (insW y p c) k = sT y k := by
  induction k with
  | zero => rfl
  | succ k ih =>
    have hr : riseB (insW y p c) k = riseB y k := by
      unfold riseB
      rw [ins_lt y c p hp k (by omega), ins_lt y c p hp (k - 1) (by omega)]
    rw [sT, sT, ih (by omega), hr]
theorem sT_high (y : List UInt8) (c : UInt8) (p : Nat) (hp : p ≤ y.length) (d : Nat) : sT (insW y p c) (p + 2 + d) = sT (insW y p c) (p + 2) + (bH y (p + 1 + d) - bH y (p + 1)) := by
  induction d with
  | zero => simp
  | succ d ih =>
    have hr : riseB (insW y p c) (p + 2 + d) = riseB y (p + 1 + d) := by
      unfold riseB
      rw [ins_gt y c p hp (p + 2 + d) (by omega), ins_gt y c p hp (p + 2 + d - 1) (by omega), decide_eq_true (show 0 < p + 2 + d by omega), decide_eq_true (show 0 < p + 1 + d by omega)]
      rw [show p + 2 + d - 1 = p + 1 + d by omega]
    have e1 : sT (insW y p c) (p + 2 + (d + 1)) = sT (insW y p c) (p + 2 + d) + if riseB (insW y p c) (p + 2 + d) then ((p + 2 + d : Nat) : Int) else 0 := rfl
    have e2 : bH y (p + 1 + (d + 1)) = bH y (p + 1 + d) + if riseB y (p + 1 + d) then ((p + 1 + d : Nat) : Int) + 1 else 0 := rfl
    rw [e1, e2, ih, hr]
    split <;> omega
theorem rise_at (y : List UInt8) (c : UInt8) (p : Nat) (hp : p ≤ y.length) : riseB (insW y p c) p = (decide (0 < p) && decide ((atB y (p - 1)).toNat ≤ c.toNat)) := by
  unfold riseB
  by_cases h : 0 < p
  · rw [ins_eq y c p hp, ins_lt y c p hp (p - 1) (by omega)]
  · rw [decide_eq_false h]
    rfl
theorem rise_next (y : List UInt8) (c : UInt8) (p : Nat) (hp : p ≤ y.length) : riseB (insW y p c) (p + 1) = decide (c.toNat ≤ (atB y p).toNat) := by
  unfold riseB
  rw [ins_gt y c p hp (p + 1) (by omega), Nat.add_sub_cancel, ins_eq y c p hp, decide_eq_true (show 0 < p + 1 by omega)]
  rfl
theorem tG_ins (y : List UInt8) (c : UInt8) (p : Nat) (hp : p ≤ y.length) : sT (insW y p c) (y.length + 1) = tG y c p := by
  have h1 : sT (insW y p c) (p + 1) = sT y p + (if 0 < p ∧ (atB y (p - 1)).toNat ≤ c.toNat then (p : Int) else 0) := by
    rw [sT, sT_low y c p hp p (Nat.le_refl _), rise_at y c p hp]
    congr 1
    by_cases h : 0 < p ∧ (atB y (p - 1)).toNat ≤ c.toNat
    · rw [if_pos h, decide_eq_true h.1, decide_eq_true h.2]; rfl
    · rw [if_neg h, if_neg]
      intro hh
      rw [Bool.and_eq_true, decide_eq_true_eq, decide_eq_true_eq] at hh
      exact h hh
  by_cases he : p = y.length
  · subst he
    rw [h1, tG, Nat.min_eq_right (by omega), if_neg (show ¬ (y.length < y.length ∧ c.toNat ≤ (atB y y.length).toNat) from fun h => absurd h.1 (by omega))]
    omega
  · have h2 : sT (insW y p c) (p + 2) = sT (insW y p c) (p + 1) + (if p < y.length ∧ c.toNat ≤ (atB y p).toNat then (p : Int) + 1 else 0) := by
      rw [sT, rise_next y c p hp]
      congr 1
      by_cases h : c.toNat ≤ (atB y p).toNat
      · rw [if_pos (by simpa using h), if_pos ⟨by omega, h⟩]; omega
      · rw [if_neg (by simpa using h), if_neg (fun hh => h hh.2)]
    have h3 := sT_high y c p hp (y.length - 1 - p)
    rw [show p + 2 + (y.length - 1 - p) = y.length + 1 by omega, show p + 1 + (y.length - 1 - p) = y.length by omega, h2, h1] at h3
    rw [h3, tG, Nat.min_eq_left (by omega)]
    omega
theorem tG_range (y : List UInt8) (c : UInt8) (p : Nat) (hp : p ≤ y.length) (hn : y.length ≤ 999) : 0 ≤ tG y c p ∧ tG y c p ≤ 3000000 := by
  have h1 := sT_range y p (by omega)
  have h2 := bH_range y y.length (by omega)
  have h3 := bH_range y (min (p + 1) y.length) (by omega)
  have h4 : bH y (min (p + 1) y.length) ≤ bH y y.length := by
    have := bH_le y (min (p + 1) y.length) (y.length - min (p + 1) y.length)
    rwa [show min (p + 1) y.length + (y.length - min (p + 1) y.length) = y.length by omega] at this
  unfold tG
  split <;> split <;> omega
set_option maxRecDepth 100000 in
set_option maxHeartbeats 2000000 in
theorem places_any (A : Option Addr) (cap : Nat) (y : List UInt8) (c : UInt8) (hreach : y.length ≤ 1000000) (w : World) (hS : Sl eB w.heap.size w (.slice A y.length cap) y) :
    Calls Tryd.prog 41 #[.slice A y.length cap, eB c] w fun e w' => Below w.heap.size w w' ∧ ∃ b1 v, e = .returned (.func (.func 59) #[] #[.pointer (some ⟨b1, 0, none⟩), .pointer (some ⟨w.heap.size, 0, none⟩), .pointer (some ⟨w.heap.size + 1, 0, none⟩)]) ∧
      b1 < w'.heap.size ∧ w.heap.size + 1 < w'.heap.size ∧ w'.cell? ⟨b1, 0, none⟩ = some v ∧ Sl eF w'.heap.size w' v ((List.range y.length).map (riseB y)) ∧ w'.cell? ⟨w.heap.size, 0, none⟩ = some (.slice A y.length cap) ∧ w'.cell? ⟨w.heap.size + 1, 0, none⟩ = some (eB c) := by
  have hmf : ∀ (fn : Fn) (first cap : Array Value) (w : World), (Instr.makeFunc fn first cap).run Tryd.prog w = .ok (.func fn first cap) w := fun _ _ _ _ => rfl
  have hR := fun w h => Rises_any (.slice A y.length cap) y hreach w h
  have hA : Below w.heap.size w ((w.alloc (.cells #[.slice A y.length cap] 22)).alloc (.cells #[eB c] 5)) := ((Below.refl _ w).alloc (Nat.le_refl _) _).alloc (by simp) _
  have hb1 := (Boxed.new w 22 (.slice A y.length cap)).alloc (.cells #[eB c] 5)
  have hb2 := Boxed.new (w.alloc (.cells #[.slice A y.length cap] 22)) 5 (eB c)
  rw [World.size_alloc] at hb2
  have hS := hS.next hA
  go_enter Tryd.func41, Tryd.ntmps41
  go_upto_region 1 with fail
  generalize (w.alloc (.cells #[.slice A y.length cap] 22)).alloc (.cells #[.int .u8 c.toNat] 5) = w0 at *
  have k1 := hb1.cell
  go_wp2_with fail
  go_at_call 58
  refine (hR _ hS).mono ?_
  rintro e w1 ⟨hB, v, rfl, hv⟩
  obtain ⟨Av, cv, rfl⟩ := hv.len
  have hb1 : Boxed w1 w.heap.size 22 (.slice A y.length cap) := (hB.block _ hb1.lt).trans hb1
  have hb2 : Boxed w1 (w.heap.size + 1) 5 (eB c) := (hB.block _ hb2.lt).trans hb2
  have hA1 := below_alloc w1 (.cells #[.slice Av ((List.range y.length).map (riseB y)).length cv] 69)
  have hbr := Boxed.new w1 69 (.slice Av ((List.range y.length).map (riseB y)).length cv)
  have hb1' := hb1.alloc (.cells #[.slice Av ((List.range y.length).map (riseB y)).length cv] 69)
  have hb2' := hb2.alloc (.cells #[.slice Av ((List.range y.length).map (riseB y)).length cv] 69)
  have hv' := hv.next hA1
  have hl2 := hb2'.lt
  clear hR hS k1 hb1 hb2 hv
  generalize hRL : (List.range y.length).map (riseB y) = RL at hv' hbr hb1' hb2' hl2 hA1 ⊢
  have HRL := Lib.hid hRL
  clear hRL
  go_wp2_with fail
  go_ret
  exact ⟨below_trans hA (below_trans hB hA1), w1.heap.size, _, rfl, by simp, hl2, hbr.cell, by rw [HRL.out]; exact hv', hb1'.cell, hb2'.cell⟩
end Go.Proofs.YtmdpodgodhkjdaaDoor
