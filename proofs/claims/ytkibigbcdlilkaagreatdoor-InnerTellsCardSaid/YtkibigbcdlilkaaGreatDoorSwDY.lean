import Derived.Deep.QuietTactic
import Derived.Deep.CutRange
import Derived.Test.YtkibigbcdlilkaaGreatDoorExMY
import Derived.Test.YtkibigbcdlilkaaGreatDoorRJY
import Derived.Test.YtkibigbcdlilkaaGreatDoorSwCY
import Derived.Test.YtkibigbcdlilkaaGreatDoorVaAY
namespace Go.Proofs.YtkibigbcdlilkaaGreatDoor.Gp
open Go.RowKit Go.Shelf
attribute [local go_sem] Oper.semAt_some run_store_func
def bH (y : List UInt8) : Nat → Int
  | 0 => 0
  | k + 1 => bH y k + if riseB y k then (k : Int) + 1 else 0
theorem bH_range (y : List UInt8) (k : Nat) (hk : k ≤ 1000) : 0 ≤ bH y k ∧ bH y k ≤ 1001 * k := by
 induction k with
 | zero => simp [bH]
 | succ k ih =>
   have := ih (by omega)
   rw [bH]
   split <;> omega
theorem bH_le (y : List UInt8) (j d : Nat) : bH y j ≤ bH y (j + d) := by
 induction d with
 | zero => exact Int.le_refl _
 | succ d ih => rw [← Nat.add_assoc, bH]; split <;> omega
def tG (y : List UInt8) (c : UInt8) (p : Nat) : Int :=
 sT y p + (bH y y.length - bH y (min (p + 1) y.length)) + (if 0 < p ∧ (atB y (p - 1)).toNat ≤ c.toNat then (p : Int) else 0) + (if p < y.length ∧ c.toNat ≤ (atB y p).toNat then (p : Int) + 1 else 0)
def placesG (y : List UInt8) (c : UInt8) (p : Nat) : Int := tG y c p % (y.length + 1)
theorem ins_lt (y : List UInt8) (c : UInt8) (p : Nat) (hp : p ≤ y.length) (k : Nat) (hk : k < p) : atB (insW y p c) k = atB y k := by rw [atB_ins y p k c hp, if_pos hk]
theorem ins_eq (y : List UInt8) (c : UInt8) (p : Nat) (hp : p ≤ y.length) : atB (insW y p c) p = c := by rw [atB_ins y p p c hp, if_neg (by omega), if_pos rfl]
theorem ins_gt (y : List UInt8) (c : UInt8) (p : Nat) (hp : p ≤ y.length) (k : Nat) (hk : p < k) : atB (insW y p c) k = atB y (k - 1) := by rw [atB_ins y p k c hp, if_neg (by omega), if_neg (by omega)]
theorem sT_low (y : List UInt8) (c : UInt8) (p : Nat) (hp : p ≤ y.length) (k : Nat) (hk : k ≤ p) : sT (insW y p c) k = sT y k := by
 induction k with
 | zero => rfl
 | succ k ih =>
   have hr : riseB (insW y p c) k = riseB y k := by
    unfold riseB
    rw [ins_lt y c p hp k (by omega), ins_lt y c p hp (k - 1) (by omega)]
   rw [sT, sT, ih (by omega), hr]
theorem sT_high (y : List UInt8) (c : UInt8) (p : Nat) (hp : p ≤ y.length) (d : Nat) : sT (insW y p c) (p + 2 + d) = sT (insW y p c) (p + 2) + (bH y (p + 1 + d) - bH y (p + 1)) := by
 induction d with
 | zero => simp
 | succ d ih =>
   have hr : riseB (insW y p c) (p + 2 + d) = riseB y (p + 1 + d) := by
    unfold riseB
    rw [ins_gt y c p hp (p + 2 + d) (by omega), ins_gt y c p hp (p + 2 + d - 1) (by omega), decide_eq_true (show 0 < p + 2 + d by omega), decide_eq_true (show 0 < p + 1 + d by omega)]
    rw [show p + 2 + d - 1 = p + 1 + d by omega]
   have e1 : sT (insW y p c) (p + 2 + (d + 1)) = sT (insW y p c) (p + 2 + d) + if riseB (insW y p c) (p + 2 + d) then ((p + 2 + d : Nat) : Int) else 0 := rfl
   have e2 : bH y (p + 1 + (d + 1)) = bH y (p + 1 + d) + if riseB y (p + 1 + d) then ((p + 1 + d : Nat) : Int) + 1 else 0 := rfl
   rw [e1, e2, ih, hr]
   split <;> omega
theorem rise_at (y : List UInt8) (c : UInt8) (p : Nat) (hp : p ≤ y.length) : riseB (insW y p c) p = (decide (0 < p) && decide ((atB y (p - 1)).toNat ≤ c.toNat)) := by
 unfold riseB
 by_cases h : 0 < p
 · rw [ins_eq y c p hp, ins_lt y c p hp (p - 1) (by omega)]
 · rw [decide_eq_false h]
   rfl
theorem rise_next (y : List UInt8) (c : UInt8) (p : Nat) (hp : p ≤ y.length) : riseB (insW y p c) (p + 1) = decide (c.toNat ≤ (atB y p).toNat) := by
 unfold riseB
 rw [ins_gt y c p hp (p + 1) (by omega), Nat.add_sub_cancel, ins_eq y c p hp, decide_eq_true (show 0 < p + 1 by omega)]
 rfl
theorem tG_ins (y : List UInt8) (c : UInt8) (p : Nat) (hp : p ≤ y.length) : sT (insW y p c) (y.length + 1) = tG y c p := by
 have h1 : sT (insW y p c) (p + 1) = sT y p + (if 0 < p ∧ (atB y (p - 1)).toNat ≤ c.toNat then (p : Int) else 0) := by
  rw [sT, sT_low y c p hp p (Nat.le_refl _), rise_at y c p hp]
  congr 1
  by_cases h : 0 < p ∧ (atB y (p - 1)).toNat ≤ c.toNat
  · rw [if_pos h, decide_eq_true h.1, decide_eq_true h.2]; rfl
  · rw [if_neg h, if_neg]
    intro hh
    rw [Bool.and_eq_true, decide_eq_true_eq, decide_eq_true_eq] at hh
    exact h hh
 by_cases he : p = y.length
 · subst he
   rw [h1, tG, Nat.min_eq_right (by omega), if_neg (show ¬ (y.length < y.length ∧ c.toNat ≤ (atB y y.length).toNat) from fun h => absurd h.1 (by omega))]
   omega
 · have h2 : sT (insW y p c) (p + 2) = sT (insW y p c) (p + 1) + (if p < y.length ∧ c.toNat ≤ (atB y p).toNat then (p : Int) + 1 else 0) := by
     rw [sT, rise_next y c p hp]
     congr 1
     by_cases h : c.toNat ≤ (atB y p).toNat
     · rw [if_pos (by simpa using h), if_pos ⟨by omega, h⟩]; omega
     · rw [if_neg (by simpa using h), if_neg (fun hh => h hh.2)]
   have h3 := sT_high y c p hp (y.length - 1 - p)
   rw [show p + 2 + (y.length - 1 - p) = y.length + 1 by omega, show p + 1 + (y.length - 1 - p) = y.length by omega, h2, h1] at h3
   rw [h3, tG, Nat.min_eq_left (by omega)]
   omega
theorem tG_range (y : List UInt8) (c : UInt8) (p : Nat) (hp : p ≤ y.length) (hn : y.length ≤ 999) : 0 ≤ tG y c p ∧ tG y c p ≤ 3000000 := by
 have h1 := sT_range y p (by omega)
 have h2 := bH_range y y.length (by omega)
 have h3 := bH_range y (min (p + 1) y.length) (by omega)
 have h4 : bH y (min (p + 1) y.length) ≤ bH y y.length := by
  have := bH_le y (min (p + 1) y.length) (y.length - min (p + 1) y.length)
  rwa [show min (p + 1) y.length + (y.length - min (p + 1) y.length) = y.length by omega] at this
 unfold tG
 split <;> split <;> omega
set_option maxRecDepth 100000 in
set_option maxHeartbeats 2000000 in
theorem places_any (A : Option Addr) (cap : Nat) (y : List UInt8) (c : UInt8) (hreach : y.length ≤ 1000000) (w : World) (hS : Sl eB w.heap.size w (.slice A y.length cap) y) :
    Calls Tryz.prog 116 #[.slice A y.length cap, eB c] w fun e w' => Below w.heap.size w w' ∧ ∃ b1 v, e = .returned (.func (.func 138) #[] #[.pointer (some ⟨b1, 0, none⟩), .pointer (some ⟨w.heap.size, 0, none⟩), .pointer (some ⟨w.heap.size + 1, 0, none⟩)]) ∧
      b1 < w'.heap.size ∧ w.heap.size + 1 < w'.heap.size ∧ w'.cell? ⟨b1, 0, none⟩ = some v ∧ Sl eF w'.heap.size w' v ((List.range y.length).map (riseB y)) ∧ w'.cell? ⟨w.heap.size, 0, none⟩ = some (.slice A y.length cap) ∧ w'.cell? ⟨w.heap.size + 1, 0, none⟩ = some (eB c) := by
  have hmf : ∀ (fn : Fn) (first cap : Array Value) (w : World), (Instr.makeFunc fn first cap).run Tryz.prog w = .ok (.func fn first cap) w := fun _ _ _ _ => rfl
  have hR := fun w h => Rises_any (.slice A y.length cap) y hreach w h
  have hA : Below w.heap.size w ((w.alloc (.cells #[.slice A y.length cap] 22)).alloc (.cells #[eB c] 5)) := ((Below.refl _ w).alloc (Nat.le_refl _) _).alloc (by simp) _
  have hb1 := (Boxed.new w 22 (.slice A y.length cap)).alloc (.cells #[eB c] 5)
  have hb2 := Boxed.new (w.alloc (.cells #[.slice A y.length cap] 22)) 5 (eB c)
  rw [World.size_alloc] at hb2
  have hS := hS.next hA
  go_enter Tryz.func116, Tryz.ntmps116
  go_upto_region 1 with fail
  generalize (w.alloc (.cells #[.slice A y.length cap] 22)).alloc (.cells #[.int .u8 c.toNat] 5) = w0 at *
  have k1 := hb1.cell
  go_wp2_with fail
  go_at_call 137
  refine (hR _ hS).mono ?_
  rintro e w1 ⟨hB, v, rfl, hv⟩
  obtain ⟨Av, cv, rfl⟩ := hv.len
  have hb1 : Boxed w1 w.heap.size 22 (.slice A y.length cap) := (hB.block _ hb1.lt).trans hb1
  have hb2 : Boxed w1 (w.heap.size + 1) 5 (eB c) := (hB.block _ hb2.lt).trans hb2
  have hA1 := below_alloc w1 (.cells #[.slice Av ((List.range y.length).map (riseB y)).length cv] 137)
  have hbr := Boxed.new w1 137 (.slice Av ((List.range y.length).map (riseB y)).length cv)
  have hb1' := hb1.alloc (.cells #[.slice Av ((List.range y.length).map (riseB y)).length cv] 137)
  have hb2' := hb2.alloc (.cells #[.slice Av ((List.range y.length).map (riseB y)).length cv] 137)
  have hv' := hv.next hA1
  have hl2 := hb2'.lt
  clear hR hS k1 hb1 hb2 hv
  generalize hRL : (List.range y.length).map (riseB y) = RL at hv' hbr hb1' hb2' hl2 hA1 ⊢
  have HRL := Lib.hid hRL
  clear hRL
  go_wp2_with fail
  go_ret
  exact ⟨below_trans hA (below_trans hB hA1), w1.heap.size, _, rfl, by simp, hl2, hbr.cell, by rw [HRL.out]; exact hv', hb1'.cell, hb2'.cell⟩
end Go.Proofs.YtkibigbcdlilkaaGreatDoor.Gp
namespace Go.Proofs.YtkibigbcdlilkaaGreatDoor.Gp
open Go.RowKit Go.Shelf
attribute [local go_sem] Oper.semAt_some run_store_func
theorem sl_cell {w : World} {g : Nat} {c : UInt8} (hg : g < w.heap.size) (h : w.cell? ⟨g, 0, none⟩ = some (eB c)) : Sl eB w.heap.size w (.slice (some ⟨g, 0, none⟩) 1 1) [c] :=
 ⟨some ⟨g, 0, none⟩, 1, rfl, Nat.le_refl _, fun _ => ⟨g, 0, rfl, hg, fun j x hx => by
  have hj : j = 0 := by
   have := (List.getElem?_eq_some_iff.1 hx).1
   simpa using this
  subst hj
  simp at hx
  subst hx
  exact h⟩⟩
def InsIs (x : List UInt8) (p : Nat) (c : UInt8) : Prop :=
 ∀ (base : Nat) (v : Value) (b : Nat) (w : World), base ≤ w.heap.size → Own8 base w v x → Boxed w b 5 (eB c) → v.ownBlock ≠ some b →
   Calls Tryz.prog 117 #[v, .int .i64 p, .slice (some ⟨b, 0, none⟩) 1 1] w fun e w' => ∃ v', e = .returned v' ∧ Own8 base w' v' (insW x p c) ∧ Below base w w'
set_option maxRecDepth 100000 in
set_option maxHeartbeats 1000000 in
theorem insert_end (x : List UInt8) (c : UInt8) (h0 : 0 < x.length) (hreach : x.length ≤ 1000000) : InsIs x x.length c := by
 intro base v b w hbase hown hbx hap
 have hs := sl_cell hbx.lt hbx.cell
 obtain ⟨i0, hi, hz0, hz1, hz2⟩ := info_parts info_u8
 have hrow : w.ownsRow base 5 1 v x.length (x.map eB) := hown
 have hg := hown.2
 rcases hg with ⟨_, h⟩ | ⟨g, cap, cur, rfl, hbg, hg, hle, hcm, hcs, htk⟩
 · omega
 have hms : ¬ ((cap : Int) < x.length) := by omega
 have hi1 : (([c] : List UInt8).length : Int) = 1 := rfl
 have hins : insW x x.length c = x ++ [c] := by simp [insW]
 clear hcs htk hg hcm hap
 go_enter Tryz.func117, Tryz.ntmps117
 go_wp2_with
   (at_builtin
    refine wpList_append_sl _ rfl (.tmp 23) (.tmp 24) _ rfl base 5 i0 (.int .u8 0) 1 Tryz.underlying22 hi hz0 hz1 hz2 rfl _ x.length (x.map eB) hrow rfl w.heap.size _ [c] hs rfl (fun _ => rfl) (by unfold maxLen; simp; omega) (by simp; omega) hbase ?_
    intro v1 w1 hown1 hg1 hat1
    have hB2 : Below base w w1 := below_grown hrow hg1 hbase (Nat.le_refl _))
 all_goals
  go_ret
  exact ⟨v1, rfl, by simpa [Own8, insW] using hown1, hB2⟩
end Go.Proofs.YtkibigbcdlilkaaGreatDoor.Gp
namespace Go.Proofs.YtkibigbcdlilkaaGreatDoor.Gp
open Go.RowKit Go.Shelf
attribute [local go_sem] Oper.semAt_some run_store_func
set_option maxRecDepth 100000 in
set_option maxHeartbeats 1000000 in
theorem placesAt_any (A : Option Addr) (cap : Nat) (y : List UInt8) (c : UInt8) (hreach : y.length ≤ 1000000) (w : World) (hS : Sl eB w.heap.size w (.slice A y.length cap) y) :
    Calls Tryz.prog 116 #[.slice A y.length cap, eB c] w fun e w' => Below w.heap.size w w' ∧ ∃ b1, e = .returned (.func (.func 138) #[] #[.pointer (some ⟨b1, 0, none⟩), .pointer (some ⟨w.heap.size, 0, none⟩), .pointer (some ⟨w.heap.size + 1, 0, none⟩)]) ∧
      w.heap.size + 2 < b1 ∧ b1 < w'.heap.size ∧ w'.cell? ⟨b1, 0, none⟩ = some (.slice (some ⟨w.heap.size + 2, 0, none⟩) y.length y.length) ∧ (∀ i, i < y.length → w'.cell? ⟨w.heap.size + 2, i, none⟩ = some (.bool (riseB y i))) ∧ w'.cell? ⟨w.heap.size, 0, none⟩ = some (.slice A y.length cap) ∧ w'.cell? ⟨w.heap.size + 1, 0, none⟩ = some (eB c) := by
  have hmf : ∀ (fn : Fn) (first cap : Array Value) (w : World), (Instr.makeFunc fn first cap).run Tryz.prog w = .ok (.func fn first cap) w := fun _ _ _ _ => rfl
  have hR := fun w h => RisesAt_any (.slice A y.length cap) y hreach w h
  have hA : Below w.heap.size w ((w.alloc (.cells #[.slice A y.length cap] 22)).alloc (.cells #[eB c] 5)) := ((Below.refl _ w).alloc (Nat.le_refl _) _).alloc (by simp) _
  have hs0 : ((w.alloc (.cells #[.slice A y.length cap] 22)).alloc (.cells #[eB c] 5)).heap.size = w.heap.size + 2 := by simp
  have hb1 := (Boxed.new w 22 (.slice A y.length cap)).alloc (.cells #[eB c] 5)
  have hb2 := Boxed.new (w.alloc (.cells #[.slice A y.length cap] 22)) 5 (eB c)
  rw [World.size_alloc] at hb2
  have hS := hS.next hA
  go_enter Tryz.func116, Tryz.ntmps116
  go_upto_region 1 with fail
  generalize (w.alloc (.cells #[.slice A y.length cap] 22)).alloc (.cells #[.int .u8 c.toNat] 5) = w0 at *
  have k1 := hb1.cell
  go_wp2_with fail
  go_at_call 137
  refine (hR _ hS).mono ?_
  rintro e w1 ⟨hB, rfl, hl1, hv⟩
  have hb1 : Boxed w1 w.heap.size 22 (.slice A y.length cap) := (hB.block _ hb1.lt).trans hb1
  have hb2 : Boxed w1 (w.heap.size + 1) 5 (eB c) := (hB.block _ hb2.lt).trans hb2
  have hA1 := below_alloc w1 (.cells #[.slice (some ⟨w0.heap.size, 0, none⟩) y.length y.length] 137)
  have hbr := Boxed.new w1 137 (.slice (some ⟨w0.heap.size, 0, none⟩) y.length y.length)
  have hb1' := hb1.alloc (.cells #[.slice (some ⟨w0.heap.size, 0, none⟩) y.length y.length] 137)
  have hb2' := hb2.alloc (.cells #[.slice (some ⟨w0.heap.size, 0, none⟩) y.length y.length] 137)
  have hl2 := hbr.lt
  have hv' : ∀ i, i < y.length → (w1.alloc (.cells #[.slice (some ⟨w0.heap.size, 0, none⟩) y.length y.length] 137)).cell? ⟨w0.heap.size, i, none⟩ = some (.bool (riseB y i)) := fun i hi => (hA1.cell (p := ⟨w0.heap.size, i, none⟩) hl1).trans (hv i hi)
  clear hR hS k1 hb1 hb2 hv
  rw [hs0] at hbr hl1 hv' hb1' hb2' hl2 hA1
  go_wp2_with fail
  go_ret
  exact ⟨below_trans hA (below_trans hB hA1), w1.heap.size, rfl, hl1, hl2, hbr.cell, hv', hb1'.cell, hb2'.cell⟩
end Go.Proofs.YtkibigbcdlilkaaGreatDoor.Gp
namespace Go.Proofs.YtkibigbcdlilkaaGreatDoor.Gp
open Go.RowKit Go.Shelf
attribute [local go_sem] Oper.semAt_some run_store_func
theorem own_below {β : Type} {B : Nat} {I : β → World → Prop} (h : OwnFrom B I) {s : β} {W W' : World} (hs : I s W) (hB : Below W.heap.size W W') : I s W' :=
 h _ _ _ none hs ⟨hB.os, hB.tape, hB.output, hB.size, fun k hk _ => hB.block k hk⟩ (fun r e => by cases e)
theorem sT_step (y : List UInt8) (p : Nat) (hp : 0 < p) : sT y p = sT y (p - 1) + if riseB y (p - 1) then ((p : Int) - 1) else 0 := by
 obtain ⟨k, rfl⟩ : ∃ k, p = k + 1 := ⟨p - 1, by omega⟩
 rw [sT, Nat.add_sub_cancel]
 split <;> omega
set_option maxRecDepth 1000000 in
set_option maxHeartbeats 8000000 in
theorem places_seq (b1 b2 b3 : Nat) (A : Option Addr) (cap : Nat) (v1 : Value) (y : List UInt8) (c : UInt8) (hn : y.length ≤ 999) (w0 : World) (l1 : b1 < w0.heap.size) (l2 : b2 < w0.heap.size) (l3 : b3 < w0.heap.size)
    (k1 : w0.cell? ⟨b1, 0, none⟩ = some v1) (hRl : Sl eF w0.heap.size w0 v1 ((List.range y.length).map (riseB y))) (k2 : w0.cell? ⟨b2, 0, none⟩ = some (.slice A y.length cap)) (k3 : w0.cell? ⟨b3, 0, none⟩ = some (eB c)) (hSl : Sl eB w0.heap.size w0 (.slice A y.length cap) y)
    (g : Nat) (n1 : b1 ≠ g) (n2 : b2 ≠ g) (n3 : b3 ≠ g) (hap1 : ∀ a n c, v1 = .slice (some a) n c → a.block ≠ g) (hap2 : ∀ a, A = some a → a.block ≠ g) :
    SeqI Fence.wide Tryz.prog 138 #[.pointer (some ⟨b1, 0, none⟩), .pointer (some ⟨b2, 0, none⟩), .pointer (some ⟨b3, 0, none⟩)] (fun p : Nat => #[.int .i64 p, .int .i64 (placesG y c p)]) (Keep w0.heap.size g) (List.range (y.length + 1)) none w0 := by
 intro l J JS W hW hJo hY h0
 have hW := keep_of (g := g) hW
 obtain ⟨Av, cv, rfl⟩ := hRl.len
 have hrl : ((List.range y.length).map (riseB y)).length = y.length := by simp
 rw [hrl] at hRl k1
 have Hread : Hid (∀ (W' : World), Keep w0.heap.size g w0 W' → ∀ i, i < y.length → ∃ bk off, Av = some ⟨bk, off, none⟩ ∧ W'.cell? ⟨bk, off + i, none⟩ = some (.bool (riseB y i))) := Lib.hid (by
  intro W' hB i hi
  obtain ⟨A', c', e, hc, hcs⟩ := hRl
  injection e with e1 e2 e3
  subst e1 e3
  obtain ⟨bk, off, e4, hb, hcell⟩ := hcs (by rw [hrl]; omega)
  subst e4
  exact ⟨bk, off, rfl, (hB.cell (p := ⟨bk, off + i, none⟩) hb (hap1 ⟨bk, off, none⟩ _ _ rfl)).trans (hcell i (riseB y i) (by simp [hi]))⟩)
 have HreadY : Hid (∀ (W' : World), Keep w0.heap.size g w0 W' → ∀ i, i < y.length → ∃ bk off, A = some ⟨bk, off, none⟩ ∧ W'.cell? ⟨bk, off + i, none⟩ = some (eB (atB y i))) := Lib.hid (by
  intro W' hB i hi
  obtain ⟨A', c', e, hc, hcs⟩ := hSl
  injection e with e1 e2 e3
  subst e1 e3
  obtain ⟨bk, off, e4, hb, hcell⟩ := hcs (by omega)
  subst e4
  exact ⟨bk, off, rfl, (hB.cell (p := ⟨bk, off + i, none⟩) hb (hap2 ⟨bk, off, none⟩ rfl)).trans (hcell i _ (atB_lt hi))⟩)
 clear hRl hSl hrl hap1 hap2
 have c1 := (hW.cell (p := ⟨b1, 0, none⟩) l1 n1).trans k1
 have c2 := (hW.cell (p := ⟨b2, 0, none⟩) l2 n2).trans k2
 refine callsIn_of_wp Tryz.func138 rfl trivial ?_ rfl
 simp only [Tryz.ntmps138, List.size_toArray, List.length_cons, List.length_nil, Nat.reduceAdd, Nat.reduceSub, Array.replicate_succ, Array.replicate_zero, List.push_toArray, List.append_toArray, List.nil_append, List.cons_append]
 gi_wp2_with fail
 gi_loopw [6, 13] (fun b i wr => ∃ j : Nat, j ≤ y.length ∧ i = .int .i64 j ∧ b = .int .i64 (bH y j) ∧ wr = W) (fun _ i _ => y.length - (intOf i).toNat)
 case atStart => exact ⟨0, Nat.zero_le _, rfl, rfl, rfl⟩
 case round =>
  obtain ⟨j, hj, rfl, rfl, rfl⟩ := hrel
  by_cases hlt : j < y.length
  · have hjl : (j : Int) < y.length := by omega
    obtain ⟨bk, off, rfl, hx⟩ := Hread.out _ hW j hlt
    have hb := bH_range y j (by omega)
    have Hb := Lib.hid (show bH y (j + 1) = bH y j + if riseB y j then (j : Int) + 1 else 0 from rfl)
    have Hj := Lib.hid hlt
    have hj9 : j < 999 := by omega
    clear hlt hj
    generalize bH y j = b at *
    cases hr : riseB y j with
    | true =>
      rw [hr] at hx Hb
      gi_wp2_with fail
      refine ⟨⟨j + 1, Hj.out, by go_num, ?_, trivial⟩, ?_⟩
      · rw [Hb.out]
        first
         | (simp; done)
         | go_num
      · have := Hj.out
        simp [intOf]
        omega
    | false =>
      rw [hr] at hx Hb
      gi_wp2_with fail
      refine ⟨⟨j + 1, Hj.out, by go_num, ?_, trivial⟩, ?_⟩
      · rw [Hb.out]
        first
         | (simp; done)
         | go_num
      · have := Hj.out
        simp [intOf]
        omega
  · obtain rfl : j = y.length := by omega
    clear hlt hj
    gi_wp2_with fail
    gi_loopw [5, 6, 27] (fun a b i wr => ∃ p : Nat, p ≤ y.length + 1 ∧ i = .int .i64 p ∧ a = .int .i64 (sT y (p - 1)) ∧ b = .int .i64 (bH y y.length - bH y (min p y.length)) ∧ J (List.range p) wr ∧ Keep w0.heap.size g w0 wr) (fun _ _ i _ => y.length + 1 - (intOf i).toNat)
    case atStart => exact ⟨0, Nat.zero_le _, rfl, rfl, by simp [bH], h0, hW⟩
    case round =>
     obtain ⟨p, hp, rfl, rfl, rfl, hJ, hB⟩ := hrel
     by_cases hlt : p ≤ y.length
     · have hpn : ((p : Nat) : Int) < (y.length : Int) + 1 := by omega
       have hpre := range_pre p (y.length + 1) (by omega)
       have Hp := Lib.hid hlt
       have kc := (hB.cell (p := ⟨b3, 0, none⟩) l3 n3).trans k3
       have kr := (hB.cell (p := ⟨b1, 0, none⟩) l1 n1).trans k1
       have ky := (hB.cell (p := ⟨b2, 0, none⟩) l2 n2).trans k2
       have rT := sT_range y (p - 1) (by omega)
       have rB1 := bH_range y y.length (by omega)
       have rB2 := bH_range y (min p y.length) (by omega)
       have rB3 := bH_range y (min (p + 1) y.length) (by omega)
       have rB4 : bH y (min (p + 1) y.length) ≤ bH y y.length := by
        have := bH_le y (min (p + 1) y.length) (y.length - min (p + 1) y.length)
        rwa [show min (p + 1) y.length + (y.length - min (p + 1) y.length) = y.length by omega] at this
       have rG := tG_range y c p hlt hn
       have HG := Lib.hid (show tG y c p = sT y p + (bH y y.length - bH y (min (p + 1) y.length)) + (if 0 < p ∧ (atB y (p - 1)).toNat ≤ c.toNat then (p : Int) else 0) + (if p < y.length ∧ c.toNat ≤ (atB y p).toNat then (p : Int) + 1 else 0) from rfl)
       have HPl := Lib.hid (show placesG y c p = tG y c p % (y.length + 1) from rfl)
       obtain ⟨a', ha'⟩ : ∃ a', a' = sT y p := ⟨_, rfl⟩
       obtain ⟨b', hb'⟩ : ∃ b', b' = bH y y.length - bH y (min (p + 1) y.length) := ⟨_, rfl⟩
       have HA : Hid ((p = 0 ∧ sT y (p - 1) = a') ∨ (0 < p ∧ riseB y (p - 1) = true ∧ a' = sT y (p - 1) + ((p : Int) - 1)) ∨ (0 < p ∧ riseB y (p - 1) = false ∧ a' = sT y (p - 1))) := Lib.hid (by
        by_cases h0 : p = 0
        · exact .inl ⟨h0, by rw [ha', h0]⟩
        · have h1 := sT_step y p (by omega)
          cases hr : riseB y (p - 1) with
          | true => rw [hr, if_pos rfl] at h1; exact .inr (.inl ⟨by omega, rfl, by rw [ha', h1]⟩)
          | false => rw [hr] at h1; exact .inr (.inr ⟨by omega, rfl, by rw [ha', h1]; simp⟩))
       have HBb : Hid ((p = y.length ∧ bH y y.length - bH y (min p y.length) = b') ∨ (p < y.length ∧ riseB y p = true ∧ b' = bH y y.length - bH y (min p y.length) - ((p : Int) + 1)) ∨ (p < y.length ∧ riseB y p = false ∧ b' = bH y y.length - bH y (min p y.length))) := Lib.hid (by
        by_cases h0 : p = y.length
        · exact .inl ⟨h0, by rw [hb', Nat.min_eq_right (by omega), Nat.min_eq_right (by omega)]⟩
        · have h1 : bH y (p + 1) = bH y p + if riseB y p then (p : Int) + 1 else 0 := rfl
          rw [Nat.min_eq_left (show p + 1 ≤ y.length by omega)] at hb'
          rw [Nat.min_eq_left (show p ≤ y.length by omega)]
          cases hr : riseB y p with
          | true => rw [hr, if_pos rfl] at h1; exact .inr (.inl ⟨by omega, rfl, by rw [hb', h1]; omega⟩)
          | false => rw [hr] at h1; exact .inr (.inr ⟨by omega, rfl, by rw [hb', h1]; simp⟩))
       obtain ⟨q1, hq1⟩ : ∃ q1 : Int, q1 = if 0 < p ∧ (atB y (p - 1)).toNat ≤ c.toNat then (p : Int) else 0 := ⟨_, rfl⟩
       obtain ⟨q2, hq2⟩ : ∃ q2 : Int, q2 = if p < y.length ∧ c.toNat ≤ (atB y p).toNat then (p : Int) + 1 else 0 := ⟨_, rfl⟩
       have ra : 0 ≤ a' ∧ a' ≤ 1000000 := by have := sT_range y p (by omega); rw [ha']; omega
       have rb : 0 ≤ b' ∧ b' ≤ 1001000 := by rw [hb']; omega
       rw [← ha', ← hb', ← hq1, ← hq2] at HG
       have HQ1 : Hid ((p = 0 ∧ q1 = 0) ∨ (0 < p ∧ decide ((atB y (p - 1)).toNat ≤ c.toNat) = true ∧ q1 = (p : Int)) ∨ (0 < p ∧ decide ((atB y (p - 1)).toNat ≤ c.toNat) = false ∧ q1 = 0)) := Lib.hid (by
        by_cases h0 : p = 0
        · exact .inl ⟨h0, by rw [hq1, if_neg (by omega)]⟩
        · by_cases h1 : (atB y (p - 1)).toNat ≤ c.toNat
          · exact .inr (.inl ⟨by omega, decide_eq_true h1, by rw [hq1, if_pos ⟨by omega, h1⟩]⟩)
          · exact .inr (.inr ⟨by omega, decide_eq_false h1, by rw [hq1, if_neg (fun h => h1 h.2)]⟩))
       have HQ2 : Hid ((p = y.length ∧ q2 = 0) ∨ (p < y.length ∧ decide (c.toNat ≤ (atB y p).toNat) = true ∧ q2 = (p : Int) + 1) ∨ (p < y.length ∧ decide (c.toNat ≤ (atB y p).toNat) = false ∧ q2 = 0)) := Lib.hid (by
        by_cases h0 : p = y.length
        · exact .inl ⟨h0, by rw [hq2, if_neg (by omega)]⟩
        · by_cases h1 : c.toNat ≤ (atB y p).toNat
          · exact .inr (.inl ⟨by omega, decide_eq_true h1, by rw [hq2, if_pos ⟨by omega, h1⟩]⟩)
          · exact .inr (.inr ⟨by omega, decide_eq_false h1, by rw [hq2, if_neg (fun h => h1 h.2)]⟩))
       have hp9 : p ≤ 999 := by omega
       have HRd := Lib.hid (fun h => Hread.out wr hB (p - 1) h)
       have HRd2 := Lib.hid (fun h => Hread.out wr hB p h)
       have HYd := Lib.hid (fun h => HreadY.out wr hB (p - 1) h)
       have HYd2 := Lib.hid (fun h => HreadY.out wr hB p h)
       have HN : Hid (sT y (p + 1 - 1) = a' ∧ bH y y.length - bH y (min (p + 1) y.length) = b') := Lib.hid ⟨by rw [Nat.add_sub_cancel, ha'], hb'.symm⟩
       have rs : 0 ≤ sT y (p - 1) ∧ sT y (p - 1) ≤ 1000000 := by omega
       have rbb : 0 ≤ bH y y.length - bH y (min p y.length) ∧ bH y y.length - bH y (min p y.length) ≤ 1001000 := by
        have h5 : bH y (min p y.length) ≤ bH y y.length := by
         have := bH_le y (min p y.length) (y.length - min p y.length)
         rwa [show min p y.length + (y.length - min p y.length) = y.length by omega] at this
        omega
       have hYp : ∀ W', Below wr.heap.size wr W' → ∃ fn tmps assign body, _ := fun W' hB' => hY _ p W' (own_below hJo hJ hB') hpre
       rw [← List.range_succ] at hYp
       clear ha' hb' hq1 hq2 hlt hp rT rB1 rB2 rB3 rB4
       generalize placesG y c p = G at *
       generalize tG y c p = tg at *
       generalize sT y (p - 1) = a at *
       generalize bH y y.length - bH y (min p y.length) = b at *
       have e1 : 0 < p → wrap64 ((p : Int) - 1) = ((p - 1 : Nat) : Int) := fun h => by rw [IntWalk.wrap64_in _ (by omega)]; omega
       have e1' : 0 < p → IntKind.i64.wrap ((p : Int) - 1) = ((p - 1 : Nat) : Int) := fun h => by rw [IntWalk.i64_in _ (by omega)]; omega
       have E1 := Lib.hid e1
       have E1' := Lib.hid e1'
       clear e1 e1' hJo hY
       rcases HA.out with ⟨h0, ea⟩ | ⟨h0, hr1, ea⟩ | ⟨h0, hr1, ea⟩ <;> rcases HQ1.out with ⟨h0', eq1⟩ | ⟨h0', hc1, eq1⟩ | ⟨h0', hc1, eq1⟩ <;> first | (exfalso; omega) | skip
       all_goals first
        | (have dp0 : ¬ 0 < p := by omega
           have dp : decide (0 < (p : Int)) = false := decide_eq_false (by omega)
           have dpn : decide (0 < p) = false := decide_eq_false (by omega)
           have dp1 : ¬ (0 : Int) < (p : Int) := by omega)
        | (have dp : decide (0 < (p : Int)) = true := decide_eq_true (by omega)
           have dpn : decide (0 < p) = true := decide_eq_true (by omega)
           obtain ⟨bk, off, rfl, x1⟩ := HRd.out (by omega)
           obtain ⟨bk2, off2, rfl, y1⟩ := HYd.out (by omega)
           rw [hr1] at x1
           have w1 := E1.out (by omega)
           have w2 := E1'.out (by omega)
           have hpl1 : ((p - 1 : Nat) : Int) < (y.length : Int) := by omega
           have hpl1n : p - 1 < y.length := by omega)
       all_goals (rcases HBb.out with ⟨h1, eb⟩ | ⟨h1, hr2, eb⟩ | ⟨h1, hr2, eb⟩ <;> rcases HQ2.out with ⟨h1', eq2⟩ | ⟨h1', hc2, eq2⟩ | ⟨h1', hc2, eq2⟩ <;> first | (exfalso; omega) | skip)
       all_goals first
        | (have dq : decide ((p : Int) < (y.length : Int)) = false := decide_eq_false (by omega)
           have dqn : decide (p < y.length) = false := decide_eq_false (by omega))
        | (have hpln : p < y.length := by omega
           have dq : decide ((p : Int) < (y.length : Int)) = true := decide_eq_true (by omega)
           have hpl : (p : Int) < (y.length : Int) := by omega
           obtain ⟨bk3, off3, eA3, x2⟩ := HRd2.out (by omega)
           obtain ⟨bk4, off4, eY4, y2⟩ := HYd2.out (by omega)
           rw [hr2] at x2
           cases eA3
           cases eY4)
       all_goals have hn9 : y.length ≤ 999 := hn
       all_goals first
        | (have hA : Hid (sT y (p + 1 - 1) = a) := Lib.hid (by rw [HN.out.1]; omega)
           have hB9 : Hid (bH y y.length - bH y (min (p + 1) y.length) = b) := Lib.hid (by rw [HN.out.2]; omega)
           first
            | have hG : Int.tmod (a + b) ((y.length : Int) + 1) = G := by rw [Int.tmod_eq_emod_of_nonneg (by omega), HPl.out, HG.out]; congr 1; omega
            | have hG : Int.tmod (a + b + (p : Int)) ((y.length : Int) + 1) = G := by rw [Int.tmod_eq_emod_of_nonneg (by omega), HPl.out, HG.out]; congr 1; omega
            | have hG : Int.tmod (a + b + ((p : Int) + 1)) ((y.length : Int) + 1) = G := by rw [Int.tmod_eq_emod_of_nonneg (by omega), HPl.out, HG.out]; congr 1; omega
            | have hG : Int.tmod (a + b + (p : Int) + ((p : Int) + 1)) ((y.length : Int) + 1) = G := by rw [Int.tmod_eq_emod_of_nonneg (by omega), HPl.out, HG.out]; congr 1; omega)
        | (have hA : Hid (sT y (p + 1 - 1) = a) := Lib.hid (by rw [HN.out.1]; omega)
           have hB9 : Hid (bH y y.length - bH y (min (p + 1) y.length) = (b - ((p : Int) + 1))) := Lib.hid (by rw [HN.out.2]; omega)
           first
            | have hG : Int.tmod (a + (b - ((p : Int) + 1))) ((y.length : Int) + 1) = G := by rw [Int.tmod_eq_emod_of_nonneg (by omega), HPl.out, HG.out]; congr 1; omega
            | have hG : Int.tmod (a + (b - ((p : Int) + 1)) + (p : Int)) ((y.length : Int) + 1) = G := by rw [Int.tmod_eq_emod_of_nonneg (by omega), HPl.out, HG.out]; congr 1; omega
            | have hG : Int.tmod (a + (b - ((p : Int) + 1)) + ((p : Int) + 1)) ((y.length : Int) + 1) = G := by rw [Int.tmod_eq_emod_of_nonneg (by omega), HPl.out, HG.out]; congr 1; omega
            | have hG : Int.tmod (a + (b - ((p : Int) + 1)) + (p : Int) + ((p : Int) + 1)) ((y.length : Int) + 1) = G := by rw [Int.tmod_eq_emod_of_nonneg (by omega), HPl.out, HG.out]; congr 1; omega)
        | (have hA : Hid (sT y (p + 1 - 1) = a + ((p - 1 : Nat) : Int)) := Lib.hid (by rw [HN.out.1]; omega)
           have hB9 : Hid (bH y y.length - bH y (min (p + 1) y.length) = b) := Lib.hid (by rw [HN.out.2]; omega)
           first
            | have hG : Int.tmod (a + ((p - 1 : Nat) : Int) + b) ((y.length : Int) + 1) = G := by rw [Int.tmod_eq_emod_of_nonneg (by omega), HPl.out, HG.out]; congr 1; omega
            | have hG : Int.tmod (a + ((p - 1 : Nat) : Int) + b + (p : Int)) ((y.length : Int) + 1) = G := by rw [Int.tmod_eq_emod_of_nonneg (by omega), HPl.out, HG.out]; congr 1; omega
            | have hG : Int.tmod (a + ((p - 1 : Nat) : Int) + b + ((p : Int) + 1)) ((y.length : Int) + 1) = G := by rw [Int.tmod_eq_emod_of_nonneg (by omega), HPl.out, HG.out]; congr 1; omega
            | have hG : Int.tmod (a + ((p - 1 : Nat) : Int) + b + (p : Int) + ((p : Int) + 1)) ((y.length : Int) + 1) = G := by rw [Int.tmod_eq_emod_of_nonneg (by omega), HPl.out, HG.out]; congr 1; omega)
        | (have hA : Hid (sT y (p + 1 - 1) = a + ((p - 1 : Nat) : Int)) := Lib.hid (by rw [HN.out.1]; omega)
           have hB9 : Hid (bH y y.length - bH y (min (p + 1) y.length) = (b - ((p : Int) + 1))) := Lib.hid (by rw [HN.out.2]; omega)
           first
            | have hG : Int.tmod (a + ((p - 1 : Nat) : Int) + (b - ((p : Int) + 1))) ((y.length : Int) + 1) = G := by rw [Int.tmod_eq_emod_of_nonneg (by omega), HPl.out, HG.out]; congr 1; omega
            | have hG : Int.tmod (a + ((p - 1 : Nat) : Int) + (b - ((p : Int) + 1)) + (p : Int)) ((y.length : Int) + 1) = G := by rw [Int.tmod_eq_emod_of_nonneg (by omega), HPl.out, HG.out]; congr 1; omega
            | have hG : Int.tmod (a + ((p - 1 : Nat) : Int) + (b - ((p : Int) + 1)) + ((p : Int) + 1)) ((y.length : Int) + 1) = G := by rw [Int.tmod_eq_emod_of_nonneg (by omega), HPl.out, HG.out]; congr 1; omega
            | have hG : Int.tmod (a + ((p - 1 : Nat) : Int) + (b - ((p : Int) + 1)) + (p : Int) + ((p : Int) + 1)) ((y.length : Int) + 1) = G := by rw [Int.tmod_eq_emod_of_nonneg (by omega), HPl.out, HG.out]; congr 1; omega)
       all_goals
        have rP : 0 ≤ G ∧ G ≤ 999 := by rw [HPl.out]; exact ⟨Int.emod_nonneg _ (by omega), by have := Int.emod_lt_of_pos tg (b := (y.length : Int) + 1) (by omega); omega⟩
        have Hh0 := Lib.hid h0
        have Hh1 := Lib.hid h1
        clear ea eb eq1 eq2
        clear h0 h0' h1 h1' HPl HG HN rG ra rb
        first
         | (have := dp0)
         | (generalize p - 1 = pm at *
            generalize atB y pm = ym at *)
        first
         | (have := hpln
            generalize atB y p = yp at *)
         | skip
        gi_wp2_with fail
        refine wpIn_wide.2 ?_
        go_quiet (fail)
        rename Nat => nqa
        gi_wp2_with fail
        refine wpIn_wide.2 ?_
        go_quiet (fail)
        rename Nat => nqb
        obtain ⟨fn, tmps, assign, body, hyy, hR⟩ := hYp (wr.drewN (nqa + nqb)) ⟨rfl, rfl, rfl, Nat.le_refl _, fun _ _ => rfl⟩
        gi_wp2_with fail
        refine (roundIn_room rfl hR).mono ?_
        rintro e W3 (⟨rfl, hJ3, hK3, hF3⟩ | ⟨rfl, hS3⟩)
        · gi_wp2_with fail
          refine ⟨⟨p + 1, by have := Hp.out; omega, by go_num, by rw [hA.out], by rw [hB9.out], hJ3, keep_t (keep_t hB (keep_of (show Below w0.heap.size wr (wr.drewN (nqa + nqb)) from ⟨rfl, rfl, rfl, Nat.le_refl _, fun _ _ => rfl⟩))) hK3⟩, ?_⟩
          have := Hp.out
          simp [intOf]
          omega
        · gi_wp2_with fail
          refine bodyPost_ret (results_none rfl _ _ _) rfl ?_
          exact .inl ⟨_, rfl, hS3⟩
     · obtain rfl : p = y.length + 1 := by omega
       have hpn : ¬ ((y.length + 1 : Nat) : Int) < (y.length : Int) + 1 := by omega
       clear hlt hp
       gi_wp2_with fail
       go_end0
       exact .inr ⟨⟨_, rfl⟩, by rw [← List.range_succ]; exact hJ⟩
end Go.Proofs.YtkibigbcdlilkaaGreatDoor.Gp
namespace Go.Proofs.YtkibigbcdlilkaaGreatDoor.Sw
open Go.RowKit Go.Shelf
attribute [local go_sem] Oper.semAt_some run_store_func
theorem smust_ok (w : World) : Calls Tryz.prog 161 #[.int .i64 0] w fun e w' => e = .returned (.tuple #[]) ∧ w = w' := by
 go_enter Tryz.func161, Tryz.ntmps161
 go_wp2
 go_end0
 exact ⟨rfl, rfl⟩
theorem smust_no (m : Int) (hm : m ≠ 0) (w : World) : Calls Tryz.prog 161 #[.int .i64 m] w fun e w' => e = .panicked (errno m) ∧ w = w' := by
 have hb : (m != 0) = true := by simpa using hm
 clear hm
 go_enter Tryz.func161, Tryz.ntmps161
 go_wp2
 exact ⟨rfl, rfl, rfl⟩
theorem scode_yes (c : UInt8) (h : codeOf c.toNat ≠ -1) (w : World) (hT : Tab w) :
    Calls Tryz.prog 145 #[eB c] w fun e w' => e = .returned (.int .i64 (codeOf c.toNat)) ∧ w = w' := by
  have hC := fun w hT => Code_any c w hT
  simp only [if_neg h] at hC
  have hm := smust_ok
  clear h
  generalize codeOf c.toNat = k at *
  go_enter Tryz.func145, Tryz.ntmps145
  go_wp2_with fail
  go_at_call 64
  refine (hC _ hT).mono ?_
  rintro e w' ⟨rfl, rfl⟩
  go_wp2_with (go_at_call 161; refine (hm _).mono ?_; rintro e w' ⟨rfl, rfl⟩)
  go_ret
  exact ⟨rfl, rfl⟩
theorem scode_no (c : UInt8) (h : codeOf c.toNat = -1) (w : World) (hT : Tab w) :
    Calls Tryz.prog 145 #[eB c] w fun e w' => e = .panicked (errno 10) ∧ w = w' := by
  have hC := fun w hT => Code_any c w hT
  simp only [if_pos h] at hC
  have hm := smust_no 10 (by omega)
  clear h
  go_enter Tryz.func145, Tryz.ntmps145
  go_wp2_with fail
  go_at_call 64
  refine (hC _ hT).mono ?_
  rintro e w' ⟨rfl, rfl⟩
  go_wp2_with (go_at_call 161; refine (hm _).mono ?_; rintro e w' ⟨rfl, rfl⟩)
  exact ⟨rfl, rfl, rfl⟩
set_option maxRecDepth 100000 in
set_option maxHeartbeats 2000000 in
theorem sof_yes (x : List UInt8) (a b c : Int) (h : sumsG x = .ok (a, b, c)) (hreach : x.length ≤ 1000000) (sv : Value) (w : World) (hT : Tab w) (hS : Sl eB w.heap.size w sv x) :
    Calls Tryz.prog 142 #[sv] w fun e w' => e = .returned (v3 a b c) ∧ Below w.heap.size w w' := by
  have hO := Of_yes x a b c h hreach sv
  have hm := smust_ok
  obtain ⟨A, c0, rfl⟩ := hS.len
  obtain ⟨hz, hsz⟩ := zero_of_info infoS
  have hc0 : (v3 0 0 0).cells = #[.int .i64 0, .int .i64 0, .int .i64 0] := rfl
  have hr0 := Rowed.new w 51 (c3 0 0 0)
  have hA0 := below_alloc w (.cells (c3 0 0 0) 51)
  have hlt0 := hr0.lt
  clear h
  go_enter Tryz.func142, Tryz.ntmps142
  go_upto_region 1 with fail
  generalize w.alloc (.cells (c3 0 0 0) 51) = w1 at *
  go_wp2_with fail
  go_at_call 129
  refine (hO _ (hT.below hA0) (hS.next hA0)).mono ?_
  rintro e w2 ⟨rfl, hB⟩
  have hA2 := below_alloc w2 (.cells (c3 a b c) 51)
  have hr2 := Rowed.new w2 51 (c3 a b c)
  have hBx := below_trans hB hA2
  have hr0 := hr0.below hBx hlt0
  have hBy := below_trans hA0 hBx
  clear hO hB hA2 hlt0 hA0
  go_upto_region 2 with fail
  generalize w2.alloc (.cells (c3 a b c) 51) = w3 at *
  generalize w2.heap.size = g2 at *
  have k0 := hr2.cell 0
  have k1 := hr2.cell 1
  have k2 := hr2.cell 2
  have j0 := hr0.cell 0
  have j1 := hr0.cell 1
  have j2 := hr0.cell 2
  have f0 := hr0.frozen 0
  have f1 := hr0.frozen 1
  have f2 := hr0.frozen 2
  simp at k0 k1 k2 j0 j1 j2
  go_wp2_with (go_at_call 161; refine (hm _).mono ?_; rintro e w' ⟨rfl, rfl⟩)
  refine bodyPost_ret (v := v3 a b c) ?_ rfl ⟨rfl, below3 hBy w.heap.size (Nat.le_refl _) _ _ _⟩
  exact results_cell_row (p := 2) rfl _ _ w.heap.size _ _ _ _ rfl (row3 hr0 a b c) Tryz.underlying51 rfl (size_c3 a b c)
set_option maxRecDepth 100000 in
set_option maxHeartbeats 2000000 in
theorem sof_no (x : List UInt8) (m : Int) (hm0 : m ≠ 0) (h : sumsG x = .error m) (hreach : x.length ≤ 1000000) (sv : Value) (w : World) (hT : Tab w) (hS : Sl eB w.heap.size w sv x) :
    Calls Tryz.prog 142 #[sv] w fun e w' => e = .panicked (errno m) ∧ Below w.heap.size w w' := by
  have hO := Of_no x m h hreach sv
  have hm := smust_no m hm0
  obtain ⟨A, c0, rfl⟩ := hS.len
  obtain ⟨hz, hsz⟩ := zero_of_info infoS
  have hc0 : (v3 0 0 0).cells = #[.int .i64 0, .int .i64 0, .int .i64 0] := rfl
  have hA0 := below_alloc w (.cells (c3 0 0 0) 51)
  clear h
  go_enter Tryz.func142, Tryz.ntmps142
  go_upto_region 1 with fail
  generalize w.alloc (.cells (c3 0 0 0) 51) = w1 at *
  go_wp2_with fail
  go_at_call 129
  refine (hO _ (hT.below hA0) (hS.next hA0)).mono ?_
  rintro e w2 ⟨rfl, hB⟩
  have hA2 := below_alloc w2 (.cells (c3 0 0 0) 51)
  have hBy := below_trans hA0 (below_trans hB hA2)
  clear hO hB hA2 hA0
  go_upto_region 2 with fail
  generalize w2.alloc (.cells (c3 0 0 0) 51) = w3 at *
  go_wp2_with (go_at_call 161; refine (hm _).mono ?_; rintro e w' ⟨rfl, rfl⟩)
  exact ⟨rfl, rfl, hBy⟩
end Go.Proofs.YtkibigbcdlilkaaGreatDoor.Sw
namespace Go.Proofs.YtkibigbcdlilkaaGreatDoor.Sw
open Go.RowKit Go.Shelf
attribute [local go_sem] Oper.semAt_some run_store_func
set_option maxRecDepth 100000 in
set_option maxHeartbeats 2000000 in
theorem by_out (y : List UInt8) (z : Int) (c : UInt8) (h : 1000 < y.length ∨ z < 0 ∨ (y.length : Int) ≤ z) (A : Option Addr) (cap : Nat) (w : World) :
    Calls Tryz.prog 122 #[.slice A y.length cap, .int .i64 z, eB c] w fun e w' => e = .panicked (errno 2) ∧ w = w' := by
  have hd : decide ((1000 : Int) < (y.length : Int)) = true ∨ (decide ((1000 : Int) < (y.length : Int)) = false ∧ decide (z < 0) = true) ∨ (decide ((1000 : Int) < (y.length : Int)) = false ∧ decide (z < 0) = false ∧ decide ((y.length : Int) ≤ z) = true) := by
   by_cases h1 : 1000 < y.length
   · exact .inl (decide_eq_true (by omega))
   · by_cases h2 : z < 0
     · exact .inr (.inl ⟨decide_eq_false (by omega), decide_eq_true h2⟩)
     · exact .inr (.inr ⟨decide_eq_false (by omega), decide_eq_false h2, decide_eq_true (by omega)⟩)
  clear h
  rcases hd with d1 | ⟨d1, d2⟩ | ⟨d1, d2, d3⟩
  all_goals
   go_enter Tryz.func122, Tryz.ntmps122
   go_wp2_with fail
   exact ⟨rfl, rfl, rfl⟩
abbrev ByIs (y : List UInt8) (z : Int) (c : UInt8) (w : World) : Ending → World → Prop := fun e w' => Below w.heap.size w w' ∧ ((∃ r v, byG y z c = .ok r ∧ e = .returned v ∧ (∃ g cap, v = .slice (some ⟨g, 0, none⟩) r.length cap ∧ w.heap.size ≤ g) ∧ Sl eB w'.heap.size w' v r) ∨ ∃ m, byG y z c = .error m ∧ e = .panicked (errno m))
set_option maxRecDepth 100000 in
set_option maxHeartbeats 2000000 in
theorem by_any (y : List UInt8) (z : Int) (c : UInt8) (sv : Value) (w : World) (hT : Tab w) (hS : Sl eB w.heap.size w sv y) (hreach : y.length ≤ 1000000) :
    Calls Tryz.prog 122 #[sv, .int .i64 z, eB c] w (ByIs y z c w) := by
  obtain ⟨A, cap, rfl⟩ := hS.len
  by_cases h : 1000 < y.length ∨ z < 0 ∨ (y.length : Int) ≤ z
  · refine (by_out y z c h A cap w).mono ?_
    rintro e w' ⟨rfl, rfl⟩
    exact ⟨Below.refl _ _, .inr ⟨2, by rw [byG, if_pos h], rfl⟩⟩
  obtain ⟨p, rfl⟩ : ∃ p : Nat, z = p := ⟨z.toNat, by omega⟩
  have hp : p < y.length := by omega
  have d1 : decide ((1000 : Int) < (y.length : Int)) = false := decide_eq_false (by omega)
  have d2 : decide ((p : Int) < 0) = false := decide_eq_false (by omega)
  have d3 : decide ((y.length : Int) ≤ (p : Int)) = false := decide_eq_false (by omega)
  have hpl : (p : Int) < y.length := by omega
  cases hs : sumsG y with
  | error m =>
    have hg : byG y p c = .error m := by rw [byG, if_neg h, hs]
    have hm0 : m ≠ 0 := by
     rcases sums_cases y with ⟨_, e⟩ | ⟨_, _, _, e⟩ | ⟨_, _, _, e⟩ <;> rw [e] at hs <;> cases hs <;> omega
    have hO := sof_no y m hm0 hs hreach (.slice A y.length cap)
    have Hg := Lib.hid hg
    clear hg hs h hp
    go_enter Tryz.func122, Tryz.ntmps122
    go_wp2_with fail
    go_at_call 142
    refine (hO _ hT hS).mono ?_
    rintro e w1 ⟨rfl, hB⟩
    exact ⟨rfl, hB, .inr ⟨m, Hg.out, rfl⟩⟩
  | ok r =>
    obtain ⟨a, b, d⟩ := r
    have hg : byG y p c = if codeOf c.toNat = -1 then .error 10 else .ok (y.set p c) := by rw [byG, if_neg h, hs, Int.toNat_natCast]
    have hO := sof_yes y a b d hs hreach (.slice A y.length cap)
    have hCl := fun w h => SClone_any (.slice A y.length cap) y (by omega) w h
    clear hs h
    by_cases hc : codeOf c.toNat = -1
    · have Hg := Lib.hid (show byG y p c = .error 10 by rw [hg, if_pos hc])
      have hC := scode_no c hc
      clear hg hc hp
      go_enter Tryz.func122, Tryz.ntmps122
      go_wp2_with fail
      go_at_call 142
      refine (hO _ hT hS).mono ?_
      rintro e w1 ⟨rfl, hB⟩
      go_wp2_with fail
      go_at_call 145
      refine (hC _ (hT.below hB)).mono ?_
      rintro e w' ⟨rfl, rfl⟩
      exact ⟨rfl, hB, .inr ⟨10, Hg.out, rfl⟩⟩
    · have Hg := Lib.hid (show byG y p c = .ok (y.set p c) by rw [hg, if_neg hc])
      have hC := scode_yes c hc
      have Hp := Lib.hid hp
      clear hg hc hp
      go_enter Tryz.func122, Tryz.ntmps122
      go_wp2_with fail
      go_at_call 142
      refine (hO _ hT hS).mono ?_
      rintro e w1 ⟨rfl, hB⟩
      go_wp2_with fail
      go_at_call 145
      refine (hC _ (hT.below hB)).mono ?_
      rintro e w' ⟨rfl, rfl⟩
      go_wp2_with fail
      go_at_call 97
      refine (hCl _ (hS.next hB)).mono ?_
      rintro e w2 ⟨v, rfl, hv, hB2⟩
      obtain ⟨g, cap2, rfl, hgB, hgl, hput⟩ := own_put hv p c Hp.out
      obtain ⟨⟨x0, hc0⟩, hf0, hsl⟩ := hput w2 rfl
      have hSl := hsl w2.heap.size hgl
      have hBf := (below_trans hB hB2).setCell (p := ⟨g, p, none⟩) (Nat.le_trans hB.size hgB) (eB c)
      have hB' := hB
      clear hput hsl hO hC hCl hv hS hB hB2
      go_wp2_with fail
      go_ret
      exact ⟨hBf, .inl ⟨_, _, Hg.out, rfl, ⟨g, cap2, by simp, Nat.le_trans hB'.size hgB⟩, by simpa using hSl⟩⟩
set_option maxRecDepth 100000 in
set_option maxHeartbeats 2000000 in
theorem By1_is (b1 b2 b3 b4 : Nat) (A : Option Addr) (cap : Nat) (y : List UInt8) (z : Int) (c : UInt8) (hreach : y.length ≤ 1000000) (W : World) (hT : Tab W) (hS : Sl eB W.heap.size W (.slice A y.length cap) y) (h1 : W.cell? ⟨b1, 0, none⟩ = some (.slice A y.length cap)) (h2 : W.cell? ⟨b2, 0, none⟩ = some (.int .i64 z)) (h3 : W.cell? ⟨b3, 0, none⟩ = some (eB c)) (h4 : Boxed W b4 22 (.slice none 0 0)) :
    sWork 121 #[.pointer (some ⟨b1, 0, none⟩), .pointer (some ⟨b2, 0, none⟩), .pointer (some ⟨b3, 0, none⟩), .pointer (some ⟨b4, 0, none⟩)] b4 b4 W
      (fun w' => ∃ r v, byG y z c = .ok r ∧ Boxed w' b4 22 v ∧ (∃ g cap, v = .slice (some ⟨g, 0, none⟩) r.length cap ∧ W.heap.size ≤ g) ∧ Sl eB w'.heap.size w' v r) (fun n w' => byG y z c = .error n ∧ Boxed w' b4 22 (.slice none 0 0)) := by
  have hBy := by_any y z c (.slice A y.length cap) W hT hS hreach
  have hl4 := h4.lt
  unfold sWork
  clear hS hT
  go_enter Tryz.func121, Tryz.ntmps121
  go_wp2_with fail
  go_at_call 122
  refine hBy.mono ?_
  rintro e w1 ⟨hB, ⟨r, v, hg, rfl, ⟨g, cap2, rfl, hgl⟩, hv⟩ | ⟨m, hg, rfl⟩⟩
  · have h5 : Boxed w1 b4 22 (.slice none 0 0) := (hB.block _ hl4).trans h4
    have hc5 := h5.cell
    have hf5 := h5.frozen
    have h6 := h5.set (.slice (some ⟨g, 0, none⟩) r.length cap2)
    have hv6 := hv.apart b4 0 (.slice (some ⟨g, 0, none⟩) r.length cap2) (by omega)
    go_wp2_with fail
    go_end0
    exact ⟨kp2_t (kp2_of hB) (kp2_set1 _ _ _ _ _ _), .inl ⟨⟨_, rfl⟩, r, _, hg, h6, ⟨g, cap2, rfl, hgl⟩, by simpa using hv6⟩⟩
  · exact ⟨rfl, kp2_of hB, .inr ⟨m, rfl, hg, (hB.block _ hl4).trans h4⟩⟩
abbrev ByTells (y : List UInt8) (z : Int) (c : UInt8) (w : World) : Ending → World → Prop := fun e w' => Below w.heap.size w w' ∧ ((∃ r v, byG y z c = .ok r ∧ e = .returned (.tuple #[v, .int .i64 0]) ∧ Sl eB w'.heap.size w' v r) ∨ ∃ m, byG y z c = .error m ∧ e = .returned (.tuple #[.slice none 0 0, .int .i64 m]))
set_option maxRecDepth 100000 in
set_option maxHeartbeats 2000000 in
theorem By_any (y : List UInt8) (z : Int) (c : UInt8) (sv : Value) (w : World) (hT : Tab w) (hS : Sl eB w.heap.size w sv y) (hreach : y.length ≤ 1000000) :
    Calls Tryz.prog 98 #[sv, .int .i64 z, eB c] w (ByTells y z c w) := by
  have hmf : ∀ (fn : Fn) (first cap : Array Value) (w : World), (Instr.makeFunc fn first cap).run Tryz.prog w = .ok (.func fn first cap) w := fun _ _ _ _ => rfl
  obtain ⟨A, cap, rfl⟩ := hS.len
  have hb1 := (((Boxed.new w 22 (.slice A y.length cap)).alloc (.cells #[.int .i64 z] 3)).alloc (.cells #[eB c] 5)).alloc (.cells #[.slice none 0 0] 22)
  have hb2 := ((Boxed.new (w.alloc (.cells #[.slice A y.length cap] 22)) 3 (.int .i64 z)).alloc (.cells #[eB c] 5)).alloc (.cells #[.slice none 0 0] 22)
  have hb3 := (Boxed.new ((w.alloc (.cells #[.slice A y.length cap] 22)).alloc (.cells #[.int .i64 z] 3)) 5 (eB c)).alloc (.cells #[.slice none 0 0] 22)
  have hb4 := Boxed.new (((w.alloc (.cells #[.slice A y.length cap] 22)).alloc (.cells #[.int .i64 z] 3)).alloc (.cells #[eB c] 5)) 22 (.slice none 0 0)
  have hA : Below w.heap.size w ((((w.alloc (.cells #[.slice A y.length cap] 22)).alloc (.cells #[.int .i64 z] 3)).alloc (.cells #[eB c] 5)).alloc (.cells #[.slice none 0 0] 22)) := ((((Below.refl _ w).alloc (Nat.le_refl _) _).alloc (by simp) _).alloc (by simp; omega) _).alloc (by simp; omega) _
  have hs0 : ((((w.alloc (.cells #[.slice A y.length cap] 22)).alloc (.cells #[.int .i64 z] 3)).alloc (.cells #[eB c] 5)).alloc (.cells #[.slice none 0 0] 22)).heap.size = w.heap.size + 4 := by simp
  obtain ⟨W0, hW0⟩ : ∃ W0, (((w.alloc (.cells #[.slice A y.length cap] 22)).alloc (.cells #[.int .i64 z] 3)).alloc (.cells #[eB c] 5)).alloc (.cells #[.slice none 0 0] 22) = W0 := ⟨_, rfl⟩
  rw [World.size_alloc] at hb2
  rw [World.size_alloc, World.size_alloc] at hb3
  rw [World.size_alloc, World.size_alloc, World.size_alloc] at hb4
  rw [hW0] at hb1 hb2 hb3 hb4 hA hs0
  have hA1 := hA.alloc (by omega) (.cells #[.int .i64 0] 24)
  have hwork := By1_is w.heap.size (w.heap.size + 1) (w.heap.size + 1 + 1) (w.heap.size + 1 + 1 + 1) A cap y z c hreach (W0.alloc (.cells #[.int .i64 0] 24)) (hT.below hA1) (hS.next hA1) (hb1.alloc _).cell (hb2.alloc _).cell (hb3.alloc _).cell (hb4.alloc _)
  have hct := scaught_any 121 _ (w.heap.size + 1 + 1 + 1) (w.heap.size + 1 + 1 + 1) W0 (by omega) (by omega) (enters_of Tryz.func121 (by kernel_rfl) rfl) _ _ hwork
  have HW0 := Lib.hid hW0
  clear hwork hb1 hb2 hb3 hb4 hW0 hA1 hS hT
  go_enter Tryz.func98, Tryz.ntmps98
  go_wp2_with fail
  rw [HW0.out]
  go_at_call 118
  refine hct.mono ?_
  rintro e w' ⟨w1, m, hK, rfl, rfl, hlt, hR⟩
  have hBf : Below w.heap.size w (w1.setCell ⟨W0.heap.size, 0, none⟩ (.int .i64 m)) := (below_of_kp2 hK hA (by omega) (by omega) (by omega)).setCell (p := ⟨W0.heap.size, 0, none⟩) (by show w.heap.size ≤ W0.heap.size; omega) _
  clear hct
  rcases hR with ⟨rfl, r, v, hg, hv, ⟨g, cap2, rfl, hgl⟩, hsl⟩ | ⟨hg, hv⟩
  · have hvw := Boxed.set_other (b' := W0.heap.size) (y := .int .i64 0) hv (by omega)
    have hc := hvw.cell
    rw [World.size_alloc] at hgl
    have hsl2 := hsl.apart W0.heap.size 0 (.int .i64 0) (by omega)
    have hsz : (w1.setCell ⟨W0.heap.size, 0, none⟩ (.int .i64 0)).heap.size = w1.heap.size := by simp
    rw [← hsz] at hsl2
    clear hvw hsl hsz hv hlt hK
    generalize w1.setCell ⟨W0.heap.size, 0, none⟩ (.int .i64 0) = w2 at *
    go_wp2_with fail
    go_ret2
    exact ⟨hBf, .inl ⟨r, _, hg, rfl, hsl2⟩⟩
  · have hvw := Boxed.set_other (b' := W0.heap.size) (y := .int .i64 m) hv (by omega)
    have hc := hvw.cell
    clear hvw
    generalize w1.setCell ⟨W0.heap.size, 0, none⟩ (.int .i64 m) = w2 at *
    go_wp2_with fail
    go_ret2
    exact ⟨hBf, .inr ⟨m, hg, rfl⟩⟩
end Go.Proofs.YtkibigbcdlilkaaGreatDoor.Sw
namespace Go.Proofs.YtkibigbcdlilkaaGreatDoor.Sw
open Go.RowKit Go.Shelf
attribute [local go_sem] Oper.semAt_some run_store_func
theorem own_below {β : Type} {B : Nat} {I : β → World → Prop} (h : OwnFrom B I) {s : β} {W W' : World} (hs : I s W) (hB : Below W.heap.size W W') : I s W' :=
 h _ _ _ none hs ⟨hB.os, hB.tape, hB.output, hB.size, fun k hk _ => hB.block k hk⟩ (fun r e => by cases e)
set_option maxRecDepth 100000 in
theorem swapped_any (b4 b8 : Nat) (s S q : Int) (hs0 : 0 ≤ s) (hs4 : s < 4) (hS0 : 0 ≤ S) (hS4 : S < 4) (hq0 : 0 ≤ q) (hq4 : q < 4) (w : World) (h4 : w.cell? ⟨b4, 0, none⟩ = some (.int .i64 s)) (h8 : w.cell? ⟨b8, 1, none⟩ = some (.int .i64 S)) :
    Calls Tryz.prog 143 #[.int .i64 q, .pointer (some ⟨b4, 0, none⟩), .pointer (some ⟨b8, 0, none⟩)] w fun e w' => e = .returned (.int .i64 (swC (s - S) q)) ∧ w = w' := by
  have e1 : wrap64 (q + s) = q + s := IntWalk.wrap64_in _ (by omega)
  have e2 : wrap64 (q + s - S) = q + s - S := IntWalk.wrap64_in _ (by omega)
  have e3 : wrap64 (q + s - S + 4) = q + s - S + 4 := IntWalk.wrap64_in _ (by omega)
  have e1' : IntKind.i64.wrap (q + s) = q + s := IntWalk.i64_in _ (by omega)
  have e2' : IntKind.i64.wrap (q + s - S) = q + s - S := IntWalk.i64_in _ (by omega)
  have e3' : IntKind.i64.wrap (q + s - S + 4) = q + s - S + 4 := IntWalk.i64_in _ (by omega)
  have e4 : (q + s - S + 4).tmod 4 = swC (s - S) q := by
   rw [Int.tmod_eq_emod_of_nonneg (by omega), swC]
   congr 1
   omega
  have He := Lib.hid e4
  clear e4 hs0 hs4 hS0 hS4 hq0 hq4
  go_enter Tryz.func143, Tryz.ntmps143
  go_wp2_with fail
  go_ret
  refine ⟨?_, rfl⟩
  rw [← He.out]
  rfl
theorem swaps_any (A : Option Addr) (l c g : Nat) (lb : Array Value) (w : World) :
    Calls Tryz.prog 144 #[.slice A l c, .func (.func g) #[] lb] w fun e w' => e = .returned (.func (.func 162) #[] #[.pointer (some ⟨w.heap.size, 0, none⟩), .pointer (some ⟨w.heap.size + 1, 0, none⟩)]) ∧ w' = (w.alloc (.cells #[.slice A l c] 22)).alloc (.cells #[.func (.func g) #[] lb] 46) := by
  have hmf : ∀ (fn : Fn) (first cap : Array Value) (w : World), (Instr.makeFunc fn first cap).run Tryz.prog w = .ok (.func fn first cap) w := fun _ _ _ _ => rfl
  go_enter Tryz.func144, Tryz.ntmps144
  go_wp2_with fail
  go_ret
  exact ⟨rfl, rfl⟩
def moreG (y : List UInt8) (d : Int) (p : Nat) : Int := (swC d (codeOf (atB y p).toNat) - codeOf (atB y p).toNat) * ((p : Int) + 1)
set_option maxRecDepth 1000000 in
set_option maxHeartbeats 4000000 in
theorem swaps_seq (b0 b1 b4 b8 : Nat) (A : Option Addr) (cap : Nat) (y : List UInt8) (s S : Int) (hreach : y.length ≤ 1000) (hy : FourL y) (hs0 : 0 ≤ s) (hs4 : s < 4) (hS0 : 0 ≤ S) (hS4 : S < 4) (w0 : World) (l0 : b0 < w0.heap.size) (l1 : b1 < w0.heap.size) (l4 : b4 < w0.heap.size) (l8 : b8 < w0.heap.size)
    (k0 : w0.cell? ⟨b0, 0, none⟩ = some (.slice A y.length cap)) (k1 : w0.cell? ⟨b1, 0, none⟩ = some (.func (.func 143) #[] #[.pointer (some ⟨b4, 0, none⟩), .pointer (some ⟨b8, 0, none⟩)]))
    (k4 : w0.cell? ⟨b4, 0, none⟩ = some (.int .i64 s)) (k8 : w0.cell? ⟨b8, 1, none⟩ = some (.int .i64 S)) (hSl : Sl eB w0.heap.size w0 (.slice A y.length cap) y) (hT : Tab w0) :
    SeqI Fence.wide Tryz.prog 162 #[.pointer (some ⟨b0, 0, none⟩), .pointer (some ⟨b1, 0, none⟩)] (fun p : Nat => #[.int .i64 p, .int .i64 (moreG y (s - S) p)]) (Below w0.heap.size) (List.range y.length) none w0 := by
 intro l J JS W hW hJo hY h0
 have c0 := (hW.cell (p := ⟨b0, 0, none⟩) l0).trans k0
 refine callsIn_of_wp Tryz.func162 rfl trivial ?_ rfl
 simp only [Tryz.ntmps162, List.size_toArray, List.length_cons, List.length_nil, Nat.reduceAdd, Nat.reduceSub, Array.replicate_succ, Array.replicate_zero, List.push_toArray, List.append_toArray, List.nil_append, List.cons_append]
 gi_wp2_with fail
 gi_loopw [9] (fun i wr => ∃ j : Nat, j ≤ y.length ∧ i = .int .i64 j ∧ J (List.range j) wr ∧ Below w0.heap.size w0 wr) (fun i _ => y.length - (intOf i).toNat)
 case atStart => exact ⟨0, Nat.zero_le _, rfl, h0, hW⟩
 case round =>
  obtain ⟨j, hj, rfl, hJ, hB⟩ := hrel
  by_cases hlt : j < y.length
  · obtain ⟨A', c', he, _, hcs⟩ := id hSl
    injection he with he1 he2 he3
    subst he1 he3
    obtain ⟨b, off, rfl, hb, hcell⟩ := hcs (by omega)
    have hck := (hB.cell (p := ⟨b, off + j, none⟩) hb).trans (hcell j _ (atB_lt hlt))
    have r1 := (hB.cell (p := ⟨b1, 0, none⟩) l1).trans k1
    have r4 := (hB.cell (p := ⟨b4, 0, none⟩) l4).trans k4
    have r8 := (hB.cell (p := ⟨b8, 1, none⟩) l8).trans k8
    have hTr := hT.below hB
    have hcc := code_bound (hy j hlt)
    have hC := fun w hT => scode_yes (atB y j) (hy j hlt) w hT
    have hsw := swapped_any b4 b8 s S (codeOf (atB y j).toNat) hs0 hs4 hS0 hS4 (by omega) (by omega) wr r4 r8
    have hrg := swC_range (s - S) (codeOf (atB y j).toNat)
    have Hm := Lib.hid (show moreG y (s - S) j = (swC (s - S) (codeOf (atB y j).toNat) - codeOf (atB y j).toNat) * ((j : Int) + 1) from rfl)
    obtain ⟨fn, tmps, assign, body, hyy, hR⟩ := hY _ j wr hJ (range_pre j y.length hlt)
    rw [← List.range_succ] at hR
    have hj1000 : j < 1000 := by omega
    have dl : decide ((j : Int) < (y.length : Int)) = true := decide_eq_true (by omega)
    have hjl : (j : Int) < y.length := by omega
    generalize moreG y (s - S) j = mg at *
    generalize swC (s - S) (codeOf (atB y j).toNat) = nw at *
    generalize codeOf (atB y j).toNat = q at *
    generalize atB y j = ch at *
    have e1 : wrap64 (nw - q) = nw - q := IntWalk.wrap64_in _ (by omega)
    have e1' : IntKind.i64.wrap (nw - q) = nw - q := IntWalk.i64_in _ (by omega)
    have hd : nw - q = -3 ∨ nw - q = -2 ∨ nw - q = -1 ∨ nw - q = 0 ∨ nw - q = 1 ∨ nw - q = 2 ∨ nw - q = 3 := by omega
    have hb3 : -3003 ≤ (nw - q) * ((j : Int) + 1) ∧ (nw - q) * ((j : Int) + 1) ≤ 3003 := by rcases hd with e | e | e | e | e | e | e <;> rw [e] <;> omega
    have e2 : wrap64 ((nw - q) * ((j : Int) + 1)) = mg := by rw [Hm.out]; exact IntWalk.wrap64_in _ (by omega)
    have e2' : IntKind.i64.wrap ((nw - q) * ((j : Int) + 1)) = mg := by rw [Hm.out]; exact IntWalk.i64_in _ (by omega)
    clear hcell hcs hSl hT hY hJo hb3 hd Hm
    gi_wp2_with fail
    refine ⟨trivial, ?_⟩
    gi_at_call 145
    refine (callsIn_wide.2 (hC _ hTr)).mono ?_
    rintro e w' ⟨rfl, rfl⟩
    gi_wp2_with fail
    refine ⟨trivial, ?_⟩
    gi_at_call 143
    refine (callsIn_wide.2 hsw).mono ?_
    rintro e w' ⟨rfl, rfl⟩
    gi_wp2_with fail
    refine (roundIn_room rfl hR).mono ?_
    rintro e W3 (⟨rfl, hJ3, hK3, hF3⟩ | ⟨rfl, hS3⟩)
    · gi_wp2_with fail
      refine ⟨⟨j + 1, by omega, by go_num, hJ3, hB.trans hK3⟩, ?_⟩
      simp [intOf]
      omega
    · gi_wp2_with fail
      refine bodyPost_ret (results_none rfl _ _ _) rfl ?_
      exact .inl ⟨_, rfl, hS3⟩
  · obtain rfl : j = y.length := by omega
    have dl : decide ((y.length : Int) < (y.length : Int)) = false := decide_eq_false (by omega)
    gi_wp2_with fail
    go_end0
    exact .inr (.inl ⟨trivial, ⟨_, rfl⟩, hJ⟩)
end Go.Proofs.YtkibigbcdlilkaaGreatDoor.Sw
