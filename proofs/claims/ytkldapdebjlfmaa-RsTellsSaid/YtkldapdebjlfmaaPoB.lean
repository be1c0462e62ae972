/- Contracts of bytes.Clone, poly.length, Trim, factors and its iterator. -/
import Derived.Test.YtkldapdebjlfmaaPoA
import Derived.Test.YtkldapdebjlfmaaPoM
import Derived.Test.YtkldapdebjlfmaaR2
namespace Go.Proofs.Ytkldapdebjlfmaa
open Go.RowKit Go.Shelf
attribute [local go_sem] Oper.semAt_some run_store_func

theorem info_u8 : (Try.prog.info? 5).map (fun i => (i.zero, i.size, i.bytes)) = some (some (.int .u8 0), 1, 1) := by kernel_rfl
theorem row_made (w : World) : (w.alloc (.cells #[] 5)).ownsRow w.heap.size 5 1 (.slice (some ⟨w.heap.size, 0, none⟩) 0 0) 0 [] :=
  World.ownsRow_made w #[] 0 (Nat.le_refl _) (by unfold maxLen; omega) rfl
theorem below_alloc (w : World) (o : Obj) : Below w.heap.size w (w.alloc o) := (Below.refl w.heap.size w).alloc (Nat.le_refl _) o
/-- A row of the call's own that holds these bytes. -/
def Own8 (B : Nat) (W : World) (v : Value) (bs : List UInt8) : Prop := W.ownsRow B 5 1 v bs.length (bs.map eB)
theorem Own8.sl {B : Nat} {W : World} {v : Value} {bs : List UInt8} (h : Own8 B W v bs) : Sl eB W.heap.size W v bs := Sl.of_own h

set_option maxRecDepth 100000 in
set_option maxHeartbeats 400000 in
theorem Clone_any (sv : Value) (a : List UInt8) (hreach : a.length ≤ 140737488355328) (w : World) (ha : Sl eB w.heap.size w sv a) :
    Calls Try.prog 65 #[sv] w fun e w' => ∃ v, e = .returned v ∧ Own8 w.heap.size w' v a ∧ Below w.heap.size w w' := by
  obtain ⟨i0, hi, hz0, hz1, hz2⟩ := info_parts info_u8
  have hrow := row_made w
  have hB1 : Below w.heap.size w (w.alloc (.cells #[] 5)) := (Below.refl _ _).alloc (Nat.le_refl _) _
  obtain ⟨A, c, rfl⟩ := ha.len
  cases A with
  | none =>
    have hx : a = [] := by
      obtain ⟨A, c', e, _, hcells⟩ := ha
      cases e
      cases a with
      | nil => rfl
      | cons x xs => obtain ⟨_, _, h, _⟩ := hcells (by simp); cases h
    subst hx
    have hq : ∀ w, (binOp .eql 22 (.slice none 0 c) (.slice none 0 0)).run Try.prog w = .ok (.bool true) w := fun w => Lib.run_eql_slice_nil w 22 5 none 0 c 0 0 Try.underlying22
    go_enter Try.func65, Try.ntmps65
    go_wp2
    go_ret
    exact ⟨_, rfl, ⟨rfl, .inl ⟨rfl, rfl⟩⟩, Below.refl _ _⟩
  | some ad =>
    have hq : ∀ w, (binOp .eql 22 (.slice (some ad) a.length c) (.slice none 0 0)).run Try.prog w = .ok (.bool false) w := fun w => Lib.run_eql_slice_nil w 22 5 (some ad) a.length c 0 0 Try.underlying22
    go_enter Try.func65, Try.ntmps65
    go_wp2_with
      (at_builtin
       refine wpList_append_sl _ rfl (.tmp 5) (.tmp 6) _ rfl w.heap.size 5 i0 (.int .u8 0) 1 Try.underlying22 hi hz0 hz1 hz2 rfl _ 0 [] hrow rfl w.heap.size (.slice (some ad) a.length c) a (ha.below hB1) rfl (fun _ => rfl) (by unfold maxLen; omega) (by omega) (by simp) ?_
       intro v1 w1 hown1 hg1 hat1
       have hB2 : Below w.heap.size w w1 := hB1.trans (below_grown hrow hg1 (by simp) (Nat.le_refl _)))
    go_ret
    exact ⟨v1, rfl, by simpa [Own8] using hown1, hB2⟩

theorem beq_zero (x : UInt8) (h : x = 0) : ((x.toNat : Int) == 0) = true := by subst h; rfl
theorem beq_some (x : UInt8) (h : x ≠ 0) : ((x.toNat : Int) == 0) = false := by
  rw [beq_eq_false_iff_ne]; intro e; exact h (UInt8.toNat_inj.1 (by simp; omega))
set_option maxRecDepth 100000 in
set_option maxHeartbeats 1000000 in
theorem length_any (sv : Value) (p : List UInt8) (hreach : p.length ≤ 140737488355328) (B : Nat) (w : World) (hS : Sl eB B w sv p) :
    Calls Try.prog 66 #[sv] w fun e w' => e = .returned (.int .i64 (tl (C p) p.length)) ∧ w = w' := by
  obtain ⟨A, cap, rfl, hcap, hcs⟩ := hS
  go_enter Try.func66, Try.ntmps66
  go_wp2
  go_loop [3] (fun i => ∃ k : Nat, k ≤ p.length ∧ i = .int .i64 k ∧ tl (C p) p.length = tl (C p) k) (fun i => (intOf i).toNat)
  case atStart => exact ⟨p.length, Nat.le_refl _, rfl, rfl⟩
  case round =>
    obtain ⟨k, hk, rfl, ht⟩ := hrel
    have Ht := Lib.hid ht
    clear ht
    by_cases h0 : k = 0
    · subst h0
      go_wp2
      go_ret
      exact ⟨by rw [Ht.out]; rfl, rfl⟩
    · obtain ⟨j, rfl⟩ : ∃ j, k = j + 1 := ⟨k - 1, by omega⟩
      obtain ⟨b, off, rfl, hb, hcell⟩ := hcs (by omega)
      have hcx : w.cell? ⟨b, off + j, none⟩ = some (eB (p[j]'(by omega))) := hcell j _ (by simp)
      have hCj := C_get p j (by omega)
      have d0 : decide (0 < ((j + 1 : Nat) : Int)) = true := decide_eq_true (by omega)
      have e1 : IntKind.i64.wrap (((j + 1 : Nat) : Int) - 1) = (j : Int) := by rw [IntWalk.i64_in _ (by omega)]; omega
      have Htl := Lib.hid (show tl (C p) (j + 1) = if C p j = 0 then tl (C p) j else j + 1 from rfl)
      clear hcell hcs h0
      rw [hCj] at Htl
      generalize p[j] = x at *
      clear hCj
      by_cases hx : x = 0
      · have hz := beq_zero x hx
        have Hx := Lib.hid hx
        clear hx
        go_wp2
        go_round
        case rel => exact ⟨j, by omega, by go_num, by rw [Ht.out, Htl.out, if_pos Hx.out]⟩
        case measure => simp [intOf]
      · have hz := beq_some x hx
        have Hx := Lib.hid hx
        clear hx
        go_wp2
        go_ret
        exact ⟨by rw [Ht.out, Htl.out, if_neg Hx.out]; rfl, rfl⟩

theorem take_tr (p : List UInt8) : p.take (tl (C p) p.length) = tr (C p) p.length := by
  have hl := tl_le (C p) p.length
  apply List.ext_getElem
  · rw [List.length_take, tr_length]; omega
  · intro i h1 h2
    rw [List.length_take] at h1
    rw [List.getElem_take]
    simp only [tr, List.getElem_map, List.getElem_range]
    exact (C_get p i (by omega)).symm
set_option maxRecDepth 100000 in
set_option maxHeartbeats 1000000 in
theorem Trim_any (sv : Value) (p : List UInt8) (hreach : p.length ≤ 140737488355328) (w : World) (hS : Sl eB w.heap.size w sv p) :
    Calls Try.prog 60 #[sv] w fun e w' => ∃ v, e = .returned v ∧ Own8 w.heap.size w' v (tr (C p) p.length) ∧ Below w.heap.size w w' := by
  have hlen := fun w hS => length_any sv p hreach w.heap.size w hS
  obtain ⟨A, cap, e, hcap, hcs⟩ := hS
  subst e
  have hS : Sl eB w.heap.size w (.slice A p.length cap) p := ⟨A, cap, rfl, hcap, hcs⟩
  have hl := tl_le (C p) p.length
  have hS2 := hS.upto hl
  rw [take_tr] at hS2
  have htl := tr_length (C p) p.length
  have hcl := fun w hw => Clone_any (.slice A (tl (C p) p.length) cap) (tr (C p) p.length) (by rw [htl]; omega) w hw
  generalize tl (C p) p.length = t at *
  generalize tr (C p) p.length = q at *
  have c1 : (t : Int) ≤ cap := by omega
  go_enter Try.func60, Try.ntmps60
  go_wp2_with fail
  go_at_call 66
  refine (hlen _ hS).mono ?_
  rintro e w' ⟨rfl, rfl⟩
  clear hlen
  go_wp2_with fail
  go_at_call 65
  refine (hcl _ hS2).mono ?_
  rintro e w1 ⟨v, rfl, hv, hB⟩
  go_wp2
  go_ret
  exact ⟨v, rfl, hv, hB⟩
end Go.Proofs.Ytkldapdebjlfmaa
