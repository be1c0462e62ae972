import Derived.Test.YtjclfkbhakjdaaaDoorFrJY
namespace Go.Proofs.YtjclfkbhakjdaaaDoor
open Go.RowKit Go.Shelf
attribute [local go_sem] Oper.semAt_some run_store_func
theorem turnback_ne (a : UInt8) (s : List UInt8) (n : Int) (h : Tu.backG a s = .error n) : n ≠ 0 := by
 unfold Tu.backG Tu.gatG at h
 split at h
 · cases h; decide
 · have hw := Tu.walkG_ne Tu.triG (fun t _ => t) Tu.triG_ne a s
   split at h
   · cases h
   · rename_i q hq
     cases h
     exact hw _ hq
theorem walk_len (f : UInt8 → UInt8 → Except Int UInt8) (nx : UInt8 → UInt8 → UInt8) (a : UInt8) (s : List UInt8) (h : (Tu.walkG f nx a s).2 = none) : (Tu.walkG f nx a s).1.length = s.length := by
 induction s generalizing a with
 | nil => simp [Tu.walkG]
 | cons t s ih =>
   rw [Tu.walkG] at h ⊢
   cases hf : f a t with
   | error n => rw [hf] at h; cases h
   | ok c =>
     rw [hf] at h
     simp only at h ⊢
     rw [List.length_cons, ih _ h, List.length_cons]
theorem turnback_len (a : UInt8) (s t : List UInt8) (h : Tu.backG a s = .ok t) : t.length = s.length := by
 unfold Tu.backG Tu.gatG at h
 split at h
 · cases h
 · split at h
   · rename_i hn
     cases h
     exact walk_len _ _ _ _ hn
   · cases h
theorem each_ne (bs : List UInt8) (m : Nat) : ∀ k n, Tr.eachG Tr.backG bs m k = .error n → n ≠ 0
  | 0, n, h => by cases h
  | k + 1, n, h => by
    rw [Tr.eachG] at h
    cases h1 : Tr.eachG Tr.backG bs m k with
    | error e => rw [h1] at h; cases h; exact each_ne bs m k _ h1
    | ok r =>
      rw [h1] at h
      simp only at h
      cases h2 : Tr.backG (Tr.partL bs m k) with
      | error e =>
        rw [h2] at h
        cases h
        unfold Tr.backG at h2
        split at h2
        · cases h2; decide
        · split at h2
          · cases h2; decide
          · cases h2
      | ok y => rw [h2] at h; cases h
set_option maxRecDepth 100000 in
set_option maxHeartbeats 1000000 in
theorem turnedBack_any (sv : Value) (s : List UInt8) (hr : s.length ≤ 1000) (w : World) (hT : Tabs w) (hS : Sl eB w.heap.size w sv s) :
    Calls Tryd.prog 43 #[sv] w fun e w' => StepIs w (Tu.backG 65 s) e w' := by
  have hq := Tu.Back_any 65 sv s (by omega) w hT.1 hS
  have HN := Lib.hid (turnback_ne 65 s)
  obtain ⟨A, c, rfl⟩ := hS.len
  clear hS hr
  generalize Tu.backG 65 s = R at *
  go_enter Tryd.func43, Tryd.ntmps43
  go_wp2_with fail
  go_at_call 67
  refine hq.mono ?_
  rintro e w1 ⟨hB, ⟨v, r, rfl, rfl, hv⟩ | ⟨n, rfl, rfl⟩⟩
  · have hs := Sl.of_own hv
    go_wp2_with fail
    go_at_call 18
    refine (must_ok _).mono ?_
    rintro e w2 ⟨rfl, rfl⟩
    go_wp2_with fail
    go_ret
    exact ⟨hB, .inl ⟨_, _, rfl, rfl, hs⟩⟩
  · have hn := HN.out n rfl
    go_wp2_with fail
    go_at_call 18
    refine (must_no n hn _).mono ?_
    rintro e w2 ⟨rfl, rfl⟩
    go_wp2_with fail
    exact ⟨rfl, hB, .inr ⟨n, rfl, hn, rfl⟩⟩
set_option maxRecDepth 100000 in
set_option maxHeartbeats 1000000 in
theorem unpacked_any (sv : Value) (t : List UInt8) (k : Nat) (hl : t.length = k * 26) (hr : t.length ≤ 1000) (w : World) (hS : Sl eB w.heap.size w sv t) :
    Calls Tryd.prog 44 #[sv] w fun e w' => StepIs w (Tr.eachG Tr.backG t 26 k) e w' := by
  have hq := Tr.Unpack_yes sv t k hl (by omega) w hS
  have HN := Lib.hid (each_ne t 26 k)
  obtain ⟨A, c, rfl⟩ := hS.len
  clear hS hr hl
  generalize Tr.eachG Tr.backG t 26 k = R at *
  go_enter Tryd.func44, Tryd.ntmps44
  go_wp2_with fail
  go_at_call 68
  refine hq.mono ?_
  rintro e w1 ⟨hB, ⟨v, r, rfl, rfl, hv⟩ | ⟨n, rfl, rfl⟩⟩
  · have hs := Sl.of_own hv
    go_wp2_with fail
    go_at_call 18
    refine (must_ok _).mono ?_
    rintro e w2 ⟨rfl, rfl⟩
    go_wp2_with fail
    go_ret
    exact ⟨hB, .inl ⟨_, _, rfl, rfl, hs⟩⟩
  · have hn := HN.out n rfl
    go_wp2_with fail
    go_at_call 18
    refine (must_no n hn _).mono ?_
    rintro e w2 ⟨rfl, rfl⟩
    go_wp2_with fail
    exact ⟨rfl, hB, .inr ⟨n, rfl, hn, rfl⟩⟩
def bindG (r : Except Int (List UInt8)) (f : List UInt8 → Except Int (List UInt8)) : Except Int (List UInt8) := match r with | .error e => .error e | .ok y => f y
def stepsB (n k : Nat) (x : List UInt8) : Nat → Except Int (List UInt8)
 | 0 => .ok x
 | 1 => unbG n x
 | 2 => bindG (unbG n x) (Tu.backG 65)
 | _ => bindG (bindG (unbG n x) (Tu.backG 65)) fun t => Tr.eachG Tr.backG t 26 k
def bakG (n k : Nat) (x : List UInt8) : Except Int (List UInt8) := stepsB n k x 3
theorem unb_len {n : Nat} {x y : List UInt8} (h : unbG n x = .ok y) : y.length = x.length - n := by
 unfold unbG at h
 split at h
 · split at h
   · cases h
   · split at h
     · cases h; rw [Bl.flipOf_length, List.length_drop]
     · cases h
 · cases h
set_option maxRecDepth 100000 in
set_option maxHeartbeats 4000000 in
theorem taken_back (bi n k : Nat) (sv : Value) (x : List UInt8) (hl : x.length = n + k * 26) (hn : n ≤ 10) (h0 : 1 ≤ k) (hk : k ≤ 5) (w : World) (hb : Boxed w bi 3 (.int .i64 n)) (hT : Tabs w) (hS : Sl eB w.heap.size w sv x) :
    Calls Tryd.prog 19 #[sv, .agg #[fnV 63 #[.pointer (some ⟨bi, 0, none⟩)], fnV 43 #[], fnV 44 #[]]] w fun e w' => StepIs w (bakG n k x) e w' := by
  have hcl : (Value.agg #[fnV 63 #[.pointer (some ⟨bi, 0, none⟩)], fnV 43 #[], fnV 44 #[]]).cells = #[fnV 63 #[.pointer (some ⟨bi, 0, none⟩)], fnV 43 #[], fnV 44 #[]] := rfl
  obtain ⟨W0, hW0⟩ : ∃ W0, w.alloc (.cells #[fnV 63 #[.pointer (some ⟨bi, 0, none⟩)], fnV 43 #[], fnV 44 #[]] 53) = W0 := ⟨_, rfl⟩
  have hA : Below w.heap.size w W0 := by rw [← hW0]; exact below_alloc w _
  have hr : Rowed W0 w.heap.size 53 #[fnV 63 #[.pointer (some ⟨bi, 0, none⟩)], fnV 43 #[], fnV 44 #[]] := by rw [← hW0]; exact Rowed.new w _ _
  have k0 := hr.cell 0
  have k1 := hr.cell 1
  have k2 := hr.cell 2
  have i0 : ∀ w, (Instr.index 53 (.agg #[fnV 63 #[.pointer (some ⟨bi, 0, none⟩)], fnV 43 #[], fnV 44 #[]]) (.int .i64 0)).run Tryd.prog w = .ok (fnV 63 #[.pointer (some ⟨bi, 0, none⟩)]) w := fun _ => by kernel_rfl
  have i1 : ∀ w, (Instr.index 53 (.agg #[fnV 63 #[.pointer (some ⟨bi, 0, none⟩)], fnV 43 #[], fnV 44 #[]]) (.int .i64 1)).run Tryd.prog w = .ok (fnV 43 #[]) w := fun _ => by kernel_rfl
  have i2 : ∀ w, (Instr.index 53 (.agg #[fnV 63 #[.pointer (some ⟨bi, 0, none⟩)], fnV 43 #[], fnV 44 #[]]) (.int .i64 2)).run Tryd.prog w = .ok (fnV 44 #[]) w := fun _ => by kernel_rfl
  have hb0 : Boxed W0 bi 3 (.int .i64 n) := (hA.block _ hb.lt).trans hb
  have HBX := Lib.hid (fun W (h : Below W0.heap.size W0 W) => show Boxed W bi 3 (.int .i64 n) from (h.block _ hb0.lt).trans hb0)
  have H1 := Lib.hid (fun W v (hb : Boxed W bi 3 (.int .i64 n)) (hT : Tabs W) (h : Sl eB W.heap.size W v x) => unb1_any bi n (k * 26) v x hl hn (by omega) (by omega) (by omega) W hb hT h)
  have H2 := Lib.hid (fun W v y (hy : unbG n x = .ok y) (hT : Tabs W) (h : Sl eB W.heap.size W v y) => turnedBack_any v y (by have := unb_len hy; omega) W hT h)
  have H3 := Lib.hid (fun W v y t (hy : unbG n x = .ok y) (ht : Tu.backG 65 y = .ok t) (h : Sl eB W.heap.size W v t) => unpacked_any v t k (by have := unb_len hy; have := turnback_len _ _ _ ht; omega) (by have := unb_len hy; have := turnback_len _ _ _ ht; omega) W h)
  have hsv := hS.next hA
  have hT0 := hT.below hA
  have HX := Lib.hid (show ∀ m, (unbG n x = .error m ∨ (∃ y, unbG n x = .ok y ∧ (Tu.backG 65 y = .error m ∨ ∃ t, Tu.backG 65 y = .ok t ∧ Tr.eachG Tr.backG t 26 k = .error m))) → bakG n k x = .error m from by
   rintro m (h | ⟨y, hy, h | ⟨t, ht, h⟩⟩)
   · simp [bakG, stepsB, bindG, h]
   · simp [bakG, stepsB, bindG, hy, h]
   · simp [bakG, stepsB, bindG, hy, ht, h])
  have HY := Lib.hid (show ∀ y t b, unbG n x = .ok y → Tu.backG 65 y = .ok t → Tr.eachG Tr.backG t 26 k = .ok b → bakG n k x = .ok b from by
   intro y t b hy ht hb
   simp [bakG, stepsB, bindG, hy, ht, hb])
  obtain ⟨A, c, rfl⟩ := hS.len
  clear hS hT hl hn h0 hk hb hb0
  generalize bakG n k x = R at *
  go_enter Tryd.func19, Tryd.ntmps19
  go_wp2_with fail
  go_loopw [0, 8] (fun v i wr => Below W0.heap.size W0 wr ∧ ((i = .int .i64 (0 : Nat) ∧ Sl eB wr.heap.size wr v x) ∨ (i = .int .i64 (1 : Nat) ∧ ∃ y, unbG n x = .ok y ∧ Sl eB wr.heap.size wr v y) ∨ (i = .int .i64 (2 : Nat) ∧ ∃ y t, unbG n x = .ok y ∧ Tu.backG 65 y = .ok t ∧ Sl eB wr.heap.size wr v t) ∨ (i = .int .i64 (3 : Nat) ∧ ∃ b, R = .ok b ∧ Sl eB wr.heap.size wr v b))) (fun _ i _ => 3 - (RowKit.intOf i).toNat)
  case atStart => exact ⟨Below.refl _ _, .inl ⟨rfl, hsv⟩⟩
  case round =>
   obtain ⟨hB, hst⟩ := hrel
   have hTr := hT0.below hB
   have HB := Lib.hid hB
   rcases hst with ⟨rfl, hv⟩ | ⟨rfl, y, hy, hv⟩ | ⟨rfl, y, t, hy, ht, hv⟩ | ⟨rfl, b, hR, hv⟩
   · have hq := H1.out wr _ (HBX.out wr hB) hTr hv
     clear hv hB hsv hTr
     go_wp2_with fail
     go_at_call 63
     refine hq.mono ?_
     rintro e w1 ⟨hB1, ⟨v1, y, hy, rfl, hv1⟩ | ⟨m, hm, hm0, rfl⟩⟩
     · clear hq
       go_wp2_with fail
       go_roundw
       case rel => exact ⟨below_trans HB.out hB1, .inr (.inl ⟨rfl, y, hy, hv1⟩)⟩
       case measure => simp [RowKit.intOf]
     · clear hq
       go_wp2_with fail
       exact ⟨rfl, below_trans hA (below_trans HB.out hB1), .inr ⟨m, HX.out m (.inl hm), hm0, rfl⟩⟩
   · have hq := H2.out wr _ y hy hTr hv
     clear hv hB hsv hTr
     go_wp2_with fail
     go_at_call 43
     refine hq.mono ?_
     rintro e w1 ⟨hB1, ⟨v1, t, ht, rfl, hv1⟩ | ⟨m, hm, hm0, rfl⟩⟩
     · clear hq
       go_wp2_with fail
       go_roundw
       case rel => exact ⟨below_trans HB.out hB1, .inr (.inr (.inl ⟨rfl, y, t, hy, ht, hv1⟩))⟩
       case measure => simp [RowKit.intOf]
     · clear hq
       go_wp2_with fail
       exact ⟨rfl, below_trans hA (below_trans HB.out hB1), .inr ⟨m, HX.out m (.inr ⟨y, hy, .inl hm⟩), hm0, rfl⟩⟩
   · have hq := H3.out wr _ y t hy ht hv
     clear hv hB hsv hTr
     go_wp2_with fail
     go_at_call 44
     refine hq.mono ?_
     rintro e w1 ⟨hB1, ⟨v1, b, hb, rfl, hv1⟩ | ⟨m, hm, hm0, rfl⟩⟩
     · clear hq
       go_wp2_with fail
       go_roundw
       case rel => exact ⟨below_trans HB.out hB1, .inr (.inr (.inr ⟨rfl, b, HY.out y t b hy ht hb, hv1⟩))⟩
       case measure => simp [RowKit.intOf]
     · clear hq
       go_wp2_with fail
       exact ⟨rfl, below_trans hA (below_trans HB.out hB1), .inr ⟨m, HX.out m (.inr ⟨y, hy, .inr ⟨t, ht, hm⟩⟩), hm0, rfl⟩⟩
   · clear hsv hTr hB
     go_wp2_with fail
     go_ret
     exact ⟨below_trans hA HB.out, .inl ⟨_, b, hR, rfl, hv⟩⟩
end Go.Proofs.YtjclfkbhakjdaaaDoor
