import Derived.Test.YtcngnjkpnmpcpaaDoorPaIZ
import Derived.Test.YtcngnjkpnmpcpaaDoorRXJZ
namespace Go.Proofs.YtcngnjkpnmpcpaaDoor
open Go.RowKit Go.Shelf
attribute [local go_sem] Oper.semAt_some run_store_func
set_option maxRecDepth 100000 in
set_option maxHeartbeats 2000000 in
theorem caughtR_any (f : Nat) (lb : Array Value) (w : World) (hen : ∀ args w, (callFunc f args).run Tryd.prog w = .ok (.enter f args) w) (R0 : World → Prop) (Rn : Int → World → Prop)
    (hwork : Calls Tryd.prog f lb (w.alloc (.cells #[.int .i64 0] 26)) fun e w' => Boxed w' w.heap.size 26 (.int .i64 0) ∧ (((∃ v, e = .returned v) ∧ R0 w') ∨ ∃ n, e = .panicked (errno n) ∧ Rn n w')) :
    Calls Tryd.prog 27 #[.func (.func f) #[] lb] w fun e w' => ∃ w1 n, Boxed w1 w.heap.size 26 (.int .i64 0) ∧ e = .returned (.int .i64 n) ∧ w' = w1.setCell ⟨w.heap.size, 0, none⟩ (.int .i64 n) ∧ ((n = 0 ∧ R0 w1) ∨ Rn n w1) := by
 have hmf : ∀ (fn : Fn) (first cap : Array Value) (w : World), (Instr.makeFunc fn first cap).run Tryd.prog w = .ok (.func fn first cap) w := fun _ _ _ _ => rfl
 go_enter_defers Tryd.func27, Tryd.ntmps27
 go_wp2_with fail
 generalize w.alloc (.cells #[.int .i64 0] 26) = w0 at *
 refine hwork.mono ?_
 clear hwork
 rintro e w1 ⟨hb1, ⟨⟨v, rfl⟩, hR⟩ | ⟨n, rfl, hR⟩⟩
 · have hc := hb1.cell
   have hf := hb1.frozen
   go_wp2
   refine leaves_cons (f := 49) (args := #[.pointer (some ⟨w.heap.size, 0, none⟩)]) (by simp) (by simp [go_sem]) ?_
   refine (catch_idle ⟨w.heap.size, 0, none⟩ _).mono ?_
   rintro e u' w'' ⟨rfl, rfl, rfl⟩
   have hc5 := (hb1.set (.int .i64 0)).cell
   refine ⟨.int .i64 0, ?_, w1, 0, hb1, rfl, rfl, .inl ⟨rfl, hR⟩⟩
   simp [results, Tryd.f27, go_sem, hc5]
 · have hc := hb1.cell
   have hf := hb1.frozen
   go_wp2
   refine leaves_cons (f := 49) (args := #[.pointer (some ⟨w.heap.size, 0, none⟩)]) (by simp) (by simp [go_sem]) ?_
   refine (catch_take w.heap.size n _ w1 hc hf).mono ?_
   rintro e u' w'' ⟨rfl, rfl, rfl⟩
   have hc5 := (hb1.set (.int .i64 n)).cell
   refine ⟨.int .i64 n, ?_, w1, n, hb1, rfl, rfl, .inr hR⟩
   simp [results, Tryd.f27, go_sem, hc5]
def libS (many : Nat) (taken : List (List UInt8)) (x : List UInt8) : List (List UInt8) := if taken.length = many then taken else if takeB taken x = true then taken ++ [x] else taken
theorem libS_stay {many : Nat} {t : List (List UInt8)} (h : t.length = many) (xs : List (List UInt8)) : xs.foldl (libS many) t = t := by
 induction xs with
 | nil => rfl
 | cons x xs ih =>
   rw [List.foldl_cons]
   have : libS many t x = t := by unfold libS; rw [if_pos h]
   rw [this]
   exact ih
def libG (many s : Nat) : List (List UInt8) := (triL s 20000).foldl (libS many) []
theorem libS_len {many : Nat} {t : List (List UInt8)} (h : t.length ≤ many) (x : List UInt8) : (libS many t x).length ≤ many := by
 unfold libS
 split
 · exact h
 · split
   · rw [List.length_append, List.length_singleton]; omega
   · exact h
theorem fold_len {many : Nat} (xs t : List (List UInt8)) (h : t.length ≤ many) : (xs.foldl (libS many) t).length ≤ many := by
 induction xs generalizing t with
 | nil => exact h
 | cons x xs ih => exact ih _ (libS_len h x)
theorem lib_pre {many : Nat} {pre xs : List (List UInt8)} (h : pre <+: xs) (hl : (pre.foldl (libS many) []).length = many) : xs.foldl (libS many) [] = pre.foldl (libS many) [] := by
 obtain ⟨t, rfl⟩ := h
 rw [List.foldl_append]
 exact libS_stay hl t
theorem box_kept {W w1 : World} {g base n b : Nat} {v v' : Value} {xs : List Value} {t : TypeId} {x : Value} (hbx : Boxed W b t x) (ht : t ≠ 9) (hown : W.ownsRow base 9 1 v n xs) (hgr : W.grownBy w1 v.ownBlock) (hne : b ≠ g) : Boxed (w1.setCell ⟨g, 0, none⟩ v') b t x := by
 have hbx' : W.heap[b]? = _ := hbx
 refine (Below.heap_setCell w1 ⟨g, 0, none⟩ v' b hne).trans ((hgr.block b hbx.lt fun e => ?_).trans hbx')
 obtain ⟨-, cs2, h2⟩ := own_tag hown e.symm
 rw [h2] at hbx'
 cases hbx'
 exact ht rfl
set_option maxRecDepth 100000 in
set_option maxHeartbeats 4000000 in
theorem lib1_any (tb bt base : Nat) (v : Value) (xs : List (List UInt8)) (p : List UInt8) (W : World) (D : Nat) (hbx : Boxed W tb 31 v) (hown : W.ownsRow base 9 1 v xs.length (xs.map sV)) (hw : Boxed W bt 9 (sV p)) (htb : tb < base) (hbs : base ≤ W.heap.size) (hn : xs.length ≤ 1000) (hT : Tab W) :
    Calls Tryd.prog 51 #[.pointer (some ⟨tb, 0, none⟩), .pointer (some ⟨bt, 0, none⟩)] W fun e w' => (takeB xs p = true ∧ (∃ u, e = .returned u) ∧ (∃ u, Boxed w' tb 31 u ∧ w'.ownsRow base 9 1 u (xs.length + 1) ((xs ++ [p]).map sV)) ∧ KT base tb W w' ∧ KeepsFrom D W w' ∧ ∀ b t x, Boxed W b t x → t ≠ 9 → b ≠ tb → Boxed w' b t x) ∨ (takeB xs p = false ∧ e = .panicked (errno 200) ∧ Below W.heap.size W w') := by
  have hc := hbx.cell
  have hcw := hw.cell
  have hTk := take_any v xs p base W hown hn hT hbs
  go_enter Tryd.func51, Tryd.ntmps51
  go_wp2_with fail
  go_at_call 36
  refine hTk.mono ?_
  rintro e w1 (⟨htk, hgr, u, rfl, hown'⟩ | ⟨htk, rfl, hB1⟩)
  · obtain ⟨g', cap', rfl⟩ := ownsRow_succ hown'
    obtain ⟨hv1, hv2, hr2, hk2, hkf⟩ := push_round (D := D) hbx hown htb hbs hown' hgr
    have hc1 := hv1.cell
    have hf1 := hv1.frozen
    have HTB := Lib.hid htk
    clear hTk htk
    go_wp2_with fail
    go_end0
    exact .inl ⟨HTB.out, ⟨_, rfl⟩, ⟨_, hv2, hr2⟩, hk2, hkf, fun b t x h1 h2 h3 => box_kept h1 h2 hown hgr h3⟩
  · have HTB := Lib.hid htk
    clear hTk htk
    go_wp2_with fail
    exact ⟨rfl, .inr ⟨HTB.out, rfl, hB1⟩⟩
end Go.Proofs.YtcngnjkpnmpcpaaDoor
