import Derived.Deep.RegionLaw
import Derived.Test.YtcngnjkpnmpcpaaDoorDTIZ
import Derived.Test.YtcngnjkpnmpcpaaDoorPcGZ
import Derived.Test.YtcngnjkpnmpcpaaDoorRcBZ
import Derived.Test.YtcngnjkpnmpcpaaDoorSAZ
namespace Go.Proofs.YtcngnjkpnmpcpaaDoor
open Go.RowKit Go.Shelf
attribute [local go_sem] Oper.semAt_some run_store_func
def atB (x : List UInt8) (i : Nat) : UInt8 := (x[i]?).getD 0
theorem atB_lt {x : List UInt8} {i : Nat} (h : i < x.length) : x[i]? = some (atB x i) := by simp [atB, h]
def RowL (cur : Array Value) (xs : List UInt8) : Prop := ∀ (j : Nat) (x : UInt8), xs[j]? = some x → cur[j]? = some (eB x)
theorem RowL.put {cur : Array Value} {xs : List UInt8} (h : RowL cur xs) (p : Nat) (y : UInt8) : RowL (cur.setIfInBounds p (eB y)) (xs.set p y) := by
 intro j x hx
 have hj : j < xs.length := by have := (List.getElem?_eq_some_iff.1 hx).1; simpa using this
 have hc := h j xs[j] (by simp [hj])
 rw [List.getElem?_set] at hx
 by_cases e : p = j
 · subst e
   have hpc : p < cur.size := (Array.getElem?_eq_some_iff.1 hc).1
   rw [if_pos rfl, if_pos hj] at hx
   cases hx
   rw [Array.getElem?_setIfInBounds_self_of_lt hpc]
 · rw [if_neg e] at hx
   rw [Array.getElem?_setIfInBounds_ne e]
   exact h j x hx
theorem sl_rowed {W : World} {g : Nat} {t : TypeId} {cur : Array Value} {xs : List UInt8} {cap : Nat} (hr : Rowed W g t cur) (h : RowL cur xs) (hc : xs.length ≤ cap) : Sl eB W.heap.size W (.slice (some ⟨g, 0, none⟩) xs.length cap) xs :=
 ⟨some ⟨g, 0, none⟩, cap, rfl, hc, fun _ => ⟨g, 0, rfl, hr.lt, fun j x hx => by rw [Nat.zero_add, hr.cell j]; exact h j x hx⟩⟩
theorem own_rowed {W : World} {base n : Nat} {v : Value} {xs : List UInt8} (h : W.ownsRow base 5 1 v n (xs.map eB)) (h0 : 0 < xs.length) : ∃ g cap cur, v = .slice (some ⟨g, 0, none⟩) xs.length cap ∧ v.ownBlock = some g ∧ xs.length ≤ cap ∧ Rowed W g 5 cur ∧ RowL cur xs := by
 have hl : xs.length = n := by have := h.1; simpa using this
 subst hl
 rcases h.2 with ⟨_, e0⟩ | ⟨g, cap, cur, rfl, hb, hg, hn, hcm, hsz, htk⟩
 · omega
 have hr0 : Rowed W g 5 cur := hg
 refine ⟨g, cap, cur, rfl, rfl, hn, hr0, fun j x hx => ?_⟩
 have := World.ownsRow.cells h (g := g) rfl j (eB x) (by simp [hx])
 rwa [show (⟨g, 0, none⟩ : Addr).add j = ⟨g, j, none⟩ from by unfold Addr.add; split <;> simp_all, hr0.cell j] at this
theorem place_any (z : Int) (L p : Nat) (h0 : 0 < L) (hat : (wrap64 (z.tmod (L : Int) + (L : Int))).tmod (L : Int) = (p : Int)) (w : World) :
    Calls Tryd.prog 46 #[.int .i64 z, .int .i64 L] w fun e w' => e = .returned (.int .i64 p) ∧ w = w' := by
  have hL0 : ¬ (L : Int) = 0 := by omega
  have hL0' : ¬ L = 0 := by omega
  clear h0
  go_enter Tryd.func46, Tryd.ntmps46
  go_wp2
  go_ret
  exact ⟨rfl, rfl⟩
abbrev eD (k : Int) (z : Int) (b : UInt8) : Value := .agg #[.int .u8 k, .int .i64 z, eB b]
abbrev cD (k : Int) (z : Int) (b : UInt8) : Array Value := #[.int .u8 k, .int .i64 z, eB b]
set_option maxRecDepth 100000 in
set_option maxHeartbeats 4000000 in
theorem Apply_swap (sv : Value) (s : List UInt8) (z : Int) (b : UInt8) (p : Nat) (h0 : 0 < s.length) (hl : s.length ≤ 1000) (hp : p < s.length) (hat : (wrap64 (z.tmod (s.length : Int) + (s.length : Int))).tmod (s.length : Int) = (p : Int)) (w : World) (hS : Sl eB w.heap.size w sv s) :
    Calls Tryd.prog 24 #[sv, eD 3 z b] w fun e w' => ∃ v, e = .returned v ∧ Sl eB w'.heap.size w' v (s.set p b) ∧ Below w.heap.size w w' := by
  obtain ⟨i0, hi, hz0, hz1, hz2⟩ := info_parts info_u8
  have hpl := fun (n : Nat) (w : World) => (callsIn_wide (n := n)).2 (place_any z s.length p h0 hat w)
  obtain ⟨A, c, rfl⟩ := hS.len
  have hcl : (eD 3 z b).cells = cD 3 z b := rfl
  have hr := Rowed.new w 42 (cD 3 z b)
  have hA := below_alloc w (.cells (cD 3 z b) 42)
  have hS0 := hS.below hA
  have hlt := hr.lt
  have hne0 : ((s.length : Int) == 0) = false := by rw [beq_eq_false_iff_ne]; omega
  have Hp := Lib.hid hp
  have Hl := Lib.hid hl
  have H0 := Lib.hid h0
  clear hat hp hl h0
  go_enter Tryd.func24, Tryd.ntmps24
  go_upto_region 1 with fail
  generalize w.alloc (.cells (cD 3 z b) 42) = w0 at *
  have hrow := row_made w0
  have hA1 := hA.alloc hA.size (.cells #[] 5)
  have hS1 : Sl eB w.heap.size (w0.alloc (.cells #[] 5)) (.slice A s.length c) s := hS0.below ((Below.refl _ w0).alloc hA.size _)
  have hr1 := hr.alloc (.cells #[] 5)
  have hlt1 := hr1.lt
  go_wp2_with
    (at_builtin
     refine wpList_append_sl _ rfl (.tmp 8) (.tmp 9) _ rfl w0.heap.size 5 i0 (.int .u8 0) 1 Tryd.underlying39 hi hz0 hz1 hz2 rfl _ 0 [] hrow rfl w.heap.size _ s hS1 rfl (fun _ => rfl) (by have := Hl.out; unfold maxLen; omega) (by have := Hl.out; omega) (by simp) ?_
     intro v1 w1 hown1 hg1 hat1
     have hr2 : Rowed w1 w.heap.size 42 (cD 3 z b) := (hg1.block _ hlt1 (by simp [Value.ownBlock]; omega)).trans hr1
     have k0 := hr2.cell 0
     have k1 := hr2.cell 1
     have k2 := hr2.cell 2)
  have hown : w1.ownsRow w0.heap.size 5 1 v1 s.length (s.map eB) := by simpa using hown1
  obtain ⟨g, cap, cur, rfl, hob, hcap, hrw, hRL⟩ := own_rowed hown H0.out
  have hgb : w0.heap.size ≤ g := own_base hown g hob
  have hB1 := hA1.trans (below_grown hrow hg1 hA1.size (by omega))
  have hgh : w.heap.size ≠ g := by omega
  have d1 : w1.drew.cell? ⟨w.heap.size, 1, none⟩ = some (.int .i64 z) := k1
  have d2 : w1.drew.cell? ⟨w.heap.size, 2, none⟩ = some (eB b) := k2
  have hpL : (p : Int) < s.length := by have := Hp.out; omega
  have hpN := Hp.out
  clear hown1 hown hg1 hat1 hrow hS1 hr1 hlt1 hS0 k0 k1 k2 hS hob hA1
  refine (wpIn_wide (n := 5)).1 ?_
  refine wpIn_region_det 9 [(61, .slice (some ⟨g, 0, none⟩) s.length cap), (62, .pointer (some ⟨w.heap.size, 1, none⟩)), (63, .int .i64 z), (64, .slice A s.length c), (65, .int .i64 s.length), (66, .int .i64 p), (67, .pointer (some ⟨w.heap.size, 2, none⟩)), (68, eB b), (69, .pointer (some ⟨g, p, none⟩))]
    (by kernel_rfl) (by decide) (by kernel_rfl) (by kernel_rfl) (by kernel_rfl) (by kernel_rfl) (by kernel_rfl) ?ok1 ?tail1
  case ok1 =>
   intro A' hA'
   simp only [putAll, Act.put, List.setIfInBounds_toArray, List.set_cons_zero, List.set_cons_succ] at hA'
   subst hA'
   refine ⟨?_, ?_, ?_, ?_, ?_, ?_, ?_, ?_, ?_, trivial⟩
   all_goals unfold DetIn
   all_goals go_simp
   refine ⟨trivial, (hpl _ _).mono ?_⟩
   rintro e w' ⟨rfl, rfl⟩
   exact ⟨rfl, rfl⟩
  case tail1 =>
   intro A' hA'
   simp only [putAll, Act.put, List.setIfInBounds_toArray, List.set_cons_zero, List.set_cons_succ] at hA'
   subst hA'
   have hrd : Rowed w1.drew g 5 cur := hrw
   have hc0 : cur[p]? = some (eB (atB s p)) := hRL p _ (atB_lt hpN)
   have cc := hrd.cell p
   rw [hc0] at cc
   have ff := hrd.frozen p
   have hset := hrd.set p (eB b)
   have hsl := sl_rowed hset (hRL.put p b) (cap := cap) (by simpa using hcap)
   rw [List.length_set] at hsl
   have hBd : Below w.heap.size w w1.drew := hB1.trans ⟨rfl, rfl, rfl, Nat.le_refl _, fun _ _ => rfl⟩
   have hBs := hBd.setCell (p := ⟨g, p, none⟩) (by show w.heap.size ≤ g; omega) (eB b)
   simp only [List.drop_succ_cons, List.drop_zero]
   clear d1 d2 hrd hset hRL hrw hcap
   gi_wp2_with fail
   go_wp2_with fail
   go_ret
   exact ⟨_, rfl, hsl, hBs⟩
def delW (x : List UInt8) (i : Nat) : List UInt8 := x.take i ++ x.drop (i + 1)
def insW (z : List UInt8) (t : Nat) (b : UInt8) : List UInt8 := z.take t ++ [b] ++ z.drop t
def plG (z : Int) (n : Nat) : Nat := ((wrap64 (z.tmod (n : Int) + (n : Int))).tmod (n : Int)).toNat
theorem pl_is (z : Int) (n : Nat) (h0 : 0 < n) (hn : n ≤ 100000) : plG z n < n ∧ (wrap64 (z.tmod (n : Int) + (n : Int))).tmod (n : Int) = (plG z n : Int) := by
 unfold plG
 have h1 : z.tmod (n : Int) < n := Int.tmod_lt_of_pos z (by omega)
 have h2 : -(n : Int) < z.tmod n := Int.lt_tmod_of_pos z (by omega)
 generalize z.tmod (n : Int) = r at *
 have e1 : wrap64 (r + (n : Int)) = r + (n : Int) := wz _ (by omega) (by omega)
 rw [e1]
 have h3 : (r + (n : Int)).tmod (n : Int) < n := Int.tmod_lt_of_pos _ (by omega)
 have h4 : 0 ≤ (r + (n : Int)).tmod (n : Int) := Int.tmod_nonneg _ (by omega)
 omega
def apG (s : List UInt8) (k : UInt8) (z : Int) (b : UInt8) : List UInt8 :=
 if k = 1 then (if s.length = 0 then s else s.take (plG z s.length) ++ s.drop (plG z s.length + 1))
 else if k = 2 then s.take (plG z (s.length + 1)) ++ b :: s.drop (plG z (s.length + 1))
 else if k = 3 then (if s.length = 0 then s else s.take (plG z s.length) ++ b :: s.drop (plG z s.length + 1))
 else s
theorem u8_cases (k : UInt8) : k = 0 ∨ k = 1 ∨ k = 2 ∨ k = 3 ∨ (4 ≤ k.toNat ∧ k ≠ 1 ∧ k ≠ 2 ∧ k ≠ 3) := by
 have e : ∀ c : UInt8, k.toNat = c.toNat → k = c := fun c h => UInt8.toNat_inj.1 h
 by_cases h0 : k.toNat = 0
 · exact .inl (e 0 h0)
 · by_cases h1 : k.toNat = 1
   · exact .inr (.inl (e 1 h1))
   · by_cases h2 : k.toNat = 2
     · exact .inr (.inr (.inl (e 2 h2)))
     · by_cases h3 : k.toNat = 3
       · exact .inr (.inr (.inr (.inl (e 3 h3))))
       · exact .inr (.inr (.inr (.inr ⟨by omega, by rintro rfl; exact h1 rfl, by rintro rfl; exact h2 rfl, by rintro rfl; exact h3 rfl⟩)))
theorem one_sl (w : World) (g : Nat) (c : UInt8) (h : w.cell? ⟨g, 0, none⟩ = some (eB c)) : Sl eB w.heap.size w (.slice (some ⟨g, 0, none⟩) 1 1) [c] :=
 ⟨_, 1, rfl, Nat.le_refl _, fun _ => ⟨g, 0, rfl, World.block_lt_of_cell? w _ h, fun j x hx => by
  rcases j with _ | j
  · simp at hx; subst hx; exact h
  · simp at hx⟩⟩
theorem from_ex {B : Nat} {W : World} {bk off c p : Nat} {s : List UInt8} (h : Sl eB B W (.slice (some ⟨bk, off, none⟩) s.length c) s) (hp : p ≤ s.length) :
    (c = p → Sl eB B W (.slice (some ⟨bk, off, none⟩) (s.length - p) 0) (s.drop p)) ∧ (¬ c = p → Sl eB B W (.slice (some ⟨bk, off + p, none⟩) (s.length - p) (c - p)) (s.drop p)) := by
  refine ⟨fun e => ?_, fun e => h.from_ hp _ (fun _ => by simp [Addr.add])⟩
  have := h.from_ hp (some ⟨bk, off, none⟩) (fun hne => absurd e hne)
  rwa [e, Nat.sub_self] at this
set_option maxRecDepth 100000 in
set_option maxHeartbeats 4000000 in
theorem Apply_gap (sv : Value) (s : List UInt8) (z : Int) (b : UInt8) (p : Nat) (h0 : 0 < s.length) (hl : s.length ≤ 1000) (hp : p < s.length) (hat : (wrap64 (z.tmod (s.length : Int) + (s.length : Int))).tmod (s.length : Int) = (p : Int)) (w : World) (hS : Sl eB w.heap.size w sv s) :
    Calls Tryd.prog 24 #[sv, eD 1 z b] w fun e w' => ∃ v, e = .returned v ∧ Sl eB w'.heap.size w' v (delW s p) ∧ Below w.heap.size w w' := by
  obtain ⟨i0, hi, hz0, hz1, hz2⟩ := info_parts info_u8
  have hpl := fun (w : World) => place_any z s.length p h0 hat w
  obtain ⟨A, c, rfl⟩ := hS.len
  have hcl : (eD 1 z b).cells = cD 1 z b := rfl
  have hr := Rowed.new w 42 (cD 1 z b)
  have hA := below_alloc w (.cells (cD 1 z b) 42)
  have hS0 := hS.below hA
  have hlt := hr.lt
  have hne0 : ((s.length : Int) == 0) = false := by rw [beq_eq_false_iff_ne]; omega
  have Hp := Lib.hid hp
  have Hl := Lib.hid hl
  have H0 := Lib.hid h0
  obtain ⟨bk, off, rfl, hcap⟩ : ∃ bk off, A = some ⟨bk, off, none⟩ ∧ s.length ≤ c := by
   obtain ⟨A', c', e, hc, hcs⟩ := hS
   injection e with e1 e2 e3
   subst e1 e3
   obtain ⟨bk, off, e4, _⟩ := hcs h0
   exact ⟨bk, off, e4, hc⟩
  clear hat hp hl h0
  go_enter Tryd.func24, Tryd.ntmps24
  go_upto_region 1 with fail
  generalize w.alloc (.cells (cD 1 z b) 42) = w0 at *
  have hrow := row_made w0
  have hA1 := hA.alloc hA.size (.cells #[] 5)
  have hS1 : Sl eB w.heap.size (w0.alloc (.cells #[] 5)) (.slice (some ⟨bk, off, none⟩) s.length c) s := hS0.below ((Below.refl _ w0).alloc hA.size _)
  have hr1 := hr.alloc (.cells #[] 5)
  have hlt1 := hr1.lt
  go_wp2_with (first
   | (at_builtin
      refine wpList_append_sl _ rfl (.tmp 8) (.tmp 9) _ rfl w0.heap.size 5 i0 (.int .u8 0) 1 Tryd.underlying39 hi hz0 hz1 hz2 rfl _ 0 [] hrow rfl w.heap.size _ s hS1 rfl (fun _ => rfl) (by have := Hl.out; unfold maxLen; omega) (by have := Hl.out; omega) (by simp) ?_
      intro v1 w1 hown1 hg1 hat1
      have hr2 : Rowed w1 w.heap.size 42 (cD 1 z b) := (hg1.block _ hlt1 (by simp [Value.ownBlock]; omega)).trans hr1
      have k0 := hr2.cell 0
      have k1 := hr2.cell 1)
   | (go_at_call 46; refine (hpl _).mono ?_; rintro e w' ⟨rfl, rfl⟩))
  have hB1 := hA1.trans (below_grown hrow hg1 hA1.size (by have := hA.size; omega))
  have hSw := hS.below hB1
  have hsz1 := hB1.size
  clear hown1 hg1 hat1 hrow hS1 hr1 hlt1 hS0 k0 k1 hr2 hA1 hpl hne0
  have hrow := row_made w1
  have hBr : Below w1.heap.size w1 (w1.alloc (.cells #[] 5)) := below_alloc w1 _
  have hrow' : (w1.alloc (.cells #[] 5)).drew.ownsRow w1.heap.size 5 1 (.slice (some ⟨w1.heap.size, 0, none⟩) 0 0) 0 [] := hrow
  have hBr' : Below w1.heap.size w1 (w1.alloc (.cells #[] 5)).drew := hBr.drew
  have q1 : 0 + (s.take p).length ≤ maxLen := by have := Hl.out; unfold maxLen; simp; omega
  have q2 : (0 + (s.take p).length) * 1 ≤ 140737488355328 := by have := Hl.out; simp; omega
  have q3 : 0 + (s.take p).length + (s.drop (p + 1)).length ≤ maxLen := by have := Hl.out; unfold maxLen; simp; omega
  have q4 : (0 + (s.take p).length + (s.drop (p + 1)).length) * 1 ≤ 140737488355328 := by have := Hl.out; simp; omega
  have q5 : w1.heap.size ≤ (w1.alloc (.cells #[] 5)).drew.heap.size := hBr'.size
  have s1 := (hSw.more hsz1).upto (p := p) (by have := Hp.out; omega)
  have s2 := from_ex (p := p + 1) (hSw.more hsz1) (by have := Hp.out; omega)
  have e1 : IntKind.i64.wrap ((p : Int) + 1) = ((p + 1 : Nat) : Int) := by have := Hp.out; have := Hl.out; rw [IntWalk.i64_in _ (by omega)]; omega
  have l0 : (0 : Int) ≤ (p : Int) + 1 := by omega
  have l1 : (p : Int) ≤ s.length := by have := Hp.out; omega
  have l2 : (p : Int) + 1 ≤ s.length := by have := Hp.out; omega
  have l3 : ((p + 1 : Nat) : Int) ≤ s.length := by have := Hp.out; omega
  have l4 : (p : Int) ≤ c := by have := Hp.out; omega
  have l5 : (p : Int) ≤ (p : Int) + 1 := by omega
  clear hSw hS
  by_cases hcp : c = p + 1
  · subst hcp
    have s2 := s2.1 rfl
    rw [show s.length - (p + 1) = 0 by omega] at s2
    go_region_law (first
     | (refine step_append_sl _ rfl (.tmp 47) (.tmp 50) _ rfl w1.heap.size 5 i0 (.int .u8 0) 1 Tryd.underlying39 hi hz0 hz1 hz2 rfl _ 0 [] hrow' rfl w1.heap.size _ (s.take p) (s1.below hBr') rfl (fun _ => rfl) q1 q2 q5 ?_
        intro v1 w3 hown1 hg1 hat1
        have hB2 : Below w1.heap.size w1 w3 := hBr'.trans (below_grown hrow' hg1 q5 (Nat.le_refl _)))
     | (refine step_append_sl _ rfl (.tmp 51) (.tmp 55) _ rfl w1.heap.size 5 i0 (.int .u8 0) 1 Tryd.underlying39 hi hz0 hz1 hz2 rfl _ _ _ hown1 rfl w1.heap.size _ (s.drop (p + 1)) (s2.below hB2) rfl (fun _ => rfl) q3 q4 hB2.size ?_
        intro v2 w4 hown2 hg2 hat2))
    all_goals
     go_wp2_with fail
     go_ret
     exact ⟨v2, rfl, Sl.of_own (n := 0 + (s.take p).length + (s.drop (p + 1)).length) (by simpa [delW] using hown2), hB1.trans ((hB2.trans (below_grown hown1 hg2 hB2.size (Nat.le_refl _))).mono hsz1)⟩
  · have s2 := s2.2 hcp
    go_region_law (first
     | (refine step_append_sl _ rfl (.tmp 47) (.tmp 50) _ rfl w1.heap.size 5 i0 (.int .u8 0) 1 Tryd.underlying39 hi hz0 hz1 hz2 rfl _ 0 [] hrow' rfl w1.heap.size _ (s.take p) (s1.below hBr') rfl (fun _ => rfl) q1 q2 q5 ?_
        intro v1 w3 hown1 hg1 hat1
        have hB2 : Below w1.heap.size w1 w3 := hBr'.trans (below_grown hrow' hg1 q5 (Nat.le_refl _)))
     | (refine step_append_sl _ rfl (.tmp 51) (.tmp 55) _ rfl w1.heap.size 5 i0 (.int .u8 0) 1 Tryd.underlying39 hi hz0 hz1 hz2 rfl _ _ _ hown1 rfl w1.heap.size _ (s.drop (p + 1)) (s2.below hB2) rfl (fun _ => rfl) q3 q4 hB2.size ?_
        intro v2 w4 hown2 hg2 hat2))
    all_goals
     go_wp2_with fail
     go_ret
     exact ⟨v2, rfl, Sl.of_own (n := 0 + (s.take p).length + (s.drop (p + 1)).length) (by simpa [delW] using hown2), hB1.trans ((hB2.trans (below_grown hown1 hg2 hB2.size (Nat.le_refl _))).mono hsz1)⟩
set_option maxRecDepth 100000 in
set_option maxHeartbeats 4000000 in
theorem Apply_more (sv : Value) (s : List UInt8) (z : Int) (b : UInt8) (p : Nat) (h0 : 0 < s.length) (hl : s.length ≤ 1000) (hp : p ≤ s.length) (hat : (wrap64 (z.tmod ((s.length + 1 : Nat) : Int) + ((s.length + 1 : Nat) : Int))).tmod ((s.length + 1 : Nat) : Int) = (p : Int)) (w : World) (hS : Sl eB w.heap.size w sv s) :
    Calls Tryd.prog 24 #[sv, eD 2 z b] w fun e w' => ∃ v, e = .returned v ∧ Sl eB w'.heap.size w' v (insW s p b) ∧ Below w.heap.size w w' := by
  obtain ⟨i0, hi, hz0, hz1, hz2⟩ := info_parts info_u8
  have hpl : ∀ w, Calls Tryd.prog 46 #[.int .i64 z, .int .i64 ((s.length : Int) + 1)] w fun e w' => e = .returned (.int .i64 p) ∧ w = w' := fun w => place_any z (s.length + 1) p (by omega) hat w
  obtain ⟨A, c, rfl⟩ := hS.len
  have hcl : (eD 2 z b).cells = cD 2 z b := rfl
  have hr := Rowed.new w 42 (cD 2 z b)
  have hA := below_alloc w (.cells (cD 2 z b) 42)
  have hS0 := hS.below hA
  have hlt := hr.lt
  have hL1 : IntKind.i64.wrap ((s.length : Int) + 1) = (s.length : Int) + 1 := IntWalk.i64_in _ (by omega)
  have Hp := Lib.hid hp
  have Hl := Lib.hid hl
  have H0 := Lib.hid h0
  obtain ⟨bk, off, rfl, hcap⟩ : ∃ bk off, A = some ⟨bk, off, none⟩ ∧ s.length ≤ c := by
   obtain ⟨A', c', e, hc, hcs⟩ := hS
   injection e with e1 e2 e3
   subst e1 e3
   obtain ⟨bk, off, e4, _⟩ := hcs h0
   exact ⟨bk, off, e4, hc⟩
  clear hat hp hl h0
  go_enter Tryd.func24, Tryd.ntmps24
  go_upto_region 1 with fail
  generalize w.alloc (.cells (cD 2 z b) 42) = w0 at *
  have hrow := row_made w0
  have hA1 := hA.alloc hA.size (.cells #[] 5)
  have hS1 : Sl eB w.heap.size (w0.alloc (.cells #[] 5)) (.slice (some ⟨bk, off, none⟩) s.length c) s := hS0.below ((Below.refl _ w0).alloc hA.size _)
  have hr1 := hr.alloc (.cells #[] 5)
  have hlt1 := hr1.lt
  go_wp2_with (first
   | (at_builtin
      refine wpList_append_sl _ rfl (.tmp 8) (.tmp 9) _ rfl w0.heap.size 5 i0 (.int .u8 0) 1 Tryd.underlying39 hi hz0 hz1 hz2 rfl _ 0 [] hrow rfl w.heap.size _ s hS1 rfl (fun _ => rfl) (by have := Hl.out; unfold maxLen; omega) (by have := Hl.out; omega) (by simp) ?_
      intro v1 w1 hown1 hg1 hat1
      have hr2 : Rowed w1 w.heap.size 42 (cD 2 z b) := (hg1.block _ hlt1 (by simp [Value.ownBlock]; omega)).trans hr1
      have k0 := hr2.cell 0
      have k1 := hr2.cell 1
      have k2 := hr2.cell 2)
   | (go_at_call 46; refine (hpl _).mono ?_; rintro e w' ⟨rfl, rfl⟩))
  have hB1 := hA1.trans (below_grown hrow hg1 hA1.size (by have := hA.size; omega))
  have hSw := hS.below hB1
  have hsz1 := hB1.size
  clear hown1 hg1 hat1 hrow hS1 hr1 hlt1 hS0 k0 k1 hr2 hA1 hpl
  have hrow := row_made w1
  have hBr : Below w1.heap.size w1 (w1.alloc (.cells #[] 5)) := below_alloc w1 _
  have hrow' : (w1.alloc (.cells #[] 5)).drew.ownsRow w1.heap.size 5 1 (.slice (some ⟨w1.heap.size, 0, none⟩) 0 0) 0 [] := hrow
  have hBr' : Below w1.heap.size w1 (w1.alloc (.cells #[] 5)).drew := hBr.drew
  have q1 : 0 + (s.take p).length ≤ maxLen := by have := Hl.out; unfold maxLen; simp; omega
  have q2 : (0 + (s.take p).length) * 1 ≤ 140737488355328 := by have := Hl.out; simp; omega
  have q3 : 0 + (s.take p).length + [b].length ≤ maxLen := by have := Hl.out; unfold maxLen; simp; omega
  have q4 : (0 + (s.take p).length + [b].length) * 1 ≤ 140737488355328 := by have := Hl.out; simp; omega
  have q6 : 0 + (s.take p).length + [b].length + (s.drop p).length ≤ maxLen := by have := Hl.out; unfold maxLen; simp; omega
  have q7 : (0 + (s.take p).length + [b].length + (s.drop p).length) * 1 ≤ 140737488355328 := by have := Hl.out; simp; omega
  have q5 : w1.heap.size ≤ (w1.alloc (.cells #[] 5)).drew.heap.size := hBr'.size
  have s1 := (hSw.more hsz1).upto (p := p) (by have := Hp.out; omega)
  have s2 := from_ex (p := p) (hSw.more hsz1) (by have := Hp.out; omega)
  have l1 : (p : Int) ≤ s.length := by have := Hp.out; omega
  have l4 : (p : Int) ≤ c := by have := Hp.out; omega
  clear hSw hS
  simp at k2
  have hlw : w.heap.size < w1.heap.size := World.block_lt_of_cell? _ _ k2
  have hk : ∀ W, Below w1.heap.size w1 W → W.cell? ⟨w.heap.size, 2, none⟩ = some (eB b) := fun W hW => (hW.cell (p := ⟨w.heap.size, 2, none⟩) hlw).trans k2
  have x1 : Below w1.heap.size w1 (w1.alloc (.cells #[] 5)).drew := ((Below.refl _ _).alloc (Nat.le_refl _) _).drew
  have x2 : Below w1.heap.size w1 ((w1.alloc (.cells #[] 5)).alloc (.cells #[eB b] 5)).drew := (((Below.refl _ _).alloc (Nat.le_refl _) _).alloc (by simp) _).drew
  have x3 : Below w1.heap.size w1 ((w1.alloc (.cells #[eB b] 5)).alloc (.cells #[] 5)).drew := (((Below.refl _ _).alloc (Nat.le_refl _) _).alloc (by simp) _).drew
  have kk0 : w1.drew.cell? ⟨w.heap.size, 2, none⟩ = some (eB b) := k2
  have kk1 := hk _ x1
  have r1 : (w1.alloc (.cells #[] 5)).drew.ownsRow w1.heap.size 5 1 (.slice (some ⟨w1.heap.size, 0, none⟩) 0 0) 0 [] := row_made w1
  have r2 : ((w1.alloc (.cells #[] 5)).alloc (.cells #[eB b] 5)).drew.ownsRow w1.heap.size 5 1 (.slice (some ⟨w1.heap.size, 0, none⟩) 0 0) 0 [] := (row_made w1).alloc _
  have r3 : ((w1.alloc (.cells #[eB b] 5)).alloc (.cells #[] 5)).drew.ownsRow w1.heap.size 5 1 (.slice (some ⟨w1.heap.size + 1, 0, none⟩) 0 0) 0 [] := by
   have := World.ownsRow_made (base := w1.heap.size) (e := 5) (size := 1) (w1.alloc (.cells #[eB b] 5)) #[] 0 (by simp) (by unfold maxLen; omega) rfl
   rw [World.size_alloc] at this
   exact this
  have k2b : ((w1.alloc (.cells #[] 5)).alloc (.cells #[eB b] 5)).drew.cell? ⟨w1.heap.size + 1, 0, none⟩ = some (eB b) := by
   have := (Rowed.new (w1.alloc (.cells #[] 5)) 5 #[eB b]).cell 0
   rw [World.size_alloc] at this
   exact this
  have k3 : ((w1.alloc (.cells #[eB b] 5)).alloc (.cells #[] 5)).drew.cell? ⟨w1.heap.size, 0, none⟩ = some (eB b) := ((Rowed.new w1 5 #[eB b]).alloc (.cells #[] 5)).cell 0
  have n2 : some (w1.heap.size + 1) ≠ (Value.slice (some ⟨w1.heap.size, 0, none⟩) 0 0).ownBlock := by simp [Value.ownBlock]
  have n3 : some w1.heap.size ≠ (Value.slice (some ⟨w1.heap.size + 1, 0, none⟩) 0 0).ownBlock := by simp [Value.ownBlock]
  clear k2 hlw hrow hBr hrow' hBr' q5 hr hA hlt
  by_cases hcp : c = p
  · have hcp' := hcp.symm
    subst hcp'
    have s2 := s2.1 rfl
    rw [show s.length - p = 0 by omega] at s2
    go_region_law (first
     | (refine step_append_sl _ rfl (.tmp 21) (.tmp 24) _ rfl w1.heap.size 5 i0 (.int .u8 0) 1 Tryd.underlying39 hi hz0 hz1 hz2 rfl _ 0 [] r1 rfl w1.heap.size _ (s.take p) (s1.below x1) rfl (fun _ => rfl) q1 q2 x1.size ?_
        intro v1 w3 hown1 hg1 hat1
        have hB2 : Below w1.heap.size w1 w3 := x1.trans (below_grown r1 hg1 x1.size (Nat.le_refl _))
        have kk3 := hk w3 hB2
        have hown2 := hown1.alloc (.cells #[eB b] 5)
        have hB3 : Below w1.heap.size w1 (w3.alloc (.cells #[eB b] 5)) := hB2.alloc hB2.size _
        have hc1 := Sl.new eB w3 [b] #[eB b] 5 (0, 0) 1 1 rfl (Nat.le_refl _) (by simp))
     | (refine step_append_sl _ rfl (.tmp 21) (.tmp 24) _ rfl w1.heap.size 5 i0 (.int .u8 0) 1 Tryd.underlying39 hi hz0 hz1 hz2 rfl _ 0 [] r3 rfl w1.heap.size _ (s.take p) (s1.below x3) rfl (fun _ => rfl) q1 q2 x3.size ?_
        intro v1 w3 hown2 hg1 hat1
        have hB3 : Below w1.heap.size w1 w3 := x3.trans (below_grown r3 hg1 x3.size (Nat.le_refl _))
        have kk3 := hk w3 hB3
        have hc1 := one_sl w3 w1.heap.size b ((World.cell?_of_block (a := ⟨w1.heap.size, 0, none⟩) (hg1.block w1.heap.size (World.block_lt_of_cell? _ _ k3) n3)).trans k3))
     | (refine step_append_sl _ rfl (.tmp 25) (.tmp 28) _ rfl w1.heap.size 5 i0 (.int .u8 0) 1 Tryd.underlying39 hi hz0 hz1 hz2 rfl _ _ _ hown2 rfl _ _ [b] hc1 rfl (fun _ => rfl) q3 q4 hB3.size ?_
        intro v2 w4 hown4 hg4 hat4
        have hB4 : Below w1.heap.size w1 w4 := hB3.trans (below_grown hown2 hg4 hB3.size (Nat.le_refl _)))
     | (refine step_append_sl _ rfl (.tmp 29) (.tmp 32) _ rfl w1.heap.size 5 i0 (.int .u8 0) 1 Tryd.underlying39 hi hz0 hz1 hz2 rfl _ _ _ hown4 rfl w1.heap.size _ (s.drop p) (s2.below hB4) rfl (fun _ => rfl) q6 q7 hB4.size ?_
        intro v5 w5 hown5 hg5 hat5
        have hB5 : Below w1.heap.size w1 w5 := hB4.trans (below_grown hown4 hg5 hB4.size (Nat.le_refl _)))
     | (refine step_append_sl _ rfl (.tmp 21) (.tmp 24) _ rfl w1.heap.size 5 i0 (.int .u8 0) 1 Tryd.underlying39 hi hz0 hz1 hz2 rfl _ 0 [] r2 rfl w1.heap.size _ (s.take p) (s1.below x2) rfl (fun _ => rfl) q1 q2 x2.size ?_
        intro v1 w3 hown2 hg1 hat1
        have hB3 : Below w1.heap.size w1 w3 := x2.trans (below_grown r2 hg1 x2.size (Nat.le_refl _))
        have kk3 := hk w3 hB3
        have hc1 := one_sl w3 (w1.heap.size + 1) b ((World.cell?_of_block (a := ⟨w1.heap.size + 1, 0, none⟩) (hg1.block (w1.heap.size + 1) (World.block_lt_of_cell? _ _ k2b) n2)).trans k2b)))
    all_goals
     go_wp2_with fail
     go_ret
     exact ⟨v5, rfl, Sl.of_own (n := 0 + (s.take p).length + [b].length + (s.drop p).length) (by simpa [insW] using hown5), hB1.trans (hB5.mono hsz1)⟩
  · have s2 := s2.2 hcp
    go_region_law (first
     | (refine step_append_sl _ rfl (.tmp 21) (.tmp 24) _ rfl w1.heap.size 5 i0 (.int .u8 0) 1 Tryd.underlying39 hi hz0 hz1 hz2 rfl _ 0 [] r1 rfl w1.heap.size _ (s.take p) (s1.below x1) rfl (fun _ => rfl) q1 q2 x1.size ?_
        intro v1 w3 hown1 hg1 hat1
        have hB2 : Below w1.heap.size w1 w3 := x1.trans (below_grown r1 hg1 x1.size (Nat.le_refl _))
        have kk3 := hk w3 hB2
        have hown2 := hown1.alloc (.cells #[eB b] 5)
        have hB3 : Below w1.heap.size w1 (w3.alloc (.cells #[eB b] 5)) := hB2.alloc hB2.size _
        have hc1 := Sl.new eB w3 [b] #[eB b] 5 (0, 0) 1 1 rfl (Nat.le_refl _) (by simp))
     | (refine step_append_sl _ rfl (.tmp 21) (.tmp 24) _ rfl w1.heap.size 5 i0 (.int .u8 0) 1 Tryd.underlying39 hi hz0 hz1 hz2 rfl _ 0 [] r3 rfl w1.heap.size _ (s.take p) (s1.below x3) rfl (fun _ => rfl) q1 q2 x3.size ?_
        intro v1 w3 hown2 hg1 hat1
        have hB3 : Below w1.heap.size w1 w3 := x3.trans (below_grown r3 hg1 x3.size (Nat.le_refl _))
        have kk3 := hk w3 hB3
        have hc1 := one_sl w3 w1.heap.size b ((World.cell?_of_block (a := ⟨w1.heap.size, 0, none⟩) (hg1.block w1.heap.size (World.block_lt_of_cell? _ _ k3) n3)).trans k3))
     | (refine step_append_sl _ rfl (.tmp 25) (.tmp 28) _ rfl w1.heap.size 5 i0 (.int .u8 0) 1 Tryd.underlying39 hi hz0 hz1 hz2 rfl _ _ _ hown2 rfl _ _ [b] hc1 rfl (fun _ => rfl) q3 q4 hB3.size ?_
        intro v2 w4 hown4 hg4 hat4
        have hB4 : Below w1.heap.size w1 w4 := hB3.trans (below_grown hown2 hg4 hB3.size (Nat.le_refl _)))
     | (refine step_append_sl _ rfl (.tmp 29) (.tmp 32) _ rfl w1.heap.size 5 i0 (.int .u8 0) 1 Tryd.underlying39 hi hz0 hz1 hz2 rfl _ _ _ hown4 rfl w1.heap.size _ (s.drop p) (s2.below hB4) rfl (fun _ => rfl) q6 q7 hB4.size ?_
        intro v5 w5 hown5 hg5 hat5
        have hB5 : Below w1.heap.size w1 w5 := hB4.trans (below_grown hown4 hg5 hB4.size (Nat.le_refl _)))
     | (refine step_append_sl _ rfl (.tmp 21) (.tmp 24) _ rfl w1.heap.size 5 i0 (.int .u8 0) 1 Tryd.underlying39 hi hz0 hz1 hz2 rfl _ 0 [] r2 rfl w1.heap.size _ (s.take p) (s1.below x2) rfl (fun _ => rfl) q1 q2 x2.size ?_
        intro v1 w3 hown2 hg1 hat1
        have hB3 : Below w1.heap.size w1 w3 := x2.trans (below_grown r2 hg1 x2.size (Nat.le_refl _))
        have kk3 := hk w3 hB3
        have hc1 := one_sl w3 (w1.heap.size + 1) b ((World.cell?_of_block (a := ⟨w1.heap.size + 1, 0, none⟩) (hg1.block (w1.heap.size + 1) (World.block_lt_of_cell? _ _ k2b) n2)).trans k2b)))
    all_goals
     go_wp2_with fail
     go_ret
     exact ⟨v5, rfl, Sl.of_own (n := 0 + (s.take p).length + [b].length + (s.drop p).length) (by simpa [insW] using hown5), hB1.trans (hB5.mono hsz1)⟩
set_option maxRecDepth 100000 in
set_option maxHeartbeats 4000000 in
theorem RApply_other (sv : Value) (s : List UInt8) (k : Int) (hk : k ≠ 1 ∧ k ≠ 2 ∧ k ≠ 3) (z : Int) (b : UInt8) (h0 : 0 < s.length) (hl : s.length ≤ 1000) (w : World) (hS : Sl eB w.heap.size w sv s) :
    Calls Tryd.prog 24 #[sv, eD k z b] w fun e w' => ∃ v, e = .returned v ∧ Sl eB w'.heap.size w' v s ∧ Below w.heap.size w w' := by
  obtain ⟨i0, hi, hz0, hz1, hz2⟩ := info_parts info_u8
  obtain ⟨A, c, rfl⟩ := hS.len
  have e1 : (k == 1) = false := by simpa using hk.1
  have e2 : (k == 2) = false := by simpa using hk.2.1
  have e3 : (k == 3) = false := by simpa using hk.2.2
  clear hk
  have hcl : (eD k z b).cells = cD k z b := rfl
  have hr := Rowed.new w 42 (cD k z b)
  have hA := below_alloc w (.cells (cD k z b) 42)
  have hS0 := hS.below hA
  have hlt := hr.lt
  have hne0 : ((s.length : Int) == 0) = false := by rw [beq_eq_false_iff_ne]; omega
  have Hl := Lib.hid hl
  clear hl h0
  go_enter Tryd.func24, Tryd.ntmps24
  go_upto_region 1 with fail
  generalize w.alloc (.cells (cD k z b) 42) = w0 at *
  have hrow := row_made w0
  have hA1 := hA.alloc hA.size (.cells #[] 5)
  have hS1 : Sl eB w.heap.size (w0.alloc (.cells #[] 5)) (.slice A s.length c) s := hS0.below ((Below.refl _ w0).alloc hA.size _)
  have hr1 := hr.alloc (.cells #[] 5)
  have hlt1 := hr1.lt
  go_wp2_with
    (at_builtin
     refine wpList_append_sl _ rfl (.tmp 8) (.tmp 9) _ rfl w0.heap.size 5 i0 (.int .u8 0) 1 Tryd.underlying39 hi hz0 hz1 hz2 rfl _ 0 [] hrow rfl w.heap.size _ s hS1 rfl (fun _ => rfl) (by have := Hl.out; unfold maxLen; omega) (by have := Hl.out; omega) (by simp) ?_
     intro v1 w1 hown1 hg1 hat1
     have hr2 : Rowed w1 w.heap.size 42 (cD k z b) := (hg1.block _ hlt1 (by simp [Value.ownBlock]; omega)).trans hr1
     have k0 := hr2.cell 0
     have k1 := hr2.cell 1)
  go_ret
  exact ⟨_, rfl, Sl.of_own (n := s.length) (by simpa using hown1), hA1.trans (below_grown hrow hg1 hA1.size (by have := hA.size; omega))⟩
abbrev eE (k : UInt8) (z : Int) (b : UInt8) : Value := .agg #[eB k, .int .i64 z, eB b]
theorem RApply_any (sv : Value) (s : List UInt8) (k : UInt8) (z : Int) (b : UInt8) (h0 : 0 < s.length) (hl : s.length ≤ 1000) (w : World) (hS : Sl eB w.heap.size w sv s) :
    Calls Tryd.prog 24 #[sv, eE k z b] w fun e w' => ∃ v, e = .returned v ∧ Sl eB w'.heap.size w' v (apG s k z b) ∧ Below w.heap.size w w' := by
  have hx : ¬ s.length = 0 := by omega
  rcases u8_cases k with rfl | rfl | rfl | rfl | ⟨h4, n1, n2, n3⟩
  · have e : apG s 0 z b = s := by unfold apG; rw [if_neg (by decide), if_neg (by decide), if_neg (by decide)]
    rw [e]
    exact RApply_other sv s 0 ⟨by decide, by decide, by decide⟩ z b h0 hl w hS
  · obtain ⟨hp, hat⟩ := pl_is z s.length h0 (by omega)
    have e : apG s 1 z b = delW s (plG z s.length) := by unfold apG; rw [if_pos rfl, if_neg hx]; rfl
    rw [e]
    exact Apply_gap sv s z b _ h0 hl hp hat w hS
  · obtain ⟨hp, hat⟩ := pl_is z (s.length + 1) (by omega) (by omega)
    have e : apG s 2 z b = insW s (plG z (s.length + 1)) b := by unfold apG; rw [if_neg (by decide), if_pos rfl]; unfold insW; rw [List.append_assoc]; rfl
    rw [e]
    exact Apply_more sv s z b _ h0 hl (by omega) hat w hS
  · obtain ⟨hp, hat⟩ := pl_is z s.length h0 (by omega)
    have e : apG s 3 z b = s.set (plG z s.length) b := by
     unfold apG; rw [if_neg (by decide), if_neg (by decide), if_pos rfl, if_neg hx, List.set_eq_take_append_cons_drop, if_pos hp]
    rw [e]
    exact Apply_swap sv s z b _ h0 hl hp hat w hS
  · have e : apG s k z b = s := by unfold apG; rw [if_neg n1, if_neg n2, if_neg n3]
    rw [e]
    exact RApply_other sv s k.toNat ⟨by omega, by omega, by omega⟩ z b h0 hl w hS
end Go.Proofs.YtcngnjkpnmpcpaaDoor
