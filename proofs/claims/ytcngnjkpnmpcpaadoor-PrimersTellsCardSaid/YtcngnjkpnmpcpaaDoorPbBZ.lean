import Derived.Test.YtcngnjkpnmpcpaaDoorPaWZ
import Derived.Test.YtcngnjkpnmpcpaaDoorRdEZ
namespace Go.Proofs.YtcngnjkpnmpcpaaDoor
open Go.RowKit Go.Shelf
attribute [local go_sem] Oper.semAt_some run_store_func
def gr20 (L : List Pr) : Bool := decide (9 < L.length) || L.any fun p => decide (40 < p.1.length) || decide (40 < p.2.length)
theorem gr20_no {L : List Pr} (h : gr20 L = false) : L.length ≤ 9 := by
 unfold gr20 at h
 rw [Bool.or_eq_false_iff] at h
 have := of_decide_eq_false h.1
 omega
theorem gr20_long {L : List Pr} {p : Pr} (hp : p ∈ L) (h : 40 < p.1.length ∨ 40 < p.2.length) : gr20 L = true := by
 unfold gr20
 rw [Bool.or_eq_true]
 refine .inr (List.any_eq_true.2 ⟨p, hp, ?_⟩)
 rcases h with h | h
 · rw [decide_eq_true h]; rfl
 · rw [decide_eq_true h, Bool.or_true]
theorem gr20_many {L : List Pr} (h : 9 < L.length) : gr20 L = true := by
 unfold gr20
 rw [decide_eq_true h]
 rfl
theorem gr20_else {L : List Pr} (h : ∀ p ∈ L, p.1.length ≤ 40 ∧ p.2.length ≤ 40) : gr20 L = decide ((9 : Int) < (L.length : Int)) := by
 have e : L.any (fun p => decide (40 < p.1.length) || decide (40 < p.2.length)) = false := List.any_eq_false.2 fun p hp => by have := h p hp; simp; omega
 unfold gr20
 rw [e, Bool.or_false]
 exact decide_eq_decide.2 (by omega)
set_option maxRecDepth 100000 in
set_option maxHeartbeats 1000000 in
theorem great_any (v : Value) (L : List Pr) (w : World) (h : PrsIn w.heap.size w v L) :
    Calls Tryd.prog 8 #[v] w fun e w' => e = .returned (.bool (gr20 L)) ∧ w = w' := by
  obtain ⟨A, c, rfl, -, hcs⟩ := h
  go_enter Tryd.func8, Tryd.ntmps8
  go_wp2_with fail
  go_loopw [3] (fun t wr => ∃ k : Nat, k ≤ L.length ∧ k ≤ 10 ∧ t = .int .i64 k ∧ wr = w ∧ ∀ j (hj : j < L.length), j < k → L[j].1.length ≤ 40 ∧ L[j].2.length ≤ 40) (fun t _ => 10 - (RowKit.intOf t).toNat)
  case atStart => exact ⟨0, Nat.zero_le _, by omega, rfl, rfl, fun j _ h => absurd h (by omega)⟩
  case round =>
   obtain ⟨k, hk, hk6, rfl, rfl, hL⟩ := hrel
   by_cases hlt : k < L.length
   · by_cases h6 : k ≤ 9
     · obtain ⟨b, off, rfl, -, hcell⟩ := hcs (by omega)
       have hc1 := (hcell k hlt).1
       have hc2 := (hcell k hlt).2
       have HL : Hid (L[k].1.length ≤ 40 → L[k].2.length ≤ 40 → ∀ j (hj : j < L.length), j < k + 1 → L[j].1.length ≤ 40 ∧ L[j].2.length ≤ 40) := Lib.hid fun h h' j hj hjk => by
        by_cases he : j = k
        · subst he; exact ⟨h, h'⟩
        · exact hL j hj (by omega)
       have HG : Hid ((40 < L[k].1.length ∨ 40 < L[k].2.length) → gr20 L = true) := Lib.hid fun h => gr20_long (List.getElem_mem hlt) h
       generalize L[k] = p at hc1 hc2 HL HG
       obtain ⟨x, y⟩ := p
       simp only at hc1 hc2 HL HG
       have h3 : (k : Int) < (L.length : Int) := by omega
       have h4 : (k : Int) ≤ 9 := by omega
       have hlt' := Lib.hid hlt
       clear hcell hcs hL hlt hk
       by_cases h5 : 40 < x.length
       · have d5 : decide ((40 : Int) < (x.length : Int)) = true := decide_eq_true (by omega)
         have hg := Lib.hid (HG.out (.inl h5))
         clear HL HG h5
         go_wp2_with fail
         go_ret
         exact ⟨by rw [hg.out]; rfl, rfl⟩
       · have d5 : decide ((40 : Int) < (x.length : Int)) = false := decide_eq_false (by omega)
         by_cases h7 : 40 < y.length
         · have d7 : decide ((40 : Int) < (y.length : Int)) = true := decide_eq_true (by omega)
           have hg := Lib.hid (HG.out (.inr h7))
           clear HL HG h5 h7
           go_wp2_with fail
           go_ret
           exact ⟨by rw [hg.out]; rfl, rfl⟩
         · have d7 : decide ((40 : Int) < (y.length : Int)) = false := decide_eq_false (by omega)
           have HM := Lib.hid (HL.out (by omega) (by omega))
           clear HL HG h5 h7
           go_wp2_with fail
           go_roundw
           case rel => exact ⟨k + 1, hlt'.out, by omega, by go_num, trivial, HM.out⟩
           case measure => simp [RowKit.intOf]; omega
     · have h3 : (k : Int) < (L.length : Int) := by omega
       have h4 : ¬ (k : Int) ≤ 9 := by omega
       have d5 : decide ((9 : Int) < (L.length : Int)) = true := decide_eq_true (by omega)
       have hg := Lib.hid (gr20_many (L := L) (by omega))
       clear hcs hL
       go_wp2_with fail
       go_ret
       exact ⟨by rw [hg.out]; rfl, rfl⟩
   · obtain rfl : k = L.length := by omega
     have h3 : ¬ (L.length : Int) < (L.length : Int) := by omega
     have h4 : ¬ L.length < L.length := by omega
     have hg := gr20_else (L := L) fun p hp => by
      obtain ⟨j, hj, rfl⟩ := List.getElem_of_mem hp
      exact hL j hj hj
     have Hg := Lib.hid hg
     clear hlt hk hL hcs hk6 hg
     go_wp2_with fail
     go_ret
     exact ⟨by rw [Hg.out]; rfl, rfl⟩
def DsS (i k : Nat) (N : World) (x y : List UInt8) (D : Nat → Bool) (g : Nat → Value) (w : World) : Prop :=
 Below N.heap.size N w ∧ (D i = true → Sl eB w.heap.size w (g i) x) ∧ (D k = true → Sl eB w.heap.size w (g k) y)
section
variable {i k : Nat} {N : World} {x y : List UInt8} {D : Nat → Bool} {g : Nat → Value} {w w' : World}
theorem DsS.keep {j : Nat} (h : DsS i k N x y D g w) (h1 : i ≠ j) (h2 : k ≠ j) (hB : Below w.heap.size w w') : DsS i k N x y (upd D j) g w' := by
 unfold DsS
 rw [upd_other D h1, upd_other D h2]
 exact ⟨below_trans h.1 hB, fun hd => (h.2.1 hd).next hB, fun hd => (h.2.2 hd).next hB⟩
theorem DsS.same {j : Nat} (h : DsS i k N x y D g w) (h1 : i ≠ j) (h2 : k ≠ j) : DsS i k N x y (upd D j) g w := h.keep h1 h2 (Below.refl _ _)
theorem DsS.first {v : Value} (h : DsS i k N x y D g w) (hik : i ≠ k) (hB : Below w.heap.size w w') (hv : Sl eB w'.heap.size w' v x) : DsS i k N x y (upd D i) (fun j => if j = i then v else g j) w' := by
 unfold DsS
 rw [upd_same, upd_other D (Ne.symm hik)]
 refine ⟨below_trans h.1 hB, fun _ => by simpa using hv, fun hd => ?_⟩
 simp only [if_neg (Ne.symm hik)]
 exact (h.2.2 hd).next hB
theorem DsS.second {v : Value} (h : DsS i k N x y D g w) (hik : i ≠ k) (hB : Below w.heap.size w w') (hv : Sl eB w'.heap.size w' v y) : DsS i k N x y (upd D k) (fun j => if j = k then v else g j) w' := by
 unfold DsS
 rw [upd_same, upd_other D hik]
 refine ⟨below_trans h.1 hB, fun hd => ?_, fun _ => by simpa using hv⟩
 simp only [if_neg hik]
 exact (h.2.1 hd).next hB
end
end Go.Proofs.YtcngnjkpnmpcpaaDoor
