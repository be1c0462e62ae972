import Derived.Test.YtcngnjkpnmpcpaaDoorPbCZ
namespace Go.Proofs.YtcngnjkpnmpcpaaDoor
open Go.RowKit Go.Shelf
attribute [local go_sem] Oper.semAt_some run_store_func
def MyS (N : World) (L : List Pr) (a b : List UInt8) (D : Nat → Bool) (g : Nat → Value) (w : World) : Prop :=
 Below N.heap.size N w ∧ (D 0 = true → D 2 = false → ∃ q, g 0 = .slice (some ⟨q, 0, none⟩) 0 0 ∧ N.heap.size ≤ q ∧ Rowed w q 46 #[]) ∧ (D 2 = true → D 5 = false → w.ownsRow N.heap.size 46 2 (g 2) L.length ((allP L).map sV)) ∧
   (D 4 = true → D 5 = false → ∃ q, g 4 = .slice (some ⟨q, 0, none⟩) 1 1 ∧ Rowed w q 46 #[sV a, sV b]) ∧ (D 5 = true → PrsIn w.heap.size w (g 5) (L ++ [(a, b)])) ∧ (D 14 = true → PrsIn w.heap.size w (g 14) [(a, a)]) ∧
   (D 2 = true → D 0 = true) ∧ (D 5 = true → D 2 = true ∧ D 4 = true) ∧ (D 14 = true → D 5 = true)
section
variable {N : World} {L : List Pr} {a b : List UInt8} {D : Nat → Bool} {g : Nat → Value} {w w' : World}
theorem MyS.same {i : Nat} (h : MyS N L a b D g w) (h0 : i ≠ 0) (h2 : i ≠ 2) (h4 : i ≠ 4) (h5 : i ≠ 5) (h14 : i ≠ 14) : MyS N L a b (upd D i) g w := by
 unfold MyS
 rw [upd_other D (Ne.symm h0), upd_other D (Ne.symm h2), upd_other D (Ne.symm h4), upd_other D (Ne.symm h5), upd_other D (Ne.symm h14)]
 exact h
theorem MyS.call {i : Nat} (h : MyS N L a b D g w) (h0 : i ≠ 0) (h2 : i ≠ 2) (h4 : i ≠ 4) (h5 : i ≠ 5) (h14 : i ≠ 14) (hd : D 5 = true) (hB : Below w.heap.size w w') : MyS N L a b (upd D i) g w' := by
 obtain ⟨s0, s1, s2, s3, s4, s5, s6, s7, s8⟩ := h
 unfold MyS
 rw [upd_other D (Ne.symm h0), upd_other D (Ne.symm h2), upd_other D (Ne.symm h4), upd_other D (Ne.symm h5), upd_other D (Ne.symm h14)]
 refine ⟨below_trans s0 hB, fun h1 h2 => ?_, fun _ h2 => ?_, fun _ h2 => ?_, fun h1 => (s4 h1).next hB, fun h1 => (s5 h1).next hB, s6, s7, s8⟩
 · rw [(s7 hd).1] at h2; cases h2
 · rw [hd] at h2; cases h2
 · rw [hd] at h2; cases h2
theorem MyS.no2 (h : MyS N L a b D g w) (hd : D 2 = false) : D 5 = false ∧ D 14 = false := by
 have h5 : D 5 = false := bool_noL fun e => by rw [(h.2.2.2.2.2.2.2.1 e).1] at hd; cases hd
 exact ⟨h5, bool_noL fun e => by rw [h.2.2.2.2.2.2.2.2 e] at h5; cases h5⟩
theorem MyS.op0 (h : MyS N L a b D g w) (hD : D 0 = false) : MyS N L a b (upd D 0) (fun j => if j = 0 then .slice (some ⟨w.heap.size, 0, none⟩) 0 0 else g j) (w.alloc (.cells #[] 46)) := by
 have n2 : D 2 = false := bool_noL fun e => by rw [h.2.2.2.2.2.2.1 e] at hD; cases hD
 obtain ⟨n5, n14⟩ := h.no2 n2
 obtain ⟨s0, s1, s2, s3, s4, s5, s6, s7, s8⟩ := h
 have hs := s0.size
 unfold MyS
 rw [upd_same, upd_other D (show 2 ≠ 0 by decide), upd_other D (show 4 ≠ 0 by decide), upd_other D (show 5 ≠ 0 by decide), upd_other D (show 14 ≠ 0 by decide), n2, n5, n14]
 refine ⟨s0.alloc (by omega) _, fun _ _ => ⟨w.heap.size, rfl, hs, Rowed.new w 46 #[]⟩, ?_, fun h4 _ => ?_, ?_, ?_, fun _ => rfl, ?_, ?_⟩
 · intro h; cases h
 · obtain ⟨q, e1, e2⟩ := s3 h4 n5
   exact ⟨q, e1, e2.alloc _⟩
 all_goals (intro h; cases h)
theorem MyS.op2 (h : MyS N L a b D g w) (hD : D 2 = false) (h0 : D 0 = true) {q : Nat} (hq : N.heap.size ≤ q) (hr : Rowed w q 46 #[]) {v : Value} (hown : w'.ownsRow N.heap.size 46 2 v L.length ((allP L).map sV)) (hg : w.grownBy w' (some q)) : MyS N L a b (upd D 2) (fun j => if j = 2 then v else g j) w' := by
 obtain ⟨n5, n14⟩ := h.no2 hD
 obtain ⟨s0, s1, s2, s3, s4, s5, s6, s7, s8⟩ := h
 unfold MyS
 rw [upd_same, upd_other D (show 0 ≠ 2 by decide), upd_other D (show 4 ≠ 2 by decide), upd_other D (show 5 ≠ 2 by decide), upd_other D (show 14 ≠ 2 by decide), n5, n14, h0]
 refine ⟨s0.grown hg s0.size (fun k e => by cases e; exact hq), ?_, fun _ _ => hown, fun h4 _ => ?_, ?_, ?_, fun _ => rfl, ?_, ?_⟩
 · intro _ h; cases h
 · obtain ⟨t, e1, e2⟩ := s3 h4 n5
   refine ⟨t, e1, (hg.block t (Rowed.lt e2) (fun e => ?_)).trans e2⟩
   cases e
   have := e2.symm.trans hr
   cases this
 all_goals (intro h; cases h)
theorem MyS.op4 (h : MyS N L a b D g w) (hD : D 4 = false) : MyS N L a b (upd D 4) (fun j => if j = 4 then .slice (some ⟨w.heap.size, 0, none⟩) 1 1 else g j) (w.alloc (.cells #[sV a, sV b] 46)) := by
 have n5 : D 5 = false := bool_noL fun e => by rw [(h.2.2.2.2.2.2.2.1 e).2] at hD; cases hD
 have n14 : D 14 = false := bool_noL fun e => by rw [h.2.2.2.2.2.2.2.2 e] at n5; cases n5
 obtain ⟨s0, s1, s2, s3, s4, s5, s6, s7, s8⟩ := h
 have hs := s0.size
 unfold MyS
 rw [upd_same, upd_other D (show 0 ≠ 4 by decide), upd_other D (show 2 ≠ 4 by decide), upd_other D (show 5 ≠ 4 by decide), upd_other D (show 14 ≠ 4 by decide), n5, n14]
 refine ⟨s0.alloc (by omega) _, fun h1 h2 => ?_, fun h2 _ => (s2 h2 n5).alloc _, fun _ _ => ⟨w.heap.size, rfl, Rowed.new w 46 #[sV a, sV b]⟩, ?_, ?_, s6, ?_, ?_⟩
 · obtain ⟨q, e1, e2, e3⟩ := s1 h1 h2
   exact ⟨q, e1, e2, e3.alloc _⟩
 all_goals (intro h; cases h)
theorem MyS.op5 (h : MyS N L a b D g w) (hD : D 5 = false) (h2 : D 2 = true) (h4 : D 4 = true) {v : Value} (hv : PrsIn w'.heap.size w' v (L ++ [(a, b)])) (hB : Below N.heap.size N w') : MyS N L a b (upd D 5) (fun j => if j = 5 then v else g j) w' := by
 have n14 : D 14 = false := bool_noL fun e => by rw [h.2.2.2.2.2.2.2.2 e] at hD; cases hD
 obtain ⟨s0, s1, s2, s3, s4, s5, s6, s7, s8⟩ := h
 unfold MyS
 rw [upd_same, upd_other D (show 0 ≠ 5 by decide), upd_other D (show 2 ≠ 5 by decide), upd_other D (show 4 ≠ 5 by decide), upd_other D (show 14 ≠ 5 by decide), n14, h2, h4]
 refine ⟨hB, ?_, ?_, ?_, fun _ => hv, ?_, fun _ => s6 h2, fun _ => ⟨rfl, rfl⟩, fun _ => rfl⟩
 · intro _ h; cases h
 · intro _ h; cases h
 · intro _ h; cases h
 · intro h; cases h
theorem pair1_new (w : World) (a b : List UInt8) : PrsIn (w.alloc (.cells #[sV a, sV b] 46)).heap.size (w.alloc (.cells #[sV a, sV b] 46)) (.slice (some ⟨w.heap.size, 0, none⟩) 1 1) [(a, b)] := by
 have hr := Rowed.new w 46 #[sV a, sV b]
 refine ⟨_, 1, rfl, Nat.le_refl _, fun _ => ⟨w.heap.size, 0, rfl, hr.lt, fun i hi => ?_⟩⟩
 have hi : i < 1 := hi
 obtain rfl : i = 0 := by omega
 rw [hr.cell, hr.cell]
 exact ⟨rfl, rfl⟩
theorem MyS.op14 (h : MyS N L a b D g w) (h5 : D 5 = true) : MyS N L a b (upd D 14) (fun j => if j = 14 then .slice (some ⟨w.heap.size, 0, none⟩) 1 1 else g j) (w.alloc (.cells #[sV a, sV a] 46)) := by
 obtain ⟨s0, s1, s2, s3, s4, s5, s6, s7, s8⟩ := h
 have hs := s0.size
 unfold MyS
 rw [upd_same, upd_other D (show 0 ≠ 14 by decide), upd_other D (show 2 ≠ 14 by decide), upd_other D (show 4 ≠ 14 by decide), upd_other D (show 5 ≠ 14 by decide)]
 refine ⟨s0.alloc (by omega) _, fun _ h2 => ?_, fun _ e => ?_, fun _ e => ?_, fun _ => (s4 h5).next (below_alloc _ _), fun _ => pair1_new w a a, s6, s7, fun _ => h5⟩
 · rw [(s7 h5).1] at h2; cases h2
 · rw [h5] at e; cases e
 · rw [h5] at e; cases e
end
theorem allP_snoc (L : List Pr) (p : Pr) : allP (L ++ [p]) = allP L ++ [p.1, p.2] := by rw [allP_app]; rfl
theorem chk_twice (L : List Pr) (p : Pr) (hp : p ∈ L) : chkE (L ++ [p]) = 200 := by
 refine if_neg fun h => ?_
 unfold chkB at h
 rw [Bool.and_eq_true, allP_snoc, show allP L ++ [p.1, p.2] = (allP L ++ [p.1]) ++ [p.2] by simp, chkF_snoc, chkF_snoc, Bool.and_eq_true, Bool.and_eq_true] at h
 have h1 : p.1 ∈ allP L := List.mem_flatMap.2 ⟨p, hp, by simp⟩
 rw [take_self h1] at h
 simp at h
theorem chk_same (a : List UInt8) : chkE [(a, a)] = 200 := by
 refine if_neg fun h => ?_
 unfold chkB at h
 rw [Bool.and_eq_true] at h
 have h2 : (takeB [] a && (takeB [a] a && true)) = true := h.2
 rw [take_self (xs := [a]) (p := a) (by simp)] at h2
 simp at h2
theorem prs_cells {W : World} {b off : Nat} {L : List Pr} (h : ∀ i (hi : i < L.length), W.cell? ⟨b, off + i * 2, none⟩ = some (sV L[i].1) ∧ W.cell? ⟨b, off + i * 2 + 1, none⟩ = some (sV L[i].2)) : ∀ j u, ((allP L).map sV)[j]? = some u → W.cell? ((⟨b, off, none⟩ : Addr).add j) = some u := by
 intro j u hu
 rw [show (⟨b, off, none⟩ : Addr).add j = ⟨b, off + j, none⟩ from by unfold Addr.add; split <;> simp_all]
 have hj : j < (allP L).length := by have := (List.getElem?_eq_some_iff.1 hu).1; simpa using this
 rw [allP_len] at hj
 rw [List.getElem?_map] at hu
 rcases Nat.mod_two_eq_zero_or_one j with h2 | h2
 · have e : j = (j / 2) * 2 := by omega
   have hc := (h (j / 2) (by omega)).1
   have ha := (allP_at L (j / 2) (by omega)).1
   rw [← e] at hc ha
   rw [ha] at hu
   rw [hc, ← hu]
   rfl
 · have e : j = (j / 2) * 2 + 1 := by omega
   have hc := (h (j / 2) (by omega)).2
   have ha := (allP_at L (j / 2) (by omega)).2
   rw [← e] at ha
   rw [ha] at hu
   rw [show off + j = off + j / 2 * 2 + 1 by omega, hc, ← hu]
   rfl
end Go.Proofs.YtcngnjkpnmpcpaaDoor
