import Derived.Test.YtgblkcddhnigaaaDoorClDZ
import Derived.Test.YtgblkcddhnigaaaDoorEdCZ
namespace Go.Proofs.YtgblkcddhnigaaaDoor
open Go.RowKit Go.Shelf
structure ClC where
  A : Option Addr
  c : Nat
  rows : List RowC
def eCC (p : ClC) : Value := .slice p.A p.rows.length p.c
def bs3 (cl : List ClC) : List (List (List UInt8)) := cl.map fun c => bsL c.rows
theorem own_keepT {W W' : World} {B : Nat} {e : TypeId} {v : Value} {n : Nat} {xs : List Value} (h : W.ownsRow B e 1 v n xs) (hk : ∀ k cs, B ≤ k → W.heap[k]? = some (.cells cs e (0, 0)) → v.ownBlock = some k → W'.heap[k]? = some (.cells cs e (0, 0))) : W'.ownsRow B e 1 v n xs := by
 refine ⟨h.1, ?_⟩
 rcases h.2 with h1 | ⟨g, cap, cur, e1, hB, hg, hr⟩
 · exact .inl h1
 · exact .inr ⟨g, cap, cur, e1, hB, hk g _ hB hg (by rw [e1]; rfl), hr⟩
theorem own_tag {W : World} {B : Nat} {e : TypeId} {v : Value} {n : Nat} {xs : List Value} (h : W.ownsRow B e 1 v n xs) {k : Nat} (hk : v.ownBlock = some k) : B ≤ k ∧ ∃ cs, W.heap[k]? = some (.cells cs e (0, 0)) := by
 rcases h.2 with ⟨h1, -⟩ | ⟨g, cap, cur, e1, hB, hg, hr⟩
 · rw [h1] at hk; cases hk
 · rw [e1] at hk
   obtain rfl : g = k := by simpa [Value.ownBlock] using hk
   exact ⟨hB, _, hg⟩
theorem own_setV {B : Nat} {w : World} {e : TypeId} {v : Value} {xs : List Value} (h : w.ownsRow B e 1 v xs.length xs) (j : Nat) (hj : j < xs.length) :
    ∃ g cap, v = .slice (some ⟨g, 0, none⟩) xs.length cap ∧ B ≤ g ∧ g < w.heap.size ∧ xs.length ≤ cap ∧ (∃ cs, w.heap[g]? = some (.cells cs e (0, 0))) ∧ w.cell? ⟨g, j, none⟩ = some xs[j] ∧ w.frozen? ⟨g, j, none⟩ = false ∧
      ∀ (w' : World) (u : Value), w'.heap[g]? = w.heap[g]? → (w'.setCell ⟨g, j, none⟩ u).ownsRow B e 1 v xs.length (xs.set j u) := by
  rcases h.2 with ⟨_, h1⟩ | ⟨g, cap, cs, e1, hB, hg, hn, hm, hsz, htake⟩
  · omega
  · rw [Nat.mul_one] at hsz htake
    have hr : Rowed w g e cs := hg
    have hget : ∀ i (hi : i < xs.length), cs[i]? = some xs[i] := fun i hi => by
     have h1 : (cs.toList.take xs.length)[i]? = xs[i]? := by rw [htake]
     rw [List.getElem?_take_of_lt hi, Array.getElem?_toList] at h1
     rw [h1]
     simp [hi]
    refine ⟨g, cap, e1, hB, hr.lt, hn, ⟨_, hg⟩, by rw [hr.cell j, hget j hj], hr.frozen j, fun w' u hw => ?_⟩
    have hr' : Rowed w' g e cs := hw.trans hg
    have hs := hr'.set j u
    refine ⟨by simp, .inr ⟨g, cap, cs.setIfInBounds j u, e1, hB, hs, hn, hm, by simpa using hsz, ?_⟩⟩
    apply List.ext_getElem?
    intro i
    rw [Nat.mul_one]
    by_cases hi : i < xs.length
    · rw [List.getElem?_take_of_lt hi, Array.getElem?_toList]
      by_cases e : i = j
      · subst e
        rw [Array.getElem?_setIfInBounds_self_of_lt (by omega), List.getElem?_set_self hi]
      · rw [Array.getElem?_setIfInBounds_ne (fun h => e h.symm), hget i hi, List.getElem?_set_ne (fun h => e h.symm)]
        simp [hi]
    · rw [List.getElem?_eq_none (by simp; omega), List.getElem?_eq_none (by simp; omega)]
structure CcB (B : Nat) (W : World) (t : Value) (cl : List ClC) : Prop where
  out : W.ownsRow B 22 1 t cl.length (cl.map eCC)
  each : ∀ c ∈ cl, c.rows ≠ [] ∧ W.ownsRow B 34 1 (eCC c) c.rows.length (c.rows.map eC)
  rows : ∀ c ∈ cl, ∀ p ∈ c.rows, W.ownsRow B 5 1 (eC p) p.bs.length (p.bs.map eB)
  apart : cl.Pairwise fun a b => (eCC a).ownBlock ≠ (eCC b).ownBlock
theorem CcB.nil (B : Nat) (W : World) : CcB B W (.slice none 0 0) [] := ⟨World.ownsRow_nil _ _ _ _, fun _ h => by (cases h), fun _ h => by (cases h), .nil⟩
theorem CcB.kept {B : Nat} {W W' : World} {t : Value} {cl : List ClC} (h : CcB B W t cl) (hk : ∀ k cs e, B ≤ k → W.heap[k]? = some (.cells cs e (0, 0)) → W'.heap[k]? = some (.cells cs e (0, 0))) : CcB B W' t cl :=
 ⟨own_keepT h.out fun k cs hB ho _ => hk k cs _ hB ho, fun c hc => ⟨(h.each c hc).1, own_keepT (h.each c hc).2 fun k cs hB ho _ => hk k cs _ hB ho⟩, fun c hc p hp => own_keepT (h.rows c hc p hp) fun k cs hB ho _ => hk k cs _ hB ho, h.apart⟩
theorem CcB.bel {B : Nat} {W W' : World} {t : Value} {cl : List ClC} (h : CcB B W t cl) (hb : Below W.heap.size W W') : CcB B W' t cl :=
 h.kept fun k _ _ _ ho => (hb.block k (Array.getElem?_eq_some_iff.1 ho).1).trans ho
theorem CcB.base {B B' : Nat} {W : World} {t : Value} {cl : List ClC} (h : CcB B W t cl) (hB : B' ≤ B) : CcB B' W t cl := by
 have hb : ∀ {e : TypeId} {v : Value} {n : Nat} {xs : List Value}, W.ownsRow B e 1 v n xs → W.ownsRow B' e 1 v n xs := fun h => by
  refine ⟨h.1, ?_⟩
  rcases h.2 with h1 | ⟨g, cap, cur, e1, hg, hr⟩
  · exact .inl h1
  · exact .inr ⟨g, cap, cur, e1, Nat.le_trans hB hg, hr⟩
 exact ⟨hb h.out, fun c hc => ⟨(h.each c hc).1, hb (h.each c hc).2⟩, fun c hc p hp => hb (h.rows c hc p hp), h.apart⟩
theorem CcB.row {B : Nat} {W : World} {t : Value} {cl : List ClC} (h : CcB B W t cl) {c : ClC} (hc : c ∈ cl) : RowsIn W (eCC c) c.rows := ⟨Sl.of_own (h.each c hc).2, fun p hp => Sl.of_own (h.rows c hc p hp)⟩
theorem CcB.add {B : Nat} {W1 W3 : World} {t : Value} {cl : List ClC} (h : CcB B W1 t cl) (i : Nat) (hi : i < cl.length) (R : RowC) (hR : W1.ownsRow B 5 1 (eC R) R.bs.length (R.bs.map eB)) (A' : Option Addr) (c' : Nat)
    (hown : W3.ownsRow B 34 1 (.slice A' (cl[i].rows.length + 1) c') (cl[i].rows.length + 1) (cl[i].rows.map eC ++ [eC R])) (hg : W1.grownBy W3 (eCC cl[i]).ownBlock)
    (hat : (Value.slice A' (cl[i].rows.length + 1) c').ownBlock = (eCC cl[i]).ownBlock ∨ (Value.slice A' (cl[i].rows.length + 1) c').ownBlock = some W1.heap.size) :
    ∃ g cap, t = .slice (some ⟨g, 0, none⟩) cl.length cap ∧ B ≤ g ∧ g < W3.heap.size ∧ cl.length ≤ cap ∧ (∃ u, W3.cell? ⟨g, i, none⟩ = some u) ∧ W3.frozen? ⟨g, i, none⟩ = false ∧
      CcB B (W3.setCell ⟨g, i, none⟩ (.slice A' (cl[i].rows.length + 1) c')) t (cl.set i ⟨A', c', cl[i].rows ++ [R]⟩) := by
 have hmem := List.getElem_mem hi
 obtain ⟨hne, hci⟩ := h.each _ hmem
 -- a block with another mark, or another cluster's, is as it was
 have hk : ∀ (k : Nat) (cs : Array Value) (e : TypeId), W1.heap[k]? = some (.cells cs e (0, 0)) → (e ≠ 34 ∨ (eCC cl[i]).ownBlock ≠ some k) → W3.heap[k]? = some (.cells cs e (0, 0)) := fun k cs e ho hd => (hg.block k (Array.getElem?_eq_some_iff.1 ho).1 fun e2 => by
  obtain ⟨-, cs2, h2⟩ := own_tag hci e2.symm
  rw [ho] at h2
  cases h2
  rcases hd with hd | hd
  · exact hd rfl
  · exact hd e2.symm).trans ho
 have hout : W3.ownsRow B 22 1 t cl.length (cl.map eCC) := own_keepT h.out fun k cs _ ho _ => hk k cs _ ho (.inl (by decide))
 have hout' : W3.ownsRow B 22 1 t (cl.map eCC).length (cl.map eCC) := by rw [List.length_map]; exact hout
 obtain ⟨g, cap, e1, hB, hlt, hcap, ⟨cs0, htag⟩, hcell, hfr, hput⟩ := own_setV hout' i (by rw [List.length_map]; exact hi)
 rw [List.length_map] at e1 hcap hput
 refine ⟨g, cap, e1, hB, hlt, hcap, ⟨_, hcell⟩, hfr, ?_⟩
 -- the store turns the outer row's block alone
 have hst : ∀ (k : Nat) (cs : Array Value) (e : TypeId) (u : Value), W3.heap[k]? = some (.cells cs e (0, 0)) → e ≠ 22 → (W3.setCell ⟨g, i, none⟩ u).heap[k]? = some (.cells cs e (0, 0)) := fun k cs e u ho hd => (Below.heap_setCell W3 ⟨g, i, none⟩ u k (show k ≠ g by
  rintro rfl
  rw [htag] at ho
  cases ho
  exact hd rfl)).trans ho
 have hset : (cl.set i ⟨A', c', cl[i].rows ++ [R]⟩).map eCC = (cl.map eCC).set i (.slice A' (cl[i].rows.length + 1) c') := by
  rw [List.map_set]
  simp [eCC]
 have hin : ∀ c ∈ cl.set i ⟨A', c', cl[i].rows ++ [R]⟩, c = ⟨A', c', cl[i].rows ++ [R]⟩ ∨ ∃ j, ∃ hj : j < cl.length, j ≠ i ∧ c = cl[j] := fun c hc => by
  obtain ⟨j, hj, e⟩ := List.getElem_of_mem hc
  rw [List.length_set] at hj
  rw [List.getElem_set] at e
  by_cases hji : i = j
  · rw [if_pos hji] at e; exact .inl e.symm
  · rw [if_neg hji] at e; exact .inr ⟨j, hj, fun h => hji h.symm, e.symm⟩
 have hdiff : ∀ j (hj : j < cl.length), j ≠ i → (eCC cl[j]).ownBlock ≠ (eCC cl[i]).ownBlock := fun j hj hji => by
  rcases Nat.lt_or_gt_of_ne hji with h1 | h1
  · exact List.pairwise_iff_getElem.1 h.apart j i hj hi h1
  · exact fun e => List.pairwise_iff_getElem.1 h.apart i j hi hj h1 e.symm
 have hrow : ∀ p : RowC, W1.ownsRow B 5 1 (eC p) p.bs.length (p.bs.map eB) → (W3.setCell ⟨g, i, none⟩ (.slice A' (cl[i].rows.length + 1) c')).ownsRow B 5 1 (eC p) p.bs.length (p.bs.map eB) := fun p hp =>
  own_keepT hp fun k cs _ ho _ => hst k cs _ _ (hk k cs _ ho (.inl (by decide))) (by decide)
 refine ⟨?_, fun c hc => ?_, fun c hc p hp => ?_, ?_⟩
 · rw [List.length_set, hset]
   have := hput W3 (.slice A' (cl[i].rows.length + 1) c') rfl
   exact this
 · rcases hin c hc with rfl | ⟨j, hj, hji, rfl⟩
   · refine ⟨by simp, ?_⟩
     have h2 : W3.ownsRow B 34 1 (eCC ⟨A', c', cl[i].rows ++ [R]⟩) (cl[i].rows ++ [R]).length ((cl[i].rows ++ [R]).map eC) := by simpa [eCC] using hown
     exact own_keepT h2 fun k cs _ ho _ => hst k cs _ _ ho (by decide)
   · have h2 := h.each _ (List.getElem_mem hj)
     refine ⟨h2.1, own_keepT h2.2 fun k cs _ ho hb => hst k cs _ _ (hk k cs _ ho (.inr fun e => hdiff j hj hji (hb.trans e.symm))) (by decide)⟩
 · rcases hin c hc with rfl | ⟨j, hj, hji, rfl⟩
   · rcases List.mem_append.1 hp with hp | hp
     · exact hrow p (h.rows _ hmem p hp)
     · rw [List.mem_singleton.1 hp]; exact hrow R hR
   · exact hrow p (h.rows _ (List.getElem_mem hj) p hp)
 · rw [List.pairwise_iff_getElem]
   intro a b ha hb hab
   rw [List.length_set] at ha hb
   rw [List.getElem_set, List.getElem_set]
   have hnew : ∀ j (hj : j < cl.length), j ≠ i → (eCC cl[j]).ownBlock ≠ (eCC ⟨A', c', cl[i].rows ++ [R]⟩).ownBlock := fun j hj hji => by
    have e2 : (eCC ⟨A', c', cl[i].rows ++ [R]⟩).ownBlock = (Value.slice A' (cl[i].rows.length + 1) c').ownBlock := by simp [eCC]
    rw [e2]
    rcases hat with h5 | h5
    · rw [h5]; exact hdiff j hj hji
    · rw [h5]
      intro e
      obtain ⟨-, cs, h6⟩ := own_tag (h.each _ (List.getElem_mem hj)).2 e
      exact absurd (Array.getElem?_eq_some_iff.1 h6).1 (Nat.lt_irrefl _)
   by_cases h1 : i = a
   · rw [if_pos h1, if_neg (show ¬ i = b by omega)]
     exact fun e => hnew b hb (by omega) e.symm
   · rw [if_neg h1]
     by_cases h2 : i = b
     · rw [if_pos h2]
       exact hnew a ha (by omega)
     · rw [if_neg h2]
       exact List.pairwise_iff_getElem.1 h.apart a b ha hb hab
theorem CcB.push {B : Nat} {W0 W3 : World} {t t' : Value} {cl : List ClC} (h : CcB B W0 t cl) (R : RowC) (hR : W0.ownsRow B 5 1 (eC R) R.bs.length (R.bs.map eB)) (hB : B ≤ W0.heap.size) (o : Obj)
    (hown : W3.ownsRow B 22 1 t' (cl.length + 1) (cl.map eCC ++ [.slice (some ⟨W0.heap.size, 0, none⟩) 1 1])) (hg : ((W0.alloc (.cells #[eC R] 34)).alloc o).grownBy W3 t.ownBlock) :
    CcB B W3 t' (cl ++ [⟨some ⟨W0.heap.size, 0, none⟩, 1, [R]⟩]) := by
 have hal : Below W0.heap.size W0 ((W0.alloc (.cells #[eC R] 34)).alloc o) := ((Below.refl _ _).alloc (Nat.le_refl _) _).alloc (by simp) _
 have hk : ∀ (k : Nat) (cs : Array Value) (e : TypeId), ((W0.alloc (.cells #[eC R] 34)).alloc o).heap[k]? = some (.cells cs e (0, 0)) → k ≤ W0.heap.size → e ≠ 22 → W3.heap[k]? = some (.cells cs e (0, 0)) := fun k cs e ho hk hd => (hg.block k (Array.getElem?_eq_some_iff.1 ho).1 fun e2 => by
  obtain ⟨-, cs2, h2⟩ := own_tag h.out e2.symm
  have h3 := (hal.block k (Array.getElem?_eq_some_iff.1 h2).1).trans h2
  rw [ho] at h3
  cases h3
  exact hd rfl).trans ho
 have hk0 : ∀ (k : Nat) (cs : Array Value) (e : TypeId), W0.heap[k]? = some (.cells cs e (0, 0)) → e ≠ 22 → W3.heap[k]? = some (.cells cs e (0, 0)) := fun k cs e ho hd => by
  have hlt := (Array.getElem?_eq_some_iff.1 ho).1
  exact hk k cs e ((hal.block k hlt).trans ho) (by omega) hd
 have hnew : W3.heap[W0.heap.size]? = some (.cells #[eC R] 34 (0, 0)) := by
  refine hk _ _ _ ?_ (Nat.le_refl _) (by decide)
  exact (Below.heap_alloc _ o W0.heap.size (by simp)).trans (World.alloc_heap_new W0 _)
 refine ⟨by simpa [eCC] using hown, fun c hc => ?_, fun c hc p hp => ?_, ?_⟩
 · rcases List.mem_append.1 hc with hc | hc
   · exact ⟨(h.each c hc).1, own_keepT (h.each c hc).2 fun k cs _ ho _ => hk0 k cs _ ho (by decide)⟩
   · rw [List.mem_singleton.1 hc]
     refine ⟨by simp, rfl, .inr ⟨W0.heap.size, 1, #[eC R], rfl, hB, hnew, Nat.le_refl _, by unfold maxLen; omega, rfl, rfl⟩⟩
 · rcases List.mem_append.1 hc with hc | hc
   · exact own_keepT (h.rows c hc p hp) fun k cs _ ho _ => hk0 k cs _ ho (by decide)
   · rw [List.mem_singleton.1 hc] at hp
     rw [List.mem_singleton.1 hp]
     exact own_keepT hR fun k cs _ ho _ => hk0 k cs _ ho (by decide)
 · rw [List.pairwise_append]
   refine ⟨h.apart, List.pairwise_singleton _ _, fun a ha b hb => ?_⟩
   rw [List.mem_singleton.1 hb]
   intro e
   obtain ⟨-, cs, h6⟩ := own_tag (h.each a ha).2 e
   exact absurd (Array.getElem?_eq_some_iff.1 h6).1 (Nat.lt_irrefl _)
end Go.Proofs.YtgblkcddhnigaaaDoor
