import Derived.Test.YtgblkcddhnigaaaDoorGCZ
import Derived.Test.YtgblkcddhnigaaaDoorGqBZ
import Derived.Test.YtgblkcddhnigaaaDoorLvAZ
namespace Go.Proofs.YtgblkcddhnigaaaDoor
open Go.RowKit Go.Shelf
structure GoodG (cs : List (List (List UInt8))) : Prop where
  some : ∀ c ∈ cs, c ≠ []
  like : ∀ c ∈ cs, ∀ x ∈ c, likeB (c.headD []) x = true
  apart : cs.Pairwise fun a b => likeB (a.headD []) (b.headD []) = false
theorem like_self (x : List UInt8) : likeB x x = true := by
 unfold likeB wiB
 refine decide_eq_true ?_
 rw [dist_self]
 decide
theorem like_comm (a b : List UInt8) : likeB a b = likeB b a := by
 unfold likeB wiB
 rw [dist_comm]
theorem addG_cases (cs : List (List (List UInt8))) (x : List UInt8) : (∃ (i : Nat) (hi : i < cs.length), likeC x cs[i] = true ∧ addG cs x = cs.set i (cs[i] ++ [x])) ∨ ((∀ c ∈ cs, likeC x c = false) ∧ addG cs x = cs ++ [[x]]) := by
 by_cases h : cs.findIdx (likeC x) < cs.length
 · refine .inl ⟨_, h, List.findIdx_getElem, ?_⟩
   unfold addG
   rw [dif_pos h]
 · refine .inr ⟨List.findIdx_eq_length.1 (by have := List.findIdx_le_length (xs := cs) (p := likeC x); omega), ?_⟩
   unfold addG
   rw [dif_neg h]
theorem head_app {c : List (List UInt8)} (hc : c ≠ []) (x : List UInt8) : (c ++ [x]).headD [] = c.headD [] := by
 cases c with
 | nil => exact absurd rfl hc
 | cons a c => rfl
theorem GoodG.add {cs : List (List (List UInt8))} (h : GoodG cs) (x : List UInt8) : GoodG (addG cs x) := by
 rcases addG_cases cs x with ⟨i, hi, hl, e⟩ | ⟨hn, e⟩
 · rw [e]
   have hci := h.some _ (List.getElem_mem hi)
   refine ⟨fun c hc => ?_, fun c hc y hy => ?_, ?_⟩
   · rcases List.mem_or_eq_of_mem_set hc with hc | rfl
     · exact h.some c hc
     · simp
   · rcases List.mem_or_eq_of_mem_set hc with hc | rfl
     · exact h.like c hc y hy
     · rw [head_app hci]
       rcases List.mem_append.1 hy with hy | hy
       · exact h.like _ (List.getElem_mem hi) y hy
       · rw [List.mem_singleton.1 hy]
         exact hl
   · rw [List.pairwise_iff_getElem]
     intro a b ha hb hab
     rw [List.length_set] at ha hb
     have hp := (List.pairwise_iff_getElem.1 h.apart) a b ha hb hab
     have hh : ∀ (j : Nat) (hj : j < cs.length), ((cs.set i (cs[i] ++ [x]))[j]'(by rw [List.length_set]; exact hj)).headD [] = cs[j].headD [] := fun j hj => by
      rw [List.getElem_set]
      by_cases e : i = j
      · subst e
        rw [if_pos rfl, head_app hci]
      · rw [if_neg e]
     rw [hh a ha, hh b hb]
     exact hp
 · rw [e]
   refine ⟨fun c hc => ?_, fun c hc y hy => ?_, ?_⟩
   · rcases List.mem_append.1 hc with hc | hc
     · exact h.some c hc
     · rw [List.mem_singleton.1 hc]; simp
   · rcases List.mem_append.1 hc with hc | hc
     · exact h.like c hc y hy
     · rw [List.mem_singleton.1 hc] at hy ⊢
       rw [List.mem_singleton.1 hy]
       exact like_self x
   · rw [List.pairwise_append]
     refine ⟨h.apart, List.pairwise_singleton _ _, fun a ha b hb => ?_⟩
     rw [List.mem_singleton.1 hb]
     exact hn a ha
theorem good_group (L : List (List UInt8)) : GoodG (groupG L) := by
 have h : ∀ (L : List (List UInt8)) (cs : List (List (List UInt8))), GoodG cs → GoodG (L.foldl addG cs) := by
  intro L
  induction L with
  | nil => intro cs h; exact h
  | cons x L ih => intro cs h; exact ih _ (h.add x)
 exact h L [] ⟨fun c hc => (by cases hc), fun c hc => (by cases hc), .nil⟩
theorem flat_set (cs : List (List (List UInt8))) (i : Nat) (hi : i < cs.length) (x : List UInt8) : (cs.set i (cs[i] ++ [x])).flatten.Perm (cs.flatten ++ [x]) := by
 induction cs generalizing i with
 | nil => simp at hi
 | cons c cs ih =>
   rcases i with _ | i
   · show ((c ++ [x]) ++ cs.flatten).Perm (c ++ cs.flatten ++ [x])
     rw [List.append_assoc, List.append_assoc]
     exact (List.perm_append_comm).append_left c
   · have hi' : i < cs.length := by simpa using hi
     show (c ++ (cs.set i (cs[i] ++ [x])).flatten).Perm (c ++ cs.flatten ++ [x])
     rw [List.append_assoc]
     exact (ih i hi').append_left c
theorem flat_add (cs : List (List (List UInt8))) (x : List UInt8) : (addG cs x).flatten.Perm (cs.flatten ++ [x]) := by
 rcases addG_cases cs x with ⟨i, hi, hl, e⟩ | ⟨hn, e⟩
 · rw [e]
   exact flat_set cs i hi x
 · rw [e]
   simp
theorem flat_group (L : List (List UInt8)) : (groupG L).flatten.Perm L := by
 have h : ∀ (L : List (List UInt8)) (cs : List (List (List UInt8))), (L.foldl addG cs).flatten.Perm (cs.flatten ++ L) := by
  intro L
  induction L with
  | nil => intro cs; simp
  | cons x L ih =>
    intro cs
    refine (ih _).trans ?_
    have := (flat_add cs x).append_right L
    rw [List.append_assoc] at this
    exact this
 have := h L []
 simpa [groupG] using this
end Go.Proofs.YtgblkcddhnigaaaDoor
namespace Go.Proofs.YtgblkcddhnigaaaDoor
open Go.RowKit Go.Shelf
attribute [local go_sem] Oper.semAt_some run_store_func
def CollT (B : Nat) (W : World) (v : Value) (vs : List RowC) : Prop :=
 W.ownsRow B 34 1 v vs.length (vs.map eC) ∧ ∀ p ∈ vs, W.ownsRow B 5 1 (eC p) p.bs.length (p.bs.map eB)
theorem CollT.kept {B : Nat} {W W' : World} {v : Value} {vs : List RowC} (h : CollT B W v vs) (hk : ∀ (k : Nat) (cs : Array Value) (e : TypeId), B ≤ k → W.heap[k]? = some (.cells cs e (0, 0)) → W'.heap[k]? = some (.cells cs e (0, 0))) : CollT B W' v vs :=
 ⟨own_keepT h.1 fun k cs hB ho _ => hk k cs _ hB ho, fun p hp => own_keepT (h.2 p hp) fun k cs hB ho _ => hk k cs _ hB ho⟩
theorem CollT.bel {B : Nat} {W W' : World} {v : Value} {vs : List RowC} (h : CollT B W v vs) (hb : Below W.heap.size W W') : CollT B W' v vs :=
 h.kept fun k _ _ _ ho => (hb.block k (Array.getElem?_eq_some_iff.1 ho).1).trans ho
theorem CollT.nil (B : Nat) (W : World) : CollT B W (.slice none 0 0) [] := ⟨World.ownsRow_nil _ _ _ _, fun p hp => by cases hp⟩
theorem CollT.base {B B' : Nat} {W : World} {v : Value} {vs : List RowC} (h : CollT B W v vs) (hB : B' ≤ B) : CollT B' W v vs := ⟨ownsRow_base h.1 hB, fun p hp => ownsRow_base (h.2 p hp) hB⟩
theorem CollT.push {B : Nat} {W1 W3 : World} {v v' : Value} {vs : List RowC} {p : RowC} {o : Obj} (h : CollT B W1 v vs) (hp : W1.ownsRow B 5 1 (eC p) p.bs.length (p.bs.map eB))
    (hown : W3.ownsRow B 34 1 v' (vs.length + 1) (vs.map eC ++ [eC p])) (hg : (W1.alloc o).grownBy W3 v.ownBlock) : CollT B W3 v' (vs ++ [p]) := by
 refine ⟨by simpa using hown, fun q hq => ?_⟩
 have hq2 : W1.ownsRow B 5 1 (eC q) q.bs.length (q.bs.map eB) := by
  rcases List.mem_append.1 hq with h1 | h1
  · exact h.2 q h1
  · rw [List.mem_singleton.1 h1]; exact hp
 refine own_keepT hq2 fun k cs _ ho _ => ?_
 have hlt := (Array.getElem?_eq_some_iff.1 ho).1
 have h1 : (W1.alloc o).heap[k]? = some (.cells cs 5 (0, 0)) := (Below.heap_alloc W1 o k hlt).trans ho
 refine (hg.block k (by simp; omega) fun e2 => ?_).trans h1
 obtain ⟨-, cs2, h2⟩ := own_tag h.1 e2.symm
 rw [ho] at h2
 cases h2
end Go.Proofs.YtgblkcddhnigaaaDoor
namespace Go.Proofs.YtgblkcddhnigaaaDoor
open Go.RowKit
theorem bool_no {b : Bool} (h : b = true → False) : b = false := by cases b <;> first | rfl | exact (h rfl).elim
structure ClS (N : Nat) (rows : List RowC) (b : UInt8) (zs : List UInt8) (M : Nat) (w0 : World) (D : Nat → Bool) (g : Nat → Value) (w : World) : Prop where
  bel : Below N w0 w
  big : N ≤ w.heap.size
  s0 : D 0 = true → D 2 = false → ∃ p, g 0 = .slice (some ⟨p, 0, none⟩) 0 0 ∧ w.ownsRow N 34 1 (.slice (some ⟨p, 0, none⟩) 0 0) 0 []
  s2 : D 2 = true → D 7 = false → w.ownsRow N 34 1 (g 2) rows.length (rows.map eC)
  s4 : D 4 = true → D 7 = false → ∃ p, g 4 = .slice (some ⟨p, 0, none⟩) 1 1 ∧ w.ownsRow N 5 1 (.slice (some ⟨p, 0, none⟩) 1 1) 1 [eB b]
  s5 : D 5 = true → D 7 = false → ∃ p, g 5 = .slice (some ⟨p, 0, none⟩) zs.length zs.length ∧ w.ownsRow N 5 1 (.slice (some ⟨p, 0, none⟩) zs.length zs.length) zs.length (zs.map eB)
  s6 : D 6 = true → D 7 = false → ∃ q, g 6 = .slice (some ⟨q, 0, none⟩) 2 2 ∧ w.heap[q]? = some (.cells #[g 4, g 5] 34 (0, 0)) ∧ (D 0 = true → D 2 = false → (g 0).ownBlock ≠ some q)
  s7 : D 7 = true → D 8 = false → ∃ r1 r2 : RowC, r1.bs = [b] ∧ r2.bs = zs ∧ RowsIn w (g 7) (rows ++ [r1, r2])
  s8 : D 8 = true → ∃ A c, g 8 = .slice A M c
  s9 : D 9 = true → g 9 = g 8
  o2 : D 2 = true → D 0 = true
  o6 : D 6 = true → D 4 = true ∧ D 5 = true
  o7 : D 7 = true → D 2 = true ∧ D 6 = true
  o8 : D 8 = true → D 7 = true
  o9 : D 9 = true → D 8 = true
section
variable {N M : Nat} {rows : List RowC} {b : UInt8} {zs : List UInt8} {w0 w w' : World} {D : Nat → Bool} {g : Nat → Value}
end
end Go.Proofs.YtgblkcddhnigaaaDoor
