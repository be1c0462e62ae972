/- Rows of one's own: a cell set, a place told modulo a length. -/
import Derived.Test.YtgblkcddhnigaaaDoorRows
import Derived.Test.YtgblkcddhnigaaaDoorAR
import Derived.Test.YtgblkcddhnigaaaDoorR
namespace Go.Proofs.YtgblkcddhnigaaaDoor
open Go.RowKit Go.Shelf
attribute [local go_sem] Oper.semAt_some run_store_func

theorem info_u8 : (Tryd.prog.info? 5).map (fun i => (i.zero, i.size, i.bytes)) = some (some (.int .u8 0), 1, 1) := by kernel_rfl
theorem row_made (w : World) : (w.alloc (.cells #[] 5)).ownsRow w.heap.size 5 1 (.slice (some ⟨w.heap.size, 0, none⟩) 0 0) 0 [] :=
  ⟨rfl, .inr ⟨w.heap.size, 0, #[], rfl, Nat.le_refl _, Rowed.new w 5 #[], Nat.le_refl _, by unfold maxLen; omega, rfl, rfl⟩⟩
theorem cell_one_new (w : World) (t : TypeId) (x : Value) : ∀ j u, [x][j]? = some u → (w.alloc (.cells #[x] t)).cell? ((⟨w.heap.size, 0, none⟩ : Addr).add j) = some u := by
  intro j u hu
  have hj : j = 0 := by
    have := (List.getElem?_eq_some_iff.1 hu).1
    simpa using this
  subst hj
  simp at hu
  subst hu
  simp [Addr.add]
theorem sl_own {W : World} {base : Nat} {v : Value} {r : List UInt8} (h : W.ownsRow base 5 1 v r.length (r.map eB)) : Sl eB W.heap.size W v r := Sl.of_own h
theorem beq_dec (a b : List UInt8) : (a == b) = decide (a = b) := by
  rw [Bool.eq_iff_iff]; simp
/-- A row of the call's own that holds these bytes. -/
def Own8 (B : Nat) (W : World) (v : Value) (bs : List UInt8) : Prop := W.ownsRow B 5 1 v bs.length (bs.map eB)
theorem Own8.sl {B : Nat} {W : World} {v : Value} {bs : List UInt8} (h : Own8 B W v bs) : Sl eB W.heap.size W v bs := Sl.of_own h
/-- A row of one's own, and one of its cells set. -/
theorem own_put {W : World} {base n : Nat} {v : Value} {a : List UInt8} (h : W.ownsRow base 5 1 v n (a.map eB)) (p : Nat) (y : UInt8) (hp : p < a.length) :
    ∃ g cap, v = .slice (some ⟨g, 0, none⟩) a.length cap ∧ base ≤ g ∧ g < W.heap.size ∧
      ∀ W' : World, W'.heap[g]? = W.heap[g]? → (∃ x : UInt8, W'.cell? ⟨g, p, none⟩ = some (eB x)) ∧ W'.frozen? ⟨g, p, none⟩ = false ∧
        ∀ B, g < B → Sl eB B (W'.setCell ⟨g, p, none⟩ (eB y)) (.slice (some ⟨g, 0, none⟩) a.length cap) (a.set p y) := by
  have hl : a.length = n := by have := h.1; simpa using this
  subst hl
  rcases h.2 with ⟨_, h0⟩ | ⟨g, cap, cur, rfl, hb, hg, hn, hcm, hsz, htk⟩
  · omega
  have hr0 : Rowed W g 5 cur := hg
  have hcells0 : ∀ (j : Nat) (x : UInt8), a[j]? = some x → cur[j]? = some (eB x) := by
    intro j x hx
    have := World.ownsRow.cells h (g := g) rfl j (eB x) (by simp [hx])
    rwa [show (⟨g, 0, none⟩ : Addr).add j = ⟨g, j, none⟩ from by unfold Addr.add; split <;> simp_all, hr0.cell j] at this
  refine ⟨g, cap, rfl, hb, hr0.lt, fun W' hW' => ?_⟩
  have hr : Rowed W' g 5 cur := hW'.trans hr0
  refine ⟨⟨a[p], by rw [hr.cell p]; exact hcells0 p _ (by simp [hp])⟩, hr.frozen p, fun B hgB => ?_⟩
  refine ⟨some ⟨g, 0, none⟩, cap, by simp, by simpa using hn, fun _ => ⟨g, 0, rfl, hgB, fun j x hx => ?_⟩⟩
  have hs := hr.set p (eB y)
  rw [Nat.zero_add, hs.cell j]
  have hj : j < a.length := by have := (List.getElem?_eq_some_iff.1 hx).1; simpa using this
  have hc := hcells0 j a[j] (by simp)
  rw [List.getElem?_set] at hx
  have hpc : p < cur.size := by
    have hc2 := hcells0 p a[p] (by simp)
    exact (Array.getElem?_eq_some_iff.1 hc2).1
  by_cases e : p = j
  · subst e
    rw [if_pos rfl, if_pos hp] at hx
    cases hx
    rw [Array.getElem?_setIfInBounds_self_of_lt hpc]
  · rw [if_neg e] at hx
    rw [Array.getElem?_setIfInBounds_ne e, hc]
    rw [List.getElem?_eq_getElem hj] at hx
    cases hx
    rfl
theorem Sl.apart {α : Type} {enc : α → Value} {B g n c : Nat} {W : World} {xs : List α} (h : Sl enc B W (.slice (some ⟨g, 0, none⟩) n c) xs) (b j : Nat) (u : Value) (hne : g ≠ b) : Sl enc B (W.setCell ⟨b, j, none⟩ u) (.slice (some ⟨g, 0, none⟩) n c) xs := by
  obtain ⟨A', c', he, hc, hcs⟩ := h
  refine ⟨A', c', he, hc, fun h0 => ?_⟩
  obtain ⟨b', off, e, hb, hcell⟩ := hcs h0
  injection he with e1 _ _
  rw [e] at e1
  injection e1 with e1
  injection e1 with e2 e3 _
  subst e2 e3
  refine ⟨g, 0, e, hb, fun i x hx => ?_⟩
  rw [← hcell i x hx]
  simp only [World.cell?, Below.heap_setCell W ⟨b, j, none⟩ u g hne]
theorem sl_none (B : Nat) (w : World) : Sl eB B w (.slice none 0 0) [] := ⟨none, 0, rfl, Nat.le_refl _, fun h => absurd h (by simp)⟩
theorem at_is (z : Int) (L : Nat) (h0 : 0 < L) (hL : L ≤ 200) : ∃ k : Nat, k < L ∧ (wrap64 (z.tmod (L : Int) + (L : Int))).tmod (L : Int) = (k : Int) := by
  have h1 : z.tmod (L : Int) < L := Int.tmod_lt_of_pos _ (by omega)
  have h2 : -(L : Int) ≤ z.tmod (L : Int) := by
    rw [Int.tmod_eq_emod]
    have := Int.emod_nonneg z (b := (L : Int)) (by omega)
    split <;> simp <;> omega
  rw [IntWalk.wrap64_in _ (by omega)]
  have h3 := Int.tmod_nonneg (L : Int) (a := z.tmod (L : Int) + (L : Int)) (by omega)
  have h4 := Int.tmod_lt_of_pos (z.tmod (L : Int) + (L : Int)) (b := (L : Int)) (by omega)
  exact ⟨((z.tmod (L : Int) + (L : Int)).tmod (L : Int)).toNat, by omega, by omega⟩

end Go.Proofs.YtgblkcddhnigaaaDoor
