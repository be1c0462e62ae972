/- Rows collected one by one; nt.Sort. -/
import Derived.Test.YtgblkcddhnigaaaDoorNsI
namespace Go.Proofs.YtgblkcddhnigaaaDoor
open Go.RowKit Go.Shelf
attribute [local go_sem] Oper.semAt_some

theorem own_bel {w w' : World} {B e size n : Nat} {v : Value} {xs : List Value} (h : w.ownsRow B e size v n xs) (hb : Below w.heap.size w w') : w'.ownsRow B e size v n xs := by
  rcases h.2 with ⟨rfl, h0⟩ | ⟨g, cap, cur, rfl, hbase, hg, hr⟩
  · exact ⟨h.1, .inl ⟨rfl, h0⟩⟩
  · exact ⟨h.1, .inr ⟨g, cap, cur, rfl, hbase, (hb.5 g (Array.getElem?_eq_some_iff.1 hg).1).trans hg, hr⟩⟩
theorem info_row : (Tryd.prog.info? 34).map (fun i => (i.zero, i.size, i.bytes)) = some (some (.slice none 0 0), 1, 24) := by kernel_rfl
/-- Rows that were collected in a row of the call's own. -/
def Coll (B : Nat) (W : World) (v : Value) (vs : List RowC) : Prop :=
  W.ownsRow B 34 1 v vs.length (vs.map eC) ∧ ∀ p ∈ vs, Sl eB W.heap.size W (eC p) p.bs ∧ ∀ g, (eC p).ownBlock = some g → g < W.heap.size ∧ v.ownBlock ≠ some g
theorem Coll.bel {B : Nat} {W W' : World} {v : Value} {vs : List RowC} (h : Coll B W v vs) (hb : Below W.heap.size W W') : Coll B W' v vs :=
  ⟨own_bel h.1 hb, fun p hp => ⟨(h.2 p hp).1.next hb, fun g hg => ⟨Nat.lt_of_lt_of_le ((h.2 p hp).2 g hg).1 hb.size, ((h.2 p hp).2 g hg).2⟩⟩⟩
theorem Coll.rows {B : Nat} {W : World} {v : Value} {vs : List RowC} (h : Coll B W v vs) : RowsIn W v vs := ⟨Sl.of_own h.1, fun p hp => (h.2 p hp).1⟩
/-- Another row that lies whole where block blk alone has turned. -/
theorem sl_kept {W W' : World} {p : RowC} {r : Option Nat} (h : Sl eB W.heap.size W (eC p) p.bs) (hg : W.grownBy W' r) (hne : ∀ g, (eC p).ownBlock = some g → r ≠ some g) : Sl eB W'.heap.size W' (eC p) p.bs := by
  refine Sl.more ?_ hg.size
  obtain ⟨A, c, e, hc, hcs⟩ := h
  refine ⟨A, c, e, hc, fun h0 => ?_⟩
  obtain ⟨b, off, rfl, hb, hcell⟩ := hcs h0
  refine ⟨b, off, rfl, hb, fun j x hx => ?_⟩
  have h1 := hcell j x hx
  have hk : W'.heap[b]? = W.heap[b]? := hg.block b hb (by
    intro h
    exact hne b (by rw [e]; rfl) h.symm)
  unfold World.cell? at h1 ⊢
  rw [hk]
  exact h1
/-- One row more: it was made in W1; it was laid in a block of one cell; it was appended. -/
theorem Coll.push {B : Nat} {W1 W3 : World} {v v' : Value} {vs : List RowC} {p : RowC} {o : Obj} (h : Coll B W1 v vs) (hp : Sl eB W1.heap.size W1 (eC p) p.bs) (hn : ∀ g, (eC p).ownBlock = some g → g < W1.heap.size ∧ v.ownBlock ≠ some g)
    (hown : W3.ownsRow B 34 1 v' (vs.length + 1) (vs.map eC ++ [eC p])) (hg : (W1.alloc o).grownBy W3 v.ownBlock) (hat : v'.ownBlock = v.ownBlock ∨ v'.ownBlock = some (W1.alloc o).heap.size) : Coll B W3 v' (vs ++ [p]) := by
  have hA : Below W1.heap.size W1 (W1.alloc o) := (Below.refl _ _).alloc (Nat.le_refl _) o
  refine ⟨by simpa using hown, fun q hq => ?_⟩
  have hq2 : Sl eB W1.heap.size W1 (eC q) q.bs ∧ ∀ g, (eC q).ownBlock = some g → g < W1.heap.size ∧ v.ownBlock ≠ some g := by
    rcases List.mem_append.1 hq with h1 | h1
    · exact h.2 q h1
    · rw [List.mem_singleton.1 h1]; exact ⟨hp, hn⟩
  refine ⟨sl_kept (hq2.1.next hA) hg fun g h1 => (hq2.2 g h1).2, fun g h1 => ?_⟩
  obtain ⟨h3, h4⟩ := hq2.2 g h1
  have hs := hg.size
  simp only [World.size_alloc] at hs hat
  refine ⟨by omega, ?_⟩
  rcases hat with h5 | h5
  · rw [h5]; exact h4
  · rw [h5]
    intro h6
    have := Option.some.inj h6
    omega
end Go.Proofs.YtgblkcddhnigaaaDoor
