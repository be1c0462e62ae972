/- Rows collected in a box; contract of cluster.Clean. (Seat s26.) -/
import Derived.Test.YtgblkcddhnigaaaDoorClI
import Derived.Test.YtgblkcddhnigaaaDoorClR
namespace Go.Proofs.YtgblkcddhnigaaaDoor
open Go.RowKit Go.Shelf
attribute [local go_sem] Oper.semAt_some run_store_func

theorem info_row : (Tryd.prog.info? 34).map (fun i => (i.zero, i.size, i.bytes)) = some (some (.slice none 0 0), 1, 24) := by kernel_rfl
theorem cell_cells {w : World} {p : Addr} {v : Value} (h : w.cell? p = some v) : ∃ o, w.heap[p.block]? = some o ∧ o.isCells = true := by
  unfold World.cell? at h
  cases e : w.heap[p.block]? with
  | none => rw [e] at h; cases h
  | some o =>
    rw [e] at h
    cases o <;> first | exact ⟨_, rfl, rfl⟩ | cases h
/-- Rows collected one by one, each in a block of its own behind B. -/
def CollB (B : Nat) (W : World) (v : Value) (vs : List RowC) : Prop :=
  W.ownsRow B 34 1 v vs.length (vs.map eC) ∧ ∀ p ∈ vs, Sl eB W.heap.size W (eC p) p.bs ∧ ∀ g, (eC p).ownBlock = some g → B ≤ g ∧ g < W.heap.size ∧ v.ownBlock ≠ some g
theorem CollB.kept {B : Nat} {W W' : World} {v : Value} {vs : List RowC} (h : CollB B W v vs) (hs : W.heap.size ≤ W'.heap.size) (hk : ∀ k o, B ≤ k → W.heap[k]? = some o → o.isCells = true → W'.heap[k]? = some o) : CollB B W' v vs := by
  refine ⟨⟨h.1.1, ?_⟩, fun p hp => ?_⟩
  · rcases h.1.2 with h1 | ⟨g, cap, cur, e, hB, hg, hr⟩
    · exact .inl h1
    · exact .inr ⟨g, cap, cur, e, hB, hk g _ hB hg rfl, hr⟩
  · obtain ⟨h1, h2⟩ := h.2 p hp
    refine ⟨?_, fun g hg => ?_⟩
    · obtain ⟨A, c, e, hc, hcs⟩ := h1
      refine ⟨A, c, e, hc, fun h0 => ?_⟩
      obtain ⟨b, off, rfl, hb, hcell⟩ := hcs h0
      have hBb := (h2 b (by rw [e]; rfl)).1
      refine ⟨b, off, rfl, by omega, fun j x hx => ?_⟩
      have h3 := hcell j x hx
      obtain ⟨o, ho, hoc⟩ := cell_cells h3
      have h4 := hk b o hBb ho hoc
      unfold World.cell? at h3 ⊢
      rw [show W'.heap[b]? = W.heap[b]? from h4.trans ho.symm]
      exact h3
    · obtain ⟨h3, h4, h5⟩ := h2 g hg
      exact ⟨h3, by omega, h5⟩
theorem CollB.bel {B : Nat} {W W' : World} {v : Value} {vs : List RowC} (h : CollB B W v vs) (hb : Below W.heap.size W W') : CollB B W' v vs :=
  h.kept hb.size fun k _ _ ho _ => (hb.block k (Array.getElem?_eq_some_iff.1 ho).1).trans ho
theorem CollB.set {B b : Nat} {W : World} {v u : Value} {vs : List RowC} (h : CollB B W v vs) (hb : b < B) : CollB B (W.setCell ⟨b, 0, none⟩ u) v vs :=
  h.kept (by simp) fun k _ hk ho _ => (Below.heap_setCell W ⟨b, 0, none⟩ u k (show k ≠ b by omega)).trans ho
theorem CollB.grow {B D : Nat} {W W' : World} {v : Value} {vs : List RowC} {row : Option Nat} (h : CollB B W v vs) (hg : W.grownBy W' row) (hr : ∀ r, row = some r → D ≤ r ∧ ∃ o : Obj, W.heap[r]? = some o ∧ o.isCells = false) : CollB B W' v vs :=
  h.kept hg.size fun k o _ ho hc => (hg.block k (Array.getElem?_eq_some_iff.1 ho).1 fun e => by
    obtain ⟨-, o', h1, h2⟩ := hr k e.symm
    rw [ho] at h1
    cases h1
    rw [hc] at h2
    cases h2).trans ho
theorem CollB.rows {B : Nat} {W : World} {v : Value} {vs : List RowC} (h : CollB B W v vs) : RowsIn W v vs := ⟨Sl.of_own h.1, fun p hp => (h.2 p hp).1⟩
theorem CollB.nil (B : Nat) (W : World) : CollB B W (.slice none 0 0) [] := ⟨World.ownsRow_nil _ _ _ _, fun p hp => by cases hp⟩
theorem sl_keptB {W W' : World} {p : RowC} {r : Option Nat} (h : Sl eB W.heap.size W (eC p) p.bs) (hg : W.grownBy W' r) (hne : ∀ g, (eC p).ownBlock = some g → r ≠ some g) : Sl eB W'.heap.size W' (eC p) p.bs := by
  refine Sl.more ?_ hg.size
  obtain ⟨A, c, e, hc, hcs⟩ := h
  refine ⟨A, c, e, hc, fun h0 => ?_⟩
  obtain ⟨b, off, rfl, hb, hcell⟩ := hcs h0
  refine ⟨b, off, rfl, hb, fun j x hx => ?_⟩
  have h1 := hcell j x hx
  have hk : W'.heap[b]? = W.heap[b]? := hg.block b hb (by
    intro h
    exact hne b (by rw [e]; rfl) h.symm)
  unfold World.cell? at h1 ⊢
  rw [hk]
  exact h1
/-- One row more. -/
theorem CollB.push {B : Nat} {W1 W3 : World} {v v' : Value} {vs : List RowC} {p : RowC} {o : Obj} (h : CollB B W1 v vs) (hp : Sl eB W1.heap.size W1 (eC p) p.bs) (hn : ∀ g, (eC p).ownBlock = some g → B ≤ g ∧ g < W1.heap.size ∧ v.ownBlock ≠ some g)
    (hown : W3.ownsRow B 34 1 v' (vs.length + 1) (vs.map eC ++ [eC p])) (hg : (W1.alloc o).grownBy W3 v.ownBlock) (hat : v'.ownBlock = v.ownBlock ∨ v'.ownBlock = some (W1.alloc o).heap.size) : CollB B W3 v' (vs ++ [p]) := by
  have hA : Below W1.heap.size W1 (W1.alloc o) := (Below.refl _ _).alloc (Nat.le_refl _) o
  refine ⟨by simpa using hown, fun q hq => ?_⟩
  have hq2 : Sl eB W1.heap.size W1 (eC q) q.bs ∧ ∀ g, (eC q).ownBlock = some g → B ≤ g ∧ g < W1.heap.size ∧ v.ownBlock ≠ some g := by
    rcases List.mem_append.1 hq with h1 | h1
    · exact h.2 q h1
    · rw [List.mem_singleton.1 h1]; exact ⟨hp, hn⟩
  refine ⟨sl_keptB (hq2.1.next hA) hg fun g h1 => (hq2.2 g h1).2.2, fun g h1 => ?_⟩
  obtain ⟨h2, h3, h4⟩ := hq2.2 g h1
  have hs := hg.size
  simp only [World.size_alloc] at hs hat
  refine ⟨h2, by omega, ?_⟩
  rcases hat with h5 | h5
  · rw [h5]; exact h4
  · rw [h5]
    intro h6
    have := Option.some.inj h6
    omega
theorem CollB.base {B B' : Nat} {W : World} {v : Value} {vs : List RowC} (h : CollB B W v vs) (hB : B' ≤ B) : CollB B' W v vs := by
  refine ⟨⟨h.1.1, ?_⟩, fun p hp => ⟨(h.2 p hp).1, fun g hg => ⟨Nat.le_trans hB ((h.2 p hp).2 g hg).1, ((h.2 p hp).2 g hg).2⟩⟩⟩
  rcases h.1.2 with h1 | ⟨g, cap, cur, e, hb, hr⟩
  · exact .inl h1
  · exact .inr ⟨g, cap, cur, e, Nat.le_trans hB hb, hr⟩
/-- A row just made is in no block that was there. -/
theorem own_newB {B : Nat} {u : Value} {w w2 : World} {bs : List UInt8} {v : Value} (h : OwnB w.heap.size w2 u bs) (hv : ∀ g, v.ownBlock = some g → g < w.heap.size) (hB : B ≤ w.heap.size) : ∀ g, u.ownBlock = some g → B ≤ g ∧ g < w2.heap.size ∧ v.ownBlock ≠ some g := fun g hg => by
  obtain ⟨h1, h2⟩ := h.2 g hg
  exact ⟨by omega, h2, fun h3 => by have := hv g h3; omega⟩
theorem rows_keep {w w0 W : World} {v : Value} {rows : List RowC} {B : Nat} (h : RowsIn w v rows) (hb : Below w.heap.size w w0) (hk : Keep B w.heap.size w0 W) (hB : w.heap.size ≤ B) : RowsIn W v rows := by
  have hs := hb.size
  have hs2 := keep_size hk
  have hc : ∀ p : Addr, p.block < w.heap.size → W.cell? p = w.cell? p := fun p hp => (Keep.cell hk (by omega) (by omega)).trans (hb.cell hp)
  exact ⟨(h.1.of_cells hc).more (by omega), fun p hp => ((h.2 p hp).of_cells hc).more (by omega)⟩
theorem tab_keep {w w0 W : World} {B : Nat} (h : Tab w) (hb : Below w.heap.size w w0) (hk : Keep B w.heap.size w0 W) (hB : w.heap.size ≤ B) : Tab W := by
  have hl := h.lt
  have hc : ∀ p : Addr, p.block < w.heap.size → W.cell? p = w.cell? p := fun p hp => (Keep.cell hk (by omega) (by omega)).trans (hb.cell hp)
  obtain ⟨h1, h2, h3, h4⟩ := h
  exact ⟨(hc _ hl).trans h1, (hc _ hl).trans h2, (hc _ hl).trans h3, (hc _ hl).trans h4⟩
end Go.Proofs.YtgblkcddhnigaaaDoor
