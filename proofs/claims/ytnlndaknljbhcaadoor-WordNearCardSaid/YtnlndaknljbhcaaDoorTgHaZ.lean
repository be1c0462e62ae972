/- A row of edits, opened. -/
import Derived.Test.YtnlndaknljbhcaaDoorTgFZ
namespace Go.Proofs.YtnlndaknljbhcaaDoor
open Go.RowKit Go.Shelf
attribute [local go_sem] Oper.semAt_some run_store_func

/-- A row of edits, opened: where it lies and what its cells hold. -/
theorem RowE.open1 {B m : Nat} {W : World} {v : Value} (h : RowE B W v m) : ∃ (l : List Ed) (A : Option Addr) (c : Nat), v = .slice A l.length c ∧ l.length ≤ m ∧ 1 ≤ l.length ∧ (∀ d ∈ l, d.Ok) ∧
    (∀ k d, l[k]? = some d → ∃ g, A = some ⟨g, 0, none⟩ ∧ g < W.heap.size ∧ W.cell? ⟨g, k * 3, none⟩ = some (.int .u8 d.k) ∧ W.cell? ⟨g, k * 3 + 1, none⟩ = some (.int .i64 d.z) ∧ W.cell? ⟨g, k * 3 + 2, none⟩ = some (eB d.b)) := by
  obtain ⟨l, h1, h2, h3⟩ := h
  rcases h3.2 with ⟨e, hn⟩ | ⟨g, cap, cur, e, hg, hrow, hcap, hm, hs, ht⟩
  · refine ⟨l, none, 0, by rw [e, hn], h1, h2.2, h2.1, fun k d hk => ?_⟩
    have : l = [] := List.length_eq_zero_iff.1 hn
    rw [this] at hk
    simp at hk
  · refine ⟨l, some ⟨g, 0, none⟩, cap, e, h1, h2.2, h2.1, fun k d hk => ?_⟩
    have hc := h3.cells (g := g) (by rw [e]; rfl)
    obtain ⟨a0, a1, a2⟩ := flatE_at l k d hk
    have he : ∀ j, ((⟨g, 0, none⟩ : Addr).add j) = ⟨g, j, none⟩ := fun j => by rcases j with _ | j <;> simp [Addr.add]
    have b0 := hc _ _ a0
    have b1 := hc _ _ a1
    have b2 := hc _ _ a2
    rw [he, Nat.mul_comm 3 k] at b0 b1 b2
    exact ⟨g, rfl, World.block_lt_of_cell? _ _ b0, b0, b1, b2⟩
theorem RowE.open {B m : Nat} {W : World} {v : Value} (h : RowE B W v m) : ∃ (l : List Ed) (A : Option Addr) (c : Nat), v = .slice A l.length c ∧ l.length ≤ m ∧ (∀ d ∈ l, d.Ok) ∧
    (∀ k d, l[k]? = some d → ∃ g, A = some ⟨g, 0, none⟩ ∧ g < W.heap.size ∧ W.cell? ⟨g, k * 3, none⟩ = some (.int .u8 d.k) ∧ W.cell? ⟨g, k * 3 + 1, none⟩ = some (.int .i64 d.z) ∧ W.cell? ⟨g, k * 3 + 2, none⟩ = some (eB d.b)) := by
  obtain ⟨l, A, c, h1, h2, -, h3, h4⟩ := h.open1
  exact ⟨l, A, c, h1, h2, h3, h4⟩
end Go.Proofs.YtnlndaknljbhcaaDoor
