/- The order of bytes; how slices.SortFunc sorts rows of bytes. -/
import Derived.Test.YtgblkcddhnigaaaDoorNsS
import Derived.Shelf.SlSortCmp.Whole1
namespace Go.Proofs.YtgblkcddhnigaaaDoor
open Go.RowKit Go.Shelf Go.Sort

/-! ### The order of bytes -/
theorem less_iff : ∀ a b : List UInt8, (Op.bytesLess a b = true ↔ Lib.compareBytes a b < 0) := by
  intro a
  induction a with
  | nil => intro b; cases b <;> simp [Op.bytesLess, Lib.compareBytes]
  | cons x a ih =>
    intro b
    cases b with
    | nil => simp [Op.bytesLess, Lib.compareBytes]
    | cons y b =>
      simp only [Op.bytesLess, Lib.compareBytes]
      have := ih b
      by_cases h1 : x < y
      · simp [h1]
      · by_cases h2 : y < x
        · have : ¬ x = y := fun e => by subst e; exact absurd h2 (UInt8.lt_irrefl _)
          simp [h1, h2, this]
        · have : x = y := UInt8.le_antisymm (UInt8.not_lt.1 h2) (UInt8.not_lt.1 h1)
          subst this
          simp [ih b]
theorem compare_swap : ∀ a b : List UInt8, Lib.compareBytes a b < 0 → ¬ Lib.compareBytes b a < 0 := by
  intro a
  induction a with
  | nil => intro b; cases b <;> simp [Lib.compareBytes]
  | cons x a ih =>
    intro b
    cases b with
    | nil => simp [Lib.compareBytes]
    | cons y b =>
      simp only [Lib.compareBytes]
      by_cases h1 : x < y
      · have : ¬ y < x := UInt8.lt_asymm h1
        simp [h1, this]
      · by_cases h2 : y < x
        · simp [h1, h2]
        · simp only [h1, h2, if_false]; exact ih b
theorem compare_total : ∀ a b : List UInt8, ¬ Lib.compareBytes a b < 0 → ¬ Lib.compareBytes b a < 0 → a = b := by
  intro a
  induction a with
  | nil => intro b; cases b <;> simp [Lib.compareBytes]
  | cons x a ih =>
    intro b
    cases b with
    | nil => simp [Lib.compareBytes]
    | cons y b =>
      simp only [Lib.compareBytes]
      by_cases h1 : x < y
      · simp [h1]
      · by_cases h2 : y < x
        · simp [h1, h2]
        · simp only [h1, h2, if_false]
          intro h3 h4
          have e1 : x = y := UInt8.le_antisymm (UInt8.not_lt.1 h2) (UInt8.not_lt.1 h1)
          rw [e1, ih b h3 h4]
theorem compare_trans : ∀ a b c : List UInt8, Lib.compareBytes a b < 0 → Lib.compareBytes b c < 0 → Lib.compareBytes a c < 0 := by
  intro a
  induction a with
  | nil =>
    intro b c h1 h2
    cases c with
    | nil => cases b <;> simp [Lib.compareBytes] at h1 h2
    | cons z c => simp [Lib.compareBytes]
  | cons x a ih =>
    intro b c h1 h2
    cases b with
    | nil => simp [Lib.compareBytes] at h1
    | cons y b =>
      cases c with
      | nil => simp [Lib.compareBytes] at h2
      | cons z c =>
        simp only [Lib.compareBytes] at h1 h2 ⊢
        by_cases xy : x < y
        · by_cases yz : y < z
          · simp [UInt8.lt_trans xy yz]
          · by_cases zy : z < y
            · simp [yz, zy] at h2
            · obtain rfl : y = z := UInt8.le_antisymm (UInt8.not_lt.1 zy) (UInt8.not_lt.1 yz)
              simp [xy]
        · by_cases yx : y < x
          · simp [xy, yx] at h1
          · obtain rfl : x = y := UInt8.le_antisymm (UInt8.not_lt.1 yx) (UInt8.not_lt.1 xy)
            simp only [xy, if_false] at h1
            by_cases xz : x < z
            · simp [xz]
            · by_cases zx : z < x
              · simp [xz, zx] at h2
              · obtain rfl : x = z := UInt8.le_antisymm (UInt8.not_lt.1 zx) (UInt8.not_lt.1 xz)
                simp only [xy, if_false] at h2 ⊢
                exact ih b c h1 h2
theorem compare_self (a : List UInt8) : ¬ Lib.compareBytes a a < 0 := fun h => compare_swap a a h h
theorem compare_ntrans (a b c : List UInt8) (h1 : ¬ Lib.compareBytes a b < 0) (h2 : ¬ Lib.compareBytes b c < 0) : ¬ Lib.compareBytes a c < 0 := by
  intro h
  by_cases h3 : Lib.compareBytes b a < 0
  · exact h2 (compare_trans b a c h3 h)
  · obtain rfl := compare_total a b h1 h3
    exact h2 h
/-- A row that lies whole, whatever turns in block blk. -/
def Good (W : World) (blk : Nat) (p : RowC) : Prop := ∀ W', W.grownBy W' (some blk) → Sl eB W.heap.size W' (eC p) p.bs
theorem good_of {W : World} {blk : Nat} {p : RowC} (h : Sl eB W.heap.size W (eC p) p.bs) (hne : (eC p).ownBlock ≠ some blk) : Good W blk p := by
  intro W' hg
  obtain ⟨A, c, e, hc, hcs⟩ := h
  refine ⟨A, c, e, hc, fun h0 => ?_⟩
  obtain ⟨b, off, rfl, hb, hcell⟩ := hcs h0
  refine ⟨b, off, rfl, hb, fun j x hx => ?_⟩
  have h1 := hcell j x hx
  have hk : W'.heap[b]? = W.heap[b]? := hg.block b hb (by rw [e] at hne; exact fun h => hne h)
  unfold World.cell? at h1 ⊢
  rw [hk]
  exact h1
end Go.Proofs.YtgblkcddhnigaaaDoor
