import Derived.Test.YtgblkcddhnigaaaDoorIVZ
import Derived.Test.YtgblkcddhnigaaaDoorKZ
namespace Go.Proofs.YtgblkcddhnigaaaDoor
open Go.ChangeShapes Go.WideShapes Go.ChangeAt Go.RowKit
theorem open_row {H : Type} {enc : TypeId × Value → H} {P : Program} {W : World} {e q : TypeId} {fuel : Nat} {u : Value} {x : DataW H × List MemPlace} (he : P.underlying e = some (.slice q)) (hq : P.underlying q = some (.int .u8)) (hcq : P.cellsOf q = 1)
    (hf : DataW.trod enc P W 0 (fun _ => true) true fuel e [u] = some x) : ∃ bs : List UInt8, Sl eB W.heap.size W u bs := by
 rcases Go.Deep.open_slice1 he hcq hf with ⟨hcs, _⟩ | ⟨a, len, cap, m, n, V, D, Pl, hcs, _, hlc, _, hm, _, hel⟩
 · obtain rfl : u = .slice none 0 0 := by simpa using hcs
   exact ⟨[], Sl.nil _ _ _⟩
 · obtain rfl : u = .slice (some a) len cap := by simpa using hcs
   simp only [if_true] at hm
   have hz : ∀ i, ∃ z : UInt8, i < len → V i = eB z := by
    intro i
    by_cases hi : i < len
    · obtain ⟨z, h1, _, h3⟩ := DataW.trod_int hq (hel i (by omega)).2
      simp at h1
      obtain ⟨c, rfl⟩ := byte_of_wf h3
      exact ⟨c, fun _ => h1⟩
    · exact ⟨0, fun h => absurd h hi⟩
   obtain ⟨Z, hZ⟩ := Classical.axiomOfChoice hz
   refine ⟨(List.range len).map Z, ⟨some a, cap, by simp, by simpa using hlc, fun hn => ?_⟩⟩
   have hn' : 0 < len := by simpa using hn
   have h0 := (hel 0 (by omega)).1
   obtain ⟨b, off, pth⟩ := a
   have hp : pth = none := by
    cases pth with
    | none => rfl
    | some q =>
      simp only [World.cell?, Addr.add, if_true, Option.isSome_some] at h0
      split at h0 <;> cases h0
   subst hp
   refine ⟨b, off, rfl, World.block_lt_of_cell? W _ h0, fun j x hx => ?_⟩
   have hj : j < len := by have := (List.getElem?_eq_some_iff.1 hx).1; simpa using this
   have h1 := (hel j (by omega)).1
   rw [hZ j hj, show (⟨b, off, none⟩ : Addr).add j = ⟨b, off + j, none⟩ from by unfold Addr.add; split <;> simp_all] at h1
   have h2 : Z j = x := by simpa [hj] using hx
   rw [h1, h2]
theorem open_rows {H : Type} {enc : TypeId × Value → H} {P : Program} {W : World} {t e q : TypeId} {v : Value} {d : DataW H} {ps : List MemPlace} {r : Reach} {b0 : Nat} (ht : P.underlying t = some (.slice e)) (he : P.underlying e = some (.slice q)) (hq : P.underlying q = some (.int .u8)) (hc : P.cellsOf e = 1) (hcq : P.cellsOf q = 1)
    (hval : Value.okWide P W r b0 t v) (h : DataW.Trod enc P W 0 (fun _ => true) true t v d ps) :
    ∃ rows : List RowC, RowsIn W v rows := by
 obtain ⟨a0, n0, c0, rfl⟩ := okWide_slice ht hval
 obtain ⟨fuel, hf⟩ := h
 rcases Go.Deep.open_slice1 ht hc hf with ⟨hcs, _⟩ | ⟨a, len, cap, m, n, V, D, Pl, hcs, _, hlc, _, hm, _, hel⟩
 · simp [Value.cells] at hcs
   obtain ⟨rfl, rfl, rfl⟩ := hcs
   exact ⟨[], Sl.nil _ _ _, fun x hx => by cases hx⟩
 · simp [Value.cells] at hcs
   obtain ⟨rfl, rfl, rfl⟩ := hcs
   simp only [if_true] at hm
   have hz : ∀ i, ∃ z : RowC, i < n0 → V i = eC z ∧ Sl eB W.heap.size W (eC z) z.bs := by
    intro i
    by_cases hi : i < n0
    · obtain ⟨z, h⟩ := open_row he hq hcq (hel i (by omega)).2
      obtain ⟨A, c, e⟩ := h.len
      exact ⟨⟨A, c, z⟩, fun _ => ⟨e, by unfold eC; rw [← e]; exact h⟩⟩
    · exact ⟨⟨none, 0, []⟩, fun h => absurd h hi⟩
   obtain ⟨Z, hZ⟩ := Classical.axiomOfChoice hz
   refine ⟨(List.range n0).map Z, ⟨some a, c0, by simp, by simpa using hlc, fun hn => ?_⟩, fun x hx => ?_⟩
   · have hn' : 0 < n0 := by simpa using hn
     have h0 := (hel 0 (by omega)).1
     obtain ⟨b, off, pth⟩ := a
     have hp : pth = none := by
      cases pth with
      | none => rfl
      | some q =>
        simp only [World.cell?, Addr.add, if_true, Option.isSome_some] at h0
        split at h0 <;> cases h0
     subst hp
     refine ⟨b, off, rfl, World.block_lt_of_cell? W _ h0, fun j x hx => ?_⟩
     have hj : j < n0 := by have := (List.getElem?_eq_some_iff.1 hx).1; simpa using this
     have h1 := (hel j (by omega)).1
     rw [(hZ j hj).1, show (⟨b, off, none⟩ : Addr).add j = ⟨b, off + j, none⟩ from by unfold Addr.add; split <;> simp_all] at h1
     have h2 : Z j = x := by simpa [hj] using hx
     rw [h1, ← h2]
   · obtain ⟨i, hi, rfl⟩ := List.mem_map.1 hx
     exact (hZ i (by simpa using hi)).2
end Go.Proofs.YtgblkcddhnigaaaDoor
