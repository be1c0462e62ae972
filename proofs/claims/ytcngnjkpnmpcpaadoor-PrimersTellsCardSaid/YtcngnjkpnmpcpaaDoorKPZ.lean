import Derived.Deep.SlicePairs
import Derived.Test.YtcngnjkpnmpcpaaDoorKZ
import Derived.Test.YtcngnjkpnmpcpaaDoorPaCZ
namespace Go.Proofs.YtcngnjkpnmpcpaaDoor
open Go.ChangeShapes Go.WideShapes Go.ChangeAt Go.RowKit Go.Shelf
theorem str_list (s : ByteArray) : ∃ l : List UInt8, s = ⟨l.toArray⟩ := ⟨s.data.toList, by cases s; rfl⟩
theorem open_prs {H : Type} {enc : TypeId × Value → H} {P : Program} {W : World} {t e : TypeId} {f0 f1 : Field} {v : Value} {d : DataW H} {ps : List MemPlace} {r : Reach} {b0 : Nat} (ht : P.underlying t = some (.slice e)) (he : P.underlying e = some (.struct #[f0, f1])) (h0 : P.underlying f0.type = some .string) (h1 : P.underlying f1.type = some .string)
    (ce : P.cellsOf e = 2) (o0 : f0.offset = 0) (o1 : f1.offset = 1) (c0 : P.cellsOf f0.type = 1) (c1 : P.cellsOf f1.type = 1)
    (hval : Value.okWide P W r b0 t v) (h : DataW.Trod enc P W 0 (fun _ => true) true t v d ps) : ∃ L : List Pr, PrsIn W.heap.size W v L := by
 obtain ⟨a0, n0, cc, rfl⟩ := okWide_slice ht hval
 obtain ⟨fuel, hf⟩ := h
 rcases Go.Deep.open_slice_pairs ht he ce o0 o1 c0 c1 hf with ⟨hcs, _⟩ | ⟨a, len, cap, m, n, V0, V1, D0, D1, Q0, Q1, hcs, _, hlc, _, hm, _, hel⟩
 · simp [Value.cells] at hcs
   obtain ⟨rfl, rfl, rfl⟩ := hcs
   exact ⟨[], none, 0, rfl, Nat.le_refl _, fun h => absurd h (by simp)⟩
 · simp [Value.cells] at hcs
   obtain ⟨rfl, rfl, rfl⟩ := hcs
   simp only [if_true] at hm
   have hz : ∀ i, ∃ z : Pr, i < n0 → V0 i = sV z.1 ∧ V1 i = sV z.2 := by
    intro i
    by_cases hi : i < n0
    · obtain ⟨e1, e2, e3, e4⟩ := hel i (by omega)
      obtain ⟨s, k1, _, _⟩ := DataW.trod_string h0 e3
      obtain ⟨s', k2, _, _⟩ := DataW.trod_string h1 e4
      obtain ⟨l, rfl⟩ := str_list s
      obtain ⟨l', rfl⟩ := str_list s'
      simp at k1 k2
      exact ⟨(l, l'), fun _ => ⟨k1, k2⟩⟩
    · exact ⟨([], []), fun h => absurd h hi⟩
   obtain ⟨Z, hZ⟩ := Classical.axiomOfChoice hz
   refine ⟨(List.range n0).map Z, some a, cc, by simp, by simpa using hlc, fun hn => ?_⟩
   have hn' : 0 < n0 := by simpa using hn
   have hc0 := (hel 0 (by omega)).1
   obtain ⟨b, off, pth⟩ := a
   have hp : pth = none := by
    cases pth with
    | none => rfl
    | some q =>
      simp only [World.cell?, Addr.add, if_true, Option.isSome_some] at hc0
      split at hc0 <;> cases hc0
   subst hp
   have hadd : ∀ j, (⟨b, off, none⟩ : Addr).add j = ⟨b, off + j, none⟩ := fun j => by unfold Addr.add; split <;> simp_all
   refine ⟨b, off, rfl, World.block_lt_of_cell? W _ hc0, fun i hi => ?_⟩
   have hi' : i < n0 := by simpa using hi
   obtain ⟨e1, e2, _, _⟩ := hel i (by omega)
   rw [hadd] at e1 e2
   rw [e1, Nat.add_assoc, e2]
   have := hZ i hi'
   simp [this.1, this.2]
end Go.Proofs.YtcngnjkpnmpcpaaDoor
