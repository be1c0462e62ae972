/- An array of bytes among the arguments. Of no program. -/
import Derived.Test.YtmppkfiocleicaaK
namespace Go.Proofs.Ytmppkfiocleicaa
open Go.ChangeShapes Go.WideShapes Go.ChangeAt Go.RowKit

theorem open_arr {H : Type} {enc : TypeId × Value → H} {P : Program} {W : World} {t e : TypeId} {n : Nat} {v : Value} {d : DataW H} {ps : List MemPlace} {r : Reach} {b0 : Nat} (ht : P.underlying t = some (.array n e)) (he : P.underlying e = some (.int .u8)) (hc : P.cellsOf e = 1) (hct : P.cellsOf t = n)
    (hval : Value.okWide P W r b0 t v) (h : DataW.Trod enc P W 0 (fun _ => true) true t v d ps) :
    ∃ L : List UInt8, v = .agg (L.map eB).toArray ∧ L.length = n := by
  have hv : ∃ cs, v = .agg cs ∧ cs.size = P.cellsOf t := by
    unfold Value.okWide at hval
    rw [ht] at hval
    obtain ⟨cs, h1, h2, _⟩ := hval
    exact ⟨cs, h1, h2⟩
  obtain ⟨cs, rfl, hs⟩ := hv
  obtain ⟨fuel, hf⟩ := h
  obtain ⟨xs, m, _, _, _, hl, hel⟩ := DataW.trod_array ht hf
  rw [hct] at hs
  have hz : ∀ i, ∃ z : UInt8, i < n → cs[i]? = some (eB z) := by
    intro i
    by_cases hi : i < n
    · have hE := hel i hi
      rw [hc, Nat.mul_one, List.getElem?_eq_getElem (by omega)] at hE
      obtain ⟨z, e1, _, e3⟩ := DataW.trod_int he hE
      obtain ⟨x, rfl⟩ := byte_of_wf e3
      refine ⟨x, fun _ => ?_⟩
      have h0 : (((Value.agg cs).cells.toList.drop i).take 1)[0]? = some (.int .u8 (x.toNat : Int)) := by rw [e1]; rfl
      simpa [Value.cells] using h0
    · exact ⟨0, fun h => absurd h hi⟩
  obtain ⟨Z, hZ⟩ := Classical.axiomOfChoice hz
  refine ⟨(List.range n).map Z, ?_, by simp⟩
  congr 1
  apply Array.ext
  · simp [hs]
  · intro i h1 h2
    have := hZ i (by omega)
    rw [Array.getElem?_eq_getElem h1] at this
    simpa using Option.some.inj this
end Go.Proofs.Ytmppkfiocleicaa
