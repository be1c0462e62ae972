/- A row of bytes among the arguments, with the bound that the form itself sets. Of no program. -/
import Derived.Test.YtpjpfgahjalggaaDoorK
import Derived.SizedLaws
namespace Go.Proofs.YtpjpfgahjalggaaDoor
open Go.RowKit Go.Shelf

/-- How long a row is that is read as d. -/
theorem row_data {H : Type} {enc : TypeId × Value → H} {P : Program} {W : World} {t e : TypeId} {v : Value} {d : DataW H} {ps : List MemPlace} (ht : P.underlying t = some (.slice e)) (hc : P.cellsOf e = 1)
    (h : DataW.Trod enc P W 0 (fun _ => true) true t v d ps) {A : Option Addr} {n c : Nat} (hv : v = .slice A n c) : n = 0 ∨ ∃ elems spare, d = .slice elems spare ∧ elems.length = n := by
  subst hv
  obtain ⟨fuel, hf⟩ := h
  rcases Go.Deep.open_slice1 ht hc hf with ⟨hcs, _⟩ | ⟨a, len, cap, m, k, V, D, Pl, hcs, _, _, _, _, hx, _⟩
  · simp [Value.cells] at hcs
    exact .inl hcs.2.1
  · simp [Value.cells] at hcs
    obtain ⟨-, rfl, -⟩ := hcs
    have hd := congrArg Prod.fst hx
    exact .inr ⟨_, _, hd, by simp⟩
theorem row_reach {H : Type} {enc : TypeId × Value → H} {P : Program} {W : World} {t e : TypeId} {v : Value} {d : DataW H} {ps : List MemPlace} (ht : P.underlying t = some (.slice e)) (hc : P.cellsOf e = 1) (hb : P.bytesOf e = 1)
    (h : DataW.Trod enc P W 0 (fun _ => true) true t v d ps) {ts : List TypeId} {ds : List (DataW H)} (hz : (DataW.weightsEach P ts ds).all (· ≤ reachBytes) = true) {j : Nat} (h1 : ts[j]? = some t) (h2 : ds[j]? = some d)
    {α : Type} {enc' : α → Value} {B : Nat} {W' : World} {xs : List α} (hs : Sl enc' B W' v xs) : xs.length ≤ 140737488351232 := by
  obtain ⟨A, c, hv⟩ := hs.len
  rcases row_data ht hc h hv with h0 | ⟨elems, spare, rfl, hl⟩
  · omega
  · have h3 := sized_slice hz h1 h2 ht
    rw [hb] at h3
    have : reachBytes = 140737488351232 := by decide
    omega
end Go.Proofs.YtpjpfgahjalggaaDoor
