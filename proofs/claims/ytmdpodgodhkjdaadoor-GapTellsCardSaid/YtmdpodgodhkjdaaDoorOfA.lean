/- sums.Of and Rises, wide, by answer. -/
import Derived.Test.YtmdpodgodhkjdaaDoorSuF
namespace Go.Proofs.YtmdpodgodhkjdaaDoor
open Go.RowKit Go.Shelf

theorem Of_yes (x : List UInt8) (a b c : Int) (h : sumsG x = .ok (a, b, c)) (hreach : x.length ≤ 1000000) (sv : Value) (w : World) (hT : Tab w) (hS : Sl eB w.heap.size w sv x) :
    Calls Tryd.prog 71 #[sv] w fun e w' => e = .returned (.tuple #[v3 a b c, .int .i64 0]) ∧ Below w.heap.size w w' :=
  (Of_any sv x hreach w hT hS).mono (by
    rintro e w' ⟨hB, ⟨a', b', c', hy, rfl⟩ | ⟨m, hm, rfl⟩⟩
    · rw [h] at hy; cases hy; exact ⟨rfl, hB⟩
    · rw [h] at hm; cases hm)
theorem Of_no (x : List UInt8) (m : Int) (h : sumsG x = .error m) (hreach : x.length ≤ 1000000) (sv : Value) (w : World) (hT : Tab w) (hS : Sl eB w.heap.size w sv x) :
    Calls Tryd.prog 71 #[sv] w fun e w' => e = .returned (.tuple #[v3 0 0 0, .int .i64 m]) ∧ Below w.heap.size w w' :=
  (Of_any sv x hreach w hT hS).mono (by
    rintro e w' ⟨hB, ⟨a', b', c', hy, rfl⟩ | ⟨m', hm, rfl⟩⟩
    · rw [h] at hy; cases hy
    · rw [h] at hm; cases hm; exact ⟨rfl, hB⟩)
theorem Rises_any (sv : Value) (x : List UInt8) (hreach : x.length ≤ 1000000) (w : World) (hS : Sl eB w.heap.size w sv x) :
    Calls Tryd.prog 58 #[sv] w fun e w' => Below w.heap.size w w' ∧ ∃ v, e = .returned v ∧ Sl eF w'.heap.size w' v ((List.range x.length).map (riseB x)) := callsIn_inProg (Rises_in sv x hreach w hS 0)
end Go.Proofs.YtmdpodgodhkjdaaDoor
