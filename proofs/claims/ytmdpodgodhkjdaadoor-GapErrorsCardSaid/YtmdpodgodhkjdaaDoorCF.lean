/- A row that is made and filled: its cells by a function. -/
import Derived.Test.YtmdpodgodhkjdaaDoorCl
import Derived.Laws.Rows
namespace Go.Proofs.YtmdpodgodhkjdaaDoor
open Go.RowKit Go.Shelf

def cellsF (f : Nat → UInt8) (N : Nat) : Array Value := ((List.range N).map fun i => eB (f i)).toArray
theorem cellsF_size (f : Nat → UInt8) (N : Nat) : (cellsF f N).size = N := by simp [cellsF]
theorem cellsF_get (f : Nat → UInt8) (N j : Nat) (h : j < N) : (cellsF f N)[j]? = some (eB (f j)) := by simp [cellsF, h]
theorem cellsF_set (f : Nat → UInt8) (N j : Nat) (x : UInt8) : (cellsF f N).setIfInBounds j (eB x) = cellsF (fun k => if k = j then x else f k) N := by
  apply Array.ext
  · simp [cellsF]
  · intro i h1 h2
    simp only [Array.size_setIfInBounds, cellsF_size] at h1
    by_cases h : i = j
    · subst h; simp [cellsF]
    · simp [cellsF, h, Ne.symm h]
/-- A row of so many noughts is made. -/
theorem make_run (N : Nat) (hN : N ≤ 1000000) (z : Int) (hz : z = N) (w : World) : (Instr.makeSlice 22 (.int .i64 z) (.int .i64 z)).run Tryd.prog w = .ok (.slice (some ⟨w.heap.size, 0, none⟩) N N) (w.alloc (.cells (cellsF (fun _ => 0) N) 5)) := by
  subst hz
  obtain ⟨i0, hi, hz0, hz1, hz2⟩ := info_parts info_u8
  have h1 := run_make (P := Tryd.prog) w 22 5 i0 (.int .u8 0) Tryd.underlying22 hi hz0 .i64 .i64 (N : Int) (N : Int) (by omega) (by omega) (by rw [hz2]; omega) (by omega)
  have h2 : madeCells (Value.int .u8 0).cells ((N : Int).toNat * i0.size) = cellsF (fun _ => 0) N := by
    rw [hz1]
    apply Array.ext
    · simp [madeCells, cellsF, Value.cells]
    · intro j _ _
      simp [madeCells, cellsF, Value.cells, Nat.mod_one]
  rw [h2] at h1
  simpa using h1
/-- A whole row that holds the factors of f is a slice that reads as them. -/
theorem sl_cellsF {W : World} {g : Nat} {t : TypeId} {f : Nat → UInt8} {N : Nat} (h : Rowed W g t (cellsF f N)) (B : Nat) (hB : g < B) : Sl eB B W (.slice (some ⟨g, 0, none⟩) N N) ((List.range N).map f) := by
  refine ⟨some ⟨g, 0, none⟩, N, by simp, by simp, fun _ => ⟨g, 0, rfl, hB, fun j x hx => ?_⟩⟩
  rw [Nat.zero_add, h.cell j]
  rw [List.getElem?_map] at hx
  obtain ⟨i, hi, rfl⟩ := Option.map_eq_some_iff.1 hx
  obtain ⟨hj, rfl⟩ := List.getElem?_eq_some_iff.1 hi
  simp only [List.length_range] at hj
  rw [cellsF_get f N j hj]
  simp
end Go.Proofs.YtmdpodgodhkjdaaDoor
