/- Rows of rows of bytes in memory. Of no program. -/
import Derived.Test.YtgblkcddhnigaaaDoorL
namespace Go.Proofs.YtgblkcddhnigaaaDoor
open Go.RowKit

/-- A row: where it lies, its capacity, the bytes that it holds. -/
structure RowC where
  A : Option Addr
  c : Nat
  bs : List UInt8
def eC (p : RowC) : Value := .slice p.A p.bs.length p.c
theorem eC_one (p : RowC) : (eC p).oneCell' = true := rfl
/-- Rows that lie in memory. -/
def RowsIn (W : World) (v : Value) (rows : List RowC) : Prop := Sl eC W.heap.size W v rows ∧ ∀ p ∈ rows, Sl eB W.heap.size W (eC p) p.bs
theorem RowsIn.next {w w' : World} {v : Value} {rows : List RowC} (h : RowsIn w v rows) (hb : Below w.heap.size w w') : RowsIn w' v rows :=
  ⟨(h.1.below hb).more hb.size, fun p hp => ((h.2 p hp).below hb).more hb.size⟩
/-- A row at its place. -/
theorem RowsIn.at {W : World} {b off c : Nat} {n : Nat} {rows : List RowC} (h : RowsIn W (.slice (some ⟨b, off, none⟩) n c) rows) (k : Nat) (hk : k < rows.length) :
    W.cell? ⟨b, off + k, none⟩ = some (.slice rows[k].A rows[k].bs.length rows[k].c) ∧ Sl eB W.heap.size W (.slice rows[k].A rows[k].bs.length rows[k].c) rows[k].bs := by
  obtain ⟨⟨A, cc, e, -, hcs⟩, hR⟩ := h
  obtain ⟨b', off', e', -, hcell⟩ := hcs (by omega)
  subst e'
  cases e
  exact ⟨hcell k rows[k] (List.getElem?_eq_getElem hk), hR rows[k] (List.getElem_mem hk)⟩
theorem RowsIn.some {W : World} {v : Value} {rows : List RowC} (h : RowsIn W v rows) : ∃ A c, v = .slice A rows.length c ∧ (0 < rows.length → ∃ b off, A = some ⟨b, off, none⟩ ∧ b < W.heap.size) := by
  obtain ⟨⟨A, c, e, -, hcs⟩, -⟩ := h
  exact ⟨A, c, e, fun h => by obtain ⟨b, off, e', hb, -⟩ := hcs h; exact ⟨b, off, e', hb⟩⟩
end Go.Proofs.YtgblkcddhnigaaaDoor
