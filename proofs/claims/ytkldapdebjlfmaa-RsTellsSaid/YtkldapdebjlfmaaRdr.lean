/- Small facts of worlds that drew; xor of bytes. -/
import Derived.Test.YtkldapdebjlfmaaPoC
namespace Go.Proofs.Ytkldapdebjlfmaa
open Go.RowKit Go.Shelf

theorem u8x (a b : UInt8) : bits .xor .u8 (a.toNat : Int) (b.toNat : Int) = ((a ^^^ b).toNat : Int) := by rw [u8_xor _ _ a.toNat_lt b.toNat_lt, xor_toNat]
theorem rowed_drew {w : World} {g : Nat} {t : TypeId} {cs : Array Value} (h : Rowed w g t cs) : Rowed w.drew g t cs := h
theorem drew_cell (w : World) (p : Addr) : w.drew.cell? p = w.cell? p := rfl
theorem below_drewA (w : World) : Below w.heap.size w w.drew := ⟨rfl, rfl, rfl, Nat.le_refl _, fun _ _ => rfl⟩
theorem Sl.cells_at {B : Nat} {w : World} {A : Option Addr} {l cap : Nat} {p : List UInt8} (h : Sl eB B w (.slice A l cap) p) (h0 : 0 < p.length) :
    ∃ b off, A = some ⟨b, off, none⟩ ∧ b < B ∧ ∀ k, k < p.length → w.cell? ⟨b, off + k, none⟩ = some (eB (C p k)) := by
  obtain ⟨A', cap', e, hcap, hcs⟩ := h
  cases e
  obtain ⟨b, off, e, hb, hcell⟩ := hcs h0
  exact ⟨b, off, e, hb, fun k hk => by rw [C_get p k hk]; exact hcell k _ (by simp [hk])⟩
end Go.Proofs.Ytkldapdebjlfmaa
