import Derived.RangeFuncNested
import Derived.RangeFuncBound
import Derived.RangeFuncCalls
import Derived.RangeFuncLeaves
import Derived.Shelf.Abstract
import Derived.Shelf.RegionOpen
import Derived.WalkKit
import Derived.WalkSpells
import Derived.WalkLawsBesides
import Derived.OwnWalkIn
import Derived.TacticsInMore
import Derived.LoopNIn
import Derived.LoopIn
import Derived.Lib.Hide
import Derived.IntWalk
import Derived.BigQuiet
import Derived.Deep.QuietTactic
import Derived.WalkMore
import Derived.Maps.AppendAt
import Derived.OwnWalk
import Derived.Laws.IdiomStrings
import Derived.Laws.BytesArg
import Derived.Laws.Externs
import Derived.Lib.Bytealg
import Derived.Lib.SlBytesConst
namespace Go.Proofs.YtcngnjkpnmpcpaaDoor
open Go.RowKit
def Sl {α : Type} (enc : α → Value) (B : Nat) (W : World) (sv : Value) (xs : List α) : Prop :=
 ∃ A cap, sv = .slice A xs.length cap ∧ xs.length ≤ cap ∧
   (0 < xs.length → ∃ b off, A = some ⟨b, off, none⟩ ∧ b < B ∧ ∀ j x, xs[j]? = some x → W.cell? ⟨b, off + j, none⟩ = some (enc x))
abbrev eB (b : UInt8) : Value := .int .u8 (b.toNat : Int)
abbrev eI (n : Int) : Value := .int .i64 n
section
variable {α : Type} {enc : α → Value} {B B' : Nat} {W W' : World} {sv : Value} {xs : List α}
theorem Sl.below (h : Sl enc B W sv xs) (hb : Below B W W') : Sl enc B W' sv xs := by
 obtain ⟨A, cap, e, hc, h⟩ := h
 refine ⟨A, cap, e, hc, fun hn => ?_⟩
 obtain ⟨b, off, e, hlt, hcell⟩ := h hn
 exact ⟨b, off, e, hlt, fun j x hx => (hb.cell (p := ⟨b, off + j, none⟩) hlt).trans (hcell j x hx)⟩
theorem Sl.more (h : Sl enc B W sv xs) (hB : B ≤ B') : Sl enc B' W sv xs := by
 obtain ⟨A, cap, e, hc, h⟩ := h
 refine ⟨A, cap, e, hc, fun hn => ?_⟩
 obtain ⟨b, off, e, hlt, hcell⟩ := h hn
 exact ⟨b, off, e, by omega, hcell⟩
theorem Sl.next (h : Sl enc W.heap.size W sv xs) (hb : Below W.heap.size W W') : Sl enc W'.heap.size W' sv xs := (h.below hb).more hb.size
theorem Sl.of_own {base : Nat} {e : TypeId} {v : Value} {n : Nat} (h : W.ownsRow base e 1 v n (xs.map enc)) : Sl enc W.heap.size W v xs := by
 have hl : xs.length = n := by have := h.1; simpa using this
 subst hl
 rcases h.2 with ⟨rfl, h0⟩ | ⟨g, cap, cur, rfl, hb, hg, hn, hcm, hsz, htk⟩
 · exact ⟨none, 0, by rw [h0], by omega, fun hn => absurd hn (by omega)⟩
 · refine ⟨_, cap, rfl, hn, fun _ => ⟨g, 0, rfl, (Array.getElem?_eq_some_iff.1 hg).1, fun j x hx => ?_⟩⟩
   have := World.ownsRow.cells h (g := g) rfl j (enc x) (by simp [hx])
   rw [show (⟨g, 0, none⟩ : Addr).add j = ⟨g, 0 + j, none⟩ from by unfold Addr.add; split <;> simp_all] at this
   exact this
theorem Sl.len (h : Sl enc B W sv xs) : ∃ A cap, sv = .slice A xs.length cap := ⟨_, _, h.choose_spec.choose_spec.1⟩
end
theorem below_trans {w w1 w2 : World} (h : Below w.heap.size w w1) (h' : Below w1.heap.size w1 w2) : Below w.heap.size w w2 := h.trans (h'.mono h.size)
theorem bits_and3 (n : Int) : bits .and .i64 n 3 = n % 4 := by
 have h : (BitVec.ofInt IntKind.i64.bits n &&& BitVec.ofInt IntKind.i64.bits 3).toNat = (n % 4).toNat := by
  have e : (BitVec.ofInt IntKind.i64.bits 3).toNat = 2 ^ 2 - 1 := by decide
  rw [BitVec.toNat_and, e, Nat.and_two_pow_sub_one_eq_mod, BitVec.toNat_ofInt]
  show (n % (2 ^ 64 : Nat)).toNat % 4 = _
  omega
 unfold bits
 simp only [h]
 rw [IntWalk.i64_in _ (by omega)]
 omega
section
variable {F : Fence} {n : Nat} {P : Program} {b : Frame} {a : Act} {k : List Item} {cs : List Frame} {w : World} {Q : Exit → Act → World → Prop}
end
section
variable {α : Type} {enc : α → Value} {P : Program}
end
theorem run_str {P : Program} {B : Nat} {w : World} {sv : Value} {bs : List UInt8} (h : Sl eB B w sv bs) (src dst e : TypeId) (hs : P.underlying src = some (.slice e)) (he : P.underlying e = some (.int .u8)) (hd : P.underlying dst = some .string) :
    (convert src dst sv).run P w = .ok (.string ⟨bs.toArray⟩) w := by
  obtain ⟨A, c, rfl, hc, hcells⟩ := h
  cases A with
  | none =>
    have hx : bs = [] := by
     cases bs with
     | nil => rfl
     | cons x xs => obtain ⟨_, _, h, _⟩ := hcells (by simp); cases h
    subst hx
    exact run_convert_bytes_nil (P := P) w src e hs he 0 c dst hd
  | some ad =>
    refine run_convert_bytes_back w src dst e ad c bs hs he hd fun j hj => ?_
    obtain ⟨b, off, e', _, hcell⟩ := hcells (by omega)
    cases e'
    have h2 := hcell j bs[j] (by simp [hj])
    rw [show (⟨b, off, none⟩ : Addr).add j = ⟨b, off + j, none⟩ from by unfold Addr.add; split <;> simp_all, h2]
section
variable {F : Fence} {n : Nat} {P : Program} {Q : Exit → Act → World → Prop}
def pick (l : List Oper) : List Nat → List Oper
  | [] => []
  | i :: p => (l[i]?).toList ++ pick l p
end
theorem below_drewN {B : Nat} (w : World) (n : Nat) : Below B w (w.drewN n) := ⟨rfl, rfl, rfl, Nat.le_refl _, fun _ _ => rfl⟩
theorem Sl.upto {α : Type} {enc : α → Value} {B : Nat} {W : World} {A : Option Addr} {len cap : Nat} {xs : List α} (h : Sl enc B W (.slice A len cap) xs) {p : Nat} (hp : p ≤ xs.length) : Sl enc B W (.slice A p cap) (xs.take p) := by
 obtain ⟨A', c', e, hc, hcells⟩ := h
 cases e
 have hl : (xs.take p).length = p := by simp [hp]
 refine ⟨A, cap, by rw [hl], by omega, fun hn => ?_⟩
 obtain ⟨b, off, e, hb, hcell⟩ := hcells (by omega)
 refine ⟨b, off, e, hb, fun j x hx => hcell j x ?_⟩
 rw [List.getElem?_take] at hx
 split at hx
 · exact hx
 · cases hx
end Go.Proofs.YtcngnjkpnmpcpaaDoor
