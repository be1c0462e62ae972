import Derived.Stop.RegionWithIn
import Derived.Sort.QuietTacIn
import Derived.Sort.BigQuietIn
import Derived.RecoverIn
import Derived.Test.YtkibigbcdlilkaaGreatDoorRJY
import Derived.Test.YtkibigbcdlilkaaGreatDoorRXY
namespace Go.Proofs.YtkibigbcdlilkaaGreatDoor
open Go.RowKit
theorem ownFrom_keep {β : Type} {B B' g : Nat} {w₀ : World} (h1 : B ≤ w₀.heap.size) (h2 : B ≤ B') : OwnFrom B' (fun (_ : β) W => Keep B g w₀ W) :=
 fun _ X Y row hs hg hr => ⟨⟨hg.os.trans hs.1.1, hg.tape.trans hs.1.2.1, hg.output.trans hs.1.2.2.1, Nat.le_trans hs.1.2.2.2 hg.size⟩, fun k hk hkg => by
  have hsz := hs.1.2.2.2
  exact (hg.block k (by omega) (fun e => by have := (hr k e.symm).1; omega)).trans (hs.2 k hk hkg)⟩
theorem keepsFrom_below {B : Nat} {W W' : World} (h : Below W.heap.size W W') : KeepsFrom B W W' :=
 ⟨h.size, fun k _ _ hk _ => (h.block k (Array.getElem?_eq_some_iff.1 hk).1).trans hk⟩
theorem keepsFrom_set (B : Nat) {W : World} {g : Nat} {t : TypeId} {cs : Array Value} (_h : Rowed W g t cs) (j : Nat) (v : Value) : KeepsFrom B W (W.setCell ⟨g, j, none⟩ v) := (KeepsOthers.setCell W ⟨g, j, none⟩ v).from B
theorem Keep.boxed {B g b : Nat} {W W' : World} {t : TypeId} {v : Value} (h : Keep B g W W') (hb : Boxed W b t v) (h1 : b < B) (h2 : b ≠ g) : Boxed W' b t v := (h.2 b h1 h2).trans hb
theorem below_of_keep {B g s : Nat} {w W W' : World} (h : Keep B g W W') (hB : Below s w W) (h1 : s ≤ B) (h2 : s ≤ g) : Below s w W' :=
 hB.trans ⟨h.1.1, h.1.2.1, h.1.2.2.1, h.1.2.2.2, fun k hk => h.2 k (by omega) (by omega)⟩
set_option maxRecDepth 100000 in
theorem keep_put {B g : Nat} {w : World} (hn : B ≤ w.heap.size) (W : World) (l : Nat) (o o' : Obj) (hl : w.heap.size ≤ l) (_ : W.heap[l]? = some o) (_ : o.isCells = false) : Keep B g W (W.putObj l o') :=
 ⟨⟨rfl, rfl, rfl, by simp [World.putObj]⟩, fun k hk _ => World.putObj_heap_other (by omega)⟩
theorem roundIn_room {F : Fence} (hd : F.depth = none) {P : Program} {m n l : Nat} {f : FuncId} {tmps : Array Value} {assign body : Code} {w : World} {R : Ending → World → Prop} (h : RoundIn F n P l f tmps assign body w R) : RoundIn F m P l f tmps assign body w R :=
 ⟨h.1, fun c cs _ => h.2 c cs (fun d hd' => by rw [hd] at hd'; cases hd')⟩
theorem range_pre (j k : Nat) (h : j < k) : List.range j ++ [j] <+: List.range k := by
 rw [← List.range_succ, List.prefix_iff_eq_take, List.take_range, List.length_range, Nat.min_eq_left (by omega)]
theorem range_is {pre : List Nat} {x k : Nat} (h : pre ++ [x] <+: List.range k) : x < k ∧ pre = List.range x := by
 rw [List.prefix_iff_eq_take, List.take_range, List.length_append, List.length_singleton] at h
 have hl := congrArg List.length h
 simp at hl
 rw [Nat.min_eq_left (by omega), List.range_succ] at h
 have h1 := List.append_inj h (by simp)
 have h2 : x = pre.length := by simpa using h1.2
 exact ⟨by omega, by rw [h2]; exact h1.1⟩
end Go.Proofs.YtkibigbcdlilkaaGreatDoor
namespace Go.Proofs.YtkibigbcdlilkaaGreatDoor
open Go.RowKit
def Kp2 (B g1 g2 : Nat) (W W' : World) : Prop := (W'.os = W.os ∧ W'.tape = W.tape ∧ W'.output = W.output ∧ W.heap.size ≤ W'.heap.size) ∧ ∀ k, k < B → k ≠ g1 → k ≠ g2 → W'.heap[k]? = W.heap[k]?
theorem kp2_of {B g1 g2 : Nat} {W W' : World} (h : Below B W W') : Kp2 B g1 g2 W W' := ⟨⟨h.os, h.tape, h.output, h.size⟩, fun k hk _ _ => h.block k hk⟩
theorem kp2_t {B g1 g2 : Nat} {X Y Z : World} (h : Kp2 B g1 g2 X Y) (k : Kp2 B g1 g2 Y Z) : Kp2 B g1 g2 X Z :=
 ⟨⟨k.1.1.trans h.1.1, k.1.2.1.trans h.1.2.1, k.1.2.2.1.trans h.1.2.2.1, Nat.le_trans h.1.2.2.2 k.1.2.2.2⟩, fun i hi ha hb => (k.2 i hi ha hb).trans (h.2 i hi ha hb)⟩
theorem kp2_set1 (B g1 g2 j : Nat) (W : World) (v : Value) : Kp2 B g1 g2 W (W.setCell ⟨g1, j, none⟩ v) :=
 ⟨⟨rfl, rfl, rfl, by simp [World.setCell]⟩, fun _ _ hg _ => Below.heap_setCell _ _ _ _ hg⟩
theorem kp2_set2 (B g1 g2 j : Nat) (W : World) (v : Value) : Kp2 B g1 g2 W (W.setCell ⟨g2, j, none⟩ v) :=
 ⟨⟨rfl, rfl, rfl, by simp [World.setCell]⟩, fun _ _ _ hg => Below.heap_setCell _ _ _ _ hg⟩
theorem kp2_size {B g1 g2 : Nat} {W W' : World} (h : Kp2 B g1 g2 W W') : W.heap.size ≤ W'.heap.size := h.1.2.2.2
theorem kp2_keep {B g : Nat} {W W' : World} (h : Keep B g W W') : Kp2 B g g W W' := ⟨h.1, fun k hk hg _ => h.2 k hk hg⟩
theorem Kp2.boxed {B g1 g2 b : Nat} {W W' : World} {t : TypeId} {v : Value} (h : Kp2 B g1 g2 W W') (hb : Boxed W b t v) (h1 : b < B) (h2 : b ≠ g1) (h3 : b ≠ g2) : Boxed W' b t v := (h.2 b h1 h2 h3).trans hb
theorem below_of_kp2 {B g1 g2 s : Nat} {w W W' : World} (h : Kp2 B g1 g2 W W') (hB : Below s w W) (h1 : s ≤ B) (h2 : s ≤ g1) (h3 : s ≤ g2) : Below s w W' :=
 hB.trans ⟨h.1.1, h.1.2.1, h.1.2.2.1, h.1.2.2.2, fun k hk => h.2 k (by omega) (by omega) (by omega)⟩
end Go.Proofs.YtkibigbcdlilkaaGreatDoor
