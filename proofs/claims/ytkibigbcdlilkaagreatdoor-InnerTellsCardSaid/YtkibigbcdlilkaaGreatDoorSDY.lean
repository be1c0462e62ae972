import Derived.Laws.CopyOwn
import Derived.Laws.IdiomCopy
import Derived.Test.YtkibigbcdlilkaaGreatDoorVaAY
namespace Go.Proofs.YtkibigbcdlilkaaGreatDoor
open Go.RowKit Go.Shelf
theorem splice_cons (cs : List Value) (o : Nat) (v : Value) (r : List Value) (h : o < cs.length) : splice (cs.set o v) (o + 1) r = splice cs o (v :: r) := by
 unfold splice
 have e1 : (cs.set o v).take (o + 1) = cs.take o ++ [v] := by
  rw [List.take_succ_eq_append_getElem (by simpa using h), List.take_set, List.set_eq_of_length_le (by rw [List.length_take]; omega)]
  simp
 have e2 : (cs.set o v).drop (o + 1 + r.length) = cs.drop (o + 1 + r.length) := by
  rw [List.drop_set_of_lt (by omega)]
 rw [e1, e2]
 simp [Nat.add_assoc, Nat.add_comm 1]
theorem rowed_setCells {g : Nat} {t : TypeId} : ∀ (vs : List Value) (o : Nat) (cs : List Value) (W : World), Rowed W g t cs.toArray → o + vs.length ≤ cs.length → Rowed (W.setCells g o vs) g t (splice cs o vs).toArray
  | [], o, cs, W, h, _ => by simpa [splice, World.setCells] using h
  | v :: r, o, cs, W, h, hl => by
    have hl' : o + (r.length + 1) ≤ cs.length := hl
    have h1 := h.set o v
    rw [show cs.toArray.setIfInBounds o v = (cs.set o v).toArray by simp] at h1
    have := rowed_setCells r (o + 1) (cs.set o v) _ h1 (by simp; omega)
    rwa [splice_cons cs o v r (by omega)] at this
theorem below_setCells {B g : Nat} (hg : B ≤ g) : ∀ (vs : List Value) (o : Nat) {w W : World}, Below B w W → Below B w (W.setCells g o vs)
 | [], _, _, _, h => h
 | v :: r, o, _, _, h => below_setCells hg r (o + 1) (h.setCell (p := ⟨g, o, none⟩) hg v)
theorem del_take {L X : List Value} {n i : Nat} (c : Value) (hX : L.take n = X) (hi : i < n) (hn : n ≤ L.length) : (splice (splice L i (X.drop (i + 1))) (n - 1) [c]).take (n - 1) = X.take i ++ X.drop (i + 1) := by
 have hXl : X.length = n := by rw [← hX, List.length_take]; omega
 have h1 : (L.take i).length = i := by rw [List.length_take]; omega
 have e0 : L.take i = X.take i := by rw [← hX, List.take_take]; congr 1; omega
 have h2 : (L.take i ++ X.drop (i + 1)).length = n - 1 := by rw [List.length_append, h1, List.length_drop]; omega
 have e1 : splice L i (X.drop (i + 1)) = (L.take i ++ X.drop (i + 1)) ++ L.drop (i + (X.drop (i + 1)).length) := by rw [splice, List.append_assoc]
 have hl : (splice L i (X.drop (i + 1))).length = L.length := length_splice _ _ _ (by rw [List.length_drop]; omega)
 rw [splice, List.take_left' (by rw [List.length_take]; omega), e1, List.take_left' h2, e0]
end Go.Proofs.YtkibigbcdlilkaaGreatDoor
