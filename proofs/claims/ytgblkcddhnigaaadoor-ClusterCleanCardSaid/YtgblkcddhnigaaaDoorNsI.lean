/- slices.SortFunc of rows of bytes by bytes.Compare. -/
import Derived.Test.YtgblkcddhnigaaaDoorNsM
namespace Go.Proofs.YtgblkcddhnigaaaDoor
open Go.RowKit Go.Shelf Go.Sort

abbrev GoodR (W : World) (blk : Nat) := { p : RowC // Good W blk p }
instance (W : World) (blk : Nat) : Inhabited (GoodR W blk) := ⟨⟨⟨none, 0, []⟩, fun _ _ => Sl.nil _ _ _⟩⟩
def encG {W : World} {blk : Nat} (x : GoodR W blk) : Value := eC x.1
def cfG {W : World} {blk : Nat} (x y : GoodR W blk) : Int := Lib.compareBytes x.1.bs y.1.bs
theorem swoG (W : World) (blk : Nat) : SWO (ltOf (cfG (W := W) (blk := blk))) where
  irrefl _ := decide_eq_false (compare_self _)
  trans _ _ _ h1 h2 := decide_eq_true (compare_trans _ _ _ (of_decide_eq_true h1) (of_decide_eq_true h2))
  ntrans _ _ _ h1 h2 := decide_eq_false (compare_ntrans _ _ _ (of_decide_eq_false h1) (of_decide_eq_false h2))
theorem grown_sort {α : Type} [Inhabited α] (enc : α → Value) (w : World) (blk n : Nat) (d : Array α) (os : Array Obj) : w.grownBy (sortWorld enc w blk 0 n d os) (some blk) := by
  unfold sortWorld
  refine ⟨rfl, rfl, rfl, by simp, fun k hk hne => ?_⟩
  rw [heap_grow_old _ _ (by simpa using hk)]
  have : blk ≠ k := fun e => hne (by rw [e])
  simp [putRow, mapBlock, Sort.ahead, Array.getElem?_modify, this]
theorem lift_good {W : World} {blk : Nat} : ∀ rows : List RowC, (∀ p ∈ rows, Good W blk p) → ∃ l : List (GoodR W blk), l.map (·.1) = rows
  | [], _ => ⟨[], rfl⟩
  | p :: rows, h => by
    obtain ⟨l, hl⟩ := lift_good rows fun q hq => h q (List.mem_cons_of_mem _ hq)
    exact ⟨⟨p, h p (List.mem_cons_self ..)⟩ :: l, by rw [List.map_cons, hl]⟩
/-- Rows that rise. -/
def RiseR (rows : List RowC) : Prop := ∀ i j (hi : i < rows.length) (hj : j < rows.length), i < j → ¬ Lib.compareBytes rows[j].bs rows[i].bs < 0
theorem sort_rows (w : World) (blk cap : Nat) (rows : List RowC) (cur : Array Value) (e : TypeId) (hb : w.heap[blk]? = some (.cells cur e (0, 0))) (ht : cur.toList.take rows.length = rows.map eC) (hcap : rows.length ≤ cap)
    (hlen : rows.length ≤ 1000) (hgood : ∀ p ∈ rows, Good w blk p) :
    Calls Tryd.prog 43 #[.slice (some ⟨blk, 0, none⟩) rows.length cap, .func (.func 42) #[] #[]] w fun e w' =>
      e = .returned (.tuple #[]) ∧ ∃ rows' : List RowC, rows'.Perm rows ∧ RiseR rows' ∧ RowsIn w' (.slice (some ⟨blk, 0, none⟩) rows.length cap) rows' ∧ w.grownBy w' (some blk) := by
  obtain ⟨l, hl⟩ := lift_good rows hgood
  have hll : l.length = rows.length := by rw [← hl, List.length_map]
  have hblk : blk < w.heap.size := (Array.getElem?_eq_some_iff.1 hb).1
  have eg : ∀ args w, (callFunc 42 args).run Tryd.prog w = .ok (.enter 42 args) w := enters_of Tryd.func42 (by kernel_rfl) rfl
  have hH : Holds encG w blk 0 l.toArray := by
    intro j hj
    have hj' : j < l.length := by simpa using hj
    refine ⟨?_, by simp [World.frozen?, hb]⟩
    have h1 : (cur.toList.take rows.length)[j]? = (rows.map eC)[j]? := by rw [ht]
    rw [List.getElem?_take_of_lt (by omega), ← hl] at h1
    simp only [World.cell?, hb, Nat.zero_add]
    simp only [Option.isSome_none, Bool.false_eq_true, if_false]
    rw [← Array.getElem?_toList, h1]
    simp [hj', encG]
  have hcmp : CmpLays1 Tryd.prog 42 #[] (encG (W := w) (blk := blk)) cfG blk 0 l.toArray.size w := by
    intro m os dk hs x y
    have hg := grown_sort (encG (W := w) (blk := blk)) w blk m dk os
    refine (Compare_any (encG x) (encG y) x.1.bs y.1.bs w.heap.size (sortWorld encG w blk 0 m dk os) (x.2 _ hg) (y.2 _ hg)).mono ?_
    rintro e w' ⟨he, rfl⟩
    exact ⟨he, 0, #[], by rw [grow_empty]; rfl⟩
  have hS := Any.slices_SortFunc YtgblkcddhnigaaaDoor.sortL (encG (W := w) (blk := blk)) (fun _ => rfl) cfG (swoG w blk) 42 #[] blk 0 cap l.toArray w eg hcmp hH hblk (by simp; omega)
  rw [show l.toArray.size = rows.length by simp [hll]] at hS
  refine hS.mono ?_
  rintro e w' ⟨he, d', n, os, hp, hs, rfl⟩
  have hsz : d'.size = rows.length := by rw [hp.1]; exact hll
  have hpp : d'.toList.Perm l := by
    have h3 := hp.2.2
    simp only [Array.toList_extract, List.extract_eq_take_drop, List.drop_zero, Nat.sub_zero] at h3
    rwa [List.take_of_length_le (by first | omega | (simp; omega)), List.take_of_length_le (by first | omega | (simp; omega))] at h3
  have hH2 := holds_sortWorld (encG (W := w) (blk := blk)) w blk 0 n l.toArray d' os hblk hH (by rw [hsz]; exact hll.symm)
  have hg := grown_sort (encG (W := w) (blk := blk)) w blk n d' os
  generalize sortWorld encG w blk 0 n d' os = w' at *
  have hget : ∀ j (hj : j < rows.length), d'[j]! = d'.toList[j]'(by simp; omega) := fun j hj => by
    rw [getElem!_pos d' j (by omega)]
    simp
  refine ⟨he, d'.toList.map (·.1), ?_, ?_, ⟨⟨some ⟨blk, 0, none⟩, cap, ?_, ?_, fun _ => ⟨blk, 0, rfl, Nat.lt_of_lt_of_le hblk hg.size, ?_⟩⟩, ?_⟩, hg⟩
  · rw [← hl]
    exact hpp.map _
  · intro i j hi hj hij
    have hi' : i < rows.length := by simpa [hsz] using hi
    have hj' : j < rows.length := by simpa [hsz] using hj
    have h3 := of_decide_eq_false (hs i j (Nat.zero_le _) hij hj')
    unfold cfG at h3
    rw [hget i hi', hget j hj'] at h3
    simpa using h3
  · simp [hsz]
  · simp [hsz]; exact hcap
  · intro j x hx
    have hj : j < rows.length := by
      have := (List.getElem?_eq_some_iff.1 hx).1
      simpa [hsz] using this
    have h3 := (hH2 j (by omega)).1
    rw [h3, hget j hj]
    rw [List.getElem?_map, List.getElem?_eq_getElem (by simp; omega)] at hx
    have := Option.some.inj hx
    rw [← this]
    rfl
  · intro p hp
    obtain ⟨x, _, rfl⟩ := List.mem_map.1 hp
    exact (x.2 w' hg).more hg.size
end Go.Proofs.YtgblkcddhnigaaaDoor
