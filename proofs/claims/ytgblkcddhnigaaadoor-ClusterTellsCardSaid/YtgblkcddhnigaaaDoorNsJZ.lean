import Derived.Shelf.SlSortCmp.Whole1
import Derived.Test.YtgblkcddhnigaaaDoorNsSZ
namespace Go.Proofs.YtgblkcddhnigaaaDoor
open Go.RowKit Go.Shelf Go.Sort
theorem less_iff : ∀ a b : List UInt8, (Op.bytesLess a b = true ↔ Lib.compareBytes a b < 0) := by
 intro a
 induction a with
 | nil => intro b; cases b <;> simp [Op.bytesLess, Lib.compareBytes]
 | cons x a ih =>
   intro b
   cases b with
   | nil => simp [Op.bytesLess, Lib.compareBytes]
   | cons y b =>
     simp only [Op.bytesLess, Lib.compareBytes]
     have := ih b
     by_cases h1 : x < y
     · simp [h1]
     · by_cases h2 : y < x
       · have : ¬ x = y := fun e => by subst e; exact absurd h2 (UInt8.lt_irrefl _)
         simp [h1, h2, this]
       · have : x = y := UInt8.le_antisymm (UInt8.not_lt.1 h2) (UInt8.not_lt.1 h1)
         subst this
         simp [ih b]
theorem compare_swap : ∀ a b : List UInt8, Lib.compareBytes a b < 0 → ¬ Lib.compareBytes b a < 0 := by
 intro a
 induction a with
 | nil => intro b; cases b <;> simp [Lib.compareBytes]
 | cons x a ih =>
   intro b
   cases b with
   | nil => simp [Lib.compareBytes]
   | cons y b =>
     simp only [Lib.compareBytes]
     by_cases h1 : x < y
     · have : ¬ y < x := UInt8.lt_asymm h1
       simp [h1, this]
     · by_cases h2 : y < x
       · simp [h1, h2]
       · simp only [h1, h2, if_false]; exact ih b
theorem compare_total : ∀ a b : List UInt8, ¬ Lib.compareBytes a b < 0 → ¬ Lib.compareBytes b a < 0 → a = b := by
 intro a
 induction a with
 | nil => intro b; cases b <;> simp [Lib.compareBytes]
 | cons x a ih =>
   intro b
   cases b with
   | nil => simp [Lib.compareBytes]
   | cons y b =>
     simp only [Lib.compareBytes]
     by_cases h1 : x < y
     · simp [h1]
     · by_cases h2 : y < x
       · simp [h1, h2]
       · simp only [h1, h2, if_false]
         intro h3 h4
         have e1 : x = y := UInt8.le_antisymm (UInt8.not_lt.1 h2) (UInt8.not_lt.1 h1)
         rw [e1, ih b h3 h4]
theorem compare_trans : ∀ a b c : List UInt8, Lib.compareBytes a b < 0 → Lib.compareBytes b c < 0 → Lib.compareBytes a c < 0 := by
 intro a
 induction a with
 | nil =>
   intro b c h1 h2
   cases c with
   | nil => cases b <;> simp [Lib.compareBytes] at h1 h2
   | cons z c => simp [Lib.compareBytes]
 | cons x a ih =>
   intro b c h1 h2
   cases b with
   | nil => simp [Lib.compareBytes] at h1
   | cons y b =>
     cases c with
     | nil => simp [Lib.compareBytes] at h2
     | cons z c =>
       simp only [Lib.compareBytes] at h1 h2 ⊢
       by_cases xy : x < y
       · by_cases yz : y < z
         · simp [UInt8.lt_trans xy yz]
         · by_cases zy : z < y
           · simp [yz, zy] at h2
           · obtain rfl : y = z := UInt8.le_antisymm (UInt8.not_lt.1 zy) (UInt8.not_lt.1 yz)
             simp [xy]
       · by_cases yx : y < x
         · simp [xy, yx] at h1
         · obtain rfl : x = y := UInt8.le_antisymm (UInt8.not_lt.1 yx) (UInt8.not_lt.1 xy)
           simp only [xy, if_false] at h1
           by_cases xz : x < z
           · simp [xz]
           · by_cases zx : z < x
             · simp [xz, zx] at h2
             · obtain rfl : x = z := UInt8.le_antisymm (UInt8.not_lt.1 zx) (UInt8.not_lt.1 xz)
               simp only [xy, if_false] at h2 ⊢
               exact ih b c h1 h2
theorem compare_self (a : List UInt8) : ¬ Lib.compareBytes a a < 0 := fun h => compare_swap a a h h
theorem compare_ntrans (a b c : List UInt8) (h1 : ¬ Lib.compareBytes a b < 0) (h2 : ¬ Lib.compareBytes b c < 0) : ¬ Lib.compareBytes a c < 0 := by
 intro h
 by_cases h3 : Lib.compareBytes b a < 0
 · exact h2 (compare_trans b a c h3 h)
 · obtain rfl := compare_total a b h1 h3
   exact h2 h
def Good (W : World) (blk : Nat) (p : RowC) : Prop := ∀ W', W.grownBy W' (some blk) → Sl eB W.heap.size W' (eC p) p.bs
theorem good_of {W : World} {blk : Nat} {p : RowC} (h : Sl eB W.heap.size W (eC p) p.bs) (hne : (eC p).ownBlock ≠ some blk) : Good W blk p := by
 intro W' hg
 obtain ⟨A, c, e, hc, hcs⟩ := h
 refine ⟨A, c, e, hc, fun h0 => ?_⟩
 obtain ⟨b, off, rfl, hb, hcell⟩ := hcs h0
 refine ⟨b, off, rfl, hb, fun j x hx => ?_⟩
 have h1 := hcell j x hx
 have hk : W'.heap[b]? = W.heap[b]? := hg.block b hb (by rw [e] at hne; exact fun h => hne h)
 unfold World.cell? at h1 ⊢
 rw [hk]
 exact h1
end Go.Proofs.YtgblkcddhnigaaaDoor
namespace Go.Proofs.YtgblkcddhnigaaaDoor
open Go.RowKit Go.Shelf Go.Sort
abbrev GoodR (W : World) (blk : Nat) := { p : RowC // Good W blk p }
instance (W : World) (blk : Nat) : Inhabited (GoodR W blk) := ⟨⟨⟨none, 0, []⟩, fun _ _ => Sl.nil _ _ _⟩⟩
def encG {W : World} {blk : Nat} (x : GoodR W blk) : Value := eC x.1
def cfG {W : World} {blk : Nat} (x y : GoodR W blk) : Int := Lib.compareBytes x.1.bs y.1.bs
theorem swoG (W : World) (blk : Nat) : SWO (ltOf (cfG (W := W) (blk := blk))) where
  irrefl _ := decide_eq_false (compare_self _)
  trans _ _ _ h1 h2 := decide_eq_true (compare_trans _ _ _ (of_decide_eq_true h1) (of_decide_eq_true h2))
  ntrans _ _ _ h1 h2 := decide_eq_false (compare_ntrans _ _ _ (of_decide_eq_false h1) (of_decide_eq_false h2))
theorem grown_sort {α : Type} [Inhabited α] (enc : α → Value) (w : World) (blk n : Nat) (d : Array α) (os : Array Obj) : w.grownBy (sortWorld enc w blk 0 n d os) (some blk) := by
 unfold sortWorld
 refine ⟨rfl, rfl, rfl, by simp, fun k hk hne => ?_⟩
 rw [heap_grow_old _ _ (by simpa using hk)]
 have : blk ≠ k := fun e => hne (by rw [e])
 simp [putRow, mapBlock, Sort.ahead, Array.getElem?_modify, this]
theorem lift_good {W : World} {blk : Nat} : ∀ rows : List RowC, (∀ p ∈ rows, Good W blk p) → ∃ l : List (GoodR W blk), l.map (·.1) = rows
  | [], _ => ⟨[], rfl⟩
  | p :: rows, h => by
    obtain ⟨l, hl⟩ := lift_good rows fun q hq => h q (List.mem_cons_of_mem _ hq)
    exact ⟨⟨p, h p (List.mem_cons_self ..)⟩ :: l, by rw [List.map_cons, hl]⟩
def RiseR (rows : List RowC) : Prop := ∀ i j (hi : i < rows.length) (hj : j < rows.length), i < j → ¬ Lib.compareBytes rows[j].bs rows[i].bs < 0
theorem sort_rows (w : World) (blk cap : Nat) (rows : List RowC) (cur : Array Value) (e : TypeId) (hb : w.heap[blk]? = some (.cells cur e (0, 0))) (ht : cur.toList.take rows.length = rows.map eC) (hcap : rows.length ≤ cap)
    (hlen : rows.length ≤ 1000) (hgood : ∀ p ∈ rows, Good w blk p) :
    Calls Tryd.prog 43 #[.slice (some ⟨blk, 0, none⟩) rows.length cap, .func (.func 42) #[] #[]] w fun e w' =>
     e = .returned (.tuple #[]) ∧ ∃ rows' : List RowC, rows'.Perm rows ∧ RiseR rows' ∧ RowsIn w' (.slice (some ⟨blk, 0, none⟩) rows.length cap) rows' ∧ w.grownBy w' (some blk) := by
 obtain ⟨l, hl⟩ := lift_good rows hgood
 have hll : l.length = rows.length := by rw [← hl, List.length_map]
 have hblk : blk < w.heap.size := (Array.getElem?_eq_some_iff.1 hb).1
 have eg : ∀ args w, (callFunc 42 args).run Tryd.prog w = .ok (.enter 42 args) w := enters_of Tryd.func42 (by kernel_rfl) rfl
 have hH : Holds encG w blk 0 l.toArray := by
  intro j hj
  have hj' : j < l.length := by simpa using hj
  refine ⟨?_, by simp [World.frozen?, hb]⟩
  have h1 : (cur.toList.take rows.length)[j]? = (rows.map eC)[j]? := by rw [ht]
  rw [List.getElem?_take_of_lt (by omega), ← hl] at h1
  simp only [World.cell?, hb, Nat.zero_add]
  simp only [Option.isSome_none, Bool.false_eq_true, if_false]
  rw [← Array.getElem?_toList, h1]
  simp [hj', encG]
 have hcmp : CmpLays1 Tryd.prog 42 #[] (encG (W := w) (blk := blk)) cfG blk 0 l.toArray.size w := by
  intro m os dk hs x y
  have hg := grown_sort (encG (W := w) (blk := blk)) w blk m dk os
  refine (Compare_any (encG x) (encG y) x.1.bs y.1.bs w.heap.size (sortWorld encG w blk 0 m dk os) (x.2 _ hg) (y.2 _ hg)).mono ?_
  rintro e w' ⟨he, rfl⟩
  exact ⟨he, 0, #[], by rw [grow_empty]; rfl⟩
 have hS := Any.slices_SortFunc YtgblkcddhnigaaaDoor.sortL (encG (W := w) (blk := blk)) (fun _ => rfl) cfG (swoG w blk) 42 #[] blk 0 cap l.toArray w eg hcmp hH hblk (by simp; omega)
 rw [show l.toArray.size = rows.length by simp [hll]] at hS
 refine hS.mono ?_
 rintro e w' ⟨he, d', n, os, hp, hs, rfl⟩
 have hsz : d'.size = rows.length := by rw [hp.1]; exact hll
 have hpp : d'.toList.Perm l := by
  have h3 := hp.2.2
  simp only [Array.toList_extract, List.extract_eq_take_drop, List.drop_zero, Nat.sub_zero] at h3
  rwa [List.take_of_length_le (by first | omega | (simp; omega)), List.take_of_length_le (by first | omega | (simp; omega))] at h3
 have hH2 := holds_sortWorld (encG (W := w) (blk := blk)) w blk 0 n l.toArray d' os hblk hH (by rw [hsz]; exact hll.symm)
 have hg := grown_sort (encG (W := w) (blk := blk)) w blk n d' os
 generalize sortWorld encG w blk 0 n d' os = w' at *
 have hget : ∀ j (hj : j < rows.length), d'[j]! = d'.toList[j]'(by simp; omega) := fun j hj => by
  rw [getElem!_pos d' j (by omega)]
  simp
 refine ⟨he, d'.toList.map (·.1), ?_, ?_, ⟨⟨some ⟨blk, 0, none⟩, cap, ?_, ?_, fun _ => ⟨blk, 0, rfl, Nat.lt_of_lt_of_le hblk hg.size, ?_⟩⟩, ?_⟩, hg⟩
 · rw [← hl]
   exact hpp.map _
 · intro i j hi hj hij
   have hi' : i < rows.length := by simpa [hsz] using hi
   have hj' : j < rows.length := by simpa [hsz] using hj
   have h3 := of_decide_eq_false (hs i j (Nat.zero_le _) hij hj')
   unfold cfG at h3
   rw [hget i hi', hget j hj'] at h3
   simpa using h3
 · simp [hsz]
 · simp [hsz]; exact hcap
 · intro j x hx
   have hj : j < rows.length := by
    have := (List.getElem?_eq_some_iff.1 hx).1
    simpa [hsz] using this
   have h3 := (hH2 j (by omega)).1
   rw [h3, hget j hj]
   rw [List.getElem?_map, List.getElem?_eq_getElem (by simp; omega)] at hx
   have := Option.some.inj hx
   rw [← this]
   rfl
 · intro p hp
   obtain ⟨x, _, rfl⟩ := List.mem_map.1 hp
   exact (x.2 w' hg).more hg.size
end Go.Proofs.YtgblkcddhnigaaaDoor
namespace Go.Proofs.YtgblkcddhnigaaaDoor
open Go.RowKit Go.Shelf
attribute [local go_sem] Oper.semAt_some
theorem own_bel {w w' : World} {B e size n : Nat} {v : Value} {xs : List Value} (h : w.ownsRow B e size v n xs) (hb : Below w.heap.size w w') : w'.ownsRow B e size v n xs := by
 rcases h.2 with ⟨rfl, h0⟩ | ⟨g, cap, cur, rfl, hbase, hg, hr⟩
 · exact ⟨h.1, .inl ⟨rfl, h0⟩⟩
 · exact ⟨h.1, .inr ⟨g, cap, cur, rfl, hbase, (hb.5 g (Array.getElem?_eq_some_iff.1 hg).1).trans hg, hr⟩⟩
theorem info_row : (Tryd.prog.info? 34).map (fun i => (i.zero, i.size, i.bytes)) = some (some (.slice none 0 0), 1, 24) := by kernel_rfl
def Coll (B : Nat) (W : World) (v : Value) (vs : List RowC) : Prop :=
 W.ownsRow B 34 1 v vs.length (vs.map eC) ∧ ∀ p ∈ vs, Sl eB W.heap.size W (eC p) p.bs ∧ ∀ g, (eC p).ownBlock = some g → g < W.heap.size ∧ v.ownBlock ≠ some g
theorem Coll.bel {B : Nat} {W W' : World} {v : Value} {vs : List RowC} (h : Coll B W v vs) (hb : Below W.heap.size W W') : Coll B W' v vs :=
 ⟨own_bel h.1 hb, fun p hp => ⟨(h.2 p hp).1.next hb, fun g hg => ⟨Nat.lt_of_lt_of_le ((h.2 p hp).2 g hg).1 hb.size, ((h.2 p hp).2 g hg).2⟩⟩⟩
theorem sl_kept {W W' : World} {p : RowC} {r : Option Nat} (h : Sl eB W.heap.size W (eC p) p.bs) (hg : W.grownBy W' r) (hne : ∀ g, (eC p).ownBlock = some g → r ≠ some g) : Sl eB W'.heap.size W' (eC p) p.bs := by
 refine Sl.more ?_ hg.size
 obtain ⟨A, c, e, hc, hcs⟩ := h
 refine ⟨A, c, e, hc, fun h0 => ?_⟩
 obtain ⟨b, off, rfl, hb, hcell⟩ := hcs h0
 refine ⟨b, off, rfl, hb, fun j x hx => ?_⟩
 have h1 := hcell j x hx
 have hk : W'.heap[b]? = W.heap[b]? := hg.block b hb (by
  intro h
  exact hne b (by rw [e]; rfl) h.symm)
 unfold World.cell? at h1 ⊢
 rw [hk]
 exact h1
theorem Coll.push {B : Nat} {W1 W3 : World} {v v' : Value} {vs : List RowC} {p : RowC} {o : Obj} (h : Coll B W1 v vs) (hp : Sl eB W1.heap.size W1 (eC p) p.bs) (hn : ∀ g, (eC p).ownBlock = some g → g < W1.heap.size ∧ v.ownBlock ≠ some g)
    (hown : W3.ownsRow B 34 1 v' (vs.length + 1) (vs.map eC ++ [eC p])) (hg : (W1.alloc o).grownBy W3 v.ownBlock) (hat : v'.ownBlock = v.ownBlock ∨ v'.ownBlock = some (W1.alloc o).heap.size) : Coll B W3 v' (vs ++ [p]) := by
 have hA : Below W1.heap.size W1 (W1.alloc o) := (Below.refl _ _).alloc (Nat.le_refl _) o
 refine ⟨by simpa using hown, fun q hq => ?_⟩
 have hq2 : Sl eB W1.heap.size W1 (eC q) q.bs ∧ ∀ g, (eC q).ownBlock = some g → g < W1.heap.size ∧ v.ownBlock ≠ some g := by
  rcases List.mem_append.1 hq with h1 | h1
  · exact h.2 q h1
  · rw [List.mem_singleton.1 h1]; exact ⟨hp, hn⟩
 refine ⟨sl_kept (hq2.1.next hA) hg fun g h1 => (hq2.2 g h1).2, fun g h1 => ?_⟩
 obtain ⟨h3, h4⟩ := hq2.2 g h1
 have hs := hg.size
 simp only [World.size_alloc] at hs hat
 refine ⟨by omega, ?_⟩
 rcases hat with h5 | h5
 · rw [h5]; exact h4
 · rw [h5]
   intro h6
   have := Option.some.inj h6
   omega
end Go.Proofs.YtgblkcddhnigaaaDoor
