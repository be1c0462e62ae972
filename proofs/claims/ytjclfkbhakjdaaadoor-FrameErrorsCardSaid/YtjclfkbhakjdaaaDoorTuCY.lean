import Derived.Test.YtjclfkbhakjdaaaDoorBtBY
import Derived.Test.YtjclfkbhakjdaaaDoorDTY
import Derived.Test.YtjclfkbhakjdaaaDoorRIY
namespace Go.Proofs.YtjclfkbhakjdaaaDoor.Tu
open Go.RowKit Go.Shelf
attribute [local go_sem] Oper.semAt_some run_store_func
abbrev aB (L : List UInt8) : Value := .agg (L.map eB).toArray
abbrev Row8 (W : World) (g : Nat) (t : TypeId) (L : List UInt8) : Prop := Rowed W g t (L.map eB).toArray
theorem cells_aB (L : List UInt8) : (aB L).cells = (L.map eB).toArray := rfl
theorem one_map (L : List UInt8) : (L.map eB).toArray.all (·.oneCell') = true := by
 rw [Array.all_eq_true']
 intro x hx
 simp only [List.mem_toArray, List.mem_map] at hx
 obtain ⟨j, _, rfl⟩ := hx
 rfl
theorem below_setRow {B : Nat} {w W : World} (h : Below B w W) (g : Nat) (cs : Array Value) (hg : B ≤ g) : Below B w (W.setRow g cs) :=
 h.trans ⟨rfl, rfl, rfl, by simp, fun k hk => setRow_other _ g k _ (by omega)⟩
theorem Row8.put {W : World} {g : Nat} {t : TypeId} {cs : Array Value} (h : Rowed W g t cs) (L : List UInt8) : Row8 (W.setRow g (L.map eB).toArray) g t L := setRow_heap W g cs (L.map eB).toArray _ _ h
end Go.Proofs.YtjclfkbhakjdaaaDoor.Tu
namespace Go.Proofs.YtjclfkbhakjdaaaDoor
open Go.Proofs.YtjclfkbhakjdaaaDoor.Tu
open Go.RowKit Go.Shelf
attribute [local go_sem] Oper.semAt_some run_store_func
end Go.Proofs.YtjclfkbhakjdaaaDoor
namespace Go.Proofs.YtjclfkbhakjdaaaDoor.Tu
open Go.RowKit Go.Shelf
attribute [local go_sem] Oper.semAt_some run_store_func
theorem row_get (L : List UInt8) (k : Nat) : (L.map eB).toArray[k]? = (L[k]?).map eB := by simp
theorem info3 : (Tryd.prog.info? 59).map (fun i => (i.zero, i.size)) = some (some (aB [0, 0, 0]), 3) := by kernel_rfl
theorem size1 : (Tryd.prog.info? 5).map (·.size) = some 1 := by kernel_rfl
theorem size3 (L : List UInt8) (h : L.length = 3) : (Tryd.prog.info? 59).map (·.size) = some (L.map eB).toArray.size := by
 rw [(zero_of_info info3).2]; simp [h]
abbrev errno (n : Int) : List PanicEntry := [{ v := .iface 28 (.int .i64 n), recovered := false }]
def oRow (k j : Nat) : List UInt8 := (List.range 3).map fun n => if n < j then letterOf (if n < k then (n : Int) else (n : Int) + 1) else 0
def oth (k : Nat) : List UInt8 := oRow k 3
theorem oRow_length (k j : Nat) : (oRow k j).length = 3 := by simp [oRow]
theorem oRow_zero (k : Nat) : oRow k 0 = [0, 0, 0] := by simp [oRow, List.range_succ]
theorem oRow_set (k j : Nat) (h : j < 3) : ((oRow k j).map eB).toArray.setIfInBounds j (eB (letterOf (if j < k then (j : Int) else (j : Int) + 1))) = ((oRow k (j + 1)).map eB).toArray := by
 rcases (show j = 0 ∨ j = 1 ∨ j = 2 by omega) with rfl | rfl | rfl <;> simp [oRow, List.range_succ]
theorem Tab.set {W : World} (h : Tab W) (g j : Nat) (v : Value) (hne : 3 ≠ g) : Tab (W.setCell ⟨g, j, none⟩ v) := by
 have hc : ∀ n, (W.setCell ⟨g, j, none⟩ v).cell? ⟨3, n, none⟩ = W.cell? ⟨3, n, none⟩ := fun n =>
  World.cell?_of_block (w := W) (Below.heap_setCell W ⟨g, j, none⟩ v 3 hne)
 exact ⟨(hc 0).trans h.1, (hc 1).trans h.2.1, (hc 2).trans h.2.2.1, (hc 3).trans h.2.2.2⟩
theorem told_ok (w : World) : Calls Tryd.prog 94 #[.int .i64 0] w fun e w' => e = .returned (.tuple #[]) ∧ w = w' := by
 go_enter Tryd.func94, Tryd.ntmps94
 go_wp2
 go_end0
 exact ⟨rfl, rfl⟩
theorem told_no (n : Int) (hn : n ≠ 0) (w : World) : Calls Tryd.prog 94 #[.int .i64 n] w fun e w' => e = .panicked (errno n) ∧ w = w' := by
 have h : ((n : Int) != 0) = true := by simpa using hn
 go_enter Tryd.func94, Tryd.ntmps94
 go_wp2
 exact ⟨rfl, rfl, rfl⟩
set_option maxRecDepth 100000 in
set_option maxHeartbeats 2000000 in
theorem others_yes (a : UInt8) (k : Nat) (hk : codeOf a.toNat = (k : Int)) (w : World) (hT : Tab w) :
    Calls Tryd.prog 73 #[eB a] w fun e w' => e = .returned (aB (oth k)) ∧ Below w.heap.size w w' := by
  obtain ⟨hz, hsz⟩ := zero_of_info info3
  have hc0 := cells_aB [0, 0, 0]
  have hC := fun w hT => Code_yes a.toNat w hT (by omega)
  rw [hk] at hC
  have hkr : k ≤ 3 := by have := codeOf_range a.toNat; omega
  obtain ⟨Z, hZ⟩ : ∃ Z : List UInt8, [0, 0, 0] = Z := ⟨_, rfl⟩
  have hZl : Z.length = 3 := by rw [← hZ]; rfl
  have HZ := Lib.hid (show oRow k 0 = Z by rw [oRow_zero, hZ])
  rw [hZ] at hz hc0
  clear hZ hk
  have hA := below_alloc w (.cells (Z.map eB).toArray 59)
  have hr := Rowed.new w 59 (Z.map eB).toArray
  have hT1 := hT.below hA
  go_enter Tryd.func73, Tryd.ntmps73
  go_wp2_with fail
  generalize hw1 : w.alloc (.cells (Z.map eB).toArray 59) = w1 at *
  go_at_call 93
  refine (hC _ hT1).mono ?_
  rintro e w' ⟨rfl, rfl⟩
  have hr2 := Rowed.new w1 59 (Z.map eB).toArray
  have hA2 := hA.alloc hA.size (.cells (Z.map eB).toArray 59)
  have hr1 := hr.alloc (.cells (Z.map eB).toArray 59)
  have hT2 := hT1.below (below_alloc w1 (.cells (Z.map eB).toArray 59))
  have hl1 := hr.lt
  have hr2 : Rowed (w1.alloc (.cells (Z.map eB).toArray 59)) w1.heap.size 59 ((oRow k 0).map eB).toArray := by rw [HZ.out]; exact hr2
  have hlt := hT.lt
  have hgl : 3 < w1.heap.size := by have := hA.size; omega
  clear hC hA hr hT1 hw1 hT
  go_wp2_with (go_at_call 94; refine (told_ok _).mono ?_; rintro e w' ⟨rfl, rfl⟩)
  generalize w1.alloc (.cells (Z.map eB).toArray 59) = w2 at *
  generalize w1.heap.size = g at *
  have hLt : ∀ n, ∀ w, Tab w → Calls Tryd.prog 95 #[.int .i64 n] w fun e w' => e = .returned (eB (letterOf n)) ∧ w = w' := fun n w h => letter_any n w h
  go_loopw [14] (fun i wr => ∃ j : Nat, j ≤ 3 ∧ i = .int .i64 j ∧ Row8 wr g 59 (oRow k j) ∧ Rowed wr w.heap.size 59 (Z.map eB).toArray ∧ Below w.heap.size w wr ∧ Tab wr) (fun i _ => 3 - (intOf i).toNat)
  case atStart => exact ⟨0, Nat.zero_le _, rfl, hr2, hr1, hA2, hT2⟩
  case round =>
   clear hr2 hr1 hA2 hT2
   obtain ⟨j, hj, rfl, h2, h1, hB, hT⟩ := hrel
   by_cases hlt : j < 3
   · have dj : decide ((j : Int) < 3) = true := decide_eq_true (by omega)
     have hset := h2.set j (eB (letterOf (if j < k then (j : Int) else (j : Int) + 1)))
     rw [oRow_set k j hlt] at hset
     have ck : wr.cell? ⟨g, j, none⟩ = some (eB ((oRow k j)[j]'(by rw [oRow_length]; exact hlt))) := by rw [h2.cell j, row_get, List.getElem?_eq_getElem (by rw [oRow_length]; exact hlt)]; rfl
     have fk := h2.frozen j
     have hoth := h1.other g j (eB (letterOf (if j < k then (j : Int) else (j : Int) + 1))) (by omega)
     have hBs := hB.setCell (p := ⟨g, j, none⟩) (by show w.heap.size ≤ g; omega) (eB (letterOf (if j < k then (j : Int) else (j : Int) + 1)))
     have hTs : Tab (wr.setCell ⟨g, j, none⟩ (eB (letterOf (if j < k then (j : Int) else (j : Int) + 1)))) := hT.set g j _ (by omega)
     generalize (oRow k j)[j]'(by rw [oRow_length]; exact hlt) = old at *
     by_cases hjk : j < k
     · have djk : decide ((j : Int) < (k : Int)) = true := decide_eq_true (by omega)
       rw [if_pos hjk] at hset hoth hBs hTs
       have hL := hLt (j : Int) wr hT
       clear hLt hz h2 h1
       go_wp2_with (go_at_call 95; refine hL.mono ?_; rintro e w' ⟨rfl, rfl⟩)
       refine ⟨⟨j + 1, by omega, by go_num, hset, hoth, hBs, hTs⟩, ?_⟩
       simp [intOf]
       omega
     · have djk : decide ((j : Int) < (k : Int)) = false := decide_eq_false (by omega)
       rw [if_neg hjk] at hset hoth hBs hTs
       have hL := hLt ((j : Int) + 1) wr hT
       clear hLt hz h2 h1
       go_wp2_with (go_at_call 95; refine hL.mono ?_; rintro e w' ⟨rfl, rfl⟩)
       refine ⟨⟨j + 1, by omega, by go_num, hset, hoth, hBs, hTs⟩, ?_⟩
       simp [intOf]
       omega
   · obtain rfl : j = 3 := by omega
     have sO := size3 (oth k) (oRow_length k 3)
     have zO : (Z.map eB).toArray.size = ((oth k).map eB).toArray.size := by simp [hZl, oth, oRow_length]
     have oO := one_map (oth k)
     have h2' : Row8 wr g 59 (oth k) := h2
     have hput := Row8.put h1 (oth k)
     have hBf := below_setRow hB w.heap.size ((oth k).map eB).toArray (Nat.le_refl _)
     clear h2
     generalize hO : oth k = O at *
     have HO := Lib.hid hO
     clear hO
     go_wp2_with (first
      | (refine wpList_load_row rfl 59 (.tmp 5) rfl g rfl _ (O.map eB).toArray _ _ h2' Tryd.underlying59 rfl sO ?_)
      | (refine wpList_store_row rfl 59 (.tmp 2) (.tmp 30) rfl w.heap.size (O.map eB).toArray rfl rfl _ _ h1 sO zO oO ?_))
     refine bodyPost_ret (v := aB O) (results_cell_row rfl _ _ w.heap.size _ _ _ _ rfl hput Tryd.underlying59 rfl sO) rfl ⟨by rw [HO.out], hBf⟩
end Go.Proofs.YtjclfkbhakjdaaaDoor.Tu
namespace Go.Proofs.YtjclfkbhakjdaaaDoor.Tu
open Go.RowKit Go.Shelf
attribute [local go_sem] Oper.semAt_some run_store_func
def behG (a t : UInt8) : Except Int UInt8 := if codeOf a.toNat = -1 then .error 10 else if 3 ≤ t.toNat then .error 2 else .ok (((oth (codeOf a.toNat).toNat)[t.toNat]?).getD 0)
def triG (a c : UInt8) : Except Int UInt8 :=
 if codeOf a.toNat = -1 then .error 10 else if codeOf c.toNat = -1 then .error 10 else
   match (oth (codeOf a.toNat).toNat).idxOf? c with
   | some n => .ok (UInt8.ofNat n)
   | none => .error 90
set_option maxRecDepth 100000 in
theorem others_no (a : UInt8) (hk : codeOf a.toNat = -1) (w : World) (hT : Tab w) :
    Calls Tryd.prog 73 #[eB a] w fun e w' => e = .panicked (errno 10) ∧ Below w.heap.size w w' := by
  obtain ⟨hz, hsz⟩ := zero_of_info info3
  have hc0 := cells_aB [0, 0, 0]
  obtain ⟨Z, hZ⟩ : ∃ Z : List UInt8, [0, 0, 0] = Z := ⟨_, rfl⟩
  rw [hZ] at hz hc0
  clear hZ
  have hC := fun w hT => Code_no a.toNat w hT hk
  have hA := below_alloc w (.cells (Z.map eB).toArray 59)
  have hT1 := hT.below hA
  clear hk
  go_enter Tryd.func73, Tryd.ntmps73
  go_wp2_with fail
  generalize w.alloc (.cells (Z.map eB).toArray 59) = w1 at *
  go_at_call 93
  refine (hC _ hT1).mono ?_
  rintro e w' ⟨rfl, rfl⟩
  go_wp2_with fail
  go_at_call 94
  refine (told_no 10 (by omega) _).mono ?_
  rintro e w' ⟨rfl, rfl⟩
  exact ⟨rfl, rfl, hA⟩
set_option maxRecDepth 100000 in
set_option maxHeartbeats 2000000 in
theorem behind_any (a t : UInt8) (w : World) (hT : Tab w) :
    Calls Tryd.prog 75 #[eB a, eB t] w fun e w' => Below w.heap.size w w' ∧ ((∃ c, behG a t = .ok c ∧ e = .returned (eB c)) ∨ ∃ n, behG a t = .error n ∧ e = .panicked (errno n)) := by
  by_cases hk : codeOf a.toNat = -1
  · have hb : behG a t = .error 10 := by rw [behG, if_pos hk]
    rw [hb]
    have hO := others_no a hk w hT
    clear hk hb
    go_enter Tryd.func75, Tryd.ntmps75
    go_wp2_with fail
    go_at_call 73
    refine hO.mono ?_
    rintro e w' ⟨rfl, hB⟩
    exact ⟨rfl, hB, .inr ⟨10, rfl, rfl⟩⟩
  · obtain ⟨k, hkk⟩ : ∃ k : Nat, codeOf a.toNat = (k : Int) := ⟨(codeOf a.toNat).toNat, by have := codeOf_range a.toNat; omega⟩
    have hO := others_yes a k hkk w hT
    have hol : (oth k).length = 3 := oRow_length k 3
    obtain ⟨hz, hsz⟩ := zero_of_info info3
    have hc0 := cells_aB [0, 0, 0]
    obtain ⟨Z, hZ⟩ : ∃ Z : List UInt8, [0, 0, 0] = Z := ⟨_, rfl⟩
    have hZl : Z.length = 3 := by rw [← hZ]; rfl
    rw [hZ] at hz hc0
    clear hZ
    have ht8 := t.toNat_lt
    have hconv : IntKind.i64.wrap (t.toNat : Int) = (t.toNat : Int) := IntWalk.i64_in _ (by omega)
    by_cases h3 : 3 ≤ t.toNat
    · have hb : behG a t = .error 2 := by rw [behG, if_neg hk, if_pos h3]
      rw [hb]
      have d3 : decide ((3 : Int) ≤ (t.toNat : Int)) = true := decide_eq_true (by omega)
      have sO := size3 (oth k) hol
      have zO : (Z.map eB).toArray.size = ((oth k).map eB).toArray.size := by simp [hZl, hol]
      have oO := one_map (oth k)
      clear hk hb hkk h3 hol
      generalize oth k = O at *
      go_enter Tryd.func75, Tryd.ntmps75
      go_wp2_with fail
      go_at_call 73
      refine hO.mono ?_
      rintro e w1 ⟨rfl, hB⟩
      have hr := Rowed.new w1 59 (Z.map eB).toArray
      have hB2 := below_setRow (hB.alloc hB.size (.cells (Z.map eB).toArray 59)) w1.heap.size (O.map eB).toArray hB.size
      clear hO
      go_wp2_with (refine wpList_store_row rfl 59 (.tmp 5) (.tmp 7) rfl w1.heap.size (O.map eB).toArray rfl rfl _ _ hr sO zO oO ?_)
      exact ⟨rfl, hB2, .inr ⟨2, rfl, rfl⟩⟩
    · have hb : behG a t = .ok ((oth k)[t.toNat]'(by omega)) := by
        rw [behG, if_neg hk, if_neg h3, hkk, Int.toNat_natCast, List.getElem?_eq_getElem (by omega)]; rfl
      have d3 : decide ((3 : Int) ≤ (t.toNat : Int)) = false := decide_eq_false (by omega)
      have sO := size3 (oth k) hol
      have zO : (Z.map eB).toArray.size = ((oth k).map eB).toArray.size := by simp [hZl, hol]
      have oO := one_map (oth k)
      have i3 : (t.toNat : Int) < 3 := by omega
      rw [hb]
      clear hk hb hkk
      have hrg : ((oth k).map eB).toArray[t.toNat]? = some (eB ((oth k)[t.toNat]'(by omega))) := by rw [row_get, List.getElem?_eq_getElem (by omega)]; rfl
      generalize (oth k)[t.toNat]'(by omega) = c at *
      generalize oth k = O at *
      clear hol
      go_enter Tryd.func75, Tryd.ntmps75
      go_wp2_with fail
      go_at_call 73
      refine hO.mono ?_
      rintro e w1 ⟨rfl, hB⟩
      have hr := Rowed.new w1 59 (Z.map eB).toArray
      have hB2 := below_setRow (hB.alloc hB.size (.cells (Z.map eB).toArray 59)) w1.heap.size (O.map eB).toArray hB.size
      have hr2 := Row8.put hr O
      have ck : ((w1.alloc (.cells (Z.map eB).toArray 59)).setRow w1.heap.size (O.map eB).toArray).cell? ⟨w1.heap.size, t.toNat, none⟩ = some (eB c) := by rw [hr2.cell, hrg]
      clear hO hrg hr2
      go_wp2_with (refine wpList_store_row rfl 59 (.tmp 5) (.tmp 7) rfl w1.heap.size (O.map eB).toArray rfl rfl _ _ hr sO zO oO ?_)
      go_ret
      exact ⟨hB2, .inl ⟨c, rfl, rfl⟩⟩
set_option maxRecDepth 100000 in
set_option maxHeartbeats 2000000 in
theorem trit_any (a c : UInt8) (w : World) (hT : Tab w) :
    Calls Tryd.prog 99 #[eB a, eB c] w fun e w' => Below w.heap.size w w' ∧ ((∃ t, triG a c = .ok t ∧ e = .returned (eB t)) ∨ ∃ n, triG a c = .error n ∧ e = .panicked (errno n)) := by
  by_cases hk : codeOf a.toNat = -1
  · have hb : triG a c = .error 10 := by rw [triG, if_pos hk]
    rw [hb]
    have hO := others_no a hk w hT
    clear hk hb
    go_enter Tryd.func99, Tryd.ntmps99
    go_wp2_with fail
    go_at_call 73
    refine hO.mono ?_
    rintro e w' ⟨rfl, hB⟩
    exact ⟨rfl, hB, .inr ⟨10, rfl, rfl⟩⟩
  · obtain ⟨k, hkk⟩ : ∃ k : Nat, codeOf a.toNat = (k : Int) := ⟨(codeOf a.toNat).toNat, by have := codeOf_range a.toNat; omega⟩
    have hO := others_yes a k hkk w hT
    have hol : (oth k).length = 3 := oRow_length k 3
    obtain ⟨hz, hsz⟩ := zero_of_info info3
    have hc0 := cells_aB [0, 0, 0]
    obtain ⟨Z, hZ⟩ : ∃ Z : List UInt8, [0, 0, 0] = Z := ⟨_, rfl⟩
    have hZl : Z.length = 3 := by rw [← hZ]; rfl
    rw [hZ] at hz hc0
    clear hZ
    have sO := size3 (oth k) hol
    have zO : (Z.map eB).toArray.size = ((oth k).map eB).toArray.size := by simp [hZl, hol]
    have oO := one_map (oth k)
    by_cases hkc : codeOf c.toNat = -1
    · have hb : triG a c = .error 10 := by rw [triG, if_neg hk, if_pos hkc]
      rw [hb]
      have hC := fun w hT => Code_no c.toNat w hT hkc
      clear hk hb hkk hol hkc
      generalize oth k = O at *
      go_enter Tryd.func99, Tryd.ntmps99
      go_wp2_with fail
      go_at_call 73
      refine hO.mono ?_
      rintro e w1 ⟨rfl, hB⟩
      have hr := Rowed.new w1 59 (Z.map eB).toArray
      have hB2 := below_setRow (hB.alloc hB.size (.cells (Z.map eB).toArray 59)) w1.heap.size (O.map eB).toArray hB.size
      have hT2 := hT.below hB2
      clear hO
      go_wp2_with (refine wpList_store_row rfl 59 (.tmp 5) (.tmp 11) rfl w1.heap.size (O.map eB).toArray rfl rfl _ _ hr sO zO oO ?_)
      generalize (w1.alloc (.cells (Z.map eB).toArray 59)).setRow w1.heap.size (O.map eB).toArray = w2 at *
      go_at_call 93
      refine (hC _ hT2).mono ?_
      rintro e w' ⟨rfl, rfl⟩
      go_wp2_with fail
      go_at_call 94
      refine (told_no 10 (by omega) _).mono ?_
      rintro e w' ⟨rfl, rfl⟩
      exact ⟨rfl, hB2, .inr ⟨10, rfl, rfl⟩⟩
    · have hb : triG a c = match (oth k).idxOf? c with | some n => .ok (UInt8.ofNat n) | none => .error 90 := by
        rw [triG, if_neg hk, if_neg hkc, hkk, Int.toNat_natCast]
      have hC := fun w hT => Code_yes c.toNat w hT hkc
      generalize codeOf c.toNat = kc at *
      clear hk hkk hkc
      generalize oth k = O at *
      have hix := fun n hn => run_index_arr (P := Tryd.prog) 59 3 5 .u8 Tryd.underlying59 Tryd.underlying5 size1 O n hol hn
      go_enter Tryd.func99, Tryd.ntmps99
      go_wp2_with fail
      go_at_call 73
      refine hO.mono ?_
      rintro e w1 ⟨rfl, hB⟩
      have hr := Rowed.new w1 59 (Z.map eB).toArray
      have hB2 := below_setRow (hB.alloc hB.size (.cells (Z.map eB).toArray 59)) w1.heap.size (O.map eB).toArray hB.size
      have hT2 := hT.below hB2
      have hr2 := Row8.put hr O
      clear hO
      go_wp2_with (refine wpList_store_row rfl 59 (.tmp 5) (.tmp 11) rfl w1.heap.size (O.map eB).toArray rfl rfl _ _ hr sO zO oO ?_)
      generalize (w1.alloc (.cells (Z.map eB).toArray 59)).setRow w1.heap.size (O.map eB).toArray = w2 at *
      generalize w1.heap.size = g at *
      go_at_call 93
      refine (hC _ hT2).mono ?_
      rintro e w' ⟨rfl, rfl⟩
      clear hC hr
      go_wp2_with (first
       | (go_at_call 94; refine (told_ok _).mono ?_; rintro e w' ⟨rfl, rfl⟩)
       | (refine wpList_load_row rfl 59 (.tmp 5) rfl g rfl _ (O.map eB).toArray _ _ hr2 Tryd.underlying59 rfl sO ?_))
      go_loop [20] (fun i => ∃ j : Nat, j ≤ 3 ∧ i = .int .i64 j ∧ ∀ n (hn : n < O.length), n < j → O[n] ≠ c) (fun i => 3 - (intOf i).toNat)
      case atStart => exact ⟨0, Nat.zero_le _, rfl, fun n _ h => absurd h (by omega)⟩
      case round =>
       obtain ⟨j, hj, rfl, hno⟩ := hrel
       by_cases hlt : j < 3
       · have dj : decide ((j : Int) < 3) = true := decide_eq_true (by omega)
         have hj3 : j < O.length := by omega
         have hij := hix j hj3
         by_cases hoc : O[j] = c
         · have hidx : O.idxOf? c = some j := by
             rw [List.idxOf?, List.findIdx?_eq_some_iff_getElem]
             exact ⟨hj3, by simpa using hoc, fun n hn => by simpa using hno n (by omega) hn⟩
           have hbb : triG a c = .ok (UInt8.ofNat j) := by rw [hb, hidx]
           have hcj : IntKind.u8.wrap (j : Int) = ((UInt8.ofNat j).toNat : Int) := by
            rw [IntWalk.u8_in _ (by omega)]
            simp
            omega
           have Hb := Lib.hid hbb
           rw [hoc] at hij
           have hbc : (((c.toNat : Int)) == (c.toNat : Int)) = true := by simp
           clear hb hbb hidx hno hoc hix
           go_wp2_with fail
           go_ret
           exact ⟨hB2, .inl ⟨_, Hb.out, rfl⟩⟩
         · have hbc : (((O[j].toNat : Int)) == (c.toNat : Int)) = false := by
             rw [beq_eq_false_iff_ne]
             intro h
             exact hoc (UInt8.toNat_inj.1 (by omega))
           have Hno := Lib.hid (show ∀ n (hn : n < O.length), n < j + 1 → O[n] ≠ c from fun n hn h => by
            by_cases e : n = j
            · subst e; exact hoc
            · exact hno n hn (by omega))
           clear hb hno hoc hix
           go_wp2_with fail
           go_round
           case rel => exact ⟨j + 1, by omega, by go_num, Hno.out⟩
           case measure => simp [intOf]; omega
       · obtain rfl : j = 3 := by omega
         have hidx : O.idxOf? c = none := by
          rw [List.idxOf?, List.findIdx?_eq_none_iff]
          intro x hx
          obtain ⟨n, hn, rfl⟩ := List.mem_iff_getElem.1 hx
          simpa using hno n hn (by omega)
         have hbb : triG a c = .error 90 := by rw [hb, hidx]
         have Hb := Lib.hid hbb
         clear hb hbb hidx hno hix
         go_wp2_with fail
         exact ⟨rfl, hB2, .inr ⟨90, Hb.out, rfl⟩⟩
end Go.Proofs.YtjclfkbhakjdaaaDoor.Tu
