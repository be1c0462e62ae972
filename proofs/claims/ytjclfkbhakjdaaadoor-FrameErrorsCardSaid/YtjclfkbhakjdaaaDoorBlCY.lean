import Derived.Test.YtjclfkbhakjdaaaDoorRows
import Derived.Test.YtjclfkbhakjdaaaDoorRPY
namespace Go.Proofs.YtjclfkbhakjdaaaDoor.Bl
open Go.RowKit Go.Shelf
attribute [local go_sem] Oper.semAt_some
def Tab (w : World) : Prop :=
 w.cell? ⟨3, 0, none⟩ = some (.int .u8 65) ∧ w.cell? ⟨3, 1, none⟩ = some (.int .u8 67) ∧ w.cell? ⟨3, 2, none⟩ = some (.int .u8 71) ∧ w.cell? ⟨3, 3, none⟩ = some (.int .u8 84)
theorem Tab.lt {w : World} (h : Tab w) : 3 < w.heap.size := World.block_lt_of_cell? w ⟨3, 0, none⟩ h.1
theorem Tab.below {w w' : World} (h : Tab w) (hb : Below w.heap.size w w') : Tab w' :=
 ⟨(hb.cell (p := ⟨3, 0, none⟩) h.lt).trans h.1, (hb.cell (p := ⟨3, 1, none⟩) h.lt).trans h.2.1, (hb.cell (p := ⟨3, 2, none⟩) h.lt).trans h.2.2.1, (hb.cell (p := ⟨3, 3, none⟩) h.lt).trans h.2.2.2⟩
theorem Tab.below' {B : Nat} {w w' : World} (h : Tab w) (hb : Below B w w') (hB : 3 < B) : Tab w' :=
 ⟨(hb.cell (p := ⟨3, 0, none⟩) hB).trans h.1, (hb.cell (p := ⟨3, 1, none⟩) hB).trans h.2.1, (hb.cell (p := ⟨3, 2, none⟩) hB).trans h.2.2.1, (hb.cell (p := ⟨3, 3, none⟩) hB).trans h.2.2.2⟩
def codeOf (c : Nat) : Int := if c = 65 then 0 else if c = 67 then 1 else if c = 71 then 2 else if c = 84 then 3 else -1
theorem codeOf_range (c : Nat) : -1 ≤ codeOf c ∧ codeOf c ≤ 3 := by
 unfold codeOf
 repeat' split
 all_goals omega
set_option maxRecDepth 100000 in
set_option maxHeartbeats 400000 in
theorem code_any (c : Nat) (w : World) (hT : Tab w) :
    Calls Tryd.prog 100 #[.int .u8 c] w fun e w' => e = .returned (.int .i64 (codeOf c)) ∧ w = w' := by
  obtain ⟨h0, h1, h2, h3⟩ := hT
  go_enter Tryd.func100, Tryd.ntmps100
  go_wp2
  have i0 : ∀ w, (Instr.index 107 (.agg #[.int .u8 65, .int .u8 67, .int .u8 71, .int .u8 84]) (.int .i64 0)).run Tryd.prog w = .ok (.int .u8 65) w := fun _ => by kernel_rfl
  have i1 : ∀ w, (Instr.index 107 (.agg #[.int .u8 65, .int .u8 67, .int .u8 71, .int .u8 84]) (.int .i64 1)).run Tryd.prog w = .ok (.int .u8 67) w := fun _ => by kernel_rfl
  have i2 : ∀ w, (Instr.index 107 (.agg #[.int .u8 65, .int .u8 67, .int .u8 71, .int .u8 84]) (.int .i64 2)).run Tryd.prog w = .ok (.int .u8 71) w := fun _ => by kernel_rfl
  have i3 : ∀ w, (Instr.index 107 (.agg #[.int .u8 65, .int .u8 67, .int .u8 71, .int .u8 84]) (.int .i64 3)).run Tryd.prog w = .ok (.int .u8 84) w := fun _ => by kernel_rfl
  refine wp_loop_rounds 5 ?_
  rw [rounds_succ]
  go_wp2
  · have h : ((65 : Int) == c) = true := by assumption
    go_ret
    exact ⟨by have : c = 65 := by have := beq_iff_eq.1 h; omega
              subst this; rfl, rfl⟩
  rw [rounds_succ]
  go_wp2
  · have h : ((67 : Int) == c) = true := by assumption
    go_ret
    exact ⟨by have : c = 67 := by have := beq_iff_eq.1 h; omega
              subst this; rfl, rfl⟩
  rw [rounds_succ]
  go_wp2
  · have h : ((71 : Int) == c) = true := by assumption
    go_ret
    exact ⟨by have : c = 71 := by have := beq_iff_eq.1 h; omega
              subst this; rfl, rfl⟩
  rw [rounds_succ]
  go_wp2
  · have h : ((84 : Int) == c) = true := by assumption
    go_ret
    exact ⟨by have : c = 84 := by have := beq_iff_eq.1 h; omega
              subst this; rfl, rfl⟩
  rw [rounds_succ]
  go_wp2
  have g0 : ((65 : Int) == c) = false := by assumption
  have g1 : ((67 : Int) == c) = false := by assumption
  have g2 : ((71 : Int) == c) = false := by assumption
  have g3 : ((84 : Int) == c) = false := by assumption
  go_ret
  refine ⟨?_, rfl⟩
  have e0 : ¬ c = 65 := fun e => by subst e; simp at g0
  have e1 : ¬ c = 67 := fun e => by subst e; simp at g1
  have e2 : ¬ c = 71 := fun e => by subst e; simp at g2
  have e3 : ¬ c = 84 := fun e => by subst e; simp at g3
  simp [codeOf, e0, e1, e2, e3]
set_option maxRecDepth 100000 in
set_option maxHeartbeats 400000 in
theorem Code_yes (c : Nat) (w : World) (hT : Tab w) (h : codeOf c ≠ -1) :
    Calls Tryd.prog 93 #[.int .u8 c] w fun e w' => e = .returned (.tuple #[.int .i64 (codeOf c), .int .i64 0]) ∧ w = w' := by
  have hb : (codeOf c == -1) = false := by simpa using h
  go_enter Tryd.func93, Tryd.ntmps93
  go_wp2_with (go_at_call 100; refine (code_any c _ hT).mono ?_; rintro e w' ⟨rfl, rfl⟩)
  go_ret2
  exact ⟨rfl, rfl⟩
set_option maxRecDepth 100000 in
set_option maxHeartbeats 400000 in
theorem Code_no (c : Nat) (w : World) (hT : Tab w) (h : codeOf c = -1) :
    Calls Tryd.prog 93 #[.int .u8 c] w fun e w' => e = .returned (.tuple #[.int .i64 0, .int .i64 10]) ∧ w = w' := by
  have hb : (codeOf c == -1) = true := by simpa using h
  clear h
  go_enter Tryd.func93, Tryd.ntmps93
  go_wp2_with (go_at_call 100; refine (code_any c _ hT).mono ?_; rintro e w' ⟨rfl, rfl⟩)
  go_ret2
  exact ⟨rfl, rfl⟩
def codesOf (bs : List UInt8) : List Int := bs.map fun b => codeOf b.toNat
end Go.Proofs.YtjclfkbhakjdaaaDoor.Bl
namespace Go.Proofs.YtjclfkbhakjdaaaDoor.Bl
open Go.RowKit Go.Shelf
attribute [local go_sem] Oper.semAt_some
theorem beq_dec (a b : List UInt8) : (a == b) = decide (a = b) := by by_cases h : a = b <;> simp [h]
theorem info_u8 : (Tryd.prog.info? 5).map (fun i => (i.zero, i.size, i.bytes)) = some (some (.int .u8 0), 1, 1) := by kernel_rfl
def gcOf (bs : List UInt8) : Nat := bs.countP fun b => b == 67 || b == 71
theorem gcOf_le (bs : List UInt8) : gcOf bs ≤ bs.length := List.countP_le_length
theorem gcOf_snoc (bs : List UInt8) (k : Nat) (h : k < bs.length) : gcOf (bs.take (k + 1)) = gcOf (bs.take k) + if bs[k] == 67 || bs[k] == 71 then 1 else 0 := by
 rw [List.take_succ_eq_append_getElem h, gcOf, gcOf, List.countP_append]
 simp [List.countP_cons]
set_option maxRecDepth 100000 in
set_option maxHeartbeats 400000 in
theorem Gc_any (sv : Value) (bs : List UInt8) (hreach : bs.length ≤ 140737488351232) (B : Nat) (w : World) (hS : Sl eB B w sv bs) :
    Calls Tryd.prog 102 #[sv] w fun e w' => e = .returned (.int .i64 (gcOf bs)) ∧ w = w' := by
  obtain ⟨A, cap, rfl, hcap, hcs⟩ := hS
  go_enter Tryd.func102, Tryd.ntmps102
  go_wp2
  go_loop [3, 8] (fun g i => ∃ k : Nat, k ≤ bs.length ∧ i = .int .i64 k ∧ g = .int .i64 (gcOf (bs.take k))) (fun _ i => bs.length - (intOf i).toNat)
  case atStart => exact ⟨0, Nat.zero_le _, rfl, rfl⟩
  case round =>
   obtain ⟨k, hk, rfl, rfl⟩ := hrel
   by_cases hlt : k < bs.length
   · obtain ⟨b, off, rfl, hb, hcell⟩ := hcs (by omega)
     have hcx : w.cell? ⟨b, off + k, none⟩ = some (eB bs[k]) := hcell k _ (by simp [hlt])
     have hg := gcOf_le (bs.take k)
     have hg2 : gcOf (bs.take k) ≤ k := by rw [List.length_take] at hg; omega
     have H := Lib.hid (gcOf_snoc bs k hlt)
     clear hcell hcs hg
     generalize hx : bs[k] = x at *
     have Hx := Lib.hid hx
     clear hx
     by_cases h1 : x = 67
     · have e1 : ((x.toNat : Int) == 67) = true := by subst h1; rfl
       have Hh := Lib.hid h1
       clear h1
       go_wp2
       go_round
       case rel => exact ⟨k + 1, by omega, by go_num, by rw [H.out, Hh.out]; go_num⟩
       case measure => simp [intOf]; omega
     · have e1 : ((x.toNat : Int) == 67) = false := by
         rw [beq_eq_false_iff_ne]; intro e; apply h1; apply UInt8.toNat_inj.1; simp; omega
       by_cases h2 : x = 71
       · have e2 : ((x.toNat : Int) == 71) = true := by subst h2; rfl
         have Hh := Lib.hid h2
         clear h1 h2
         go_wp2
         go_round
         case rel => exact ⟨k + 1, by omega, by go_num, by rw [H.out, Hh.out]; go_num⟩
         case measure => simp [intOf]; omega
       · have e2 : ((x.toNat : Int) == 71) = false := by
           rw [beq_eq_false_iff_ne]; intro e; apply h2; apply UInt8.toNat_inj.1; simp; omega
         have Hh1 := Lib.hid h1
         have Hh2 := Lib.hid h2
         clear h1 h2
         go_wp2
         go_round
         case rel => exact ⟨k + 1, by omega, by go_num, by rw [H.out]; simp [Hh1.out, Hh2.out]⟩
         case measure => simp [intOf]; omega
   · obtain rfl : k = bs.length := by omega
     go_wp2
     go_ret
     exact ⟨rfl, rfl⟩
end Go.Proofs.YtjclfkbhakjdaaaDoor.Bl
namespace Go.Proofs.YtjclfkbhakjdaaaDoor.Bl
open Go.RowKit Go.Shelf
attribute [local go_sem] Oper.semAt_some run_store_func
def TabO (w : World) : Prop :=
 w.cell? ⟨2, 0, none⟩ = some (.int .u8 67) ∧ w.cell? ⟨2, 1, none⟩ = some (.int .u8 65) ∧ w.cell? ⟨2, 2, none⟩ = some (.int .u8 84) ∧ w.cell? ⟨2, 3, none⟩ = some (.int .u8 71)
theorem TabO.lt {w : World} (h : TabO w) : 2 < w.heap.size := World.block_lt_of_cell? w ⟨2, 0, none⟩ h.1
theorem TabO.below {w w' : World} (h : TabO w) (hb : Below w.heap.size w w') : TabO w' :=
 ⟨(hb.cell (p := ⟨2, 0, none⟩) h.lt).trans h.1, (hb.cell (p := ⟨2, 1, none⟩) h.lt).trans h.2.1, (hb.cell (p := ⟨2, 2, none⟩) h.lt).trans h.2.2.1, (hb.cell (p := ⟨2, 3, none⟩) h.lt).trans h.2.2.2⟩
def flipB (c : UInt8) : UInt8 := if c = 65 then 67 else if c = 67 then 65 else if c = 71 then 84 else if c = 84 then 71 else c
theorem code_some (c : UInt8) (h : codeOf c.toNat ≠ -1) : c = 65 ∨ c = 67 ∨ c = 71 ∨ c = 84 := by
 unfold codeOf at h
 by_cases h1 : c.toNat = 65
 · exact .inl (UInt8.toNat_inj.1 h1)
 · by_cases h2 : c.toNat = 67
   · exact .inr (.inl (UInt8.toNat_inj.1 h2))
   · by_cases h3 : c.toNat = 71
     · exact .inr (.inr (.inl (UInt8.toNat_inj.1 h3)))
     · by_cases h4 : c.toNat = 84
       · exact .inr (.inr (.inr (UInt8.toNat_inj.1 h4)))
       · simp [h1, h2, h3, h4] at h
theorem flipB_cell {w : World} (hO : TabO w) (c : UInt8) (h : codeOf c.toNat ≠ -1) : w.cell? ⟨2, (codeOf c.toNat).toNat, none⟩ = some (eB (flipB c)) := by
 obtain ⟨h0, h1, h2, h3⟩ := hO
 rcases code_some c h with rfl | rfl | rfl | rfl
 · exact h0
 · exact h1
 · exact h2
 · exact h3
def flipAt (k : Int) (c : UInt8) (i : Nat) : UInt8 := if (i : Int) < k then flipB c else c
def flipOf (bs : List UInt8) (k : Int) : List UInt8 := bs.zipIdx.map fun y => flipAt k y.1 y.2
theorem flipOf_length (bs : List UInt8) (k : Int) : (flipOf bs k).length = bs.length := by simp [flipOf]
theorem flipOf_get (bs : List UInt8) (k : Int) (i : Nat) (h : i < bs.length) : (flipOf bs k)[i]? = some (flipAt k bs[i] i) := by simp [flipOf, h]
def flCells (bs : List UInt8) (k : Int) (j : Nat) : Array Value := ((List.range bs.length).map fun i => if i < j then eB (flipAt k (bs[i]?.getD 0) i) else .int .u8 0).toArray
theorem flCells_size (bs : List UInt8) (k : Int) (j : Nat) : (flCells bs k j).size = bs.length := by simp [flCells]
theorem flCells_set (bs : List UInt8) (k : Int) (j : Nat) (h : j < bs.length) : (flCells bs k j).setIfInBounds j (eB (flipAt k bs[j] j)) = flCells bs k (j + 1) := by
 apply Array.ext
 · simp [flCells]
 · intro i h1 h2
   simp only [flCells_size] at h2
   rw [Array.getElem_setIfInBounds (by simpa [flCells_size] using h2)]
   simp only [flCells, List.getElem_toArray, List.getElem_map, List.getElem_range]
   by_cases hj : j = i
   · subst hj; simp [h]
   · rw [if_neg hj]
     by_cases h3 : i < j
     · rw [if_pos h3, if_pos (by omega)]
     · rw [if_neg h3, if_neg (by omega)]
theorem set_set (cs : Array Value) (j : Nat) (u v : Value) : (cs.setIfInBounds j u).setIfInBounds j v = cs.setIfInBounds j v := by
 apply Array.ext
 · simp
 · intro i h1 h2
   simp only [Array.size_setIfInBounds] at h1
   by_cases hji : j = i
   · subst hji; simp
   · simp
def Fresh (B : Nat) (v : Value) : Prop := ∀ ad n c, v = .slice (some ad) n c → B ≤ ad.block
theorem Fresh.mono {B B' : Nat} {v : Value} (h : Fresh B' v) (hB : B ≤ B') : Fresh B v := fun ad n c e => Nat.le_trans hB (h ad n c e)
end Go.Proofs.YtjclfkbhakjdaaaDoor.Bl
namespace Go.Proofs.YtjclfkbhakjdaaaDoor
open Go.Proofs.YtjclfkbhakjdaaaDoor.Bl
open Go.RowKit Go.Shelf
attribute [local go_sem] Oper.semAt_some run_store_func
theorem Sl.other {α : Type} {enc : α → Value} {B B0 : Nat} {W : World} {v : Value} {xs : List α} (h : Sl enc B W v xs) (hf : Fresh B0 v) (b j : Nat) (u : Value) (hb : b < B0) : Sl enc B (W.setCell ⟨b, j, none⟩ u) v xs := by
 obtain ⟨A, cap, rfl, hcap, hc⟩ := h
 refine ⟨A, cap, rfl, hcap, fun hn => ?_⟩
 obtain ⟨g, off, rfl, hlt, hcell⟩ := hc hn
 have hg := hf _ _ _ rfl
 refine ⟨g, off, rfl, hlt, fun i x hx => ?_⟩
 rw [← hcell i x hx]
 exact World.cell?_of_block (a := ⟨g, off + i, none⟩) (Below.heap_setCell W ⟨b, j, none⟩ u g (by simp at hg ⊢; omega))
end Go.Proofs.YtjclfkbhakjdaaaDoor
namespace Go.Proofs.YtjclfkbhakjdaaaDoor.Bl
open Go.RowKit Go.Shelf
attribute [local go_sem] Oper.semAt_some run_store_func
set_option maxRecDepth 100000 in
set_option maxHeartbeats 4000000 in
theorem flipped_any (sv : Value) (bs : List UInt8) (k : Int) (hreach : bs.length ≤ 17592186044416) (B : Nat) (w : World) (hS : Sl eB B w sv bs) (hB : B ≤ w.heap.size) (hT : Tab w) (hO : TabO w) :
    Calls Tryd.prog 80 #[sv, .int .i64 k] w fun e W' => Below w.heap.size w W' ∧
      ((∃ v, e = .returned v ∧ (-1 : Int) ∉ codesOf bs ∧ Fresh w.heap.size v ∧ Sl eB W'.heap.size W' v (flipOf bs k)) ∨
       (e = .panicked [{ v := .iface 28 (.int .i64 10), recovered := false }] ∧ (-1 : Int) ∈ codesOf bs)) := by
  obtain ⟨i0, hi, hz0, hz1, hz2⟩ := info_parts info_u8
  have hS := hS.more hB
  obtain ⟨A, cap, rfl⟩ := hS.len
  have hmk : ∀ w, (Instr.makeSlice 24 (.int .i64 (bs.length : Int)) (.int .i64 (bs.length : Int))).run Tryd.prog w = .ok (.slice (some ⟨w.heap.size, 0, none⟩) bs.length bs.length) (w.alloc (.cells (flCells bs k 0) 5)) := by
   intro w
   have h1 := run_make w 24 5 i0 (.int .u8 0) Tryd.underlying24 hi hz0 .i64 .i64 (bs.length : Int) (bs.length : Int) (by omega) (by omega) (by rw [hz2]; omega) (by omega)
   have h2 : madeCells (Value.int .u8 0).cells ((bs.length : Int).toNat * i0.size) = flCells bs k 0 := by
    rw [hz1]
    apply Array.ext
    · simp [madeCells, flCells, Value.cells]
    · intro j _ _
      simp [madeCells, flCells, Value.cells, Nat.mod_one]
   rw [h2] at h1
   simpa using h1
  go_enter Tryd.func80, Tryd.ntmps80
  go_wp2_with fail
  obtain ⟨W0, hW0⟩ : ∃ W0, w.alloc (Obj.cells (flCells bs k 0) 5) = W0 := ⟨_, rfl⟩
  have hB0 : Below w.heap.size w W0 := by rw [← hW0]; exact (Below.refl _ w).alloc (Nat.le_refl _) _
  have b0 : Rowed W0 w.heap.size 5 (flCells bs k 0) := by rw [← hW0]; exact Rowed.new w _ _
  rw [hW0]
  clear hW0 hmk
  go_loopw [15] (fun i wr => ∃ j : Nat, j ≤ bs.length ∧ i = .int .i64 j ∧ Below w.heap.size w wr ∧ Rowed wr w.heap.size 5 (flCells bs k j) ∧ (-1 : Int) ∉ codesOf (bs.take j)) (fun i _ => bs.length - (intOf i).toNat)
  case atStart => exact ⟨0, Nat.zero_le _, rfl, hB0, b0, by simp [codesOf]⟩
  case round =>
   obtain ⟨j, hj, rfl, hBr, hr, hfine⟩ := hrel
   clear b0 hB0
   have hTr := hT.below hBr
   have hOr := hO.below hBr
   by_cases hlt : j < bs.length
   · obtain ⟨A', c', e', _, hcells⟩ := hS
     cases e'
     obtain ⟨b, off, rfl, hb, hcell⟩ := hcells (by omega)
     have hcx : wr.cell? ⟨b, off + j, none⟩ = some (eB bs[j]) := (hBr.cell (p := ⟨b, off + j, none⟩) hb).trans (hcell j _ (by simp [hlt]))
     have cg := hr.cell j
     rw [show (flCells bs k j)[j]? = some (.int .u8 0) by simp [flCells, hlt]] at cg
     have fg := hr.frozen j
     have Hset := Lib.hid (flCells_set bs k j hlt)
     have hsnoc : codesOf (bs.take (j + 1)) = codesOf (bs.take j) ++ [codeOf bs[j].toNat] := by
      rw [List.take_succ_eq_append_getElem hlt, codesOf, codesOf, List.map_append]; rfl
     have Hsnoc := Lib.hid hsnoc
     have Hin := Lib.hid (show codeOf bs[j].toNat ∈ codesOf bs from List.mem_map_of_mem (f := fun b : UInt8 => codeOf b.toNat) (List.getElem_mem hlt))
     clear hsnoc hcells hcell
     generalize bs[j] = x at *
     by_cases hcode : codeOf x.toNat = -1
     · go_wp2_with (go_at_call 93; refine (Code_no x.toNat _ hTr hcode).mono ?_; rintro e w' ⟨rfl, rfl⟩)
       have hin := Hin.out
       rw [hcode] at hin
       exact ⟨rfl, hBr, .inr ⟨rfl, hin⟩⟩
     · have hfl := flipB_cell hOr x hcode
       have hrg := codeOf_range x.toNat
       have hn0 : (0 : Int) ≤ codeOf x.toNat := by omega
       have hn4 : codeOf x.toNat < 4 := by omega
       have hne0 : (codeOf x.toNat == -1) = false := by simpa using hcode
       have hcy := fun w' hT' => Code_yes x.toNat w' hT' hcode
       have Hfine := Lib.hid (show (-1 : Int) ∉ codesOf (bs.take (j + 1)) by
        rw [Hsnoc.out]
        simp only [List.mem_append, List.mem_singleton]
        exact fun h => h.elim hfine (fun e => hcode e.symm))
       clear hcode
       have hr1 := hr.set j (eB x)
       have cg1 := hr1.cell j
       rw [show ((flCells bs k j).setIfInBounds j (eB x))[j]? = some (eB x) by rw [Array.getElem?_setIfInBounds_self_of_lt (by rw [flCells_size]; exact hlt)]] at cg1
       have fg1 := hr1.frozen j
       have hB1 : Below w.heap.size w (wr.setCell ⟨w.heap.size, j, none⟩ (eB x)) := hBr.setCell (p := ⟨w.heap.size, j, none⟩) (Nat.le_refl _) _
       have hfl1 := flipB_cell (hO.below hB1) x (by omega)
       by_cases hjk : (j : Int) < k
       · have hd : decide ((j : Int) < k) = true := decide_eq_true hjk
         have hr2 := hr1.set j (eB (flipB x))
         rw [set_set] at hr2
         have Hat := Lib.hid (show flipAt k x j = flipB x by simp [flipAt, hjk])
         clear hjk
         go_wp2_with (go_at_call 93; refine (hcy _ hTr).mono ?_; rintro e w' ⟨rfl, rfl⟩)
         refine ⟨⟨j + 1, by omega, by go_num, hB1.setCell (p := ⟨w.heap.size, j, none⟩) (Nat.le_refl _) (eB (flipB x)), ?_, Hfine.out⟩, by simp [intOf]; omega⟩
         rw [← Hset.out, Hat.out]
         exact hr2
       · have hd : decide ((j : Int) < k) = false := decide_eq_false hjk
         have Hat := Lib.hid (show flipAt k x j = x by simp [flipAt, hjk])
         clear hjk
         go_wp2_with (go_at_call 93; refine (hcy _ hTr).mono ?_; rintro e w' ⟨rfl, rfl⟩)
         refine ⟨⟨j + 1, by omega, by go_num, hB1, ?_, Hfine.out⟩, by simp [intOf]; omega⟩
         rw [← Hset.out, Hat.out]
         exact hr1
   · obtain rfl : j = bs.length := by omega
     go_wp2
     go_ret
     refine ⟨hBr, .inl ⟨.slice (some ⟨w.heap.size, 0, none⟩) bs.length bs.length, rfl, by rwa [List.take_of_length_le (Nat.le_refl _)] at hfine, fun ad n c e => by cases e; exact Nat.le_refl _, ?_⟩⟩
     refine ⟨some ⟨w.heap.size, 0, none⟩, bs.length, by rw [flipOf_length], by rw [flipOf_length]; exact Nat.le_refl _, fun _ => ⟨w.heap.size, 0, rfl, hr.lt, fun i y hy => ?_⟩⟩
     have hi' : i < bs.length := by have := (List.getElem?_eq_some_iff.1 hy).1; rwa [flipOf_length] at this
     rw [flipOf_get bs k i hi'] at hy
     cases hy
     rw [Nat.zero_add, hr.cell]
     simp [flCells, hi']
end Go.Proofs.YtjclfkbhakjdaaaDoor.Bl
