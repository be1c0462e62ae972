import Derived.Deep.RegionLaw
import Derived.Test.YtkibigbcdlilkaaGreatDoorSuGY
namespace Go.Proofs.YtkibigbcdlilkaaGreatDoor
open Go.RowKit Go.Shelf
attribute [local go_sem] Oper.semAt_some run_store_func
def bitsOf (x wd : Nat) : List UInt8 := (List.range wd).map fun i => UInt8.ofNat (x / 2 ^ (wd - 1 - i) % 2)
theorem bitsOf_length (x wd : Nat) : (bitsOf x wd).length = wd := by simp [bitsOf]
theorem bitsOf_snoc (x wd k : Nat) (h : k < wd) : (bitsOf x wd).take (k + 1) = (bitsOf x wd).take k ++ [UInt8.ofNat (x / 2 ^ (wd - 1 - k) % 2)] := by
 rw [List.take_succ_eq_append_getElem (by rw [bitsOf_length]; exact h)]
 simp [bitsOf]
def Grow (b : Nat) (W : World) (v : Value) (W' : World) (v' : Value) : Prop :=
 (W'.os = W.os ∧ W'.tape = W.tape ∧ W'.output = W.output ∧ W.heap.size ≤ W'.heap.size) ∧ (∀ k, k < W.heap.size → k ≠ b → some k ≠ v.ownBlock → W'.heap[k]? = W.heap[k]?) ∧ (∀ k, v'.ownBlock = some k → v.ownBlock = some k ∨ W.heap.size ≤ k)
theorem grow_r (b : Nat) (W : World) (v : Value) : Grow b W v W v := ⟨⟨rfl, rfl, rfl, Nat.le_refl _⟩, fun _ _ _ _ => rfl, fun _ h => .inl h⟩
theorem grow_t {b : Nat} {X Y Z : World} {u v z : Value} (h : Grow b X u Y v) (k : Grow b Y v Z z) : Grow b X u Z z := by
 obtain ⟨⟨h1, h2, h3, h4⟩, h5, h6⟩ := h
 obtain ⟨⟨k1, k2, k3, k4⟩, k5, k6⟩ := k
 refine ⟨⟨k1.trans h1, k2.trans h2, k3.trans h3, by omega⟩, fun i hi hb hv => ?_, fun i hi => ?_⟩
 · refine (k5 i (by omega) hb (fun e => ?_)).trans (h5 i hi hb hv)
   rcases h6 i e.symm with e' | e'
   · exact hv e'.symm
   · omega
 · rcases k6 i hi with e | e
   · exact h6 i e
   · exact .inr (by omega)
theorem grow_step {b : Nat} {W w1 : World} {v v' : Value} {o : Obj} {u : Value} (hg : (W.alloc o).grownBy w1 v.ownBlock) (hat : v'.ownBlock = v.ownBlock ∨ v'.ownBlock = some (W.alloc o).heap.size) : Grow b W v (w1.setCell ⟨b, 0, none⟩ u) v' := by
 refine ⟨⟨hg.os, hg.tape, hg.output, ?_⟩, fun k hk hb hv => ?_, fun k hk => ?_⟩
 · have := hg.size
   simp at this
   show W.heap.size ≤ (w1.setCell _ _).heap.size
   simp [World.setCell]
   omega
 · refine (Below.heap_setCell _ _ _ k hb).trans ((hg.block k (by simp; omega) hv).trans (Below.heap_alloc _ _ _ hk))
 · rcases hat with e | e
   · exact .inl (e ▸ hk)
   · rw [e] at hk
     simp at hk
     exact .inr (by omega)
theorem step_append_sl {α : Type} {enc : α → Value} {P : Program} (w : World) {ops : Array Oper} {o : Oper} {a : Act} {K : Act → World → Prop} {Q : Exit → Act → World → Prop} {E : Prop} (hgd : o.guard = none) (s x : Operand) (t : TypeId)
    (ho : o.op = .call { callee := .builtin .append, args := #[s, x], argTypes := #[t, t] })
    (base : Nat) (e : TypeId) (i : TypeInfo) (z : Value) (bytes : Nat) (ht : P.underlying t = some (.slice e)) (hi : P.info? e = some i) (hz : i.zero = some z)
    (hsize : i.size = 1) (hby : i.bytes = bytes) (hzs : z.cells.size = 1) (v : Value) (n : Nat) (ys : List Value) (hown : w.ownsRow base e 1 v n ys) (hv : a.eval s = v)
    (B : Nat) (sv : Value) (xs : List α) (hs : Sl enc B w sv xs) (hx : a.eval x = sv) (h1 : ∀ x, (enc x).oneCell' = true)
    (h63 : n + xs.length ≤ maxLen) (hbytes : (n + xs.length) * bytes ≤ 140737488355328) (hbase : base ≤ w.heap.size)
    (h : ∀ v' w', w'.ownsRow base e 1 v' (n + xs.length) (ys ++ xs.map enc) → w.grownBy w' v.ownBlock → (v'.ownBlock = v.ownBlock ∨ v'.ownBlock = some w.heap.size) → K (a.put o.dst v') w') :
    if Region.wanted o (yielded ops a.tmps) = true then Oper.wp P o a w K Q else E := by
 have hw : Region.wanted o (yielded ops a.tmps) = true := by simp [Region.wanted, hgd]
 rw [if_pos hw]
 obtain ⟨v', w', hrun, r1, r2, r3⟩ := run_append_sl (P := P) w base t o.type e i z bytes ht hi hz hsize hby hzs v n ys hown B sv xs hs h1 h63 hbytes hbase
 unfold Oper.wp execOp
 simp only [ho, resolve, invoke, builtin, Sem.run_bind, Sem.run_pure, Result.andThen_ok, List.map_toArray, List.map_cons, List.map_nil, hv, hx, hrun]
 exact h v' w' r1 r2 r3
theorem bits_ops (x i : Nat) : IntKind.u8.wrap (bits .and .i64 ((x : Int) / 2 ^ i) 1) = ((UInt8.ofNat (x / 2 ^ i % 2)).toNat : Int) := by
 rw [bits_and1]
 have : ((x : Int) / 2 ^ i) % 2 = ((x / 2 ^ i % 2 : Nat) : Int) := by norm_cast
 rw [this, IntWalk.u8_in _ (by omega)]
 simp
 omega
theorem info_u8 : (Tryz.prog.info? 5).map (fun i => (i.zero, i.size, i.bytes)) = some (some (.int .u8 0), 1, 1) := by kernel_rfl
set_option maxRecDepth 100000 in
set_option maxHeartbeats 4000000 in
theorem put_any (x wd b3 k : Nat) (hwd : wd ≤ 20) (hk : k ≤ 1000) (v : Value) (bs : List UInt8) (W : World) (hv : Boxed W b3 22 v) (hrow : W.ownsRow 0 5 1 v k (bs.map eB)) :
    Calls Tryz.prog 163 #[.int .i64 x, .int .i64 wd, .pointer (some ⟨b3, 0, none⟩)] W fun e w' => e = .returned (.tuple #[]) ∧ ∃ v', Boxed w' b3 22 v' ∧ w'.ownsRow 0 5 1 v' (k + wd) ((bs ++ bitsOf x wd).map eB) ∧ Grow b3 W v w' v' := by
  obtain ⟨i0, hi, hz0, hz1, hz2⟩ := info_parts info_u8
  have e0 : IntKind.i64.wrap ((wd : Int) - 1) = (wd : Int) - 1 := IntWalk.i64_in _ (by omega)
  go_enter Tryz.func163, Tryz.ntmps163
  go_wp2_with fail
  go_loopw [5] (fun i wr => ∃ (j : Nat) (u : Value), j ≤ wd ∧ i = .int .i64 ((wd : Int) - 1 - j) ∧ Boxed wr b3 22 u ∧ wr.ownsRow 0 5 1 u (k + j) ((bs ++ (bitsOf x wd).take j).map eB) ∧ Grow b3 W v wr u) (fun i _ => (intOf i + 1).toNat)
  case atStart => exact ⟨0, v, Nat.zero_le _, by simp, hv, by simpa using hrow, grow_r _ _ _⟩
  case round =>
   obtain ⟨j, u, hj, rfl, hb, hr, hG⟩ := hrel
   by_cases hlt : j < wd
   · have d0 : decide (0 ≤ (wd : Int) - 1 - j) = true := decide_eq_true (by omega)
     have H := Lib.hid (bitsOf_snoc x wd j hlt)
     obtain ⟨p, hp⟩ : ∃ p : Nat, (wd : Int) - 1 - j = p := ⟨wd - 1 - j, by omega⟩
     have hpn : wd - 1 - j = p := by omega
     have hnext : IntKind.i64.wrap ((p : Int) - 1) = (wd : Int) - 1 - (j + 1 : Nat) := by rw [IntWalk.i64_in _ (by omega)]; omega
     have hp32 : p < 32 := by omega
     rw [hpn] at H
     rw [hp] at d0 ⊢
     have Hp := Lib.hid hp
     clear hp hpn
     have hbo := bits_ops x p
     generalize UInt8.ofNat (x / 2 ^ p % 2) = y at *
     have hb1 := hb.alloc (.cells #[eB y] 5)
     have cb0 : wr.drew.cell? ⟨b3, 0, none⟩ = some u := hb.cell
     have cb1 : (wr.alloc (.cells #[eB y] 5)).drew.cell? ⟨b3, 0, none⟩ = some u := hb1.cell
     have hrow' : (wr.alloc (.cells #[eB y] 5)).drew.ownsRow 0 5 1 u (k + j) ((bs ++ (bitsOf x wd).take j).map eB) := hr.alloc _
     have hone : Sl eB (wr.alloc (.cells #[eB y] 5)).drew.heap.size (wr.alloc (.cells #[eB y] 5)).drew (.slice (some ⟨wr.heap.size, 0, none⟩) 1 1) [y] :=
      Sl.new eB wr [y] #[eB y] 5 (0, 0) 1 1 rfl (Nat.le_refl _) (by simp)
     have q1 : k + j + [y].length ≤ maxLen := by unfold maxLen; simp; omega
     have q2 : (k + j + [y].length) * 1 ≤ 140737488355328 := by simp; omega
     have hnr := hb1.not_row (by decide) hrow'
     go_wp2_with fail
     go_region_law (refine step_append_sl _ rfl (.tmp 12) (.tmp 18) _ rfl 0 5 i0 (.int .u8 0) 1 Tryz.underlying22 hi hz0 hz1 hz2 rfl _ (k + j) _ hrow' rfl _ _ [y] hone rfl (fun _ => rfl) q1 q2 (Nat.zero_le _) ?_
                    intro v' w1 hown' hgrow hat'
                    have hgr2 : (wr.alloc (.cells #[eB y] 5)).grownBy w1 u.ownBlock := ⟨hgrow.os, hgrow.tape, hgrow.output, hgrow.size, hgrow.block⟩
                    have hown2 : w1.ownsRow 0 5 1 v' (k + j + 1) (((bs ++ (bitsOf x wd).take j).map eB) ++ [y].map eB) := hown'
                    obtain ⟨g', cap', rfl⟩ := ownsRow_succ hown2
                    have hb2 : Boxed w1 b3 22 u := Boxed.kept hb1 hgr2 hnr
                    have cb2 := hb2.cell
                    have fb2 := hb2.frozen)
     all_goals
      have hnr2 := hb2.not_row (by decide) hown2
      have hb3 := hb2.set (.slice (some ⟨g', 0, none⟩) (k + j + 1) cap')
      have hown3 := hown2.kept (grownBy_setCell' w1 b3 (.slice (some ⟨g', 0, none⟩) (k + j + 1) cap')) (.inr hnr2.symm)
      have hG2 := grow_t hG (grow_step (b := b3) (u := .slice (some ⟨g', 0, none⟩) (k + j + 1) cap') hgr2 hat')
      clear hown' hown2 hgrow hgr2 hone hrow' cb0 cb1 cb2 fb2 hb1 hb2 hat'
      go_wp2_with fail
      refine ⟨⟨j + 1, _, by omega, by rw [Int.natCast_add]; rfl, hb3, ?_, hG2⟩, ?_⟩
      · rw [H.out]
        rw [← Nat.add_assoc]
        simpa using hown3
      · have hpp := Hp.out
        simp only [intOf]
        clear hnext d0
        omega
   · obtain rfl : j = wd := by omega
     have d0 : decide (0 ≤ (j : Int) - 1 - j) = false := decide_eq_false (by omega)
     have hl : (bitsOf x j).take j = bitsOf x j := List.take_of_length_le (by rw [bitsOf_length]; exact Nat.le_refl _)
     rw [hl] at hr
     clear hl
     go_wp2_with fail
     go_end0
     exact ⟨rfl, u, hb, hr, hG⟩
end Go.Proofs.YtkibigbcdlilkaaGreatDoor
namespace Go.Proofs.YtkibigbcdlilkaaGreatDoor
open Go.RowKit Go.Shelf
attribute [local go_sem] Oper.semAt_some run_store_func
def packL (a b c n : Nat) : List UInt8 := bitsOf 0 (zb n) ++ bitsOf a (tb n) ++ bitsOf b 2 ++ bitsOf c (wb n)
theorem packL_length (a b c n : Nat) : (packL a b c n).length = longN n := by simp [packL, bitsOf_length, longN]; omega
theorem below_grow {B b : Nat} {w W W' : World} {v v' : Value} (h : Grow b W v W' v') (hB : Below B w W) (hbW : B ≤ W.heap.size) (hb : B ≤ b) (hv : ∀ k, v.ownBlock = some k → B ≤ k) : Below B w W' :=
 ⟨h.1.1.trans hB.os, h.1.2.1.trans hB.tape, h.1.2.2.1.trans hB.output, Nat.le_trans hB.size h.1.2.2.2, fun k hk => (h.2.1 k (by omega) (by omega) (fun e => by have := hv k e.symm; omega)).trans (hB.block k hk)⟩
set_option maxRecDepth 100000 in
set_option maxHeartbeats 8000000 in
theorem pack_any (a b c n : Nat) (h2 : 2 ≤ n) (h1 : n ≤ 1000) (w : World) :
    Calls Tryz.prog 153 #[v3 a b c, .int .i64 n] w fun e w' => ∃ v, e = .returned v ∧ w'.ownsRow 0 5 1 v (longN n) ((packL a b c n).map eB) ∧ Below w.heap.size w w' ∧ ∀ k, v.ownBlock = some k → w.heap.size ≤ k := by
  have hmf : ∀ (fn : Fn) (first cap : Array Value) (w : World), (Instr.makeFunc fn first cap).run Tryz.prog w = .ok (.func fn first cap) w := fun _ _ _ _ => rfl
  obtain ⟨i0, hi, hz0, hz1, hz2⟩ := info_parts info_u8
  have hLg := fun w => Long_yes n h2 h1 w
  have hWd := fun w => widths_any n h2 h1 w
  have ht10 := tb_le n h1
  have hw13 := wb_le n h1
  have hz2' : zb n ≤ 1 := by unfold zb; omega
  have Hl := Lib.hid (show longN n = zb n + tb n + 2 + wb n from rfl)
  have Hp := Lib.hid (show packL a b c n = bitsOf 0 (zb n) ++ bitsOf a (tb n) ++ bitsOf b 2 ++ bitsOf c (wb n) from rfl)
  have hln : longN n ≤ 1000 := by unfold longN; omega
  generalize packL a b c n = PL at *
  generalize longN n = L at *
  generalize zb n = z at *
  generalize tb n = t at *
  generalize wb n = u at *
  obtain ⟨C, hCs, hmk⟩ : ∃ C : Array Value, C.size = L ∧ ∀ w, (Instr.makeSlice 22 (.int .i64 0) (.int .i64 (L : Int))).run Tryz.prog w = .ok (.slice (some ⟨w.heap.size, 0, none⟩) 0 L) (w.alloc (.cells C 5)) := by
   refine ⟨madeCells (Value.cells (.int .u8 0)) (L * i0.size), by simp [madeCells, hz1, Value.cells], fun w => ?_⟩
   have := run_make (P := Tryz.prog) w 22 5 i0 (.int .u8 0) Tryz.underlying22 hi hz0 .i64 .i64 0 (L : Int) (by omega) (by omega) (by rw [hz2]; omega) (by omega)
   simpa using this
  have hcl : (v3 a b c).cells = c3 a b c := rfl
  have hr := Rowed.new w 51 (c3 a b c)
  have hA0 := below_alloc w (.cells (c3 a b c) 51)
  have hlt0 := hr.lt
  have hbd : ∀ (a b c d : Int) w, (Instr.build 80 #[(0, .int .i64 a), (1, .int .i64 b), (2, .int .i64 c), (3, .int .i64 d)]).run Tryz.prog w = .ok (v4 a b c d) w := fun _ _ _ _ _ => by kernel_rfl
  go_enter Tryz.func153, Tryz.ntmps153
  go_wp2_with fail
  generalize w.alloc (.cells (c3 a b c) 51) = w0 at *
  go_at_call 39
  refine (hLg _).mono ?_
  rintro e w1 ⟨rfl, hB1⟩
  have hr1 := hr.below hB1 hlt0
  have hA1 := hA0.trans (hB1.mono hA0.size)
  have hlt1 := hr1.lt
  have hrA := (hr1.alloc (.cells C 5)).alloc (.cells #[.slice (some ⟨w1.heap.size, 0, none⟩) 0 L] 22)
  have k0 := hrA.cell 0
  have k1 := hrA.cell 1
  have k2 := hrA.cell 2
  simp at k0 k1 k2
  have hbx := Boxed.new (w1.alloc (.cells C 5)) 22 (.slice (some ⟨w1.heap.size, 0, none⟩) 0 L)
  rw [World.size_alloc] at hbx
  have hrw : ((w1.alloc (.cells C 5)).alloc (.cells #[.slice (some ⟨w1.heap.size, 0, none⟩) 0 L] 22)).ownsRow 0 5 1 (.slice (some ⟨w1.heap.size, 0, none⟩) 0 L) 0 ([].map eB) :=
   ⟨rfl, .inr ⟨w1.heap.size, L, C, rfl, Nat.zero_le _, (Rowed.new w1 5 C).alloc _, Nat.zero_le _, by unfold maxLen; omega, by omega, by simp⟩⟩
  have hA2 := (hA1.alloc hA1.size (.cells C 5)).alloc (by have := hA1.size; simp; omega) (.cells #[.slice (some ⟨w1.heap.size, 0, none⟩) 0 L] 22)
  have hs2 : ((w1.alloc (.cells C 5)).alloc (.cells #[.slice (some ⟨w1.heap.size, 0, none⟩) 0 L] 22)).heap.size = w1.heap.size + 2 := by simp
  clear hr hr1 hrA hA0 hA1 hB1 hLg
  go_wp2_with fail
  have hbx3 := hbx.alloc (.cells #[.int .i64 0, .int .i64 a, .int .i64 b, .int .i64 c] 80)
  have hrw3 : (((w1.alloc (.cells C 5)).alloc (.cells #[.slice (some ⟨w1.heap.size, 0, none⟩) 0 L] 22)).alloc (.cells #[.int .i64 0, .int .i64 a, .int .i64 b, .int .i64 c] 80)).ownsRow 0 5 1 (.slice (some ⟨w1.heap.size, 0, none⟩) 0 L) 0 ([].map eB) := hrw.alloc _
  have hpt := Rowed.new ((w1.alloc (.cells C 5)).alloc (.cells #[.slice (some ⟨w1.heap.size, 0, none⟩) 0 L] 22)) 80 #[.int .i64 0, .int .i64 a, .int .i64 b, .int .i64 c]
  rw [hs2] at hpt
  have hA3 := hA2.alloc hA2.size (.cells #[.int .i64 0, .int .i64 a, .int .i64 b, .int .i64 c] 80)
  have hs3 : (((w1.alloc (.cells C 5)).alloc (.cells #[.slice (some ⟨w1.heap.size, 0, none⟩) 0 L] 22)).alloc (.cells #[.int .i64 0, .int .i64 a, .int .i64 b, .int .i64 c] 80)).heap.size = w1.heap.size + 3 := by simp
  clear hbx hrw hA2 hs2 k0 k1 k2 hmk hcl hbd
  generalize ((w1.alloc (.cells C 5)).alloc (.cells #[.slice (some ⟨w1.heap.size, 0, none⟩) 0 L] 22)).alloc (.cells #[.int .i64 0, .int .i64 a, .int .i64 b, .int .i64 c] 80) = w3 at *
  go_at_call 58
  refine (hWd _).mono ?_
  rintro e w4 ⟨rfl, hB4⟩
  have hA4 := hA3.trans (hB4.mono hA3.size)
  have hsz4 := hB4.size
  have hv0 : Boxed w4 (w1.heap.size + 1) 22 (.slice (some ⟨w1.heap.size, 0, none⟩) 0 L) := (hB4.block _ hbx3.lt).trans hbx3
  have hr0 : w4.ownsRow 0 5 1 (.slice (some ⟨w1.heap.size, 0, none⟩) 0 L) 0 ([].map eB) := World.ownsRow.kept hrw3 (row := none) ⟨hB4.os, hB4.tape, hB4.output, hB4.size, fun k hk _ => hB4.block k hk⟩ (.inr (by simp [Value.ownBlock]))
  have hp0 : Rowed w4 (w1.heap.size + 2) 80 #[.int .i64 0, .int .i64 a, .int .i64 b, .int .i64 c] := (hB4.block _ (by omega)).trans hpt
  have hG0 : Grow (w1.heap.size + 1) w4 (.slice (some ⟨w1.heap.size, 0, none⟩) 0 L) w4 (.slice (some ⟨w1.heap.size, 0, none⟩) 0 L) := grow_r _ _ _
  have hlt4 : w1.heap.size + 3 ≤ w4.heap.size := by omega
  clear hbx3 hrw3 hpt hA3 hB4 hWd hs3 hsz4
  have j0 : ∀ w, (Instr.index 80 (v4 z t 2 u) (.int .i64 0)).run Tryz.prog w = .ok (.int .i64 z) w := fun _ => by kernel_rfl
  have j1 : ∀ w, (Instr.index 80 (v4 z t 2 u) (.int .i64 1)).run Tryz.prog w = .ok (.int .i64 t) w := fun _ => by kernel_rfl
  have j2 : ∀ w, (Instr.index 80 (v4 z t 2 u) (.int .i64 2)).run Tryz.prog w = .ok (.int .i64 2) w := fun _ => by kernel_rfl
  have j3 : ∀ w, (Instr.index 80 (v4 z t 2 u) (.int .i64 3)).run Tryz.prog w = .ok (.int .i64 u) w := fun _ => by kernel_rfl
  have hpp : ∀ {W : World} {v' : Value}, Grow (w1.heap.size + 1) w4 (.slice (some ⟨w1.heap.size, 0, none⟩) 0 L) W v' → Rowed W (w1.heap.size + 2) 80 #[.int .i64 0, .int .i64 a, .int .i64 b, .int .i64 c] := fun h => (h.2.1 _ (by omega) (by omega) (by simp [Value.ownBlock])).trans hp0
  have c0 := hp0.cell 0
  simp at c0
  go_wp2_with fail
  refine wp_loop_rounds 6 ?_
  rw [rounds_succ]
  go_wp2_with fail
  refine (put_any 0 z (w1.heap.size + 1) 0 (by omega) (by omega) (.slice (some ⟨w1.heap.size, 0, none⟩) 0 L) [] w4 hv0 hr0).mono ?_
  rintro e W1 ⟨rfl, u1, hv1, hr1, hg⟩
  have hG1 := grow_t hG0 hg
  have c1 := (hpp hG1).cell 1
  simp at c1
  clear hg hv0 hr0 hG0 c0
  go_wp2_with fail
  rw [rounds_succ]
  go_wp2_with fail
  refine (put_any a t (w1.heap.size + 1) (0 + z) (by omega) (by omega) u1 ([] ++ bitsOf 0 z) W1 hv1 hr1).mono ?_
  rintro e W2 ⟨rfl, u2, hv2, hr2, hg⟩
  have hG2 := grow_t hG1 hg
  have c2 := (hpp hG2).cell 2
  simp at c2
  clear hg hv1 hr1 hG1 c1
  go_wp2_with fail
  rw [rounds_succ]
  go_wp2_with fail
  refine (put_any b 2 (w1.heap.size + 1) (0 + z + t) (by omega) (by omega) u2 ([] ++ bitsOf 0 z ++ bitsOf a t) W2 hv2 hr2).mono ?_
  rintro e W3 ⟨rfl, u3, hv3, hr3, hg⟩
  have hG3 := grow_t hG2 hg
  have c3 := (hpp hG3).cell 3
  simp at c3
  clear hg hv2 hr2 hG2 c2
  go_wp2_with fail
  rw [rounds_succ]
  go_wp2_with fail
  refine (put_any c u (w1.heap.size + 1) (0 + z + t + 2) (by omega) (by omega) u3 ([] ++ bitsOf 0 z ++ bitsOf a t ++ bitsOf b 2) W3 hv3 hr3).mono ?_
  rintro e W4 ⟨rfl, u4, hv4, hr4, hg⟩
  have hG4 := grow_t hG3 hg
  clear hg hv3 hr3 hG3 c3
  have cb := hv4.cell
  go_wp2_with fail
  rw [rounds_succ]
  go_wp2_with fail
  go_ret
  refine ⟨u4, rfl, ?_, below_grow hG4 hA4 (by omega) (by omega) (fun k hk => by simp [Value.ownBlock] at hk; omega), fun k hk => ?_⟩
  · rw [Hl.out, Hp.out]
    simpa using hr4
  · rcases hG4.2.2 k hk with e | e
    · simp [Value.ownBlock] at e; omega
    · omega
end Go.Proofs.YtkibigbcdlilkaaGreatDoor
namespace Go.Proofs.YtkibigbcdlilkaaGreatDoor
open Go.RowKit Go.Shelf
attribute [local go_sem] Oper.semAt_some run_store_func
theorem rightB_nat {a b c n : Int} (h : rightB a b c n = true) : ∃ a' b' c' n' : Nat, a = a' ∧ b = b' ∧ c = c' ∧ n = n' ∧ 2 ≤ n' ∧ n' ≤ 1000 ∧ a' < n' ∧ b' < 4 ∧ c' ≤ 6 * n' := by
 unfold rightB mayB at h
 simp only [Bool.and_eq_true, decide_eq_true_eq] at h
 exact ⟨a.toNat, b.toNat, c.toNat, n.toNat, by omega, by omega, by omega, by omega, by omega, by omega, by omega, by omega, by omega⟩
theorem own_shape {W : World} {base : Nat} {e : TypeId} {v : Value} {n : Nat} {xs : List Value} (h : W.ownsRow base e 1 v n xs) : ∃ A l c, v = .slice A l c := by
 rcases h.2 with ⟨rfl, _⟩ | ⟨g, cap, cur, rfl, _⟩
 · exact ⟨_, _, _, rfl⟩
 · exact ⟨_, _, _, rfl⟩
set_option maxRecDepth 100000 in
set_option maxHeartbeats 2000000 in
theorem Pack1_yes (b1 b2 b3 : Nat) (a b c n : Nat) (hn2 : 2 ≤ n) (hn1 : n ≤ 1000) (hok : rightB a b c n = true) (W : World) (h1 : Rowed W b1 51 (c3 a b c)) (h2 : W.cell? ⟨b2, 0, none⟩ = some (.int .i64 n)) (h2l : b2 < W.heap.size) (h3 : Boxed W b3 22 (.slice none 0 0)) :
    WorkIs 151 #[.pointer (some ⟨b1, 0, none⟩), .pointer (some ⟨b2, 0, none⟩), .pointer (some ⟨b3, 0, none⟩)] b3 W
      (fun w' => ∃ v, Boxed w' b3 22 v ∧ w'.ownsRow 0 5 1 v (longN n) ((packL a b c n).map eB) ∧ ∀ k, v.ownBlock = some k → W.heap.size ≤ k) (fun _ _ => False) := by
  have hR := fun w => Right_any a b c n w
  rw [hok] at hR
  have hP := fun w => pack_any a b c n hn2 hn1 w
  have hl := h3.lt
  clear hok hn2 hn1
  generalize longN n = L at *
  generalize packL a b c n = PL at *
  unfold WorkIs
  go_enter Tryz.func151, Tryz.ntmps151
  go_wp2_with (refine wpList_load_row rfl 51 (.tmp 0) rfl b1 rfl _ (c3 a b c) _ _ h1 Tryz.underlying51 rfl (size_c3 a b c) ?_)
  go_at_call 123
  refine (hR _).mono ?_
  rintro e w1 ⟨rfl, hB⟩
  have h1' := h1.below hB h1.lt
  have h2' := (hB.cell (p := ⟨b2, 0, none⟩) h2l).trans h2
  have h3' : Boxed w1 b3 22 (.slice none 0 0) := (hB.block _ hl).trans h3
  clear hR
  go_wp2_with fail
  go_at_call 152
  refine (must_ok _).mono ?_
  rintro e w' ⟨rfl, rfl⟩
  go_wp2_with (refine wpList_load_row rfl 51 (.tmp 0) rfl b1 rfl _ (c3 a b c) _ _ h1' Tryz.underlying51 rfl (size_c3 a b c) ?_)
  go_at_call 153
  refine (hP _).mono ?_
  rintro e w2 ⟨v, rfl, hv, hB2, hfr⟩
  have h3'' : Boxed w2 b3 22 (.slice none 0 0) := (hB2.block _ h3'.lt).trans h3'
  have hnr := h3''.not_row (by decide) hv
  obtain ⟨A, l, cp, rfl⟩ := own_shape hv
  have hb3 := h3''.set (.slice A l cp)
  have hv3 := hv.kept (grownBy_setCell' w2 b3 (.slice A l cp)) (.inr hnr.symm)
  have hK : Keep W.heap.size b3 W (w2.setCell ⟨b3, 0, none⟩ (.slice A l cp)) := keep_t (keep_of (below_trans hB hB2)) (keep_set _ _ _ _ _)
  have hc := h3''.cell
  have hf := h3''.frozen
  clear hP hv h1 h1' h2 h2' h3 h3'
  go_wp2_with fail
  go_end0
  exact ⟨hK, .inl ⟨⟨_, rfl⟩, _, hb3, hv3, fun k hk => Nat.le_trans hB.size (hfr k hk)⟩⟩
set_option maxRecDepth 100000 in
set_option maxHeartbeats 2000000 in
theorem Pack_own (a b c n : Nat) (hn2 : 2 ≤ n) (hn1 : n ≤ 1000) (hok : rightB a b c n = true) (w : World) :
    Calls Tryz.prog 130 #[v3 a b c, .int .i64 n] w fun e w' => Below w.heap.size w w' ∧ ∃ v, e = .returned (.tuple #[v, .int .i64 0]) ∧ w'.ownsRow 0 5 1 v (longN n) ((packL a b c n).map eB) ∧ ∀ k, v.ownBlock = some k → w.heap.size ≤ k := by
  have hmf : ∀ (fn : Fn) (first cap : Array Value) (w : World), (Instr.makeFunc fn first cap).run Tryz.prog w = .ok (.func fn first cap) w := fun _ _ _ _ => rfl
  have hcl : (v3 a b c).cells = c3 a b c := rfl
  have hb1 := ((Rowed.new w 51 (c3 a b c)).alloc (.cells #[.int .i64 n] 3)).alloc (.cells #[.slice none 0 0] 22)
  have hb2 := (Boxed.new (w.alloc (.cells (c3 a b c) 51)) 3 (.int .i64 n)).alloc (.cells #[.slice none 0 0] 22)
  have hb3 := Boxed.new ((w.alloc (.cells (c3 a b c) 51)).alloc (.cells #[.int .i64 n] 3)) 22 (.slice none 0 0)
  rw [World.size_alloc] at hb2
  rw [World.size_alloc, World.size_alloc] at hb3
  have hA : Below w.heap.size w (((w.alloc (.cells (c3 a b c) 51)).alloc (.cells #[.int .i64 n] 3)).alloc (.cells #[.slice none 0 0] 22)) := (((Below.refl _ w).alloc (Nat.le_refl _) _).alloc (by simp) _).alloc (by simp; omega) _
  have hs0 : (((w.alloc (.cells (c3 a b c) 51)).alloc (.cells #[.int .i64 n] 3)).alloc (.cells #[.slice none 0 0] 22)).heap.size = w.heap.size + 3 := by simp
  obtain ⟨W0, hW0⟩ : ∃ W0, ((w.alloc (.cells (c3 a b c) 51)).alloc (.cells #[.int .i64 n] 3)).alloc (.cells #[.slice none 0 0] 22) = W0 := ⟨_, rfl⟩
  rw [hW0] at hb1 hb2 hb3 hA hs0
  have hwork := Pack1_yes w.heap.size (w.heap.size + 1) (w.heap.size + 1 + 1) a b c n hn2 hn1 hok (W0.alloc (.cells #[.int .i64 0] 24)) (hb1.alloc _) (hb2.alloc _).cell (by simp; omega) (hb3.alloc _)
  have hct := caught_any 151 _ (w.heap.size + 1 + 1) W0 (by omega) (enters_of Tryz.func151 (by kernel_rfl) rfl) _ _ hwork
  have HW0 := Lib.hid hW0
  clear hwork hb1 hb2 hb3 hW0
  go_enter Tryz.func130, Tryz.ntmps130
  go_wp2_with fail
  rw [HW0.out]
  go_at_call 134
  refine hct.mono ?_
  rintro e w' ⟨w1, m, hK, rfl, rfl, hlt, hR⟩
  have hBf : Below w.heap.size w (w1.setCell ⟨W0.heap.size, 0, none⟩ (.int .i64 m)) := (below_of_keep hK hA (by omega) (by omega)).setCell (p := ⟨W0.heap.size, 0, none⟩) (by show w.heap.size ≤ W0.heap.size; omega) _
  clear hct
  rcases hR with ⟨rfl, v, hv, hr, hfr⟩ | hF
  · have hvw := Boxed.set_other (b' := W0.heap.size) (y := .int .i64 0) hv (by omega)
    have hne : v.ownBlock ≠ some W0.heap.size := fun e => by
     have := hfr _ e
     simp at this
     omega
    have hsl := hr.kept (grownBy_setCell' w1 W0.heap.size (.int .i64 0)) (.inr hne)
    have hfw : ∀ k, v.ownBlock = some k → w.heap.size ≤ k := fun k hk => by
     have := hfr k hk
     simp at this
     omega
    have hc := hvw.cell
    obtain ⟨A, l, cp, rfl⟩ := own_shape hr
    clear hr hvw hfr
    generalize w1.setCell ⟨W0.heap.size, 0, none⟩ (.int .i64 0) = w2 at *
    go_wp2_with fail
    go_ret2
    exact ⟨hBf, _, rfl, hsl, hfw⟩
  · exact hF.elim
theorem Pack_yes (a b c n : Nat) (hn2 : 2 ≤ n) (hn1 : n ≤ 1000) (hok : rightB a b c n = true) (w : World) :
    Calls Tryz.prog 130 #[v3 a b c, .int .i64 n] w fun e w' => Below w.heap.size w w' ∧ ∃ v, e = .returned (.tuple #[v, .int .i64 0]) ∧ Sl eB w'.heap.size w' v (packL a b c n) :=
  (Pack_own a b c n hn2 hn1 hok w).mono fun _ _ ⟨hB, v, he, hv, _⟩ => ⟨hB, v, he, Sl.of_own hv⟩
end Go.Proofs.YtkibigbcdlilkaaGreatDoor
namespace Go.Proofs.YtkibigbcdlilkaaGreatDoor
open Go.RowKit Go.Shelf
attribute [local go_sem] Oper.semAt_some run_store_func
def numB (ls : List UInt8) : Nat → Nat
  | 0 => 0
  | k + 1 => numB ls k * 2 + (atB ls k).toNat
theorem numB_lt (ls : List UInt8) (k : Nat) (h : ∀ j, j < k → (atB ls j).toNat ≤ 1) : numB ls k < 2 ^ k := by
 induction k with
 | zero => simp [numB]
 | succ k ih =>
   have h1 := ih (fun j hj => h j (by omega))
   have h2 := h k (by omega)
   rw [numB, Nat.pow_succ]
   omega
theorem or1 (m : Nat) (c : UInt8) (h : m < 4294967296) (hc : c.toNat ≤ 1) : bits .or .i64 ((m : Int) * 2) (c.toNat : Int) = (m : Int) * 2 + c.toNat := by
 have h1 : (BitVec.ofInt IntKind.i64.bits ((m : Int) * 2) ||| BitVec.ofInt IntKind.i64.bits (c.toNat : Int)).toNat = m * 2 + c.toNat := by
  rw [BitVec.toNat_or, BitVec.toNat_ofInt, BitVec.toNat_ofInt]
  have e1 : (((m : Int) * 2) % ((2 ^ IntKind.i64.bits : Nat) : Int)).toNat = 2 ^ 1 * m := by
   show (((m : Int) * 2) % ((2 ^ 64 : Nat) : Int)).toNat = _
   omega
  have e2 : ((c.toNat : Int) % ((2 ^ IntKind.i64.bits : Nat) : Int)).toNat = c.toNat := by
   show ((c.toNat : Int) % ((2 ^ 64 : Nat) : Int)).toNat = _
   omega
  rw [e1, e2, ← Nat.two_pow_add_eq_or_of_lt (i := 1) (b := c.toNat) (by omega) m]
  omega
 unfold bits
 simp only [h1]
 rw [IntWalk.i64_in _ (by omega)]
 omega
set_option maxRecDepth 100000 in
set_option maxHeartbeats 4000000 in
theorem take_yes (b bk off wd c : Nat) (ls : List UInt8) (W : World) (hc : ls.length ≤ c) (hb : Boxed W b 22 (.slice (some ⟨bk, off, none⟩) ls.length c)) (hcell : ∀ j x, ls[j]? = some x → W.cell? ⟨bk, off + j, none⟩ = some (eB x)) (hw : wd ≤ ls.length) (hwd : wd ≤ 20) (hbits : ∀ k, k < wd → (atB ls k).toNat ≤ 1) :
    Calls Tryz.prog 158 #[.int .i64 wd, .pointer (some ⟨b, 0, none⟩)] W fun e w' => e = .returned (.int .i64 (numB ls wd)) ∧ ∃ off', w' = W.setCell ⟨b, 0, none⟩ (.slice (some ⟨bk, off', none⟩) (ls.length - wd : Nat) (c - wd : Nat)) ∧ (wd < ls.length → off' = off + wd) := by
  have cb := hb.cell
  have fb := hb.frozen
  have m1 : (wd : Int) ≤ c := by omega
  go_enter Tryz.func158, Tryz.ntmps158
  go_wp2_with fail
  go_loop [4, 11] (fun x i => ∃ k : Nat, k ≤ wd ∧ i = .int .i64 k ∧ x = .int .i64 (numB ls k)) (fun _ i => wd - (intOf i).toNat)
  case atStart => exact ⟨0, Nat.zero_le _, rfl, rfl⟩
  case round =>
   obtain ⟨k, hk, rfl, rfl⟩ := hrel
   by_cases hlt : k < wd
   · have hx := hcell k _ (atB_lt (x := ls) (i := k) (by omega))
     have hle := hbits k hlt
     have hlt2 := numB_lt ls k (fun j hj => hbits j (by omega))
     have hp : 2 ^ k ≤ 2 ^ 20 := Nat.pow_le_pow_right (by omega) (by omega)
     have hor := or1 (numB ls k) (atB ls k) (by omega) hle
     have Hs := Lib.hid (show numB ls (k + 1) = numB ls k * 2 + (atB ls k).toNat from rfl)
     have d1 : decide (((atB ls k).toNat : Int) ≤ 1) = true := decide_eq_true (by omega)
     have m2 : (k : Int) < wd := by omega
     have e1 : IntKind.i64.wrap ((numB ls k : Int) * 2) = (numB ls k : Int) * 2 := IntWalk.i64_in _ (by omega)
     have e2 : wrap64 ((numB ls k : Int) * 2) = (numB ls k : Int) * 2 := IntWalk.wrap64_in _ (by omega)
     have e3 : IntKind.i64.wrap ((atB ls k).toNat : Int) = ((atB ls k).toNat : Int) := IntWalk.i64_in _ (by omega)
     clear hbits hcell hlt2 hp
     generalize numB ls k = m at *
     generalize atB ls k = y at *
     go_wp2_with (go_at_call 152; refine (must_ok _).mono ?_; rintro e w' ⟨rfl, rfl⟩)
     exact ⟨⟨k + 1, by omega, by go_num, by rw [Hs.out]; simp⟩, by simp [intOf]; omega⟩
   · obtain rfl : k = wd := by omega
     by_cases hcw : c = k
     · go_wp2_with fail
       go_ret
       exact ⟨rfl, off, rfl, fun h => by omega⟩
     · go_wp2_with fail
       go_ret
       exact ⟨rfl, off + k, rfl, fun _ => rfl⟩
set_option maxRecDepth 100000 in
set_option maxHeartbeats 4000000 in
theorem take_no (b bk off wd c : Nat) (ls : List UInt8) (W : World) (hc : ls.length ≤ c) (hb : Boxed W b 22 (.slice (some ⟨bk, off, none⟩) ls.length c)) (hcell : ∀ j x, ls[j]? = some x → W.cell? ⟨bk, off + j, none⟩ = some (eB x)) (hw : wd ≤ ls.length) (hwd : wd ≤ 20) (hbad : ¬ ∀ k, k < wd → (atB ls k).toNat ≤ 1) :
    Calls Tryz.prog 158 #[.int .i64 wd, .pointer (some ⟨b, 0, none⟩)] W fun e w' => e = .panicked (errno 2) ∧ w' = W := by
  have cb := hb.cell
  have fb := hb.frozen
  have m1 : (wd : Int) ≤ c := by omega
  have Hb := Lib.hid hbad
  clear hbad
  go_enter Tryz.func158, Tryz.ntmps158
  go_wp2_with fail
  go_loop [4, 11] (fun x i => ∃ k : Nat, k ≤ wd ∧ i = .int .i64 k ∧ x = .int .i64 (numB ls k) ∧ ∀ j, j < k → (atB ls j).toNat ≤ 1) (fun _ i => wd - (intOf i).toNat)
  case atStart => exact ⟨0, Nat.zero_le _, rfl, rfl, fun j hj => absurd hj (by omega)⟩
  case round =>
   obtain ⟨k, hk, rfl, rfl, hbits⟩ := hrel
   by_cases hlt : k < wd
   · have hx := hcell k _ (atB_lt (x := ls) (i := k) (by omega))
     have hlt2 := numB_lt ls k hbits
     have hp : 2 ^ k ≤ 2 ^ 20 := Nat.pow_le_pow_right (by omega) (by omega)
     have m2 : (k : Int) < wd := by omega
     by_cases hle : (atB ls k).toNat ≤ 1
     · have hor := or1 (numB ls k) (atB ls k) (by omega) hle
       have Hs := Lib.hid (show numB ls (k + 1) = numB ls k * 2 + (atB ls k).toNat from rfl)
       have d1 : decide (((atB ls k).toNat : Int) ≤ 1) = true := decide_eq_true (by omega)
       have e1 : IntKind.i64.wrap ((numB ls k : Int) * 2) = (numB ls k : Int) * 2 := IntWalk.i64_in _ (by omega)
       have e2 : wrap64 ((numB ls k : Int) * 2) = (numB ls k : Int) * 2 := IntWalk.wrap64_in _ (by omega)
       have e3 : IntKind.i64.wrap ((atB ls k).toNat : Int) = ((atB ls k).toNat : Int) := IntWalk.i64_in _ (by omega)
       have Hn := Lib.hid (show ∀ j, j < k + 1 → (atB ls j).toNat ≤ 1 from fun j hj => by
        by_cases e : j = k
        · rw [e]; exact hle
        · exact hbits j (by omega))
       clear hbits hcell hlt2 hp hle
       generalize numB ls k = m at *
       generalize atB ls k = y at *
       go_wp2_with (go_at_call 152; refine (must_ok _).mono ?_; rintro e w' ⟨rfl, rfl⟩)
       exact ⟨⟨k + 1, by omega, by go_num, by rw [Hs.out]; simp, Hn.out⟩, by simp [intOf]; omega⟩
     · have d1 : decide (((atB ls k).toNat : Int) ≤ 1) = false := decide_eq_false (by omega)
       have d1' : decide ((atB ls k).toNat ≤ 1) = false := decide_eq_false hle
       clear hbits hcell hlt2 hp hle
       generalize numB ls k = m at *
       generalize atB ls k = y at *
       go_wp2_with (go_at_call 152; refine (must_not _).mono ?_; rintro e w' ⟨rfl, rfl⟩)
       exact ⟨rfl, rfl, rfl⟩
   · obtain rfl : k = wd := by omega
     exact absurd hbits Hb.out
end Go.Proofs.YtkibigbcdlilkaaGreatDoor
