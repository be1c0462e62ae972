import Derived.Laws.CopyOwn
import Derived.Lib.Overlaps
import Derived.Lib.AppendZerosOnto
import Derived.Laws.NewBlocks
import Derived.Test.YtkibigbcdlilkaaGreatDoorSwDY
namespace Go.Proofs.YtkibigbcdlilkaaGreatDoor.Gp
open Go.RowKit Go.Shelf
attribute [local go_sem] Oper.semAt_some run_store_func
theorem add_off (g i j : Nat) : (⟨g, i, none⟩ : Addr).add j = ⟨g, i + j, none⟩ := by unfold Addr.add; split <;> simp_all
theorem wrap_small (z : Int) (h0 : 0 ≤ z) (h1 : z ≤ 1000001) : IntKind.i64.wrap z = z := by rw [IntKind.wrap_i64]; omega
theorem wrap64_small (z : Int) (h0 : 0 ≤ z) (h1 : z ≤ 1000001) : wrap64 z = z := by rw [wrap64]; omega
theorem wrap_succ (n : Nat) (h : n ≤ 1000000) : IntKind.i64.wrap ((n : Int) + 1) = (n : Int) + 1 := wrap_small _ (by omega) (by omega)
theorem wrap64_succ (n : Nat) (h : n ≤ 1000000) : wrap64 ((n : Int) + 1) = (n : Int) + 1 := wrap64_small _ (by omega) (by omega)
theorem take_front {P D R : List Value} {m : Nat} (h : P.length + D.length = m) : (P ++ (D ++ R)).take m = P ++ D := by
 rw [← List.append_assoc]
 exact List.take_left' (by simpa using h)
theorem shift_take {L X : List Value} {n i : Nat} (c : Value) (hX : L.take n = X) (hi : i < n) (hn : n + 1 ≤ L.length) : (splice (splice L (i + 1) (X.drop i)) i [c]).take (n + 1) = X.take i ++ ([c] ++ X.drop i) := by
 have hXl : X.length = n := by rw [← hX, List.length_take]; omega
 have h1 : (L.take (i + 1)).length = i + 1 := by rw [List.length_take]; omega
 have e1 : (splice L (i + 1) (X.drop i)).take i = X.take i := by
  unfold splice
  rw [List.take_append_of_le_length (by omega), ← hX, List.take_take, List.take_take]
  congr 1; omega
 have e2 : (splice L (i + 1) (X.drop i)).drop (i + [c].length) = X.drop i ++ L.drop (i + 1 + (X.drop i).length) := by
  unfold splice
  exact List.drop_left' h1
 rw [splice, e1, e2, ← List.append_assoc, take_front, List.append_assoc]
 simp
 omega
theorem grow_take {Z X : List Value} {n i : Nat} (c : Value) (hX : X.length = n) (hi : i < n) : (splice (splice (X.take i ++ Z) i [c]) (i + 1) (X.drop i)).take (n + 1) = X.take i ++ ([c] ++ X.drop i) := by
 have h1 : (X.take i).length = i := by rw [List.length_take]; omega
 have e1 : splice (X.take i ++ Z) i [c] = (X.take i ++ [c]) ++ (X.take i ++ Z).drop (i + [c].length) := by
  rw [splice, List.take_left' h1, List.append_assoc]
 have h2 : (X.take i ++ [c]).length = i + 1 := by simp; omega
 rw [splice, e1, List.take_left' h2, take_front, List.append_assoc]
 simp
 omega
set_option maxRecDepth 100000 in
set_option maxHeartbeats 4000000 in
theorem insert_grow (x : List UInt8) (i : Nat) (c : UInt8) (hi : i < x.length) (hreach : x.length ≤ 1000000) (base : Nat) (g b : Nat) (cur : List Value) (w : World) (hg : w.heap[g]? = some (.cells cur.toArray 5 (0, 0))) (hcs : cur = x.map eB) (hbx : Boxed w b 5 (eB c)) (hbase : base ≤ w.heap.size) :
    Calls Tryz.prog 117 #[.slice (some ⟨g, 0, none⟩) x.length x.length, .int .i64 i, .slice (some ⟨b, 0, none⟩) 1 1] w fun e w' => ∃ v', e = .returned v' ∧ Own8 base w' v' (insW x i c) ∧ Below base w w' := by
  obtain ⟨i0, hi0, hz0, hz1, hz2⟩ := info_parts info_u8
  have hsz : (Tryz.prog.info? 5).map (·.size) = some 1 := by rw [hi0]; simp [hz1]
  have hg' : Rowed w g 5 cur.toArray := hg
  have hn : cur.length = x.length := by rw [hcs]; simp
  have hcell : ∀ j v, (cur)[j]? = some v → w.cell? ⟨g, j, none⟩ = some v := fun j v h => by rw [hg'.cell j]; simpa using h
  have h1c : ∀ v ∈ cur, v.oneCell' = true := by rw [hcs]; intro v hv; obtain ⟨u, _, rfl⟩ := List.mem_map.1 hv; rfl
  have hold : (Builtin.firstCells i0.size i (.slice (some ⟨g, 0, none⟩) i x.length)).run Tryz.prog w.drew = .ok (cur.take i).toArray w.drew := by
   rw [hz1]
   exact run_firstCells_some w.drew 1 i ⟨g, 0, none⟩ i x.length (cur.take i) (by rw [List.length_take]; omega) (fun j v hj => by
    rw [show (⟨g, 0, none⟩ : Addr).add j = ⟨g, j, none⟩ from by unfold Addr.add; split <;> simp_all]
    rw [List.getElem?_take] at hj
    split at hj
    · exact hcell j v hj
    · cases hj)
  have hrz := fun ty => Lib.run_append_grow_zeros (P := Tryz.prog) w 22 3 ty 5 i0 _ .i64 .i64 Tryz.underlying22 Tryz.underlying3 hi0 hz0 (some ⟨g, 0, none⟩) i x.length (cur.take i) hold (x.length + 1 - i) (by omega) (by omega) (by omega) (by omega) (by rw [hz2]; omega) (by rw [hz2]; exact growslice_fits (by omega) (by omega))
  have hik : i + (x.length + 1 - i) = x.length + 1 := by omega
  have hkk : (x.length : Int) + 1 - (i : Int) = ((x.length + 1 - i : Nat) : Int) := by omega
  rw [hik] at hrz
  rw [← hkk] at hrz
  have hgl : g < w.heap.size := hg'.lt
  have hbl := hbx.lt
  obtain ⟨ROW, hROW⟩ : ∃ ROW : List Value, ROW = (Builtin.zeroCells (Value.int .u8 0).cells (x.length + 1 - i)).toList ++ (Builtin.zeroCells (Value.int .u8 0).cells (grownCap w (x.length + 1) x.length 5 - (x.length + 1))).toList := ⟨_, rfl⟩
  have hG1 := grownCap_ge w (x.length + 1) x.length 5
  have hG2 := grownCap_le_maxLen w (x.length + 1) x.length 5 (by unfold maxLen; omega)
  have e : (cur.take i).toArray ++ Builtin.zeroCells (Value.int .u8 0).cells (x.length + 1 - i) ++ Builtin.zeroCells (Value.int .u8 0).cells (grownCap w (x.length + 1) x.length 5 - (x.length + 1)) = (cur.take i ++ ROW).toArray := by
   rw [hROW]; simp
  rw [e] at hrz
  have hRl : i + ROW.length = grownCap w (x.length + 1) x.length 5 := by
   rw [hROW]
   simp [Builtin.zeroCells, Value.cells]
   omega
  generalize grownCap w (x.length + 1) x.length 5 = G at *
  have hdl : (cur.drop i).length = x.length - i := by rw [List.length_drop, hn]
  have hW1 : Rowed (w.drew.alloc (.cells (cur.take i ++ ROW).toArray 5)) w.heap.size 5 (cur.take i ++ ROW).toArray := by show (w.drew.heap.push _)[w.heap.size]? = _; exact Array.getElem?_push_size
  have hB1 : Below w.heap.size w (w.drew.alloc (.cells (cur.take i ++ ROW).toArray 5)) := below_trans (show Below w.heap.size w w.drew from ⟨rfl, rfl, rfl, Nat.le_refl _, fun _ _ => rfl⟩) (below_alloc w.drew _)
  have Hk := Lib.hid hW1
  generalize w.drew.alloc (.cells (cur.take i ++ ROW).toArray 5) = W1 at *
  have hbx1 : Boxed W1 b 5 (eB c) := (hB1.block b hbl).trans hbx
  have hg1 : Rowed W1 g 5 cur.toArray := (hB1.block g hgl).trans hg'
  have hcap : decide ((x.length : Int) < (x.length : Int) + 1) = true := decide_eq_true (by omega)
  have hne : ¬ ((i : Int) = (x.length : Int)) := by omega
  have hw1 : wrap64 ((i : Int) + 1) = (i : Int) + 1 := by rw [wrap64]; omega
  have Hfacts := Lib.hid (And.intro hn (And.intro hRl (And.intro hdl (And.intro h1c (And.intro hcs hg1)))))
  clear hik hkk e hold hROW hg hg' hcs hn hRl hdl h1c hg1 hW1 hz0 hz1 hz2 hi0
  go_enter Tryz.func117, Tryz.ntmps117
  have HA1 := Lib.hid (show ([eB c] : List Value).length = Nat.min 1 (x.length + 1 - i) by show 1 = min 1 (x.length + 1 - i); omega)
  have HA2 := Lib.hid (show i + ([eB c] : List Value).length ≤ (cur.take i ++ ROW).length by rw [List.length_append, List.length_take]; have := Hfacts.out.1; have := Hfacts.out.2.1; simp; omega)
  have HA3 := Lib.hid (show ∀ v ∈ ([eB c] : List Value), v.oneCell' = true by intro v hv; obtain rfl := List.mem_singleton.1 hv; rfl)
  have HA4 := Lib.hid (show ∀ W : World, Below w.heap.size w W → ∀ (j : Nat) (v : Value), ([eB c] : List Value)[j]? = some v → W.cell? ((⟨b, 0, none⟩ : Addr).add j) = some v from fun W hB j v hj => by
   have hj0 : j = 0 := by
    have := (List.getElem?_eq_some_iff.1 hj).1
    simpa using this
   subst hj0
   simp at hj
   subst hj
   exact (hB.cell (p := ⟨b, 0, none⟩) hbl).trans hbx.cell)
  have HB1 := Lib.hid (show (cur.drop i).length = Nat.min (x.length - i) (x.length + 1 - (i + 1)) by rw [Hfacts.out.2.2.1]; show x.length - i = min (x.length - i) (x.length + 1 - (i + 1)); omega)
  have HB2 := Lib.hid (show i + 1 + (cur.drop i).length ≤ (splice (cur.take i ++ ROW) i [eB c]).length by rw [length_splice _ _ _ HA2.out, List.length_append, List.length_take, Hfacts.out.2.2.1]; have := Hfacts.out.1; have := Hfacts.out.2.1; omega)
  have HB3 := Lib.hid (show ∀ v ∈ cur.drop i, v.oneCell' = true from fun v hv => Hfacts.out.2.2.2.1 v (List.mem_of_mem_drop hv))
  have HB4 := Lib.hid (show ∀ W : World, Below w.heap.size w W → ∀ (j : Nat) (v : Value), (cur.drop i)[j]? = some v → W.cell? ((⟨g, i, none⟩ : Addr).add j) = some v from fun W hB j v hj => by
   rw [add_off]
   refine (hB.cell (p := ⟨g, i + j, none⟩) hgl).trans (hcell _ v ?_)
   rwa [List.getElem?_drop] at hj)
  clear hcell
  go_wp2_with (first
   | (at_builtin; refine Lib.wpList_append_run _ rfl _ _ _ _ rfl _ _ rfl rfl _ _ (hrz _) ?_)
   | (refine wpList_copy_splice rfl (.tmp 43) (.tmp 44) 22 22 rfl 5 Tryz.underlying22 hsz (some ⟨w.heap.size, i, none⟩) (some ⟨b, 0, none⟩) (x.length + 1 - i) (G - i) 1 1 rfl rfl w.heap.size i (cur.take i ++ ROW) 5 Hk.out [eB c] HA1.out (fun _ => ⟨rfl, _, rfl, HA4.out _ hB1⟩) HA2.out HA3.out w.heap.size w hB1 (Nat.le_refl _) ?_
      intro w2 hg2 hB2))
  have hB2' : Below w.heap.size w w2.drew := below_trans hB2 (show Below w2.heap.size w2 w2.drew from ⟨rfl, rfl, rfl, Nat.le_refl _, fun _ _ => rfl⟩)
  have hg2' : w2.drew.heap[w.heap.size]? = some (.cells (splice (cur.take i ++ ROW) i [eB c]).toArray 5) := hg2.out
  have Hg2 := Lib.hid hg2'
  clear hg2'
  have hw2 : IntKind.i64.wrap ((i : Int) + 1) = (i : Int) + 1 := by rw [IntKind.wrap_i64]; omega
  have hb1 : (0 : Int) ≤ (i : Int) + 1 := by omega
  have hb2 : (i : Int) + 1 ≤ (x.length : Int) + 1 := by omega
  have htn : ((i : Int) + 1).toNat = i + 1 := by omega
  have hGi : ¬ (G = i + 1) := by omega
  have hin : (i : Int) ≤ (x.length : Int) := by omega
  have hni : ¬ (x.length = i) := by omega
  go_region_law (refine step_copy_splice rfl (.tmp 50) (.tmp 53) 22 22 rfl 5 Tryz.underlying22 hsz (some ⟨w.heap.size, i + 1, none⟩) (some ⟨g, i, none⟩) (x.length + 1 - (i + 1)) (G - (i + 1)) (x.length - i) (x.length - i) (by simp [Act.eval, Act.put]) (by simp [Act.eval, Act.put]) w.heap.size (i + 1) (splice (cur.take i ++ ROW) i [eB c]) 5 Hg2.out (cur.drop i) HB1.out (fun _ => ⟨rfl, _, rfl, HB4.out _ hB2'⟩) HB2.out HB3.out w.heap.size w hB2' (Nat.le_refl _) ?_; intro w3 hg3 hB3)
  all_goals
   go_wp2
   go_ret
   have hl := insW_length x i c (by omega)
   have ho : w3.ownsRow base 5 1 (.slice (some ⟨w.heap.size, 0, none⟩) (x.length + 1) G) (x.length + 1) ((insW x i c).map eB) := by
    refine ⟨by rw [List.length_map, hl, Nat.mul_one], .inr ⟨_, G, _, rfl, hbase, hg3.out, hG1, hG2, ?_, ?_⟩⟩
    · rw [List.size_toArray, length_splice _ _ _ HB2.out, length_splice _ _ _ HA2.out, List.length_append, List.length_take]
      have := Hfacts.out.1
      have := Hfacts.out.2.1
      omega
    · rw [Nat.mul_one]
      have h := grow_take (Z := ROW) (eB c) Hfacts.out.1 hi
      rw [h, Hfacts.out.2.2.2.2.1]
      simp [insW]
   exact ⟨_, rfl, by rw [Own8, hl]; exact ho, hB3.mono hbase⟩
end Go.Proofs.YtkibigbcdlilkaaGreatDoor.Gp
namespace Go.Proofs.YtkibigbcdlilkaaGreatDoor.Gp
open Go.RowKit Go.Shelf
attribute [local go_sem] Oper.semAt_some run_store_func
theorem step_copy_else {P : Program} {ops : Array Oper} {o : Oper} {a : Act} {w : World} {K : Act → World → Prop} {Q : Exit → Act → World → Prop} {E : Prop} (hgd : o.guard = none) (d s : Operand) (dT sT : TypeId)
    (ho : o.op = .call { callee := .builtin .copy, args := #[d, s], argTypes := #[dT, sT] }) (elem : TypeId) (hu : P.underlying dT = some (.slice elem)) (hsz : (P.info? elem).map (·.size) = some 1)
    (g off : Nat) (ad : Addr) (dLen dCap sLen sCap : Nat) (hd : a.eval d = .slice (some ⟨g, off, none⟩) dLen dCap) (hs : a.eval s = .slice (some ad) sLen sCap)
    (cur : List Value) (t : TypeId) (hg : w.heap[g]? = some (.cells cur.toArray t (0, 0))) (cs : List Value) (hn : cs.length = Nat.min sLen dLen)
    (hsrc : ∀ j v, cs[j]? = some v → w.cell? (ad.add j) = some v)
    (hfit : off + cs.length ≤ cur.length) (h1 : ∀ v ∈ cs, v.oneCell' = true) (B : Nat) (w0 : World) (hb : Below B w0 w) (hBg : B ≤ g)
    (h : ∀ w', Hid (w'.heap[g]? = some (.cells (splice cur off cs).toArray t (0, 0))) → Hid (∀ k, k ≠ g → w'.heap[k]? = w.heap[k]?) → Below B w0 w' → K (a.put o.dst (goInt cs.length)) w') :
    if Region.wanted o (yielded ops a.tmps) = true then Oper.wp P o a w K Q else E := by
 have hw : Region.wanted o (yielded ops a.tmps) = true := by simp [Region.wanted, hgd]
 rw [if_pos hw]
 have hrun := run_copy_row (P := P) w dT sT o.type elem g off dLen dCap ad sLen sCap cur.toArray t cs hu hsz hg hn hsrc (by simpa using hfit) h1
 unfold Oper.wp
 simp [execOp, ho, resolve, invoke, builtin, hd, hs, hrun, Result.andThen]
 exact h _ (Lib.hid (show _ = _ by simpa [splice] using setRow_heap w g _ _ t _ hg)) (Lib.hid fun k hk => setRow_other w g k _ hk) (Go.below_setRow hb hBg _)
set_option maxRecDepth 100000 in
set_option maxHeartbeats 4000000 in
theorem insert_shift (x : List UInt8) (i : Nat) (c : UInt8) (hi : i < x.length) (hreach : x.length ≤ 1000000) (base : Nat) (g b cap : Nat) (L : List Value) (w : World) (hbg : base ≤ g) (hg : w.heap[g]? = some (.cells L.toArray 5 (0, 0))) (hL : L.length = cap) (hcm : cap ≤ maxLen) (hroom : x.length + 1 ≤ cap) (htk : L.take x.length = x.map eB) (hbx : Boxed w b 5 (eB c)) (hgb : g ≠ b) :
    Calls Tryz.prog 117 #[.slice (some ⟨g, 0, none⟩) x.length cap, .int .i64 i, .slice (some ⟨b, 0, none⟩) 1 1] w fun e w' => ∃ v', e = .returned v' ∧ Own8 base w' v' (insW x i c) ∧ Below base w w' := by
  obtain ⟨i0, hi0, hz0, hz1, hz2⟩ := info_parts info_u8
  have hsz : (Tryz.prog.info? 5).map (·.size) = some 1 := by rw [hi0]; simp [hz1]
  have hzs : ∀ w, (Go.sizeOf 5).run Tryz.prog w = .ok 1 w := fun w => by kernel_rfl
  have hg' : Rowed w g 5 L.toArray := hg
  have hgd : w.drew.heap[g]? = some (.cells L.toArray 5 (0, 0)) := hg
  have hgl : g < w.heap.size := hg'.lt
  have hbl := hbx.lt
  have hov : ∀ lb cb, (callFunc 139 #[.slice (some ⟨b, 0, none⟩) 1 1, .slice (some ⟨g, i + 1, none⟩) lb cb]).run Tryz.prog w = .ok (.value (.bool false)) w := fun lb cb => by
   rw [run_callFunc_extern Tryz.func139 (by kernel_rfl) (by kernel_rfl) (by kernel_rfl) (e := Extern.SlicesOverlaps.overlaps #[22, 22] #[4]) (by kernel_rfl),
    Lib.run_overlaps_apart w 22 4 5 Tryz.underlying22 1 hzs ⟨b, 0, none⟩ ⟨g, i + 1, none⟩ 1 1 lb cb (fun e => hgb e.symm) 5 5 1 cap (by show w.shape? b = _; simp [World.shape?, show w.heap[b]? = _ from hbx]) (by show w.shape? g = _; simp [World.shape?, hg, hL]) (by omega) hbx.frozen (by simp [World.frozen?, show w.heap[b]? = _ from hbx])]
   rfl
  have hcell : ∀ j v, (x.map eB)[j]? = some v → w.drew.cell? ⟨g, j, none⟩ = some v := fun j v h => by
   rw [← htk, List.getElem?_take] at h
   split at h
   · show w.cell? _ = _
     rw [hg'.cell j]
     simpa using h
   · cases h
  have hn : (x.map eB).length = x.length := by simp
  have hdl : ((x.map eB).drop i).length = x.length - i := by rw [List.length_drop, hn]
  have HA1 := Lib.hid (show ((x.map eB).drop i).length = Nat.min (x.length + 1 - i) (x.length + 1 - (i + 1)) by rw [hdl]; show x.length - i = min (x.length + 1 - i) (x.length + 1 - (i + 1)); omega)
  have HA2 := Lib.hid (show i + 1 + ((x.map eB).drop i).length ≤ L.length by rw [hdl]; omega)
  have HA3 := Lib.hid (show ∀ v ∈ (x.map eB).drop i, v.oneCell' = true from fun v hv => by obtain ⟨u, _, rfl⟩ := List.mem_map.1 (List.mem_of_mem_drop hv); rfl)
  have HA4 := Lib.hid (show ∀ (j : Nat) (v : Value), ((x.map eB).drop i)[j]? = some v → w.drew.cell? ((⟨g, i, none⟩ : Addr).add j) = some v from fun j v hj => by
   rw [add_off]
   refine hcell _ v ?_
   rwa [List.getElem?_drop] at hj)
  obtain ⟨L1, hL1⟩ : ∃ L1, L1 = splice L (i + 1) ((x.map eB).drop i) := ⟨_, rfl⟩
  have hL1l : L1.length = cap := by rw [hL1, length_splice _ _ _ HA2.out, hL]
  have HB1 := Lib.hid (show ([eB c] : List Value).length = Nat.min 1 (x.length + 1 - i) by show 1 = min 1 (x.length + 1 - i); omega)
  have HB2 := Lib.hid (show i + ([eB c] : List Value).length ≤ L1.length by rw [hL1l]; simp; omega)
  have HB3 := Lib.hid (show ∀ v ∈ ([eB c] : List Value), v.oneCell' = true by intro v hv; obtain rfl := List.mem_singleton.1 hv; rfl)
  have Hgd := Lib.hid hgd
  have HL := Lib.hid (And.intro hL (And.intro htk (And.intro hL1l hL1)))
  have hBd : Below base w w.drew := ⟨rfl, rfl, rfl, Nat.le_refl _, fun _ _ => rfl⟩
  have hcap : decide ((cap : Int) < (x.length : Int) + 1) = false := decide_eq_false (by omega)
  have hne : ¬ ((i : Int) = (x.length : Int)) := by omega
  have hb1 : (0 : Int) ≤ (i : Int) + 1 := by omega
  have hb2 : (i : Int) + 1 ≤ (x.length : Int) + 1 := by omega
  have htn : ((i : Int) + 1).toNat = i + 1 := by omega
  have hGi : ¬ (cap = i + 1) := by omega
  have hin : (i : Int) ≤ (x.length : Int) + 1 := by omega
  have hni : ¬ (cap = i) := by omega
  have hin2 : (i : Int) ≤ (x.length : Int) := by omega
  have hm63 : cap ≤ 9223372036854775807 := by unfold maxLen at hcm; omega
  have hir : i ≤ 1000000 := by omega
  have hw1 := wrap64_succ i hir
  have hw2 := wrap_succ i hir
  have hw3 := wrap_succ x.length hreach
  clear hg hg' hgd hcell hn hdl htk hL hL1l hi0 hz0 hz1 hz2 hzs hL1
  go_enter Tryz.func117, Tryz.ntmps117
  go_wp2_with (simp only [hov])
  go_region_law (refine step_copy_else rfl (.tmp 73) (.tmp 76) 22 22 rfl 5 Tryz.underlying22 hsz g (i + 1) ⟨g, i, none⟩ (x.length + 1 - (i + 1)) (cap - (i + 1)) (x.length + 1 - i) (cap - i) (by simp [Act.eval, Act.put]) (by simp [Act.eval, Act.put]) L 5 Hgd.out ((x.map eB).drop i) HA1.out HA4.out HA2.out HA3.out base w hBd hbg ?_; intro w3 hg3 hk3 hB3)
  have hgw : Hid (w3.heap[g]? = some (.cells L1.toArray 5 (0, 0))) := Lib.hid (by rw [HL.out.2.2.2]; exact hg3.out)
  have hc4 : ∀ (j : Nat) (v : Value), ([eB c] : List Value)[j]? = some v → w3.cell? ((⟨b, 0, none⟩ : Addr).add j) = some v := by
   intro j v hj
   have hj0 : j = 0 := by
    have := (List.getElem?_eq_some_iff.1 hj).1
    simpa using this
   subst hj0
   simp at hj
   subst hj
   exact (show Boxed w3 b 5 (eB c) from (hk3.out b (fun e => hgb e.symm)).trans hbx).cell
  go_wp2_with (refine wpList_copy_splice rfl (.tmp 80) (.tmp 81) 22 22 rfl 5 Tryz.underlying22 hsz (some ⟨g, i, none⟩) (some ⟨b, 0, none⟩) (x.length + 1 - i) (cap - i) 1 1 rfl rfl g i L1 5 hgw.out [eB c] HB1.out (fun _ => ⟨rfl, _, rfl, hc4⟩) HB2.out HB3.out base w hB3 hbg ?_; intro w4 hg4 hB4)
  all_goals
   go_ret
   have hl := insW_length x i c (by omega)
   have ho : w4.ownsRow base 5 1 (.slice (some ⟨g, 0, none⟩) (x.length + 1) cap) (x.length + 1) ((insW x i c).map eB) := by
    refine ⟨by rw [List.length_map, hl, Nat.mul_one], .inr ⟨g, cap, _, rfl, hbg, hg4.out, hroom, hcm, ?_, ?_⟩⟩
    · rw [List.size_toArray, length_splice _ _ _ HB2.out, HL.out.2.2.1, Nat.mul_one]
    · rw [Nat.mul_one]
      have h := shift_take (eB c) HL.out.2.1 hi (by rw [HL.out.1]; exact hroom)
      rw [HL.out.2.2.2, h]
      simp [insW]
   exact ⟨_, rfl, by rw [Own8, hl]; exact ho, hB4⟩
theorem insert_any (x : List UInt8) (i : Nat) (c : UInt8) (h0 : 0 < x.length) (hi : i ≤ x.length) (hreach : x.length ≤ 1000000) : InsIs x i c := by
 by_cases he : i = x.length
 · subst he; exact insert_end x c h0 hreach
 · intro base v b w hbase hown hbx hap
   have hown' := hown
   rcases hown.2 with ⟨_, h⟩ | ⟨g, cap, cur, rfl, hbg, hg, hle, hcm, hcs, htk⟩
   · omega
   have hgb : g ≠ b := fun e => hap (by rw [e]; rfl)
   rw [Nat.mul_one] at hcs htk
   by_cases hroom : x.length + 1 ≤ cap
   · exact insert_shift x i c (by omega) hreach base g b cap cur.toList w hbg (by simpa using hg) (by simpa using hcs) hcm hroom htk hbx hgb
   · obtain rfl : cap = x.length := by omega
     exact insert_grow x i c (by omega) hreach base g b cur.toList w (by simpa using hg) (by rw [← htk, List.take_of_length_le (by simp; omega)]) hbx hbase
end Go.Proofs.YtkibigbcdlilkaaGreatDoor.Gp
