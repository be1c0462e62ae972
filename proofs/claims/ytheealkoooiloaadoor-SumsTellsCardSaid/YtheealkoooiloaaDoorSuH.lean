/- Contracts of sums.pack and Pack. -/
import Derived.Test.YtheealkoooiloaaDoorSuG
import Derived.Deep.RegionLaw
namespace Go.Proofs.YtheealkoooiloaaDoor
open Go.RowKit Go.Shelf
attribute [local go_sem] Oper.semAt_some run_store_func

/-- The bits of a number, the greatest first. -/
def bitsOf (x wd : Nat) : List UInt8 := (List.range wd).map fun i => UInt8.ofNat (x / 2 ^ (wd - 1 - i) % 2)
theorem bitsOf_length (x wd : Nat) : (bitsOf x wd).length = wd := by simp [bitsOf]
theorem bitsOf_snoc (x wd k : Nat) (h : k < wd) : (bitsOf x wd).take (k + 1) = (bitsOf x wd).take k ++ [UInt8.ofNat (x / 2 ^ (wd - 1 - k) % 2)] := by
  rw [List.take_succ_eq_append_getElem (by rw [bitsOf_length]; exact h)]
  simp [bitsOf]
/-- A row of one's own grows, its box is set; all other blocks stay. -/
def Grow (b : Nat) (W : World) (v : Value) (W' : World) (v' : Value) : Prop :=
  (W'.os = W.os ∧ W'.tape = W.tape ∧ W'.output = W.output ∧ W.heap.size ≤ W'.heap.size) ∧ (∀ k, k < W.heap.size → k ≠ b → some k ≠ v.ownBlock → W'.heap[k]? = W.heap[k]?) ∧ (∀ k, v'.ownBlock = some k → v.ownBlock = some k ∨ W.heap.size ≤ k)
theorem grow_r (b : Nat) (W : World) (v : Value) : Grow b W v W v := ⟨⟨rfl, rfl, rfl, Nat.le_refl _⟩, fun _ _ _ _ => rfl, fun _ h => .inl h⟩
theorem grow_t {b : Nat} {X Y Z : World} {u v z : Value} (h : Grow b X u Y v) (k : Grow b Y v Z z) : Grow b X u Z z := by
  obtain ⟨⟨h1, h2, h3, h4⟩, h5, h6⟩ := h
  obtain ⟨⟨k1, k2, k3, k4⟩, k5, k6⟩ := k
  refine ⟨⟨k1.trans h1, k2.trans h2, k3.trans h3, by omega⟩, fun i hi hb hv => ?_, fun i hi => ?_⟩
  · refine (k5 i (by omega) hb (fun e => ?_)).trans (h5 i hi hb hv)
    rcases h6 i e.symm with e' | e'
    · exact hv e'.symm
    · omega
  · rcases k6 i hi with e | e
    · exact h6 i e
    · exact .inr (by omega)
theorem grow_step {b : Nat} {W w1 : World} {v v' : Value} {o : Obj} {u : Value} (hg : (W.alloc o).grownBy w1 v.ownBlock) (hat : v'.ownBlock = v.ownBlock ∨ v'.ownBlock = some (W.alloc o).heap.size) : Grow b W v (w1.setCell ⟨b, 0, none⟩ u) v' := by
  refine ⟨⟨hg.os, hg.tape, hg.output, ?_⟩, fun k hk hb hv => ?_, fun k hk => ?_⟩
  · have := hg.size
    simp at this
    show W.heap.size ≤ (w1.setCell _ _).heap.size
    simp [World.setCell]
    omega
  · refine (Below.heap_setCell _ _ _ k hb).trans ((hg.block k (by simp; omega) hv).trans (Below.heap_alloc _ _ _ hk))
  · rcases hat with e | e
    · exact .inl (e ▸ hk)
    · rw [e] at hk
      simp at hk
      exact .inr (by omega)
theorem step_append_sl {α : Type} {enc : α → Value} {P : Program} (w : World) {ops : Array Oper} {o : Oper} {a : Act} {K : Act → World → Prop} {Q : Exit → Act → World → Prop} {E : Prop} (hgd : o.guard = none) (s x : Operand) (t : TypeId)
    (ho : o.op = .call { callee := .builtin .append, args := #[s, x], argTypes := #[t, t] })
    (base : Nat) (e : TypeId) (i : TypeInfo) (z : Value) (bytes : Nat) (ht : P.underlying t = some (.slice e)) (hi : P.info? e = some i) (hz : i.zero = some z)
    (hsize : i.size = 1) (hby : i.bytes = bytes) (hzs : z.cells.size = 1) (v : Value) (n : Nat) (ys : List Value) (hown : w.ownsRow base e 1 v n ys) (hv : a.eval s = v)
    (B : Nat) (sv : Value) (xs : List α) (hs : Sl enc B w sv xs) (hx : a.eval x = sv) (h1 : ∀ x, (enc x).oneCell' = true)
    (h63 : n + xs.length ≤ maxLen) (hbytes : (n + xs.length) * bytes ≤ 140737488355328) (hbase : base ≤ w.heap.size)
    (h : ∀ v' w', w'.ownsRow base e 1 v' (n + xs.length) (ys ++ xs.map enc) → w.grownBy w' v.ownBlock → (v'.ownBlock = v.ownBlock ∨ v'.ownBlock = some w.heap.size) → K (a.put o.dst v') w') :
    if Region.wanted o (yielded ops a.tmps) = true then Oper.wp P o a w K Q else E := by
  have hw : Region.wanted o (yielded ops a.tmps) = true := by simp [Region.wanted, hgd]
  rw [if_pos hw]
  obtain ⟨v', w', hrun, r1, r2, r3⟩ := run_append_sl (P := P) w base t o.type e i z bytes ht hi hz hsize hby hzs v n ys hown B sv xs hs h1 h63 hbytes hbase
  unfold Oper.wp execOp
  simp only [ho, resolve, invoke, builtin, Sem.run_bind, Sem.run_pure, Result.andThen_ok, List.map_toArray, List.map_cons, List.map_nil, hv, hx, hrun]
  exact h v' w' r1 r2 r3

theorem bits_ops (x i : Nat) : IntKind.u8.wrap (bits .and .i64 ((x : Int) / 2 ^ i) 1) = ((UInt8.ofNat (x / 2 ^ i % 2)).toNat : Int) := by
  rw [bits_and1]
  have : ((x : Int) / 2 ^ i) % 2 = ((x / 2 ^ i % 2 : Nat) : Int) := by norm_cast
  rw [this, IntWalk.u8_in _ (by omega)]
  simp
  omega
theorem info_u8 : (Tryd.prog.info? 5).map (fun i => (i.zero, i.size, i.bytes)) = some (some (.int .u8 0), 1, 1) := by kernel_rfl
set_option maxRecDepth 100000 in
set_option maxHeartbeats 4000000 in
theorem put_any (x wd b3 k : Nat) (hwd : wd ≤ 20) (hk : k ≤ 1000) (v : Value) (bs : List UInt8) (W : World) (hv : Boxed W b3 22 v) (hrow : W.ownsRow 0 5 1 v k (bs.map eB)) :
    Calls Tryd.prog 41 #[.int .i64 x, .int .i64 wd, .pointer (some ⟨b3, 0, none⟩)] W fun e w' => e = .returned (.tuple #[]) ∧ ∃ v', Boxed w' b3 22 v' ∧ w'.ownsRow 0 5 1 v' (k + wd) ((bs ++ bitsOf x wd).map eB) ∧ Grow b3 W v w' v' := by
  obtain ⟨i0, hi, hz0, hz1, hz2⟩ := info_parts info_u8
  have e0 : IntKind.i64.wrap ((wd : Int) - 1) = (wd : Int) - 1 := IntWalk.i64_in _ (by omega)
  go_enter Tryd.func41, Tryd.ntmps41
  go_wp2_with fail
  go_loopw [5] (fun i wr => ∃ (j : Nat) (u : Value), j ≤ wd ∧ i = .int .i64 ((wd : Int) - 1 - j) ∧ Boxed wr b3 22 u ∧ wr.ownsRow 0 5 1 u (k + j) ((bs ++ (bitsOf x wd).take j).map eB) ∧ Grow b3 W v wr u) (fun i _ => (intOf i + 1).toNat)
  case atStart => exact ⟨0, v, Nat.zero_le _, by simp, hv, by simpa using hrow, grow_r _ _ _⟩
  case round =>
    obtain ⟨j, u, hj, rfl, hb, hr, hG⟩ := hrel
    by_cases hlt : j < wd
    · have d0 : decide (0 ≤ (wd : Int) - 1 - j) = true := decide_eq_true (by omega)
      have H := Lib.hid (bitsOf_snoc x wd j hlt)
      obtain ⟨p, hp⟩ : ∃ p : Nat, (wd : Int) - 1 - j = p := ⟨wd - 1 - j, by omega⟩
      have hpn : wd - 1 - j = p := by omega
      have hnext : IntKind.i64.wrap ((p : Int) - 1) = (wd : Int) - 1 - (j + 1 : Nat) := by rw [IntWalk.i64_in _ (by omega)]; omega
      have hp32 : p < 32 := by omega
      rw [hpn] at H
      rw [hp] at d0 ⊢
      have Hp := Lib.hid hp
      clear hp hpn
      have hbo := bits_ops x p
      generalize UInt8.ofNat (x / 2 ^ p % 2) = y at *
      have hb1 := hb.alloc (.cells #[eB y] 5)
      have cb0 : wr.drew.cell? ⟨b3, 0, none⟩ = some u := hb.cell
      have cb1 : (wr.alloc (.cells #[eB y] 5)).drew.cell? ⟨b3, 0, none⟩ = some u := hb1.cell
      have hrow' : (wr.alloc (.cells #[eB y] 5)).drew.ownsRow 0 5 1 u (k + j) ((bs ++ (bitsOf x wd).take j).map eB) := hr.alloc _
      have hone : Sl eB (wr.alloc (.cells #[eB y] 5)).drew.heap.size (wr.alloc (.cells #[eB y] 5)).drew (.slice (some ⟨wr.heap.size, 0, none⟩) 1 1) [y] :=
        Sl.new eB wr [y] #[eB y] 5 (0, 0) 1 1 rfl (Nat.le_refl _) (by simp)
      have q1 : k + j + [y].length ≤ maxLen := by unfold maxLen; simp; omega
      have q2 : (k + j + [y].length) * 1 ≤ 140737488355328 := by simp; omega
      have hnr := hb1.not_row (by decide) hrow'
      go_wp2_with fail
      go_region_law (refine step_append_sl _ rfl (.tmp 12) (.tmp 18) _ rfl 0 5 i0 (.int .u8 0) 1 Tryd.underlying22 hi hz0 hz1 hz2 rfl _ (k + j) _ hrow' rfl _ _ [y] hone rfl (fun _ => rfl) q1 q2 (Nat.zero_le _) ?_
                     intro v' w1 hown' hgrow hat'
                     have hgr2 : (wr.alloc (.cells #[eB y] 5)).grownBy w1 u.ownBlock := ⟨hgrow.os, hgrow.tape, hgrow.output, hgrow.size, hgrow.block⟩
                     have hown2 : w1.ownsRow 0 5 1 v' (k + j + 1) (((bs ++ (bitsOf x wd).take j).map eB) ++ [y].map eB) := hown'
                     obtain ⟨g', cap', rfl⟩ := ownsRow_succ hown2
                     have hb2 : Boxed w1 b3 22 u := Boxed.kept hb1 hgr2 hnr
                     have cb2 := hb2.cell
                     have fb2 := hb2.frozen)
      all_goals
        have hnr2 := hb2.not_row (by decide) hown2
        have hb3 := hb2.set (.slice (some ⟨g', 0, none⟩) (k + j + 1) cap')
        have hown3 := hown2.kept (grownBy_setCell' w1 b3 (.slice (some ⟨g', 0, none⟩) (k + j + 1) cap')) (.inr hnr2.symm)
        have hG2 := grow_t hG (grow_step (b := b3) (u := .slice (some ⟨g', 0, none⟩) (k + j + 1) cap') hgr2 hat')
        clear hown' hown2 hgrow hgr2 hone hrow' cb0 cb1 cb2 fb2 hb1 hb2 hat'
        go_wp2_with fail
        refine ⟨⟨j + 1, _, by omega, by rw [Int.natCast_add]; rfl, hb3, ?_, hG2⟩, ?_⟩
        · rw [H.out]
          rw [← Nat.add_assoc]
          simpa using hown3
        · have hpp := Hp.out
          simp only [intOf]
          clear hnext d0
          omega
    · obtain rfl : j = wd := by omega
      have d0 : decide (0 ≤ (j : Int) - 1 - j) = false := decide_eq_false (by omega)
      have hl : (bitsOf x j).take j = bitsOf x j := List.take_of_length_le (by rw [bitsOf_length]; exact Nat.le_refl _)
      rw [hl] at hr
      clear hl
      go_wp2_with fail
      go_end0
      exact ⟨rfl, u, hb, hr, hG⟩
end Go.Proofs.YtheealkoooiloaaDoor
