/- Contract of word.made. -/
import Derived.Test.YtnlndaknljbhcaaDoorWdFZ
namespace Go.Proofs.YtnlndaknljbhcaaDoor
open Go.RowKit Go.Shelf
attribute [local go_sem] Oper.semAt_some run_store_func

theorem grow_one {b : Nat} {W w1 : World} {v v' : Value} {u : Value} (hg : W.grownBy w1 v.ownBlock) (hat : v'.ownBlock = v.ownBlock ∨ v'.ownBlock = some W.heap.size) : Grow b W v (w1.setCell ⟨b, 0, none⟩ u) v' := by
  refine ⟨⟨hg.os, hg.tape, hg.output, ?_⟩, fun k hk hb hv => ?_, fun k hk => ?_⟩
  · have := hg.size
    show W.heap.size ≤ (w1.setCell _ _).heap.size
    simp [World.setCell]
    omega
  · exact (Below.heap_setCell _ _ _ k hb).trans (hg.block k hk hv)
  · rcases hat with e | e
    · exact .inl (e ▸ hk)
    · rw [e] at hk
      injection hk with hk
      exact .inr (by omega)
theorem keepsFrom_grow {B b : Nat} {W W' : World} {v v' : Value} {t : TypeId} {u : Value} {base n : Nat} {e : TypeId} {xs : List Value} (hb : Boxed W b t u) (hr : W.ownsRow base e 1 v n xs) (h : Grow b W v W' v') : KeepsFrom B W W' := by
  refine ⟨h.1.2.2.2, fun k o _ hk hc => ?_⟩
  have hlt := (Array.getElem?_eq_some_iff.1 hk).1
  refine (h.2.1 k hlt (fun e' => ?_) (fun e' => ?_)).trans hk
  · subst e'
    rw [show W.heap[k]? = _ from hb] at hk
    cases hk
    cases hc
  · rcases hr.2 with ⟨rfl, _⟩ | ⟨g, cap, cur, rfl, _, hg, _⟩
    · cases e'
    · cases e'
      rw [hg] at hk
      cases hk
      cases hc
set_option maxRecDepth 100000 in
set_option maxHeartbeats 2000000 in
theorem wput_any (b3 base : Nat) (v : Value) (ys : List UInt8) (sv : Value) (p : List UInt8) (W : World) (hv : Boxed W b3 22 v) (hrow : W.ownsRow base 5 1 v ys.length (ys.map eB)) (hS : Sl eB W.heap.size W sv p) (hl : ys.length + p.length ≤ 1000000) (hbase : base ≤ W.heap.size) :
    Calls Tryd.prog 52 #[sv, .pointer (some ⟨b3, 0, none⟩)] W fun e w' => e = .returned (.tuple #[]) ∧ ∃ v', Boxed w' b3 22 v' ∧ w'.ownsRow base 5 1 v' (ys ++ p).length ((ys ++ p).map eB) ∧ Grow b3 W v w' v' := by
  obtain ⟨i0, hi, hz0, hz1, hz2⟩ := info_parts info_u8
  obtain ⟨A, c, rfl⟩ := hS.len
  obtain ⟨A', l', c', rfl⟩ := own_shape hrow
  have q1 : ys.length + p.length ≤ maxLen := by unfold maxLen; omega
  have q2 : (ys.length + p.length) * 1 ≤ 140737488355328 := by omega
  have hc := hv.cell
  have hnr := hv.not_row (by decide) hrow
  clear hl
  go_enter Tryd.func52, Tryd.ntmps52
  go_wp2_with
    (at_builtin
     refine wpList_append_sl _ rfl (.tmp 3) (.tmp 4) _ rfl base 5 i0 (.int .u8 0) 1 Tryd.underlying22 hi hz0 hz1 hz2 rfl _ ys.length _ hrow rfl W.heap.size _ p hS rfl (fun _ => rfl) q1 q2 hbase ?_
     intro v1 w1 hown1 hg1 hat1
     have hb2 : Boxed w1 b3 22 _ := Boxed.kept hv hg1 hnr
     have cb2 := hb2.cell
     have fb2 := hb2.frozen
     have hnr2 := hb2.not_row (by decide) hown1
     obtain ⟨A1, l1, c1, rfl⟩ := own_shape hown1)
  go_end0
  have hb3 := hb2.set (.slice A1 l1 c1)
  have hown3 := hown1.kept (grownBy_setCell' w1 b3 (.slice A1 l1 c1)) (.inr hnr2.symm)
  exact ⟨rfl, _, hb3, by rw [List.length_append, List.map_append]; exact hown3, grow_one hg1 hat1⟩
theorem WLong_any (n : Nat) (w : World) : ∃ z : Int, ((z = -1 ∧ ¬ (2 ≤ n ∧ n ≤ 800)) ∨ (z = (wlongN n : Nat) ∧ 2 ≤ n ∧ n ≤ 800 ∧ wlongN n ≤ 10000)) ∧
    Calls Tryd.prog 20 #[.int .i64 n] w fun e w' => e = .returned (.int .i64 z) ∧ Below w.heap.size w w' := by
  by_cases h : 2 ≤ n ∧ n ≤ 800
  · have hl : longN n ≤ 1000 := by
      have := tb_le n (by omega)
      have := wb_le n (by omega)
      unfold longN zb
      omega
    exact ⟨_, .inr ⟨rfl, h.1, h.2, by unfold wlongN; omega⟩, WLong_yes n h.1 h.2 hl w⟩
  · exact ⟨-1, .inl ⟨rfl, h⟩, (WLong_no n (by omega) w).mono fun e w' ⟨he, hw⟩ => ⟨he, hw ▸ Below.refl _ _⟩⟩
theorem ownFrom_keep2 {β : Type} {N B g1 g2 : Nat} {w₀ : World} (h1 : N ≤ w₀.heap.size) (h2 : N ≤ B) : OwnFrom B (fun (_ : β) W => Keep2 N g1 g2 w₀ W) :=
  fun _ X Y row hs hg hr => ⟨Nat.le_trans hs.1 hg.size, fun k hk a b => (hg.block k (by have := hs.1; omega) (fun e => by have := (hr k e.symm).1; omega)).trans (hs.2 k hk a b)⟩
theorem own_below {W W' : World} {base n : Nat} {e : TypeId} {v : Value} {xs : List Value} (h : W.ownsRow base e 1 v n xs) (hB : Below W.heap.size W W') : W'.ownsRow base e 1 v n xs := by
  refine ⟨h.1, ?_⟩
  rcases h.2 with h0 | ⟨g, cap, cur, e1, e2, e3, e4⟩
  · exact .inl h0
  · exact .inr ⟨g, cap, cur, e1, e2, (hB.block g (Array.getElem?_eq_some_iff.1 e3).1).trans e3, e4⟩
theorem sl_block {B : Nat} {W : World} {sv : Value} {x : List UInt8} (h : Sl eB B W sv x) (h0 : 0 < x.length) : ∀ k, sv.ownBlock = some k → k < B := by
  obtain ⟨A, c, rfl, hc, hcs⟩ := h
  obtain ⟨b, off, rfl, hb, -⟩ := hcs h0
  intro k hk
  cases hk
  exact hb
theorem wfG_ok {x f : List UInt8} (h : wfG x = .ok f) : (2 ≤ x.length ∧ x.length ≤ 800) ∧ f.length = longN x.length ∧ 2 ≤ f.length ∧ ∃ a b c, sumsG x = .ok (a, b, c) ∧ f = fldL x a b c := by
  unfold wfG at h
  split at h
  · rename_i h0
    split at h
    · cases h
    · rename_i a b c hs
      injection h with h
      refine ⟨h0, by rw [← h, fldL_length], ?_, a, b, c, hs, h.symm⟩
      rw [← h, fldL_length]
      unfold longN
      omega
  · cases h
theorem flat_le {pre : List (List UInt8)} {p : List UInt8} {xs : List (List UInt8)} (h : pre ++ [p] <+: xs) : pre.flatten.length + p.length ≤ xs.flatten.length := by
  obtain ⟨t, rfl⟩ := h
  simp
theorem flat_word (x f : List UInt8) : [x, [juncL x f], f, f, f].flatten = wordL x f := by simp [wordL]
end Go.Proofs.YtnlndaknljbhcaaDoor
/- Contract of word.made. -/
namespace Go.Proofs.YtnlndaknljbhcaaDoor
open Go.RowKit Go.Shelf
attribute [local go_sem] Oper.semAt_some run_store_func

/-- What made does. -/
abbrev MadeIs (x : List UInt8) (w : World) : Ending → World → Prop := fun e w' => Below w.heap.size w w' ∧
  ((∃ f v, wfG x = .ok f ∧ e = .returned v ∧ Sl eB w'.heap.size w' v (wordL x f) ∧ ∀ k, v.ownBlock = some k → w.heap.size ≤ k) ∨ ∃ m, wfG x = .error m ∧ e = .panicked (errno m))
theorem made_room (L : Nat) (hL : L ≤ 10000) : ∃ C : Array Value, C.size = L ∧ ∀ w, (Instr.makeSlice 22 (.int .i64 0) (.int .i64 (L : Int))).run Tryd.prog w = .ok (.slice (some ⟨w.heap.size, 0, none⟩) 0 L) (w.alloc (.cells C 5)) := by
  obtain ⟨i0, hi, hz0, hz1, hz2⟩ := info_parts info_u8
  refine ⟨madeCells (Value.cells (.int .u8 0)) (L * i0.size), by simp [madeCells, hz1, Value.cells], fun w => ?_⟩
  have := run_make w 22 5 i0 (.int .u8 0) Tryd.underlying22 hi hz0 .i64 .i64 0 (L : Int) (by omega) (by omega) (by rw [hz2]; omega) (by omega)
  simpa using this
set_option maxRecDepth 100000 in
set_option maxHeartbeats 4000000 in
theorem made_any (sv : Value) (x : List UInt8) (w : World) (hT : Tab w) (hTB : TabB w) (hS : Sl eB w.heap.size w sv x) :
    Calls Tryd.prog 32 #[sv] w (MadeIs x w) := by
  have hmf : ∀ (fn : Fn) (first cap : Array Value) (w : World), (Instr.makeFunc fn first cap).run Tryd.prog w = .ok (.func fn first cap) w := fun _ _ _ _ => rfl
  obtain ⟨z, hz, hLg⟩ := WLong_any x.length w
  obtain ⟨A, c, rfl⟩ := hS.len
  have hFl := fun w h h2 h3 => field_any (.slice A x.length c) x w h h2 h3
  refine (callsIn_wide (n := 5)).1 ?_
  refine callsIn_of_wp_marks Tryd.func32 rfl trivial ?_ rfl
  simp only [Tryd.ntmps32, List.size_toArray, List.length_cons, List.length_nil, Nat.reduceAdd, Nat.reduceSub, Array.replicate_succ, Array.replicate_zero, List.push_toArray, List.append_toArray, List.nil_append, List.cons_append]
  gi_wp2_with fail
  refine ⟨trivial, ?_⟩
  gi_at_call 20
  refine (callsIn_wide.2 hLg).mono ?_
  rintro e w1 ⟨rfl, hB1⟩
  have hT1 := hT.below hB1
  have hTB1 := hTB.below hB1
  have hS1 := hS.next hB1
  clear hLg
  rcases hz with ⟨rfl, hno⟩ | ⟨rfl, h2, h8, hwl⟩
  · obtain ⟨C, hC, hmk⟩ := made_room 0 (by omega)
    have hmx : max (-1 : Int) 0 = 0 := by decide
    have hmk0 : ∀ w, (Instr.makeSlice 22 (.int .i64 0) (.int .i64 0)).run Tryd.prog w = .ok (.slice (some ⟨w.heap.size, 0, none⟩) 0 0) (w.alloc (.cells C 5)) := hmk
    have hA2 : Below w1.heap.size w1 (((w1.alloc (.cells C 5)).alloc (.cells #[.slice (some ⟨w1.heap.size, 0, none⟩) 0 0] 22)).alloc (.cells #[.func (.func 52) #[] #[.pointer (some ⟨w1.heap.size + 1, 0, none⟩)]] 58)) :=
      (((Below.refl _ w1).alloc (Nat.le_refl _) _).alloc (by simp) _).alloc (by simp; omega) _
    have hG : wfG x = .error 2 := by unfold wfG; rw [if_neg hno]
    have HG := Lib.hid hG
    clear hG hno hmk
    gi_wp2_with fail
    refine ⟨trivial, ?_⟩
    refine (callsIn_wide.2 (hFl _ (hT1.below hA2) (hTB1.below hA2) (hS1.next hA2))).mono ?_
    rintro e w3 ⟨hB3, ⟨f, v, hf, rfl, hv, hfr⟩ | ⟨m, hm, rfl⟩⟩
    · rw [HG.out] at hf; cases hf
    · exact ⟨below_trans (below_trans hB1 hA2) hB3, .inr ⟨m, hm, rfl⟩⟩
  · obtain ⟨C, hC, hmk⟩ := made_room (wlongN x.length) hwl
    have hA2 : Below w1.heap.size w1 (((w1.alloc (.cells C 5)).alloc (.cells #[.slice (some ⟨w1.heap.size, 0, none⟩) 0 (wlongN x.length)] 22)).alloc (.cells #[.func (.func 52) #[] #[.pointer (some ⟨w1.heap.size + 1, 0, none⟩)]] 58)) :=
      (((Below.refl _ w1).alloc (Nat.le_refl _) _).alloc (by simp) _).alloc (by simp; omega) _
    have hrow0 : (w1.alloc (.cells C 5)).ownsRow w1.heap.size 5 1 (.slice (some ⟨w1.heap.size, 0, none⟩) 0 (wlongN x.length)) 0 [] := World.ownsRow_made w1 C (wlongN x.length) (Nat.le_refl _) (by unfold maxLen; omega) (by omega)
    have hrow := (hrow0.alloc (.cells #[.slice (some ⟨w1.heap.size, 0, none⟩) 0 (wlongN x.length)] 22)).alloc (.cells #[.func (.func 52) #[] #[.pointer (some ⟨w1.heap.size + 1, 0, none⟩)]] 58)
    clear hrow0
    have hb3 := (Boxed.new (w1.alloc (.cells C 5)) 22 (.slice (some ⟨w1.heap.size, 0, none⟩) 0 (wlongN x.length))).alloc (.cells #[.func (.func 52) #[] #[.pointer (some ⟨w1.heap.size + 1, 0, none⟩)]] 58)
    have hb4 := Boxed.new ((w1.alloc (.cells C 5)).alloc (.cells #[.slice (some ⟨w1.heap.size, 0, none⟩) 0 (wlongN x.length)] 22)) 58 (.func (.func 52) #[] #[.pointer (some ⟨w1.heap.size + 1, 0, none⟩)])
    simp only [World.size_alloc] at hb3 hb4
    have hs2 : (((w1.alloc (.cells C 5)).alloc (.cells #[.slice (some ⟨w1.heap.size, 0, none⟩) 0 (wlongN x.length)] 22)).alloc (.cells #[.func (.func 52) #[] #[.pointer (some ⟨w1.heap.size + 1, 0, none⟩)]] 58)).heap.size = w1.heap.size + 3 := by simp
    have Hl := Lib.hid (And.intro h2 (And.intro h8 hwl))
    have hBw1 := Lib.hid hB1
    clear h2 h8 hwl hC hB1
    obtain ⟨L, hL⟩ : ∃ L, wlongN x.length = L := ⟨_, rfl⟩
    have HL := Lib.hid hL
    rw [hL] at hmk hA2 hrow hb3 hb4 hs2 Hl ⊢
    clear hL
    gi_wp2_with fail
    refine ⟨trivial, ?_⟩
    generalize ((w1.alloc (.cells C 5)).alloc (.cells #[.slice (some ⟨w1.heap.size, 0, none⟩) 0 L] 22)).alloc (.cells #[.func (.func 52) #[] #[.pointer (some ⟨w1.heap.size + 1, 0, none⟩)]] 58) = w2 at *
    refine (callsIn_wide.2 (hFl _ (hT1.below hA2) (hTB1.below hA2) (hS1.next hA2))).mono ?_
    rintro e w3 ⟨hB3, ⟨f, v, hf, rfl, hv, hfr⟩ | ⟨m, hm, rfl⟩⟩
    · obtain ⟨Af, cf, rfl⟩ := hv.len
      have hP := parts_any (.slice A x.length c) (.slice Af f.length cf) ⟨_, _, _, rfl⟩ ⟨_, _, _, rfl⟩ w3
      gi_wp2_with fail
      refine ⟨trivial, ?_⟩
      refine (callsIn_wide.2 hP).mono ?_
      rintro e w' ⟨rfl, rfl⟩
      gi_wp2_with fail
      have hA4 : Below w3.heap.size w3 ((w3.alloc (.cells #[.slice A x.length c] 22)).alloc (.cells #[.slice (Af) f.length cf] 22)) := ((Below.refl _ w3).alloc (Nat.le_refl _) _).alloc (by simp) _
      have k1 := (Boxed.new w3 22 (.slice A x.length c)).alloc (.cells #[.slice (Af) f.length cf] 22)
      have k2 := Boxed.new (w3.alloc (.cells #[.slice A x.length c] 22)) 22 (.slice Af f.length cf)
      simp only [World.size_alloc] at k2
      have hs4 : ((w3.alloc (.cells #[.slice A x.length c] 22)).alloc (.cells #[.slice (Af) f.length cf] 22)).heap.size = w3.heap.size + 2 := by simp
      generalize (w3.alloc (.cells #[.slice A x.length c] 22)).alloc (.cells #[.slice (Af) f.length cf] 22) = w4 at *
      have hs3 := hB3.size
      have hsw := hBw1.out.size
      have htl := hT.lt
      have hB24 := below_trans hB3 hA4
      have hT4 := (hT1.below hA2).below hB24
      have hS4 := (hS1.next hA2).next hB24
      have hv4 := hv.next hA4
      have nx := sl_block hS1 (by have := Hl.out.1; omega)
      obtain ⟨-, hfl, hf2, -⟩ := wfG_ok hf
      have hb3' : Boxed w4 (w1.heap.size + 1) 22 (.slice (some ⟨w1.heap.size, 0, none⟩) 0 L) := (hB24.block _ hb3.lt).trans hb3
      have hb4' : Boxed w4 (w1.heap.size + 1 + 1) 58 (.func (.func 52) #[] #[.pointer (some ⟨w1.heap.size + 1, 0, none⟩)]) := (hB24.block _ hb4.lt).trans hb4
      have hrow' := own_below hrow hB24
      have hBw := below_trans hA2 hB24
      have hwl : (wordL x f).length ≤ 10000 := by
        rw [wordL_length x f hfl, HL.out]
        exact Hl.out.2.2
      have hseq := parts_seq w4.heap.size w3.heap.size (w3.heap.size + 1) (w1.heap.size + 1) w1.heap.size (.slice A x.length c) (.slice Af f.length cf) x f (by have := Hl.out.1; omega) (by have := Hl.out.2.1; omega) (by omega) w4 (Nat.le_refl _) (by omega) (by omega) ⟨by omega, by omega⟩ ⟨by omega, by omega⟩
        k1.cell k2.cell hS4 hv4 (fun k hk => by have := nx k hk; omega) (fun k hk => by have := hfr k hk; omega) hT4 (by omega) (by omega) (by omega)
      have Hf := Lib.hid hf
      have Hwl := Lib.hid hwl
      have Hfr := Lib.hid hsw
      clear hf hwl hfl hf2 hS hS1 hS4 hv hv4 hT hT1 hT4 hTB hTB1 hFl hfr nx k1 k2 hb3 hb4 hrow hP htl hmk hA2 hB24 hsw hmf
      refine wpIn_range_V (gf := 65) (lb := #[.pointer (some ⟨w3.heap.size, 0, none⟩), .pointer (some ⟨w3.heap.size + 1, 0, none⟩)]) (encs := fun v : Value => #[v]) rfl rfl trivial rfl (enters_of Tryd.func65 (by kernel_rfl) rfl) hseq (fun _ _ _ => keep2_t)
        (fun W l o o' hl ho hc => ⟨by simp [World.putObj], fun k hk _ _ => World.putObj_heap_other (by omega)⟩)
        (fun p y W l o r hl ho hc hE => ?enc) (Below.refl _ _) (fun _ => rfl)
        (fun (pre : List (List UInt8)) W => (∃ v, Boxed W (w1.heap.size + 1) 22 v ∧ W.ownsRow w1.heap.size 5 1 v pre.flatten.length (pre.flatten.map eB) ∧ ∀ k, v.ownBlock = some k → k = w1.heap.size ∨ w4.heap.size ≤ k) ∧ (Keep2 w4.heap.size (w1.heap.size + 1) w1.heap.size w4 W ∧ Below w1.heap.size w1 W))
        (OwnFrom.and (Own.from (holdsRow_own w1.heap.size (w1.heap.size + 1) 22 5 1 (fun (pre : List (List UInt8)) => pre.flatten.length) (fun (pre : List (List UInt8)) => pre.flatten.map eB) (fun _ v => ∀ k, v.ownBlock = some k → k = w1.heap.size ∨ w4.heap.size ≤ k)) _)
          (OwnFrom.and (ownFrom_keep2 (Nat.le_refl _) (Nat.le_refl _)) (ownFrom_below (Nat.le_refl _) (by omega))))
        ⟨⟨_, hb3', hrow', fun k hk => .inl (by cases hk; rfl)⟩, keep2_r _ _ _ _, hBw⟩
        (fun y => { tmps := #[.slice A x.length c, undef, .slice none 0 0, .pointer (some ⟨w1.heap.size + 1, 0, none⟩), .pointer (some ⟨w1.heap.size + 1 + 1, 0, none⟩), y, .slice A x.length c, .int .i64 x.length, .int .i64 L, .int .i64 L, .slice (some ⟨w1.heap.size, 0, none⟩) 0 L, .func (.func 52) #[] #[.pointer (some ⟨w1.heap.size + 1, 0, none⟩)], .slice A x.length c, .slice A x.length c, .slice Af f.length cf, .func (.func 65) #[] #[.pointer (some ⟨w3.heap.size, 0, none⟩), .pointer (some ⟨w3.heap.size + 1, 0, none⟩)], y, undef, undef, undef, undef], defers := [] })
        ?assign ?body ?done
      case enc =>
        have hsz : (W.putObj l (.loop r)).heap.size = W.heap.size := by simp [World.putObj]
        rw [hsz]
        refine hE.of_cells fun q hq => ?_
        unfold World.cell?
        by_cases e : q.block = l
        · rw [e, ho, World.putObj_heap_same (by rw [← e]; exact hq)]
          cases o <;> first | rfl | cases hc
        · rw [World.putObj_heap_other e]
      case assign =>
        intro l y W K hK
        gi_wp2
        exact hK
      case body =>
        rintro l pre p y W ⟨⟨v, hv, hrow, hvb⟩, hK, hBW⟩ hpre hE
        have hpl := flat_le hpre
        rw [flat_word] at hpl
        have hp6 : pre.flatten.length + p.length ≤ 1000000 := by have := Hwl.out; omega
        obtain ⟨Ay, cy, rfl⟩ := hE.len
        have hput := wput_any (w1.heap.size + 1) w1.heap.size v pre.flatten _ p W hv hrow hE hp6 hBW.size
        have h4 : Boxed W (w1.heap.size + 1 + 1) 58 (.func (.func 52) #[] #[.pointer (some ⟨w1.heap.size + 1, 0, none⟩)]) := (hK.2 _ (by omega) (by omega) (by omega)).trans hb4'
        have c4 := h4.cell
        clear h4
        have hKW := hK.1
        have Hh := Lib.hid (And.intro hv (And.intro hrow (And.intro hvb (And.intro hK hBW))))
        clear hpre hpl hp6 hE hv hrow hvb hK hBW hseq hb3' hb4' hrow'
        gi_wp2_with fail
        refine ⟨trivial, ?_⟩
        refine (callsIn_wide.2 hput).mono ?_
        rintro e W' ⟨rfl, v', hv', hrow', hG⟩
        obtain ⟨hv, hrow, hvb, hK, hBW⟩ := Hh.out
        gi_wp2_with fail
        have hKK : Keep2 w4.heap.size (w1.heap.size + 1) w1.heap.size W W' := ⟨hG.1.2.2.2, fun k hk a b => hG.2.1 k (by omega) a (fun e => by rcases hvb k e.symm with h | h <;> omega)⟩
        refine ⟨keepsFrom_grow hv hrow hG, hKK, ⟨v', hv', by simpa using hrow', fun k hk => ?_⟩, keep2_t hK hKK, below_grow hG hBW hBW.size (by omega) (fun k hk => own_base hrow k hk)⟩
        rcases hG.2.2 k hk with h | h
        · exact hvb k h
        · exact .inr (by omega)
      case done =>
        rintro D W hD ⟨⟨v, hv, hrow, hvb⟩, hK, hBW⟩ hk
        rw [flat_word] at hrow
        obtain ⟨Av, lv, cv, rfl⟩ := own_shape hrow
        have hc := hv.cell
        clear hseq hb3' hb4' hrow'
        gi_wp2
        refine ⟨by simp, .inl ⟨_, _, rfl, run_takeDeferred hk, ?_⟩⟩
        refine ⟨_, results_tmp rfl _ _ _, below_trans hBw1.out (hBW.trans (belowK_b (w := w1) (Nat.le_refl _) W D _ (.deferred none) (by omega) hk rfl rfl)), .inl ⟨f, .slice Av lv cv, Hf.out, rfl, Sl.of_own (ownsRow_putObj hrow _ hk rfl), fun k hk => Nat.le_trans Hfr.out (own_base hrow k hk)⟩⟩
    · exact ⟨below_trans (below_trans hBw1.out hA2) hB3, .inr ⟨m, hm, rfl⟩⟩
end Go.Proofs.YtnlndaknljbhcaaDoor
