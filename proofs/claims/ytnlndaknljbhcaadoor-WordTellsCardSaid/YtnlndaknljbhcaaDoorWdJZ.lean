/- Contracts of word.Make and word.Field. -/
import Derived.Test.YtnlndaknljbhcaaDoorWdHZ
namespace Go.Proofs.YtnlndaknljbhcaaDoor
open Go.RowKit Go.Shelf
attribute [local go_sem] Oper.semAt_some run_store_func

theorem sl_set1 {W : World} {v : Value} {xs : List UInt8} {b : Nat} (h : Sl eB W.heap.size W v xs) (hn : ∀ k, v.ownBlock = some k → k ≠ b) (j : Nat) (u : Value) : Sl eB (W.setCell ⟨b, j, none⟩ u).heap.size (W.setCell ⟨b, j, none⟩ u) v xs := by
  have hs : (W.setCell ⟨b, j, none⟩ u).heap.size = W.heap.size := by simp [World.setCell]
  rw [hs]
  obtain ⟨A, c, rfl, hc, hcs⟩ := h
  refine ⟨A, c, rfl, hc, fun h0 => ?_⟩
  obtain ⟨g, off, rfl, hg, hcell⟩ := hcs h0
  have hb := hn g rfl
  exact ⟨g, off, rfl, hg, fun i y hy => (World.cell?_of_block (w := W) (Below.heap_setCell _ _ _ _ (by show g ≠ b; exact hb))).trans (hcell i y hy)⟩
set_option maxRecDepth 100000 in
set_option maxHeartbeats 2000000 in
theorem Make1_is (b1 b3 : Nat) (A : Option Addr) (c : Nat) (x : List UInt8) (W : World) (hT : Tab W) (hTB : TabB W) (hS : Sl eB W.heap.size W (.slice A x.length c) x) (h1 : W.cell? ⟨b1, 0, none⟩ = some (.slice A x.length c)) (h3 : Boxed W b3 22 (.slice none 0 0)) :
    WorkIs 31 #[.pointer (some ⟨b1, 0, none⟩), .pointer (some ⟨b3, 0, none⟩)] b3 W
      (fun w' => ∃ f v, wfG x = .ok f ∧ Boxed w' b3 22 v ∧ Sl eB w'.heap.size w' v (wordL x f) ∧ ∀ k, v.ownBlock = some k → W.heap.size ≤ k) (fun m w' => wfG x = .error m ∧ Boxed w' b3 22 (.slice none 0 0)) := by
  have hM := made_any _ x W hT hTB hS
  have hl := h3.lt
  unfold WorkIs
  go_enter Tryd.func31, Tryd.ntmps31
  go_wp2_with fail
  go_at_call 32
  refine hM.mono ?_
  rintro e w1 ⟨hB, ⟨f, v, hf, rfl, hv, hfr⟩ | ⟨m, hm, rfl⟩⟩
  · have h3' : Boxed w1 b3 22 (.slice none 0 0) := (hB.block _ hl).trans h3
    obtain ⟨Av, cv, e⟩ := hv.len
    have hb3 := h3'.set v
    have hsl := sl_set1 (b := b3) hv (fun k hk => by have := hfr k hk; omega) 0 v
    have hK : Keep W.heap.size b3 W (w1.setCell ⟨b3, 0, none⟩ v) := keep_t (keep_of hB) (keep_set _ _ _ _ _)
    have hc := h3'.cell
    have hfz := h3'.frozen
    have Hx := Lib.hid (And.intro hf (And.intro hb3 (And.intro hsl (And.intro hK hfr))))
    clear hf hb3 hsl hK hfr hv hM
    subst e
    go_wp2_with fail
    go_end0
    exact ⟨Hx.out.2.2.2.1, .inl ⟨⟨_, rfl⟩, f, _, Hx.out.1, Hx.out.2.1, Hx.out.2.2.1, Hx.out.2.2.2.2⟩⟩
  · exact ⟨rfl, keep_of hB, .inr ⟨m, rfl, hm, (hB.block _ hl).trans h3⟩⟩
set_option maxRecDepth 100000 in
set_option maxHeartbeats 2000000 in
theorem WMake_any (sv : Value) (x : List UInt8) (w : World) (hT : Tab w) (hTB : TabB w) (hS : Sl eB w.heap.size w sv x) :
    Calls Tryd.prog 9 #[sv] w fun e w' => Below w.heap.size w w' ∧
      ((∃ f v, wfG x = .ok f ∧ e = .returned (.tuple #[v, .int .i64 0]) ∧ Sl eB w'.heap.size w' v (wordL x f) ∧ ∀ k, v.ownBlock = some k → w.heap.size ≤ k) ∨ ∃ m, wfG x = .error m ∧ e = .returned (.tuple #[.slice none 0 0, .int .i64 m])) := by
  have hmf : ∀ (fn : Fn) (first cap : Array Value) (w : World), (Instr.makeFunc fn first cap).run Tryd.prog w = .ok (.func fn first cap) w := fun _ _ _ _ => rfl
  obtain ⟨A, c, rfl⟩ := hS.len
  have hb1 := (Boxed.new w 22 (.slice A x.length c)).alloc (.cells #[.slice none 0 0] 22)
  have hb3 := Boxed.new (w.alloc (.cells #[.slice A x.length c] 22)) 22 (.slice none 0 0)
  rw [World.size_alloc] at hb3
  have hA : Below w.heap.size w ((w.alloc (.cells #[.slice A x.length c] 22)).alloc (.cells #[.slice none 0 0] 22)) := ((Below.refl _ w).alloc (Nat.le_refl _) _).alloc (by simp) _
  have hs0 : ((w.alloc (.cells #[.slice A x.length c] 22)).alloc (.cells #[.slice none 0 0] 22)).heap.size = w.heap.size + 2 := by simp
  obtain ⟨W0, hW0⟩ : ∃ W0, (w.alloc (.cells #[.slice A x.length c] 22)).alloc (.cells #[.slice none 0 0] 22) = W0 := ⟨_, rfl⟩
  rw [hW0] at hb1 hb3 hA hs0
  have hA4 := below_alloc W0 (.cells #[.int .i64 0] 24)
  have hB4 := below_trans hA hA4
  have hwork := Make1_is w.heap.size (w.heap.size + 1) A c x (W0.alloc (.cells #[.int .i64 0] 24)) (hT.below hB4) (hTB.below hB4) (hS.next hB4) (hb1.alloc _).cell (hb3.alloc _)
  have hct := wcaught_any 31 _ (w.heap.size + 1) W0 (by omega) (enters_of Tryd.func31 (by kernel_rfl) rfl) _ _ hwork
  have HW0 := Lib.hid hW0
  clear hwork hA4 hB4 hb1 hb3 hW0
  go_enter Tryd.func9, Tryd.ntmps9
  go_wp2_with fail
  rw [HW0.out]
  go_at_call 30
  refine hct.mono ?_
  rintro e w' ⟨w1, m, hK, rfl, rfl, hlt, hR⟩
  have hBf : Below w.heap.size w (w1.setCell ⟨W0.heap.size, 0, none⟩ (.int .i64 m)) := (below_of_keep hK hA (by omega) (by omega)).setCell (p := ⟨W0.heap.size, 0, none⟩) (by show w.heap.size ≤ W0.heap.size; omega) _
  clear hct
  rcases hR with ⟨rfl, f, v, hf, hv, hsl, hfr⟩ | ⟨hm, hv⟩
  · have hvw := Boxed.set_other (b' := W0.heap.size) (y := .int .i64 0) hv (by omega)
    have hs2 := sl_set1 (b := W0.heap.size) hsl (fun k hk => by have := hfr k hk; simp at this; omega) 0 (.int .i64 0)
    have hfw : ∀ k, v.ownBlock = some k → w.heap.size ≤ k := fun k hk => by
      have := hfr k hk
      simp at this
      omega
    have hc := hvw.cell
    obtain ⟨Av, cv, e⟩ := hsl.len
    have Hx := Lib.hid (And.intro hf (And.intro hs2 hfw))
    clear hsl hvw hfr hf hs2 hfw
    generalize w1.setCell ⟨W0.heap.size, 0, none⟩ (.int .i64 0) = w2 at *
    subst e
    go_wp2_with fail
    go_ret2
    exact ⟨hBf, .inl ⟨f, _, Hx.out.1, rfl, Hx.out.2.1, Hx.out.2.2⟩⟩
  · have hvw := Boxed.set_other (b' := W0.heap.size) (y := .int .i64 m) hv (by omega)
    have hc := hvw.cell
    have Hm := Lib.hid hm
    clear hvw hm
    generalize w1.setCell ⟨W0.heap.size, 0, none⟩ (.int .i64 m) = w2 at *
    go_wp2_with fail
    go_ret2
    exact ⟨hBf, .inr ⟨m, Hm.out, rfl⟩⟩
set_option maxRecDepth 100000 in
set_option maxHeartbeats 2000000 in
theorem Field1_is (b1 b3 : Nat) (A : Option Addr) (c : Nat) (x : List UInt8) (W : World) (hT : Tab W) (hTB : TabB W) (hS : Sl eB W.heap.size W (.slice A x.length c) x) (h1 : W.cell? ⟨b1, 0, none⟩ = some (.slice A x.length c)) (h3 : Boxed W b3 22 (.slice none 0 0)) :
    WorkIs 33 #[.pointer (some ⟨b1, 0, none⟩), .pointer (some ⟨b3, 0, none⟩)] b3 W
      (fun w' => ∃ f v, wfG x = .ok f ∧ Boxed w' b3 22 v ∧ Sl eB w'.heap.size w' v f ∧ ∀ k, v.ownBlock = some k → W.heap.size ≤ k) (fun m w' => wfG x = .error m ∧ Boxed w' b3 22 (.slice none 0 0)) := by
  have hM := field_any _ x W hT hTB hS
  have hl := h3.lt
  unfold WorkIs
  go_enter Tryd.func33, Tryd.ntmps33
  go_wp2_with fail
  go_at_call 34
  refine hM.mono ?_
  rintro e w1 ⟨hB, ⟨f, v, hf, rfl, hv, hfr⟩ | ⟨m, hm, rfl⟩⟩
  · have h3' : Boxed w1 b3 22 (.slice none 0 0) := (hB.block _ hl).trans h3
    obtain ⟨Av, cv, e⟩ := hv.len
    have hb3 := h3'.set v
    have hsl := sl_set1 (b := b3) hv (fun k hk => by have := hfr k hk; omega) 0 v
    have hK : Keep W.heap.size b3 W (w1.setCell ⟨b3, 0, none⟩ v) := keep_t (keep_of hB) (keep_set _ _ _ _ _)
    have hc := h3'.cell
    have hfz := h3'.frozen
    have Hx := Lib.hid (And.intro hf (And.intro hb3 (And.intro hsl (And.intro hK hfr))))
    clear hf hb3 hsl hK hfr hv hM
    subst e
    go_wp2_with fail
    go_end0
    exact ⟨Hx.out.2.2.2.1, .inl ⟨⟨_, rfl⟩, f, _, Hx.out.1, Hx.out.2.1, Hx.out.2.2.1, Hx.out.2.2.2.2⟩⟩
  · exact ⟨rfl, keep_of hB, .inr ⟨m, rfl, hm, (hB.block _ hl).trans h3⟩⟩
set_option maxRecDepth 100000 in
set_option maxHeartbeats 2000000 in
theorem WField_any (sv : Value) (x : List UInt8) (w : World) (hT : Tab w) (hTB : TabB w) (hS : Sl eB w.heap.size w sv x) :
    Calls Tryd.prog 11 #[sv] w fun e w' => Below w.heap.size w w' ∧
      ((∃ f v, wfG x = .ok f ∧ e = .returned (.tuple #[v, .int .i64 0]) ∧ Sl eB w'.heap.size w' v f ∧ ∀ k, v.ownBlock = some k → w.heap.size ≤ k) ∨ ∃ m, wfG x = .error m ∧ e = .returned (.tuple #[.slice none 0 0, .int .i64 m])) := by
  have hmf : ∀ (fn : Fn) (first cap : Array Value) (w : World), (Instr.makeFunc fn first cap).run Tryd.prog w = .ok (.func fn first cap) w := fun _ _ _ _ => rfl
  obtain ⟨A, c, rfl⟩ := hS.len
  have hb1 := (Boxed.new w 22 (.slice A x.length c)).alloc (.cells #[.slice none 0 0] 22)
  have hb3 := Boxed.new (w.alloc (.cells #[.slice A x.length c] 22)) 22 (.slice none 0 0)
  rw [World.size_alloc] at hb3
  have hA : Below w.heap.size w ((w.alloc (.cells #[.slice A x.length c] 22)).alloc (.cells #[.slice none 0 0] 22)) := ((Below.refl _ w).alloc (Nat.le_refl _) _).alloc (by simp) _
  have hs0 : ((w.alloc (.cells #[.slice A x.length c] 22)).alloc (.cells #[.slice none 0 0] 22)).heap.size = w.heap.size + 2 := by simp
  obtain ⟨W0, hW0⟩ : ∃ W0, (w.alloc (.cells #[.slice A x.length c] 22)).alloc (.cells #[.slice none 0 0] 22) = W0 := ⟨_, rfl⟩
  rw [hW0] at hb1 hb3 hA hs0
  have hA4 := below_alloc W0 (.cells #[.int .i64 0] 24)
  have hB4 := below_trans hA hA4
  have hwork := Field1_is w.heap.size (w.heap.size + 1) A c x (W0.alloc (.cells #[.int .i64 0] 24)) (hT.below hB4) (hTB.below hB4) (hS.next hB4) (hb1.alloc _).cell (hb3.alloc _)
  have hct := wcaught_any 33 _ (w.heap.size + 1) W0 (by omega) (enters_of Tryd.func33 (by kernel_rfl) rfl) _ _ hwork
  have HW0 := Lib.hid hW0
  clear hwork hA4 hB4 hb1 hb3 hW0
  go_enter Tryd.func11, Tryd.ntmps11
  go_wp2_with fail
  rw [HW0.out]
  go_at_call 30
  refine hct.mono ?_
  rintro e w' ⟨w1, m, hK, rfl, rfl, hlt, hR⟩
  have hBf : Below w.heap.size w (w1.setCell ⟨W0.heap.size, 0, none⟩ (.int .i64 m)) := (below_of_keep hK hA (by omega) (by omega)).setCell (p := ⟨W0.heap.size, 0, none⟩) (by show w.heap.size ≤ W0.heap.size; omega) _
  clear hct
  rcases hR with ⟨rfl, f, v, hf, hv, hsl, hfr⟩ | ⟨hm, hv⟩
  · have hvw := Boxed.set_other (b' := W0.heap.size) (y := .int .i64 0) hv (by omega)
    have hs2 := sl_set1 (b := W0.heap.size) hsl (fun k hk => by have := hfr k hk; simp at this; omega) 0 (.int .i64 0)
    have hfw : ∀ k, v.ownBlock = some k → w.heap.size ≤ k := fun k hk => by
      have := hfr k hk
      simp at this
      omega
    have hc := hvw.cell
    obtain ⟨Av, cv, e⟩ := hsl.len
    have Hx := Lib.hid (And.intro hf (And.intro hs2 hfw))
    clear hsl hvw hfr hf hs2 hfw
    generalize w1.setCell ⟨W0.heap.size, 0, none⟩ (.int .i64 0) = w2 at *
    subst e
    go_wp2_with fail
    go_ret2
    exact ⟨hBf, .inl ⟨f, _, Hx.out.1, rfl, Hx.out.2.1, Hx.out.2.2⟩⟩
  · have hvw := Boxed.set_other (b' := W0.heap.size) (y := .int .i64 m) hv (by omega)
    have hc := hvw.cell
    have Hm := Lib.hid hm
    clear hvw hm
    generalize w1.setCell ⟨W0.heap.size, 0, none⟩ (.int .i64 m) = w2 at *
    go_wp2_with fail
    go_ret2
    exact ⟨hBf, .inr ⟨m, Hm.out, rfl⟩⟩
end Go.Proofs.YtnlndaknljbhcaaDoor
/- Contracts of word.told and word.Told. -/
namespace Go.Proofs.YtnlndaknljbhcaaDoor
open Go.RowKit Go.Shelf
attribute [local go_sem] Oper.semAt_some run_store_func

/-- The sums that a field tells. -/
def ToldOk (f : List UInt8) (n : Int) (s : Nat × Nat × Nat) : Prop := (2 ≤ n ∧ n ≤ 800) ∧ (∀ y ∈ f.zipIdx, LetterAt y) ∧ unG (f.zipIdx.map bitB) n = some s
theorem ToldOk.one {f : List UInt8} {n : Int} {s t : Nat × Nat × Nat} (h : ToldOk f n s) (k : ToldOk f n t) : s = t := by
  have e := h.2.2
  rw [k.2.2] at e
  exact (Option.some.inj e).symm
/-- What told does. -/
abbrev ToldIs (f : List UInt8) (n : Int) (w : World) : Ending → World → Prop := fun e w' => Below w.heap.size w w' ∧ ((∃ a b c : Nat, ToldOk f n (a, b, c) ∧ e = .returned (v3 a b c)) ∨ ((¬ ∃ s, ToldOk f n s) ∧ ∃ m, m ≠ 0 ∧ e = .panicked (errno m)))
set_option maxRecDepth 100000 in
set_option maxHeartbeats 2000000 in
theorem told_any (sv : Value) (f : List UInt8) (n : Int) (hreach : f.length ≤ 17592186044416) (w : World) (hTB : TabB w) (hS : Sl eB w.heap.size w sv f) :
    Calls Tryd.prog 38 #[sv, .int .i64 n] w (ToldIs f n w) := by
  obtain ⟨hz, hsz⟩ := zero_of_info infoS
  have hc0 : (v3 0 0 0).cells = #[.int .i64 0, .int .i64 0, .int .i64 0] := rfl
  have hA0 := below_alloc w (.cells (c3 0 0 0) 28)
  have hr0 := Rowed.new w 28 (c3 0 0 0)
  have hB := fun w h hT => Back_any sv f hreach w h hT
  obtain ⟨A, c, rfl⟩ := hS.len
  have hS0 := hS.next hA0
  have hTB0 := hTB.below hA0
  clear hS hTB hreach
  by_cases hn : 2 ≤ n ∧ n ≤ 800
  · have hm := wmay_yes n hn.1 hn.2
    have Hn := Lib.hid hn
    clear hn
    go_enter Tryd.func38, Tryd.ntmps38
    go_wp2_with fail
    generalize w.alloc (.cells (c3 0 0 0) 28) = w0 at *
    have hlt0 := hr0.lt
    go_at_call 43
    refine (hm _).mono ?_
    rintro e w' ⟨rfl, rfl⟩
    go_wp2_with fail
    go_at_call 60
    refine (hB _ hS0 hTB0).mono ?_
    clear hB hm
    rintro e w1 ⟨v, hB1, ⟨rfl, hall, hv⟩ | ⟨rfl, hno⟩⟩
    · obtain ⟨bs, hbs⟩ : ∃ bs, f.zipIdx.map bitB = bs := ⟨_, rfl⟩
      rw [hbs] at hv
      have Hbs := Lib.hid hbs
      clear hbs
      have hU := Unpack_any v bs n w1 hv
      obtain ⟨Av, cv, rfl⟩ := hv.len
      have hr1 : Rowed w1 w.heap.size 28 (c3 0 0 0) := (hB1.block _ hlt0).trans hr0
      have Hall := Lib.hid hall
      clear hall
      go_wp2_with fail
      go_at_call 55
      refine (wmust_ok _).mono ?_
      rintro e w' ⟨rfl, rfl⟩
      go_wp2_with fail
      go_at_call 61
      refine hU.mono ?_
      clear hU
      rintro e w2 ⟨hB2, ⟨a, b, d, hg, rfl⟩ | ⟨hg, rfl⟩⟩
      · have hB02 := below_trans hB1 hB2
        have hr2 : Rowed w2 w.heap.size 28 (c3 0 0 0) := (hB2.block _ hr1.lt).trans hr1
        have hr2a := hr2.alloc (.cells (c3 a b d) 28)
        have hA2 := below_alloc w2 (.cells (c3 a b d) 28)
        have hr7 := Rowed.new w2 28 (c3 a b d)
        have hBx3 := below_trans (below_trans hA0 hB02) hA2
        have Hg := Lib.hid hg
        clear hg hr2
        go_wp2_with fail
        generalize w2.alloc (.cells (c3 a b d) 28) = w3 at *
        generalize w2.heap.size = g7 at *
        go_at_call 55
        refine (wmust_ok _).mono ?_
        rintro e w' ⟨rfl, rfl⟩
        have hrow := setRow_heap w3 w.heap.size (c3 0 0 0) (c3 a b d) _ _ hr2a
        have hBe := below_setRow hBx3 w.heap.size (c3 a b d) (Nat.le_refl _)
        go_wp2_with (first
          | (refine wpList_load_row rfl 28 (.tmp 7) rfl g7 rfl _ (c3 a b d) _ _ hr7 Tryd.underlying28 rfl (size_c3 a b d) ?_)
          | (refine wpList_store_row rfl 28 (.tmp 4) (.tmp 27) rfl w.heap.size (c3 a b d) rfl rfl _ _ hr2a (size_c3 a b d) rfl (one_c3 a b d) ?_))
        refine bodyPost_ret (v := v3 a b d) ?_ rfl ⟨hBe, .inl ⟨a, b, d, ⟨Hn.out, Hall.out, by rw [Hbs.out]; exact Hg.out⟩, rfl⟩⟩
        exact results_cell_row (p := 4) rfl _ _ w.heap.size _ _ _ _ rfl hrow Tryd.underlying28 rfl (size_c3 a b d)
      · have hBx := below_trans hA0 (below_trans hB1 hB2)
        have Hg := Lib.hid hg
        clear hg
        go_wp2_with fail
        go_at_call 55
        refine (wmust_not 2 (by decide) _).mono ?_
        rintro e w' ⟨rfl, rfl⟩
        exact ⟨rfl, below_trans hBx (below_alloc _ _), .inr ⟨(fun ⟨s, h⟩ => by have e := h.2.2; rw [Hbs.out, Hg.out] at e; cases e), 2, by decide, rfl⟩⟩
    · have Hno := Lib.hid hno
      clear hno
      go_wp2_with fail
      go_at_call 55
      refine (wmust_not 10 (by decide) _).mono ?_
      rintro e w' ⟨rfl, rfl⟩
      exact ⟨rfl, below_trans hA0 hB1, .inr ⟨fun ⟨s, h⟩ => Hno.out h.2.1, 10, by decide, rfl⟩⟩
  · have hm := wmay_no n (by omega)
    have Hn := Lib.hid hn
    clear hn
    go_enter Tryd.func38, Tryd.ntmps38
    go_wp2_with fail
    go_at_call 43
    refine (hm _).mono ?_
    rintro e w' ⟨rfl, rfl⟩
    go_wp2_with fail
    exact ⟨rfl, hA0, .inr ⟨fun ⟨s, h⟩ => Hn.out h.1, 130, by decide, rfl⟩⟩
set_option maxRecDepth 100000 in
set_option maxHeartbeats 2000000 in
theorem Told1_is (b1 b2 b3 : Nat) (A : Option Addr) (c : Nat) (x : List UInt8) (n : Int) (hreach : x.length ≤ 17592186044416) (W : World) (hTB : TabB W) (hS : Sl eB W.heap.size W (.slice A x.length c) x) (h1 : W.cell? ⟨b1, 0, none⟩ = some (.slice A x.length c)) (h2 : W.cell? ⟨b2, 0, none⟩ = some (.int .i64 n)) (h3 : Rowed W b3 28 (c3 0 0 0)) :
    WorkIs 37 #[.pointer (some ⟨b1, 0, none⟩), .pointer (some ⟨b2, 0, none⟩), .pointer (some ⟨b3, 0, none⟩)] b3 W
      (fun w' => ∃ a b c : Nat, ToldOk x n (a, b, c) ∧ Rowed w' b3 28 (c3 a b c)) (fun m w' => m ≠ 0 ∧ (¬ ∃ s, ToldOk x n s) ∧ Rowed w' b3 28 (c3 0 0 0)) := by
  have hb := told_any _ x n hreach W hTB hS
  have hl := h3.lt
  clear hreach
  unfold WorkIs
  go_enter Tryd.func37, Tryd.ntmps37
  go_wp2_with fail
  go_at_call 38
  refine hb.mono ?_
  rintro e w1 ⟨hB, ⟨a, b, d, hc, rfl⟩ | ⟨hn, m, hm, rfl⟩⟩
  · have h3' : Rowed w1 b3 28 (c3 0 0 0) := h3.below hB hl
    have hK : Keep W.heap.size b3 W (w1.setRow b3 (c3 a b d)) := keep_setRow (keep_of hB) _
    have hrow := setRow_heap w1 b3 (c3 0 0 0) (c3 a b d) _ _ h3'
    have Hc := Lib.hid hc
    clear hc hb
    go_wp2_with (refine wpList_store_row rfl 28 (.tmp 2) (.tmp 5) rfl b3 (c3 a b d) rfl rfl _ _ h3' (size_c3 a b d) rfl (one_c3 a b d) ?_)
    go_end0
    exact ⟨hK, .inl ⟨⟨_, rfl⟩, a, b, d, Hc.out, hrow⟩⟩
  · exact ⟨rfl, keep_of hB, .inr ⟨m, rfl, hm, hn, h3.below hB hl⟩⟩
set_option maxRecDepth 100000 in
set_option maxHeartbeats 2000000 in
theorem WTold_any (sv : Value) (x : List UInt8) (n : Int) (hreach : x.length ≤ 17592186044416) (w : World) (hTB : TabB w) (hS : Sl eB w.heap.size w sv x) :
    Calls Tryd.prog 13 #[sv, .int .i64 n] w fun e w' => Below w.heap.size w w' ∧
      ((∃ a b c : Nat, ToldOk x n (a, b, c) ∧ e = .returned (.tuple #[v3 a b c, .int .i64 0])) ∨ ((¬ ∃ s, ToldOk x n s) ∧ e = .returned (.tuple #[v3 0 0 0, .int .i64 130]))) := by
  have hmf : ∀ (fn : Fn) (first cap : Array Value) (w : World), (Instr.makeFunc fn first cap).run Tryd.prog w = .ok (.func fn first cap) w := fun _ _ _ _ => rfl
  obtain ⟨A, c, rfl⟩ := hS.len
  obtain ⟨hz, hsz⟩ := zero_of_info infoS
  have hc0 : (v3 0 0 0).cells = #[.int .i64 0, .int .i64 0, .int .i64 0] := rfl
  have hb1 := (((Boxed.new w 22 (.slice A x.length c)).alloc (.cells #[.int .i64 n] 3)).alloc (.cells (c3 0 0 0) 28)).alloc (.cells (c3 0 0 0) 28)
  have hbn := ((Boxed.new (w.alloc (.cells #[.slice A x.length c] 22)) 3 (.int .i64 n)).alloc (.cells (c3 0 0 0) 28)).alloc (.cells (c3 0 0 0) 28)
  have hb2 := (Rowed.new ((w.alloc (.cells #[.slice A x.length c] 22)).alloc (.cells #[.int .i64 n] 3)) 28 (c3 0 0 0)).alloc (.cells (c3 0 0 0) 28)
  have hb3 := Rowed.new (((w.alloc (.cells #[.slice A x.length c] 22)).alloc (.cells #[.int .i64 n] 3)).alloc (.cells (c3 0 0 0) 28)) 28 (c3 0 0 0)
  rw [World.size_alloc] at hbn
  rw [World.size_alloc, World.size_alloc] at hb2
  rw [World.size_alloc, World.size_alloc, World.size_alloc] at hb3
  have hA : Below w.heap.size w ((((w.alloc (.cells #[.slice A x.length c] 22)).alloc (.cells #[.int .i64 n] 3)).alloc (.cells (c3 0 0 0) 28)).alloc (.cells (c3 0 0 0) 28)) := ((((Below.refl _ w).alloc (Nat.le_refl _) _).alloc (by simp) _).alloc (by simp; omega) _).alloc (by simp; omega) _
  have hs0 : ((((w.alloc (.cells #[.slice A x.length c] 22)).alloc (.cells #[.int .i64 n] 3)).alloc (.cells (c3 0 0 0) 28)).alloc (.cells (c3 0 0 0) 28)).heap.size = w.heap.size + 4 := by simp
  obtain ⟨W0, hW0⟩ : ∃ W0, (((w.alloc (.cells #[.slice A x.length c] 22)).alloc (.cells #[.int .i64 n] 3)).alloc (.cells (c3 0 0 0) 28)).alloc (.cells (c3 0 0 0) 28) = W0 := ⟨_, rfl⟩
  rw [hW0] at hb1 hbn hb2 hb3 hA hs0
  have hA4 := below_alloc W0 (.cells #[.int .i64 0] 24)
  have hB4 := below_trans hA hA4
  have hwork := Told1_is w.heap.size (w.heap.size + 1) (w.heap.size + 1 + 1 + 1) A c x n hreach (W0.alloc (.cells #[.int .i64 0] 24)) (hTB.below hB4) (hS.next hB4) (hb1.alloc _).cell (hbn.alloc _).cell (hb3.alloc _)
  have hct := wcaught_any 37 _ (w.heap.size + 1 + 1 + 1) W0 (by omega) (enters_of Tryd.func37 (by kernel_rfl) rfl) _ _ hwork
  have HW0 := Lib.hid hW0
  clear hwork hA4 hB4 hb1 hbn hb3 hW0 hreach
  go_enter Tryd.func13, Tryd.ntmps13
  go_wp2_with fail
  rw [HW0.out]
  go_at_call 30
  refine hct.mono ?_
  rintro e w' ⟨w1, m, hK, rfl, rfl, hlt, hR⟩
  have hBf : Below w.heap.size w (w1.setCell ⟨W0.heap.size, 0, none⟩ (.int .i64 m)) := (below_of_keep hK hA (by omega) (by omega)).setCell (p := ⟨W0.heap.size, 0, none⟩) (by show w.heap.size ≤ W0.heap.size; omega) _
  have hb2' : Rowed w1 (w.heap.size + 1 + 1) 28 (c3 0 0 0) := (hK.2 _ (by omega) (by omega)).trans hb2
  have hb2w := hb2'.other W0.heap.size 0 (.int .i64 m) (by omega)
  clear hct
  rcases hR with ⟨rfl, a, b, d, hg, hv⟩ | ⟨hm, hg, hv⟩
  · have hvw := hv.other W0.heap.size 0 (.int .i64 0) (by omega)
    have Hg := Lib.hid hg
    clear hg
    generalize w1.setCell ⟨W0.heap.size, 0, none⟩ (.int .i64 0) = w2 at *
    have hrow := setRow_heap w2 (w.heap.size + 1 + 1) (c3 0 0 0) (c3 a b d) _ _ hb2w
    have hB3 := below_setRow hBf (w.heap.size + 1 + 1) (c3 a b d) (by omega)
    go_wp2_with (first
      | (refine wpList_load_row rfl 28 (.tmp 6) rfl (w.heap.size + 1 + 1 + 1) rfl _ (c3 a b d) _ _ hvw Tryd.underlying28 rfl (size_c3 a b d) ?_)
      | (refine wpList_store_row rfl 28 (.tmp 4) (.tmp 13) rfl (w.heap.size + 1 + 1) (c3 a b d) rfl rfl _ _ hb2w (size_c3 a b d) rfl (one_c3 a b d) ?_))
    refine bodyPost_ret (v := .tuple #[v3 a b d, .int .i64 0]) ?_ rfl ⟨hB3, .inl ⟨a, b, d, Hg.out, rfl⟩⟩
    exact results_cell_slot (p := 4) (q := 5) rfl _ _ (w.heap.size + 1 + 1) _ _ _ _ rfl hrow Tryd.underlying28 rfl (size_c3 a b d)
  · have Hg := Lib.hid hg
    have h1 : (m != 0) = true := by simpa using hm
    have h2 : (m == 0) = false := by simpa using hm
    clear hg hm hv
    generalize w1.setCell ⟨W0.heap.size, 0, none⟩ (.int .i64 m) = w2 at *
    have hrow := setRow_heap w2 (w.heap.size + 1 + 1) (c3 0 0 0) (c3 0 0 0) _ _ hb2w
    have hB3 := below_setRow hBf (w.heap.size + 1 + 1) (c3 0 0 0) (by omega)
    have hbd : ∀ w, (Instr.build 28 #[]).run Tryd.prog w = .ok (v3 0 0 0) w := fun _ => by kernel_rfl
    go_wp2_with (first
      | (refine wpList_store_row rfl 28 (.tmp 4) (.tmp 12) rfl (w.heap.size + 1 + 1) (c3 0 0 0) rfl rfl _ _ hb2w (size_c3 0 0 0) rfl (one_c3 0 0 0) ?_))
    refine bodyPost_ret (v := .tuple #[v3 0 0 0, .int .i64 130]) ?_ rfl ⟨hB3, .inr ⟨Hg.out, rfl⟩⟩
    exact results_cell_slot (p := 4) (q := 5) rfl _ _ (w.heap.size + 1 + 1) _ _ _ _ rfl hrow Tryd.underlying28 rfl (size_c3 0 0 0)
end Go.Proofs.YtnlndaknljbhcaaDoor
