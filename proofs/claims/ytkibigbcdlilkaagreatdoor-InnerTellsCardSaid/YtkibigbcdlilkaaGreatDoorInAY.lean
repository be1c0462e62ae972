import Derived.Test.YtkibigbcdlilkaaGreatDoorClBY
import Derived.Test.YtkibigbcdlilkaaGreatDoorExMY
import Derived.Test.YtkibigbcdlilkaaGreatDoorTgGY
import Derived.Test.YtkibigbcdlilkaaGreatDoorWdHY
namespace Go.Proofs.YtkibigbcdlilkaaGreatDoor
open Go.RowKit Go.Shelf
attribute [local go_sem] Oper.semAt_some run_store_func
theorem sl_set1 {W : World} {v : Value} {xs : List UInt8} {b : Nat} (h : Sl eB W.heap.size W v xs) (hn : ∀ k, v.ownBlock = some k → k ≠ b) (j : Nat) (u : Value) : Sl eB (W.setCell ⟨b, j, none⟩ u).heap.size (W.setCell ⟨b, j, none⟩ u) v xs := by
 have hs : (W.setCell ⟨b, j, none⟩ u).heap.size = W.heap.size := by simp [World.setCell]
 rw [hs]
 obtain ⟨A, c, rfl, hc, hcs⟩ := h
 refine ⟨A, c, rfl, hc, fun h0 => ?_⟩
 obtain ⟨g, off, rfl, hg, hcell⟩ := hcs h0
 have hb := hn g rfl
 exact ⟨g, off, rfl, hg, fun i y hy => (World.cell?_of_block (w := W) (Below.heap_setCell _ _ _ _ (by show g ≠ b; exact hb))).trans (hcell i y hy)⟩
set_option maxRecDepth 100000 in
set_option maxHeartbeats 2000000 in
theorem Make1_is (b1 b3 : Nat) (A : Option Addr) (c : Nat) (x : List UInt8) (W : World) (hT : Tab W) (hTB : TabB W) (hS : Sl eB W.heap.size W (.slice A x.length c) x) (h1 : W.cell? ⟨b1, 0, none⟩ = some (.slice A x.length c)) (h3 : Boxed W b3 22 (.slice none 0 0)) :
    WorkIs 87 #[.pointer (some ⟨b1, 0, none⟩), .pointer (some ⟨b3, 0, none⟩)] b3 W
      (fun w' => ∃ f v, wfG x = .ok f ∧ Boxed w' b3 22 v ∧ Sl eB w'.heap.size w' v (wordL x f) ∧ ∀ k, v.ownBlock = some k → W.heap.size ≤ k) (fun m w' => wfG x = .error m ∧ Boxed w' b3 22 (.slice none 0 0)) := by
  have hM := made_any _ x W hT hTB hS
  have hl := h3.lt
  unfold WorkIs
  go_enter Tryz.func87, Tryz.ntmps87
  go_wp2_with fail
  go_at_call 88
  refine hM.mono ?_
  rintro e w1 ⟨hB, ⟨f, v, hf, rfl, hv, hfr⟩ | ⟨m, hm, rfl⟩⟩
  · have h3' : Boxed w1 b3 22 (.slice none 0 0) := (hB.block _ hl).trans h3
    obtain ⟨Av, cv, e⟩ := hv.len
    have hb3 := h3'.set v
    have hsl := sl_set1 (b := b3) hv (fun k hk => by have := hfr k hk; omega) 0 v
    have hK : Keep W.heap.size b3 W (w1.setCell ⟨b3, 0, none⟩ v) := keep_t (keep_of hB) (keep_set _ _ _ _ _)
    have hc := h3'.cell
    have hfz := h3'.frozen
    have Hx := Lib.hid (And.intro hf (And.intro hb3 (And.intro hsl (And.intro hK hfr))))
    clear hf hb3 hsl hK hfr hv hM
    subst e
    go_wp2_with fail
    go_end0
    exact ⟨Hx.out.2.2.2.1, .inl ⟨⟨_, rfl⟩, f, _, Hx.out.1, Hx.out.2.1, Hx.out.2.2.1, Hx.out.2.2.2.2⟩⟩
  · exact ⟨rfl, keep_of hB, .inr ⟨m, rfl, hm, (hB.block _ hl).trans h3⟩⟩
set_option maxRecDepth 100000 in
set_option maxHeartbeats 2000000 in
theorem WMake_any (sv : Value) (x : List UInt8) (w : World) (hT : Tab w) (hTB : TabB w) (hS : Sl eB w.heap.size w sv x) :
    Calls Tryz.prog 67 #[sv] w fun e w' => Below w.heap.size w w' ∧
      ((∃ f v, wfG x = .ok f ∧ e = .returned (.tuple #[v, .int .i64 0]) ∧ Sl eB w'.heap.size w' v (wordL x f) ∧ ∀ k, v.ownBlock = some k → w.heap.size ≤ k) ∨ ∃ m, wfG x = .error m ∧ e = .returned (.tuple #[.slice none 0 0, .int .i64 m])) := by
  have hmf : ∀ (fn : Fn) (first cap : Array Value) (w : World), (Instr.makeFunc fn first cap).run Tryz.prog w = .ok (.func fn first cap) w := fun _ _ _ _ => rfl
  obtain ⟨A, c, rfl⟩ := hS.len
  have hb1 := (Boxed.new w 22 (.slice A x.length c)).alloc (.cells #[.slice none 0 0] 22)
  have hb3 := Boxed.new (w.alloc (.cells #[.slice A x.length c] 22)) 22 (.slice none 0 0)
  rw [World.size_alloc] at hb3
  have hA : Below w.heap.size w ((w.alloc (.cells #[.slice A x.length c] 22)).alloc (.cells #[.slice none 0 0] 22)) := ((Below.refl _ w).alloc (Nat.le_refl _) _).alloc (by simp) _
  have hs0 : ((w.alloc (.cells #[.slice A x.length c] 22)).alloc (.cells #[.slice none 0 0] 22)).heap.size = w.heap.size + 2 := by simp
  obtain ⟨W0, hW0⟩ : ∃ W0, (w.alloc (.cells #[.slice A x.length c] 22)).alloc (.cells #[.slice none 0 0] 22) = W0 := ⟨_, rfl⟩
  rw [hW0] at hb1 hb3 hA hs0
  have hA4 := below_alloc W0 (.cells #[.int .i64 0] 24)
  have hB4 := below_trans hA hA4
  have hwork := Make1_is w.heap.size (w.heap.size + 1) A c x (W0.alloc (.cells #[.int .i64 0] 24)) (hT.below hB4) (hTB.below hB4) (hS.next hB4) (hb1.alloc _).cell (hb3.alloc _)
  have hct := wcaught_any 87 _ (w.heap.size + 1) W0 (by omega) (enters_of Tryz.func87 (by kernel_rfl) rfl) _ _ hwork
  have HW0 := Lib.hid hW0
  clear hwork hA4 hB4 hb1 hb3 hW0
  go_enter Tryz.func67, Tryz.ntmps67
  go_wp2_with fail
  rw [HW0.out]
  go_at_call 86
  refine hct.mono ?_
  rintro e w' ⟨w1, m, hK, rfl, rfl, hlt, hR⟩
  have hBf : Below w.heap.size w (w1.setCell ⟨W0.heap.size, 0, none⟩ (.int .i64 m)) := (below_of_keep hK hA (by omega) (by omega)).setCell (p := ⟨W0.heap.size, 0, none⟩) (by show w.heap.size ≤ W0.heap.size; omega) _
  clear hct
  rcases hR with ⟨rfl, f, v, hf, hv, hsl, hfr⟩ | ⟨hm, hv⟩
  · have hvw := Boxed.set_other (b' := W0.heap.size) (y := .int .i64 0) hv (by omega)
    have hs2 := sl_set1 (b := W0.heap.size) hsl (fun k hk => by have := hfr k hk; simp at this; omega) 0 (.int .i64 0)
    have hfw : ∀ k, v.ownBlock = some k → w.heap.size ≤ k := fun k hk => by
     have := hfr k hk
     simp at this
     omega
    have hc := hvw.cell
    obtain ⟨Av, cv, e⟩ := hsl.len
    have Hx := Lib.hid (And.intro hf (And.intro hs2 hfw))
    clear hsl hvw hfr hf hs2 hfw
    generalize w1.setCell ⟨W0.heap.size, 0, none⟩ (.int .i64 0) = w2 at *
    subst e
    go_wp2_with fail
    go_ret2
    exact ⟨hBf, .inl ⟨f, _, Hx.out.1, rfl, Hx.out.2.1, Hx.out.2.2⟩⟩
  · have hvw := Boxed.set_other (b' := W0.heap.size) (y := .int .i64 m) hv (by omega)
    have hc := hvw.cell
    have Hm := Lib.hid hm
    clear hvw hm
    generalize w1.setCell ⟨W0.heap.size, 0, none⟩ (.int .i64 m) = w2 at *
    go_wp2_with fail
    go_ret2
    exact ⟨hBf, .inr ⟨m, Hm.out, rfl⟩⟩
end Go.Proofs.YtkibigbcdlilkaaGreatDoor
namespace Go.Proofs.YtkibigbcdlilkaaGreatDoor
open Go.RowKit Go.Shelf
attribute [local go_sem] Oper.semAt_some run_store_func
def ToldOk (f : List UInt8) (n : Int) (s : Nat × Nat × Nat) : Prop := (2 ≤ n ∧ n ≤ 800) ∧ (∀ y ∈ f.zipIdx, LetterAt y) ∧ unG (f.zipIdx.map bitB) n = some s
theorem ToldOk.one {f : List UInt8} {n : Int} {s t : Nat × Nat × Nat} (h : ToldOk f n s) (k : ToldOk f n t) : s = t := by
 have e := h.2.2
 rw [k.2.2] at e
 exact (Option.some.inj e).symm
abbrev ToldIs (f : List UInt8) (n : Int) (w : World) : Ending → World → Prop := fun e w' => Below w.heap.size w w' ∧ ((∃ a b c : Nat, ToldOk f n (a, b, c) ∧ e = .returned (v3 a b c)) ∨ ((¬ ∃ s, ToldOk f n s) ∧ ∃ m, m ≠ 0 ∧ e = .panicked (errno m)))
set_option maxRecDepth 100000 in
set_option maxHeartbeats 2000000 in
theorem told_any (sv : Value) (f : List UInt8) (n : Int) (hreach : f.length ≤ 17592186044416) (w : World) (hTB : TabB w) (hS : Sl eB w.heap.size w sv f) :
    Calls Tryz.prog 92 #[sv, .int .i64 n] w (ToldIs f n w) := by
  obtain ⟨hz, hsz⟩ := zero_of_info infoS
  have hc0 : (v3 0 0 0).cells = #[.int .i64 0, .int .i64 0, .int .i64 0] := rfl
  have hA0 := below_alloc w (.cells (c3 0 0 0) 51)
  have hr0 := Rowed.new w 51 (c3 0 0 0)
  have hB := fun w h hT => Back_any sv f hreach w h hT
  obtain ⟨A, c, rfl⟩ := hS.len
  have hS0 := hS.next hA0
  have hTB0 := hTB.below hA0
  clear hS hTB hreach
  by_cases hn : 2 ≤ n ∧ n ≤ 800
  · have hm := wmay_yes n hn.1 hn.2
    have Hn := Lib.hid hn
    clear hn
    go_enter Tryz.func92, Tryz.ntmps92
    go_wp2_with fail
    generalize w.alloc (.cells (c3 0 0 0) 51) = w0 at *
    have hlt0 := hr0.lt
    go_at_call 38
    refine (hm _).mono ?_
    rintro e w' ⟨rfl, rfl⟩
    go_wp2_with fail
    go_at_call 111
    refine (hB _ hS0 hTB0).mono ?_
    clear hB hm
    rintro e w1 ⟨v, hB1, ⟨rfl, hall, hv⟩ | ⟨rfl, hno⟩⟩
    · obtain ⟨bs, hbs⟩ : ∃ bs, f.zipIdx.map bitB = bs := ⟨_, rfl⟩
      rw [hbs] at hv
      have Hbs := Lib.hid hbs
      clear hbs
      have hU := Unpack_any v bs n w1 hv
      obtain ⟨Av, cv, rfl⟩ := hv.len
      have hr1 : Rowed w1 w.heap.size 51 (c3 0 0 0) := (hB1.block _ hlt0).trans hr0
      have Hall := Lib.hid hall
      clear hall
      go_wp2_with fail
      go_at_call 112
      refine (wmust_ok _).mono ?_
      rintro e w' ⟨rfl, rfl⟩
      go_wp2_with fail
      go_at_call 113
      refine hU.mono ?_
      clear hU
      rintro e w2 ⟨hB2, ⟨a, b, d, hg, rfl⟩ | ⟨hg, rfl⟩⟩
      · have hB02 := below_trans hB1 hB2
        have hr2 : Rowed w2 w.heap.size 51 (c3 0 0 0) := (hB2.block _ hr1.lt).trans hr1
        have hr2a := hr2.alloc (.cells (c3 a b d) 51)
        have hA2 := below_alloc w2 (.cells (c3 a b d) 51)
        have hr7 := Rowed.new w2 51 (c3 a b d)
        have hBx3 := below_trans (below_trans hA0 hB02) hA2
        have Hg := Lib.hid hg
        clear hg hr2
        go_wp2_with fail
        generalize w2.alloc (.cells (c3 a b d) 51) = w3 at *
        generalize w2.heap.size = g7 at *
        go_at_call 112
        refine (wmust_ok _).mono ?_
        rintro e w' ⟨rfl, rfl⟩
        have hrow := setRow_heap w3 w.heap.size (c3 0 0 0) (c3 a b d) _ _ hr2a
        have hBe := below_setRow hBx3 w.heap.size (c3 a b d) (Nat.le_refl _)
        go_wp2_with (first
         | (refine wpList_load_row rfl 51 (.tmp 7) rfl g7 rfl _ (c3 a b d) _ _ hr7 Tryz.underlying51 rfl (size_c3 a b d) ?_)
         | (refine wpList_store_row rfl 51 (.tmp 4) (.tmp 27) rfl w.heap.size (c3 a b d) rfl rfl _ _ hr2a (size_c3 a b d) rfl (one_c3 a b d) ?_))
        refine bodyPost_ret (v := v3 a b d) ?_ rfl ⟨hBe, .inl ⟨a, b, d, ⟨Hn.out, Hall.out, by rw [Hbs.out]; exact Hg.out⟩, rfl⟩⟩
        exact results_cell_row (p := 4) rfl _ _ w.heap.size _ _ _ _ rfl hrow Tryz.underlying51 rfl (size_c3 a b d)
      · have hBx := below_trans hA0 (below_trans hB1 hB2)
        have Hg := Lib.hid hg
        clear hg
        go_wp2_with fail
        go_at_call 112
        refine (wmust_not 2 (by decide) _).mono ?_
        rintro e w' ⟨rfl, rfl⟩
        exact ⟨rfl, below_trans hBx (below_alloc _ _), .inr ⟨(fun ⟨s, h⟩ => by have e := h.2.2; rw [Hbs.out, Hg.out] at e; cases e), 2, by decide, rfl⟩⟩
    · have Hno := Lib.hid hno
      clear hno
      go_wp2_with fail
      go_at_call 112
      refine (wmust_not 10 (by decide) _).mono ?_
      rintro e w' ⟨rfl, rfl⟩
      exact ⟨rfl, below_trans hA0 hB1, .inr ⟨fun ⟨s, h⟩ => Hno.out h.2.1, 10, by decide, rfl⟩⟩
  · have hm := wmay_no n (by omega)
    have Hn := Lib.hid hn
    clear hn
    go_enter Tryz.func92, Tryz.ntmps92
    go_wp2_with fail
    go_at_call 38
    refine (hm _).mono ?_
    rintro e w' ⟨rfl, rfl⟩
    go_wp2_with fail
    exact ⟨rfl, hA0, .inr ⟨fun ⟨s, h⟩ => Hn.out h.1, 130, by decide, rfl⟩⟩
set_option maxRecDepth 100000 in
set_option maxHeartbeats 2000000 in
theorem Told1_is (b1 b2 b3 : Nat) (A : Option Addr) (c : Nat) (x : List UInt8) (n : Int) (hreach : x.length ≤ 17592186044416) (W : World) (hTB : TabB W) (hS : Sl eB W.heap.size W (.slice A x.length c) x) (h1 : W.cell? ⟨b1, 0, none⟩ = some (.slice A x.length c)) (h2 : W.cell? ⟨b2, 0, none⟩ = some (.int .i64 n)) (h3 : Rowed W b3 51 (c3 0 0 0)) :
    WorkIs 91 #[.pointer (some ⟨b1, 0, none⟩), .pointer (some ⟨b2, 0, none⟩), .pointer (some ⟨b3, 0, none⟩)] b3 W
      (fun w' => ∃ a b c : Nat, ToldOk x n (a, b, c) ∧ Rowed w' b3 51 (c3 a b c)) (fun m w' => m ≠ 0 ∧ (¬ ∃ s, ToldOk x n s) ∧ Rowed w' b3 51 (c3 0 0 0)) := by
  have hb := told_any _ x n hreach W hTB hS
  have hl := h3.lt
  clear hreach
  unfold WorkIs
  go_enter Tryz.func91, Tryz.ntmps91
  go_wp2_with fail
  go_at_call 92
  refine hb.mono ?_
  rintro e w1 ⟨hB, ⟨a, b, d, hc, rfl⟩ | ⟨hn, m, hm, rfl⟩⟩
  · have h3' : Rowed w1 b3 51 (c3 0 0 0) := h3.below hB hl
    have hK : Keep W.heap.size b3 W (w1.setRow b3 (c3 a b d)) := keep_setRow (keep_of hB) _
    have hrow := setRow_heap w1 b3 (c3 0 0 0) (c3 a b d) _ _ h3'
    have Hc := Lib.hid hc
    clear hc hb
    go_wp2_with (refine wpList_store_row rfl 51 (.tmp 2) (.tmp 5) rfl b3 (c3 a b d) rfl rfl _ _ h3' (size_c3 a b d) rfl (one_c3 a b d) ?_)
    go_end0
    exact ⟨hK, .inl ⟨⟨_, rfl⟩, a, b, d, Hc.out, hrow⟩⟩
  · exact ⟨rfl, keep_of hB, .inr ⟨m, rfl, hm, hn, h3.below hB hl⟩⟩
set_option maxRecDepth 100000 in
set_option maxHeartbeats 2000000 in
theorem WTold_any (sv : Value) (x : List UInt8) (n : Int) (hreach : x.length ≤ 17592186044416) (w : World) (hTB : TabB w) (hS : Sl eB w.heap.size w sv x) :
    Calls Tryz.prog 82 #[sv, .int .i64 n] w fun e w' => Below w.heap.size w w' ∧
      ((∃ a b c : Nat, ToldOk x n (a, b, c) ∧ e = .returned (.tuple #[v3 a b c, .int .i64 0])) ∨ ((¬ ∃ s, ToldOk x n s) ∧ e = .returned (.tuple #[v3 0 0 0, .int .i64 130]))) := by
  have hmf : ∀ (fn : Fn) (first cap : Array Value) (w : World), (Instr.makeFunc fn first cap).run Tryz.prog w = .ok (.func fn first cap) w := fun _ _ _ _ => rfl
  obtain ⟨A, c, rfl⟩ := hS.len
  obtain ⟨hz, hsz⟩ := zero_of_info infoS
  have hc0 : (v3 0 0 0).cells = #[.int .i64 0, .int .i64 0, .int .i64 0] := rfl
  have hb1 := (((Boxed.new w 22 (.slice A x.length c)).alloc (.cells #[.int .i64 n] 3)).alloc (.cells (c3 0 0 0) 51)).alloc (.cells (c3 0 0 0) 51)
  have hbn := ((Boxed.new (w.alloc (.cells #[.slice A x.length c] 22)) 3 (.int .i64 n)).alloc (.cells (c3 0 0 0) 51)).alloc (.cells (c3 0 0 0) 51)
  have hb2 := (Rowed.new ((w.alloc (.cells #[.slice A x.length c] 22)).alloc (.cells #[.int .i64 n] 3)) 51 (c3 0 0 0)).alloc (.cells (c3 0 0 0) 51)
  have hb3 := Rowed.new (((w.alloc (.cells #[.slice A x.length c] 22)).alloc (.cells #[.int .i64 n] 3)).alloc (.cells (c3 0 0 0) 51)) 51 (c3 0 0 0)
  rw [World.size_alloc] at hbn
  rw [World.size_alloc, World.size_alloc] at hb2
  rw [World.size_alloc, World.size_alloc, World.size_alloc] at hb3
  have hA : Below w.heap.size w ((((w.alloc (.cells #[.slice A x.length c] 22)).alloc (.cells #[.int .i64 n] 3)).alloc (.cells (c3 0 0 0) 51)).alloc (.cells (c3 0 0 0) 51)) := ((((Below.refl _ w).alloc (Nat.le_refl _) _).alloc (by simp) _).alloc (by simp; omega) _).alloc (by simp; omega) _
  have hs0 : ((((w.alloc (.cells #[.slice A x.length c] 22)).alloc (.cells #[.int .i64 n] 3)).alloc (.cells (c3 0 0 0) 51)).alloc (.cells (c3 0 0 0) 51)).heap.size = w.heap.size + 4 := by simp
  obtain ⟨W0, hW0⟩ : ∃ W0, (((w.alloc (.cells #[.slice A x.length c] 22)).alloc (.cells #[.int .i64 n] 3)).alloc (.cells (c3 0 0 0) 51)).alloc (.cells (c3 0 0 0) 51) = W0 := ⟨_, rfl⟩
  rw [hW0] at hb1 hbn hb2 hb3 hA hs0
  have hA4 := below_alloc W0 (.cells #[.int .i64 0] 24)
  have hB4 := below_trans hA hA4
  have hwork := Told1_is w.heap.size (w.heap.size + 1) (w.heap.size + 1 + 1 + 1) A c x n hreach (W0.alloc (.cells #[.int .i64 0] 24)) (hTB.below hB4) (hS.next hB4) (hb1.alloc _).cell (hbn.alloc _).cell (hb3.alloc _)
  have hct := wcaught_any 91 _ (w.heap.size + 1 + 1 + 1) W0 (by omega) (enters_of Tryz.func91 (by kernel_rfl) rfl) _ _ hwork
  have HW0 := Lib.hid hW0
  clear hwork hA4 hB4 hb1 hbn hb3 hW0 hreach
  go_enter Tryz.func82, Tryz.ntmps82
  go_wp2_with fail
  rw [HW0.out]
  go_at_call 86
  refine hct.mono ?_
  rintro e w' ⟨w1, m, hK, rfl, rfl, hlt, hR⟩
  have hBf : Below w.heap.size w (w1.setCell ⟨W0.heap.size, 0, none⟩ (.int .i64 m)) := (below_of_keep hK hA (by omega) (by omega)).setCell (p := ⟨W0.heap.size, 0, none⟩) (by show w.heap.size ≤ W0.heap.size; omega) _
  have hb2' : Rowed w1 (w.heap.size + 1 + 1) 51 (c3 0 0 0) := (hK.2 _ (by omega) (by omega)).trans hb2
  have hb2w := hb2'.other W0.heap.size 0 (.int .i64 m) (by omega)
  clear hct
  rcases hR with ⟨rfl, a, b, d, hg, hv⟩ | ⟨hm, hg, hv⟩
  · have hvw := hv.other W0.heap.size 0 (.int .i64 0) (by omega)
    have Hg := Lib.hid hg
    clear hg
    generalize w1.setCell ⟨W0.heap.size, 0, none⟩ (.int .i64 0) = w2 at *
    have hrow := setRow_heap w2 (w.heap.size + 1 + 1) (c3 0 0 0) (c3 a b d) _ _ hb2w
    have hB3 := below_setRow hBf (w.heap.size + 1 + 1) (c3 a b d) (by omega)
    go_wp2_with (first
     | (refine wpList_load_row rfl 51 (.tmp 6) rfl (w.heap.size + 1 + 1 + 1) rfl _ (c3 a b d) _ _ hvw Tryz.underlying51 rfl (size_c3 a b d) ?_)
     | (refine wpList_store_row rfl 51 (.tmp 4) (.tmp 13) rfl (w.heap.size + 1 + 1) (c3 a b d) rfl rfl _ _ hb2w (size_c3 a b d) rfl (one_c3 a b d) ?_))
    refine bodyPost_ret (v := .tuple #[v3 a b d, .int .i64 0]) ?_ rfl ⟨hB3, .inl ⟨a, b, d, Hg.out, rfl⟩⟩
    exact results_cell_slot (p := 4) (q := 5) rfl _ _ (w.heap.size + 1 + 1) _ _ _ _ rfl hrow Tryz.underlying51 rfl (size_c3 a b d)
  · have Hg := Lib.hid hg
    have h1 : (m != 0) = true := by simpa using hm
    have h2 : (m == 0) = false := by simpa using hm
    clear hg hm hv
    generalize w1.setCell ⟨W0.heap.size, 0, none⟩ (.int .i64 m) = w2 at *
    have hrow := setRow_heap w2 (w.heap.size + 1 + 1) (c3 0 0 0) (c3 0 0 0) _ _ hb2w
    have hB3 := below_setRow hBf (w.heap.size + 1 + 1) (c3 0 0 0) (by omega)
    have hbd : ∀ w, (Instr.build 51 #[]).run Tryz.prog w = .ok (v3 0 0 0) w := fun _ => by kernel_rfl
    go_wp2_with (first
     | (refine wpList_store_row rfl 51 (.tmp 4) (.tmp 12) rfl (w.heap.size + 1 + 1) (c3 0 0 0) rfl rfl _ _ hb2w (size_c3 0 0 0) rfl (one_c3 0 0 0) ?_))
    refine bodyPost_ret (v := .tuple #[v3 0 0 0, .int .i64 130]) ?_ rfl ⟨hB3, .inr ⟨Hg.out, rfl⟩⟩
    exact results_cell_slot (p := 4) (q := 5) rfl _ _ (w.heap.size + 1 + 1) _ _ _ _ rfl hrow Tryz.underlying51 rfl (size_c3 0 0 0)
end Go.Proofs.YtkibigbcdlilkaaGreatDoor
namespace Go.Proofs.YtkibigbcdlilkaaGreatDoor
open Go.RowKit Go.Shelf
attribute [local go_sem] Oper.semAt_some run_store_func
theorem same_any (sa sb : Value) (a b : List UInt8) (B : Nat) (w : World) (ha : Sl eB B w sa a) (hb : Sl eB B w sb b) :
    Calls Tryz.prog 15 #[sa, sb] w fun e w' => e = .returned (.bool (decide (a = b))) ∧ w = w' := by
  have ra := run_str (P := Tryz.prog) ha 22 9 5 Tryz.underlying22 Tryz.underlying5 Tryz.underlying9
  have rb := run_str (P := Tryz.prog) hb 22 9 5 Tryz.underlying22 Tryz.underlying5 Tryz.underlying9
  obtain ⟨Aa, ca, rfl⟩ := ha.len
  obtain ⟨Ab, cb, rfl⟩ := hb.len
  clear ha hb
  go_enter Tryz.func15, Tryz.ntmps15
  go_wp2
  go_ret
  exact ⟨by rw [← beq_dec]; rfl, rfl⟩
theorem bEqual_any (sa sb : Value) (a b : List UInt8) (B : Nat) (w : World) (ha : Sl eB B w sa a) (hb : Sl eB B w sb b) :
    Calls Tryz.prog 30 #[sa, sb] w fun e w' => e = .returned (.bool (decide (a = b))) ∧ w = w' := by
  have ra := run_str (P := Tryz.prog) ha 22 9 5 Tryz.underlying22 Tryz.underlying5 Tryz.underlying9
  have rb := run_str (P := Tryz.prog) hb 22 9 5 Tryz.underlying22 Tryz.underlying5 Tryz.underlying9
  obtain ⟨Aa, ca, rfl⟩ := ha.len
  obtain ⟨Ab, cb, rfl⟩ := hb.len
  clear ha hb
  go_enter Tryz.func30, Tryz.ntmps30
  go_wp2
  go_ret
  exact ⟨by rw [← beq_dec]; rfl, rfl⟩
set_option maxRecDepth 100000 in
set_option maxHeartbeats 400000 in
theorem BClone_any (sv : Value) (a : List UInt8) (hreach : a.length ≤ 140737488355328) (w : World) (ha : Sl eB w.heap.size w sv a) :
    Calls Tryz.prog 25 #[sv] w fun e w' => ∃ v, e = .returned v ∧ Own8 w.heap.size w' v a ∧ Below w.heap.size w w' := by
  obtain ⟨i0, hi, hz0, hz1, hz2⟩ := info_parts info_u8
  have hrow := row_made w
  have hB1 : Below w.heap.size w (w.alloc (.cells #[] 5)) := (Below.refl _ _).alloc (Nat.le_refl _) _
  obtain ⟨A, c, rfl⟩ := ha.len
  cases A with
  | none =>
    have hx : a = [] := by
     obtain ⟨A, c', e, _, hcells⟩ := ha
     cases e
     cases a with
     | nil => rfl
     | cons x xs => obtain ⟨_, _, h, _⟩ := hcells (by simp); cases h
    subst hx
    have hq : ∀ w, (binOp .eql 22 (.slice none 0 c) (.slice none 0 0)).run Tryz.prog w = .ok (.bool true) w := fun w => Lib.run_eql_slice_nil w 22 5 none 0 c 0 0 Tryz.underlying22
    go_enter Tryz.func25, Tryz.ntmps25
    go_wp2
    go_ret
    exact ⟨_, rfl, ⟨rfl, .inl ⟨rfl, rfl⟩⟩, Below.refl _ _⟩
  | some ad =>
    have hq : ∀ w, (binOp .eql 22 (.slice (some ad) a.length c) (.slice none 0 0)).run Tryz.prog w = .ok (.bool false) w := fun w => Lib.run_eql_slice_nil w 22 5 (some ad) a.length c 0 0 Tryz.underlying22
    go_enter Tryz.func25, Tryz.ntmps25
    go_wp2_with
      (at_builtin
       refine wpList_append_sl _ rfl (.tmp 5) (.tmp 6) _ rfl w.heap.size 5 i0 (.int .u8 0) 1 Tryz.underlying22 hi hz0 hz1 hz2 rfl _ 0 [] hrow rfl w.heap.size (.slice (some ad) a.length c) a (ha.below hB1) rfl (fun _ => rfl) (by unfold maxLen; omega) (by omega) (by simp) ?_
       intro v1 w1 hown1 hg1 hat1
       have hB2 : Below w.heap.size w w1 := hB1.trans (below_grown hrow hg1 (by simp) (Nat.le_refl _)))
    go_ret
    exact ⟨v1, rfl, by simpa [Own8] using hown1, hB2⟩
end Go.Proofs.YtkibigbcdlilkaaGreatDoor
namespace Go.Proofs.YtkibigbcdlilkaaGreatDoor
open Go.RowKit Go.Shelf
theorem told_fld {x : List UInt8} {a b c : Int} (hs : sumsG x = .ok (a, b, c)) (h8 : x.length ≤ 800) : ToldOk (fldL x a b c) x.length (a.toNat, b.toNat, c.toNat) := by
 obtain ⟨hr, ⟨h2, -⟩, -⟩ := sums_right hs
 obtain ⟨p1, p2, p3⟩ := right_nat hr
 obtain ⟨k1, k2⟩ := field_back _ (pack_bits a.toNat b.toNat c.toNat x.length)
 refine ⟨by omega, k2, ?_⟩
 unfold fldL
 rw [k1]
 exact unG_pack _ _ _ _ (by rw [int_nat p1, int_nat p2, int_nat p3]; exact hr)
theorem word_fld (x f : List UInt8) (i : Nat) (hi : i < 3) : ((wordL x f).take (x.length + 1 + (i + 1) * f.length)).drop (x.length + 1 + i * f.length) = f := by
 have e : wordL x f = (x ++ [juncL x f]) ++ (f ++ f ++ f) := rfl
 have hl : (x ++ [juncL x f]).length = x.length + 1 := by simp
 rw [e, List.take_append, List.drop_append, hl, List.take_of_length_le (by rw [hl]; omega), List.drop_of_length_le (by rw [hl]; omega), List.nil_append, Nat.add_sub_cancel_left, hl, Nat.add_sub_cancel_left]
 rcases (show i = 0 ∨ i = 1 ∨ i = 2 by omega) with rfl | rfl | rfl
 · simp
 · rw [show (1 + 1) * f.length = f.length + f.length by omega, show 1 * f.length = f.length by omega, List.append_assoc, List.take_append]
   simp
 · rw [show (2 + 1) * f.length = f.length + f.length + f.length by omega, show 2 * f.length = f.length + f.length by omega, List.take_of_length_le (by simp; omega), List.drop_append]
   simp
theorem word_take (x f : List UInt8) : (wordL x f).take x.length = x := by
 unfold wordL
 rw [List.append_assoc, List.take_left']
 rfl
end Go.Proofs.YtkibigbcdlilkaaGreatDoor
namespace Go.Proofs.YtkibigbcdlilkaaGreatDoor
open Go.RowKit Go.Shelf
def lettersL (y : List UInt8) : List UInt8 := y.map fun c => if codeOf c.toNat = -1 then 65 else c
theorem lettersL_length (y : List UInt8) : (lettersL y).length = y.length := by simp [lettersL]
theorem letter_fix {c : UInt8} (h : codeOf c.toNat ≠ -1) : (if codeOf c.toNat = -1 then (65 : UInt8) else c) = c := if_neg h
theorem lettersL_four {y : List UInt8} (h : Four y) : lettersL y = y := by
 unfold lettersL
 conv => rhs; rw [← List.map_id y]
 refine List.map_congr_left fun c hc => ?_
 exact letter_fix (four_mem h c hc)
theorem lettersL_app (a b : List UInt8) : lettersL (a ++ b) = lettersL a ++ lettersL b := by simp [lettersL]
end Go.Proofs.YtkibigbcdlilkaaGreatDoor
namespace Go.Proofs.YtkibigbcdlilkaaGreatDoor
open Go.RowKit Go.Shelf
attribute [local go_sem] Oper.semAt_some run_store_func
theorem own_set8 {B : Nat} {w : World} {v : Value} {xs : List UInt8} (h : Own8 B w v xs) (j : Nat) (hj : j < xs.length) :
    ∃ g cap, v = .slice (some ⟨g, 0, none⟩) xs.length cap ∧ B ≤ g ∧ g < w.heap.size ∧ w.cell? ⟨g, j, none⟩ = some (eB (atB xs j)) ∧ w.frozen? ⟨g, j, none⟩ = false ∧
      ∀ (w' : World) (u : UInt8), w'.heap[g]? = w.heap[g]? → Own8 B (w'.setCell ⟨g, j, none⟩ (eB u)) v (xs.set j u) := by
  rcases h.2 with ⟨_, h1⟩ | ⟨g, cap, cs, e, hB, hg, hn, hm, hsz, htake⟩
  · omega
  · rw [Nat.mul_one] at hsz htake
    have hr : Rowed w g 5 cs := hg
    have hget : ∀ i, i < xs.length → cs[i]? = some (eB (atB xs i)) := fun i hi => by
     have h1 : (cs.toList.take xs.length)[i]? = (xs.map eB)[i]? := by rw [htake]
     rw [List.getElem?_take_of_lt hi, Array.getElem?_toList] at h1
     rw [h1]
     simp [hi, atB]
    refine ⟨g, cap, e, hB, hr.lt, by rw [hr.cell j, hget j hj], hr.frozen j, fun w' u hw => ?_⟩
    have hr' : Rowed w' g 5 cs := hw.trans hg
    have hs := hr'.set j (eB u)
    refine ⟨by simp, .inr ⟨g, cap, cs.setIfInBounds j (eB u), by rw [e, List.length_set], hB, hs, by rw [List.length_set]; exact hn, hm, by simpa using hsz, ?_⟩⟩
    apply List.ext_getElem?
    intro i
    rw [List.length_set, Nat.mul_one]
    by_cases hi : i < xs.length
    · rw [List.getElem?_take_of_lt hi, Array.getElem?_toList, List.getElem?_map]
      by_cases e : i = j
      · subst e
        rw [Array.getElem?_setIfInBounds_self_of_lt (by omega), List.getElem?_set_self hi]
        rfl
      · rw [Array.getElem?_setIfInBounds_ne (fun h => e h.symm), hget i hi, List.getElem?_set_ne (fun h => e h.symm)]
        simp [hi, atB]
    · rw [List.getElem?_eq_none (by rw [List.length_take]; omega), List.getElem?_eq_none (by simp; omega)]
abbrev noneC : List PanicEntry := [{ v := .iface 86 (.agg #[]), recovered := false }]
set_option maxRecDepth 100000 in
set_option maxHeartbeats 1000000 in
theorem imust_ok (w : World) : Calls Tryz.prog 68 #[.int .i64 0] w fun e w' => e = .returned (.tuple #[]) ∧ w = w' := by
 go_enter Tryz.func68, Tryz.ntmps68
 go_wp2
 go_end0
 exact ⟨rfl, rfl⟩
set_option maxRecDepth 100000 in
set_option maxHeartbeats 1000000 in
theorem imust_not (n : Int) (h : n ≠ 0) (w : World) : Calls Tryz.prog 68 #[.int .i64 n] w fun e w' => e = .panicked noneC ∧ w = w' := by
 have h1 : (n != 0) = true := by simpa using h
 have h2 : (n == 0) = false := by simpa using h
 have hbd : ∀ w, (Instr.build 86 #[]).run Tryz.prog w = .ok (.agg #[]) w := fun _ => by kernel_rfl
 clear h
 go_enter Tryz.func68, Tryz.ntmps68
 go_wp2_with fail
 exact ⟨rfl, rfl, rfl⟩
theorem lettersL_step (y : List UInt8) (k : Nat) (h : k < y.length) (u : UInt8) (hu : u = if codeOf (atB y k).toNat = -1 then 65 else atB y k) : (lettersL (y.take k) ++ y.drop k).set k u = lettersL (y.take (k + 1)) ++ y.drop (k + 1) := by
 have hl : (lettersL (y.take k)).length = k := by rw [lettersL_length, List.length_take]; omega
 have e : atB y k = y[k] := by simp [atB, h]
 rw [e] at hu
 rw [List.set_append_right _ _ (by omega), hl, Nat.sub_self, List.drop_eq_getElem_cons h, List.set_cons_zero, List.take_succ_eq_append_getElem h, lettersL_app, List.append_assoc, hu]
 rfl
theorem lettersL_same (y : List UInt8) (k : Nat) (h : k < y.length) (hu : codeOf (atB y k).toNat ≠ -1) : lettersL (y.take k) ++ y.drop k = lettersL (y.take (k + 1)) ++ y.drop (k + 1) := by
 rw [← lettersL_step y k h _ rfl, if_neg hu]
 have hl : (lettersL (y.take k)).length = k := by rw [lettersL_length, List.length_take]; omega
 have e : atB y k = y[k] := by simp [atB, h]
 rw [List.set_append_right _ _ (by omega), hl, Nat.sub_self, e]
 congr 1
 rw [List.drop_eq_getElem_cons h, List.set_cons_zero]
theorem lettersL_at (y : List UInt8) (k : Nat) (h : k < y.length) : atB (lettersL (y.take k) ++ y.drop k) k = atB y k := by
 have hl : (lettersL (y.take k)).length = k := by rw [lettersL_length, List.length_take]; omega
 unfold atB
 rw [List.getElem?_append_right (by omega), hl, Nat.sub_self]
 simp
set_option maxRecDepth 100000 in
set_option maxHeartbeats 2000000 in
theorem letters_any (sv : Value) (y : List UInt8) (hreach : y.length ≤ 17592186044416) (w : World) (hT : Tab w) (hS : Sl eB w.heap.size w sv y) :
    Calls Tryz.prog 41 #[sv] w fun e w' => ∃ v, e = .returned v ∧ Own8 w.heap.size w' v (lettersL y) ∧ Below w.heap.size w w' := by
  have hC := BClone_any sv y (by omega) w hS
  have hlt0 := hT.lt
  obtain ⟨A, cap, rfl⟩ := hS.len
  go_enter Tryz.func41, Tryz.ntmps41
  go_wp2_with fail
  go_at_call 25
  refine hC.mono ?_
  rintro e w1 ⟨v, rfl, hO, hB⟩
  obtain ⟨Av, cv, rfl⟩ := hO.sl.len
  clear hC hS
  go_wp2_with fail
  go_loopw [12] (fun i wr => ∃ k : Nat, k ≤ y.length ∧ i = .int .i64 k ∧ Own8 w.heap.size wr (.slice Av y.length cv) (lettersL (y.take k) ++ y.drop k) ∧ Below w.heap.size w wr) (fun i _ => y.length - (intOf i).toNat)
  case atStart => exact ⟨0, Nat.zero_le _, rfl, by simpa [lettersL] using hO, hB⟩
  case round =>
   clear hO hB
   obtain ⟨k, hk, rfl, hO, hB⟩ := hrel
   by_cases hlt : k < y.length
   · have hlen : (lettersL (y.take k) ++ y.drop k).length = y.length := by rw [List.length_append, lettersL_length, List.length_take, List.length_drop]; omega
     obtain ⟨g, c2, hv, hg, hgl, hcell, hfz, hset⟩ := own_set8 hO k (by omega)
     rw [lettersL_at y k hlt] at hcell
     injection hv with hv1 hv2 hv3
     subst hv1 hv3
     have hTr := hT.below hB
     have hst := hset wr 65 rfl
     have hBs := hB.setCell (p := ⟨g, k, none⟩) hg (eB 65)
     have hCd := Code_any (atB y k) wr hTr
     have hL0 := fun w hT => Letter_any 0 w hT
     by_cases hno : codeOf (atB y k).toNat = -1
     · rw [if_pos hno, if_pos hno] at hCd
       rw [lettersL_step y k hlt 65 (by rw [if_pos hno])] at hst
       have Hx := Lib.hid (And.intro hst hBs)
       clear hst hBs hset hno hO hlen hv2
       go_wp2_with (first
        | (go_at_call 64; refine hCd.mono ?_; rintro e w' ⟨rfl, rfl⟩)
        | (go_at_call 65; refine (hL0 _ hTr).mono ?_; rintro e w' ⟨rfl, rfl⟩))
       go_roundw
       case rel => exact ⟨k + 1, by omega, by simp, Hx.out.1, Hx.out.2⟩
       case measure => simp [intOf]; omega
     · rw [if_neg hno, if_neg hno] at hCd
       rw [lettersL_same y k hlt hno] at hO
       have Hx := Lib.hid (And.intro hO hB)
       clear hst hBs hset hno hO hlen hv2 hB
       go_wp2_with (first
        | (go_at_call 64; refine hCd.mono ?_; rintro e w' ⟨rfl, rfl⟩))
       go_roundw
       case rel => exact ⟨k + 1, by omega, by simp, Hx.out.1, Hx.out.2⟩
       case measure => simp [intOf]; omega
   · obtain rfl : k = y.length := by omega
     rw [List.take_length, List.drop_length, List.append_nil] at hO
     have Hx := Lib.hid (And.intro hO hB)
     clear hO hB
     go_wp2_with fail
     go_ret
     exact ⟨_, rfl, Hx.out.1, Hx.out.2⟩
set_option maxRecDepth 100000 in
set_option maxHeartbeats 2000000 in
theorem behind_any (A : Option Addr) (len cap n : Nat) (h : n ≤ cap) (w : World) :
    Calls Tryz.prog 61 #[.slice A len cap, .int .i64 n] w fun e w' => e = .returned (.slice A n cap) ∧ w = w' := by
  go_enter Tryz.func61, Tryz.ntmps61
  go_wp2_with fail
  go_ret
  exact ⟨rfl, rfl⟩
end Go.Proofs.YtkibigbcdlilkaaGreatDoor
namespace Go.Proofs.YtkibigbcdlilkaaGreatDoor
open Go.RowKit Go.Shelf
attribute [local go_sem] Oper.semAt_some run_store_func
theorem field_snoc (bs : List UInt8) (k : Nat) (h : k < bs.length) : (fieldOf bs).take (k + 1) = (fieldOf bs).take k ++ [clsOf k (atB bs k).toNat] := by
 rw [List.take_succ_eq_append_getElem (by rw [fieldOf_length]; exact h)]
 simp [fieldOf, atB, h]
theorem back_snoc (s : List UInt8) (k : Nat) (h : k < s.length) : (s.zipIdx.map bitB).take (k + 1) = (s.zipIdx.map bitB).take k ++ [bitB (atB s k, k)] := by
 rw [List.take_succ_eq_append_getElem (by simpa using h)]
 simp [atB, h]
theorem all_bits_iff (bs : List UInt8) : (∀ b ∈ bs, b.toNat ≤ 1) ↔ ∀ k, k < bs.length → (atB bs k).toNat ≤ 1 := by
 constructor
 · intro h k hk
   have := h bs[k] (by simp)
   simpa [atB, hk] using this
 · intro h b hb
   obtain ⟨k, hk, rfl⟩ := List.getElem_of_mem hb
   have := h k hk
   simpa [atB, hk] using this
theorem all_lett_iff (s : List UInt8) : (∀ y ∈ s.zipIdx, LetterAt y) ↔ ∀ k, k < s.length → LetterAt (atB s k, k) := by
 constructor
 · intro h k hk
   have := h (s[k], k) (by rw [List.mem_zipIdx_iff_getElem?]; simp [hk])
   simpa [atB, hk] using this
 · intro h y hy
   rw [List.mem_zipIdx_iff_getElem?] at hy
   have hk : y.2 < s.length := (List.getElem?_eq_some_iff.1 hy).1
   have := h y.2 hk
   simp only [atB, hy, Option.getD_some] at this
   exact this
theorem atcg : (∀ w, (Instr.index 9 (.string ⟨#[65, 84, 67, 71]⟩) (.int .i64 0)).run Tryz.prog w = .ok (.int .u8 65) w) ∧ (∀ w, (Instr.index 9 (.string ⟨#[65, 84, 67, 71]⟩) (.int .i64 1)).run Tryz.prog w = .ok (.int .u8 84) w) ∧
    (∀ w, (Instr.index 9 (.string ⟨#[65, 84, 67, 71]⟩) (.int .i64 2)).run Tryz.prog w = .ok (.int .u8 67) w) ∧ (∀ w, (Instr.index 9 (.string ⟨#[65, 84, 67, 71]⟩) (.int .i64 3)).run Tryz.prog w = .ok (.int .u8 71) w) :=
  ⟨fun _ => by kernel_rfl, fun _ => by kernel_rfl, fun _ => by kernel_rfl, fun _ => by kernel_rfl⟩
theorem tmod2 (k : Nat) : (k % 2 = 0 ∧ (k : Int).tmod 2 = 0) ∨ (k % 2 = 1 ∧ (k : Int).tmod 2 = 1) := by
 rw [Int.tmod_eq_emod_of_nonneg (by omega)]
 omega
set_option maxRecDepth 100000 in
set_option maxHeartbeats 4000000 in
theorem RField_any (sv : Value) (bs : List UInt8) (hreach : bs.length ≤ 100000) (w : World) (hS : Sl eB w.heap.size w sv bs) :
    Calls Tryz.prog 56 #[sv] w fun e w' => Below w.heap.size w w' ∧
      ((∃ v, e = .returned (.tuple #[v, .int .i64 0]) ∧ (∀ b ∈ bs, b.toNat ≤ 1) ∧ Sl eB w'.heap.size w' v (fieldOf bs)) ∨
       (e = .returned (.tuple #[.slice none 0 0, .int .i64 2]) ∧ ¬ ∀ b ∈ bs, b.toNat ≤ 1)) := by
  obtain ⟨i0, hi, hz0, hz1, hz2⟩ := info_parts info_u8
  obtain ⟨A, c, rfl, hc, hcs⟩ := hS
  obtain ⟨x0, x1, x2, x3⟩ := atcg
  have Hr := Lib.hid hreach
  clear hreach
  go_enter Tryz.func56, Tryz.ntmps56
  go_wp2_with fail
  go_loopw [4, 5] (fun v i wr => ∃ k : Nat, k ≤ bs.length ∧ i = .int .i64 k ∧ wr.ownsRow w.heap.size 5 1 v k (((fieldOf bs).take k).map eB) ∧ (∀ j, j < k → (atB bs j).toNat ≤ 1) ∧ Below w.heap.size w wr) (fun _ i _ => bs.length - (intOf i).toNat)
  case atStart => exact ⟨0, Nat.zero_le _, rfl, ⟨rfl, .inl ⟨rfl, rfl⟩⟩, fun j hj => absurd hj (by omega), Below.refl _ _⟩
  case round =>
   obtain ⟨k, hk, rfl, hrow, hok, hB⟩ := hrel
   by_cases hlt : k < bs.length
   · obtain ⟨b, off, rfl, hb, hcell⟩ := hcs (by omega)
     have hx := (hB.cell (p := ⟨b, off + k, none⟩) hb).trans (hcell k _ (atB_lt hlt))
     have hkl : (k : Int) < (bs.length : Int) := by omega
     have hsn := field_snoc bs k hlt
     have hm := Hr.out
     have hm1 : k + 1 ≤ maxLen := by unfold maxLen; omega
     have hk9 : k ≤ 100000 := by omega
     have hBs := hB.size
     by_cases hbad : (atB bs k).toNat ≤ 1
     · have Hok := Lib.hid (show ∀ j, j < k + 1 → (atB bs j).toNat ≤ 1 from fun j hj => by
         by_cases e : j = k
         · rw [e]; exact hbad
         · exact hok j (by omega))
       have hbb : atB bs k = 0 ∨ atB bs k = 1 := by
        rcases (show (atB bs k).toNat = 0 ∨ (atB bs k).toNat = 1 by omega) with e | e
        · exact .inl (UInt8.toNat_inj.1 e)
        · exact .inr (UInt8.toNat_inj.1 e)
       have Hlt := Lib.hid hlt
       rcases tmod2 k with ⟨q, ht⟩ | ⟨q, ht⟩
       all_goals
        rcases hbb with e | e
        all_goals
         rw [e] at hx hsn
         unfold clsOf at hsn
         simp [q] at hsn
         have Hsn := Lib.hid hsn
         clear hsn hok hbad e q hcell hcs hm hlt
         go_wp2_with
           (at_builtin
            refine wpList_append_own _ rfl _ _ 22 rfl w.heap.size 5 i0 (.int .u8 0) 1 1 Tryz.underlying22 hi hz0 hz1 hz2 rfl (by decide) _ _ _ rfl (hrow.alloc _) ⟨wr.heap.size, 0, none⟩ 1 1 [_] rfl rfl (cell_one_new _ _ _) (by simp [Value.oneCell']) hm1 (by omega) (by simp; omega) ?_
            intro v' w2 hown' hgrow _)
         have hB2 : Below w.heap.size w w2 := (hB.alloc hBs _).trans (below_grown (hrow.alloc _) hgrow (by simp; omega) (Nat.le_refl _))
         go_roundw
         case rel => exact ⟨k + 1, by have := Hlt.out; omega, by go_num, by rw [Hsn.out, List.map_append]; exact hown', Hok.out, hB2⟩
         case measure => have := Hlt.out; simp [intOf]; omega
     · have hgt : (1 : Int) < ((atB bs k).toNat : Int) := by omega
       have Hno := Lib.hid (show ¬ ∀ b ∈ bs, b.toNat ≤ 1 from fun h => hbad ((all_bits_iff bs).1 h k hlt))
       clear hok hbad hcell hcs hsn hm hlt
       generalize atB bs k = y at *
       go_wp2_with fail
       go_ret2
       exact ⟨hB, .inr ⟨rfl, Hno.out⟩⟩
   · obtain rfl : k = bs.length := by omega
     have hl : (fieldOf bs).take bs.length = fieldOf bs := List.take_of_length_le (by rw [fieldOf_length]; exact Nat.le_refl _)
     rw [hl] at hrow
     have Hall := Lib.hid ((all_bits_iff bs).2 hok)
     have hfl := fieldOf_length bs
     have hsl : Sl eB wr.heap.size wr u4 (fieldOf bs) := Sl.of_own (n := bs.length) hrow
     obtain ⟨A4, l4, c4, rfl⟩ := own_shape hrow
     clear hok hcs hl hfl hrow
     go_wp2_with fail
     go_ret2
     exact ⟨hB, .inl ⟨_, rfl, Hall.out, hsl⟩⟩
set_option maxRecDepth 100000 in
set_option maxHeartbeats 4000000 in
theorem RBack_any (sv : Value) (s : List UInt8) (hreach : s.length ≤ 100000) (w : World) (hS : Sl eB w.heap.size w sv s) :
    Calls Tryz.prog 72 #[sv] w fun e w' => Below w.heap.size w w' ∧
      ((∃ v, e = .returned (.tuple #[v, .int .i64 0]) ∧ (∀ y ∈ s.zipIdx, LetterAt y) ∧ Sl eB w'.heap.size w' v (s.zipIdx.map bitB)) ∨
       (e = .returned (.tuple #[.slice none 0 0, .int .i64 10]) ∧ ¬ ∀ y ∈ s.zipIdx, LetterAt y)) := by
  obtain ⟨i0, hi, hz0, hz1, hz2⟩ := info_parts info_u8
  obtain ⟨A, c, rfl, hc, hcs⟩ := hS
  obtain ⟨x0, x1, x2, x3⟩ := atcg
  have Hr := Lib.hid hreach
  clear hreach
  go_enter Tryz.func72, Tryz.ntmps72
  go_wp2_with fail
  go_loopw [4, 5] (fun v i wr => ∃ k : Nat, k ≤ s.length ∧ i = .int .i64 k ∧ wr.ownsRow w.heap.size 5 1 v k (((s.zipIdx.map bitB).take k).map eB) ∧ (∀ j, j < k → LetterAt (atB s j, j)) ∧ Below w.heap.size w wr) (fun _ i _ => s.length - (intOf i).toNat)
  case atStart => exact ⟨0, Nat.zero_le _, rfl, ⟨rfl, .inl ⟨rfl, rfl⟩⟩, fun j hj => absurd hj (by omega), Below.refl _ _⟩
  case round =>
   obtain ⟨k, hk, rfl, hrow, hok, hB⟩ := hrel
   by_cases hlt : k < s.length
   · obtain ⟨b, off, rfl, hb, hcell⟩ := hcs (by omega)
     have hx := (hB.cell (p := ⟨b, off + k, none⟩) hb).trans (hcell k _ (atB_lt hlt))
     have hkl : (k : Int) < (s.length : Int) := by omega
     have hsn := back_snoc s k hlt
     have hm := Hr.out
     have hm1 : k + 1 ≤ maxLen := by unfold maxLen; omega
     have hk9 : k ≤ 100000 := by omega
     have hBs := hB.size
     have Hlt := Lib.hid hlt
     by_cases h0 : atB s k = clsOf k 0
     · have hL : LetterAt (atB s k, k) := .inl h0
       have Hok := Lib.hid (show ∀ j, j < k + 1 → LetterAt (atB s j, j) from fun j hj => by
        by_cases e : j = k
        · rw [e]; exact hL
        · exact hok j (by omega))
       have hbit : bitB (atB s k, k) = 0 := if_pos h0
       rw [hbit] at hsn
       have Hsn := Lib.hid hsn
       rw [h0] at hx
       unfold clsOf at hx
       clear hsn hok hcell hcs hm hlt h0 hL hbit
       rcases tmod2 k with ⟨q, ht⟩ | ⟨q, ht⟩
       all_goals
        simp [q] at hx
        clear q
        go_wp2_with
          (at_builtin
           refine wpList_append_own _ rfl _ _ 22 rfl w.heap.size 5 i0 (.int .u8 0) 1 1 Tryz.underlying22 hi hz0 hz1 hz2 rfl (by decide) _ _ _ rfl (hrow.alloc _) ⟨wr.heap.size, 0, none⟩ 1 1 [_] rfl rfl (cell_one_new _ _ _) (by simp [Value.oneCell']) hm1 (by omega) (by simp; omega) ?_
           intro v' w2 hown' hgrow _)
        have hB2 : Below w.heap.size w w2 := (hB.alloc hBs _).trans (below_grown (hrow.alloc _) hgrow (by simp; omega) (Nat.le_refl _))
        go_roundw
        case rel => exact ⟨k + 1, by have := Hlt.out; omega, by go_num, by rw [Hsn.out, List.map_append]; exact hown', Hok.out, hB2⟩
        case measure => have := Hlt.out; simp [intOf]; omega
     · by_cases h1 : atB s k = clsOf k 1
       · have hL : LetterAt (atB s k, k) := .inr h1
         have Hok := Lib.hid (show ∀ j, j < k + 1 → LetterAt (atB s j, j) from fun j hj => by
          by_cases e : j = k
          · rw [e]; exact hL
          · exact hok j (by omega))
         have hbit : bitB (atB s k, k) = 1 := if_neg h0
         rw [hbit] at hsn
         have Hsn := Lib.hid hsn
         rw [h1] at hx
         unfold clsOf at hx
         clear hsn hok hcell hcs hm hlt h0 h1 hL hbit
         rcases tmod2 k with ⟨q, ht⟩ | ⟨q, ht⟩
         all_goals
          simp [q] at hx
          clear q
          go_wp2_with
            (at_builtin
             refine wpList_append_own _ rfl _ _ 22 rfl w.heap.size 5 i0 (.int .u8 0) 1 1 Tryz.underlying22 hi hz0 hz1 hz2 rfl (by decide) _ _ _ rfl (hrow.alloc _) ⟨wr.heap.size, 0, none⟩ 1 1 [_] rfl rfl (cell_one_new _ _ _) (by simp [Value.oneCell']) hm1 (by omega) (by simp; omega) ?_
             intro v' w2 hown' hgrow _)
          have hB2 : Below w.heap.size w w2 := (hB.alloc hBs _).trans (below_grown (hrow.alloc _) hgrow (by simp; omega) (Nat.le_refl _))
          go_roundw
          case rel => exact ⟨k + 1, by have := Hlt.out; omega, by go_num, by rw [Hsn.out, List.map_append]; exact hown', Hok.out, hB2⟩
          case measure => have := Hlt.out; simp [intOf]; omega
       · have Hno := Lib.hid (show ¬ ∀ y ∈ s.zipIdx, LetterAt y from fun h => by
           rcases (all_lett_iff s).1 h k hlt with e | e
           · exact h0 e
           · exact h1 e)
         rcases tmod2 k with ⟨q, ht⟩ | ⟨q, ht⟩
         · have n0 : ((atB s k).toNat : Int) ≠ 65 := fun e => h0 (by unfold clsOf; rw [if_pos q, if_pos rfl]; exact UInt8.toNat_inj.1 (by show (atB s k).toNat = 65; omega))
           have n1 : ((atB s k).toNat : Int) ≠ 84 := fun e => h1 (by unfold clsOf; rw [if_pos q, if_neg (by omega)]; exact UInt8.toNat_inj.1 (by show (atB s k).toNat = 84; omega))
           have g0 : (((atB s k).toNat : Int) == 65) = false := beq_eq_false_iff_ne.2 n0
           have g1 : (((atB s k).toNat : Int) == 84) = false := beq_eq_false_iff_ne.2 n1
           clear hok hcell hcs hsn hm hlt h0 h1 q n0 n1
           generalize atB s k = y at *
           go_wp2_with fail
           go_ret2
           exact ⟨hB, .inr ⟨rfl, Hno.out⟩⟩
         · have n0 : ((atB s k).toNat : Int) ≠ 67 := fun e => h0 (by unfold clsOf; rw [if_neg (by omega), if_pos rfl]; exact UInt8.toNat_inj.1 (by show (atB s k).toNat = 67; omega))
           have n1 : ((atB s k).toNat : Int) ≠ 71 := fun e => h1 (by unfold clsOf; rw [if_neg (by omega), if_neg (by omega)]; exact UInt8.toNat_inj.1 (by show (atB s k).toNat = 71; omega))
           have g0 : (((atB s k).toNat : Int) == 67) = false := beq_eq_false_iff_ne.2 n0
           have g1 : (((atB s k).toNat : Int) == 71) = false := beq_eq_false_iff_ne.2 n1
           clear hok hcell hcs hsn hm hlt h0 h1 q n0 n1
           generalize atB s k = y at *
           go_wp2_with fail
           go_ret2
           exact ⟨hB, .inr ⟨rfl, Hno.out⟩⟩
   · obtain rfl : k = s.length := by omega
     have hl : (s.zipIdx.map bitB).take s.length = s.zipIdx.map bitB := List.take_of_length_le (by simp)
     rw [hl] at hrow
     have Hall := Lib.hid ((all_lett_iff s).2 hok)
     have hll : (s.zipIdx.map bitB).length = s.length := by simp
     have hsl : Sl eB wr.heap.size wr u4 (s.zipIdx.map bitB) := Sl.of_own (n := s.length) hrow
     obtain ⟨A4, l4, c4, rfl⟩ := own_shape hrow
     clear hok hcs hl hrow hll
     go_wp2_with fail
     go_ret2
     exact ⟨hB, .inl ⟨_, rfl, Hall.out, hsl⟩⟩
end Go.Proofs.YtkibigbcdlilkaaGreatDoor
