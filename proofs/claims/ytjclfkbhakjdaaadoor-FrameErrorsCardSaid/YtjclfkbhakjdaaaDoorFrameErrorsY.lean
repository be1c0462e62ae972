/- FrameErrors: for every shape, every frame and every number the law's function returns true, leaves what was there as it was, and never panics. Conditions: the row's own (the four tables of letters and sizes read as the program's text lays them; the card ties that). -/
import Derived.Lib.SmallJoins
import Derived.Test.YtjclfkbhakjdaaaDoorCards
import Derived.Test.YtjclfkbhakjdaaaDoorTie
import Derived.Test.YtjclfkbhakjdaaaDoorFrEbY
import Derived.Test.YtjclfkbhakjdaaaDoorK2Y
import Derived.Test.YtjclfkbhakjdaaaDoorKFY
namespace Go.Proofs.YtjclfkbhakjdaaaDoor.FrameErrors
open Go.ChangeShapes Go.WideShapes Go.ChangeAt Go.RowKit
theorem own : ownKnob Tryd.prog.godebug = none := by kernel_rfl
theorem laidOut : laidOutB Tryd.prog = true := by kernel_rfl
theorem gTab : Tryd.prog.globalNamed "helix/nt.letters" = some 3 := by kernel_rfl
theorem gTabType : (Tryd.prog.globals[3]?).map (·.type) = some 107 := by kernel_rfl
theorem gTabO : Tryd.prog.globalNamed "helix/balance.other" = some 2 := by kernel_rfl
theorem gTabOType : (Tryd.prog.globals[2]?).map (·.type) = some 107 := by kernel_rfl
theorem gTabB : Tryd.prog.globalNamed "helix/bits.classes" = some 1 := by kernel_rfl
theorem gTabBType : (Tryd.prog.globals[1]?).map (·.type) = some 99 := by kernel_rfl
theorem gTabP : Tryd.prog.globalNamed "helix/shape.payloads" = some 0 := by kernel_rfl
theorem gTabPType : (Tryd.prog.globals[0]?).map (·.type) = some 68 := by kernel_rfl
theorem cellsA : Tryd.prog.cellsOf 107 = 4 := by kernel_rfl
theorem cellsQ : Tryd.prog.cellsOf 68 = 5 := by kernel_rfl
theorem cells2 : Tryd.prog.cellsOf 85 = 2 := by kernel_rfl
theorem cellsH : Tryd.prog.cellsOf 23 = 3 := by kernel_rfl
theorem cellsF : Tryd.prog.cellsOf 26 = 3 := by kernel_rfl
theorem cells5 : Tryd.prog.cellsOf 5 = 1 := by kernel_rfl
theorem cells3 : Tryd.prog.cellsOf 3 = 1 := by kernel_rfl
/-- What is laid behind the first one is laid. -/
theorem laidMet_tail {P : Program} {W : World} {x : String × DataW Unit} {rest : List (String × DataW Unit)} (h : laidMet P (x :: rest) W) : laidMet P rest W := by
 obtain ⟨ps, ⟨g', t', cs, fuel, p, q, hg', ht', hvar, hd, hrest, hps⟩, hnd, hc⟩ := h
 subst hps
 exact ⟨q, hrest, (List.nodup_append.1 hnd).2.1, fun b off hm => hc b off (List.mem_append_right _ hm)⟩
/-- The row's list gives the tables' cells. -/
theorem table {W : World} (h : laidMetH Tryd.prog Rows.frameErrorsRow.laid W) : Tabs W := by
 have h1' : laidMet Tryd.prog [("helix/bits.classes", Rows.laid_helix_bits_classes), ("helix/nt.letters", Rows.laid_helix_nt_letters), ("helix/balance.other", Rows.laid_helix_balance_other), ("helix/shape.payloads", Rows.laid_helix_shape_payloads)] W := h
 have t : Lib.TabIs Tryd.prog W "helix/nt.letters" .u8 [65, 67, 71, 84] := Lib.tabIs_of_head (rest := [_, _]) gTab gTabType Tryd.underlying107 Tryd.underlying5 cells5 cellsA (laidMet_tail h1')
 have o : Lib.TabIs Tryd.prog W "helix/balance.other" .u8 [67, 65, 84, 71] := Lib.tabIs_of_head (rest := [_]) gTabO gTabOType Tryd.underlying107 Tryd.underlying5 cells5 cellsA (laidMet_tail (laidMet_tail h1'))
 have q : Lib.TabIs Tryd.prog W "helix/shape.payloads" .i64 [2, 7, 12, 17, 22] := Lib.tabIs_of_head (rest := []) gTabP gTabPType Tryd.underlying68 Tryd.underlying3 cells3 cellsQ (laidMet_tail (laidMet_tail (laidMet_tail h1')))
 obtain ⟨cs, hv, hc⟩ := tab2_of_head (k := .u8) (zss := [[65, 84], [67, 71]]) (rest := [_, _, _]) gTabB gTabBType Tryd.underlying99 cells2 Tryd.underlying85 Tryd.underlying5 cells5 h1'
 have h0 := hc 0 [65, 84] rfl
 have h1 := hc 1 [67, 71] rfl
 have hn := show W.cell? ⟨3, 0, none⟩ = some (.int .u8 65) ∧ W.cell? ⟨3, 1, none⟩ = some (.int .u8 67) ∧ W.cell? ⟨3, 2, none⟩ = some (.int .u8 71) ∧ W.cell? ⟨3, 3, none⟩ = some (.int .u8 84) from ⟨t.cell gTab 0 (by decide), t.cell gTab 1 (by decide), t.cell gTab 2 (by decide), t.cell gTab 3 (by decide)⟩
 refine ⟨hn, hn, ⟨o.cell gTabO 0 (by decide), o.cell gTabO 1 (by decide), o.cell gTabO 2 (by decide), o.cell gTabO 3 (by decide)⟩, ⟨?_, ?_, ?_, ?_⟩, ⟨q.cell gTabP 0 (by decide), q.cell gTabP 1 (by decide), q.cell gTabP 2 (by decide), q.cell gTabP 3 (by decide), q.cell gTabP 4 (by decide)⟩⟩
 · rw [World.var?_cell gTabB hv]; have := congrArg (·[0]?) h0; simpa using this
 · rw [World.var?_cell gTabB hv]; have := congrArg (·[1]?) h0; simpa using this
 · rw [World.var?_cell gTabB hv]; have := congrArg (·[0]?) h1; simpa using this
 · rw [World.var?_cell gTabB hv]; have := congrArg (·[1]?) h1; simpa using this
set_option maxRecDepth 100000 in
theorem contract (H : Type) (enc : TypeId × Value → H) (W : World) (base : Nat) (args : Array Value) (ds gs : List (DataW H)) (before : List MemPlace)
    (hval : ∀ (j : Nat) t v, Tryd.f5.params[j]? = some t → args[j]? = some v → Value.okWide Tryd.prog W .any base t v)
    (hW : DataW.Whole enc Tryd.prog Tryd.f5.params.toList Rows.frameErrorsSpec.vars false W args.toList ds gs before) (hL : laidMetH Tryd.prog Rows.frameErrorsRow.laid W) :
    Calls Tryd.prog 5 args W fun e W' => ∃ v, e = .returned v ∧ Rows.frameErrorsSpec.post enc Tryd.prog Tryd.f5 false true false false W args v W' := by
 have hW' := hW
 obtain ⟨p, q, hA0, hV, rfl, hfz, hnd⟩ := hW
 have hA : DataW.TrodAll enc Tryd.prog W 0 (fun _ => true) true Tryd.f5.params.toList args.toList ds p := hA0
 rw [Tryd.params5] at hA hval
 obtain ⟨v0, vs0, d0, ds0, p0, q0, hargs, rfl, rfl, h0, r0⟩ := trodAll_cons hA
 obtain ⟨v1, vs1, d1, ds1, p1, q1, rfl, rfl, rfl, h1, r1⟩ := trodAll_cons r0
 obtain ⟨v2, vs2, d2, ds2, p2, q2, rfl, rfl, rfl, h2, r2⟩ := trodAll_cons r1
 obtain ⟨rfl, rfl, rfl⟩ := trodAll_nil r2
 obtain rfl : args = #[v0, v1, v2] := by cases args; simp_all
 obtain ⟨cc0, cc1, cc2, y0, y1, y2, mm, rfl, rfl, rfl, hy0, hy1, hy2⟩ := Go.Joins.open_agg3 Tryd.underlying23 (by kernel_rfl) cellsH (hval 0 23 v0 rfl rfl) h0
 obtain ⟨P, e0, _, w0⟩ := DataW.trod_int Tryd.underlying3 hy0
 obtain ⟨D, e1, _, w1⟩ := DataW.trod_int Tryd.underlying3 hy1
 obtain ⟨R, e2, _, w2⟩ := DataW.trod_int Tryd.underlying3 hy2
 simp at e0 e1 e2
 subst e0 e1 e2
 obtain ⟨cc0, cc1, c1, y0, y1, y2, mm, rfl, rfl, rfl, hy0, hy1, hy2⟩ := Go.Joins.open_agg3 Tryd.underlying26 (by kernel_rfl) cellsF (hval 1 26 v1 rfl rfl) h1
 obtain ⟨G1, e0, _, w0⟩ := DataW.trod_int Tryd.underlying3 hy0
 obtain ⟨L1, e1, _, w1⟩ := DataW.trod_int Tryd.underlying3 hy1
 simp at e0 e1
 subst e0 e1
 obtain ⟨x1, hx1⟩ := open_bytes_cell Tryd.underlying24 Tryd.underlying5 cells5 hy2
 obtain ⟨x2, rfl, hx2⟩ := open_int Tryd.underlying3 (hval 2 3 v2 rfl rfl) h2
 refine (FrameErrors_any P D R G1 L1 x2 c1 x1 W (table hL) hx1).mono fun e W' ⟨he, hB⟩ => ?_
 exact ⟨_, he, post_true laidOut rfl (by kernel_rfl) Tryd.underlying4 (by kernel_rfl) rfl hW' hB⟩
noncomputable def tabled (k : IntKind) (l : List Int) : Obj → Obj
  | .cells _ t frozen => .cells (l.map fun z => Value.int k z).toArray t frozen
  | o => o
noncomputable def laidWorld (os : Os) : World :=
 { World.holding Tryd.prog os ⟨#[], #[], []⟩ with heap := ((((World.holding Tryd.prog os ⟨#[], #[], []⟩).heap.modify 3 (tabled .u8 [65, 67, 71, 84])).modify 1 (tabled .u8 [65, 84, 67, 71])).modify 2 (tabled .u8 [67, 65, 84, 71])).modify 0 (tabled .i64 [2, 7, 12, 17, 22]) }
theorem laid_met (os : Os) : laidMet Tryd.prog Rows.frameErrorsRow.laid ((laidWorld os).forCall (fun _ _ => 0) ⟨#[], #[.agg #[.int .i64 0, .int .i64 0, .int .i64 0], .agg #[.int .i64 0, .int .i64 0, .slice none 0 0], .int .i64 0], []⟩).memory :=
 laidMet_of_run' 8 (by kernel_rfl) (by kernel_rfl)
theorem reads (os : Os) {H : Type} (enc : TypeId × Value → H) : ∃ places, DataW.whole enc Tryd.prog ((laidWorld os).forCall (fun _ _ => 0) ⟨#[], #[.agg #[.int .i64 0, .int .i64 0, .int .i64 0], .agg #[.int .i64 0, .int .i64 0, .slice none 0 0], .int .i64 0], []⟩).memory Tryd.f5.params.toList Rows.frameErrorsSpec.vars false #[Value.agg #[.int .i64 0, .int .i64 0, .int .i64 0], Value.agg #[.int .i64 0, .int .i64 0, .slice none 0 0], Value.int .i64 0].toList 8 = some ([.agg [.lit (.int .i64 0), .lit (.int .i64 0), .lit (.int .i64 0)], .agg [.lit (.int .i64 0), .lit (.int .i64 0), .nil], .lit (.int .i64 0)], [], places) :=
 ⟨[], by kernel_rfl⟩
set_option maxRecDepth 100000 in
theorem lifted (os : Os) (started : os.Started) (H : Type) (enc : TypeId × Value → H) (F : Stop.Interp) :
    ReturnsInHanded {} Tryd.checked os 5 .any ((OpenSpec.ofChange Rows.frameErrorsSpec).preRow enc Tryd.prog Tryd.f5 Rows.frameErrorsRow.domain false Rows.frameErrorsRow.laid) (((OpenSpec.ofChange Rows.frameErrorsSpec).at F).post enc Tryd.prog Tryd.f5 false true false false) := by
  obtain ⟨places, hx⟩ := reads os enc
  refine returnsInHanded_of_row (C := Tryd.checked) (s := OpenSpec.ofChange Rows.frameErrorsSpec) own started (by kernel_rfl) Tryd.func5
    (witness_row_at (enc := enc) (C := Tryd.checked) false (laidWorld os) #[.agg #[.int .i64 0, .int .i64 0, .int .i64 0], .agg #[.int .i64 0, .int .i64 0, .slice none 0 0], .int .i64 0] rfl (by kernel_rfl) (by kernel_rfl) (by kernel_rfl)
     (OpenSpec.preRow_of_cond 8 hx (by kernel_rfl) (fun k hk => by cases hk) (by kernel_rfl) (laid_met os))) ?_
  intro W base args ds gs before hval hW _ _ _ hL _ _
  exact contract H enc W base args ds gs before hval hW hL
theorem said : Rows.FrameErrorsSaid :=
 OpenClaim.holds_of_cond 5 Tryd.f5 rfl rfl rfl rfl rfl rfl rfl ⟨rfl, rfl, rfl, rfl, rfl⟩ rfl rfl rfl rfl rfl (by kernel_rfl) Tryd.func5 (by kernel_rfl)
  (of_decide_eq_true (by kernel_rfl)) (by unfold Func.isWrapper; first | (rw [if_pos (by decide +kernel)]; kernel_rfl) | (rw [if_neg (by decide +kernel)]; exact ⟨rfl, rfl⟩))
  (fun os started H enc _ F => by rw [OpenClaim.pre_eq_preRow]; exact lifted os started H enc F)
theorem plain (f : FuncId) (fn : Func) (hf : Tryd.pinned.checked.prog.funcNamed "helix/helixlaw19.FrameErrors" = some f) (hfn : Tryd.pinned.checked.prog.funcs[f]? = some fn) :
    true = Tryd.pinned.checked.prog.looks [] ∧ ∀ (j : Nat) t, fn.params[j]? = some t → Tryd.pinned.checked.prog.wantsStandIn t = false := by
  obtain rfl : f = 5 := Option.some.inj ((show Tryd.prog.funcNamed "helix/helixlaw19.FrameErrors" = some 5 by kernel_rfl).symm.trans hf) |>.symm
  obtain rfl : fn = Tryd.f5 := (Option.some.inj (Tryd.func5.symm.trans hfn)).symm
  refine ⟨by kernel_rfl, fun j t ht => ?_⟩
  have hm := Array.mem_of_getElem? ht
  have hall : (Tryd.f5.params.toList.all fun u => !Tryd.prog.wantsStandIn u) = true := by kernel_rfl
  exact (show Tryd.prog.wantsStandIn t = false by simpa using List.all_eq_true.1 hall t (by simpa using hm))
theorem card : Rows.FrameErrorsCardSaid :=
 Claim7.holds_tied_plain_at .later [] _ _ _ _ said (fun _ h => by cases h) (by kernel_rfl) (fun _ h => by cases h) frameErrors_row_tie rfl ⟨rfl, rfl⟩ (by kernel_rfl) rfl plain (by kernel_rfl)
end Go.Proofs.YtjclfkbhakjdaaaDoor.FrameErrors
