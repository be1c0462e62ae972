/- WordTells: for every row of bytes, every two bytes and every number the law's function returns true, leaves what was there as it was, and never panics. Conditions: the row's own (the two tables of letters read as the program's text lays them; the card ties that). -/
import Derived.Test.YtnlndaknljbhcaaDoorCards
import Derived.Test.YtnlndaknljbhcaaDoorTie
import Derived.Test.YtnlndaknljbhcaaDoorKZ
import Derived.Test.YtnlndaknljbhcaaDoorK2Z
import Derived.Test.YtnlndaknljbhcaaDoorWtFZ
namespace Go.Proofs.YtnlndaknljbhcaaDoor.WordTells
open Go.ChangeShapes Go.WideShapes Go.ChangeAt Go.RowKit

theorem own : ownKnob Tryd.prog.godebug = none := by kernel_rfl
theorem laidOut : laidOutB Tryd.prog = true := by kernel_rfl
theorem gTab : Tryd.prog.globalNamed "helix/nt.letters" = some 0 := by kernel_rfl
theorem gTabType : (Tryd.prog.globals[0]?).map (·.type) = some 65 := by kernel_rfl
theorem cellsA : Tryd.prog.cellsOf 65 = 4 := by kernel_rfl
theorem cells5 : Tryd.prog.cellsOf 5 = 1 := by kernel_rfl
theorem cells3 : Tryd.prog.cellsOf 3 = 1 := by kernel_rfl

theorem gTabB : Tryd.prog.globalNamed "helix/bits.classes" = some 1 := by kernel_rfl
theorem gTabBType : (Tryd.prog.globals[1]?).map (·.type) = some 82 := by kernel_rfl
theorem cells2 : Tryd.prog.cellsOf 74 = 2 := by kernel_rfl
/-- What is laid behind the first one is laid. -/
theorem laidMet_tail {P : Program} {W : World} {x : String × DataW Unit} {rest : List (String × DataW Unit)} (h : laidMet P (x :: rest) W) : laidMet P rest W := by
  obtain ⟨ps, ⟨g', t', cs, fuel, p, q, hg', ht', hvar, hd, hrest, hps⟩, hnd, hc⟩ := h
  subst hps
  exact ⟨q, hrest, (List.nodup_append.1 hnd).2.1, fun b off hm => hc b off (List.mem_append_right _ hm)⟩

/-- The row's list gives the tables' cells. -/
theorem table {W : World} (h : laidMetH Tryd.prog Rows.wordTellsRow.laid W) : Tab W ∧ TabB W := by
  have h1' : laidMet Tryd.prog [("helix/bits.classes", Rows.laid_helix_bits_classes), ("helix/nt.letters", Rows.laid_helix_nt_letters)] W := h
  have t : Lib.TabIs Tryd.prog W "helix/nt.letters" .u8 [65, 67, 71, 84] := Lib.tabIs_of_head (rest := []) gTab gTabType Tryd.underlying65 Tryd.underlying5 cells5 cellsA (laidMet_tail h1')
  obtain ⟨cs, hv, hc⟩ := tab2_of_head (k := .u8) (zss := [[65, 84], [67, 71]]) (rest := [_]) gTabB gTabBType Tryd.underlying82 cells2 Tryd.underlying74 Tryd.underlying5 cells5 h1'
  have h0 := hc 0 [65, 84] rfl
  have h1 := hc 1 [67, 71] rfl
  refine ⟨Tab.of_var t, ?_, ?_, ?_, ?_⟩
  · rw [World.var?_cell gTabB hv]; have := congrArg (·[0]?) h0; simpa using this
  · rw [World.var?_cell gTabB hv]; have := congrArg (·[1]?) h0; simpa using this
  · rw [World.var?_cell gTabB hv]; have := congrArg (·[0]?) h1; simpa using this
  · rw [World.var?_cell gTabB hv]; have := congrArg (·[1]?) h1; simpa using this

set_option maxRecDepth 100000 in
theorem contract (H : Type) (enc : TypeId × Value → H) (W : World) (base : Nat) (args : Array Value) (ds gs : List (DataW H)) (before : List MemPlace)
    (hval : ∀ (j : Nat) t v, Tryd.f3.params[j]? = some t → args[j]? = some v → Value.okWide Tryd.prog W .any base t v)
    (hW : DataW.Whole enc Tryd.prog Tryd.f3.params.toList Rows.wordTellsSpec.vars false W args.toList ds gs before) (hL : laidMetH Tryd.prog Rows.wordTellsRow.laid W) :
    Calls Tryd.prog 3 args W fun e W' => ∃ v, e = .returned v ∧ Rows.wordTellsSpec.post enc Tryd.prog Tryd.f3 false true false false W args v W' := by
  have hW' := hW
  obtain ⟨p, q, hA0, hV, rfl, hfz, hnd⟩ := hW
  have hA : DataW.TrodAll enc Tryd.prog W 0 (fun _ => true) true Tryd.f3.params.toList args.toList ds p := hA0
  rw [Tryd.params3] at hA hval
  obtain ⟨v0, vs0, d0, ds0, p0, q0, hargs, rfl, rfl, h0, r0⟩ := trodAll_cons hA
  obtain ⟨v1, vs1, d1, ds1, p1, q1, rfl, rfl, rfl, h1, r1⟩ := trodAll_cons r0
  obtain ⟨v2, vs2, d2, ds2, p2, q2, rfl, rfl, rfl, h2, r2⟩ := trodAll_cons r1
  obtain ⟨v3, vs3, d3, ds3, p3, q3, rfl, rfl, rfl, h3, r3⟩ := trodAll_cons r2
  obtain ⟨rfl, rfl, rfl⟩ := trodAll_nil r3
  obtain rfl : args = #[v0, v1, v2, v3] := by cases args; simp_all
  obtain ⟨x0, hx0⟩ := open_bytes Tryd.underlying22 Tryd.underlying5 cells5 (hval 0 22 v0 rfl rfl) h0
  obtain ⟨z1, rfl, hz1⟩ := open_int Tryd.underlying5 (hval 1 5 v1 rfl rfl) h1
  obtain ⟨x1, rfl⟩ := byte_of_wf hz1
  obtain ⟨z2, rfl, hz2⟩ := open_int Tryd.underlying5 (hval 2 5 v2 rfl rfl) h2
  obtain ⟨x2, rfl⟩ := byte_of_wf hz2
  obtain ⟨x3, rfl, hx3⟩ := open_int Tryd.underlying3 (hval 3 3 v3 rfl rfl) h3
  refine (WordTells_any v0 x0 x1 x2 x3 W hx0 (table hL).1 (table hL).2).mono fun e W' ⟨he, hB⟩ => ?_
  exact ⟨_, he, post_true laidOut rfl (by kernel_rfl) Tryd.underlying4 (by kernel_rfl) rfl hW' hB⟩

noncomputable def tabled (l : List Int) : Obj → Obj
  | .cells _ t frozen => .cells (l.map fun z => Value.int .u8 z).toArray t frozen
  | o => o
noncomputable def laidWorld (os : Os) : World :=
  { World.holding Tryd.prog os ⟨#[], #[], []⟩ with heap := ((World.holding Tryd.prog os ⟨#[], #[], []⟩).heap.modify 0 (tabled [65, 67, 71, 84])).modify 1 (tabled [65, 84, 67, 71]) }
theorem laid_met (os : Os) : laidMet Tryd.prog Rows.wordTellsRow.laid ((laidWorld os).forCall (fun _ _ => 0) ⟨#[], #[.slice none 0 0, .int .u8 0, .int .u8 0, .int .i64 0], []⟩).memory :=
  laidMet_of_run' 8 (by kernel_rfl) (by kernel_rfl)
theorem reads (os : Os) {H : Type} (enc : TypeId × Value → H) : ∃ places, DataW.whole enc Tryd.prog ((laidWorld os).forCall (fun _ _ => 0) ⟨#[], #[.slice none 0 0, .int .u8 0, .int .u8 0, .int .i64 0], []⟩).memory Tryd.f3.params.toList Rows.wordTellsSpec.vars false #[Value.slice none 0 0, Value.int .u8 0, Value.int .u8 0, Value.int .i64 0].toList 8 = some ([.nil, .lit (.int .u8 0), .lit (.int .u8 0), .lit (.int .i64 0)], [], places) :=
  ⟨[], by kernel_rfl⟩

set_option maxRecDepth 100000 in
theorem lifted (os : Os) (started : os.Started) (H : Type) (enc : TypeId × Value → H) (F : Stop.Interp) :
    ReturnsInHanded {} Tryd.checked os 3 .any ((OpenSpec.ofChange Rows.wordTellsSpec).preRow enc Tryd.prog Tryd.f3 Rows.wordTellsRow.domain false Rows.wordTellsRow.laid) (((OpenSpec.ofChange Rows.wordTellsSpec).at F).post enc Tryd.prog Tryd.f3 false true false false) := by
  obtain ⟨places, hx⟩ := reads os enc
  refine returnsInHanded_of_row (C := Tryd.checked) (s := OpenSpec.ofChange Rows.wordTellsSpec) own started (by kernel_rfl) Tryd.func3
    (witness_row_at (enc := enc) (C := Tryd.checked) false (laidWorld os) #[.slice none 0 0, .int .u8 0, .int .u8 0, .int .i64 0] rfl (by kernel_rfl) (by kernel_rfl) (by kernel_rfl)
      (OpenSpec.preRow_of_cond 8 hx (by kernel_rfl) (fun k hk => by cases hk) (by kernel_rfl) (laid_met os))) ?_
  intro W base args ds gs before hval hW _ _ _ hL _ _
  exact contract H enc W base args ds gs before hval hW hL

theorem said : Rows.WordTellsSaid :=
  OpenClaim.holds_of_cond 3 Tryd.f3 rfl rfl rfl rfl rfl rfl rfl ⟨rfl, rfl, rfl, rfl, rfl⟩ rfl rfl rfl rfl rfl (by kernel_rfl) Tryd.func3 (by kernel_rfl)
    (of_decide_eq_true (by kernel_rfl)) (by unfold Func.isWrapper; first | (rw [if_pos (by decide +kernel)]; kernel_rfl) | (rw [if_neg (by decide +kernel)]; exact ⟨rfl, rfl⟩))
    (fun os started H enc _ F => by rw [OpenClaim.pre_eq_preRow]; exact lifted os started H enc F)

theorem plain (f : FuncId) (fn : Func) (hf : Tryd.pinned.checked.prog.funcNamed "helix/helixlaw16.WordTells" = some f) (hfn : Tryd.pinned.checked.prog.funcs[f]? = some fn) :
    true = Tryd.pinned.checked.prog.looks [] ∧ ∀ (j : Nat) t, fn.params[j]? = some t → Tryd.pinned.checked.prog.wantsStandIn t = false := by
  obtain rfl : f = 3 := Option.some.inj ((show Tryd.prog.funcNamed "helix/helixlaw16.WordTells" = some 3 by kernel_rfl).symm.trans hf) |>.symm
  obtain rfl : fn = Tryd.f3 := (Option.some.inj (Tryd.func3.symm.trans hfn)).symm
  refine ⟨by kernel_rfl, fun j t ht => ?_⟩
  have hm := Array.mem_of_getElem? ht
  have hall : (Tryd.f3.params.toList.all fun u => !Tryd.prog.wantsStandIn u) = true := by kernel_rfl
  exact (show Tryd.prog.wantsStandIn t = false by simpa using List.all_eq_true.1 hall t (by simpa using hm))

theorem card : Rows.WordTellsCardSaid :=
  Claim7.holds_tied_plain_at .later [] _ _ _ _ said (fun _ h => by cases h) (by kernel_rfl) (fun _ h => by cases h) wordTells_row_tie rfl ⟨rfl, rfl⟩ (by kernel_rfl) rfl plain (by kernel_rfl)
end Go.Proofs.YtnlndaknljbhcaaDoor.WordTells
