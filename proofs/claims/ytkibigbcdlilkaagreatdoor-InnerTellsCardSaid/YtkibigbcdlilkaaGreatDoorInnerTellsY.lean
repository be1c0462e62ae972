/- InnerTells: for every row of bytes and every number the law's function returns true, leaves what was there as it was, and never panics. Conditions: the row's own (the three tables of letters read as the program's text lays them; the card ties that). -/
import Derived.Test.YtkibigbcdlilkaaGreatDoorCards
import Derived.Test.YtkibigbcdlilkaaGreatDoorTie
import Derived.Test.YtkibigbcdlilkaaGreatDoorInnTY
import Derived.Test.YtkibigbcdlilkaaGreatDoorKY
import Derived.Test.YtkibigbcdlilkaaGreatDoorK2Y
namespace Go.Proofs.YtkibigbcdlilkaaGreatDoor.InnerTells
open Go.ChangeShapes Go.WideShapes Go.ChangeAt Go.RowKit
theorem own : ownKnob Tryz.prog.godebug = none := by kernel_rfl
theorem laidOut : laidOutB Tryz.prog = true := by kernel_rfl
theorem gTab : Tryz.prog.globalNamed "helix/nt.letters" = some 1 := by kernel_rfl
theorem gTabType : (Tryz.prog.globals[1]?).map (·.type) = some 93 := by kernel_rfl
theorem cellsA : Tryz.prog.cellsOf 93 = 4 := by kernel_rfl
theorem cells5 : Tryz.prog.cellsOf 5 = 1 := by kernel_rfl
theorem cells3 : Tryz.prog.cellsOf 3 = 1 := by kernel_rfl
theorem gTabB : Tryz.prog.globalNamed "helix/bits.classes" = some 2 := by kernel_rfl
theorem gTabBType : (Tryz.prog.globals[2]?).map (·.type) = some 148 := by kernel_rfl
theorem gTabE : Tryz.prog.globalNamed "helix/edit.letters" = some 0 := by kernel_rfl
theorem gTabEType : (Tryz.prog.globals[0]?).map (·.type) = some 93 := by kernel_rfl
theorem tabE_of {w : World} (h : w.var? Tryz.prog "helix/edit.letters" = some #[.int .u8 65, .int .u8 67, .int .u8 71, .int .u8 84]) : Ed.TabE w := by
 unfold World.var? at h
 rw [gTabE, Option.bind_some] at h
 split at h
 · rename_i cs t fr he
   cases h
   exact ⟨_, _, he⟩
 · cases h
theorem cells2 : Tryz.prog.cellsOf 136 = 2 := by kernel_rfl
/-- What is laid behind the first one is laid. -/
theorem laidMet_tail {P : Program} {W : World} {x : String × DataW Unit} {rest : List (String × DataW Unit)} (h : laidMet P (x :: rest) W) : laidMet P rest W := by
 obtain ⟨ps, ⟨g', t', cs, fuel, p, q, hg', ht', hvar, hd, hrest, hps⟩, hnd, hc⟩ := h
 subst hps
 exact ⟨q, hrest, (List.nodup_append.1 hnd).2.1, fun b off hm => hc b off (List.mem_append_right _ hm)⟩
/-- The row's list gives the tables' cells. -/
theorem table {W : World} (h : laidMetH Tryz.prog Rows.innerTellsRow.laid W) : Tab W ∧ TabB W ∧ Ed.TabE W := by
 have h1' : laidMet Tryz.prog [("helix/bits.classes", Rows.laid_helix_bits_classes), ("helix/edit.letters", Rows.laid_helix_edit_letters), ("helix/nt.letters", Rows.laid_helix_nt_letters)] W := h
 have t : Lib.TabIs Tryz.prog W "helix/nt.letters" .u8 [65, 67, 71, 84] := Lib.tabIs_of_head (rest := []) gTab gTabType Tryz.underlying93 Tryz.underlying5 cells5 cellsA (laidMet_tail (laidMet_tail h1'))
 have tE : Lib.TabIs Tryz.prog W "helix/edit.letters" .u8 [65, 67, 71, 84] := Lib.tabIs_of_head (rest := [_]) gTabE gTabEType Tryz.underlying93 Tryz.underlying5 cells5 cellsA (laidMet_tail h1')
 obtain ⟨cs, hv, hc⟩ := tab2_of_head (k := .u8) (zss := [[65, 84], [67, 71]]) (rest := [_, _]) gTabB gTabBType Tryz.underlying148 cells2 Tryz.underlying136 Tryz.underlying5 cells5 h1'
 have h0 := hc 0 [65, 84] rfl
 have h1 := hc 1 [67, 71] rfl
 refine ⟨Tab.of_var t, ⟨?_, ?_, ?_, ?_⟩, tabE_of tE⟩
 · rw [World.var?_cell gTabB hv]; have := congrArg (·[0]?) h0; simpa using this
 · rw [World.var?_cell gTabB hv]; have := congrArg (·[1]?) h0; simpa using this
 · rw [World.var?_cell gTabB hv]; have := congrArg (·[0]?) h1; simpa using this
 · rw [World.var?_cell gTabB hv]; have := congrArg (·[1]?) h1; simpa using this
set_option maxRecDepth 100000 in
theorem contract (H : Type) (enc : TypeId × Value → H) (W : World) (base : Nat) (args : Array Value) (ds gs : List (DataW H)) (before : List MemPlace)
    (hval : ∀ (j : Nat) t v, Tryz.f3.params[j]? = some t → args[j]? = some v → Value.okWide Tryz.prog W .any base t v)
    (hW : DataW.Whole enc Tryz.prog Tryz.f3.params.toList Rows.innerTellsSpec.vars false W args.toList ds gs before) (hL : laidMetH Tryz.prog Rows.innerTellsRow.laid W) :
    Calls Tryz.prog 3 args W fun e W' => ∃ v, e = .returned v ∧ Rows.innerTellsSpec.post enc Tryz.prog Tryz.f3 false true false false W args v W' := by
 have hW' := hW
 obtain ⟨p, q, hA0, hV, rfl, hfz, hnd⟩ := hW
 have hA : DataW.TrodAll enc Tryz.prog W 0 (fun _ => true) true Tryz.f3.params.toList args.toList ds p := hA0
 rw [Tryz.params3] at hA hval
 obtain ⟨v0, vs0, d0, ds0, p0, q0, hargs, rfl, rfl, h0, r0⟩ := trodAll_cons hA
 obtain ⟨v1, vs1, d1, ds1, p1, q1, rfl, rfl, rfl, h1, r1⟩ := trodAll_cons r0
 obtain ⟨rfl, rfl, rfl⟩ := trodAll_nil r1
 obtain rfl : args = #[v0, v1] := by cases args; simp_all
 obtain ⟨x0, hx0⟩ := open_bytes Tryz.underlying22 Tryz.underlying5 cells5 (hval 0 22 v0 rfl rfl) h0
 obtain ⟨x1, rfl, hx1⟩ := open_int Tryz.underlying3 (hval 1 3 v1 rfl rfl) h1
 refine (InnerTells_any v0 x0 x1 W hx0 (table hL).1 (table hL).2.1 (table hL).2.2).mono fun e W' ⟨he, hB⟩ => ?_
 exact ⟨_, he, post_true laidOut rfl (by kernel_rfl) Tryz.underlying4 (by kernel_rfl) rfl hW' hB⟩
noncomputable def tabled (l : List Int) : Obj → Obj
  | .cells _ t frozen => .cells (l.map fun z => Value.int .u8 z).toArray t frozen
  | o => o
noncomputable def laidWorld (os : Os) : World :=
 { World.holding Tryz.prog os ⟨#[], #[], []⟩ with heap := (((World.holding Tryz.prog os ⟨#[], #[], []⟩).heap.modify 1 (tabled [65, 67, 71, 84])).modify 2 (tabled [65, 84, 67, 71])).modify 0 (tabled [65, 67, 71, 84]) }
theorem laid_met (os : Os) : laidMet Tryz.prog Rows.innerTellsRow.laid ((laidWorld os).forCall (fun _ _ => 0) ⟨#[], #[.slice none 0 0, .int .i64 0], []⟩).memory :=
 laidMet_of_run' 8 (by kernel_rfl) (by kernel_rfl)
theorem reads (os : Os) {H : Type} (enc : TypeId × Value → H) : ∃ places, DataW.whole enc Tryz.prog ((laidWorld os).forCall (fun _ _ => 0) ⟨#[], #[.slice none 0 0, .int .i64 0], []⟩).memory Tryz.f3.params.toList Rows.innerTellsSpec.vars false #[Value.slice none 0 0, Value.int .i64 0].toList 8 = some ([.nil, .lit (.int .i64 0)], [], places) :=
 ⟨[], by kernel_rfl⟩
set_option maxRecDepth 100000 in
theorem lifted (os : Os) (started : os.Started) (H : Type) (enc : TypeId × Value → H) (F : Stop.Interp) :
    ReturnsInHanded {} Tryz.checked os 3 .any ((OpenSpec.ofChange Rows.innerTellsSpec).preRow enc Tryz.prog Tryz.f3 Rows.innerTellsRow.domain false Rows.innerTellsRow.laid) (((OpenSpec.ofChange Rows.innerTellsSpec).at F).post enc Tryz.prog Tryz.f3 false true false false) := by
  obtain ⟨places, hx⟩ := reads os enc
  refine returnsInHanded_of_row (C := Tryz.checked) (s := OpenSpec.ofChange Rows.innerTellsSpec) own started (by kernel_rfl) Tryz.func3
    (witness_row_at (enc := enc) (C := Tryz.checked) false (laidWorld os) #[.slice none 0 0, .int .i64 0] rfl (by kernel_rfl) (by kernel_rfl) (by kernel_rfl)
     (OpenSpec.preRow_of_cond 8 hx (by kernel_rfl) (fun k hk => by cases hk) (by kernel_rfl) (laid_met os))) ?_
  intro W base args ds gs before hval hW _ _ _ hL _ _
  exact contract H enc W base args ds gs before hval hW hL
theorem said : Rows.InnerTellsSaid :=
 OpenClaim.holds_of_cond 3 Tryz.f3 rfl rfl rfl rfl rfl rfl rfl ⟨rfl, rfl, rfl, rfl, rfl⟩ rfl rfl rfl rfl rfl (by kernel_rfl) Tryz.func3 (by kernel_rfl)
  (of_decide_eq_true (by kernel_rfl)) (by unfold Func.isWrapper; first | (rw [if_pos (by decide +kernel)]; kernel_rfl) | (rw [if_neg (by decide +kernel)]; exact ⟨rfl, rfl⟩))
  (fun os started H enc _ F => by rw [OpenClaim.pre_eq_preRow]; exact lifted os started H enc F)
theorem plain (f : FuncId) (fn : Func) (hf : Tryz.pinned.checked.prog.funcNamed "helix/helixlaw17.InnerTells" = some f) (hfn : Tryz.pinned.checked.prog.funcs[f]? = some fn) :
    true = Tryz.pinned.checked.prog.looks [] ∧ ∀ (j : Nat) t, fn.params[j]? = some t → Tryz.pinned.checked.prog.wantsStandIn t = false := by
  obtain rfl : f = 3 := Option.some.inj ((show Tryz.prog.funcNamed "helix/helixlaw17.InnerTells" = some 3 by kernel_rfl).symm.trans hf) |>.symm
  obtain rfl : fn = Tryz.f3 := (Option.some.inj (Tryz.func3.symm.trans hfn)).symm
  refine ⟨by kernel_rfl, fun j t ht => ?_⟩
  have hm := Array.mem_of_getElem? ht
  have hall : (Tryz.f3.params.toList.all fun u => !Tryz.prog.wantsStandIn u) = true := by kernel_rfl
  exact (show Tryz.prog.wantsStandIn t = false by simpa using List.all_eq_true.1 hall t (by simpa using hm))
theorem card : Rows.InnerTellsCardSaid :=
 Claim7.holds_tied_plain_at .later [] _ _ _ _ said (fun _ h => by cases h) (by kernel_rfl) (fun _ h => by cases h) innerTells_row_tie rfl ⟨rfl, rfl⟩ (by kernel_rfl) rfl plain (by kernel_rfl)
end Go.Proofs.YtkibigbcdlilkaaGreatDoor.InnerTells
