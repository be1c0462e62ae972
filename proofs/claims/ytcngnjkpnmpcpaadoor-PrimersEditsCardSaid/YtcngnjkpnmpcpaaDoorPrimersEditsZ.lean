/- PrimersEdits: for every number, seed, place, string and edit the law's function returns true, leaves what was there as it was, and never panics. Conditions: the row's own (the table of letters reads as the program's text lays it; the card ties that). -/
import Derived.Lib.SmallJoins
import Derived.Test.YtcngnjkpnmpcpaaDoorCards
import Derived.Test.YtcngnjkpnmpcpaaDoorTie
import Derived.Test.YtcngnjkpnmpcpaaDoorKPZ
import Derived.Test.YtcngnjkpnmpcpaaDoorPcQZ
namespace Go.Proofs.YtcngnjkpnmpcpaaDoor.PrimersEdits
open Go.ChangeShapes Go.WideShapes Go.ChangeAt Go.RowKit
theorem own : ownKnob Tryd.prog.godebug = none := by kernel_rfl
theorem laidOut : laidOutB Tryd.prog = true := by kernel_rfl
theorem gTab : Tryd.prog.globalNamed "helix/nt.letters" = some 0 := by kernel_rfl
theorem gTabType : (Tryd.prog.globals[0]?).map (·.type) = some 86 := by kernel_rfl
theorem cellsA : Tryd.prog.cellsOf 86 = 4 := by kernel_rfl
theorem cellsE : Tryd.prog.cellsOf 42 = 3 := by kernel_rfl
theorem cells5 : Tryd.prog.cellsOf 5 = 1 := by kernel_rfl
theorem cells3 : Tryd.prog.cellsOf 3 = 1 := by kernel_rfl
/-- The row's list gives the table's cells. -/
theorem table {W : World} (h : laidMetH Tryd.prog Rows.primersEditsRow.laid W) : Tab W := by
 have t : Lib.TabIs Tryd.prog W "helix/nt.letters" .u8 [65, 67, 71, 84] := Lib.tabIs_of_head (rest := []) gTab gTabType Tryd.underlying86 Tryd.underlying5 cells5 cellsA h
 exact ⟨t.cell gTab 0 (by decide), t.cell gTab 1 (by decide), t.cell gTab 2 (by decide), t.cell gTab 3 (by decide)⟩
theorem contract (H : Type) (enc : TypeId × Value → H) (W : World) (base : Nat) (args : Array Value) (ds gs : List (DataW H)) (before : List MemPlace)
    (hval : ∀ (j : Nat) t v, Tryd.f5.params[j]? = some t → args[j]? = some v → Value.okWide Tryd.prog W .any base t v)
    (hW : DataW.Whole enc Tryd.prog Tryd.f5.params.toList Rows.primersEditsSpec.vars false W args.toList ds gs before) (hL : laidMetH Tryd.prog Rows.primersEditsRow.laid W) :
    Calls Tryd.prog 5 args W fun e W' => ∃ v, e = .returned v ∧ Rows.primersEditsSpec.post enc Tryd.prog Tryd.f5 false true false false W args v W' := by
 have hW' := hW
 obtain ⟨p, q, hA0, hV, rfl, hfz, hnd⟩ := hW
 have hA : DataW.TrodAll enc Tryd.prog W 0 (fun _ => true) true Tryd.f5.params.toList args.toList ds p := hA0
 rw [Tryd.params5] at hA hval
 obtain ⟨v0, vs0, d0, ds0, p0, q0, hargs, rfl, rfl, h0, r0⟩ := trodAll_cons hA
 obtain ⟨v1, vs1, d1, ds1, p1, q1, rfl, rfl, rfl, h1, r1⟩ := trodAll_cons r0
 obtain ⟨v2, vs2, d2, ds2, p2, q2, rfl, rfl, rfl, h2, r2⟩ := trodAll_cons r1
 obtain ⟨v3, vs3, d3, ds3, p3, q3, rfl, rfl, rfl, h3, r3⟩ := trodAll_cons r2
 obtain ⟨v4, vs4, d4, ds4, p4, q4, rfl, rfl, rfl, h4, r4⟩ := trodAll_cons r3
 obtain ⟨rfl, rfl, rfl⟩ := trodAll_nil r4
 obtain rfl : args = #[v0, v1, v2, v3, v4] := by cases args; simp_all
 obtain ⟨x0, rfl, hx0⟩ := open_int Tryd.underlying3 (hval 0 3 v0 rfl rfl) h0
 obtain ⟨z1, rfl, hz1⟩ := open_int Tryd.underlying23 (hval 1 23 v1 rfl rfl) h1
 obtain ⟨x1, rfl, hx1⟩ := u64_of_wf hz1
 obtain ⟨x2, rfl, hx2⟩ := open_int Tryd.underlying3 (hval 2 3 v2 rfl rfl) h2
 obtain ⟨s3, rfl, hs3⟩ := Go.ChangeMaps.open_string Tryd.underlying9 (hval 3 9 v3 rfl rfl) h3
 obtain ⟨x3, rfl⟩ := str_list s3
 obtain ⟨cc0, cc1, cc2, y0, y1, y2, mm, rfl, rfl, rfl, hy0, hy1, hy2⟩ := Go.Joins.open_agg3 Tryd.underlying42 (by kernel_rfl) cellsE (hval 4 42 v4 rfl rfl) h4
 obtain ⟨zk4, e0, _, w0⟩ := DataW.trod_int Tryd.underlying5 hy0
 obtain ⟨xz4, e1, _, w1⟩ := DataW.trod_int Tryd.underlying3 hy1
 obtain ⟨zb4, e2, _, w2⟩ := DataW.trod_int Tryd.underlying5 hy2
 simp at e0 e1 e2
 subst e0 e1 e2
 obtain ⟨xk4, rfl⟩ := byte_of_wf w0
 obtain ⟨xb4, rfl⟩ := byte_of_wf w2
 refine (PrimersEdits_any x0 x1 hx1 x2 x3 xk4 xz4 xb4 W (table hL)).mono fun e W' ⟨he, hB⟩ => ?_
 exact ⟨_, he, post_true laidOut rfl (by kernel_rfl) Tryd.underlying4 (by kernel_rfl) rfl hW' hB⟩
noncomputable def laidWorld (os : Os) : World :=
 { World.holding Tryd.prog os ⟨#[], #[], []⟩ with heap := (World.holding Tryd.prog os ⟨#[], #[], []⟩).heap.modify 0 fun
     | .cells _ t frozen => .cells #[.int .u8 65, .int .u8 67, .int .u8 71, .int .u8 84] t frozen
     | o => o }
theorem laid_met (os : Os) : laidMet Tryd.prog Rows.primersEditsRow.laid ((laidWorld os).forCall (fun _ _ => 0) ⟨#[], #[.int .i64 0, .int .u64 0, .int .i64 0, .string ⟨#[]⟩, .agg #[.int .u8 0, .int .i64 0, .int .u8 0]], []⟩).memory :=
 laidMet_of_run' 8 (by kernel_rfl) (by kernel_rfl)
theorem reads (os : Os) {H : Type} (enc : TypeId × Value → H) : ∃ places, DataW.whole enc Tryd.prog ((laidWorld os).forCall (fun _ _ => 0) ⟨#[], #[.int .i64 0, .int .u64 0, .int .i64 0, .string ⟨#[]⟩, .agg #[.int .u8 0, .int .i64 0, .int .u8 0]], []⟩).memory Tryd.f5.params.toList Rows.primersEditsSpec.vars false #[Value.int .i64 0, Value.int .u64 0, Value.int .i64 0, Value.string ⟨#[]⟩, Value.agg #[.int .u8 0, .int .i64 0, .int .u8 0]].toList 8 = some ([.lit (.int .i64 0), .lit (.int .u64 0), .lit (.int .i64 0), .lit (.string []), .agg [.lit (.int .u8 0), .lit (.int .i64 0), .lit (.int .u8 0)]], [], places) :=
 ⟨[], by kernel_rfl⟩
set_option maxRecDepth 100000 in
theorem lifted (os : Os) (started : os.Started) (H : Type) (enc : TypeId × Value → H) (F : Stop.Interp) :
    ReturnsInHanded {} Tryd.checked os 5 .any ((OpenSpec.ofChange Rows.primersEditsSpec).preRow enc Tryd.prog Tryd.f5 Rows.primersEditsRow.domain false Rows.primersEditsRow.laid) (((OpenSpec.ofChange Rows.primersEditsSpec).at F).post enc Tryd.prog Tryd.f5 false true false false) := by
  obtain ⟨places, hx⟩ := reads os enc
  refine returnsInHanded_of_row (C := Tryd.checked) (s := OpenSpec.ofChange Rows.primersEditsSpec) own started (by kernel_rfl) Tryd.func5
    (witness_row_at (enc := enc) (C := Tryd.checked) false (laidWorld os) #[.int .i64 0, .int .u64 0, .int .i64 0, .string ⟨#[]⟩, .agg #[.int .u8 0, .int .i64 0, .int .u8 0]] rfl (by kernel_rfl) (by kernel_rfl) (by kernel_rfl)
     (OpenSpec.preRow_of_cond 8 hx (by kernel_rfl) (fun k hk => by cases hk) (by kernel_rfl) (laid_met os))) ?_
  intro W base args ds gs before hval hW _ _ _ hL _ _
  exact contract H enc W base args ds gs before hval hW hL
theorem said : Rows.PrimersEditsSaid :=
 OpenClaim.holds_of_cond 5 Tryd.f5 rfl rfl rfl rfl rfl rfl rfl ⟨rfl, rfl, rfl, rfl, rfl⟩ rfl rfl rfl rfl rfl (by kernel_rfl) Tryd.func5 (by kernel_rfl)
  (of_decide_eq_true (by kernel_rfl)) (by unfold Func.isWrapper; first | (rw [if_pos (by decide +kernel)]; kernel_rfl) | (rw [if_neg (by decide +kernel)]; exact ⟨rfl, rfl⟩))
  (fun os started H enc _ F => by rw [OpenClaim.pre_eq_preRow]; exact lifted os started H enc F)
theorem plain (f : FuncId) (fn : Func) (hf : Tryd.pinned.checked.prog.funcNamed "helix/helixlaw20.PrimersEdits" = some f) (hfn : Tryd.pinned.checked.prog.funcs[f]? = some fn) :
    true = Tryd.pinned.checked.prog.looks [] ∧ ∀ (j : Nat) t, fn.params[j]? = some t → Tryd.pinned.checked.prog.wantsStandIn t = false := by
  obtain rfl : f = 5 := Option.some.inj ((show Tryd.prog.funcNamed "helix/helixlaw20.PrimersEdits" = some 5 by kernel_rfl).symm.trans hf) |>.symm
  obtain rfl : fn = Tryd.f5 := (Option.some.inj (Tryd.func5.symm.trans hfn)).symm
  refine ⟨by kernel_rfl, fun j t ht => ?_⟩
  have hm := Array.mem_of_getElem? ht
  have hall : (Tryd.f5.params.toList.all fun u => !Tryd.prog.wantsStandIn u) = true := by kernel_rfl
  exact (show Tryd.prog.wantsStandIn t = false by simpa using List.all_eq_true.1 hall t (by simpa using hm))
theorem card : Rows.PrimersEditsCardSaid :=
 Claim7.holds_tied_plain_at .later [] _ _ _ _ said (fun _ h => by cases h) (by kernel_rfl) (fun _ h => by cases h) primersEdits_row_tie rfl ⟨rfl, rfl⟩ (by kernel_rfl) rfl plain (by kernel_rfl)
end Go.Proofs.YtcngnjkpnmpcpaaDoor.PrimersEdits
