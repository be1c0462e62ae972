import Derived.Defers
import Derived.Recover
import Derived.Test.YtkibigbcdlilkaaGreatDoorKpZ
import Derived.Test.YtkibigbcdlilkaaGreatDoorSuCZ
namespace Go.Proofs.YtkibigbcdlilkaaGreatDoor
open Go.RowKit Go.Shelf
attribute [local go_sem] Oper.semAt_some run_store_func
set_option maxRecDepth 100000 in
set_option maxHeartbeats 2000000 in
theorem catch_idle (p : Addr) (w : World) :
    CallsD Tryz.prog 157 #[.pointer (some p)] .returning w fun e u' w' => e = .returned (.tuple #[]) ∧ u' = .returning ∧ w' = w := by
  refine callsD_of_wpS Tryz.func157 rfl fun c₀ cs hu => ?_
  apply wpS_seq
  apply wpS_region
  simp [wpOpsS, go_sem, recoverD, hu, Tryz.ntmps157, Exit.thenS]
  refine wpS_of_wp ?_
  go_wp2
  cases c₀
  simp_all [bodyPostS, results, Tryz.results157]
set_option maxRecDepth 100000 in
set_option maxHeartbeats 2000000 in
theorem catch_take (b : Nat) (n : Int) (v0 : Value) (w : World) (hc : w.cell? ⟨b, 0, none⟩ = some v0) (hf : w.frozen? ⟨b, 0, none⟩ = false) :
    CallsD Tryz.prog 157 #[.pointer (some ⟨b, 0, none⟩)] (.panicking (errno n)) w fun e u' w' => e = .returned (.tuple #[]) ∧ u' = .panicking [{ v := .iface 24 (.int .i64 n), recovered := true }] ∧ w' = w.setCell ⟨b, 0, none⟩ (.int .i64 n) := by
  have hta : ∀ w, (Instr.typeAssert (.iface 24 (.int .i64 n)) 20 24 true).run Tryz.prog w = .ok (.tuple #[.int .i64 n, .bool true]) w := fun _ => by kernel_rfl
  refine callsD_of_wpS Tryz.func157 rfl fun c₀ cs hu => ?_
  apply wpS_seq
  apply wpS_region
  simp [wpOpsS, go_sem, recoverD, hu, Tryz.ntmps157, Exit.thenS]
  refine wpS_of_wp ?_
  go_wp2
  cases c₀
  simp_all [bodyPostS, results, Tryz.results157]
def WorkIs (f : Nat) (lb : Array Value) (g : Nat) (W0 : World) (R0 : World → Prop) (Rn : Int → World → Prop) : Prop :=
 Calls Tryz.prog f lb W0 fun e w' => Keep W0.heap.size g W0 w' ∧ (((∃ v, e = .returned v) ∧ R0 w') ∨ ∃ n, e = .panicked (errno n) ∧ Rn n w')
set_option maxRecDepth 100000 in
set_option maxHeartbeats 2000000 in
theorem caught_any (f : Nat) (lb : Array Value) (g : Nat) (w : World) (hg : g < w.heap.size) (hen : ∀ args w, (callFunc f args).run Tryz.prog w = .ok (.enter f args) w) (R0 : World → Prop) (Rn : Int → World → Prop)
    (hwork : WorkIs f lb g (w.alloc (.cells #[.int .i64 0] 24)) R0 Rn) :
    Calls Tryz.prog 134 #[.func (.func f) #[] lb] w fun e w' => ∃ w1 n, Keep w.heap.size g w w1 ∧ e = .returned (.int .i64 n) ∧ w' = w1.setCell ⟨w.heap.size, 0, none⟩ (.int .i64 n) ∧ w.heap.size < w1.heap.size ∧ ((n = 0 ∧ R0 w1) ∨ Rn n w1) := by
 have hmf : ∀ (fn : Fn) (first cap : Array Value) (w : World), (Instr.makeFunc fn first cap).run Tryz.prog w = .ok (.func fn first cap) w := fun _ _ _ _ => rfl
 have hA := below_alloc w (.cells #[.int .i64 0] 24)
 have hb0 := Boxed.new w 24 (.int .i64 0)
 have hs0 : (w.alloc (.cells #[.int .i64 0] 24)).heap.size = w.heap.size + 1 := by simp
 unfold WorkIs at hwork
 go_enter_defers Tryz.func134, Tryz.ntmps134
 go_wp2_with fail
 generalize w.alloc (.cells #[.int .i64 0] 24) = w0 at *
 refine hwork.mono ?_
 clear hwork
 rintro e w1 ⟨hK, ⟨⟨v, rfl⟩, hR⟩ | ⟨n, rfl, hR⟩⟩
 · have hb1 := hK.boxed hb0 (by omega) (by omega)
   have hc := hb1.cell
   have hf := hb1.frozen
   have hsz := keep_size hK
   go_wp2
   refine leaves_cons (f := 157) (args := #[.pointer (some ⟨w.heap.size, 0, none⟩)]) (by simp) (by simp [go_sem]) ?_
   refine (catch_idle ⟨w.heap.size, 0, none⟩ _).mono ?_
   rintro e u' w'' ⟨rfl, rfl, rfl⟩
   have hc5 := (hb1.set (.int .i64 0)).cell
   refine ⟨.int .i64 0, ?_, w1, 0, ⟨⟨hK.1.1.trans hA.os, hK.1.2.1.trans hA.tape, hK.1.2.2.1.trans hA.output, by omega⟩, fun k hk hkg => (hK.2 k (by omega) hkg).trans (hA.block k hk)⟩, rfl, rfl, by omega, .inl ⟨rfl, hR⟩⟩
   simp [results, Tryz.f134, go_sem, hc5]
 · have hb1 := hK.boxed hb0 (by omega) (by omega)
   have hc := hb1.cell
   have hf := hb1.frozen
   have hsz := keep_size hK
   go_wp2
   refine leaves_cons (f := 157) (args := #[.pointer (some ⟨w.heap.size, 0, none⟩)]) (by simp) (by simp [go_sem]) ?_
   refine (catch_take w.heap.size n _ w1 hc hf).mono ?_
   rintro e u' w'' ⟨rfl, rfl, rfl⟩
   have hc5 := (hb1.set (.int .i64 n)).cell
   refine ⟨.int .i64 n, ?_, w1, n, ⟨⟨hK.1.1.trans hA.os, hK.1.2.1.trans hA.tape, hK.1.2.2.1.trans hA.output, by omega⟩, fun k hk hkg => (hK.2 k (by omega) hkg).trans (hA.block k hk)⟩, rfl, rfl, by omega, .inr hR⟩
   simp [results, Tryz.f134, go_sem, hc5]
end Go.Proofs.YtkibigbcdlilkaaGreatDoor
namespace Go.Proofs.YtkibigbcdlilkaaGreatDoor
open Go.RowKit Go.Shelf
attribute [local go_sem] Oper.semAt_some run_store_func
theorem Boxed.set_other {W : World} {b b' : Nat} {t : TypeId} {x y : Value} (h : Boxed W b t x) (hne : b ≠ b') : Boxed (W.setCell ⟨b', 0, none⟩ y) b t x :=
 (Below.heap_setCell _ _ _ _ hne).trans h
abbrev c3 (a b c : Int) : Array Value := #[.int .i64 a, .int .i64 b, .int .i64 c]
theorem size_c3 (a b c : Int) : (Tryz.prog.info? 51).map (·.size) = some (c3 a b c).size := by rw [(zero_of_info infoS).2]; rfl
theorem one_c3 (a b c : Int) : (c3 a b c).all (·.oneCell') = true := by simp [Value.oneCell']
theorem keep_setRow {B g : Nat} {w W : World} (h : Keep B g w W) (cs : Array Value) : Keep B g w (W.setRow g cs) :=
 keep_t h ⟨⟨rfl, rfl, rfl, by simp⟩, fun k _ hk => setRow_other _ g k _ hk⟩
theorem below_setRow {B : Nat} {w W : World} (h : Below B w W) (g : Nat) (cs : Array Value) (hg : B ≤ g) : Below B w (W.setRow g cs) :=
 h.trans ⟨rfl, rfl, rfl, by simp, fun k hk => setRow_other _ g k _ (by omega)⟩
theorem of_any (sv : Value) (x : List UInt8) (hreach : x.length ≤ 1000000) (w : World) (hT : Tab w) (hS : Sl eB w.heap.size w sv x) :
    Calls Tryz.prog 150 #[sv] w fun e w' => Below w.heap.size w w' ∧
      ((∃ a b c, sumsG x = .ok (a, b, c) ∧ e = .returned (v3 a b c)) ∨ ∃ m, sumsG x = .error m ∧ e = .panicked (errno m)) := callsIn_inProg (of_in sv x hreach w hT hS 0)
set_option maxRecDepth 100000 in
set_option maxHeartbeats 2000000 in
theorem Of1_is (b1 b3 : Nat) (A : Option Addr) (c : Nat) (x : List UInt8) (hreach : x.length ≤ 1000000) (W : World) (hT : Tab W) (hS : Sl eB W.heap.size W (.slice A x.length c) x) (h1 : W.cell? ⟨b1, 0, none⟩ = some (.slice A x.length c)) (h3 : Rowed W b3 51 (c3 0 0 0)) :
    WorkIs 149 #[.pointer (some ⟨b1, 0, none⟩), .pointer (some ⟨b3, 0, none⟩)] b3 W
      (fun w' => ∃ a b c, sumsG x = .ok (a, b, c) ∧ Rowed w' b3 51 (c3 a b c)) (fun n w' => sumsG x = .error n ∧ Rowed w' b3 51 (c3 0 0 0)) := by
  have hb := of_any _ x hreach W hT hS
  have hl := h3.lt
  unfold WorkIs
  go_enter Tryz.func149, Tryz.ntmps149
  go_wp2_with fail
  go_at_call 150
  refine hb.mono ?_
  rintro e w1 ⟨hB, ⟨a, b, d, hc, rfl⟩ | ⟨n, hn, rfl⟩⟩
  · have h3' : Rowed w1 b3 51 (c3 0 0 0) := h3.below hB hl
    have hK : Keep W.heap.size b3 W (w1.setRow b3 (c3 a b d)) := keep_setRow (keep_of hB) _
    have hrow := setRow_heap w1 b3 (c3 0 0 0) (c3 a b d) _ _ h3'
    have Hc := Lib.hid hc
    clear hc hb
    go_wp2_with (refine wpList_store_row rfl 51 (.tmp 1) (.tmp 3) rfl b3 (c3 a b d) rfl rfl _ _ h3' (size_c3 a b d) rfl (one_c3 a b d) ?_)
    go_end0
    exact ⟨hK, .inl ⟨⟨_, rfl⟩, a, b, d, Hc.out, hrow⟩⟩
  · exact ⟨rfl, keep_of hB, .inr ⟨n, rfl, hn, h3.below hB hl⟩⟩
theorem results_cell_slot {P : Program} {fn : Func} {p q : Tmp} {ty : TypeId} (h : fn.results = #[.cell p ty, .tmp q]) (tmps : Array Value) (w : World) (g : Nat) (t : TypeId) (cs : Array Value) (fr : Nat × Nat) (d : TypeDesc)
    (hp : tmps.getD p undef = .pointer (some ⟨g, 0, none⟩)) (hg : w.heap[g]? = some (.cells cs t fr)) (hu : P.underlying ty = some d) (hd : (match d with | .struct _ | .array _ _ => true | _ => false) = true) (hi : (P.info? ty).map (·.size) = some cs.size) :
    (results fn tmps).run P w = .ok (.tuple #[.agg cs, tmps.getD q undef]) w := by
 have hp' : tmps[p]?.getD undef = .pointer (some ⟨g, 0, none⟩) := by simpa using hp
 simp [results, h, hp', asAddr, run_loadVar_row w g t ty cs fr d hg hu hd hi, Result.andThen]
set_option maxRecDepth 100000 in
set_option maxHeartbeats 2000000 in
theorem Of_any (sv : Value) (x : List UInt8) (hreach : x.length ≤ 1000000) (w : World) (hT : Tab w) (hS : Sl eB w.heap.size w sv x) :
    Calls Tryz.prog 129 #[sv] w fun e w' => Below w.heap.size w w' ∧
      ((∃ a b c, sumsG x = .ok (a, b, c) ∧ e = .returned (.tuple #[v3 a b c, .int .i64 0])) ∨ ∃ m, sumsG x = .error m ∧ e = .returned (.tuple #[v3 0 0 0, .int .i64 m])) := by
  have hmf : ∀ (fn : Fn) (first cap : Array Value) (w : World), (Instr.makeFunc fn first cap).run Tryz.prog w = .ok (.func fn first cap) w := fun _ _ _ _ => rfl
  obtain ⟨A, c, rfl⟩ := hS.len
  obtain ⟨hz, hsz⟩ := zero_of_info infoS
  have hc0 : (v3 0 0 0).cells = #[.int .i64 0, .int .i64 0, .int .i64 0] := rfl
  have hb1 := ((Boxed.new w 22 (.slice A x.length c)).alloc (.cells (c3 0 0 0) 51)).alloc (.cells (c3 0 0 0) 51)
  have hb2 := (Rowed.new (w.alloc (.cells #[.slice A x.length c] 22)) 51 (c3 0 0 0)).alloc (.cells (c3 0 0 0) 51)
  have hb3 := Rowed.new ((w.alloc (.cells #[.slice A x.length c] 22)).alloc (.cells (c3 0 0 0) 51)) 51 (c3 0 0 0)
  rw [World.size_alloc] at hb2
  rw [World.size_alloc, World.size_alloc] at hb3
  have hA : Below w.heap.size w (((w.alloc (.cells #[.slice A x.length c] 22)).alloc (.cells (c3 0 0 0) 51)).alloc (.cells (c3 0 0 0) 51)) := (((Below.refl _ w).alloc (Nat.le_refl _) _).alloc (by simp) _).alloc (by simp; omega) _
  have hs0 : (((w.alloc (.cells #[.slice A x.length c] 22)).alloc (.cells (c3 0 0 0) 51)).alloc (.cells (c3 0 0 0) 51)).heap.size = w.heap.size + 3 := by simp
  obtain ⟨W0, hW0⟩ : ∃ W0, ((w.alloc (.cells #[.slice A x.length c] 22)).alloc (.cells (c3 0 0 0) 51)).alloc (.cells (c3 0 0 0) 51) = W0 := ⟨_, rfl⟩
  rw [hW0] at hb1 hb2 hb3 hA hs0
  have hA4 := below_alloc W0 (.cells #[.int .i64 0] 24)
  have hB4 := below_trans hA hA4
  have hwork := Of1_is w.heap.size (w.heap.size + 1 + 1) A c x hreach (W0.alloc (.cells #[.int .i64 0] 24)) (hT.below hB4) (hS.next hB4) (hb1.alloc _).cell (hb3.alloc _)
  have hct := caught_any 149 _ (w.heap.size + 1 + 1) W0 (by omega) (enters_of Tryz.func149 (by kernel_rfl) rfl) _ _ hwork
  have HW0 := Lib.hid hW0
  clear hwork hA4 hB4 hb1 hb3 hW0
  go_enter Tryz.func129, Tryz.ntmps129
  go_wp2_with fail
  rw [HW0.out]
  go_at_call 134
  refine hct.mono ?_
  rintro e w' ⟨w1, n, hK, rfl, rfl, hlt, hR⟩
  have hBf : Below w.heap.size w (w1.setCell ⟨W0.heap.size, 0, none⟩ (.int .i64 n)) := (below_of_keep hK hA (by omega) (by omega)).setCell (p := ⟨W0.heap.size, 0, none⟩) (by show w.heap.size ≤ W0.heap.size; omega) _
  have hb2' : Rowed w1 (w.heap.size + 1) 51 (c3 0 0 0) := (hK.2 _ (by omega) (by omega)).trans hb2
  have hb2w := hb2'.other W0.heap.size 0 (.int .i64 n) (by omega)
  clear hct
  rcases hR with ⟨rfl, a, b, d, hg, hv⟩ | ⟨hg, hv⟩
  · have hvw := hv.other W0.heap.size 0 (.int .i64 0) (by omega)
    have Hg := Lib.hid hg
    clear hg
    generalize w1.setCell ⟨W0.heap.size, 0, none⟩ (.int .i64 0) = w2 at *
    have hrow := setRow_heap w2 (w.heap.size + 1) (c3 0 0 0) (c3 a b d) _ _ hb2w
    have hB3 := below_setRow hBf (w.heap.size + 1) (c3 a b d) (by omega)
    go_wp2_with (first
     | (refine wpList_load_row rfl 51 (.tmp 4) rfl (w.heap.size + 1 + 1) rfl _ (c3 a b d) _ _ hvw Tryz.underlying51 rfl (size_c3 a b d) ?_)
     | (refine wpList_store_row rfl 51 (.tmp 2) (.tmp 8) rfl (w.heap.size + 1) (c3 a b d) rfl rfl _ _ hb2w (size_c3 a b d) rfl (one_c3 a b d) ?_))
    refine bodyPost_ret (v := .tuple #[v3 a b d, .int .i64 0]) ?_ rfl ⟨hB3, .inl ⟨a, b, d, Hg.out, rfl⟩⟩
    exact results_cell_slot (p := 2) (q := 3) rfl _ _ (w.heap.size + 1) _ _ _ _ rfl hrow Tryz.underlying51 rfl (size_c3 a b d)
  · have hvw := hv.other W0.heap.size 0 (.int .i64 n) (by omega)
    have Hg := Lib.hid hg
    clear hg
    generalize w1.setCell ⟨W0.heap.size, 0, none⟩ (.int .i64 n) = w2 at *
    have hrow := setRow_heap w2 (w.heap.size + 1) (c3 0 0 0) (c3 0 0 0) _ _ hb2w
    have hB3 := below_setRow hBf (w.heap.size + 1) (c3 0 0 0) (by omega)
    go_wp2_with (first
     | (refine wpList_load_row rfl 51 (.tmp 4) rfl (w.heap.size + 1 + 1) rfl _ (c3 0 0 0) _ _ hvw Tryz.underlying51 rfl (size_c3 0 0 0) ?_)
     | (refine wpList_store_row rfl 51 (.tmp 2) (.tmp 8) rfl (w.heap.size + 1) (c3 0 0 0) rfl rfl _ _ hb2w (size_c3 0 0 0) rfl (one_c3 0 0 0) ?_))
    refine bodyPost_ret (v := .tuple #[v3 0 0 0, .int .i64 n]) ?_ rfl ⟨hB3, .inr ⟨n, Hg.out, rfl⟩⟩
    exact results_cell_slot (p := 2) (q := 3) rfl _ _ (w.heap.size + 1) _ _ _ _ rfl hrow Tryz.underlying51 rfl (size_c3 0 0 0)
end Go.Proofs.YtkibigbcdlilkaaGreatDoor
namespace Go.Proofs.YtkibigbcdlilkaaGreatDoor.Gp
open Go.RowKit Go.Shelf
attribute [local go_sem] Oper.semAt_some run_store_func
set_option maxRecDepth 100000 in
set_option maxHeartbeats 2000000 in
theorem gcatch_idle (p : Addr) (w : World) :
    CallsD Tryz.prog 114 #[.pointer (some p)] .returning w fun e u' w' => e = .returned (.tuple #[]) ∧ u' = .returning ∧ w' = w := by
  refine callsD_of_wpS Tryz.func114 rfl fun c₀ cs hu => ?_
  apply wpS_seq
  apply wpS_region
  simp [wpOpsS, go_sem, recoverD, hu, Tryz.ntmps114, Exit.thenS]
  refine wpS_of_wp ?_
  go_wp2
  cases c₀
  simp_all [bodyPostS, results, Tryz.results114]
set_option maxRecDepth 100000 in
set_option maxHeartbeats 2000000 in
theorem gcatch_take (b : Nat) (n : Int) (v0 : Value) (w : World) (hc : w.cell? ⟨b, 0, none⟩ = some v0) (hf : w.frozen? ⟨b, 0, none⟩ = false) :
    CallsD Tryz.prog 114 #[.pointer (some ⟨b, 0, none⟩)] (.panicking (errno n)) w fun e u' w' => e = .returned (.tuple #[]) ∧ u' = .panicking [{ v := .iface 24 (.int .i64 n), recovered := true }] ∧ w' = w.setCell ⟨b, 0, none⟩ (.int .i64 n) := by
  have hta : ∀ w, (Instr.typeAssert (.iface 24 (.int .i64 n)) 20 24 true).run Tryz.prog w = .ok (.tuple #[.int .i64 n, .bool true]) w := fun _ => by kernel_rfl
  refine callsD_of_wpS Tryz.func114 rfl fun c₀ cs hu => ?_
  apply wpS_seq
  apply wpS_region
  simp [wpOpsS, go_sem, recoverD, hu, Tryz.ntmps114, Exit.thenS]
  refine wpS_of_wp ?_
  go_wp2
  cases c₀
  simp_all [bodyPostS, results, Tryz.results114]
def gWork (f : Nat) (lb : Array Value) (g1 g2 : Nat) (W0 : World) (R0 : World → Prop) (Rn : Int → World → Prop) : Prop :=
 Calls Tryz.prog f lb W0 fun e w' => Kp2 W0.heap.size g1 g2 W0 w' ∧ (((∃ v, e = .returned v) ∧ R0 w') ∨ ∃ n, e = .panicked (errno n) ∧ Rn n w')
set_option maxRecDepth 100000 in
set_option maxHeartbeats 2000000 in
theorem gcaught_any (f : Nat) (lb : Array Value) (g1 g2 : Nat) (w : World) (hg1 : g1 < w.heap.size) (hg2 : g2 < w.heap.size) (hen : ∀ args w, (callFunc f args).run Tryz.prog w = .ok (.enter f args) w) (R0 : World → Prop) (Rn : Int → World → Prop)
    (hwork : gWork f lb g1 g2 (w.alloc (.cells #[.int .i64 0] 24)) R0 Rn) :
    Calls Tryz.prog 93 #[.func (.func f) #[] lb] w fun e w' => ∃ w1 n, Kp2 w.heap.size g1 g2 w w1 ∧ e = .returned (.int .i64 n) ∧ w' = w1.setCell ⟨w.heap.size, 0, none⟩ (.int .i64 n) ∧ w.heap.size < w1.heap.size ∧ ((n = 0 ∧ R0 w1) ∨ Rn n w1) := by
 have hmf : ∀ (fn : Fn) (first cap : Array Value) (w : World), (Instr.makeFunc fn first cap).run Tryz.prog w = .ok (.func fn first cap) w := fun _ _ _ _ => rfl
 have hA := below_alloc w (.cells #[.int .i64 0] 24)
 have hb0 := Boxed.new w 24 (.int .i64 0)
 have hs0 : (w.alloc (.cells #[.int .i64 0] 24)).heap.size = w.heap.size + 1 := by simp
 unfold gWork at hwork
 go_enter_defers Tryz.func93, Tryz.ntmps93
 go_wp2_with fail
 generalize w.alloc (.cells #[.int .i64 0] 24) = w0 at *
 refine hwork.mono ?_
 clear hwork
 rintro e w1 ⟨hK, ⟨⟨v, rfl⟩, hR⟩ | ⟨n, rfl, hR⟩⟩
 · have hb1 := hK.boxed hb0 (by omega) (by omega) (by omega)
   have hc := hb1.cell
   have hf := hb1.frozen
   have hsz := kp2_size hK
   go_wp2
   refine leaves_cons (f := 114) (args := #[.pointer (some ⟨w.heap.size, 0, none⟩)]) (by simp) (by simp [go_sem]) ?_
   refine (gcatch_idle ⟨w.heap.size, 0, none⟩ _).mono ?_
   rintro e u' w'' ⟨rfl, rfl, rfl⟩
   have hc5 := (hb1.set (.int .i64 0)).cell
   refine ⟨.int .i64 0, ?_, w1, 0, ⟨⟨hK.1.1.trans hA.os, hK.1.2.1.trans hA.tape, hK.1.2.2.1.trans hA.output, by omega⟩, fun k hk ha hb => (hK.2 k (by omega) ha hb).trans (hA.block k hk)⟩, rfl, rfl, by omega, .inl ⟨rfl, hR⟩⟩
   simp [results, Tryz.f93, go_sem, hc5]
 · have hb1 := hK.boxed hb0 (by omega) (by omega) (by omega)
   have hc := hb1.cell
   have hf := hb1.frozen
   have hsz := kp2_size hK
   go_wp2
   refine leaves_cons (f := 114) (args := #[.pointer (some ⟨w.heap.size, 0, none⟩)]) (by simp) (by simp [go_sem]) ?_
   refine (gcatch_take w.heap.size n _ w1 hc hf).mono ?_
   rintro e u' w'' ⟨rfl, rfl, rfl⟩
   have hc5 := (hb1.set (.int .i64 n)).cell
   refine ⟨.int .i64 n, ?_, w1, n, ⟨⟨hK.1.1.trans hA.os, hK.1.2.1.trans hA.tape, hK.1.2.2.1.trans hA.output, by omega⟩, fun k hk ha hb => (hK.2 k (by omega) ha hb).trans (hA.block k hk)⟩, rfl, rfl, by omega, .inr hR⟩
   simp [results, Tryz.f93, go_sem, hc5]
end Go.Proofs.YtkibigbcdlilkaaGreatDoor.Gp
namespace Go.Proofs.YtkibigbcdlilkaaGreatDoor.Sw
open Go.RowKit Go.Shelf
attribute [local go_sem] Oper.semAt_some run_store_func
set_option maxRecDepth 100000 in
set_option maxHeartbeats 2000000 in
theorem scatch_idle (p : Addr) (w : World) :
    CallsD Tryz.prog 141 #[.pointer (some p)] .returning w fun e u' w' => e = .returned (.tuple #[]) ∧ u' = .returning ∧ w' = w := by
  refine callsD_of_wpS Tryz.func141 rfl fun c₀ cs hu => ?_
  apply wpS_seq
  apply wpS_region
  simp [wpOpsS, go_sem, recoverD, hu, Tryz.ntmps141, Exit.thenS]
  refine wpS_of_wp ?_
  go_wp2
  cases c₀
  simp_all [bodyPostS, results, Tryz.results141]
set_option maxRecDepth 100000 in
set_option maxHeartbeats 2000000 in
theorem scatch_take (b : Nat) (n : Int) (v0 : Value) (w : World) (hc : w.cell? ⟨b, 0, none⟩ = some v0) (hf : w.frozen? ⟨b, 0, none⟩ = false) :
    CallsD Tryz.prog 141 #[.pointer (some ⟨b, 0, none⟩)] (.panicking (errno n)) w fun e u' w' => e = .returned (.tuple #[]) ∧ u' = .panicking [{ v := .iface 24 (.int .i64 n), recovered := true }] ∧ w' = w.setCell ⟨b, 0, none⟩ (.int .i64 n) := by
  have hta : ∀ w, (Instr.typeAssert (.iface 24 (.int .i64 n)) 20 24 true).run Tryz.prog w = .ok (.tuple #[.int .i64 n, .bool true]) w := fun _ => by kernel_rfl
  refine callsD_of_wpS Tryz.func141 rfl fun c₀ cs hu => ?_
  apply wpS_seq
  apply wpS_region
  simp [wpOpsS, go_sem, recoverD, hu, Tryz.ntmps141, Exit.thenS]
  refine wpS_of_wp ?_
  go_wp2
  cases c₀
  simp_all [bodyPostS, results, Tryz.results141]
def sWork (f : Nat) (lb : Array Value) (g1 g2 : Nat) (W0 : World) (R0 : World → Prop) (Rn : Int → World → Prop) : Prop :=
 Calls Tryz.prog f lb W0 fun e w' => Kp2 W0.heap.size g1 g2 W0 w' ∧ (((∃ v, e = .returned v) ∧ R0 w') ∨ ∃ n, e = .panicked (errno n) ∧ Rn n w')
set_option maxRecDepth 100000 in
set_option maxHeartbeats 2000000 in
theorem scaught_any (f : Nat) (lb : Array Value) (g1 g2 : Nat) (w : World) (hg1 : g1 < w.heap.size) (hg2 : g2 < w.heap.size) (hen : ∀ args w, (callFunc f args).run Tryz.prog w = .ok (.enter f args) w) (R0 : World → Prop) (Rn : Int → World → Prop)
    (hwork : sWork f lb g1 g2 (w.alloc (.cells #[.int .i64 0] 24)) R0 Rn) :
    Calls Tryz.prog 118 #[.func (.func f) #[] lb] w fun e w' => ∃ w1 n, Kp2 w.heap.size g1 g2 w w1 ∧ e = .returned (.int .i64 n) ∧ w' = w1.setCell ⟨w.heap.size, 0, none⟩ (.int .i64 n) ∧ w.heap.size < w1.heap.size ∧ ((n = 0 ∧ R0 w1) ∨ Rn n w1) := by
 have hmf : ∀ (fn : Fn) (first cap : Array Value) (w : World), (Instr.makeFunc fn first cap).run Tryz.prog w = .ok (.func fn first cap) w := fun _ _ _ _ => rfl
 have hA := below_alloc w (.cells #[.int .i64 0] 24)
 have hb0 := Boxed.new w 24 (.int .i64 0)
 have hs0 : (w.alloc (.cells #[.int .i64 0] 24)).heap.size = w.heap.size + 1 := by simp
 unfold sWork at hwork
 go_enter_defers Tryz.func118, Tryz.ntmps118
 go_wp2_with fail
 generalize w.alloc (.cells #[.int .i64 0] 24) = w0 at *
 refine hwork.mono ?_
 clear hwork
 rintro e w1 ⟨hK, ⟨⟨v, rfl⟩, hR⟩ | ⟨n, rfl, hR⟩⟩
 · have hb1 := hK.boxed hb0 (by omega) (by omega) (by omega)
   have hc := hb1.cell
   have hf := hb1.frozen
   have hsz := kp2_size hK
   go_wp2
   refine leaves_cons (f := 141) (args := #[.pointer (some ⟨w.heap.size, 0, none⟩)]) (by simp) (by simp [go_sem]) ?_
   refine (scatch_idle ⟨w.heap.size, 0, none⟩ _).mono ?_
   rintro e u' w'' ⟨rfl, rfl, rfl⟩
   have hc5 := (hb1.set (.int .i64 0)).cell
   refine ⟨.int .i64 0, ?_, w1, 0, ⟨⟨hK.1.1.trans hA.os, hK.1.2.1.trans hA.tape, hK.1.2.2.1.trans hA.output, by omega⟩, fun k hk ha hb => (hK.2 k (by omega) ha hb).trans (hA.block k hk)⟩, rfl, rfl, by omega, .inl ⟨rfl, hR⟩⟩
   simp [results, Tryz.f118, go_sem, hc5]
 · have hb1 := hK.boxed hb0 (by omega) (by omega) (by omega)
   have hc := hb1.cell
   have hf := hb1.frozen
   have hsz := kp2_size hK
   go_wp2
   refine leaves_cons (f := 141) (args := #[.pointer (some ⟨w.heap.size, 0, none⟩)]) (by simp) (by simp [go_sem]) ?_
   refine (scatch_take w.heap.size n _ w1 hc hf).mono ?_
   rintro e u' w'' ⟨rfl, rfl, rfl⟩
   have hc5 := (hb1.set (.int .i64 n)).cell
   refine ⟨.int .i64 n, ?_, w1, n, ⟨⟨hK.1.1.trans hA.os, hK.1.2.1.trans hA.tape, hK.1.2.2.1.trans hA.output, by omega⟩, fun k hk ha hb => (hK.2 k (by omega) ha hb).trans (hA.block k hk)⟩, rfl, rfl, by omega, .inr hR⟩
   simp [results, Tryz.f118, go_sem, hc5]
end Go.Proofs.YtkibigbcdlilkaaGreatDoor.Sw
