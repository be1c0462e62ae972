import Derived.Defers
import Derived.Recover
import Derived.Test.YtjclfkbhakjdaaaDoorTuDY
namespace Go.Proofs.YtjclfkbhakjdaaaDoor.Tu
open Go.RowKit Go.Shelf
attribute [local go_sem] Oper.semAt_some run_store_func
set_option maxRecDepth 100000 in
set_option maxHeartbeats 2000000 in
theorem catch_idle (p : Addr) (w : World) :
    CallsD Tryd.prog 92 #[.pointer (some p)] .returning w fun e u' w' => e = .returned (.tuple #[]) ∧ u' = .returning ∧ w' = w := by
  refine callsD_of_wpS Tryd.func92 rfl fun c₀ cs hu => ?_
  apply wpS_seq
  apply wpS_region
  simp [wpOpsS, go_sem, recoverD, hu, Tryd.ntmps92, Exit.thenS]
  refine wpS_of_wp ?_
  go_wp2
  cases c₀
  simp_all [bodyPostS, results, Tryd.results92]
set_option maxRecDepth 100000 in
set_option maxHeartbeats 2000000 in
theorem catch_take (b : Nat) (n : Int) (v0 : Value) (w : World) (hc : w.cell? ⟨b, 0, none⟩ = some v0) (hf : w.frozen? ⟨b, 0, none⟩ = false) :
    CallsD Tryd.prog 92 #[.pointer (some ⟨b, 0, none⟩)] (.panicking (errno n)) w fun e u' w' => e = .returned (.tuple #[]) ∧ u' = .panicking [{ v := .iface 28 (.int .i64 n), recovered := true }] ∧ w' = w.setCell ⟨b, 0, none⟩ (.int .i64 n) := by
  have hta : ∀ w, (Instr.typeAssert (.iface 28 (.int .i64 n)) 20 28 true).run Tryd.prog w = .ok (.tuple #[.int .i64 n, .bool true]) w := fun _ => by kernel_rfl
  refine callsD_of_wpS Tryd.func92 rfl fun c₀ cs hu => ?_
  apply wpS_seq
  apply wpS_region
  simp [wpOpsS, go_sem, recoverD, hu, Tryd.ntmps92, Exit.thenS]
  refine wpS_of_wp ?_
  go_wp2
  cases c₀
  simp_all [bodyPostS, results, Tryd.results92]
def WorkIs (f : Nat) (lb : Array Value) (g : Nat) (W0 : World) (R0 : World → Prop) (Rn : Int → World → Prop) : Prop :=
 Calls Tryd.prog f lb W0 fun e w' => Keep W0.heap.size g W0 w' ∧ (((∃ v, e = .returned v) ∧ R0 w') ∨ ∃ n, e = .panicked (errno n) ∧ Rn n w')
set_option maxRecDepth 100000 in
set_option maxHeartbeats 2000000 in
theorem caught_any (f : Nat) (lb : Array Value) (g : Nat) (w : World) (hg : g < w.heap.size) (hen : ∀ args w, (callFunc f args).run Tryd.prog w = .ok (.enter f args) w) (R0 : World → Prop) (Rn : Int → World → Prop)
    (hwork : WorkIs f lb g (w.alloc (.cells #[.int .i64 0] 28)) R0 Rn) :
    Calls Tryd.prog 71 #[.func (.func f) #[] lb] w fun e w' => ∃ w1 n, Keep w.heap.size g w w1 ∧ e = .returned (.int .i64 n) ∧ w' = w1.setCell ⟨w.heap.size, 0, none⟩ (.int .i64 n) ∧ w.heap.size < w1.heap.size ∧ ((n = 0 ∧ R0 w1) ∨ Rn n w1) := by
 have hmf : ∀ (fn : Fn) (first cap : Array Value) (w : World), (Instr.makeFunc fn first cap).run Tryd.prog w = .ok (.func fn first cap) w := fun _ _ _ _ => rfl
 have hA := below_alloc w (.cells #[.int .i64 0] 28)
 have hb0 := Boxed.new w 28 (.int .i64 0)
 have hs0 : (w.alloc (.cells #[.int .i64 0] 28)).heap.size = w.heap.size + 1 := by simp
 unfold WorkIs at hwork
 go_enter_defers Tryd.func71, Tryd.ntmps71
 go_wp2_with fail
 generalize w.alloc (.cells #[.int .i64 0] 28) = w0 at *
 refine hwork.mono ?_
 clear hwork
 rintro e w1 ⟨hK, ⟨⟨v, rfl⟩, hR⟩ | ⟨n, rfl, hR⟩⟩
 · have hb1 := hK.boxed hb0 (by omega) (by omega)
   have hc := hb1.cell
   have hf := hb1.frozen
   have hsz := keep_size hK
   go_wp2
   refine leaves_cons (f := 92) (args := #[.pointer (some ⟨w.heap.size, 0, none⟩)]) (by simp) (by simp [go_sem]) ?_
   refine (catch_idle ⟨w.heap.size, 0, none⟩ _).mono ?_
   rintro e u' w'' ⟨rfl, rfl, rfl⟩
   have hc5 := (hb1.set (.int .i64 0)).cell
   refine ⟨.int .i64 0, ?_, w1, 0, ⟨⟨hK.1.1.trans hA.os, hK.1.2.1.trans hA.tape, hK.1.2.2.1.trans hA.output, by omega⟩, fun k hk hkg => (hK.2 k (by omega) hkg).trans (hA.block k hk)⟩, rfl, rfl, by omega, .inl ⟨rfl, hR⟩⟩
   simp [results, Tryd.f71, go_sem, hc5]
 · have hb1 := hK.boxed hb0 (by omega) (by omega)
   have hc := hb1.cell
   have hf := hb1.frozen
   have hsz := keep_size hK
   go_wp2
   refine leaves_cons (f := 92) (args := #[.pointer (some ⟨w.heap.size, 0, none⟩)]) (by simp) (by simp [go_sem]) ?_
   refine (catch_take w.heap.size n _ w1 hc hf).mono ?_
   rintro e u' w'' ⟨rfl, rfl, rfl⟩
   have hc5 := (hb1.set (.int .i64 n)).cell
   refine ⟨.int .i64 n, ?_, w1, n, ⟨⟨hK.1.1.trans hA.os, hK.1.2.1.trans hA.tape, hK.1.2.2.1.trans hA.output, by omega⟩, fun k hk hkg => (hK.2 k (by omega) hkg).trans (hA.block k hk)⟩, rfl, rfl, by omega, .inr hR⟩
   simp [results, Tryd.f71, go_sem, hc5]
end Go.Proofs.YtjclfkbhakjdaaaDoor.Tu
namespace Go.Proofs.YtjclfkbhakjdaaaDoor.Tu
open Go.RowKit Go.Shelf
attribute [local go_sem] Oper.semAt_some run_store_func
theorem info_u8 : (Tryd.prog.info? 5).map (fun i => (i.zero, i.size, i.bytes)) = some (some (.int .u8 0), 1, 1) := by kernel_rfl
theorem cell_one_new (w : World) (t : TypeId) (x : Value) : ∀ j u, [x][j]? = some u → (w.alloc (.cells #[x] t)).cell? ((⟨w.heap.size, 0, none⟩ : Addr).add j) = some u := by
 intro j u hu
 have hj : j = 0 := by
  have := (List.getElem?_eq_some_iff.1 hu).1
  simpa using this
 subst hj
 simp at hu
 subst hu
 simp [Addr.add]
def gatG (a : UInt8) (r : List UInt8 × Option Int) : Except Int (List UInt8) := if codeOf a.toNat = -1 then .error 10 else match r.2 with | none => .ok r.1 | some n => .error n
set_option maxRecDepth 100000 in
set_option maxHeartbeats 4000000 in
theorem gathered1_is (b1 b2 b3 : Nat) (a : UInt8) (gf : Nat) (lb : Array Value) (r : List UInt8 × Option Int) (hxs : r.1.length ≤ 1000000) (W : World) (hen : ∀ args w, (callFunc gf args).run Tryd.prog w = .ok (.enter gf args) w) (hT : Tab W) (h1 : Boxed W b1 5 (eB a)) (h2 : W.cell? ⟨b2, 0, none⟩ = some (.func (.func gf) #[] lb)) (h2l : b2 < W.heap.size) (h3 : Boxed W b3 24 (.slice none 0 0))
    (hseq : ∀ w0, Below W.heap.size W w0 → SeqI Fence.wide Tryd.prog gf lb (fun x : UInt8 => #[eB x]) (Keep W.heap.size b3) r.1 (r.2.map errno) w0) :
    WorkIs 72 #[.pointer (some ⟨b1, 0, none⟩), .pointer (some ⟨b2, 0, none⟩), .pointer (some ⟨b3, 0, none⟩)] b3 W
      (fun w' => gatG a r = .ok r.1 ∧ ∃ v, Boxed w' b3 24 v ∧ w'.ownsRow W.heap.size 5 1 v r.1.length (r.1.map eB)) (fun n w' => gatG a r = .error n ∧ ∃ v, Boxed w' b3 24 v) := by
 unfold WorkIs
 refine (callsIn_wide (n := 5)).1 ?_
 obtain ⟨i0, hi, hz0, hz1, hz2⟩ := info_parts info_u8
 have hc1 := h1.cell
 have hl3 := h3.lt
 refine callsIn_of_wp_marks Tryd.func72 rfl trivial ?_ rfl
 simp only [Tryd.ntmps72, List.size_toArray, List.length_cons, List.length_nil, Nat.reduceAdd, Nat.reduceSub, Array.replicate_succ, Array.replicate_zero, List.push_toArray, List.append_toArray, List.nil_append, List.cons_append]
 by_cases hk : codeOf a.toNat = -1
 · have hO := others_no a hk W hT
   have hg : gatG a r = .error 10 := by rw [gatG, if_pos hk]
   have Hg := Lib.hid hg
   clear hk hg
   gi_wp2_with fail
   refine ⟨trivial, ?_⟩
   gi_at_call 73
   refine (callsIn_wide.2 hO).mono ?_
   rintro e w1 ⟨rfl, hB⟩
   exact ⟨keep_of hB, .inr ⟨10, rfl, Hg.out, _, (hB.block _ hl3).trans h3⟩⟩
 · obtain ⟨k, hkk⟩ : ∃ k : Nat, codeOf a.toNat = (k : Int) := ⟨(codeOf a.toNat).toNat, by have := codeOf_range a.toNat; omega⟩
   have hO := others_yes a k hkk W hT
   have Hk := Lib.hid hk
   clear hk hkk
   gi_wp2_with fail
   refine ⟨trivial, ?_⟩
   gi_at_call 73
   refine (callsIn_wide.2 hO).mono ?_
   rintro e w0 ⟨rfl, hB0⟩
   have h2' := (hB0.cell (p := ⟨b2, 0, none⟩) h2l).trans h2
   have h3' := (hB0.block b3 hl3).trans h3
   have hs0 := hB0.size
   clear hO
   gi_wp2_with fail
   refine wpIn_range_I (gf := gf) (lb := lb) rfl rfl trivial rfl hen (hseq w0 hB0) (fun _ _ _ => keep_t) (fun W' l o o' e1 e2 e3 => keep_put hs0 W' l o o' e1 e2 e3) (Below.refl _ _) (fun _ => rfl)
    (fun (pre : List UInt8) W' => (∃ v, Boxed W' b3 24 v ∧ W'.ownsRow W.heap.size 5 1 v pre.length (pre.map eB) ∧ True) ∧ Keep W.heap.size b3 W W')
    (fun _ _ => False)
    (OwnFrom.and (Own.from (holdsRow_own W.heap.size b3 24 5 1 (fun (pre : List UInt8) => pre.length) (fun (pre : List UInt8) => pre.map eB) (fun _ _ => True)) _) (ownFrom_keep (Nat.le_refl _) hs0))
    ⟨⟨_, h3', ⟨rfl, .inl ⟨rfl, rfl⟩⟩, trivial⟩, keep_of hB0⟩
    (fun _ _ _ _ _ h => h.elim)
    (fun x => { tmps := #[.pointer (some ⟨b1, 0, none⟩), .pointer (some ⟨b2, 0, none⟩), .pointer (some ⟨b3, 0, none⟩), eB x, eB a, aB (oth k), .func (.func gf) #[] lb, eB x, undef, undef, undef, undef], defers := [] }) ?assign ?body ?done ?stop ?pan
   case assign =>
    intro l x W' K hK
    gi_wp2
    exact hK
   case stop => rintro c D W' _ h _; exact h.elim
   case body =>
    rintro l pre x W' ⟨⟨v, hv, hrow, -⟩, hK⟩ hpre
    have hc := hv.cell
    have hf := hv.frozen
    have hsz := keep_size hK
    have hpl : pre.length + 1 ≤ r.1.length := by
     have := hpre.length_le
     simpa using this
    have hm1 : pre.length + 1 ≤ maxLen := by unfold maxLen; omega
    gi_wp2_with
      (gi_at_builtin; refine wpListIn_append_own _ rfl _ _ 24 rfl W.heap.size 5 i0 (.int .u8 0) 1 1 Tryd.underlying24 hi hz0 hz1 hz2 rfl (by decide) _ _ _ rfl (hrow.alloc _) ⟨W'.heap.size, 0, none⟩ 1 1 [eB x] rfl rfl (cell_one_new _ _ _) (by simp [Value.oneCell']) hm1 (by omega) (by simp; omega) ?_
       intro v' w2 hown' hgrow _
       obtain ⟨g', cap', rfl⟩ := ownsRow_succ hown'
       obtain ⟨hv1', hv2', hr2, hk2, hk3⟩ := appended_low hv (by decide) hrow hsz hown' hgrow
       have hc1 := hv1'.cell
       have hf1 := hv1'.frozen)
    exact ⟨hk2.from _, hk3, ⟨_, hv2', by simpa using hr2, trivial⟩, keep_t hK hk3⟩
   case done =>
    rintro hfin D W' hD ⟨⟨v, hv, hrow, -⟩, hK⟩ hk
    have hg : gatG a r = .ok r.1 := by
     rw [gatG, if_neg Hk.out]
     cases hr : r.2 with
     | none => rfl
     | some n => rw [hr] at hfin; cases hfin
    have Hg := Lib.hid hg
    clear hg hfin
    gi_wp2
    refine ⟨by simp, .inl ⟨_, _, rfl, run_takeDeferred hk, ?_⟩⟩
    have hKp := keep_put (g := b3) hs0 W' D _ (.deferred none) hD hk rfl
    exact ⟨_, results_none rfl _ _ _, keep_t hK hKp, .inl ⟨⟨_, rfl⟩, Hg.out, v, (World.putObj_heap_other (by omega)).trans hv, ownsRow_putObj hrow _ hk rfl⟩⟩
   case pan =>
    rintro ch D W' hfin hD ⟨⟨v, hv, hrow, -⟩, hK⟩ hk
    obtain ⟨n, hn, rfl⟩ : ∃ n, r.2 = some n ∧ ch = errno n := by
     cases hr : r.2 with
     | none => rw [hr] at hfin; cases hfin
     | some n => rw [hr] at hfin; exact ⟨n, rfl, (Option.some.inj hfin).symm⟩
    have hg : gatG a r = .error n := by rw [gatG, if_neg Hk.out, hn]
    have hKp := keep_put (g := b3) hs0 W' D _ (.deferred none) hD hk rfl
    refine ⟨by simp, .inl ⟨_, _, rfl, run_takeDeferred hk, ?_⟩⟩
    exact ⟨keep_t hK hKp, .inr ⟨n, rfl, hg, v, (World.putObj_heap_other (by omega)).trans hv⟩⟩
end Go.Proofs.YtjclfkbhakjdaaaDoor.Tu
namespace Go.Proofs.YtjclfkbhakjdaaaDoor.Tu
open Go.RowKit Go.Shelf
attribute [local go_sem] Oper.semAt_some run_store_func
end Go.Proofs.YtjclfkbhakjdaaaDoor.Tu
namespace Go.Proofs.YtjclfkbhakjdaaaDoor
open Go.Proofs.YtjclfkbhakjdaaaDoor.Tu
open Go.RowKit Go.Shelf
attribute [local go_sem] Oper.semAt_some run_store_func
theorem Boxed.set_other {W : World} {b b' : Nat} {t : TypeId} {x y : Value} (h : Boxed W b t x) (hne : b ≠ b') : Boxed (W.setCell ⟨b', 0, none⟩ y) b t x :=
 (Below.heap_setCell _ _ _ _ hne).trans h
end Go.Proofs.YtjclfkbhakjdaaaDoor
namespace Go.Proofs.YtjclfkbhakjdaaaDoor.Tu
open Go.RowKit Go.Shelf
attribute [local go_sem] Oper.semAt_some run_store_func
set_option maxRecDepth 100000 in
set_option maxHeartbeats 4000000 in
theorem gathered_any (a : UInt8) (gf : Nat) (lb : Array Value) (r : List UInt8 × Option Int) (hxs : r.1.length ≤ 1000000) (hne : ∀ n, r.2 = some n → n ≠ 0) (w : World) (hen : ∀ args w, (callFunc gf args).run Tryd.prog w = .ok (.enter gf args) w) (hT : Tab w)
    (hseq : ∀ (B g : Nat) (w0 : World), Below w.heap.size w w0 → w.heap.size ≤ g → w.heap.size ≤ B → B ≤ w0.heap.size → SeqI Fence.wide Tryd.prog gf lb (fun x : UInt8 => #[eB x]) (Keep B g) r.1 (r.2.map errno) w0) :
    Calls Tryd.prog 51 #[eB a, .func (.func gf) #[] lb] w fun e w' => Below w.heap.size w w' ∧
      ((∃ v, gatG a r = .ok r.1 ∧ e = .returned (.tuple #[v, .int .i64 0]) ∧ w'.ownsRow w.heap.size 5 1 v r.1.length (r.1.map eB)) ∨ ∃ n, gatG a r = .error n ∧ e = .returned (.tuple #[.slice none 0 0, .int .i64 n])) := by
 have hmf : ∀ (fn : Fn) (first cap : Array Value) (w : World), (Instr.makeFunc fn first cap).run Tryd.prog w = .ok (.func fn first cap) w := fun _ _ _ _ => rfl
 obtain ⟨W0, hW0⟩ : ∃ W0, ((w.alloc (.cells #[eB a] 5)).alloc (.cells #[.func (.func gf) #[] lb] 49)).alloc (.cells #[.slice none 0 0] 24) = W0 := ⟨_, rfl⟩
 have hs0 : W0.heap.size = w.heap.size + 3 := by rw [← hW0]; simp
 have hA : Below w.heap.size w W0 := by rw [← hW0]; exact (((Below.refl _ w).alloc (Nat.le_refl _) _).alloc (by simp) _).alloc (by simp; omega) _
 have b1 : Boxed W0 w.heap.size 5 (eB a) := by rw [← hW0]; exact ((Boxed.new w _ _).alloc _).alloc _
 have b2 : Boxed W0 (w.heap.size + 1) 49 (.func (.func gf) #[] lb) := by
  rw [← hW0]
  have := (Boxed.new (w.alloc (.cells #[eB a] 5)) 49 (.func (.func gf) #[] lb)).alloc (.cells #[.slice none 0 0] 24)
  rw [World.size_alloc] at this
  exact this
 have b3 : Boxed W0 (w.heap.size + 1 + 1) 24 (.slice none 0 0) := by
  rw [← hW0]
  have := Boxed.new ((w.alloc (.cells #[eB a] 5)).alloc (.cells #[.func (.func gf) #[] lb] 49)) 24 (.slice none 0 0)
  rw [World.size_alloc, World.size_alloc] at this
  exact this
 have hA4 := below_alloc W0 (.cells #[.int .i64 0] 28)
 have hsz4 : (W0.alloc (.cells #[.int .i64 0] 28)).heap.size = w.heap.size + 4 := by simp [hs0]
 have hB4 := below_trans hA hA4
 have hwork := gathered1_is w.heap.size (w.heap.size + 1) (w.heap.size + 1 + 1) a gf lb r hxs (W0.alloc (.cells #[.int .i64 0] 28)) hen (hT.below hB4) (b1.alloc _) (b2.alloc _).cell (by omega) (b3.alloc _)
  (fun w0 h => hseq _ _ w0 (below_trans hB4 h) (by omega) (by omega) h.size)
 have hct := caught_any 72 _ (w.heap.size + 1 + 1) W0 (by omega) (enters_of Tryd.func72 (by kernel_rfl) rfl) _ _ hwork
 have hgn : ∀ n, gatG a r = .error n → n ≠ 0 := by
  intro n hn
  unfold gatG at hn
  split at hn
  · cases hn; omega
  · cases hr : r.2 with
    | none => rw [hr] at hn; cases hn
    | some m => rw [hr] at hn; cases hn; exact hne _ hr
 clear hwork hA4 hsz4 hB4 hseq hen
 go_enter Tryd.func51, Tryd.ntmps51
 go_wp2_with fail
 go_at_call 71
 refine hct.mono ?_
 rintro e w' ⟨w1, n, hK, rfl, rfl, hlt, hR⟩
 have hBf : Below w.heap.size w (w1.setCell ⟨W0.heap.size, 0, none⟩ (.int .i64 n)) := (below_of_keep hK hA (by omega) (by omega)).setCell (p := ⟨W0.heap.size, 0, none⟩) (by show w.heap.size ≤ W0.heap.size; omega) _
 clear hct hW0
 rcases hR with ⟨rfl, hg, v, hv, hrow⟩ | ⟨hg, v, hv⟩
 · have hv0 : ∃ A' l' c', v = .slice A' l' c' := by
     rcases hrow.2 with ⟨rfl, _⟩ | ⟨gg, cap, cur, rfl, _⟩
     · exact ⟨_, _, _, rfl⟩
     · exact ⟨_, _, _, rfl⟩
   obtain ⟨A', l', c', rfl⟩ := hv0
   have hv2 := Boxed.set_other (b' := W0.heap.size) (y := .int .i64 0) hv (by omega)
   have hc := hv2.cell
   have hrow2 : (w1.setCell ⟨W0.heap.size, 0, none⟩ (.int .i64 0)).ownsRow w.heap.size 5 1 (.slice A' l' c') r.1.length (r.1.map eB) := by
    have h1 := World.ownsRow.kept hrow (grownBy_setCell' w1 W0.heap.size (.int .i64 0)) (by
     cases hvb : (Value.slice A' l' c').ownBlock with
     | none => exact .inl rfl
     | some q => exact .inr (fun e => by have := (World.ownsRow.lt hrow q hvb).1; injection e with e; simp at this; omega))
    exact ⟨h1.1, h1.2.imp id (fun ⟨g, cap, cur, e, hb, rest⟩ => ⟨g, cap, cur, e, by simp at hb; omega, rest⟩)⟩
   have Hg := Lib.hid hg
   clear hg hgn
   generalize w1.setCell ⟨W0.heap.size, 0, none⟩ (.int .i64 0) = w2 at *
   go_wp2_with fail
   go_ret2
   exact ⟨hBf, .inl ⟨_, Hg.out, rfl, hrow2⟩⟩
 · have hn := hgn n hg
   have hb : ((n : Int) != 0) = true := by simpa using hn
   have Hg := Lib.hid hg
   clear hg hgn hn
   generalize w1.setCell ⟨W0.heap.size, 0, none⟩ (.int .i64 n) = w2 at *
   go_wp2_with fail
   go_ret2
   exact ⟨hBf, .inr ⟨n, Hg.out, rfl⟩⟩
end Go.Proofs.YtjclfkbhakjdaaaDoor.Tu
