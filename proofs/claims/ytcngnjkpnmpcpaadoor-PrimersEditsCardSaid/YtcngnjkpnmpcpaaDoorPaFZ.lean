import Derived.Test.YtcngnjkpnmpcpaaDoorPaEZ
namespace Go.Proofs.YtcngnjkpnmpcpaaDoor
open Go.RowKit Go.Shelf
attribute [local go_sem] Oper.semAt_some run_store_func
def begB (r p : List UInt8) : Bool := (List.range ((cut r).length + 1)).any fun j => decide (dist (cut p) ((cut r).take j) ≤ 1)
theorem begB_pre {r p : List UInt8} {n : Nat} (h : IsPre (cut p) (cut r) n) : begB r p = decide (n ≤ 1) := by
 obtain ⟨⟨j, hj, hd⟩, hle⟩ := h
 unfold begB
 by_cases hn : n ≤ 1
 · rw [decide_eq_true hn]
   exact List.any_eq_true.2 ⟨j, List.mem_range.2 (by omega), decide_eq_true (by omega)⟩
 · rw [decide_eq_false hn]
   refine List.any_eq_false.2 fun i hi => ?_
   have := hle i (by have := List.mem_range.1 hi; omega)
   simp
   omega
def begI (L : List Pr) (r : List UInt8) : Nat := (allP L).findIdx (begB r)
theorem begI_at {L : List Pr} {r : List UInt8} {pre : List (List UInt8)} {x : List UInt8} (h : pre ++ [x] <+: allP L) (hno : ∀ p ∈ pre, begB r p = false) (hx : begB r x = true) : begI L r = pre.length ∧ pre.length < (allP L).length := by
 have hl := h.length_le
 rw [List.length_append, List.length_singleton] at hl
 refine ⟨?_, by omega⟩
 have hlt : pre.length < (allP L).length := by omega
 have hg : ∀ i (hi : i < (pre ++ [x]).length), (allP L)[i]'(by rw [List.length_append, List.length_singleton] at hi; omega) = (pre ++ [x])[i] := fun i hi => (List.IsPrefix.getElem h hi).symm
 unfold begI
 rw [List.findIdx_eq hlt]
 refine ⟨?_, fun j hj => ?_⟩
 · rw [hg pre.length (by simp)]
   simpa using hx
 · rw [hg j (by rw [List.length_append]; omega), List.getElem_append_left hj]
   exact hno _ (List.getElem_mem hj)
theorem begI_none {L : List Pr} {r : List UInt8} (hno : ∀ p ∈ allP L, begB r p = false) : begI L r = (allP L).length := List.findIdx_eq_length.2 hno
theorem boxed_put {W : World} {b D : Nat} {t : TypeId} {v : Value} (h : Boxed W b t v) (o : Obj) (hD : b ≠ D) : Boxed (W.putObj D o) b t v := (World.putObj_heap_other hD).trans h
theorem below_put {B : Nat} {w W : World} (h : Below B w W) (D : Nat) (o : Obj) (hD : B ≤ D) : Below B w (W.putObj D o) := h.trans ⟨rfl, rfl, rfl, by simp [World.putObj], fun k hk => World.putObj_heap_other (by omega)⟩
theorem kt_box {B g : Nat} {W : World} {t : TypeId} {x v : Value} (h : Boxed W g t x) (ht : t ≠ 46) : KT B g W (W.setCell ⟨g, 0, none⟩ v) := by
 refine ⟨keep_set _ _ _ _ _, fun k cs fr hk => (Below.heap_setCell W ⟨g, 0, none⟩ v k fun e => ?_).trans hk⟩
 subst e
 have h2 : W.heap[k]? = _ := h
 rw [h2] at hk
 cases hk
 exact ht rfl
def begR (L : List Pr) (r : List UInt8) : Int := if begI L r < (allP L).length then (begI L r : Int) else -1
def begK (L : List Pr) (r : List UInt8) : Bool := decide (begI L r < (allP L).length)
set_option maxRecDepth 100000 in
set_option maxHeartbeats 4000000 in
theorem Begins_any (v0 : Value) (L : List Pr) (r : List UInt8) (hr : L.length ≤ 1000) (w : World) (h0 : PrsIn w.heap.size w v0 L) :
    Calls Tryd.prog 12 #[v0, sV r] w fun e w' => e = .returned (.tuple #[.int .i64 (begR L r), .bool (begK L r)]) ∧ Below w.heap.size w w' := by
  refine (callsIn_wide (n := 5)).1 ?_
  obtain ⟨A, c, rfl⟩ := h0.len
  refine callsIn_of_wp_marks Tryd.func12 rfl trivial ?_ rfl
  simp only [Tryd.ntmps12, List.size_toArray, List.length_cons, List.length_nil, Nat.reduceAdd, Nat.reduceSub, Array.replicate_succ, Array.replicate_zero, List.push_toArray, List.append_toArray, List.nil_append, List.cons_append]
  obtain ⟨W0, hW0⟩ : ∃ W0, ((w.alloc (.cells #[sV r] 9)).alloc (.cells #[.int .i64 0] 3)).alloc (.cells #[.bool false] 4) = W0 := ⟨_, rfl⟩
  have hA2 : Below w.heap.size w W0 := by rw [← hW0]; exact ((below_alloc w _).alloc (by simp) _).alloc (by simp; omega) _
  have hs0 : W0.heap.size = w.heap.size + 3 := by rw [← hW0]; simp
  have hb1 : Boxed W0 w.heap.size 9 (sV r) := by rw [← hW0]; exact ((Boxed.new w 9 (sV r)).alloc _).alloc _
  have hb2 : Boxed W0 (w.heap.size + 1) 3 (.int .i64 0) := by
   rw [← hW0]
   have := (Boxed.new (w.alloc (.cells #[sV r] 9)) 3 (.int .i64 0)).alloc (.cells #[.bool false] 4)
   simpa only [World.size_alloc] using this
  have hb3 : Boxed W0 (w.heap.size + 1 + 1) 4 (.bool false) := by
   rw [← hW0]
   have := Boxed.new ((w.alloc (.cells #[sV r] 9)).alloc (.cells #[.int .i64 0] 3)) 4 (.bool false)
   simpa only [World.size_alloc] using this
  have hE := each_any A L.length c W0
  have hfE : Fence.wide.fn 33 := trivial
  have HW0 := Lib.hid hW0
  clear hW0
  gi_wp2_with fail
  rw [HW0.out]
  gi_at_call 33
  refine (callsIn_wide.2 hE).mono ?_
  rintro e w0' ⟨rfl, rfl⟩
  have hb4 := Boxed.new W0 22 (.slice A L.length c)
  have hb1 := hb1.alloc (.cells #[.slice A L.length c] 22)
  have hb2 := hb2.alloc (.cells #[.slice A L.length c] 22)
  have hb3 := hb3.alloc (.cells #[.slice A L.length c] 22)
  have hA2 := hA2.alloc hA2.size (.cells #[.slice A L.length c] 22)
  have hsz := World.size_alloc W0 (.cells #[.slice A L.length c] 22)
  rw [hs0] at hb4 hsz
  rw [hs0]
  generalize W0.alloc (.cells #[.slice A L.length c] 22) = w0 at *
  have hseq := seqI_of (each_seq (w.heap.size + 3) (w.heap.size + 4) (w.heap.size + 1) A c L (by omega) w0 (by omega) (by omega) hb4.cell ((h0.below hA2).more (by omega)) (fun h1 a ha => by
   obtain ⟨A', c', e, -, hcs⟩ := h0
   injection e with e1 e2 e3
   subst e1
   obtain ⟨b, off, e4, hb, -⟩ := hcs h1
   rw [e4] at ha
   cases ha
   show b ≠ _
   omega))
  have HLl := Lib.hid (show (allP L).length ≤ 2000 from by rw [allP_len]; omega)
  have HB1 := Lib.hid hb1
  have HB3 := Lib.hid hb3
  clear hE h0 hfE hb4 hb1 hb3 HW0
  gi_wp2_with fail
  refine wpIn_range_I (gf := 53) (lb := #[.pointer (some ⟨w.heap.size + 3, 0, none⟩)]) rfl rfl trivial rfl (enters_of Tryd.func53 (by kernel_rfl) rfl) hseq (fun _ _ _ => kt_t) (fun W l o o' h1 h2 h3 => ⟨keep_put (by omega) W l o o' h1 h2 h3, fun k cs fr hk => (World.putObj_heap_other (fun e => by subst e; rw [h2] at hk; cases hk; cases h3)).trans hk⟩) (Below.refl _ _) (fun _ => rfl)
   (fun (pre : List (List UInt8)) W => Boxed W (w.heap.size + 1) 3 (.int .i64 pre.length) ∧ (∀ p ∈ pre, begB r p = false) ∧ Keep (w.heap.size + 4) (w.heap.size + 1) w0 W)
   (fun c W => c = .ret ∧ begI L r < (allP L).length ∧ Boxed W (w.heap.size + 1) 3 (.int .i64 (begI L r)) ∧ Boxed W (w.heap.size + 1 + 1) 4 (.bool true) ∧ Below w.heap.size w W)
   ?own ⟨hb2, fun p hp => (by cases hp), keep_r _ _ _⟩ ?isp ?act1 ?assign1 ?body1 ?done1 ?stop1 ?pan1
  case own =>
   rintro s X Y row ⟨h1, h2, h4⟩ hgr hrow
   have hne : ∀ k, k < w0.heap.size → some k ≠ row := fun k hk e => by have := (hrow k e.symm).1; omega
   exact ⟨h1.kept hgr (hne _ (by omega)), h2, keep_t h4 ⟨⟨hgr.os, hgr.tape, hgr.output, hgr.size⟩, fun k hk _ => hgr.block k (by have := keep_size h4; omega) (hne k (by omega))⟩⟩
  case isp =>
   rintro c D W o hD ⟨rfl, h1, h2, h3, h4⟩
   exact ⟨rfl, h1, (World.putObj_heap_other (by omega)).trans h2, (World.putObj_heap_other (by omega)).trans h3, below_put h4 D o (by omega)⟩
  case assign1 =>
   intro l x W' K hK
   gi_wp2
   exact hK
  case pan1 => rintro ch D W' hf; cases hf
  case body1 =>
   rintro l pre x W ⟨h1, h2, h4⟩ hpre
   have hvl : pre.length + 1 ≤ 2000 := by
    have h5 := hpre.length_le
    have := HLl.out
    simp only [List.length_append, List.length_singleton] at h5
    omega
   have hsz3 := keep_size h4
   have hrb : Boxed W w.heap.size 9 (sV r) := (h4.2 w.heap.size (by omega) (by omega)).trans HB1.out
   have hob : Boxed W (w.heap.size + 1 + 1) 4 (.bool false) := (h4.2 (w.heap.size + 1 + 1) (by omega) (by omega)).trans HB3.out
   obtain ⟨c1, w1, hcv, hS, hBa, -⟩ := to_bytes W x
   have hrb1 : Boxed w1 w.heap.size 9 (sV r) := (hBa.block _ hrb.lt).trans hrb
   have hc1 := hrb1.cell
   obtain ⟨c2, w2, hcv2, hS2, hBb, -⟩ := to_bytes w1 r
   have hBab := below_trans hBa hBb
   have hP := Prefix_any _ _ x r w2 (hS.next hBb) hS2
   have HBeg := Lib.hid (fun n (h : IsPre (cut x) (cut r) n) => begB_pre h)
   have Hat := Lib.hid (fun (hx : begB r x = true) => begI_at hpre h2 hx)
   have H4 := Lib.hid h4
   have H2 := Lib.hid h2
   clear hseq hpre h4 h2 hrb hS hS2 hBa hBb
   gi_wp2_with fail
   refine ⟨trivial, ?_⟩
   gi_at_call 34
   refine (CallsIn.inRound l (callsIn_wide.2 hP)).mono ?_
   rintro e w3 ⟨n, rfl, hpr, hBc⟩
   have hb := HBeg.out n hpr
   have hB3 := below_trans hBab hBc
   have hw3 : Boxed w3 (w.heap.size + 1) 3 (.int .i64 pre.length) := (hB3.block _ h1.lt).trans h1
   have ho3 : Boxed w3 (w.heap.size + 1 + 1) 4 (.bool false) := (hB3.block _ hob.lt).trans hob
   have hcw := hw3.cell
   have hfw := hw3.frozen
   have hK3 : KT (w.heap.size + 4) (w.heap.size + 1) W w3 := kt_below hB3 (by omega)
   have hF3 : KeepsFrom w0.heap.size W w3 := keepsFrom_below hB3
   have hbel : Below w.heap.size w w3 := by
    have := (keep_t H4.out hK3.1)
    exact hA2.trans ⟨this.1.1, this.1.2.1, this.1.2.2.1, this.1.2.2.2, fun k hk => this.2 k (by omega) (by omega)⟩
   clear hP hcv hcv2 hc1 hrb1 hpr HBeg hob hBab hB3 hBc
   by_cases hn : n ≤ 1
   · rw [decide_eq_true hn] at hb
     obtain ⟨he, hlt⟩ := Hat.out hb
     have d1 : decide ((n : Int) ≤ 1) = true := decide_eq_true (by omega)
     have hw4 := hw3.set (.int .i64 pre.length)
     have ho4 := ho3.other (B' := w.heap.size + 1) (by omega) (.int .i64 pre.length)
     have hco := ho4.cell
     have hfo := ho4.frozen
     have He := Lib.hid he
     have Hlt := Lib.hid hlt
     have ho5 := ho4.set (.bool true)
     have hw5 := hw4.other (B' := w.heap.size + 1 + 1) (by omega) (.bool true)
     clear hn he hlt hb Hat
     gi_wp2_with fail
     refine ⟨hF3.trans (((KeepsOthers.setCell w3 _ _).trans (KeepsOthers.setCell _ _ _)).from _), rfl, by rw [He.out]; exact Hlt.out, by rw [He.out]; exact hw5, ho5, ?_⟩
     exact (hbel.setCell (p := ⟨w.heap.size + 1, 0, none⟩) (by simp) _).setCell (p := ⟨w.heap.size + 1 + 1, 0, none⟩) (by simp; omega) _
   · rw [decide_eq_false hn] at hb
     have d1 : decide ((n : Int) ≤ 1) = false := decide_eq_false (by omega)
     have hw4 := hw3.set (.int .i64 (pre.length + 1))
     have HBx := Lib.hid hb
     have hm1 : IntKind.i64.wrap ((pre.length : Int) + 1) = (pre.length : Int) + 1 := IntWalk.i64_in _ (by omega)
     clear hn hb Hat
     gi_wp2_with fail
     have hkb := kt_box (B := w.heap.size + 4) (v := .int .i64 ((pre.length : Int) + 1)) hw3 (by decide)
     refine ⟨hF3.trans ((KeepsOthers.setCell w3 _ _).from _), kt_t hK3 hkb, by simpa using hw4, fun p hp => ?_, keep_t H4.out (keep_t hK3.1 hkb.1)⟩
     rcases List.mem_append.1 hp with hp | hp
     · exact H2.out p hp
     · rw [List.mem_singleton.1 hp]; exact HBx.out
  case done1 =>
   rintro - D W hD ⟨h1, h2, h4⟩ hk
   have hob : Boxed W (w.heap.size + 1 + 1) 4 (.bool false) := (h4.2 (w.heap.size + 1 + 1) (by omega) (by omega)).trans HB3.out
   have hbi := begI_none h2
   have hcw := h1.cell
   have hfw := h1.frozen
   have hw2 := h1.set (.int .i64 (-1))
   have ho2 := hob.other (B' := w.heap.size + 1) (by omega) (.int .i64 (-1))
   have hco := ho2.cell
   have hfo := ho2.frozen
   have ho3 := ho2.set (.bool false)
   have hw3 := hw2.other (B' := w.heap.size + 1 + 1) (by omega) (.bool false)
   have hcw3 := hw3.cell
   have hco3 := ho3.cell
   have hBx : Below w.heap.size w W := hA2.trans ⟨h4.1.1, h4.1.2.1, h4.1.2.2.1, h4.1.2.2.2, fun k hk => h4.2 k (by omega) (by omega)⟩
   have hBy := (hBx.setCell (p := ⟨w.heap.size + 1, 0, none⟩) (by simp) (.int .i64 (-1))).setCell (p := ⟨w.heap.size + 1 + 1, 0, none⟩) (by simp; omega) (.bool false)
   have hk3 : ((W.setCell ⟨w.heap.size + 1, 0, none⟩ (.int .i64 (-1))).setCell ⟨w.heap.size + 1 + 1, 0, none⟩ (.bool false)).heap[D]? = some (.deferred (some [])) := ((Below.heap_setCell _ _ _ _ (show D ≠ w.heap.size + 1 + 1 by omega)).trans (Below.heap_setCell _ _ _ _ (show D ≠ w.heap.size + 1 by omega))).trans hk
   have HBI := Lib.hid hbi
   clear hbi
   have hlt : ¬ begI L r < (allP L).length := by rw [HBI.out]; omega
   have e1 : begR L r = -1 := if_neg hlt
   have e2 : begK L r = false := decide_eq_false hlt
   have E12 := Lib.hid (And.intro e1 e2)
   clear e1 e2 hlt
   gi_wp2
   refine ⟨by simp, .inl ⟨_, _, rfl, run_takeDeferred hk3, ?_⟩⟩
   have hcA := (boxed_put (D := D) hw3 (.deferred none) (by omega)).cell
   have hcB := (boxed_put (D := D) ho3 (.deferred none) (by omega)).cell
   refine ⟨.tuple #[.int .i64 (-1), .bool false], ?_, by rw [E12.out.1, E12.out.2], below_put hBy D _ (by omega)⟩
   simp [results, Tryd.f12, go_sem, hcA, hcB]
  case stop1 =>
   rintro c D W hD ⟨rfl, h1, h2, h3, h4⟩ hk
   have hc := h2.cell
   have hc2 := h3.cell
   have e1 : begR L r = begI L r := if_pos h1
   have e2 : begK L r = true := decide_eq_true h1
   have E12 := Lib.hid (And.intro e1 e2)
   clear e1 e2 h1
   gi_wp2
   refine ⟨by simp, .inl ⟨_, _, rfl, run_takeDeferred hk, ?_⟩⟩
   have hcA := (boxed_put (D := D) h2 (.deferred none) (by omega)).cell
   have hcB := (boxed_put (D := D) h3 (.deferred none) (by omega)).cell
   refine ⟨.tuple #[.int .i64 (begI L r), .bool true], ?_, by rw [E12.out.1, E12.out.2], below_put h4 D _ (by omega)⟩
   simp [results, Tryd.f12, go_sem, hcA, hcB]
end Go.Proofs.YtcngnjkpnmpcpaaDoor
