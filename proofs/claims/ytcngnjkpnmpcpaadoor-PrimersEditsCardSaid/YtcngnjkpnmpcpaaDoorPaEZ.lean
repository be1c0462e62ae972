import Derived.Test.YtcngnjkpnmpcpaaDoorPaCZ
import Derived.Test.YtcngnjkpnmpcpaaDoorRIZ
namespace Go.Proofs.YtcngnjkpnmpcpaaDoor
open Go.RowKit Go.Shelf
attribute [local go_sem] Oper.semAt_some run_store_func
theorem push_round {W w1 : World} {g base n m D : Nat} {v v' : Value} {xs ys : List Value} (hbx : Boxed W g 31 v) (hown : W.ownsRow base 9 1 v n xs) (hg : g < base) (hbs : base ≤ W.heap.size) (hown' : w1.ownsRow base 9 1 v' m ys) (hgr : W.grownBy w1 v.ownBlock) :
    Boxed w1 g 31 v ∧ Boxed (w1.setCell ⟨g, 0, none⟩ v') g 31 v' ∧ (w1.setCell ⟨g, 0, none⟩ v').ownsRow base 9 1 v' m ys ∧ KT base g W (w1.setCell ⟨g, 0, none⟩ v') ∧ KeepsFrom D W (w1.setCell ⟨g, 0, none⟩ v') := by
  have hne : ∀ k, k < base → some k ≠ v.ownBlock := fun k hk e => by have := (own_tag hown e.symm).1; omega
  have hb1 : Boxed w1 g 31 v := (hgr.block g hbx.lt (hne g hg)).trans hbx
  have hset : ∀ k, k ≠ g → (w1.setCell ⟨g, 0, none⟩ v').heap[k]? = w1.heap[k]? := fun k hk => Below.heap_setCell w1 ⟨g, 0, none⟩ v' k hk
  refine ⟨hb1, hb1.set v', own_keepT hown' fun k cs hk ho _ => (hset k (by omega)).trans ho, ⟨⟨⟨hgr.os, hgr.tape, hgr.output, Nat.le_trans hgr.size (by simp [World.setCell])⟩, fun k hk hkg => ?_⟩, fun k cs fr hk => ?_⟩, ⟨Nat.le_trans hgr.size (by simp [World.setCell]), fun k o _ ho hc => ?_⟩⟩
  · rw [hset k hkg]
    exact hgr.block k (by omega) (hne k hk)
  · have h1 := (Array.getElem?_eq_some_iff.1 hk).1
    rw [hset k (fun e => by
     subst e
     have h2 : W.heap[k]? = _ := hbx
     rw [h2] at hk
     cases hk)]
    refine (hgr.block k h1 fun e => ?_).trans hk
    obtain ⟨-, cs2, h2⟩ := own_tag hown e.symm
    rw [h2] at hk
    cases hk
  · have h1 := (Array.getElem?_eq_some_iff.1 ho).1
    rw [hset k (fun e => by
     subst e
     have h2 : W.heap[k]? = _ := hbx
     rw [h2] at ho
     cases ho
     cases hc)]
    refine (hgr.block k h1 fun e => ?_).trans ho
    obtain ⟨-, cs2, h2⟩ := own_tag hown e.symm
    rw [h2] at ho
    cases ho
    cases hc
theorem seqI_of {α : Type} {F : Fence} {P : Program} {gf : Nat} {lb : Array Value} {encs : α → Array Value} {Kp : World → World → Prop} {xs : List α} {w0 : World} (h : SeqP F P gf lb encs Kp xs w0) : SeqI F P gf lb encs Kp xs none w0 := by
 intro l J JS W hW hJ hY h0
 refine (h l J JS (fun _ _ => False) W hW hJ (fun pre x W1 hj hp => ?_) h0).mono ?_
 · obtain ⟨fn, tmps, assign, body, hy, hR⟩ := hY pre x W1 hj hp
   refine ⟨fn, tmps, assign, body, hy, hR.mono ?_⟩
   rintro e W' (h1 | h1)
   · exact .inl h1
   · exact .inr (.inl h1)
 · rintro e W' (⟨⟨v, rfl⟩, h1 | h1⟩ | ⟨ch, -, h1⟩)
   · exact .inr (.inl ⟨rfl, ⟨v, rfl⟩, h1⟩)
   · exact .inl ⟨v, rfl, h1⟩
   · exact h1.elim
set_option maxRecDepth 100000 in
set_option maxHeartbeats 4000000 in
theorem All_any (v0 : Value) (L : List Pr) (hr : L.length ≤ 1000) (w : World) (h0 : PrsIn w.heap.size w v0 L) :
    Calls Tryd.prog 14 #[v0] w fun e w' => ∃ u, e = .returned u ∧ w'.ownsRow w.heap.size 9 1 u (allP L).length ((allP L).map sV) ∧ Below w.heap.size w w' := by
  refine (callsIn_wide (n := 5)).1 ?_
  obtain ⟨i0, hi, hz0, hz1, hz2⟩ := info_parts info_str
  obtain ⟨A, c, rfl⟩ := h0.len
  refine callsIn_of_wp_marks Tryd.func14 rfl trivial ?_ rfl
  simp only [Tryd.ntmps14, List.size_toArray, List.length_cons, List.length_nil, Nat.reduceAdd, Nat.reduceSub, Array.replicate_succ, Array.replicate_zero, List.push_toArray, List.append_toArray, List.nil_append, List.cons_append]
  have hA1 := below_alloc w (.cells #[.slice none 0 0] 31)
  have hA2 : Below w.heap.size w ((w.alloc (.cells #[.slice none 0 0] 31)).alloc (.cells #[.slice A L.length c] 22)) := hA1.alloc (by simp) _
  have hb1 := (Boxed.new w 31 (.slice none 0 0)).alloc (.cells #[.slice A L.length c] 22)
  have hb2 := Boxed.new (w.alloc (.cells #[.slice none 0 0] 31)) 22 (.slice A L.length c)
  rw [World.size_alloc] at hb2
  have hsz : ((w.alloc (.cells #[.slice none 0 0] 31)).alloc (.cells #[.slice A L.length c] 22)).heap.size = w.heap.size + 2 := by simp
  have hE := each_any A L.length c (w.alloc (.cells #[.slice none 0 0] 31))
  rw [World.size_alloc] at hE
  have hfE : Fence.wide.fn 33 := trivial
  gi_wp2_with fail
  gi_at_call 33
  refine (callsIn_wide.2 hE).mono ?_
  rintro e w0' ⟨rfl, rfl⟩
  generalize (w.alloc (.cells #[.slice none 0 0] 31)).alloc (.cells #[.slice A L.length c] 22) = w0 at *
  have hseq := seqI_of (each_seq (w.heap.size + 1) (w.heap.size + 2) w.heap.size A c L (by omega) w0 (by omega) (by omega) hb2.cell ((h0.below hA2).more (by omega)) (fun h1 a ha => by
   obtain ⟨A', c', e, -, hcs⟩ := h0
   injection e with e1 e2 e3
   subst e1
   obtain ⟨b, off, e4, hb, -⟩ := hcs h1
   rw [e4] at ha
   cases ha
   show b ≠ _
   omega))
  have HLl := Lib.hid (show (allP L).length ≤ 2000 from by rw [allP_len]; omega)
  clear hE h0 hA1 hfE
  gi_wp2_with fail
  refine wpIn_range_I (gf := 53) (lb := #[.pointer (some ⟨w.heap.size + 1, 0, none⟩)]) rfl rfl trivial rfl (enters_of Tryd.func53 (by kernel_rfl) rfl) hseq (fun _ _ _ => kt_t) (fun W l o o' h1 h2 h3 => ⟨keep_put (by omega) W l o o' h1 h2 h3, fun k cs fr hk => (World.putObj_heap_other (fun e => by subst e; rw [h2] at hk; cases hk; cases h3)).trans hk⟩) (Below.refl _ _) (fun _ => rfl)
   (fun (pre : List (List UInt8)) W => ∃ v, Boxed W w.heap.size 31 v ∧ W.ownsRow (w.heap.size + 2) 9 1 v pre.length (pre.map sV) ∧ Keep (w.heap.size + 2) w.heap.size w0 W)
   (fun _ _ => False)
   ?own ⟨_, hb1, World.ownsRow_nil _ _ _ _, keep_r _ _ _⟩ (fun _ _ _ _ _ h => h.elim) ?act1 ?assign1 ?body1 ?done1 ?stop1 ?pan1
  case own =>
   rintro s X Y row ⟨v, h1, h2, h4⟩ hgr hrow
   have hne : ∀ k, k < w0.heap.size → some k ≠ row := fun k hk e => by have := (hrow k e.symm).1; omega
   refine ⟨v, h1.kept hgr (hne _ (by omega)), own_keepT h2 (fun k cs hk ho _ => (hgr.block k (Array.getElem?_eq_some_iff.1 ho).1 (fun e => ?_)).trans ho), keep_t h4 ⟨⟨hgr.os, hgr.tape, hgr.output, hgr.size⟩, fun k hk _ => hgr.block k (by have := keep_size h4; omega) (hne k (by omega))⟩⟩
   obtain ⟨-, o, ho2, hc2⟩ := hrow k e.symm
   rw [ho2] at ho
   cases ho
   cases hc2
  case assign1 =>
   intro l x W' K hK
   gi_wp2
   exact hK
  case stop1 => rintro c D W' _ h _; exact h.elim
  case pan1 => rintro ch D W' hf; cases hf
  case body1 =>
   rintro l pre x W ⟨v, h1, h2, h4⟩ hpre
   have hvl : pre.length + 1 ≤ 2000 := by
    have h5 := hpre.length_le
    have := HLl.out
    simp only [List.length_append, List.length_singleton] at h5
    omega
   have hsz3 := keep_size h4
   have H4 := Lib.hid h4
   have hc := h1.cell
   have hA9 := below_alloc W (.cells #[sV x] 9)
   clear hseq hpre h4
   gi_wp2_with (gi_at_builtin; refine wpListIn_append_own _ rfl _ _ 31 rfl (w.heap.size + 2) 9 i0 _ 1 16 Tryd.underlying31 hi hz0 hz1 hz2 rfl (by decide) _ _ _ rfl (h2.alloc _) ⟨W.heap.size, 0, none⟩ 1 1 [sV x] rfl rfl (cell_one_new _ _ _) (by simp [Value.oneCell']) (by unfold maxLen; omega) (by omega) (by simp; omega) ?_; intro v' w1 hown' hgrow _; obtain ⟨g', cap', rfl⟩ := ownsRow_succ hown'; obtain ⟨hv1, hv2, hr2, hk2, hkf⟩ := push_round (D := w0.heap.size) h1 h2 (by omega) (by omega) hown' (grown_of (Below.refl _ _) hgrow); have hc1 := hv1.cell; have hf1 := hv1.frozen)
   exact ⟨hkf, hk2, _, hv2, by simpa using hr2, keep_t H4.out hk2.1⟩
  case done1 =>
   rintro - D W hD ⟨v, h1, h2, h4⟩ hk
   have hc := h1.cell
   gi_wp2
   refine ⟨by simp, .inl ⟨_, _, rfl, run_takeDeferred hk, ?_⟩⟩
   have hkp := keep_t h4 (keep_put (B := w.heap.size + 2) (g := w.heap.size) (w := w0) (by omega) W D _ (.deferred none) hD hk rfl)
   refine ⟨_, results_tmp rfl _ _ _, v, rfl, own_baseV (own_keepT h2 (fun k cs hk2 ho _ => (World.putObj_heap_other (fun e => by subst e; rw [ho] at hk; cases hk)).trans ho)) (by omega), ?_⟩
   exact hA2.trans ⟨hkp.1.1, hkp.1.2.1, hkp.1.2.2.1, hkp.1.2.2.2, fun k hk => hkp.2 k (by omega) (by omega)⟩
end Go.Proofs.YtcngnjkpnmpcpaaDoor
