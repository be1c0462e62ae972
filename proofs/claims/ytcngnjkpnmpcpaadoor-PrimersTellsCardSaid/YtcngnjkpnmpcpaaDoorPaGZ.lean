import Derived.Test.YtcngnjkpnmpcpaaDoorPaFZ
import Derived.Test.YtcngnjkpnmpcpaaDoorRcBZ
namespace Go.Proofs.YtcngnjkpnmpcpaaDoor
open Go.RowKit Go.Shelf
attribute [local go_sem] Oper.semAt_some run_store_func
def chkF (taken : List (List UInt8)) : List (List UInt8) → Bool
  | [] => true
  | x :: xs => takeB taken x && chkF (taken ++ [x]) xs
theorem chkF_app (t a b : List (List UInt8)) : chkF t (a ++ b) = (chkF t a && chkF (t ++ a) b) := by
 induction a generalizing t with
 | nil => simp [chkF]
 | cons x a ih =>
   show (takeB t x && chkF (t ++ [x]) (a ++ b)) = (takeB t x && chkF (t ++ [x]) a && chkF (t ++ x :: a) b)
   rw [ih, List.append_assoc, Bool.and_assoc]
   rfl
theorem chkF_snoc (a : List (List UInt8)) (x : List UInt8) : chkF [] (a ++ [x]) = (chkF [] a && takeB a x) := by
 rw [chkF_app]
 simp [chkF]
theorem chkF_bad {pre xs : List (List UInt8)} {x : List UInt8} (h : pre ++ [x] <+: xs) (hx : takeB pre x = false) : chkF [] xs = false := by
 obtain ⟨t, rfl⟩ := h
 rw [chkF_app, chkF_snoc, hx, Bool.and_false, Bool.false_and]
def chkB (L : List Pr) : Bool := decide (L.length ≤ 8) && chkF [] (allP L)
set_option maxRecDepth 100000 in
set_option maxHeartbeats 4000000 in
theorem Check1_is (b0 : Nat) (A : Option Addr) (c : Nat) (L : List Pr) (hr : L.length ≤ 1000000) (w : World) (hT : Tab w) (h0 : PrsIn w.heap.size w (.slice A L.length c) L) (hb : w.cell? ⟨b0, 0, none⟩ = some (.slice A L.length c)) :
    Calls Tryd.prog 35 #[.pointer (some ⟨b0, 0, none⟩)] w fun e w' => Below w.heap.size w w' ∧ (((∃ v, e = .returned v) ∧ chkB L = true) ∨ (e = .panicked (errno 200) ∧ chkB L = false)) := by
  refine (callsIn_wide (n := 5)).1 ?_
  have hbl := World.block_lt_of_cell? w _ hb
  by_cases h8 : L.length ≤ 8
  · have d8 : decide ((L.length : Int) ≤ 8) = true := decide_eq_true (by omega)
    have HCH := Lib.hid (show chkB L = chkF [] (allP L) from by unfold chkB; rw [decide_eq_true h8]; rfl)
    refine callsIn_of_wpAt_marks Tryd.func35 rfl ?_
    simp only [Tryd.ntmps35, List.size_toArray, List.length_cons, List.length_nil, Nat.reduceAdd, Nat.reduceSub, Array.replicate_succ, Array.replicate_zero, List.push_toArray, List.append_toArray, List.nil_append, List.cons_append]
    have hfM : Fence.wide.fn 29 := trivial
    have hfE : Fence.wide.fn 33 := trivial
    refine wpAt_seq ?_
    gi_wp2_with fail
    gi_at_call 29
    refine (callsIn_wide.2 (pmust_yes _ _)).mono ?_
    rintro e w1 ⟨rfl, rfl⟩
    gi_wp2_with fail
    refine wpAt_seq ?_
    have hA1 := below_alloc w (.cells #[.slice none 0 0] 31)
    have hb1 := Boxed.new w 31 (.slice none 0 0)
    have hbc := (hA1.cell (p := ⟨b0, 0, none⟩) hbl).trans hb
    have hE := each_any A L.length c (w.alloc (.cells #[.slice none 0 0] 31))
    have hsa := World.size_alloc w (.cells #[.slice none 0 0] 31)
    gi_wp2_with fail
    generalize w.alloc (.cells #[.slice none 0 0] 31) = wa at *
    refine wpAt_seq ?_
    gi_wp2_with fail
    gi_at_call 33
    refine (callsIn_wide.2 hE).mono ?_
    rintro e w0' ⟨rfl, rfl⟩
    have hA2 := hA1.alloc hA1.size (.cells #[.slice A L.length c] 22)
    have hb2 := hb1.alloc (.cells #[.slice A L.length c] 22)
    have hb3 := Boxed.new wa 22 (.slice A L.length c)
    have hsz := World.size_alloc wa (.cells #[.slice A L.length c] 22)
    rw [hsa] at hsz hb3
    rw [hsa]
    generalize wa.alloc (.cells #[.slice A L.length c] 22) = w0 at *
    have hseq := each_seq (w.heap.size + 1) (w.heap.size + 2) w.heap.size A c L hr w0 (by omega) (by omega) hb3.cell ((h0.below hA2).more (by omega)) (fun h1 a ha => by
     obtain ⟨A', c', e, -, hcs⟩ := h0
     injection e with e1 e2 e3
     subst e1
     obtain ⟨b, off, e4, hb, -⟩ := hcs h1
     rw [e4] at ha
     cases ha
     show b ≠ _
     omega)
    have HLl := Lib.hid (show (allP L).length ≤ 16 from by rw [allP_len]; omega)
    have hT0 := hT.below hA2
    have HTK := Lib.hid (fun (W : World) (hk : Keep (w.heap.size + 2) w.heap.size w0 W) => show Tab W from by
     have h9 : Below w.heap.size w0 W := ⟨hk.1.1, hk.1.2.1, hk.1.2.2.1, hk.1.2.2.2, fun k hk2 => hk.2 k (by omega) (by omega)⟩
     exact hT.below (hA2.trans h9))
    clear hE h0 hA1 hbc hb1 hb3 hb hT hT0
    gi_wp2_with fail
    refine wpAt_block ?_
    refine wpAt_range_P (gf := 53) (lb := #[.pointer (some ⟨w.heap.size + 1, 0, none⟩)]) Tryd.func35 rfl (enters_of Tryd.func53 (by kernel_rfl) rfl) hseq (fun _ _ _ => kt_t) (fun W l o o' h1 h2 h3 => ⟨keep_put (by omega) W l o o' h1 h2 h3, fun k cs fr hk => (World.putObj_heap_other (fun e => by subst e; rw [h2] at hk; cases hk; cases h3)).trans hk⟩) (Below.refl _ _) (fun _ => rfl)
     (fun (pre : List (List UInt8)) W => chkF [] pre = true ∧ ∃ v, Boxed W w.heap.size 31 v ∧ W.ownsRow (w.heap.size + 2) 9 1 v pre.length (pre.map sV) ∧ Keep (w.heap.size + 2) w.heap.size w0 W)
     (fun _ _ => False)
     (fun ch W => ch = errno 200 ∧ chkF [] (allP L) = false ∧ Keep (w.heap.size + 2) w.heap.size w0 W)
     ?own ⟨rfl, _, hb2, World.ownsRow_nil _ _ _ _, keep_r _ _ _⟩ (fun _ _ _ _ _ h => h.elim) ?act1 ?assign1 ?body1 ?done1 ?stop1 ?pan1
    case own =>
     rintro s X Y row ⟨h0, v, h1, h2, h4⟩ hgr hrow
     have hne : ∀ k, k < w0.heap.size → some k ≠ row := fun k hk e => by have := (hrow k e.symm).1; omega
     refine ⟨h0, v, h1.kept hgr (hne _ (by omega)), own_keepT h2 (fun k cs hk ho _ => (hgr.block k (Array.getElem?_eq_some_iff.1 ho).1 (fun e => ?_)).trans ho), keep_t h4 ⟨⟨hgr.os, hgr.tape, hgr.output, hgr.size⟩, fun k hk _ => hgr.block k (by have := keep_size h4; omega) (hne k (by omega))⟩⟩
     obtain ⟨-, o, ho2, hc2⟩ := hrow k e.symm
     rw [ho2] at ho
     cases ho
     cases hc2
    case assign1 =>
     intro l x W' K hK
     gi_wp2
     exact hK
    case stop1 => rintro c D W' _ h _; exact h.elim
    case body1 =>
     rintro l pre x W ⟨h0, v, h1, h2, h4⟩ hpre
     have hvl : pre.length + 1 ≤ 16 := by
      have h5 := hpre.length_le
      have := HLl.out
      simp only [List.length_append, List.length_singleton] at h5
      omega
     have hsz3 := keep_size h4
     have H4 := Lib.hid h4
     have hc := h1.cell
     have hf := h1.frozen
     have hTk := take_any v pre x (w.heap.size + 2) W h2 (by omega) (HTK.out W h4) (by omega)
     have HS := Lib.hid (chkF_snoc pre x)
     have HBd := Lib.hid (fun (h : takeB pre x = false) => chkF_bad hpre h)
     have H0 := Lib.hid h0
     clear hseq hpre h4 h0
     gi_wp2_with fail
     refine ⟨trivial, ?_⟩
     gi_at_call 36
     refine (CallsIn.inRound l (callsIn_wide.2 hTk)).mono ?_
     rintro e w1 (⟨htb, hgr, u, rfl, hown'⟩ | ⟨htb, rfl, hB1⟩)
     · obtain ⟨g', cap', rfl⟩ := ownsRow_succ hown'
       obtain ⟨hv1, hv2, hr2, hk2, hkf⟩ := push_round (D := w0.heap.size) h1 h2 (by omega) (by omega) hown' hgr
       have hc1 := hv1.cell
       have hf1 := hv1.frozen
       have HTB := Lib.hid htb
       clear hTk htb
       gi_wp2_with fail
       exact ⟨hkf, hk2, by rw [HS.out, H0.out, HTB.out]; rfl, _, hv2, by simpa using hr2, keep_t H4.out hk2.1⟩
     · have HTB := Lib.hid htb
       clear hTk htb
       gi_wp2_with fail
       exact ⟨rfl, keepsFrom_below hB1, rfl, HBd.out HTB.out, keep_t H4.out (kt_below hB1 (by omega)).1⟩
    case done1 =>
     rintro D W hD ⟨h0, v, h1, h2, h4⟩ hk
     refine ⟨by simp, .inl ⟨_, _, rfl, run_takeDeferred hk, ?_⟩⟩
     have hkp := keep_t h4 (keep_put (B := w.heap.size + 2) (g := w.heap.size) (w := w0) (by omega) W D _ (.deferred none) hD hk rfl)
     refine ⟨_, results_none rfl _ _ _, ?_, .inl ⟨⟨_, rfl⟩, by rw [HCH.out, h0]⟩⟩
     exact hA2.trans ⟨hkp.1.1, hkp.1.2.1, hkp.1.2.2.1, hkp.1.2.2.2, fun k hk => hkp.2 k (by omega) (by omega)⟩
    case pan1 =>
     rintro ch D W hD ⟨rfl, h0, h4⟩ hk
     refine ⟨by simp, .inl ⟨_, _, rfl, run_takeDeferred hk, ?_⟩⟩
     have hkp := keep_t h4 (keep_put (B := w.heap.size + 2) (g := w.heap.size) (w := w0) (by omega) W D _ (.deferred none) hD hk rfl)
     refine ⟨?_, .inr ⟨rfl, by rw [HCH.out, h0]⟩⟩
     exact hA2.trans ⟨hkp.1.1, hkp.1.2.1, hkp.1.2.2.1, hkp.1.2.2.2, fun k hk => hkp.2 k (by omega) (by omega)⟩
  · have d8 : decide ((L.length : Int) ≤ 8) = false := decide_eq_false (by omega)
    have HCH : chkB L = false := by unfold chkB; rw [decide_eq_false h8]; rfl
    refine callsIn_of_wp_marks Tryd.func35 rfl trivial ?_ rfl
    simp only [Tryd.ntmps35, List.size_toArray, List.length_cons, List.length_nil, Nat.reduceAdd, Nat.reduceSub, Array.replicate_succ, Array.replicate_zero, List.push_toArray, List.append_toArray, List.nil_append, List.cons_append]
    have hfM : Fence.wide.fn 29 := trivial
    gi_wp2_with fail
    gi_at_call 29
    refine (callsIn_wide.2 (pmust_no _ _)).mono ?_
    rintro e w1 ⟨rfl, rfl⟩
    gi_wp2_with fail
    exact ⟨Below.refl _ _, .inr ⟨rfl, HCH⟩⟩
end Go.Proofs.YtcngnjkpnmpcpaaDoor
