import Derived.Test.YtcngnjkpnmpcpaaDoorPaFZ
import Derived.Test.YtcngnjkpnmpcpaaDoorRcBZ
namespace Go.Proofs.YtcngnjkpnmpcpaaDoor
open Go.RowKit Go.Shelf
attribute [local go_sem] Oper.semAt_some run_store_func
def chkF (taken : List (List UInt8)) : List (List UInt8) → Bool
  | [] => true
  | x :: xs => takeB taken x && chkF (taken ++ [x]) xs
theorem chkF_app (t a b : List (List UInt8)) : chkF t (a ++ b) = (chkF t a && chkF (t ++ a) b) := by
 induction a generalizing t with
 | nil => simp [chkF]
 | cons x a ih =>
   show (takeB t x && chkF (t ++ [x]) (a ++ b)) = (takeB t x && chkF (t ++ [x]) a && chkF (t ++ x :: a) b)
   rw [ih, List.append_assoc, Bool.and_assoc]
   rfl
theorem chkF_snoc (a : List (List UInt8)) (x : List UInt8) : chkF [] (a ++ [x]) = (chkF [] a && takeB a x) := by
 rw [chkF_app]
 simp [chkF]
theorem chkF_bad {pre xs : List (List UInt8)} {x : List UInt8} (h : pre ++ [x] <+: xs) (hx : takeB pre x = false) : chkF [] xs = false := by
 obtain ⟨t, rfl⟩ := h
 rw [chkF_app, chkF_snoc, hx, Bool.and_false, Bool.false_and]
def chkB (L : List Pr) : Bool := decide (L.length ≤ 8) && chkF [] (allP L)
set_option maxRecDepth 100000 in
set_option maxHeartbeats 4000000 in
theorem Check1_is (b0 : Nat) (A : Option Addr) (c : Nat) (L : List Pr) (hr : L.length ≤ 1000000) (w : World) (hT : Tab w) (h0 : PrsIn w.heap.size w (.slice A L.length c) L) (hb : w.cell? ⟨b0, 0, none⟩ = some (.slice A L.length c)) :
    Calls Tryd.prog 35 #[.pointer (some ⟨b0, 0, none⟩)] w fun e w' => Below w.heap.size w w' ∧ (((∃ v, e = .returned v) ∧ chkB L = true) ∨ (e = .panicked (errno 200) ∧ chkB L = false)) := by
  refine (callsIn_wide (n := 5)).1 ?_
  have hbl := World.block_lt_of_cell? w _ hb
  by_cases h8 : L.length ≤ 8
  · have d8 : decide ((L.length : Int) ≤ 8) = true := decide_eq_true (by omega)
    have HCH := Lib.hid (show chkB L = chkF [] (allP L) from by unfold chkB; rw [decide_eq_true h8]; rfl)
    refine callsIn_of_wpAt_marks Tryd.func35 rfl ?_
    simp only [Tryd.ntmps35, List.size_toArray, List.length_cons, List.length_nil, Nat.reduceAdd, Nat.reduceSub, Array.replicate_succ, Array.replicate_zero, List.push_toArray, List.append_toArray, List.nil_append, List.cons_append]
    have hfM : Fence.wide.fn 29 := trivial
    have hfE : Fence.wide.fn 33 := trivial
    refine wpAt_seq ?_
    gi_wp2_with fail
    gi_at_call 29
    refine (callsIn_wide.2 (pmust_yes _ _)).mono ?_
    rintro e w1 ⟨rfl, rfl⟩
    gi_wp2_with fail
    refine wpAt_seq ?_
    have hA1 := below_alloc w (.cells #[.slice none 0 0] 31)
    have hb1 := Boxed.new w 31 (.slice none 0 0)
    have hbc := (hA1.cell (p := ⟨b0, 0, none⟩) hbl).trans hb
    have hE := each_any A L.length c (w.alloc (.cells #[.slice none 0 0] 31))
    have hsa := World.size_alloc w (.cells #[.slice none 0 0] 31)
    gi_wp2_with fail
    generalize w.alloc (.cells #[.slice none 0 0] 31) = wa at *
    refine wpAt_seq ?_
    gi_wp2_with fail
    gi_at_call 33
    refine (callsIn_wide.2 hE).mono ?_
    rintro e w0' ⟨rfl, rfl⟩
    have hA2 := hA1.alloc hA1.size (.cells #[.slice A L.length c] 22)
    have hb2 := hb1.alloc (.cells #[.slice A L.length c] 22)
    have hb3 := Boxed.new wa 22 (.slice A L.length c)
    have hsz := World.size_alloc wa (.cells #[.slice A L.length c] 22)
    rw [hsa] at hsz hb3
    rw [hsa]
    generalize wa.alloc (.cells #[.slice A L.length c] 22) = w0 at *
    have hseq := each_seq (w.heap.size + 1) (w.heap.size + 2) w.heap.size A c L hr w0 (by omega) (by omega) hb3.cell ((h0.below hA2).more (by omega)) (fun h1 a ha => by
     obtain ⟨A', c', e, -, hcs⟩ := h0
     injection e with e1 e2 e3
     subst e1
     obtain ⟨b, off, e4, hb, -⟩ := hcs h1
     rw [e4] at ha
     cases ha
     show b ≠ _
     omega)
    have HLl := Lib.hid (show (allP L).length ≤ 16 from by rw [allP_len]; omega)
    have hT0 := hT.below hA2
    have HTK := Lib.hid (fun (W : World) (hk : Keep (w.heap.size + 2) w.heap.size w0 W) => show Tab W from by
     have h9 : Below w.heap.size w0 W := ⟨hk.1.1, hk.1.2.1, hk.1.2.2.1, hk.1.2.2.2, fun k hk2 => hk.2 k (by omega) (by omega)⟩
     exact hT.below (hA2.trans h9))
    clear hE h0 hA1 hbc hb1 hb3 hb hT hT0
    gi_wp2_with fail
    refine wpAt_block ?_
    refine wpAt_range_P (gf := 53) (lb := #[.pointer (some ⟨w.heap.size + 1, 0, none⟩)]) Tryd.func35 rfl (enters_of Tryd.func53 (by kernel_rfl) rfl) hseq (fun _ _ _ => kt_t) (fun W l o o' h1 h2 h3 => ⟨keep_put (by omega) W l o o' h1 h2 h3, fun k cs fr hk => (World.putObj_heap_other (fun e => by subst e; rw [h2] at hk; cases hk; cases h3)).trans hk⟩) (Below.refl _ _) (fun _ => rfl)
     (fun (pre : List (List UInt8)) W => chkF [] pre = true ∧ ∃ v, Boxed W w.heap.size 31 v ∧ W.ownsRow (w.heap.size + 2) 9 1 v pre.length (pre.map sV) ∧ Keep (w.heap.size + 2) w.heap.size w0 W)
     (fun _ _ => False)
     (fun ch W => ch = errno 200 ∧ chkF [] (allP L) = false ∧ Keep (w.heap.size + 2) w.heap.size w0 W)
     ?own ⟨rfl, _, hb2, World.ownsRow_nil _ _ _ _, keep_r _ _ _⟩ (fun _ _ _ _ _ h => h.elim) ?act1 ?assign1 ?body1 ?done1 ?stop1 ?pan1
    case own =>
     rintro s X Y row ⟨h0, v, h1, h2, h4⟩ hgr hrow
     have hne : ∀ k, k < w0.heap.size → some k ≠ row := fun k hk e => by have := (hrow k e.symm).1; omega
     refine ⟨h0, v, h1.kept hgr (hne _ (by omega)), own_keepT h2 (fun k cs hk ho _ => (hgr.block k (Array.getElem?_eq_some_iff.1 ho).1 (fun e => ?_)).trans ho), keep_t h4 ⟨⟨hgr.os, hgr.tape, hgr.output, hgr.size⟩, fun k hk _ => hgr.block k (by have := keep_size h4; omega) (hne k (by omega))⟩⟩
     obtain ⟨-, o, ho2, hc2⟩ := hrow k e.symm
     rw [ho2] at ho
     cases ho
     cases hc2
    case assign1 =>
     intro l x W' K hK
     gi_wp2
     exact hK
    case stop1 => rintro c D W' _ h _; exact h.elim
    case body1 =>
     rintro l pre x W ⟨h0, v, h1, h2, h4⟩ hpre
     have hvl : pre.length + 1 ≤ 16 := by
      have h5 := hpre.length_le
      have := HLl.out
      simp only [List.length_append, List.length_singleton] at h5
      omega
     have hsz3 := keep_size h4
     have H4 := Lib.hid h4
     have hc := h1.cell
     have hf := h1.frozen
     have hTk := take_any v pre x (w.heap.size + 2) W h2 (by omega) (HTK.out W h4) (by omega)
     have HS := Lib.hid (chkF_snoc pre x)
     have HBd := Lib.hid (fun (h : takeB pre x = false) => chkF_bad hpre h)
     have H0 := Lib.hid h0
     clear hseq hpre h4 h0
     gi_wp2_with fail
     refine ⟨trivial, ?_⟩
     gi_at_call 36
     refine (CallsIn.inRound l (callsIn_wide.2 hTk)).mono ?_
     rintro e w1 (⟨htb, hgr, u, rfl, hown'⟩ | ⟨htb, rfl, hB1⟩)
     · obtain ⟨g', cap', rfl⟩ := ownsRow_succ hown'
       obtain ⟨hv1, hv2, hr2, hk2, hkf⟩ := push_round (D := w0.heap.size) h1 h2 (by omega) (by omega) hown' hgr
       have hc1 := hv1.cell
       have hf1 := hv1.frozen
       have HTB := Lib.hid htb
       clear hTk htb
       gi_wp2_with fail
       exact ⟨hkf, hk2, by rw [HS.out, H0.out, HTB.out]; rfl, _, hv2, by simpa using hr2, keep_t H4.out hk2.1⟩
     · have HTB := Lib.hid htb
       clear hTk htb
       gi_wp2_with fail
       exact ⟨rfl, keepsFrom_below hB1, rfl, HBd.out HTB.out, keep_t H4.out (kt_below hB1 (by omega)).1⟩
    case done1 =>
     rintro D W hD ⟨h0, v, h1, h2, h4⟩ hk
     refine ⟨by simp, .inl ⟨_, _, rfl, run_takeDeferred hk, ?_⟩⟩
     have hkp := keep_t h4 (keep_put (B := w.heap.size + 2) (g := w.heap.size) (w := w0) (by omega) W D _ (.deferred none) hD hk rfl)
     refine ⟨_, results_none rfl _ _ _, ?_, .inl ⟨⟨_, rfl⟩, by rw [HCH.out, h0]⟩⟩
     exact hA2.trans ⟨hkp.1.1, hkp.1.2.1, hkp.1.2.2.1, hkp.1.2.2.2, fun k hk => hkp.2 k (by omega) (by omega)⟩
    case pan1 =>
     rintro ch D W hD ⟨rfl, h0, h4⟩ hk
     refine ⟨by simp, .inl ⟨_, _, rfl, run_takeDeferred hk, ?_⟩⟩
     have hkp := keep_t h4 (keep_put (B := w.heap.size + 2) (g := w.heap.size) (w := w0) (by omega) W D _ (.deferred none) hD hk rfl)
     refine ⟨?_, .inr ⟨rfl, by rw [HCH.out, h0]⟩⟩
     exact hA2.trans ⟨hkp.1.1, hkp.1.2.1, hkp.1.2.2.1, hkp.1.2.2.2, fun k hk => hkp.2 k (by omega) (by omega)⟩
  · have d8 : decide ((L.length : Int) ≤ 8) = false := decide_eq_false (by omega)
    have HCH : chkB L = false := by unfold chkB; rw [decide_eq_false h8]; rfl
    refine callsIn_of_wp_marks Tryd.func35 rfl trivial ?_ rfl
    simp only [Tryd.ntmps35, List.size_toArray, List.length_cons, List.length_nil, Nat.reduceAdd, Nat.reduceSub, Array.replicate_succ, Array.replicate_zero, List.push_toArray, List.append_toArray, List.nil_append, List.cons_append]
    have hfM : Fence.wide.fn 29 := trivial
    gi_wp2_with fail
    gi_at_call 29
    refine (callsIn_wide.2 (pmust_no _ _)).mono ?_
    rintro e w1 ⟨rfl, rfl⟩
    gi_wp2_with fail
    exact ⟨Below.refl _ _, .inr ⟨rfl, HCH⟩⟩
end Go.Proofs.YtcngnjkpnmpcpaaDoor
namespace Go.Proofs.YtcngnjkpnmpcpaaDoor
open Go.RowKit Go.Shelf
attribute [local go_sem] Oper.semAt_some run_store_func
def chkE (L : List Pr) : Int := if chkB L = true then 0 else 200
set_option maxRecDepth 100000 in
set_option maxHeartbeats 2000000 in
theorem Check_any (v0 : Value) (L : List Pr) (hr : L.length ≤ 1000000) (w : World) (hT : Tab w) (h0 : PrsIn w.heap.size w v0 L) :
    Calls Tryd.prog 17 #[v0] w fun e w' => e = .returned (.int .i64 (chkE L)) ∧ Below w.heap.size w w' := by
  have hmf : ∀ (fn : Fn) (first cap : Array Value) (w : World), (Instr.makeFunc fn first cap).run Tryd.prog w = .ok (.func fn first cap) w := fun _ _ _ _ => rfl
  obtain ⟨A, c, rfl⟩ := h0.len
  have hA1 := below_alloc w (.cells #[.slice A L.length c] 22)
  have hb1 := Boxed.new w 22 (.slice A L.length c)
  have hs1 := World.size_alloc w (.cells #[.slice A L.length c] 22)
  have hlt : w.heap.size < (w.alloc (.cells #[.slice A L.length c] 22)).heap.size := by omega
  obtain ⟨W0, hW0⟩ : ∃ W0, w.alloc (.cells #[.slice A L.length c] 22) = W0 := ⟨_, rfl⟩
  rw [hW0] at hA1 hb1 hs1 hlt
  have hA4 := below_alloc W0 (.cells #[.int .i64 0] 26)
  have hB4 := below_trans hA1 hA4
  have hwk := Check1_is w.heap.size A c L hr (W0.alloc (.cells #[.int .i64 0] 26)) (hT.below hB4) (h0.next hB4) (hb1.alloc _).cell
  have hct := caught_any 35 #[.pointer (some ⟨w.heap.size, 0, none⟩)] w.heap.size W0 hlt (enters_of Tryd.func35 (by kernel_rfl) rfl) (fun _ => chkB L = true) (fun n _ => chkB L = false ∧ n = 200) (by
   unfold WorkIs
   refine hwk.mono ?_
   rintro e w' ⟨hB, ⟨⟨v, rfl⟩, h⟩ | ⟨rfl, h⟩⟩
   · exact ⟨keep_of hB, .inl ⟨⟨v, rfl⟩, h⟩⟩
   · exact ⟨keep_of hB, .inr ⟨200, rfl, h, rfl⟩⟩)
  have HCE := Lib.hid (show (chkB L = true → chkE L = 0) ∧ (chkB L = false → chkE L = 200) from ⟨fun h => if_pos h, fun h => if_neg (by rw [h]; simp)⟩)
  have HW0 := Lib.hid hW0
  clear hwk hA4 hB4 hW0 hT h0
  go_enter Tryd.func17, Tryd.ntmps17
  go_wp2_with fail
  rw [HW0.out]
  go_at_call 27
  refine hct.mono ?_
  rintro e w' ⟨w1, n, hK, rfl, rfl, hlt1, hR⟩
  have hBf : Below w.heap.size w (w1.setCell ⟨W0.heap.size, 0, none⟩ (.int .i64 n)) := (hA1.trans ⟨hK.1.1, hK.1.2.1, hK.1.2.2.1, hK.1.2.2.2, fun k hk => hK.2 k (by omega) (by omega)⟩).setCell (p := ⟨W0.heap.size, 0, none⟩) (by show w.heap.size ≤ W0.heap.size; omega) _
  have hn : n = chkE L := by
   rcases hR with ⟨rfl, h⟩ | ⟨h, rfl⟩
   · exact (HCE.out.1 h).symm
   · exact (HCE.out.2 h).symm
  subst hn
  rw [hs1] at hBf
  clear hct hR
  go_wp2_with fail
  go_ret
  exact ⟨rfl, hBf⟩
def minD (acc d : Int) : Int := if (decide (acc < 0) || decide (d < acc)) = true then d else acc
def leaR (all : List (List UInt8)) (i : Nat) (acc : Int) : Nat → Int
  | 0 => acc
  | k + 1 => minD (leaR all i acc k) (dC (all[i]?.getD []) (all[k]?.getD []))
def leaA (all : List (List UInt8)) : Nat → Int
  | 0 => -1
  | i + 1 => leaR all i (leaA all i) i
theorem leaR_succ (all : List (List UInt8)) (i k : Nat) (acc : Int) (x : List UInt8) (hi : all[i]? = some x) (hk : k < all.length) : leaR all i acc (k + 1) = minD (leaR all i acc k) (dC x all[k]) := by
 rw [leaR, hi, List.getElem?_eq_getElem hk]
 rfl
theorem dC_le (a b : List UInt8) : dC a b ≤ 1000 := by
 unfold dC
 have h := dist_most (cut a) (cut b)
 have h1 : (cut a).length ≤ 1000 := by unfold cut; rw [List.length_take]; omega
 have h2 : (cut b).length ≤ 1000 := by unfold cut; rw [List.length_take]; omega
 omega
set_option maxRecDepth 100000 in
set_option maxHeartbeats 4000000 in
theorem Least_any (v0 : Value) (L : List Pr) (hr : L.length ≤ 1000) (w : World) (h0 : PrsIn w.heap.size w v0 L) :
    Calls Tryd.prog 19 #[v0] w fun e w' => e = .returned (.int .i64 (leaA (allP L) (allP L).length)) ∧ Below w.heap.size w w' := by
  have hAl := All_any v0 L hr w h0
  obtain ⟨A, c, rfl⟩ := h0.len
  have hl2 : (allP L).length ≤ 2000 := by rw [allP_len]; omega
  generalize allP L = all at *
  clear h0
  go_enter Tryd.func19, Tryd.ntmps19
  go_wp2_with fail
  go_at_call 14
  refine hAl.mono ?_
  rintro e w1 ⟨u, rfl, hown, hB⟩
  obtain ⟨A2, c2, rfl, hc, hcs⟩ := Sl.of_own hown
  have HC := Lib.hid hcs
  have HL := Lib.hid hl2
  have HCC := Lib.hid hc
  clear hAl hown hcs hc
  go_wp2_with fail
  go_loopw [3, 14] (fun t i wr => ∃ k : Nat, k ≤ all.length ∧ i = .int .i64 k ∧ t = .int .i64 (leaA all k) ∧ Below w1.heap.size w1 wr) (fun _ i _ => all.length - (RowKit.intOf i).toNat)
  case atStart => exact ⟨0, Nat.zero_le _, rfl, rfl, Below.refl _ _⟩
  case round =>
   obtain ⟨i, hi, rfl, rfl, hB2⟩ := hrel
   by_cases hlt : i < all.length
   · obtain ⟨b, off, rfl, hb, hcell⟩ := HC.out (by omega)
     have hcx := (hB2.cell (p := ⟨b, off + i, none⟩) hb).trans (hcell i all[i] (List.getElem?_eq_getElem hlt))
     have hil : (i : Int) < (all.length : Int) := by omega
     have hi9 : i ≤ 2000 := by have := HL.out; omega
     have hic : i ≤ c2 := by have := HCC.out; omega
     have HCL := Lib.hid hcell
     obtain ⟨xi, hxi⟩ : ∃ x, all[i] = x := ⟨_, rfl⟩
     rw [hxi] at hcx
     have HXI := Lib.hid (show all[i]? = some xi from by rw [List.getElem?_eq_getElem hlt, hxi])
     have Hi := Lib.hid hlt
     clear hxi
     have HSX := Lib.hid (show leaA all (i + 1) = leaR all i (leaA all i) i from rfl)
     clear hlt hi hcell
     have hz1 : ¬ i < 0 := by omega
     go_wp2_with fail
     go_loopw [3, 23] (fun t j wx => ∃ k : Nat, k ≤ i ∧ j = .int .i64 k ∧ t = .int .i64 (leaR all i (leaA all i) k) ∧ Below w1.heap.size w1 wx) (fun _ j _ => i - (RowKit.intOf j).toNat)
     case atStart => exact ⟨0, Nat.zero_le _, rfl, rfl, hB2⟩
     case round =>
      obtain ⟨k, hk, rfl, rfl, hB3⟩ := hrel
      by_cases hlt2 : k < i
      · have hka : k < all.length := Nat.lt_trans hlt2 Hi.out
        have hcy := (hB3.cell (p := ⟨b, off + k, none⟩) hb).trans (HCL.out k all[k] (List.getElem?_eq_getElem hka))
        have hd := pdistance_any xi all[k] wr
        have hki : (k : Int) < (i : Int) := by omega
        have HR := Lib.hid (leaR_succ all i k (leaA all i) xi HXI.out hka)
        have Hk := Lib.hid hlt2
        generalize leaR all i (leaA all i) k = acc at *
        generalize all[k] = y at *
        generalize dC xi y = d at *
        clear hlt2 hka hk hcx
        by_cases ha : acc < 0
        · have da : decide (acc < 0) = true := decide_eq_true ha
          have HM := Lib.hid (show minD acc d = d from by unfold minD; rw [da]; rfl)
          clear ha
          go_wp2_with fail
          go_at_call 37
          refine hd.mono ?_
          rintro e w4 ⟨rfl, hB4⟩
          clear hd
          go_wp2_with fail
          go_roundw
          case rel => exact ⟨k + 1, Hk.out, by go_num, by rw [HR.out, HM.out], hB3.trans (hB4.mono hB3.size)⟩
          case measure => have := Hk.out; simp [RowKit.intOf]; omega
        · have da : decide (acc < 0) = false := decide_eq_false ha
          by_cases hda : (d : Int) < acc
          · have db : decide ((d : Int) < acc) = true := decide_eq_true hda
            have HM := Lib.hid (show minD acc d = d from by unfold minD; rw [da, db]; rfl)
            clear ha hda
            go_wp2_with fail
            go_at_call 37
            refine hd.mono ?_
            rintro e w4 ⟨rfl, hB4⟩
            clear hd
            go_wp2_with fail
            go_roundw
            case rel => exact ⟨k + 1, Hk.out, by go_num, by rw [HR.out, HM.out], hB3.trans (hB4.mono hB3.size)⟩
            case measure => have := Hk.out; simp [RowKit.intOf]; omega
          · have db : decide ((d : Int) < acc) = false := decide_eq_false hda
            have HM := Lib.hid (show minD acc d = acc from by unfold minD; rw [da, db]; rfl)
            clear ha hda
            go_wp2_with fail
            go_at_call 37
            refine hd.mono ?_
            rintro e w4 ⟨rfl, hB4⟩
            clear hd
            go_wp2_with fail
            go_roundw
            case rel => exact ⟨k + 1, Hk.out, by go_num, by rw [HR.out, HM.out], hB3.trans (hB4.mono hB3.size)⟩
            case measure => have := Hk.out; simp [RowKit.intOf]; omega
      · obtain rfl : k = i := by omega
        have h3 : ¬ (k : Int) < (k : Int) := by omega
        clear hlt2 hk hcx
        go_wp2_with fail
        go_roundw
        case rel => exact ⟨k + 1, Hi.out, by go_num, by rw [HSX.out], hB3⟩
        case measure => have := Hi.out; simp [RowKit.intOf]; omega
   · obtain rfl : i = all.length := by omega
     have h3 : ¬ (all.length : Int) < (all.length : Int) := by omega
     clear hlt hi
     go_wp2_with fail
     go_ret
     exact ⟨rfl, below_trans hB hB2⟩
end Go.Proofs.YtcngnjkpnmpcpaaDoor
