import Derived.Test.YtcngnjkpnmpcpaaDoorPaJZ
namespace Go.Proofs.YtcngnjkpnmpcpaaDoor
open Go.RowKit Go.Shelf
attribute [local go_sem] Oper.semAt_some run_store_func
theorem seqX_of {α : Type} {F : Fence} {P : Program} {gf : Nat} {lb : Array Value} {encs : α → Array Value} {Kp : World → World → Prop} {xs : List α} {fin : Option (List PanicEntry)} {w0 : World} (h : SeqI F P gf lb encs Kp xs fin w0) : SeqX F P gf lb encs Kp xs fin w0 := h
set_option maxRecDepth 100000 in
set_option maxHeartbeats 4000000 in
theorem library_any (many s : Nat) (hm : many ≤ 100) (hs : s < 18446744073709551616) (w : World) (hT : Tab w) :
    Calls Tryd.prog 30 #[.int .i64 many, .int .u64 s] w fun e w' => Below w.heap.size w w' ∧ (((libG many s).length = many ∧ ∃ u, e = .returned u ∧ w'.ownsRow w.heap.size 9 1 u (libG many s).length ((libG many s).map sV)) ∨ ((libG many s).length ≠ many ∧ e = .panicked (errno 200))) := by
  refine (callsIn_wide (n := 5)).1 ?_
  refine callsIn_of_wp_marks Tryd.func30 rfl trivial ?_ rfl
  simp only [Tryd.ntmps30, List.size_toArray, List.length_cons, List.length_nil, Nat.reduceAdd, Nat.reduceSub, Array.replicate_succ, Array.replicate_zero, List.push_toArray, List.append_toArray, List.nil_append, List.cons_append]
  have hmf : ∀ (fn : Fn) (first cap : Array Value) (w : World), (Instr.makeFunc fn first cap).run Tryd.prog w = .ok (.func fn first cap) w := fun _ _ _ _ => rfl
  obtain ⟨W0, hW0⟩ : ∃ W0, (w.alloc (.cells #[.int .i64 many] 3)).alloc (.cells #[.slice none 0 0] 31) = W0 := ⟨_, rfl⟩
  have hA2 : Below w.heap.size w W0 := by rw [← hW0]; exact (below_alloc w _).alloc (by simp) _
  have hs0 : W0.heap.size = w.heap.size + 2 := by rw [← hW0]; simp
  have hb1 : Boxed W0 w.heap.size 3 (.int .i64 many) := by rw [← hW0]; exact (Boxed.new w 3 (.int .i64 many)).alloc _
  have hb2 : Boxed W0 (w.heap.size + 1) 31 (.slice none 0 0) := by
   rw [← hW0]
   have := Boxed.new (w.alloc (.cells #[.int .i64 many] 3)) 31 (.slice none 0 0)
   simpa only [World.size_alloc] using this
  have hE := tried_any s W0
  have hfE : Fence.wide.fn 50 := trivial
  have HW0 := Lib.hid hW0
  clear hW0
  gi_wp2_with fail
  rw [HW0.out]
  gi_at_call 50
  refine (callsIn_wide.2 hE).mono ?_
  rintro e w0' ⟨rfl, rfl⟩
  have hb3 := Boxed.new W0 23 (.int .u64 s)
  have hb1 := hb1.alloc (.cells #[.int .u64 s] 23)
  have hb2 := hb2.alloc (.cells #[.int .u64 s] 23)
  have hA2 := hA2.alloc hA2.size (.cells #[.int .u64 s] 23)
  have hsz := World.size_alloc W0 (.cells #[.int .u64 s] 23)
  rw [hs0] at hb3 hsz
  rw [hs0]
  generalize W0.alloc (.cells #[.int .u64 s] 23) = w0 at *
  have HTK := Lib.hid (fun (W : World) (hk : Keep (w.heap.size + 3) (w.heap.size + 1) w0 W) => show Tab W from by
   have h9 : Below w.heap.size w0 W := ⟨hk.1.1, hk.1.2.1, hk.1.2.2.1, hk.1.2.2.2, fun k hk2 => hk.2 k (by omega) (by omega)⟩
   exact hT.below (hA2.trans h9))
  have hseq := seqX_of (tried_seq (w.heap.size + 2) (w.heap.size + 3) (w.heap.size + 1) s hs w0 (by omega) (by omega) hb3.cell (fun W h => HTK.out W h.1))
  have HB1 := Lib.hid hb1
  clear hE hfE hb3 hb1 HW0 hT
  obtain ⟨T, hTT⟩ : ∃ T : List UInt8 → Nat → Act, T = fun x bt => { tmps := #[.int .i64 many, .int .u64 s, .pointer (some ⟨w.heap.size, 0, none⟩), undef, .slice none 0 0, .pointer (some ⟨w.heap.size + 1, 0, none⟩), .pointer (some ⟨bt, 0, none⟩), .int .u64 s, .func (.func 60) #[] #[.pointer (some ⟨w.heap.size + 2, 0, none⟩)], sV x, undef, undef, undef, undef, undef, undef, undef, undef, undef, undef, undef, undef], defers := [] } := ⟨_, rfl⟩
  have HTT := Lib.hid hTT
  have HLB := Lib.hid (show libG many s = (triL s 20000).foldl (libS many) [] from rfl)
  clear hTT
  gi_wp2_with fail
  refine wpIn_range_XJ (gf := 60) (lb := #[.pointer (some ⟨w.heap.size + 2, 0, none⟩)]) rfl rfl trivial rfl (enters_of Tryd.func60 (by kernel_rfl) rfl) hseq (fun _ _ _ => kt_t) (fun W l o o' h1 h2 h3 => ⟨keep_put (by omega) W l o o' h1 h2 h3, fun k cs fr hk => (World.putObj_heap_other (fun e => by subst e; rw [h2] at hk; cases hk; cases h3)).trans hk⟩) (Below.refl _ _) (fun _ => rfl)
   (fun (pre : List (List UInt8)) W => ∃ v, Boxed W (w.heap.size + 1) 31 v ∧ W.ownsRow (w.heap.size + 3) 9 1 v (pre.foldl (libS many) []).length ((pre.foldl (libS many) []).map sV) ∧ Keep (w.heap.size + 3) (w.heap.size + 1) w0 W)
   (fun c W => c = .exit 0 ∧ (libG many s).length = many ∧ ∃ v, Boxed W (w.heap.size + 1) 31 v ∧ W.ownsRow (w.heap.size + 3) 9 1 v (libG many s).length ((libG many s).map sV) ∧ Keep (w.heap.size + 3) (w.heap.size + 1) w0 W)
   ?own ⟨_, hb2, World.ownsRow_nil _ _ _ _, keep_r _ _ _⟩ ?isp (fun (x : List UInt8) a' W => ∃ bt, a' = T x bt ∧ Boxed W bt 9 (sV x))
   ?has (fun X Y hX h => kt_below h (by omega)) ?assign1 ?body1 ?done1 ?stop1 ?pan1
  case own =>
   rintro s X Y row ⟨v, h1, h2, h4⟩ hgr hrow
   have hne : ∀ k, k < w0.heap.size → some k ≠ row := fun k hk e => by have := (hrow k e.symm).1; omega
   refine ⟨v, h1.kept hgr (hne _ (by omega)), own_keepT h2 (fun k cs hk ho _ => (hgr.block k (Array.getElem?_eq_some_iff.1 ho).1 (fun e => ?_)).trans ho), keep_t h4 ⟨⟨hgr.os, hgr.tape, hgr.output, hgr.size⟩, fun k hk _ => hgr.block k (by have := keep_size h4; omega) (hne k (by omega))⟩⟩
   obtain ⟨-, o, ho2, hc2⟩ := hrow k e.symm
   rw [ho2] at ho
   cases ho
   cases hc2
  case isp =>
   rintro c D W o o' hD ho hc ⟨rfl, hl, v, h1, h2, h4⟩
   refine ⟨rfl, hl, v, (World.putObj_heap_other (by omega)).trans h1, own_keepT h2 (fun k cs hk hk2 _ => (World.putObj_heap_other (fun e => by subst e; rw [ho] at hk2; cases hk2; cases hc)).trans hk2), keep_t h4 (keep_put (B := w.heap.size + 3) (g := w.heap.size + 1) (w := w0) (by omega) W D _ o' hD ho hc)⟩
  case has =>
   rintro x a' W l o o' ⟨bt, e1, e2⟩ hl ho
   have e2' : W.heap[bt]? = _ := e2
   exact ⟨bt, e1, (World.putObj_heap_other (fun e => by subst e; rw [hl] at e2'; cases e2'; cases ho)).trans e2⟩
  case assign1 =>
   intro l x W K hK
   have hK2 := hK _ _ ⟨W.heap.size, rfl, Boxed.new W 9 (sV x)⟩ (below_alloc W _)
   rw [HTT.out] at hK2
   clear hK
   gi_wp2_with fail
   exact hK2
  case pan1 => rintro ch D W hf; cases hf
  case body1 =>
   rintro l pre x a' W ⟨v, h1, h2, h4⟩ ⟨bt, rfl, hbt⟩ hpre
   rw [HTT.out]
   have hszW := keep_size h4
   have hmb : Boxed W w.heap.size 3 (.int .i64 many) := (h4.2 w.heap.size (by omega) (by omega)).trans HB1.out
   have hcm := hmb.cell
   have hct := h1.cell
   have hle := fold_len (many := many) pre [] (Nat.zero_le _)
   have HPR := Lib.hid (fun (h : (pre.foldl (libS many) []).length = many) => lib_pre (List.IsPrefix.trans ⟨[x], rfl⟩ hpre) h)
   have HSN := Lib.hid (show (pre ++ [x]).foldl (libS many) [] = libS many (pre.foldl (libS many) []) x from by rw [List.foldl_append]; rfl)
   obtain ⟨A, c, rfl⟩ := (Sl.of_own h2).len
   have H4 := Lib.hid h4
   generalize htn : pre.foldl (libS many) [] = tk at *
   clear hseq hpre h4 htn
   by_cases hlm : tk.length = many
   · have dl : ((tk.length : Int) == (many : Int)) = true := by rw [hlm]; simp
     have HL := Lib.hid hlm
     have HPR2 := Lib.hid (HPR.out hlm)
     clear hlm
     gi_wp2_with fail
     have hlb : libG many s = tk := by rw [HLB.out, HPR2.out]
     exact ⟨KeepsFrom.refl _ _, rfl, by rw [hlb]; exact HL.out, _, h1, by rw [hlb]; exact h2, H4.out⟩
   · have dl : ((tk.length : Int) == (many : Int)) = false := by rw [beq_eq_false_iff_ne]; omega
     have HLS := Lib.hid (show libS many tk x = if takeB tk x = true then tk ++ [x] else tk from by unfold libS; rw [if_neg hlm])
     have hA9 := below_alloc W (.cells #[.int .i64 0] 26)
     have hbe := Boxed.new W 26 (.int .i64 0)
     have hse := World.size_alloc W (.cells #[.int .i64 0] 26)
     have h1e := h1.alloc (.cells #[.int .i64 0] 26)
     have hbte := hbt.alloc (.cells #[.int .i64 0] 26)
     have h2e := h2.alloc (.cells #[.int .i64 0] 26)
     have hKe : KT (w.heap.size + 3) (w.heap.size + 1) W (W.alloc (.cells #[.int .i64 0] 26)) := kt_below hA9 (by omega)
     have hTe := HTK.out _ (keep_t H4.out hKe.1)
     have hbtl := hbt.lt
     have hFe : KeepsFrom w0.heap.size W (W.alloc (.cells #[.int .i64 0] 26)) := keepsFrom_below hA9
     generalize hWe : W.alloc (.cells #[.int .i64 0] 26) = We at *
     have hlib := lib1_any (w.heap.size + 1) bt (w.heap.size + 3) _ tk x We w0.heap.size h1e h2e hbte (by omega) (by omega) (by omega) hTe
     have hcgt := caughtR_any 51 #[.pointer (some ⟨w.heap.size + 1, 0, none⟩), .pointer (some ⟨bt, 0, none⟩)] W (enters_of Tryd.func51 (by kernel_rfl) rfl)
      (fun w' => takeB tk x = true ∧ (∃ u, Boxed w' (w.heap.size + 1) 31 u ∧ w'.ownsRow (w.heap.size + 3) 9 1 u (tk.length + 1) ((tk ++ [x]).map sV)) ∧ KT (w.heap.size + 3) (w.heap.size + 1) We w' ∧ KeepsFrom w0.heap.size We w')
      (fun n w' => takeB tk x = false ∧ Below We.heap.size We w') (by
       rw [hWe]
       refine hlib.mono ?_
       rintro e w' (⟨htk, hu, hrow, hk, hf, hbo⟩ | ⟨htk, rfl, hB⟩)
       · exact ⟨hbo _ _ _ hbe (by decide) (by omega), .inl ⟨hu, htk, hrow, hk, hf⟩⟩
       · exact ⟨(hB.block _ hbe.lt).trans hbe, .inr ⟨200, rfl, htk, hB⟩⟩)
     have HBE := Lib.hid hbe
     have HA9 := Lib.hid hA9
     have H2 := Lib.hid h2
     have H1 := Lib.hid h1
     clear hlm hlib hA9 hbe h2 h2e hbt hbte hmb hTe hWe
     have h1' := h1
     gi_wp2_with fail
     refine ⟨trivial, ?_⟩
     gi_at_call 27
     refine (CallsIn.inRound l (callsIn_wide.2 hcgt)).mono ?_
     rintro e w' ⟨w1, n, hbn, rfl, rfl, hR⟩
     have hset : ∀ k, k ≠ W.heap.size → (w1.setCell ⟨W.heap.size, 0, none⟩ (.int .i64 n)).heap[k]? = w1.heap[k]? := fun k hk => Below.heap_setCell w1 ⟨W.heap.size, 0, none⟩ _ k hk
     have hks : KT (w.heap.size + 3) (w.heap.size + 1) w1 (w1.setCell ⟨W.heap.size, 0, none⟩ (.int .i64 n)) := by
      refine ⟨⟨⟨rfl, rfl, rfl, by simp [World.setCell]⟩, fun k hk _ => hset k (by omega)⟩, fun k cs fr hk => (hset k fun e => ?_).trans hk⟩
      subst e
      have hbn' : w1.heap[W.heap.size]? = _ := hbn
      rw [hk] at hbn'
      cases hbn'
     have hfs : KeepsFrom w0.heap.size w1 (w1.setCell ⟨W.heap.size, 0, none⟩ (.int .i64 n)) := (KeepsOthers.setCell w1 _ _).from _
     clear hcgt
     rcases hR with ⟨rfl, htk, ⟨u, hbu, hou⟩, hk, hf⟩ | ⟨htk, hB⟩
     · have hls : libS many tk x = tk ++ [x] := by rw [HLS.out, if_pos htk]
       have HFIN := Lib.hid (show KeepsFrom w0.heap.size W (w1.setCell ⟨W.heap.size, 0, none⟩ (.int .i64 0)) ∧ KT (w.heap.size + 3) (w.heap.size + 1) W (w1.setCell ⟨W.heap.size, 0, none⟩ (.int .i64 0)) from ⟨hFe.trans (hf.trans hfs), kt_t hKe (kt_t hk hks)⟩)
       have hou2 : (w1.setCell ⟨W.heap.size, 0, none⟩ (.int .i64 0)).ownsRow (w.heap.size + 3) 9 1 u (tk.length + 1) ((tk ++ [x]).map sV) := own_keepT hou fun k cs hk2 ho _ => (hset k fun e => by
        subst e
        have hbn' : w1.heap[W.heap.size]? = _ := hbn
        rw [ho] at hbn'
        cases hbn').trans ho
       have hbu2 : Boxed (w1.setCell ⟨W.heap.size, 0, none⟩ (.int .i64 0)) (w.heap.size + 1) 31 u := (hset _ (by omega)).trans hbu
       clear hks hfs hk hf hset
       gi_wp2_with fail
       refine ⟨HFIN.out.1, HFIN.out.2, u, hbu2, ?_, keep_t H4.out HFIN.out.2.1⟩
       rw [HSN.out, hls, List.length_append]
       exact hou2
     · have hls : libS many tk x = tk := by rw [HLS.out, if_neg (by rw [htk]; simp)]
       have hB2 : Below W.heap.size W (w1.setCell ⟨W.heap.size, 0, none⟩ (.int .i64 n)) := by
        exact (HA9.out.trans (hB.mono (by omega))).setCell (p := ⟨W.heap.size, 0, none⟩) (Nat.le_refl _) _
       have HFIN := Lib.hid (show KeepsFrom w0.heap.size W (w1.setCell ⟨W.heap.size, 0, none⟩ (.int .i64 n)) ∧ KT (w.heap.size + 3) (w.heap.size + 1) W (w1.setCell ⟨W.heap.size, 0, none⟩ (.int .i64 n)) from ⟨keepsFrom_below hB2, kt_below hB2 (by omega)⟩)
       have HB2 := Lib.hid hB2
       clear hks hfs hset hB2
       gi_wp2_with fail
       refine ⟨HFIN.out.1, HFIN.out.2, _, (HB2.out.block _ H1.out.lt).trans H1.out, ?_, keep_t H4.out HFIN.out.2.1⟩
       rw [HSN.out, hls]
       exact own_below H2.out HB2.out
  case done1 =>
   rintro - D W hD ⟨v, h1, h2, h4⟩ hk
   rw [← HLB.out] at h2
   have hszW := keep_size h4
   have hmb : Boxed W w.heap.size 3 (.int .i64 many) := (h4.2 w.heap.size (by omega) (by omega)).trans HB1.out
   have hcm := hmb.cell
   have hct := h1.cell
   obtain ⟨A, c, rfl⟩ := (Sl.of_own h2).len
   have hkp := keep_t h4 (keep_put (B := w.heap.size + 3) (g := w.heap.size + 1) (w := w0) (by omega) W D _ (.deferred none) hD hk rfl)
   have HBD := Lib.hid (show Below w.heap.size w (W.putObj D (.deferred none)) from hA2.trans ⟨hkp.1.1, hkp.1.2.1, hkp.1.2.2.1, hkp.1.2.2.2, fun k hk => hkp.2 k (by omega) (by omega)⟩)
   have HOW := Lib.hid (show (W.putObj D (.deferred none)).ownsRow w.heap.size 9 1 (.slice A (libG many s).length c) (libG many s).length ((libG many s).map sV) from own_baseV (own_keepT h2 (fun k cs hk2 ho _ => (World.putObj_heap_other (fun e => by subst e; rw [ho] at hk; cases hk)).trans ho)) (by omega))
   have hfM : Fence.wide.fn 29 := trivial
   clear hkp h4 h1 h2 hmb hseq
   generalize hGG : libG many s = G at *
   have HGG := Lib.hid hGG
   clear hGG
   by_cases hl : G.length = many
   · have dl : ((G.length : Int) == (many : Int)) = true := by rw [hl]; simp
     have HL := Lib.hid hl
     clear hl
     gi_wp2_with fail
     gi_at_call 29
     refine (callsIn_wide.2 (pmust_yes _ _)).mono ?_
     rintro e w1 ⟨rfl, rfl⟩
     gi_wp2_with fail
     refine ⟨by simp, .inl ⟨_, _, rfl, run_takeDeferred hk, ?_⟩⟩
     exact ⟨_, results_tmp rfl _ _ _, HBD.out, .inl ⟨by rw [HGG.out]; exact HL.out, _, rfl, by rw [HGG.out]; exact HOW.out⟩⟩
   · have dl : ((G.length : Int) == (many : Int)) = false := by rw [beq_eq_false_iff_ne]; omega
     have HL := Lib.hid hl
     clear hl
     gi_wp2_with fail
     gi_at_call 29
     refine (callsIn_wide.2 (pmust_no _ _)).mono ?_
     rintro e w1 ⟨rfl, rfl⟩
     gi_wp2_with fail
     refine ⟨by simp, .inl ⟨_, _, rfl, run_takeDeferred hk, ?_⟩⟩
     exact ⟨HBD.out, .inr ⟨by rw [HGG.out]; exact HL.out, rfl⟩⟩
  case stop1 =>
   rintro c D W hD ⟨rfl, hl, v, h1, h2, h4⟩ hk
   have hszW := keep_size h4
   have hmb : Boxed W w.heap.size 3 (.int .i64 many) := (h4.2 w.heap.size (by omega) (by omega)).trans HB1.out
   have hcm := hmb.cell
   have hct := h1.cell
   obtain ⟨A, c, rfl⟩ := (Sl.of_own h2).len
   have hkp := keep_t h4 (keep_put (B := w.heap.size + 3) (g := w.heap.size + 1) (w := w0) (by omega) W D _ (.deferred none) hD hk rfl)
   have HBD := Lib.hid (show Below w.heap.size w (W.putObj D (.deferred none)) from hA2.trans ⟨hkp.1.1, hkp.1.2.1, hkp.1.2.2.1, hkp.1.2.2.2, fun k hk => hkp.2 k (by omega) (by omega)⟩)
   have HOW := Lib.hid (show (W.putObj D (.deferred none)).ownsRow w.heap.size 9 1 (.slice A (libG many s).length c) (libG many s).length ((libG many s).map sV) from own_baseV (own_keepT h2 (fun k cs hk2 ho _ => (World.putObj_heap_other (fun e => by subst e; rw [ho] at hk; cases hk)).trans ho)) (by omega))
   have hfM : Fence.wide.fn 29 := trivial
   clear hkp h4 h1 h2 hmb hseq
   generalize hGG : libG many s = G at *
   have HGG := Lib.hid hGG
   clear hGG
   have dl : ((G.length : Int) == (many : Int)) = true := by rw [hl]; simp
   have HL := Lib.hid hl
   clear hl
   gi_wp2_with fail
   gi_at_call 29
   refine (callsIn_wide.2 (pmust_yes _ _)).mono ?_
   rintro e w1 ⟨rfl, rfl⟩
   gi_wp2_with fail
   refine ⟨by simp, .inl ⟨_, _, rfl, run_takeDeferred hk, ?_⟩⟩
   exact ⟨_, results_tmp rfl _ _ _, HBD.out, .inl ⟨by rw [HGG.out]; exact HL.out, _, rfl, by rw [HGG.out]; exact HOW.out⟩⟩
end Go.Proofs.YtcngnjkpnmpcpaaDoor
