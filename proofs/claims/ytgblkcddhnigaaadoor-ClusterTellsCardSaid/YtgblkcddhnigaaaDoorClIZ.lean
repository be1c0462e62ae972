import Derived.RangeFuncNested
import Derived.Test.YtgblkcddhnigaaaDoorClAZ
import Derived.Test.YtgblkcddhnigaaaDoorRIZ
import Derived.Test.YtgblkcddhnigaaaDoorRQZ
namespace Go.Proofs.YtgblkcddhnigaaaDoor
open Go.RowKit Go.Shelf
attribute [local go_sem] Oper.semAt_some run_store_func
def bsL (rows : List RowC) : List (List UInt8) := rows.map (·.bs)
def clR (rows : List RowC) : List RowC := rows.filter fun p => cleanB p.bs
theorem clR_succ (rows : List RowC) (k : Nat) (h : k < rows.length) : clR (rows.take (k + 1)) = clR (rows.take k) ++ if cleanB rows[k].bs = true then [rows[k]] else [] := by
 unfold clR
 rw [List.take_succ_eq_append_getElem h, List.filter_append]
 by_cases e : cleanB rows[k].bs = true
 · simp [e]
 · simp [e]
theorem clR_pre (rows : List RowC) (k : Nat) (h : k < rows.length) (e : cleanB rows[k].bs = true) : clR (rows.take k) ++ [rows[k]] <+: clR rows := by
 have h1 := clR_succ rows k h
 rw [if_pos e] at h1
 rw [← h1]
 refine ⟨clR (rows.drop (k + 1)), ?_⟩
 unfold clR
 rw [← List.filter_append, List.take_append_drop]
theorem Clean0_any (A : Option Addr) (m c : Nat) (w : World) :
    Calls Tryd.prog 28 #[.slice A m c] w fun e w' => e = .returned (.func (.func 38) #[] #[.pointer (some ⟨w.heap.size, 0, none⟩)]) ∧ Boxed w' w.heap.size 22 (.slice A m c) ∧ Below w.heap.size w w' := by
  have hmf : ∀ (fn : Fn) (first cap : Array Value) (w : World), (Instr.makeFunc fn first cap).run Tryd.prog w = .ok (.func fn first cap) w := fun _ _ _ _ => rfl
  go_enter Tryd.func28, Tryd.ntmps28
  go_wp2_with fail
  go_ret
  exact ⟨rfl, Boxed.new w _ _, (Below.refl _ w).alloc (Nat.le_refl _) _⟩
set_option maxRecDepth 100000 in
set_option maxHeartbeats 4000000 in
theorem clean_seq (B g br : Nat) (rows : List RowC) (hr : rows.length ≤ 100000) (hl8 : ∀ p ∈ rows, p.bs.length ≤ 100000) (v : Value) (w0 : World)
    (hR : ∀ W, Keep B g w0 W → RowsIn W v rows) (hT : ∀ W, Keep B g w0 W → Tab W) (hb : ∀ W, Keep B g w0 W → W.cell? ⟨br, 0, none⟩ = some v) (hB : B ≤ w0.heap.size) :
    SeqI Fence.wide Tryd.prog 38 #[.pointer (some ⟨br, 0, none⟩)] (fun x : RowC => #[eC x]) (Keep B g) (clR rows) none w0 := by
 intro l J JS W hW hJo hY hJ0
 have hsW := hW.size
 have hKW : Keep B g w0 W := keep_of (hW.mono hB)
 have hR0 := hR W hKW
 obtain ⟨A, c, rfl, hA⟩ := hR0.some
 have HR := Lib.hid hR
 have HT := Lib.hid hT
 have HS := Lib.hid (clR_succ rows)
 have HP := Lib.hid (clR_pre rows)
 have H8 := Lib.hid (show ∀ k (hk : k < rows.length), rows[k].bs.length ≤ 100000 from fun k hk => hl8 _ (List.getElem_mem hk))
 have HE := Lib.hid (show clR (rows.take rows.length) = clR rows from by rw [List.take_length])
 have H0 : J (clR (rows.take 0)) W := hJ0
 have HJ := Lib.hid (show ∀ pre (X Y : World), J pre X → Below X.heap.size X Y → W.heap.size ≤ X.heap.size → J pre Y from fun pre X Y hj hb _ => hJo pre X Y none hj ⟨hb.os, hb.tape, hb.output, hb.size, fun k hk _ => hb.block k hk⟩ (fun r e => by cases e))
 have hc0 := hb W hKW
 have HN := Lib.hid hr
 clear hR hT hb hl8 hJo hJ0 hR0 hr
 suffices key : CallsIn Fence.wide 1 Tryd.prog 38 (#[.func (.yield l) #[] #[]] ++ #[.pointer (some ⟨br, 0, none⟩)]) W (fun e W' => (∃ v, e = .returned v ∧ JS W') ∨ ((∃ v, e = .returned v) ∧ J (clR rows) W')) from
   key.mono fun e W' h => h.elim .inl fun h => .inr (.inl ⟨rfl, h⟩)
 refine callsIn_of_wp Tryd.func38 rfl trivial ?_ rfl
 simp only [Tryd.ntmps38, List.size_toArray, List.length_cons, List.length_nil, Nat.reduceAdd, Nat.reduceSub, Array.replicate_succ, Array.replicate_zero, List.push_toArray, List.append_toArray, List.nil_append, List.cons_append]
 gi_wp2_with fail
 gi_loopw [7] (fun i wr => ∃ j : Nat, j ≤ rows.length ∧ i = .int .i64 j ∧ J (clR (rows.take j)) wr ∧ Keep B g w0 wr ∧ W.heap.size ≤ wr.heap.size) (fun i _ => rows.length - (RowKit.intOf i).toNat)
 case atStart => exact ⟨0, Nat.zero_le _, rfl, H0, hKW, Nat.le_refl _⟩
 case round =>
  obtain ⟨j, hj, rfl, hJ, hK, hsz⟩ := hrel
  by_cases hlt : j < rows.length
  · obtain ⟨b, off, rfl, -⟩ := hA (by omega)
    obtain ⟨hcell, hsl⟩ := (HR.out wr hK).at j hlt
    have h8 := H8.out j hlt
    have hcl := (callsIn_wide (n := 0)).2 (isClean_any _ rows[j].bs h8 wr hsl (HT.out wr hK))
    have Hst := Lib.hid (HS.out j hlt)
    have Hpr := Lib.hid (HP.out j hlt)
    have hjl : (j : Int) < (rows.length : Int) := by omega
    have hfC : Fence.wide.fn 39 := trivial
    have Hj := Lib.hid hlt
    have hj9 : j ≤ 100000 := by have := HN.out; omega
    generalize rows[j] = R at *
    clear hsl h8 hlt hA hc0
    gi_wp2_with fail
    gi_at_call 39
    refine hcl.mono ?_
    rintro e w3 ⟨rfl, hB3⟩
    have hJ4 := HJ.out _ _ _ hJ hB3 hsz
    have hK4 : Keep B g w0 w3 := keep_t hK (keep_of (hB3.mono (by have := hW.size; omega)))
    have hs4 := hB3.size
    clear hcl hcell hJ hB3
    cases hb1 : cleanB R.bs with
    | true =>
      obtain ⟨fn, tmps, assign, body, hy, hR⟩ := hY _ _ w3 hJ4 (Hpr.out hb1)
      have Hst2 := Lib.hid (show clR (rows.take (j + 1)) = clR (rows.take j) ++ [R] from by rw [Hst.out, if_pos hb1])
      rw [← Hst2.out] at hR
      clear hY hb1 Hst Hpr
      simp only [eC] at hy
      gi_wp2_with fail
      refine roundIn_room rfl (hR.mono ?_)
      rintro e W3 (⟨rfl, hJ3, hK3, hF3⟩ | ⟨rfl, hS3⟩)
      · gi_wp2_with fail
        refine ⟨⟨j + 1, Hj.out, by go_num, hJ3, keep_t hK4 hK3, ?_⟩, ?_⟩
        · have := hF3.size; omega
        · have := Hj.out; simp [RowKit.intOf]
          omega
      · gi_wp2_with fail
        refine bodyPost_ret (results_none rfl _ _ _) rfl ?_
        exact .inl ⟨_, rfl, hS3⟩
    | false =>
      have Hst2 := Lib.hid (show clR (rows.take (j + 1)) = clR (rows.take j) from by rw [Hst.out, if_neg (by rw [hb1]; decide), List.append_nil])
      clear hY hb1 Hst Hpr
      gi_wp2_with fail
      repeat (refine ⟨(fun f hf => by cases hf), ?_⟩; gi_wp2_with fail)
      refine ⟨⟨j + 1, Hj.out, by go_num, by rw [Hst2.out]; exact hJ4, hK4, by omega⟩, ?_⟩
      have := Hj.out; simp [RowKit.intOf]
      omega
  · obtain rfl : j = rows.length := by omega
    rw [HE.out] at hJ
    clear hY
    gi_wp2_with fail
    go_end0
    exact .inr ⟨⟨_, rfl⟩, hJ⟩
end Go.Proofs.YtgblkcddhnigaaaDoor
