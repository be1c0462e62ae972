/- Contracts of consensus.columns, of its iterator, and of consensus.Of. (Seat s27.) -/
import Derived.Test.YtfkjheilcbppcaaCoK
namespace Go.Proofs.Ytfkjheilcbppcaa
open Go.RowKit Go.Maps
attribute [local go_sem] Oper.semAt_some run_store_func

theorem CoColumns_any (A : Option Addr) (m c : Nat) (n : Int) (w : World) :
    Calls Try.prog 25 #[.slice A m c, .int .i64 n] w fun e w' => e = .returned (.func (.func 30) #[] #[.pointer (some ⟨w.heap.size + 1, 0, none⟩), .pointer (some ⟨w.heap.size, 0, none⟩)]) ∧
      Boxed w' w.heap.size 22 (.slice A m c) ∧ Boxed w' (w.heap.size + 1) 3 (.int .i64 n) ∧ Below w.heap.size w w' := by
  have hmf : ∀ (fn : Fn) (first cap : Array Value) (w : World), (Instr.makeFunc fn first cap).run Try.prog w = .ok (.func fn first cap) w := fun _ _ _ _ => rfl
  have hb1 := (Boxed.new w 22 (.slice A m c)).alloc (.cells #[.int .i64 n] 3)
  have hb2 := Boxed.new (w.alloc (.cells #[.slice A m c] 22)) 3 (.int .i64 n)
  rw [World.size_alloc] at hb2
  have hA : Below w.heap.size w ((w.alloc (.cells #[.slice A m c] 22)).alloc (.cells #[.int .i64 n] 3)) := ((Below.refl _ w).alloc (Nat.le_refl _) _).alloc (by simp) _
  go_enter Try.func25, Try.ntmps25
  go_wp2_with fail
  go_ret
  exact ⟨rfl, hb1, hb2, hA⟩
theorem ofG_pre (L : List (List UInt8)) (j : Nat) (h : j < (lenG L).1) : (ofG L).take j ++ [UInt8.ofNat (colG L j).1] <+: ofG L ∧ (ofG L).take (j + 1) = (ofG L).take j ++ [UInt8.ofNat (colG L j).1] := by
  have hl : j < (ofG L).length := by rw [ofG_length]; exact h
  have e : (ofG L)[j] = UInt8.ofNat (colG L j).1 := by simp [ofG]
  have := take_snoc _ _ hl
  rw [e] at this
  exact ⟨by rw [← this]; exact List.take_prefix _ _, this⟩
set_option maxRecDepth 100000 in
set_option maxHeartbeats 4000000 in
theorem columns_seq (B g bl br : Nat) (rows : List RowC) (hr : rows.length ≤ 1000) (hl8 : (lenG (bsL rows)).1 ≤ 5000) (hne : bsL rows ≠ []) (v : Value) (w0 : World)
    (hR : ∀ W, Keep B g w0 W → RowsIn W v (ofL rows (lenG (bsL rows)).1)) (hl : ∀ W, Keep B g w0 W → W.cell? ⟨bl, 0, none⟩ = some (.int .i64 (lenG (bsL rows)).1)) (hb : ∀ W, Keep B g w0 W → W.cell? ⟨br, 0, none⟩ = some v) (hB : B ≤ w0.heap.size) :
    SeqI Fence.wide Try.prog 30 #[.pointer (some ⟨bl, 0, none⟩), .pointer (some ⟨br, 0, none⟩)] (fun x : UInt8 => #[eB x]) (Keep B g) (ofG (bsL rows)) none w0 := by
  intro l J JS W hW hJo hY hJ0
  have hsW := hW.size
  have hKW : Keep B g w0 W := keep_of (hW.mono hB)
  have hM := fun k (hk : k < (lenG (bsL rows)).1) w' (h' : RowsIn w' v (ofL rows (lenG (bsL rows)).1)) => most_letters rows k hk (by omega) hr v w' h'
  have HM := Lib.hid hM
  have HR := Lib.hid hR
  have HL := Lib.hid hl
  have HB := Lib.hid hb
  have HE := Lib.hid (show (ofG (bsL rows)).take (lenG (bsL rows)).1 = ofG (bsL rows) from List.take_of_length_le (by rw [ofG_length]; exact Nat.le_refl _))
  have HP := Lib.hid (ofG_pre (bsL rows))
  have HC := Lib.hid (show ∀ k, .int .u8 (colG (bsL rows) k).1 = eB (UInt8.ofNat (colG (bsL rows) k).1) from fun k => by
    have := (colG_is (bsL rows) hne k).1
    rw [eB, UInt8.toNat_ofNat', Nat.mod_eq_of_lt this])
  have HJ := Lib.hid (show ∀ pre (X Y : World), J pre X → Below X.heap.size X Y → W.heap.size ≤ X.heap.size → J pre Y from fun pre X Y hj hb _ => hJo pre X Y none hj ⟨hb.os, hb.tape, hb.output, hb.size, fun k hk _ => hb.block k hk⟩ (fun r e => by cases e))
  have hn8 := hl8
  have hc0 := hl W hKW
  clear hM hR hl hb hne hl8 hJo
  suffices key : CallsIn Fence.wide 1 Try.prog 30 (#[.func (.yield l) #[] #[]] ++ #[.pointer (some ⟨bl, 0, none⟩), .pointer (some ⟨br, 0, none⟩)]) W (fun e W' => (∃ v, e = .returned v ∧ JS W') ∨ ((∃ v, e = .returned v) ∧ J (ofG (bsL rows)) W')) from
    key.mono fun e W' h => h.elim .inl fun h => .inr (.inl ⟨rfl, h⟩)
  generalize ofG (bsL rows) = X at *
  generalize (lenG (bsL rows)).1 = n at *
  generalize colG (bsL rows) = f at *
  refine callsIn_of_wp Try.func30 rfl trivial ?_ rfl
  simp only [Try.ntmps30, List.size_toArray, List.length_cons, List.length_nil, Nat.reduceAdd, Nat.reduceSub, Array.replicate_succ, Array.replicate_zero, List.push_toArray, List.append_toArray, List.nil_append, List.cons_append]
  gi_wp2_with fail
  gi_loopw [9] (fun i wr => ∃ j : Nat, j ≤ n ∧ i = .int .i64 j ∧ J (X.take j) wr ∧ Keep B g w0 wr ∧ W.heap.size ≤ wr.heap.size) (fun i _ => n - (RowKit.intOf i).toNat)
  case atStart => exact ⟨0, Nat.zero_le _, rfl, hJ0, hKW, Nat.le_refl _⟩
  case round =>
    obtain ⟨j, hj, rfl, hJ, hK, hsz⟩ := hrel
    by_cases hlt : j < n
    · obtain ⟨q1, q2⟩ := HP.out j hlt
      have hcb := HB.out wr hK
      have hRw := HR.out wr hK
      have hcl := (callsIn_wide (n := 0)).2 (HM.out j hlt wr hRw)
      have he := HC.out j
      have hjl : (j : Int) < (n : Int) := by omega
      have hfL : Fence.wide.fn 22 := trivial
      have hfM : Fence.wide.fn 21 := trivial
      gi_wp2_with fail
      gi_at_call 22
      refine hcl.mono ?_
      rintro e w3 ⟨rfl, hB3, hM3⟩
      have hM3 := (callsIn_wide (n := 0)).2 hM3
      gi_wp2_with fail
      gi_at_call 21
      refine hM3.mono ?_
      rintro e w4 ⟨rfl, hB4⟩
      have hB34 := below_trans hB3 hB4
      have hJ4 := HJ.out _ _ _ hJ hB34 hsz
      have hK4 : Keep B g w0 w4 := keep_t hK (keep_of (hB34.mono (by have := hW.size; omega)))
      have hs4 := hB34.size
      obtain ⟨fn, tmps, assign, body, hy, hR⟩ := hY _ _ w4 hJ4 q1
      rw [← q2] at hR
      rw [← he] at hy
      clear hM3 hcl q1 q2 hY he hJ
      generalize f j = C at *
      gi_wp2_with fail
      refine roundIn_room rfl (hR.mono ?_)
      rintro e W3 (⟨rfl, hJ3, hK3, hF3⟩ | ⟨rfl, hS3⟩)
      · gi_wp2_with fail
        refine ⟨⟨j + 1, by omega, by go_num, hJ3, keep_t hK4 hK3, ?_⟩, ?_⟩
        · have := hF3.size; omega
        · simp [RowKit.intOf]
          omega
      · gi_wp2_with fail
        refine bodyPost_ret (results_none rfl _ _ _) rfl ?_
        exact .inl ⟨_, rfl, hS3⟩
    · obtain rfl : j = n := by omega
      rw [HE.out] at hJ
      clear hY
      gi_wp2_with fail
      go_end0
      exact .inr ⟨⟨_, rfl⟩, hJ⟩
end Go.Proofs.Ytfkjheilcbppcaa
