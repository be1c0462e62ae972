/- The iterator of consensus.lengths. (Seat s27.) -/
import Derived.Test.YtfkjheilcbppcaaCoH
import Derived.Maps.OwnIn
namespace Go.Proofs.Ytfkjheilcbppcaa
open Go.RowKit Go.Maps
attribute [local go_sem] Oper.semAt_some run_store_func

/-- The lengths and how many rows have each. -/
def lenL (L : List (List UInt8)) : List (Nat × Nat) := (keysL L).map fun n => (n, cntL L n)
theorem lenL_pre (L : List (List UInt8)) (j : Nat) (h : j < (keysL L).length) : (lenL L).take j ++ [((keysL L)[j], cntL L (keysL L)[j])] <+: lenL L ∧ (lenL L).take (j + 1) = (lenL L).take j ++ [((keysL L)[j], cntL L (keysL L)[j])] := by
  have hl : j < (lenL L).length := by simpa [lenL] using h
  have e : (lenL L)[j] = ((keysL L)[j], cntL L (keysL L)[j]) := by simp [lenL]
  have := take_snoc _ _ hl
  rw [e] at this
  exact ⟨by rw [← this]; exact List.take_prefix _ _, this⟩
theorem maxL_le {L : List (List UInt8)} {m : Nat} (h : ∀ r ∈ L, r.length ≤ m) : maxL L ≤ m := by
  induction L with
  | nil => exact Nat.zero_le _
  | cons x L ih =>
    show max x.length (maxL L) ≤ m
    have h1 := h x (by simp)
    have h2 := ih fun r hr => h r (by simp [hr])
    omega
theorem keysL_le {L : List (List UInt8)} {m : Nat} (h : ∀ r ∈ L, r.length ≤ m) : (keysL L).length ≤ m + 1 := by
  have h1 : (keysL L).length ≤ _ := List.length_filter_le ..
  have h2 := maxL_le h
  rw [List.length_range] at h1
  omega
/-- A row of known numbers, in a block of its own. -/
theorem row_ints {W : World} {base : Nat} {e : TypeId} {v : Value} {K : List Nat} (h : W.ownsRow base e 1 v K.length ((K.map Int.ofNat).map encZ)) :
    ∃ A cap, v = .slice A K.length cap ∧ K.length ≤ cap ∧ (0 < K.length → ∃ g o, A = some ⟨g, 0, none⟩ ∧ base ≤ g ∧ W.heap[g]? = some o ∧ o.isCells = true ∧ ∀ (W' : World), W'.heap[g]? = some o → ∀ j (hj : j < K.length), W'.cell? ⟨g, j, none⟩ = some (.int .i64 (K[j] : Nat))) := by
  rcases h.2 with ⟨rfl, h0⟩ | ⟨g, cap, cur, rfl, hb, hg, hn, hcm, hsz, htk⟩
  · exact ⟨none, 0, by rw [h0], by omega, fun hn => absurd hn (by omega)⟩
  · refine ⟨_, cap, rfl, hn, fun _ => ⟨g, _, rfl, hb, hg, rfl, fun W' hg' j hj => ?_⟩⟩
    have h2 : cur.toList[j]? = some (.int .i64 (K[j] : Nat)) := by
      have h3 : (cur.toList.take (K.length * 1))[j]? = some (.int .i64 (K[j] : Nat)) := by rw [htk]; simp [hj]
      rwa [List.getElem?_take_of_lt (by omega)] at h3
    simp [World.cell?, hg']
    simpa using h2
set_option maxRecDepth 100000 in
set_option maxHeartbeats 4000000 in
theorem lengths_seq (B mb bx nn : Nat) (L : List (List UInt8)) (D : DataW Unit) (hnn : nn ≤ 1000) (h8 : ∀ r ∈ L, r.length ≤ 5000) (w0 : World) (hB : B + 3 ≤ w0.heap.size) (hmb : mb < B) (hbx : bx < B)
    (hbox : Boxed w0 bx 53 (.map (some mb))) (hown : w0.ownsMap Try.prog 3 (plainElem Try.prog 3) mb nn D) (hM : MapIs D L) :
    SeqI Fence.wide Try.prog 26 #[.pointer (some ⟨bx, 0, none⟩)] lenE (Kp3 B) (lenL L) none w0 := by
  intro l J JS W hW hJo hY hJ0
  have hsW := hW.size
  have hbW : Boxed W bx 53 (.map (some mb)) := (hW.block bx (by omega)).trans hbox
  have HO := Lib.hid (show ∀ W', Below B W W' → W'.ownsMap Try.prog 3 (plainElem Try.prog 3) mb nn D from fun W' hb => by
    obtain ⟨es, clock, hb0, Ft, hs, hD⟩ := hown
    exact ⟨es, clock, (hb.block mb hmb).trans ((hW.block mb (by omega)).trans hb0), Ft, hs, hD⟩)
  have HX := Lib.hid (show ∀ W', Below B W W' → W'.cell? ⟨bx, 0, none⟩ = some (.map (some mb)) from fun W' hb => (hb.cell (p := ⟨bx, 0, none⟩) hbx).trans hbW.cell)
  have HE := Lib.hid (show (lenL L).take (keysL L).length = lenL L from List.take_of_length_le (by simp [lenL]))
  have HP := Lib.hid (lenL_pre L)
  have HV := Lib.hid hM.val
  have HL := Lib.hid (And.intro (keysL_le h8) (show ∀ j (hj : j < (keysL L).length), (keysL L)[j] ≤ 5000 from fun j hj => by
    obtain ⟨r, hr, hl⟩ := (keysL_mem L _).1 (List.getElem_mem hj)
    have := h8 r hr
    omega))
  have hS := sorted_any mb nn D _ W (HO.out W (Below.refl _ _)) hnn
  have hS : CallsIn Fence.wide 0 Try.prog 27 #[.func (.func 33) #[] #[.pointer (some ⟨W.heap.size, 0, none⟩)]] (W.alloc (.cells #[.map (some mb)] 53)) fun e w' =>
      ∃ A cap, e = .returned (.slice A (keysL L).length cap) ∧ (keysL L).length ≤ cap ∧ (0 < (keysL L).length → ∃ g o, A = some ⟨g, 0, none⟩ ∧ W.heap.size + 1 ≤ g ∧ w'.heap[g]? = some o ∧ o.isCells = true ∧ ∀ (W' : World), W'.heap[g]? = some o → ∀ j (hj : j < (keysL L).length), W'.cell? ⟨g, j, none⟩ = some (.int .i64 ((keysL L)[j] : Nat))) ∧ Below W.heap.size W w' :=
    (callsIn_wide (n := 0)).2 (hS.mono (by
      rintro e w' ⟨v, ss, rfl, hp, hrow, hb⟩
      obtain ⟨e1, e2⟩ := keys_are hM (HO.out W (Below.refl _ _)) hp
      rw [e1, e2] at hrow
      obtain ⟨A, cap, rfl, hc, hA⟩ := row_ints hrow
      exact ⟨A, cap, rfl, hc, hA, ((Below.refl _ W).alloc (Nat.le_refl _) _).trans (hb.mono (by simp))⟩))
  have hK := fun mb' W' => (callsIn_wide (n := 0)).2 (keys_any mb' W')
  have hx0 := hbW.cell
  have HJ := Lib.hid (show ∀ W2, Below W.heap.size W W2 → J [] W2 from fun W2 hb => hJo [] W W2 none hJ0 ⟨hb.os, hb.tape, hb.output, hb.size, fun k hk _ => hb.block k hk⟩ (fun r e => by cases e))
  have hfK : Fence.wide.fn 28 := trivial
  have hfS : Fence.wide.fn 27 := trivial
  clear hM hown hbox hnn h8
  suffices key : CallsIn Fence.wide 1 Try.prog 26 (#[.func (.yield l) #[] #[]] ++ #[.pointer (some ⟨bx, 0, none⟩)]) W (fun e W' => (∃ v, e = .returned v ∧ JS W') ∨ ((∃ v, e = .returned v) ∧ J (lenL L) W')) from
    key.mono fun e W' h => h.elim .inl fun h => .inr (.inl ⟨rfl, h⟩)
  generalize lenL L = X at *
  generalize keysL L = K at *
  generalize cntL L = f at *
  refine callsIn_of_wp Try.func26 rfl trivial ?_ rfl
  simp only [Try.ntmps26, List.size_toArray, List.length_cons, List.length_nil, Nat.reduceAdd, Nat.reduceSub, Array.replicate_succ, Array.replicate_zero, List.push_toArray, List.append_toArray, List.nil_append, List.cons_append]
  gi_wp2_with (first
    | (gi_at_call 28; refine (hK _ _).mono ?_; rintro e w' ⟨rfl, rfl⟩)
    | (gi_at_call 27; refine hS.mono ?_; rintro e W2 ⟨A, cap, rfl, hcap, hA, hB2⟩))
  have hJ2 := HJ.out W2 hB2
  clear hS hK hx0 hbW hJ0 HJ hJo
  have hsz2 := hB2.size
  gi_loopw [9] (fun i wr => ∃ j : Nat, j ≤ K.length ∧ i = .int .i64 j ∧ J (X.take j) wr ∧ Kp3 B W2 wr) (fun i _ => K.length - (RowKit.intOf i).toNat)
  case atStart => exact ⟨0, Nat.zero_le _, rfl, hJ2, kp3_r _ _⟩
  case round =>
    obtain ⟨j, hj, rfl, hJ, hK⟩ := hrel
    have hB3 : Below B W wr := (hB2.mono (by omega)).trans hK.1
    have hcb := HX.out wr hB3
    have hown := HO.out wr hB3
    by_cases hlt : j < K.length
    · obtain ⟨g, o, rfl, hg1, hg2, hg3, hg4⟩ := hA (by omega)
      have hcx := hg4 wr (hK.2 g o (by omega) hg2 hg3) j hlt
      obtain ⟨q1, q2⟩ := HP.out j hlt
      obtain ⟨fn, tmps, assign, body, hy, hR⟩ := hY _ _ wr hJ q1
      rw [← q2] at hR
      simp only [lenE] at hy
      have hv := HV.out K[j]
      have hk8 := HL.out.2 j hlt
      have hk9 := HL.out.1
      have hjl : (j : Int) < K.length := by omega
      generalize K[j] = m at *
      have hkey : keyOf Try.prog 3 (.int .i64 (m : Nat)) = some (.int .i64 (m : Nat)) := keyOf_int_mk Try.underlying3 (wfI _ (by omega) (by omega))
      have Hv := Lib.hid hv
      clear hA hY hg4 q1 q2 hv
      gi_wp2_with (gi_at_lookup; refine wpListIn_lookup_own_int _ rfl _ _ 53 rfl 3 3 .i64 keyedInt Try.underlying53 Try.underlying3 (zeroInt _) mb nn D rfl hown _ _ rfl hkey ?_; intro c9 hat9 hwc9; rw [Hv.out] at hat9; injection hat9 with hat9; injection hat9 with _ hat9; subst hat9)
      refine roundIn_room rfl (hR.mono ?_)
      rintro e W3 (⟨rfl, hJ3, hK3, -⟩ | ⟨rfl, hS3⟩)
      · gi_wp2_with fail
        refine ⟨⟨j + 1, by omega, by go_num, hJ3, kp3_t _ _ _ hK hK3⟩, ?_⟩
        simp [RowKit.intOf]
        omega
      · gi_wp2_with fail
        refine bodyPost_ret (results_none rfl _ _ _) rfl ?_
        exact .inl ⟨_, rfl, hS3⟩
    · obtain rfl : j = K.length := by omega
      rw [HE.out] at hJ
      clear hY hA
      gi_wp2_with fail
      go_end0
      exact .inr ⟨⟨_, rfl⟩, hJ⟩
end Go.Proofs.Ytfkjheilcbppcaa
