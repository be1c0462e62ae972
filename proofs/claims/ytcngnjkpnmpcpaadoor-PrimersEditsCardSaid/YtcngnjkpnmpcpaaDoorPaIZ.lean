import Derived.Test.YtcngnjkpnmpcpaaDoorPaHZ
namespace Go.Proofs.YtcngnjkpnmpcpaaDoor
open Go.RowKit Go.Shelf
attribute [local go_sem] Oper.semAt_some run_store_func
def lcg (s : Nat) : Nat := (s * 6364136223846793005 + 1442695040888963407) % 18446744073709551616
def lcgN (s : Nat) : Nat → Nat
  | 0 => s
  | k + 1 => lcg (lcgN s k)
theorem lcgN_lt (s k : Nat) (h : s < 18446744073709551616) : lcgN s k < 18446744073709551616 := by
 cases k with
 | zero => exact h
 | succ k => exact Nat.mod_lt _ (by decide)
theorem lcgN_add (s a b : Nat) : lcgN s (a + b) = lcgN (lcgN s a) b := by
 induction b with
 | zero => rfl
 | succ b ih => show lcg (lcgN s (a + b)) = lcg _; rw [ih]
def letG (s : Nat) : UInt8 := letterOf ((s / 4611686018427387904 : Nat) : Int)
def wordG (s : Nat) : List UInt8 := (List.range 16).map fun i => letG (lcgN s (i + 1))
def triL (s m : Nat) : List (List UInt8) := (List.range m).map fun n => wordG (lcgN s (16 * n))
def wordP (σ k : Nat) : List UInt8 := ((List.range k).map fun i => letG (lcgN σ (i + 1))) ++ List.replicate (16 - k) 0
theorem wordP_len (σ k : Nat) (h : k ≤ 16) : (wordP σ k).length = 16 := by simp [wordP]; omega
theorem wordP_set (σ k : Nat) (h : k < 16) : (wordP σ k).set k (letG (lcgN σ (k + 1))) = wordP σ (k + 1) := by
 unfold wordP
 rw [List.set_append_right _ _ (by simp), List.length_map, List.length_range, Nat.sub_self]
 obtain ⟨d, hd⟩ : ∃ d, 16 - k = d + 1 := ⟨16 - k - 1, by omega⟩
 have hd2 : 16 - (k + 1) = d := by omega
 rw [hd, hd2, List.replicate_succ, List.set_cons_zero, List.range_succ, List.map_append, List.append_assoc]
 rfl
theorem wordP_end (σ : Nat) : wordP σ 16 = wordG σ := by simp [wordP, wordG]
theorem triL_succ (s m : Nat) : triL s (m + 1) = triL s m ++ [wordG (lcgN s (16 * m))] := by
 unfold triL
 rw [List.range_succ, List.map_append]
 rfl
theorem triL_pre (s m k : Nat) (h : m ≤ k) : triL s m <+: triL s k := by
 obtain ⟨d, rfl⟩ := Nat.le.dest h
 clear h
 induction d with
 | zero => exact List.prefix_refl _
 | succ d ih => exact List.IsPrefix.trans ih ⟨_, (triL_succ s (m + d)).symm⟩
theorem u64_wrap (z : Int) : IntKind.u64.wrap z = z % 18446744073709551616 := rfl
theorem lcg_walk (a : Nat) : IntKind.u64.wrap (IntKind.u64.wrap ((a : Int) * 6364136223846793005) + 1442695040888963407) = ((lcg a : Nat) : Int) := by
 rw [u64_wrap, u64_wrap, Int.emod_add_emod]
 unfold lcg
 omega
theorem shr_walk (a : Nat) (h : a < 18446744073709551616) : wrap64 ((a : Int) / 4611686018427387904) = ((a / 4611686018427387904 : Nat) : Int) := by
 rw [IntWalk.wrap64_in _ (by omega)]
 omega
set_option maxRecDepth 100000 in
theorem tried_any (s : Nat) (w : World) :
    Calls Tryd.prog 50 #[.int .u64 s] w fun e w' => e = .returned (.func (.func 60) #[] #[.pointer (some ⟨w.heap.size, 0, none⟩)]) ∧ w' = w.alloc (.cells #[.int .u64 s] 23) := by
  have hmf : ∀ (fn : Fn) (first cap : Array Value) (w : World), (Instr.makeFunc fn first cap).run Tryd.prog w = .ok (.func fn first cap) w := fun _ _ _ _ => rfl
  go_enter Tryd.func50, Tryd.ntmps50
  go_wp2_with fail
  go_ret
  exact ⟨rfl, rfl⟩
theorem infoW : (Tryd.prog.info? 81).map (fun i => (i.zero, i.size)) = some (some (.agg #[.int .u8 0, .int .u8 0, .int .u8 0, .int .u8 0, .int .u8 0, .int .u8 0, .int .u8 0, .int .u8 0, .int .u8 0, .int .u8 0, .int .u8 0, .int .u8 0, .int .u8 0, .int .u8 0, .int .u8 0, .int .u8 0]), 16) := by kernel_rfl
set_option maxRecDepth 1000000 in
set_option maxHeartbeats 4000000 in
theorem tried_seq (b1 B g : Nat) (s : Nat) (hs : s < 18446744073709551616) (w0 : World) (hB : B ≤ w0.heap.size) (h1 : b1 < w0.heap.size) (hc1 : w0.cell? ⟨b1, 0, none⟩ = some (.int .u64 s)) (HT : ∀ W, KT B g w0 W → Tab W) :
    SeqI Fence.wide Tryd.prog 60 #[.pointer (some ⟨b1, 0, none⟩)] (fun l : List UInt8 => #[sV l]) (KT B g) (triL s 20000) none w0 := by
  intro l J JS W hW hJo hY h0
  have hc1' := (hW.cell (p := ⟨b1, 0, none⟩) h1).trans hc1
  have hsW := hW.size
  have hKW0 : KT B g w0 W := kt_below hW hB
  refine callsIn_of_wp Tryd.func60 rfl trivial ?_ rfl
  simp only [Tryd.ntmps60, List.size_toArray, List.length_cons, List.length_nil, Nat.reduceAdd, Nat.reduceSub, Array.replicate_succ, Array.replicate_zero, List.push_toArray, List.append_toArray, List.nil_append, List.cons_append]
  obtain ⟨hz, hsz⟩ := zero_of_info infoW
  gi_wp2_with fail
  gi_loopw [3, 7] (fun t i wr => ∃ n : Nat, n ≤ 20000 ∧ i = .int .i64 n ∧ t = .int .u64 (lcgN s (16 * n) : Nat) ∧ J (triL s n) wr ∧ KT B g W wr) (fun _ i _ => 20000 - (intOf i).toNat)
  case atStart => exact ⟨0, Nat.zero_le _, rfl, rfl, h0, kt_r _ _ _⟩
  case round =>
   obtain ⟨n, hn, rfl, rfl, hJ, hK⟩ := hrel
   by_cases hlt : n < 20000
   · have hnl : (n : Int) < 20000 := by omega
     have hr1 : Rowed (wr.alloc (.cells #[.int .u8 0, .int .u8 0, .int .u8 0, .int .u8 0, .int .u8 0, .int .u8 0, .int .u8 0, .int .u8 0, .int .u8 0, .int .u8 0, .int .u8 0, .int .u8 0, .int .u8 0, .int .u8 0, .int .u8 0, .int .u8 0] 81)) wr.heap.size 81 ((wordP (lcgN s (16 * n)) 0).map eB).toArray := Rowed.new wr 81 _
     have hB1 := below_alloc wr (.cells #[.int .u8 0, .int .u8 0, .int .u8 0, .int .u8 0, .int .u8 0, .int .u8 0, .int .u8 0, .int .u8 0, .int .u8 0, .int .u8 0, .int .u8 0, .int .u8 0, .int .u8 0, .int .u8 0, .int .u8 0, .int .u8 0] 81)
     have hsg := lcgN_lt s (16 * n) hs
     have HTR := Lib.hid (triL_succ s n)
     have HNX := Lib.hid (show lcgN s (16 * (n + 1)) = lcgN (lcgN s (16 * n)) 16 from by rw [← lcgN_add]; rfl)
     generalize lcgN s (16 * n) = σ at *
     gi_wp2_with fail
     generalize wr.alloc (.cells #[.int .u8 0, .int .u8 0, .int .u8 0, .int .u8 0, .int .u8 0, .int .u8 0, .int .u8 0, .int .u8 0, .int .u8 0, .int .u8 0, .int .u8 0, .int .u8 0, .int .u8 0, .int .u8 0, .int .u8 0, .int .u8 0] 81) = wb at *
     obtain ⟨wo, hwo⟩ : ∃ W, W = wr := ⟨_, rfl⟩
     subst hwo
     have hszo := keep_size hK.1
     gi_loopw [3, 9] (fun t i wx => ∃ k : Nat, k ≤ 16 ∧ i = .int .i64 k ∧ t = .int .u64 (lcgN σ k : Nat) ∧ Rowed wx wo.heap.size 81 ((wordP σ k).map eB).toArray ∧ Below wo.heap.size wo wx) (fun _ i _ => 16 - (intOf i).toNat)
     case atStart => exact ⟨0, Nat.zero_le _, rfl, rfl, hr1, hB1⟩
     case round =>
      obtain ⟨k, hk, rfl, rfl, hrk, hBk⟩ := hrel
      by_cases hk16 : k < 16
      · have hkl : (k : Int) < 16 := by omega
        have e1 := lcg_walk (lcgN σ k)
        have e2 := shr_walk (lcg (lcgN σ k)) (Nat.mod_lt _ (by decide))
        have e3 : lcgN σ (k + 1) = lcg (lcgN σ k) := rfl
        have hL := letter_any ((lcg (lcgN σ k) / 4611686018427387904 : Nat) : Int) wr (HT wr (kt_t (kt_t hKW0 hK) (kt_below hBk (by omega))))
        have hcx := hrk.cell k
        have hfx := hrk.frozen k
        have hst := hrk.set k (eB (letG (lcgN σ (k + 1))))
        have hse : (((wordP σ k).map eB).toArray).setIfInBounds k (eB (letG (lcgN σ (k + 1)))) = ((wordP σ (k + 1)).map eB).toArray := by
         rw [← wordP_set σ k hk16]
         simp [List.map_set]
        rw [hse] at hst
        have hwl := wordP_len σ k hk
        obtain ⟨uk, huk⟩ : ∃ u, ((wordP σ k).map eB).toArray[k]? = some (eB u) := ⟨(wordP σ k)[k], by simp [hwl, hk16]⟩
        rw [huk] at hcx
        unfold letG at hst
        rw [e3] at hst
        have HST := Lib.hid hst
        have HE3 := Lib.hid e3
        have Hk := Lib.hid hk16
        clear hse hwl huk hst hrk e3 hk16 hk
        generalize lcg (lcgN σ k) = σ' at *
        gi_wp2_with fail
        refine ⟨trivial, ?_⟩
        gi_at_call 61
        refine (callsIn_wide.2 hL).mono ?_
        rintro e w' ⟨rfl, rfl⟩
        clear hL
        gi_wp2_with fail
        refine ⟨⟨k + 1, Hk.out, by go_num, by rw [HE3.out], ?_, hBk.setCell (p := ⟨wo.heap.size, k, none⟩) (Nat.le_refl _) _⟩, ?_⟩
        · have h9 := HST.out
          rw [show ((σ' / 4611686018427387904 : Nat) : Int) = (σ' : Int) / 4611686018427387904 from by omega] at h9
          exact h9
        · have := Hk.out
          simp [intOf]
          omega
      · obtain rfl : k = 16 := by omega
        have hG := wordP_end σ
        have hwl := wordP_len σ 16 (Nat.le_refl _)
        rw [hG] at hrk hwl
        have hcv := run_convert_bytes_back (P := Tryd.prog) wr 39 9 5 ⟨wo.heap.size, 0, none⟩ 16 (wordG σ) Tryd.underlying39 Tryd.underlying5 Tryd.underlying9 (fun j hj => by
         have h1 := hrk.cell j
         rw [show (⟨wo.heap.size, 0, none⟩ : Addr).add j = ⟨wo.heap.size, j, none⟩ from by unfold Addr.add; split <;> simp_all]
         rw [h1]
         simp [hj])
        rw [hwl] at hcv
        have hJd : J (triL s n) wr := hJo _ _ _ none hJ ⟨hBk.os, hBk.tape, hBk.output, hBk.size, fun k hk _ => hBk.block k hk⟩ (fun r e => by cases e)
        have hKd := kt_t hK (kt_below hBk (by omega))
        obtain ⟨fn, tmps, assign, body, hy, hR⟩ := hY _ (wordG σ) wr hJd (by rw [← HTR.out]; exact triL_pre s (n + 1) 20000 (by omega))
        rw [← HTR.out] at hR
        have Hn := Lib.hid hlt
        clear hY hJo hJ hJd hrk hG hwl hlt hk
        generalize wordG σ = wd at *
        gi_wp2_with fail
        refine (roundIn_room rfl hR).mono ?_
        clear hy hR
        rintro e W3 (⟨rfl, hJ3, hK3, -⟩ | ⟨rfl, hS3⟩)
        · gi_wp2_with fail
          refine ⟨⟨n + 1, Hn.out, by go_num, by rw [HNX.out], hJ3, kt_t hKd hK3⟩, ?_⟩
          have := Hn.out
          simp [intOf]
          omega
        · gi_wp2_with fail
          refine bodyPost_ret (results_none rfl _ _ _) rfl ?_
          exact .inl ⟨_, rfl, hS3⟩
   · obtain rfl : n = 20000 := by omega
     clear hY hJo
     gi_wp2_with fail
     go_end0
     exact .inr (.inl ⟨trivial, ⟨_, rfl⟩, hJ⟩)
end Go.Proofs.YtcngnjkpnmpcpaaDoor
