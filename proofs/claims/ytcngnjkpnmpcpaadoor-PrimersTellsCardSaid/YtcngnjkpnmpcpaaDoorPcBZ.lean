import Derived.Test.YtcngnjkpnmpcpaaDoorPcAZ
import Derived.Test.YtcngnjkpnmpcpaaDoorRcBZ
namespace Go.Proofs.YtcngnjkpnmpcpaaDoor
open Go.RowKit Go.Shelf
attribute [local go_sem] Oper.semAt_some run_store_func
set_option maxRecDepth 100000 in
set_option maxHeartbeats 2000000 in
theorem rValid_any (sv : Value) (bs : List UInt8) (hreach : bs.length ≤ 100000) (w : World) (hS : Sl eB w.heap.size w sv bs) :
    Calls Tryd.prog 41 #[sv] w fun e w' => e = .returned (.bool (decide ((-1 : Int) ∉ codesOf bs))) ∧ w = w' := by
  obtain ⟨A, c, rfl, -, hcs⟩ := id hS
  have HN := Lib.hid hreach
  have HC := Lib.hid hcs
  have HS := Lib.hid (codesOf_snoc bs)
  have HE := Lib.hid (show codesOf (bs.take bs.length) = codesOf bs from by rw [List.take_length])
  have HB := Lib.hid (show ∀ k (h : k < bs.length), codeOf bs[k].toNat = -1 → (-1 : Int) ∈ codesOf bs from fun k h e => by
   rw [← e]
   exact List.mem_map.2 ⟨bs[k], List.getElem_mem h, rfl⟩)
  obtain ⟨r, hr⟩ : ∃ r : Bool, Hid (decide ((-1 : Int) ∉ codesOf bs) = r) := ⟨_, Lib.hid rfl⟩
  rw [hr.out]
  clear hcs hS hreach
  go_enter Tryd.func41, Tryd.ntmps41
  go_wp2_with fail
  go_loopw [3] (fun i wr => ∃ k : Nat, k ≤ bs.length ∧ i = .int .i64 k ∧ (-1 : Int) ∉ codesOf (bs.take k) ∧ w = wr) (fun i _ => bs.length - (RowKit.intOf i).toNat)
  case atStart => exact ⟨0, Nat.zero_le _, rfl, by simp [codesOf], rfl⟩
  case round =>
   obtain ⟨k, hk, rfl, hno, rfl⟩ := hrel
   by_cases hlt : k < bs.length
   · obtain ⟨b, off, rfl, hb, hcell⟩ := HC.out (by omega)
     have hcx := hcell k bs[k] (List.getElem?_eq_getElem hlt)
     have hcd := refCode_any bs[k] w
     have Hst := Lib.hid (HS.out k hlt)
     have Hbd := Lib.hid (HB.out k hlt)
     have hkl : (k : Int) < bs.length := by omega
     have Hk := Lib.hid hlt
     have hk9 : k ≤ 100000 := by have := HN.out; omega
     have Hno := Lib.hid hno
     generalize bs[k] = x at *
     clear hcell hlt hno
     by_cases hx : codeOf x.toNat = -1
     · rw [if_pos hx, if_pos hx] at hcd
       have Hy := Lib.hid (Hbd.out hx)
       clear Hst Hbd hx Hno
       go_wp2_with fail
       go_at_call 59
       refine hcd.mono ?_
       rintro e w2 ⟨rfl, rfl⟩
       clear hcd
       go_wp2_with fail
       go_ret
       refine ⟨?_, rfl⟩
       rw [← hr.out, decide_eq_false (fun h => h Hy.out)]
       rfl
     · rw [if_neg hx, if_neg hx] at hcd
       have Hn2 := Lib.hid (show (-1 : Int) ∉ codesOf (bs.take (k + 1)) from by
        rw [Hst.out, List.mem_append]
        rintro (h | h)
        · exact Hno.out h
        · exact hx (List.mem_singleton.1 h).symm)
       clear Hbd hx Hno
       generalize codeOf x.toNat = z at *
       go_wp2_with fail
       go_at_call 59
       refine hcd.mono ?_
       rintro e w2 ⟨rfl, rfl⟩
       clear hcd
       go_wp2_with fail
       go_roundw
       case rel => exact ⟨k + 1, Hk.out, by go_num, Hn2.out, trivial⟩
       case measure => have := Hk.out; simp [RowKit.intOf]; omega
   · obtain rfl : k = bs.length := by omega
     rw [HE.out] at hno
     have Hno := Lib.hid hno
     clear hno
     go_wp2_with fail
     go_ret
     refine ⟨?_, rfl⟩
     rw [← hr.out, decide_eq_true Hno.out]
     rfl
set_option maxRecDepth 100000 in
set_option maxHeartbeats 400000 in
theorem rGc_any (sv : Value) (bs : List UInt8) (hreach : bs.length ≤ 140737488351232) (B : Nat) (w : World) (hS : Sl eB B w sv bs) :
    Calls Tryd.prog 42 #[sv] w fun e w' => e = .returned (.int .i64 (gcOf bs)) ∧ w = w' := by
  obtain ⟨A, cap, rfl, hcap, hcs⟩ := hS
  go_enter Tryd.func42, Tryd.ntmps42
  go_wp2
  go_loop [3, 4] (fun g i => ∃ k : Nat, k ≤ bs.length ∧ i = .int .i64 k ∧ g = .int .i64 (gcOf (bs.take k))) (fun _ i => bs.length - (intOf i).toNat)
  case atStart => exact ⟨0, Nat.zero_le _, rfl, rfl⟩
  case round =>
   obtain ⟨k, hk, rfl, rfl⟩ := hrel
   by_cases hlt : k < bs.length
   · obtain ⟨b, off, rfl, hb, hcell⟩ := hcs (by omega)
     have hcx : w.cell? ⟨b, off + k, none⟩ = some (eB bs[k]) := hcell k _ (by simp [hlt])
     have hg := gcOf_le (bs.take k)
     have hg2 : gcOf (bs.take k) ≤ k := by rw [List.length_take] at hg; omega
     have H := Lib.hid (gcOf_snoc bs k hlt)
     clear hcell hcs hg
     generalize hx : bs[k] = x at *
     have Hx := Lib.hid hx
     clear hx
     by_cases h1 : x = 67
     · have e1 : ((x.toNat : Int) == 67) = true := by subst h1; rfl
       have Hh := Lib.hid h1
       clear h1
       go_wp2
       go_round
       case rel => exact ⟨k + 1, by omega, by go_num, by rw [H.out, Hh.out]; go_num⟩
       case measure => simp [intOf]; omega
     · have e1 : ((x.toNat : Int) == 67) = false := by
         rw [beq_eq_false_iff_ne]; intro e; apply h1; apply UInt8.toNat_inj.1; simp; omega
       by_cases h2 : x = 71
       · have e2 : ((x.toNat : Int) == 71) = true := by subst h2; rfl
         have Hh := Lib.hid h2
         clear h1 h2
         go_wp2
         go_round
         case rel => exact ⟨k + 1, by omega, by go_num, by rw [H.out, Hh.out]; go_num⟩
         case measure => simp [intOf]; omega
       · have e2 : ((x.toNat : Int) == 71) = false := by
           rw [beq_eq_false_iff_ne]; intro e; apply h2; apply UInt8.toNat_inj.1; simp; omega
         have Hh1 := Lib.hid h1
         have Hh2 := Lib.hid h2
         clear h1 h2
         go_wp2
         go_round
         case rel => exact ⟨k + 1, by omega, by go_num, by rw [H.out]; simp [Hh1.out, Hh2.out]⟩
         case measure => simp [intOf]; omega
   · obtain rfl : k = bs.length := by omega
     go_wp2
     go_ret
     exact ⟨rfl, rfl⟩
set_option maxRecDepth 100000 in
set_option maxHeartbeats 2000000 in
theorem rOne_any (l : List UInt8) (w : World) : Calls Tryd.prog 22 #[sV l] w fun e w' => e = .returned (.bool (oneG l)) ∧ Below w.heap.size w w' := by
 by_cases h16 : l.length = 16
 · obtain ⟨ca, w1, hcv1, hS1, hB1, -⟩ := to_bytes w l
   obtain ⟨cb, w2, hcv2, hS2, hB2, -⟩ := to_bytes w1 l
   obtain ⟨cc, w3, hcv3, hS3, hB3, -⟩ := to_bytes w2 l
   have d1 : ((l.length : Int) == 16) = true := by rw [h16]; rfl
   have hV := rValid_any _ l (by omega) w1 hS1
   have hG := rGc_any _ l (by omega) _ w2 hS2
   have hR := rRun_any _ l (by omega) w3 hS3
   have hBx := below_trans hB1 hB2
   have hBy := below_trans hBx hB3
   have hgl := gcOf_le l
   clear hS1 hS2 hS3 hB2 hB3
   by_cases hv : (-1 : Int) ∉ codesOf l
   · rw [decide_eq_true hv] at hV
     have hone : oneG l = (decide (gcOf l = 8) && decide ((runAt l l.length).1 ≤ 2)) := by unfold oneG; rw [decide_eq_true h16, decide_eq_true hv]; rfl
     rw [hone]
     generalize gcOf l = gc at *
     generalize (runAt l l.length).1 = ru at *
     have hw2 : IntKind.i64.wrap (2 * (gc : Int)) = 2 * (gc : Int) := IntWalk.i64_in _ (by omega)
     have hw3 : wrap64 (2 * (gc : Int)) = 2 * (gc : Int) := IntWalk.wrap64_in _ (by omega)
     by_cases hg : gc = 8
     · subst hg
       clear hone hv h16 hgl hw2 hw3
       go_enter Tryd.func22, Tryd.ntmps22
       go_wp2_with fail
       go_at_call 41
       refine hV.mono ?_
       rintro e w' ⟨rfl, rfl⟩
       clear hV
       go_wp2_with fail
       go_at_call 42
       refine hG.mono ?_
       rintro e w' ⟨rfl, rfl⟩
       clear hG
       go_wp2_with fail
       go_at_call 43
       refine hR.mono ?_
       rintro e w4 ⟨rfl, hB4⟩
       clear hR
       go_wp2_with fail
       go_ret
       exact ⟨by simp; omega, below_trans hBy hB4⟩
     · have d2 : (2 * (gc : Int) == 16) = false := by rw [beq_eq_false_iff_ne]; omega
       rw [decide_eq_false hg]
       clear hone hv h16 hgl hg hR
       go_enter Tryd.func22, Tryd.ntmps22
       go_wp2_with fail
       go_at_call 41
       refine hV.mono ?_
       rintro e w' ⟨rfl, rfl⟩
       clear hV
       go_wp2_with fail
       go_at_call 42
       refine hG.mono ?_
       rintro e w' ⟨rfl, rfl⟩
       clear hG
       go_wp2_with fail
       go_ret
       exact ⟨rfl, hBx⟩
   · rw [decide_eq_false hv] at hV
     have hone : oneG l = false := by unfold oneG; rw [decide_eq_true h16, decide_eq_false hv]; rfl
     rw [hone]
     clear hone hv h16 hgl hG hR
     go_enter Tryd.func22, Tryd.ntmps22
     go_wp2_with fail
     go_at_call 41
     refine hV.mono ?_
     rintro e w' ⟨rfl, rfl⟩
     clear hV
     go_wp2_with fail
     go_ret
     exact ⟨rfl, hB1⟩
 · have d1 : ((l.length : Int) == 16) = false := by rw [beq_eq_false_iff_ne]; omega
   have hone : oneG l = false := by unfold oneG; rw [decide_eq_false h16]; rfl
   rw [hone]
   clear hone h16
   go_enter Tryd.func22, Tryd.ntmps22
   go_wp2_with fail
   go_ret
   exact ⟨rfl, Below.refl _ _⟩
end Go.Proofs.YtcngnjkpnmpcpaaDoor
