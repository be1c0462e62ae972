import Derived.Test.YtcngnjkpnmpcpaaDoorDTZ
import Derived.Test.YtcngnjkpnmpcpaaDoorRcBZ
namespace Go.Proofs.YtcngnjkpnmpcpaaDoor
open Go.RowKit Go.Shelf
attribute [local go_sem] Oper.semAt_some run_store_func
def ledS (x : UInt8) (l : List UInt8) : Nat := (l.takeWhile (· == x)).length
def runS : List UInt8 → Nat
  | [] => 0
  | x :: t => max (ledS x (x :: t)) (runS t)
theorem led_same (x : UInt8) (t : List UInt8) : ledS x (x :: t) = ledS x t + 1 := by simp [ledS]
theorem led_other {x y : UInt8} (t : List UInt8) (h : y ≠ x) : ledS x (y :: t) = 0 := by simp [ledS, h]
theorem led_iff (x : UInt8) : ∀ (l : List UInt8) (n : Nat), n ≤ ledS x l → (n < ledS x l ↔ l[n]? = some x)
 | [], n, h => by simp [ledS] at h ⊢
 | y :: t, n, h => by
   by_cases e : y = x
   · subst e
     rw [led_same] at h ⊢
     cases n with
     | zero => simp
     | succ n => rw [List.getElem?_cons_succ, ← led_iff y t n (by omega)]; omega
   · rw [led_other t e] at h ⊢
     obtain rfl : n = 0 := by omega
     simp [e]
theorem led_len (x : UInt8) (l : List UInt8) : ledS x l ≤ l.length := (List.takeWhile_prefix _).length_le
theorem runS_go (l : List UInt8) : ∀ (t pre : List UInt8) (p : UInt8), l = pre ++ p :: t → (runAt l (pre.length + 1)).2 ≤ (runAt l (pre.length + 1)).1 →
    (runAt l l.length).1 = max (max (runAt l (pre.length + 1)).1 ((runAt l (pre.length + 1)).2 + ledS p t)) (runS t)
  | [], pre, p, h, hle => by
    have e : l.length = pre.length + 1 := by rw [h]; simp
    rw [e]
    simp [ledS, runS]
    omega
  | y :: t, pre, p, h, hle => by
    have h2 : l = (pre ++ [p]) ++ y :: t := by rw [h]; simp
    have ey : l[pre.length + 1]? = some y := by rw [h]; simp
    have ep : l[pre.length + 1 - 1]? = some p := by rw [h]; simp
    have el : (pre ++ [p]).length = pre.length + 1 := by simp
    have ih := runS_go l t (pre ++ [p]) y h2
    rw [el] at ih
    have er : runS (y :: t) = max (ledS y t + 1) (runS t) := by rw [runS, led_same]
    rw [er]
    by_cases e : y = p
    · subst e
      rw [runAt_succ_on l (pre.length + 1) (by rw [ey, ep]; simp)] at ih
      rw [ih (by simp only; omega), led_same]
      simp only
      omega
    · rw [runAt_succ_new l (pre.length + 1) (.inr (by rw [ey, ep]; simpa using e))] at ih
      rw [ih (by simp only; omega), led_other t e]
      simp only
      omega
theorem runS_is (l : List UInt8) : (runAt l l.length).1 = runS l := by
 cases l with
 | nil => rfl
 | cons x t =>
   have h := runS_go (x :: t) t [] x rfl
   have e : runAt (x :: t) 1 = (1, 1) := by rw [show (1 : Nat) = 0 + 1 from rfl, runAt_succ_new _ 0 (.inl rfl)]; simp [runAt]
   simp only [List.length_nil, Nat.zero_add, e] at h
   rw [h (Nat.le_refl _), runS, led_same]
   omega
set_option maxRecDepth 100000 in
set_option maxHeartbeats 4000000 in
theorem rRun_any (sv : Value) (l : List UInt8) (hreach : l.length ≤ 100000) (w : World) (hS : Sl eB w.heap.size w sv l) :
    Calls Tryd.prog 43 #[sv] w fun e w' => e = .returned (.int .i64 ((runAt l l.length).1 : Nat)) ∧ Below w.heap.size w w' := by
  rw [runS_is]
  obtain ⟨A, cap, rfl, -, hcs⟩ := hS
  have hdr : Tryd.prog.follows .mixedOrders = true := by kernel_rfl
  have HR := Lib.hid hreach
  have HCS := Lib.hid hcs
  clear hcs hreach
  obtain ⟨R, hR⟩ : ∃ R, runS l = R := ⟨_, rfl⟩
  rw [hR]
  go_enter Tryd.func43, Tryd.ntmps43
  go_wp2_with fail
  go_loopw [3, 4] (fun t i wr => ∃ k m : Nat, k ≤ l.length ∧ i = .int .i64 k ∧ t = .int .i64 m ∧ max m (runS (l.drop k)) = R ∧ m ≤ 100000 ∧ Below w.heap.size w wr) (fun _ i _ => l.length - (RowKit.intOf i).toNat)
  case atStart => exact ⟨0, 0, Nat.zero_le _, rfl, rfl, by rw [List.drop_zero, hR]; omega, by omega, Below.refl _ _⟩
  case round =>
   obtain ⟨k, m, hk, rfl, rfl, hm, hm9, hB⟩ := hrel
   by_cases hlt : k < l.length
   · obtain ⟨b, off, rfl, hb, hcell⟩ := HCS.out (by omega)
     have hll := HR.out
     have hkl : (k : Int) < (l.length : Int) := by omega
     have hkw : 0 ≤ (k : Int) := by omega
     have hld := led_len l[k] (l.drop k)
     rw [List.length_drop] at hld
     have hli := led_iff l[k] (l.drop k)
     have hx := hcell k l[k] (List.getElem?_eq_getElem hlt)
     rw [List.drop_eq_getElem_cons hlt, runS, ← List.drop_eq_getElem_cons hlt] at hm
     generalize l[k] = x at *
     generalize ledS x (l.drop k) = T at *
     have HLI := Lib.hid (show ∀ n, n ≤ T → (n < T ↔ l[k + n]? = some x) from fun n hn => by rw [hli n hn, List.getElem?_drop])
     have HX := Lib.hid hx
     have HC := Lib.hid hcell
     have HK := Lib.hid hlt
     have HM := Lib.hid hm
     clear hlt hk hm hli hx hcell
     go_wp2_with fail
     go_loopw [5, 6] (fun t j wr => ∃ n : Nat, n ≤ T ∧ t = .int .i64 n ∧ j = .int .i64 (k + n : Nat) ∧ Below w.heap.size w wr) (fun _ j _ => l.length - (RowKit.intOf j).toNat)
     case atStart => exact ⟨0, Nat.zero_le _, rfl, rfl, hB⟩
     case round =>
      obtain ⟨n, hn, rfl, rfl, hB2⟩ := hrel
      by_cases hin : k + n < l.length
      · obtain ⟨y, hy⟩ : ∃ y, l[k + n] = y := ⟨_, rfl⟩
        have hiff := HLI.out n hn
        rw [List.getElem?_eq_getElem hin, hy] at hiff
        have hcy := HC.out (k + n) y (by rw [List.getElem?_eq_getElem hin, hy])
        have hck : ∀ W, Below wr.heap.size wr W → W.cell? ⟨b, off + (k + n), none⟩ = some (eB y) ∧ W.cell? ⟨b, off + k, none⟩ = some (eB x) := fun W hW =>
         have h := hB2.trans (hW.mono hB2.size)
         ⟨(h.cell (p := ⟨b, off + (k + n), none⟩) hb).trans hcy, (h.cell (p := ⟨b, off + k, none⟩) hb).trans HX.out⟩
        obtain ⟨bb, hbb⟩ : ∃ bb, ((y.toNat : Int) == (x.toNat : Int)) = bb := ⟨_, rfl⟩
        have hbT : bb = true ↔ n < T := by
         rw [hiff, ← hbb, beq_iff_eq]
         constructor
         · intro e; rw [UInt8.toNat_inj.1 (by omega : y.toNat = x.toNat)]
         · intro e; injection e with e; rw [e]
        have hin2 : ((k + n : Nat) : Int) < (l.length : Int) := by omega
        have HIN := Lib.hid hin
        have HN := Lib.hid hn
        clear hiff hcy hy hin hn
        generalize hkn : k + n = q at *
        have HQ := Lib.hid hkn
        clear hkn
        have hSd : Below w.heap.size w wr.drew := hB2.trans ⟨rfl, rfl, rfl, Nat.le_refl _, fun _ _ => rfl⟩
        have hSd2 : Below wr.heap.size wr wr.drew := ⟨rfl, rfl, rfl, Nat.le_refl _, fun _ _ => rfl⟩
        have HB2 := Lib.hid hB2
        have HBT := Lib.hid hbT
        have hkl2 : (k : Int) < (l.length : Int) := hkl
        clear hbT hSd hB2 hB hld
        go_wp2_with fail
        refine wp_region_det (Below wr.heap.size wr) [(14, .int .i64 q), (15, .slice (some ⟨b, off, none⟩) l.length cap), (16, .int .i64 l.length), (17, .bool true), (18, .bool true), (19, .slice (some ⟨b, off, none⟩) l.length cap), (20, .int .i64 q), (21, .pointer (some ⟨b, off + q, none⟩)), (22, eB y), (23, .slice (some ⟨b, off, none⟩) l.length cap), (24, .int .i64 k), (25, .pointer (some ⟨b, off + k, none⟩)), (26, eB x), (27, .bool bb), (28, .bool bb)]
          (by kernel_rfl) (by kernel_rfl) (by kernel_rfl) (by kernel_rfl) (by kernel_rfl) hSd2 ?ok1 ?fin1
        case ok1 =>
         intro A' hA'
         simp only [putAll, Act.put, List.setIfInBounds_toArray, List.set_cons_zero, List.set_cons_succ] at hA'
         subst hA'
         simp only [detAll]
         refine ⟨?_, ?_, ?_, ?_, ?_, ?_, ?_, ?_, ?_, ?_, ?_, ?_, ?_, ?_, ?_, trivial⟩
         all_goals
          intro w' hS'
          obtain ⟨cc1, cc2⟩ := hck w' hS'
          clear hck
          go_simp
          first
           | exact hS'
           | exact ⟨rfl, hS'⟩
           | done
        case fin1 =>
         intro A' hA' w6 hS6
         simp only [putAll, Act.put, List.setIfInBounds_toArray, List.set_cons_zero, List.set_cons_succ] at hA'
         subst hA'
         have HS6 := Lib.hid (HB2.out.trans (hS6.mono HB2.out.size))
         have hn9 : n ≤ 100000 := by have := HQ.out; have := HIN.out; omega
         have hq9 : q ≤ 100000 := by have := HIN.out; omega
         clear hck hSd2 hS6
         cases bb with
         | true =>
           clear hbb
           go_wp2_with fail
           go_roundw
           case rel => exact ⟨n + 1, HBT.out.1 rfl, by go_num, by have := HQ.out; go_num, HS6.out⟩
           case measure => have := HIN.out; simp [RowKit.intOf]; omega
         | false =>
           clear hbb
           have hnT : n = T := by have := HN.out; have h2 := HBT.out; simp at h2; omega
           subst hnT
           go_wp2_with fail
           go_roundw
           case rel => exact ⟨k + 1, max m n, HK.out, by go_num, by go_num, by have := HM.out; omega, by omega, HS6.out⟩
           case measure => have := HK.out; simp [RowKit.intOf]; omega
      · have hnT : n = T := by
          have := HLI.out n hn
          rw [List.getElem?_eq_none (by omega)] at this
          simp at this
          omega
        subst hnT
        have hin2 : ¬ ((k + n : Nat) : Int) < (l.length : Int) := by omega
        have hd2 : decide (((k + n : Nat) : Int) < (l.length : Int)) = false := decide_eq_false hin2
        have hSd2 : Below wr.heap.size wr wr.drew := ⟨rfl, rfl, rfl, Nat.le_refl _, fun _ _ => rfl⟩
        have HB2 := Lib.hid hB2
        have hn9 : n ≤ 100000 := by omega
        generalize hkn : k + n = q at *
        clear hkn hin hn hB2 hB hld
        go_wp2_with fail
        refine wp_region_det (Below wr.heap.size wr) [(14, .int .i64 q), (15, .slice (some ⟨b, off, none⟩) l.length cap), (16, .int .i64 l.length), (17, .bool false), (18, .bool false), (19, undef), (20, undef), (21, undef), (22, undef), (23, undef), (24, undef), (25, undef), (26, undef), (27, undef), (28, .bool false)]
          (by kernel_rfl) (by kernel_rfl) (by kernel_rfl) (by kernel_rfl) (by kernel_rfl) hSd2 ?ok2 ?fin2
        case ok2 =>
         intro A' hA'
         simp only [putAll, Act.put, List.setIfInBounds_toArray, List.set_cons_zero, List.set_cons_succ] at hA'
         subst hA'
         simp only [detAll]
         refine ⟨?_, ?_, ?_, ?_, ?_, ?_, ?_, ?_, ?_, ?_, ?_, ?_, ?_, ?_, ?_, trivial⟩
         all_goals
          intro w' hS'
          go_simp
          first
           | exact hS'
           | exact ⟨rfl, hS'⟩
           | (refine ⟨?_, hS'⟩; omega)
           | omega
           | done
        case fin2 =>
         intro A' hA' w6 hS6
         simp only [putAll, Act.put, List.setIfInBounds_toArray, List.set_cons_zero, List.set_cons_succ] at hA'
         subst hA'
         have HS6 := Lib.hid (HB2.out.trans (hS6.mono HB2.out.size))
         clear hSd2 hS6
         go_wp2_with fail
         go_roundw
         case rel => exact ⟨k + 1, max m n, HK.out, by go_num, by go_num, by have := HM.out; omega, by omega, HS6.out⟩
         case measure => have := HK.out; simp [RowKit.intOf]; omega
   · obtain rfl : k = l.length := by omega
     have h3 : ¬ (l.length : Int) < (l.length : Int) := by omega
     rw [List.drop_length] at hm
     have hm2 : m = R := by simpa [runS] using hm
     subst hm2
     clear hlt hk hm HCS
     go_wp2_with fail
     go_ret
     exact ⟨rfl, hB⟩
end Go.Proofs.YtcngnjkpnmpcpaaDoor
namespace Go.Proofs.YtcngnjkpnmpcpaaDoor
open Go.RowKit Go.Shelf
attribute [local go_sem] Oper.semAt_some run_store_func
set_option maxRecDepth 100000 in
set_option maxHeartbeats 2000000 in
theorem rValid_any (sv : Value) (bs : List UInt8) (hreach : bs.length ≤ 100000) (w : World) (hS : Sl eB w.heap.size w sv bs) :
    Calls Tryd.prog 41 #[sv] w fun e w' => e = .returned (.bool (decide ((-1 : Int) ∉ codesOf bs))) ∧ w = w' := by
  obtain ⟨A, c, rfl, -, hcs⟩ := id hS
  have HN := Lib.hid hreach
  have HC := Lib.hid hcs
  have HS := Lib.hid (codesOf_snoc bs)
  have HE := Lib.hid (show codesOf (bs.take bs.length) = codesOf bs from by rw [List.take_length])
  have HB := Lib.hid (show ∀ k (h : k < bs.length), codeOf bs[k].toNat = -1 → (-1 : Int) ∈ codesOf bs from fun k h e => by
   rw [← e]
   exact List.mem_map.2 ⟨bs[k], List.getElem_mem h, rfl⟩)
  obtain ⟨r, hr⟩ : ∃ r : Bool, Hid (decide ((-1 : Int) ∉ codesOf bs) = r) := ⟨_, Lib.hid rfl⟩
  rw [hr.out]
  clear hcs hS hreach
  go_enter Tryd.func41, Tryd.ntmps41
  go_wp2_with fail
  go_loopw [3] (fun i wr => ∃ k : Nat, k ≤ bs.length ∧ i = .int .i64 k ∧ (-1 : Int) ∉ codesOf (bs.take k) ∧ w = wr) (fun i _ => bs.length - (RowKit.intOf i).toNat)
  case atStart => exact ⟨0, Nat.zero_le _, rfl, by simp [codesOf], rfl⟩
  case round =>
   obtain ⟨k, hk, rfl, hno, rfl⟩ := hrel
   by_cases hlt : k < bs.length
   · obtain ⟨b, off, rfl, hb, hcell⟩ := HC.out (by omega)
     have hcx := hcell k bs[k] (List.getElem?_eq_getElem hlt)
     have hcd := refCode_any bs[k] w
     have Hst := Lib.hid (HS.out k hlt)
     have Hbd := Lib.hid (HB.out k hlt)
     have hkl : (k : Int) < bs.length := by omega
     have Hk := Lib.hid hlt
     have hk9 : k ≤ 100000 := by have := HN.out; omega
     have Hno := Lib.hid hno
     generalize bs[k] = x at *
     clear hcell hlt hno
     by_cases hx : codeOf x.toNat = -1
     · rw [if_pos hx, if_pos hx] at hcd
       have Hy := Lib.hid (Hbd.out hx)
       clear Hst Hbd hx Hno
       go_wp2_with fail
       go_at_call 59
       refine hcd.mono ?_
       rintro e w2 ⟨rfl, rfl⟩
       clear hcd
       go_wp2_with fail
       go_ret
       refine ⟨?_, rfl⟩
       rw [← hr.out, decide_eq_false (fun h => h Hy.out)]
       rfl
     · rw [if_neg hx, if_neg hx] at hcd
       have Hn2 := Lib.hid (show (-1 : Int) ∉ codesOf (bs.take (k + 1)) from by
        rw [Hst.out, List.mem_append]
        rintro (h | h)
        · exact Hno.out h
        · exact hx (List.mem_singleton.1 h).symm)
       clear Hbd hx Hno
       generalize codeOf x.toNat = z at *
       go_wp2_with fail
       go_at_call 59
       refine hcd.mono ?_
       rintro e w2 ⟨rfl, rfl⟩
       clear hcd
       go_wp2_with fail
       go_roundw
       case rel => exact ⟨k + 1, Hk.out, by go_num, Hn2.out, trivial⟩
       case measure => have := Hk.out; simp [RowKit.intOf]; omega
   · obtain rfl : k = bs.length := by omega
     rw [HE.out] at hno
     have Hno := Lib.hid hno
     clear hno
     go_wp2_with fail
     go_ret
     refine ⟨?_, rfl⟩
     rw [← hr.out, decide_eq_true Hno.out]
     rfl
set_option maxRecDepth 100000 in
set_option maxHeartbeats 400000 in
theorem rGc_any (sv : Value) (bs : List UInt8) (hreach : bs.length ≤ 140737488351232) (B : Nat) (w : World) (hS : Sl eB B w sv bs) :
    Calls Tryd.prog 42 #[sv] w fun e w' => e = .returned (.int .i64 (gcOf bs)) ∧ w = w' := by
  obtain ⟨A, cap, rfl, hcap, hcs⟩ := hS
  go_enter Tryd.func42, Tryd.ntmps42
  go_wp2
  go_loop [3, 4] (fun g i => ∃ k : Nat, k ≤ bs.length ∧ i = .int .i64 k ∧ g = .int .i64 (gcOf (bs.take k))) (fun _ i => bs.length - (intOf i).toNat)
  case atStart => exact ⟨0, Nat.zero_le _, rfl, rfl⟩
  case round =>
   obtain ⟨k, hk, rfl, rfl⟩ := hrel
   by_cases hlt : k < bs.length
   · obtain ⟨b, off, rfl, hb, hcell⟩ := hcs (by omega)
     have hcx : w.cell? ⟨b, off + k, none⟩ = some (eB bs[k]) := hcell k _ (by simp [hlt])
     have hg := gcOf_le (bs.take k)
     have hg2 : gcOf (bs.take k) ≤ k := by rw [List.length_take] at hg; omega
     have H := Lib.hid (gcOf_snoc bs k hlt)
     clear hcell hcs hg
     generalize hx : bs[k] = x at *
     have Hx := Lib.hid hx
     clear hx
     by_cases h1 : x = 67
     · have e1 : ((x.toNat : Int) == 67) = true := by subst h1; rfl
       have Hh := Lib.hid h1
       clear h1
       go_wp2
       go_round
       case rel => exact ⟨k + 1, by omega, by go_num, by rw [H.out, Hh.out]; go_num⟩
       case measure => simp [intOf]; omega
     · have e1 : ((x.toNat : Int) == 67) = false := by
         rw [beq_eq_false_iff_ne]; intro e; apply h1; apply UInt8.toNat_inj.1; simp; omega
       by_cases h2 : x = 71
       · have e2 : ((x.toNat : Int) == 71) = true := by subst h2; rfl
         have Hh := Lib.hid h2
         clear h1 h2
         go_wp2
         go_round
         case rel => exact ⟨k + 1, by omega, by go_num, by rw [H.out, Hh.out]; go_num⟩
         case measure => simp [intOf]; omega
       · have e2 : ((x.toNat : Int) == 71) = false := by
           rw [beq_eq_false_iff_ne]; intro e; apply h2; apply UInt8.toNat_inj.1; simp; omega
         have Hh1 := Lib.hid h1
         have Hh2 := Lib.hid h2
         clear h1 h2
         go_wp2
         go_round
         case rel => exact ⟨k + 1, by omega, by go_num, by rw [H.out]; simp [Hh1.out, Hh2.out]⟩
         case measure => simp [intOf]; omega
   · obtain rfl : k = bs.length := by omega
     go_wp2
     go_ret
     exact ⟨rfl, rfl⟩
set_option maxRecDepth 100000 in
set_option maxHeartbeats 2000000 in
theorem rOne_any (l : List UInt8) (w : World) : Calls Tryd.prog 22 #[sV l] w fun e w' => e = .returned (.bool (oneG l)) ∧ Below w.heap.size w w' := by
 by_cases h16 : l.length = 16
 · obtain ⟨ca, w1, hcv1, hS1, hB1, -⟩ := to_bytes w l
   obtain ⟨cb, w2, hcv2, hS2, hB2, -⟩ := to_bytes w1 l
   obtain ⟨cc, w3, hcv3, hS3, hB3, -⟩ := to_bytes w2 l
   have d1 : ((l.length : Int) == 16) = true := by rw [h16]; rfl
   have hV := rValid_any _ l (by omega) w1 hS1
   have hG := rGc_any _ l (by omega) _ w2 hS2
   have hR := rRun_any _ l (by omega) w3 hS3
   have hBx := below_trans hB1 hB2
   have hBy := below_trans hBx hB3
   have hgl := gcOf_le l
   clear hS1 hS2 hS3 hB2 hB3
   by_cases hv : (-1 : Int) ∉ codesOf l
   · rw [decide_eq_true hv] at hV
     have hone : oneG l = (decide (gcOf l = 8) && decide ((runAt l l.length).1 ≤ 2)) := by unfold oneG; rw [decide_eq_true h16, decide_eq_true hv]; rfl
     rw [hone]
     generalize gcOf l = gc at *
     generalize (runAt l l.length).1 = ru at *
     have hw2 : IntKind.i64.wrap (2 * (gc : Int)) = 2 * (gc : Int) := IntWalk.i64_in _ (by omega)
     have hw3 : wrap64 (2 * (gc : Int)) = 2 * (gc : Int) := IntWalk.wrap64_in _ (by omega)
     by_cases hg : gc = 8
     · subst hg
       clear hone hv h16 hgl hw2 hw3
       go_enter Tryd.func22, Tryd.ntmps22
       go_wp2_with fail
       go_at_call 41
       refine hV.mono ?_
       rintro e w' ⟨rfl, rfl⟩
       clear hV
       go_wp2_with fail
       go_at_call 42
       refine hG.mono ?_
       rintro e w' ⟨rfl, rfl⟩
       clear hG
       go_wp2_with fail
       go_at_call 43
       refine hR.mono ?_
       rintro e w4 ⟨rfl, hB4⟩
       clear hR
       go_wp2_with fail
       go_ret
       exact ⟨by simp; omega, below_trans hBy hB4⟩
     · have d2 : (2 * (gc : Int) == 16) = false := by rw [beq_eq_false_iff_ne]; omega
       rw [decide_eq_false hg]
       clear hone hv h16 hgl hg hR
       go_enter Tryd.func22, Tryd.ntmps22
       go_wp2_with fail
       go_at_call 41
       refine hV.mono ?_
       rintro e w' ⟨rfl, rfl⟩
       clear hV
       go_wp2_with fail
       go_at_call 42
       refine hG.mono ?_
       rintro e w' ⟨rfl, rfl⟩
       clear hG
       go_wp2_with fail
       go_ret
       exact ⟨rfl, hBx⟩
   · rw [decide_eq_false hv] at hV
     have hone : oneG l = false := by unfold oneG; rw [decide_eq_true h16, decide_eq_false hv]; rfl
     rw [hone]
     clear hone hv h16 hgl hG hR
     go_enter Tryd.func22, Tryd.ntmps22
     go_wp2_with fail
     go_at_call 41
     refine hV.mono ?_
     rintro e w' ⟨rfl, rfl⟩
     clear hV
     go_wp2_with fail
     go_ret
     exact ⟨rfl, hB1⟩
 · have d1 : ((l.length : Int) == 16) = false := by rw [beq_eq_false_iff_ne]; omega
   have hone : oneG l = false := by unfold oneG; rw [decide_eq_false h16]; rfl
   rw [hone]
   clear hone h16
   go_enter Tryd.func22, Tryd.ntmps22
   go_wp2_with fail
   go_ret
   exact ⟨rfl, Below.refl _ _⟩
end Go.Proofs.YtcngnjkpnmpcpaaDoor
