import Derived.Test.YtjclfkbhakjdaaaDoorDTZ
import Derived.Test.YtjclfkbhakjdaaaDoorFrQZ
namespace Go.Proofs.YtjclfkbhakjdaaaDoor
open Go.RowKit Go.Shelf
attribute [local go_sem] Oper.semAt_some run_store_func
def ledS (x : UInt8) (l : List UInt8) : Nat := (l.takeWhile (· == x)).length
def runS : List UInt8 → Nat
  | [] => 0
  | x :: t => max (ledS x (x :: t)) (runS t)
theorem led_same (x : UInt8) (t : List UInt8) : ledS x (x :: t) = ledS x t + 1 := by simp [ledS]
theorem led_other {x y : UInt8} (t : List UInt8) (h : y ≠ x) : ledS x (y :: t) = 0 := by simp [ledS, h]
theorem led_iff (x : UInt8) : ∀ (l : List UInt8) (n : Nat), n ≤ ledS x l → (n < ledS x l ↔ l[n]? = some x)
 | [], n, h => by simp [ledS] at h ⊢
 | y :: t, n, h => by
   by_cases e : y = x
   · subst e
     rw [led_same] at h ⊢
     cases n with
     | zero => simp
     | succ n => rw [List.getElem?_cons_succ, ← led_iff y t n (by omega)]; omega
   · rw [led_other t e] at h ⊢
     obtain rfl : n = 0 := by omega
     simp [e]
theorem led_len (x : UInt8) (l : List UInt8) : ledS x l ≤ l.length := (List.takeWhile_prefix _).length_le
set_option maxRecDepth 100000 in
set_option maxHeartbeats 4000000 in
theorem rRun_any (sv : Value) (l : List UInt8) (hreach : l.length ≤ 100000) (w : World) (hS : Sl eB w.heap.size w sv l) :
    Calls Tryd.prog 13 #[sv] w fun e w' => e = .returned (.int .i64 (runS l : Nat)) ∧ Below w.heap.size w w' := by
  obtain ⟨A, cap, rfl, -, hcs⟩ := hS
  have hdr : Tryd.prog.follows .mixedOrders = true := by kernel_rfl
  have HR := Lib.hid hreach
  have HCS := Lib.hid hcs
  clear hcs hreach
  obtain ⟨R, hR⟩ : ∃ R, runS l = R := ⟨_, rfl⟩
  rw [hR]
  go_enter Tryd.func13, Tryd.ntmps13
  go_wp2_with fail
  go_loopw [3, 4] (fun t i wr => ∃ k m : Nat, k ≤ l.length ∧ i = .int .i64 k ∧ t = .int .i64 m ∧ max m (runS (l.drop k)) = R ∧ m ≤ 100000 ∧ Below w.heap.size w wr) (fun _ i _ => l.length - (RowKit.intOf i).toNat)
  case atStart => exact ⟨0, 0, Nat.zero_le _, rfl, rfl, by rw [List.drop_zero, hR]; omega, by omega, Below.refl _ _⟩
  case round =>
   obtain ⟨k, m, hk, rfl, rfl, hm, hm9, hB⟩ := hrel
   by_cases hlt : k < l.length
   · obtain ⟨b, off, rfl, hb, hcell⟩ := HCS.out (by omega)
     have hll := HR.out
     have hkl : (k : Int) < (l.length : Int) := by omega
     have hkw : 0 ≤ (k : Int) := by omega
     have hld := led_len l[k] (l.drop k)
     rw [List.length_drop] at hld
     have hli := led_iff l[k] (l.drop k)
     have hx := hcell k l[k] (List.getElem?_eq_getElem hlt)
     rw [List.drop_eq_getElem_cons hlt, runS, ← List.drop_eq_getElem_cons hlt] at hm
     generalize l[k] = x at *
     generalize ledS x (l.drop k) = T at *
     have HLI := Lib.hid (show ∀ n, n ≤ T → (n < T ↔ l[k + n]? = some x) from fun n hn => by rw [hli n hn, List.getElem?_drop])
     have HX := Lib.hid hx
     have HC := Lib.hid hcell
     have HK := Lib.hid hlt
     have HM := Lib.hid hm
     clear hlt hk hm hli hx hcell
     go_wp2_with fail
     go_loopw [5, 6] (fun t j wr => ∃ n : Nat, n ≤ T ∧ t = .int .i64 n ∧ j = .int .i64 (k + n : Nat) ∧ Below w.heap.size w wr) (fun _ j _ => l.length - (RowKit.intOf j).toNat)
     case atStart => exact ⟨0, Nat.zero_le _, rfl, rfl, hB⟩
     case round =>
      obtain ⟨n, hn, rfl, rfl, hB2⟩ := hrel
      by_cases hin : k + n < l.length
      · obtain ⟨y, hy⟩ : ∃ y, l[k + n] = y := ⟨_, rfl⟩
        have hiff := HLI.out n hn
        rw [List.getElem?_eq_getElem hin, hy] at hiff
        have hcy := HC.out (k + n) y (by rw [List.getElem?_eq_getElem hin, hy])
        have hck : ∀ W, Below wr.heap.size wr W → W.cell? ⟨b, off + (k + n), none⟩ = some (eB y) ∧ W.cell? ⟨b, off + k, none⟩ = some (eB x) := fun W hW =>
         have h := hB2.trans (hW.mono hB2.size)
         ⟨(h.cell (p := ⟨b, off + (k + n), none⟩) hb).trans hcy, (h.cell (p := ⟨b, off + k, none⟩) hb).trans HX.out⟩
        obtain ⟨bb, hbb⟩ : ∃ bb, ((y.toNat : Int) == (x.toNat : Int)) = bb := ⟨_, rfl⟩
        have hbT : bb = true ↔ n < T := by
         rw [hiff, ← hbb, beq_iff_eq]
         constructor
         · intro e; rw [UInt8.toNat_inj.1 (by omega : y.toNat = x.toNat)]
         · intro e; injection e with e; rw [e]
        have hin2 : ((k + n : Nat) : Int) < (l.length : Int) := by omega
        have HIN := Lib.hid hin
        have HN := Lib.hid hn
        clear hiff hcy hy hin hn
        generalize hkn : k + n = q at *
        have HQ := Lib.hid hkn
        clear hkn
        have hSd : Below w.heap.size w wr.drew := hB2.trans ⟨rfl, rfl, rfl, Nat.le_refl _, fun _ _ => rfl⟩
        have hSd2 : Below wr.heap.size wr wr.drew := ⟨rfl, rfl, rfl, Nat.le_refl _, fun _ _ => rfl⟩
        have HB2 := Lib.hid hB2
        have HBT := Lib.hid hbT
        have hkl2 : (k : Int) < (l.length : Int) := hkl
        clear hbT hSd hB2 hB hld
        go_wp2_with fail
        refine wp_region_det (Below wr.heap.size wr) [(14, .int .i64 q), (15, .slice (some ⟨b, off, none⟩) l.length cap), (16, .int .i64 l.length), (17, .bool true), (18, .bool true), (19, .slice (some ⟨b, off, none⟩) l.length cap), (20, .int .i64 q), (21, .pointer (some ⟨b, off + q, none⟩)), (22, eB y), (23, .slice (some ⟨b, off, none⟩) l.length cap), (24, .int .i64 k), (25, .pointer (some ⟨b, off + k, none⟩)), (26, eB x), (27, .bool bb), (28, .bool bb)]
          (by kernel_rfl) (by kernel_rfl) (by kernel_rfl) (by kernel_rfl) (by kernel_rfl) hSd2 ?ok1 ?fin1
        case ok1 =>
         intro A' hA'
         simp only [putAll, Act.put, List.setIfInBounds_toArray, List.set_cons_zero, List.set_cons_succ] at hA'
         subst hA'
         simp only [detAll]
         refine ⟨?_, ?_, ?_, ?_, ?_, ?_, ?_, ?_, ?_, ?_, ?_, ?_, ?_, ?_, ?_, trivial⟩
         all_goals
          intro w' hS'
          obtain ⟨cc1, cc2⟩ := hck w' hS'
          clear hck
          go_simp
          first
           | exact hS'
           | exact ⟨rfl, hS'⟩
           | done
        case fin1 =>
         intro A' hA' w6 hS6
         simp only [putAll, Act.put, List.setIfInBounds_toArray, List.set_cons_zero, List.set_cons_succ] at hA'
         subst hA'
         have HS6 := Lib.hid (HB2.out.trans (hS6.mono HB2.out.size))
         have hn9 : n ≤ 100000 := by have := HQ.out; have := HIN.out; omega
         have hq9 : q ≤ 100000 := by have := HIN.out; omega
         clear hck hSd2 hS6
         cases bb with
         | true =>
           clear hbb
           go_wp2_with fail
           go_roundw
           case rel => exact ⟨n + 1, HBT.out.1 rfl, by go_num, by have := HQ.out; go_num, HS6.out⟩
           case measure => have := HIN.out; simp [RowKit.intOf]; omega
         | false =>
           clear hbb
           have hnT : n = T := by have := HN.out; have h2 := HBT.out; simp at h2; omega
           subst hnT
           go_wp2_with fail
           go_roundw
           case rel => exact ⟨k + 1, max m n, HK.out, by go_num, by go_num, by have := HM.out; omega, by omega, HS6.out⟩
           case measure => have := HK.out; simp [RowKit.intOf]; omega
      · have hnT : n = T := by
          have := HLI.out n hn
          rw [List.getElem?_eq_none (by omega)] at this
          simp at this
          omega
        subst hnT
        have hin2 : ¬ ((k + n : Nat) : Int) < (l.length : Int) := by omega
        have hd2 : decide (((k + n : Nat) : Int) < (l.length : Int)) = false := decide_eq_false hin2
        have hSd2 : Below wr.heap.size wr wr.drew := ⟨rfl, rfl, rfl, Nat.le_refl _, fun _ _ => rfl⟩
        have HB2 := Lib.hid hB2
        have hn9 : n ≤ 100000 := by omega
        generalize hkn : k + n = q at *
        clear hkn hin hn hB2 hB hld
        go_wp2_with fail
        refine wp_region_det (Below wr.heap.size wr) [(14, .int .i64 q), (15, .slice (some ⟨b, off, none⟩) l.length cap), (16, .int .i64 l.length), (17, .bool false), (18, .bool false), (19, undef), (20, undef), (21, undef), (22, undef), (23, undef), (24, undef), (25, undef), (26, undef), (27, undef), (28, .bool false)]
          (by kernel_rfl) (by kernel_rfl) (by kernel_rfl) (by kernel_rfl) (by kernel_rfl) hSd2 ?ok2 ?fin2
        case ok2 =>
         intro A' hA'
         simp only [putAll, Act.put, List.setIfInBounds_toArray, List.set_cons_zero, List.set_cons_succ] at hA'
         subst hA'
         simp only [detAll]
         refine ⟨?_, ?_, ?_, ?_, ?_, ?_, ?_, ?_, ?_, ?_, ?_, ?_, ?_, ?_, ?_, trivial⟩
         all_goals
          intro w' hS'
          go_simp
          first
           | exact hS'
           | exact ⟨rfl, hS'⟩
           | (refine ⟨?_, hS'⟩; omega)
           | omega
           | done
        case fin2 =>
         intro A' hA' w6 hS6
         simp only [putAll, Act.put, List.setIfInBounds_toArray, List.set_cons_zero, List.set_cons_succ] at hA'
         subst hA'
         have HS6 := Lib.hid (HB2.out.trans (hS6.mono HB2.out.size))
         clear hSd2 hS6
         go_wp2_with fail
         go_roundw
         case rel => exact ⟨k + 1, max m n, HK.out, by go_num, by go_num, by have := HM.out; omega, by omega, HS6.out⟩
         case measure => have := HK.out; simp [RowKit.intOf]; omega
   · obtain rfl : k = l.length := by omega
     have h3 : ¬ (l.length : Int) < (l.length : Int) := by omega
     rw [List.drop_length] at hm
     have hm2 : m = R := by simpa [runS] using hm
     subst hm2
     clear hlt hk hm HCS
     go_wp2_with fail
     go_ret
     exact ⟨rfl, hB⟩
end Go.Proofs.YtjclfkbhakjdaaaDoor
namespace Go.Proofs.YtjclfkbhakjdaaaDoor
open Go.RowKit Go.Shelf
attribute [local go_sem] Oper.semAt_some run_store_func
theorem same_any (sa sb : Value) (a b : List UInt8) (B : Nat) (w : World) (ha : Sl eB B w sa a) (hb : Sl eB B w sb b) :
    Calls Tryd.prog 14 #[sa, sb] w fun e w' => e = .returned (.bool (decide (a = b))) ∧ w = w' := by
  have ra := run_str (P := Tryd.prog) ha 24 9 5 Tryd.underlying24 Tryd.underlying5 Tryd.underlying9
  have rb := run_str (P := Tryd.prog) hb 24 9 5 Tryd.underlying24 Tryd.underlying5 Tryd.underlying9
  obtain ⟨Aa, ca, rfl⟩ := ha.len
  obtain ⟨Ab, cb, rfl⟩ := hb.len
  clear ha hb
  go_enter Tryd.func14, Tryd.ntmps14
  go_wp2
  go_ret
  exact ⟨by rw [← beq_dec]; rfl, rfl⟩
set_option maxRecDepth 100000 in
set_option maxHeartbeats 4000000 in
theorem RSame_any (G PL G' PL' : Int) (pv pv' : Value) (pay pay' : List UInt8) (w : World) (hS : Sl eB w.heap.size w pv pay) (hS' : Sl eB w.heap.size w pv' pay') :
    Calls Tryd.prog 10 #[frV G PL pv, frV G' PL' pv'] w fun e w' => e = .returned (.bool (decide (G = G' ∧ PL = PL' ∧ pay = pay'))) ∧ Below w.heap.size w w' := by
  obtain ⟨A, c, rfl⟩ := hS.len
  obtain ⟨A', c', rfl⟩ := hS'.len
  have hc1 : (frV G PL (.slice A pay.length c)).cells = frB G PL (.slice A pay.length c) := rfl
  have hc2 : (frV G' PL' (.slice A' pay'.length c')).cells = frB G' PL' (.slice A' pay'.length c') := rfl
  obtain ⟨W0, hW0⟩ : ∃ W0, (w.alloc (.cells (frB G PL (.slice A pay.length c)) 26)).alloc (.cells (frB G' PL' (.slice A' pay'.length c')) 26) = W0 := ⟨_, rfl⟩
  have hA : Below w.heap.size w W0 := by rw [← hW0]; exact (below_alloc w _).alloc (by simp) _
  have h0 : Rowed W0 w.heap.size 26 (frB G PL (.slice A pay.length c)) := by rw [← hW0]; exact (Rowed.new w 26 _).alloc _
  have h1 : Rowed W0 (w.heap.size + 1) 26 (frB G' PL' (.slice A' pay'.length c')) := by
   rw [← hW0]
   have := Rowed.new (w.alloc (.cells (frB G PL (.slice A pay.length c)) 26)) 26 (frB G' PL' (.slice A' pay'.length c'))
   rwa [World.size_alloc] at this
  have ra := run_str (P := Tryd.prog) (hS.next hA) 24 9 5 Tryd.underlying24 Tryd.underlying5 Tryd.underlying9
  have rb := run_str (P := Tryd.prog) (hS'.next hA) 24 9 5 Tryd.underlying24 Tryd.underlying5 Tryd.underlying9
  have k0 := h0.cell 0
  have k1 := h0.cell 1
  have k2 := h0.cell 2
  have j0 := h1.cell 0
  have j1 := h1.cell 1
  have j2 := h1.cell 2
  have HA := Lib.hid hA
  clear hS hS' h0 h1 hA
  by_cases hG : G = G'
  case neg =>
   have e : (G == G') = false := by rw [beq_eq_false_iff_ne]; exact hG
   have HE := Lib.hid (show decide (G = G' ∧ PL = PL' ∧ pay = pay') = false from decide_eq_false fun h => hG h.1)
   clear hG
   go_enter Tryd.func10, Tryd.ntmps10
   go_wp2_with fail
   go_ret
   exact ⟨by rw [HE.out]; rfl, HA.out⟩
  have e : (G == G') = true := beq_iff_eq.2 hG
  by_cases hP : PL = PL'
  case neg =>
   have e2 : (PL == PL') = false := by rw [beq_eq_false_iff_ne]; exact hP
   have HE := Lib.hid (show decide (G = G' ∧ PL = PL' ∧ pay = pay') = false from decide_eq_false fun h => hP h.2.1)
   clear hP hG
   go_enter Tryd.func10, Tryd.ntmps10
   go_wp2_with fail
   go_ret
   exact ⟨by rw [HE.out]; rfl, HA.out⟩
  have e2 : (PL == PL') = true := beq_iff_eq.2 hP
  have HE := Lib.hid (show decide (G = G' ∧ PL = PL' ∧ pay = pay') = decide (pay = pay') from decide_eq_decide.2 ⟨fun h => h.2.2, fun h => ⟨hG, hP, h⟩⟩)
  clear hP hG
  go_enter Tryd.func10, Tryd.ntmps10
  go_wp2_with fail
  go_ret
  exact ⟨by rw [HE.out, ← beq_dec]; rfl, HA.out⟩
end Go.Proofs.YtjclfkbhakjdaaaDoor
