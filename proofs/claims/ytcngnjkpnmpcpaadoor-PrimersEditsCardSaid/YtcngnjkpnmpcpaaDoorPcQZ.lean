import Derived.Test.YtcngnjkpnmpcpaaDoorGCZ
import Derived.Test.YtcngnjkpnmpcpaaDoorPbAZ
import Derived.Test.YtcngnjkpnmpcpaaDoorPcCZ
import Derived.Test.YtcngnjkpnmpcpaaDoorPcKZ
import Derived.Test.YtcngnjkpnmpcpaaDoorPcOZ
namespace Go.Proofs.YtcngnjkpnmpcpaaDoor
open Go.RowKit Go.Shelf
attribute [local go_sem] Oper.semAt_some run_store_func
abbrev xB (k : UInt8) (z : Int) (b : UInt8) : Array Value := #[eB k, .int .i64 z, eB b]
def EsS (N : World) (x y : List UInt8) (D : Nat → Bool) (g : Nat → Value) (w : World) : Prop :=
 DsS 6 8 N x y D g w ∧ (D 9 = true → Sl eB w.heap.size w (g 9) y)
section
variable {N : World} {x y : List UInt8} {D : Nat → Bool} {g : Nat → Value} {w w' : World}
theorem EsS.same {j : Nat} (h : EsS N x y D g w) (h1 : 6 ≠ j) (h2 : 8 ≠ j) (h3 : 9 ≠ j) : EsS N x y (upd D j) g w := by
 unfold EsS
 rw [upd_other D h3]
 exact ⟨h.1.same h1 h2, h.2⟩
theorem EsS.first {v : Value} (h : EsS N x y D g w) (hB : Below w.heap.size w w') (hv : Sl eB w'.heap.size w' v x) : EsS N x y (upd D 6) (fun j => if j = 6 then v else g j) w' := by
 unfold EsS
 rw [upd_other D (show 9 ≠ 6 by decide)]
 exact ⟨h.1.first (by decide) hB hv, fun hd => (h.2 hd).next hB⟩
theorem EsS.second {v : Value} (h : EsS N x y D g w) (hB : Below w.heap.size w w') (hv : Sl eB w'.heap.size w' v y) : EsS N x y (upd D 8) (fun j => if j = 8 then v else g j) w' := by
 unfold EsS
 rw [upd_other D (show 9 ≠ 8 by decide)]
 exact ⟨h.1.second (by decide) hB hv, fun hd => (h.2 hd).next hB⟩
theorem EsS.third (h : EsS N x y D g w) (h8 : D 8 = true) : EsS N x y (upd D 9) (fun j => if j = 9 then g 8 else g j) w := by
 have hs := h.1.2.2 h8
 obtain ⟨⟨a1, a2, a3⟩, -⟩ := h
 refine ⟨⟨a1, ?_, ?_⟩, fun _ => hs⟩
 · rw [upd_other D (show 6 ≠ 9 by decide)]; exact a2
 · rw [upd_other D (show 8 ≠ 9 by decide)]; exact a3
end
theorem str_appE (a b : List UInt8) : (⟨a.toArray⟩ : ByteArray) ++ ⟨b.toArray⟩ = ⟨(a ++ b).toArray⟩ := by
 apply ByteArray.ext
 simp
set_option maxRecDepth 100000 in
set_option maxHeartbeats 8000000 in
theorem Edits_main (n : Int) (sd : Nat) (hsd : sd < 18446744073709551616) (which : Int) (bh : List UInt8) (k : UInt8) (z : Int) (b : UInt8) (h1 : 1 ≤ n) (h4 : n ≤ 4) (hbh : bh.length ≤ 60) (hE : libE n sd = 0) (w : World) (hT : Tab w) :
    Calls Tryd.prog 5 #[.int .i64 n, .int .u64 sd, .int .i64 which, sV bh, eE k z b] w fun e w' => e = .returned (.bool true) ∧ Below w.heap.size w w' := by
  obtain ⟨hC, hLn, hAe⟩ := lib_fine hE
  have hpar : (allP (libP n sd)).length = 2 * (libP n sd).length := allP_len _
  obtain ⟨p, hp, hat⟩ := place_in which (allP (libP n sd)).length (by omega) (by omega)
  obtain ⟨X, hX⟩ : ∃ X, (allP (libP n sd))[p] = X := ⟨_, rfl⟩
  have h16 := fine_len hC hp
  have hRK := beg_edit_RK hC hp bh hbh k z b
  rw [hX] at h16 hRK
  have hrl := apG_len (X ++ bh) k z b
  have hxl : (X ++ bh).length ≤ 76 := by rw [List.length_append]; omega
  have hap := fun W v (h : Sl eB W.heap.size W v (X ++ bh)) => RApply_any v (X ++ bh) k z b (by rw [List.length_append]; omega) (by omega) W h
  have HLib := Lib.hid (fun W (h : Below w.heap.size w W) => Library_any n sd hsd W (hT.below h))
  have HCh := Lib.hid (fun W v (h : PrsIn W.heap.size W v (libP n sd)) => RCheckP_any v (libP n sd) W h)
  have HAl := Lib.hid (fun W v (h : PrsIn W.heap.size W v (libP n sd)) => RAllP_any v (libP n sd) (by omega) W h)
  have HBg := Lib.hid (fun W v (h : PrsIn W.heap.size W v (libP n sd)) => Begins_any v (libP n sd) (apG (X ++ bh) k z b) (by omega) W h)
  have HWk := Lib.hid (fun W (h : Below w.heap.size w W) => wakes_any W (hT.below h))
  rw [hE] at HLib
  rw [hC] at HCh
  rw [hRK.1, hRK.2] at HBg
  have hx? : (allP (libP n sd))[p]? = some X := by rw [List.getElem?_eq_getElem hp, hX]
  have dn1 : decide (n < (1 : Int)) = false := decide_eq_false (by omega)
  have dn4 : decide ((4 : Int) < n) = false := decide_eq_false (by omega)
  have d60 : decide ((60 : Int) < (bh.length : Int)) = false := decide_eq_false (by omega)
  have hln : (((libP n sd).length : Int) == n) = true := beq_iff_eq.2 hLn
  have hal8 : (allP (libP n sd)).length ≤ 8 := by omega
  have hal0 : 0 < (allP (libP n sd)).length := by omega
  have happ := str_appE X bh
  obtain ⟨y, hy⟩ : ∃ y, apG (X ++ bh) k z b = y := ⟨_, rfl⟩
  rw [hy] at hap HBg
  obtain ⟨xs, hxs⟩ : ∃ xs, X ++ bh = xs := ⟨_, rfl⟩
  rw [hxs] at hap happ
  generalize libP n sd = LP at *
  generalize hall : allP LP = all at *
  have HP := Lib.hid hp
  have HX := Lib.hid hx?
  have HAP := Lib.hid hap
  have HAPP := Lib.hid happ
  have H16 := Lib.hid h16
  have HBH := Lib.hid hbh
  clear hx? hap happ h16 hrl hxl hRK hX hAe hE hC hT hpar hsd hall hy hxs hbh h1 h4
  have hcl : (eE k z b).cells = xB k z b := rfl
  have hA := below_alloc w (.cells (xB k z b) 42)
  have hr0 := Rowed.new w 42 (xB k z b)
  obtain ⟨bk, hbk⟩ : ∃ bk, w.heap.size = bk := ⟨_, rfl⟩
  go_enter Tryd.func5, Tryd.ntmps5
  go_upto_region 1 with fail
  obtain ⟨w0, hw0⟩ : ∃ w0, w.alloc (.cells (xB k z b) 42) = w0 := ⟨_, rfl⟩
  rw [hw0] at hA hr0
  rw [hw0]
  have q := HLib.out w0 hA
  have hlt0 := hr0.lt
  have hdr : Tryd.prog.follows .mixedOrders = true := by kernel_rfl
  clear HLib hw0
  go_wp2_with fail
  go_at_call 10
  refine q.mono ?_
  rintro e w1 ⟨va, rfl, ha, hB1⟩
  have hBt1 := below_trans hA hB1
  have hr1 : Rowed w1 w.heap.size 42 (xB k z b) := (hB1.block _ hlt0).trans hr0
  have q := HCh.out w1 va ha
  obtain ⟨A, c, rfl⟩ := ha.len
  clear HCh hB1 hr0 hA
  go_wp2_with fail
  go_at_call 18
  refine q.mono ?_
  rintro e w2 ⟨rfl, hB2⟩
  have ha2 := ha.next hB2
  have hBt2 := below_trans hBt1 hB2
  have hlt1 := hr1.lt
  have hr2 : Rowed w2 w.heap.size 42 (xB k z b) := (hB2.block _ hlt1).trans hr1
  have q := HAl.out w2 _ ha2
  clear HAl ha hBt1 hB2 hr1
  go_wp2_with fail
  go_at_call 15
  refine q.mono ?_
  rintro e w3 ⟨u, rfl, hown, hB3⟩
  have ha3 := ha2.next hB3
  have hBt3 := below_trans hBt2 hB3
  have hlt2 := hr2.lt
  have hr3 : Rowed w3 w.heap.size 42 (xB k z b) := (hB3.block _ hlt2).trans hr2
  have hlt3 := hr3.lt
  have k0 := hr3.cell 0
  have k1 := hr3.cell 1
  have k2 := hr3.cell 2
  have hek : ∀ W, Below w3.heap.size w3 W → W.cell? ⟨w.heap.size, 0, none⟩ = some (eB k) ∧ W.cell? ⟨w.heap.size, 1, none⟩ = some (.int .i64 z) ∧ W.cell? ⟨w.heap.size, 2, none⟩ = some (eB b) := fun W hW => ⟨(hW.cell (p := ⟨w.heap.size, 0, none⟩) hlt3).trans k0, (hW.cell (p := ⟨w.heap.size, 1, none⟩) hlt3).trans k1, (hW.cell (p := ⟨w.heap.size, 2, none⟩) hlt3).trans k2⟩
  obtain ⟨A2, c2, rfl, -, hcs⟩ := Sl.of_own hown
  obtain ⟨bb, off, rfl, hb, hcell⟩ := hcs hal0
  have hcp := hcell p X HX.out
  have hck : ∀ W, Below w3.heap.size w3 W → W.cell? ⟨bb, off + p, none⟩ = some (sV X) := fun W hW => (hW.cell (p := ⟨bb, off + p, none⟩) hb).trans hcp
  have hL0 : ¬ (all.length : Int) = 0 := by omega
  have hL0' : ¬ all.length = 0 := by omega
  have hpl : (p : Int) < (all.length : Int) := by omega
  have HEK := Lib.hid hek
  have HCK := Lib.hid hck
  have HAL := Lib.hid hal8
  clear hek hck hcp hcell hcs hown ha2 hBt2 hB3 hr2 hr3 k0 k1 k2 hal8 q
  go_wp2_with fail
  refine wp_region_ghost (EsS w3 xs y) (fun g => [(72, .slice (some ⟨bb, off, none⟩) all.length c2), (73, .int .i64 p), (74, .pointer (some ⟨bb, off + p, none⟩)), (75, sV X), (76, sV bh), (77, sV xs), (78, g 6), (79, eE k z b), (80, g 8), (16, g 9)]) (fun _ => undef)
   (by kernel_rfl) (by kernel_rfl) (by kernel_rfl) (by kernel_rfl) (fun _ => by kernel_rfl) ?startM ?okM ?finM
  case startM =>
   intro D hD
   have e6 := hD 6 (by decide)
   have e8 := hD 8 (by decide)
   have e9 := hD 9 (by decide)
   refine ⟨⟨⟨rfl, rfl, rfl, Nat.le_refl _, fun _ _ => rfl⟩, ?_, ?_⟩, ?_⟩
   all_goals (intro h; simp [e6, e8, e9] at h)
  case okM =>
   intro T hT
   simp only [putAll, Act.put, List.setIfInBounds_toArray, List.set_cons_zero, List.set_cons_succ] at hT
   simp only [ghAll]
   refine ⟨?_, ?_, ?_, ?_, ?_, ?_, ?_, ?_, ?_, ?_, trivial⟩
   case refine_1 =>
    refine gh_same fun D g w' hD hdp hS => ?_
    have hS2 := Lib.hid (hS.same (j := 0) (by decide) (by decide) (by decide))
    rw [hT g]
    clear hT hS hdp hD
    go_simp
    exact hS2.out
   case refine_2 =>
    refine gh_same fun D g w' hD hdp hS => ?_
    have hS2 := Lib.hid (hS.same (j := 1) (by decide) (by decide) (by decide))
    rw [hT g]
    clear hT hS hdp hD
    go_simp
    exact hS2.out
   case refine_3 =>
    refine gh_same fun D g w' hD hdp hS => ?_
    have hS2 := Lib.hid (hS.same (j := 2) (by decide) (by decide) (by decide))
    rw [hT g]
    clear hT hS hdp hD
    go_simp
    exact hS2.out
   case refine_4 =>
    refine gh_same fun D g w' hD hdp hS => ?_
    have cx := HCK.out w' hS.1.1
    have hS2 := Lib.hid (hS.same (j := 3) (by decide) (by decide) (by decide))
    rw [hT g]
    clear hT hS hdp hD
    go_simp
    exact hS2.out
   case refine_5 =>
    refine gh_same fun D g w' hD hdp hS => ?_
    have hS2 := Lib.hid (hS.same (j := 4) (by decide) (by decide) (by decide))
    rw [hT g]
    clear hT hS hdp hD
    go_simp
    exact hS2.out
   case refine_6 =>
    refine gh_same fun D g w' hD hdp hS => ?_
    have hS2 := Lib.hid (hS.same (j := 5) (by decide) (by decide) (by decide))
    have happ := HAPP.out
    have hsX : (⟨X.toArray⟩ : ByteArray).size ≤ 16 := by rw [sV_size]; exact Nat.le_of_eq H16.out
    have hsB : (⟨bh.toArray⟩ : ByteArray).size ≤ 60 := by rw [sV_size]; exact HBH.out
    have hsv : ∀ l, sV l = .string ⟨l.toArray⟩ := fun _ => rfl
    rw [hT g]
    clear hT hS hdp hD
    simp only [hsv]
    generalize (⟨X.toArray⟩ : ByteArray) = XB at *
    generalize (⟨bh.toArray⟩ : ByteArray) = BB at *
    generalize (⟨xs.toArray⟩ : ByteArray) = XS at *
    have hno : ¬ 9223372036854775807 < XB.size + BB.size := by omega
    go_simp
    first
     | exact hS2.out
     | exact ⟨rfl, hS2.out⟩
     | exact ⟨congrArg Value.string happ, hS2.out⟩
   case refine_7 =>
    refine gh_put rfl rfl (fun g v => by rw [hT, hT]; rfl) fun D g w' hD hdp hS => ?_
    obtain ⟨cc, w'', hcv, hsl, hbl, -⟩ := to_bytes w' xs
    have hS2 := Lib.hid (hS.first hbl hsl)
    rw [hT g]
    clear hT hS hsl hbl
    go_simp
    exact hS2.out
   case refine_8 =>
    refine gh_same fun D g w' hD hdp hS => ?_
    obtain ⟨cx0, cx1, cx2⟩ := HEK.out w' hS.1.1
    rw [hbk] at cx0 cx1 cx2
    have hS2 := Lib.hid (hS.same (j := 7) (by decide) (by decide) (by decide))
    rw [hT g]
    clear hT hS hdp hD
    go_simp
    exact hS2.out
   case refine_9 =>
    refine gh_put rfl rfl (fun g v => by rw [hT, hT]; rfl) fun D g w' hD hdp hS => ?_
    have hds : D 6 = true := by simp [Region.binds] at hdp; simp [hdp]
    have hq := HAP.out w' (g 6) (hS.1.2.1 hds)
    rw [hT g]
    clear hT
    go_simp
    refine hq.mono ?_
    rintro e w'' ⟨v, rfl, hv, hB⟩
    first
     | exact hS.second hB hv
     | exact ⟨rfl, hS.second hB hv⟩
   case refine_10 =>
    refine gh_put rfl rfl (fun g v => by rw [hT, hT]; rfl) fun D g w' hD hdp hS => ?_
    have hds : D 8 = true := by simp [Region.binds] at hdp; simp [hdp]
    have hS2 := Lib.hid (hS.third hds)
    rw [hT g]
    clear hT hS hdp hD
    go_simp
    exact hS2.out
  case finM =>
   intro T hT D g w6 hD hS
   simp only [putAll, Act.put, List.setIfInBounds_toArray, List.set_cons_zero, List.set_cons_succ] at hT
   rw [hT g]
   have hD9 : D 9 = true := by simp_all
   have hSl := hS.2 hD9
   have hBt6 := below_trans hBt3 hS.1.1
   have ha6 := ha3.next hS.1.1
   have hcv := str_of hSl
   have q := HBg.out w6 _ ha6
   have hWk := fun W (h : Below w6.heap.size w6 W) => HWk.out W (below_trans hBt6 h)
   have hpp : ((p : Int) == (p : Int)) = true := beq_self_eq_true _
   generalize g 9 = v8 at *
   clear hS hT hD hSl hD9 ha3 ha6 HBg HAP HX HEK HCK
   go_wp2_with fail
   go_at_call 12
   refine q.mono ?_
   rintro e w7 ⟨rfl, hB7⟩
   have hWk := hWk w7 hB7
   clear q hcv
   go_wp2_with fail
   go_at_call 9
   refine hWk.mono ?_
   rintro e w8 ⟨rfl, hB8⟩
   clear hWk
   go_wp2_with fail
   go_ret
   exact ⟨rfl, below_trans (below_trans hBt6 hB7) hB8⟩
set_option maxRecDepth 100000 in
set_option maxHeartbeats 4000000 in
theorem Edits_wk (n : Int) (sd : Nat) (which : Int) (bh : List UInt8) (k : UInt8) (z : Int) (b : UInt8) (h : ¬ (1 ≤ n ∧ n ≤ 4 ∧ bh.length ≤ 60)) (w : World) (hT : Tab w) :
    Calls Tryd.prog 5 #[.int .i64 n, .int .u64 sd, .int .i64 which, sV bh, eE k z b] w fun e w' => e = .returned (.bool true) ∧ Below w.heap.size w w' := by
  have HWk := Lib.hid (fun W (h : Below w.heap.size w W) => wakes_any W (hT.below h))
  have hcl : (eE k z b).cells = xB k z b := rfl
  have hA := below_alloc w (.cells (xB k z b) 42)
  by_cases h1 : 1 ≤ n
  case neg =>
   have dn1 : decide (n < (1 : Int)) = true := decide_eq_true (by omega)
   clear h h1 hT
   go_enter Tryd.func5, Tryd.ntmps5
   go_wp2_with fail
   go_at_call 9
   refine (HWk.out _ hA).mono ?_
   rintro e w5 ⟨rfl, hB⟩
   go_wp2_with fail
   go_ret
   exact ⟨rfl, below_trans hA hB⟩
  have dn1 : decide (n < (1 : Int)) = false := decide_eq_false (by omega)
  by_cases h4 : n ≤ 4
  case neg =>
   have dn4 : decide ((4 : Int) < n) = true := decide_eq_true (by omega)
   clear h h1 h4 hT
   go_enter Tryd.func5, Tryd.ntmps5
   go_wp2_with fail
   go_at_call 9
   refine (HWk.out _ hA).mono ?_
   rintro e w5 ⟨rfl, hB⟩
   go_wp2_with fail
   go_ret
   exact ⟨rfl, below_trans hA hB⟩
  have dn4 : decide ((4 : Int) < n) = false := decide_eq_false (by omega)
  have d60 : decide ((60 : Int) < (bh.length : Int)) = true := decide_eq_true (by have : ¬ bh.length ≤ 60 := fun h6 => h ⟨h1, h4, h6⟩; omega)
  clear h h1 h4 hT
  go_enter Tryd.func5, Tryd.ntmps5
  go_wp2_with fail
  go_at_call 9
  refine (HWk.out _ hA).mono ?_
  rintro e w5 ⟨rfl, hB⟩
  go_wp2_with fail
  go_ret
  exact ⟨rfl, below_trans hA hB⟩
set_option maxRecDepth 100000 in
set_option maxHeartbeats 4000000 in
theorem Edits_none (n : Int) (sd : Nat) (hsd : sd < 18446744073709551616) (which : Int) (bh : List UInt8) (k : UInt8) (z : Int) (b : UInt8) (h1 : 1 ≤ n) (h4 : n ≤ 4) (hbh : bh.length ≤ 60) (hE : ¬ libE n sd = 0) (w : World) (hT : Tab w) :
    Calls Tryd.prog 5 #[.int .i64 n, .int .u64 sd, .int .i64 which, sV bh, eE k z b] w fun e w' => e = .returned (.bool true) ∧ Below w.heap.size w w' := by
  have HWk := Lib.hid (fun W (h : Below w.heap.size w W) => wakes_any W (hT.below h))
  have HLib := Lib.hid (fun W (h : Below w.heap.size w W) => Library_any n sd hsd W (hT.below h))
  have HRLib := Lib.hid (fun W => RLibraryP_any n sd hsd W)
  have hcl : (eE k z b).cells = xB k z b := rfl
  have hA := below_alloc w (.cells (xB k z b) 42)
  have dn1 : decide (n < (1 : Int)) = false := decide_eq_false (by omega)
  have dn4 : decide ((4 : Int) < n) = false := decide_eq_false (by omega)
  have d60 : decide ((60 : Int) < (bh.length : Int)) = false := decide_eq_false (by omega)
  have he0 : (libE n sd == 0) = false := by rw [beq_eq_false_iff_ne]; exact hE
  have hee : (libE n sd == libE n sd) = true := beq_self_eq_true _
  generalize libE n sd = LE at *
  generalize libP n sd = LP at *
  clear hE hT h1 h4 hbh hsd
  go_enter Tryd.func5, Tryd.ntmps5
  go_upto_region 1 with fail
  obtain ⟨w0, hw0⟩ : ∃ w0, w.alloc (.cells (xB k z b) 42) = w0 := ⟨_, rfl⟩
  rw [hw0] at hA
  rw [hw0]
  clear hw0
  have q := HLib.out w0 hA
  go_wp2_with fail
  go_at_call 10
  refine q.mono ?_
  rintro e w1 ⟨va, rfl, -, hB1⟩
  have hBt1 := below_trans hA hB1
  have q := HRLib.out w1
  clear hB1 hA
  go_wp2_with fail
  go_at_call 11
  refine q.mono ?_
  rintro e w2 ⟨vb, rfl, -, hB2⟩
  have hBt2 := below_trans hBt1 hB2
  have q := HWk.out w2 hBt2
  clear hB2 hBt1
  go_wp2_with fail
  go_at_call 9
  refine q.mono ?_
  rintro e w3 ⟨rfl, hB3⟩
  go_wp2_with fail
  go_ret
  exact ⟨rfl, below_trans hBt2 hB3⟩
theorem PrimersEdits_any (n : Int) (sd : Nat) (hsd : sd < 18446744073709551616) (which : Int) (bh : List UInt8) (k : UInt8) (z : Int) (b : UInt8) (w : World) (hT : Tab w) :
    Calls Tryd.prog 5 #[.int .i64 n, .int .u64 sd, .int .i64 which, sV bh, eE k z b] w fun e w' => e = .returned (.bool true) ∧ Below w.heap.size w w' := by
  by_cases h : 1 ≤ n ∧ n ≤ 4 ∧ bh.length ≤ 60
  · by_cases hE : libE n sd = 0
    · exact Edits_main n sd hsd which bh k z b h.1 h.2.1 h.2.2 hE w hT
    · exact Edits_none n sd hsd which bh k z b h.1 h.2.1 h.2.2 hE w hT
  · exact Edits_wk n sd which bh k z b h w hT
end Go.Proofs.YtcngnjkpnmpcpaaDoor
