import Derived.Test.YtcngnjkpnmpcpaaDoorPaGZ
namespace Go.Proofs.YtcngnjkpnmpcpaaDoor
open Go.RowKit Go.Shelf
attribute [local go_sem] Oper.semAt_some run_store_func
def chkE (L : List Pr) : Int := if chkB L = true then 0 else 200
set_option maxRecDepth 100000 in
set_option maxHeartbeats 2000000 in
theorem Check_any (v0 : Value) (L : List Pr) (hr : L.length ≤ 1000000) (w : World) (hT : Tab w) (h0 : PrsIn w.heap.size w v0 L) :
    Calls Tryd.prog 17 #[v0] w fun e w' => e = .returned (.int .i64 (chkE L)) ∧ Below w.heap.size w w' := by
  have hmf : ∀ (fn : Fn) (first cap : Array Value) (w : World), (Instr.makeFunc fn first cap).run Tryd.prog w = .ok (.func fn first cap) w := fun _ _ _ _ => rfl
  obtain ⟨A, c, rfl⟩ := h0.len
  have hA1 := below_alloc w (.cells #[.slice A L.length c] 22)
  have hb1 := Boxed.new w 22 (.slice A L.length c)
  have hs1 := World.size_alloc w (.cells #[.slice A L.length c] 22)
  have hlt : w.heap.size < (w.alloc (.cells #[.slice A L.length c] 22)).heap.size := by omega
  obtain ⟨W0, hW0⟩ : ∃ W0, w.alloc (.cells #[.slice A L.length c] 22) = W0 := ⟨_, rfl⟩
  rw [hW0] at hA1 hb1 hs1 hlt
  have hA4 := below_alloc W0 (.cells #[.int .i64 0] 26)
  have hB4 := below_trans hA1 hA4
  have hwk := Check1_is w.heap.size A c L hr (W0.alloc (.cells #[.int .i64 0] 26)) (hT.below hB4) (h0.next hB4) (hb1.alloc _).cell
  have hct := caught_any 35 #[.pointer (some ⟨w.heap.size, 0, none⟩)] w.heap.size W0 hlt (enters_of Tryd.func35 (by kernel_rfl) rfl) (fun _ => chkB L = true) (fun n _ => chkB L = false ∧ n = 200) (by
   unfold WorkIs
   refine hwk.mono ?_
   rintro e w' ⟨hB, ⟨⟨v, rfl⟩, h⟩ | ⟨rfl, h⟩⟩
   · exact ⟨keep_of hB, .inl ⟨⟨v, rfl⟩, h⟩⟩
   · exact ⟨keep_of hB, .inr ⟨200, rfl, h, rfl⟩⟩)
  have HCE := Lib.hid (show (chkB L = true → chkE L = 0) ∧ (chkB L = false → chkE L = 200) from ⟨fun h => if_pos h, fun h => if_neg (by rw [h]; simp)⟩)
  have HW0 := Lib.hid hW0
  clear hwk hA4 hB4 hW0 hT h0
  go_enter Tryd.func17, Tryd.ntmps17
  go_wp2_with fail
  rw [HW0.out]
  go_at_call 27
  refine hct.mono ?_
  rintro e w' ⟨w1, n, hK, rfl, rfl, hlt1, hR⟩
  have hBf : Below w.heap.size w (w1.setCell ⟨W0.heap.size, 0, none⟩ (.int .i64 n)) := (hA1.trans ⟨hK.1.1, hK.1.2.1, hK.1.2.2.1, hK.1.2.2.2, fun k hk => hK.2 k (by omega) (by omega)⟩).setCell (p := ⟨W0.heap.size, 0, none⟩) (by show w.heap.size ≤ W0.heap.size; omega) _
  have hn : n = chkE L := by
   rcases hR with ⟨rfl, h⟩ | ⟨h, rfl⟩
   · exact (HCE.out.1 h).symm
   · exact (HCE.out.2 h).symm
  subst hn
  rw [hs1] at hBf
  clear hct hR
  go_wp2_with fail
  go_ret
  exact ⟨rfl, hBf⟩
def minD (acc d : Int) : Int := if (decide (acc < 0) || decide (d < acc)) = true then d else acc
def leaR (all : List (List UInt8)) (i : Nat) (acc : Int) : Nat → Int
  | 0 => acc
  | k + 1 => minD (leaR all i acc k) (dC (all[i]?.getD []) (all[k]?.getD []))
def leaA (all : List (List UInt8)) : Nat → Int
  | 0 => -1
  | i + 1 => leaR all i (leaA all i) i
theorem leaR_succ (all : List (List UInt8)) (i k : Nat) (acc : Int) (x : List UInt8) (hi : all[i]? = some x) (hk : k < all.length) : leaR all i acc (k + 1) = minD (leaR all i acc k) (dC x all[k]) := by
 rw [leaR, hi, List.getElem?_eq_getElem hk]
 rfl
theorem dC_le (a b : List UInt8) : dC a b ≤ 1000 := by
 unfold dC
 have h := dist_most (cut a) (cut b)
 have h1 : (cut a).length ≤ 1000 := by unfold cut; rw [List.length_take]; omega
 have h2 : (cut b).length ≤ 1000 := by unfold cut; rw [List.length_take]; omega
 omega
set_option maxRecDepth 100000 in
set_option maxHeartbeats 4000000 in
theorem Least_any (v0 : Value) (L : List Pr) (hr : L.length ≤ 1000) (w : World) (h0 : PrsIn w.heap.size w v0 L) :
    Calls Tryd.prog 19 #[v0] w fun e w' => e = .returned (.int .i64 (leaA (allP L) (allP L).length)) ∧ Below w.heap.size w w' := by
  have hAl := All_any v0 L hr w h0
  obtain ⟨A, c, rfl⟩ := h0.len
  have hl2 : (allP L).length ≤ 2000 := by rw [allP_len]; omega
  generalize allP L = all at *
  clear h0
  go_enter Tryd.func19, Tryd.ntmps19
  go_wp2_with fail
  go_at_call 14
  refine hAl.mono ?_
  rintro e w1 ⟨u, rfl, hown, hB⟩
  obtain ⟨A2, c2, rfl, hc, hcs⟩ := Sl.of_own hown
  have HC := Lib.hid hcs
  have HL := Lib.hid hl2
  have HCC := Lib.hid hc
  clear hAl hown hcs hc
  go_wp2_with fail
  go_loopw [3, 14] (fun t i wr => ∃ k : Nat, k ≤ all.length ∧ i = .int .i64 k ∧ t = .int .i64 (leaA all k) ∧ Below w1.heap.size w1 wr) (fun _ i _ => all.length - (RowKit.intOf i).toNat)
  case atStart => exact ⟨0, Nat.zero_le _, rfl, rfl, Below.refl _ _⟩
  case round =>
   obtain ⟨i, hi, rfl, rfl, hB2⟩ := hrel
   by_cases hlt : i < all.length
   · obtain ⟨b, off, rfl, hb, hcell⟩ := HC.out (by omega)
     have hcx := (hB2.cell (p := ⟨b, off + i, none⟩) hb).trans (hcell i all[i] (List.getElem?_eq_getElem hlt))
     have hil : (i : Int) < (all.length : Int) := by omega
     have hi9 : i ≤ 2000 := by have := HL.out; omega
     have hic : i ≤ c2 := by have := HCC.out; omega
     have HCL := Lib.hid hcell
     obtain ⟨xi, hxi⟩ : ∃ x, all[i] = x := ⟨_, rfl⟩
     rw [hxi] at hcx
     have HXI := Lib.hid (show all[i]? = some xi from by rw [List.getElem?_eq_getElem hlt, hxi])
     have Hi := Lib.hid hlt
     clear hxi
     have HSX := Lib.hid (show leaA all (i + 1) = leaR all i (leaA all i) i from rfl)
     clear hlt hi hcell
     have hz1 : ¬ i < 0 := by omega
     go_wp2_with fail
     go_loopw [3, 23] (fun t j wx => ∃ k : Nat, k ≤ i ∧ j = .int .i64 k ∧ t = .int .i64 (leaR all i (leaA all i) k) ∧ Below w1.heap.size w1 wx) (fun _ j _ => i - (RowKit.intOf j).toNat)
     case atStart => exact ⟨0, Nat.zero_le _, rfl, rfl, hB2⟩
     case round =>
      obtain ⟨k, hk, rfl, rfl, hB3⟩ := hrel
      by_cases hlt2 : k < i
      · have hka : k < all.length := Nat.lt_trans hlt2 Hi.out
        have hcy := (hB3.cell (p := ⟨b, off + k, none⟩) hb).trans (HCL.out k all[k] (List.getElem?_eq_getElem hka))
        have hd := pdistance_any xi all[k] wr
        have hki : (k : Int) < (i : Int) := by omega
        have HR := Lib.hid (leaR_succ all i k (leaA all i) xi HXI.out hka)
        have Hk := Lib.hid hlt2
        generalize leaR all i (leaA all i) k = acc at *
        generalize all[k] = y at *
        generalize dC xi y = d at *
        clear hlt2 hka hk hcx
        by_cases ha : acc < 0
        · have da : decide (acc < 0) = true := decide_eq_true ha
          have HM := Lib.hid (show minD acc d = d from by unfold minD; rw [da]; rfl)
          clear ha
          go_wp2_with fail
          go_at_call 37
          refine hd.mono ?_
          rintro e w4 ⟨rfl, hB4⟩
          clear hd
          go_wp2_with fail
          go_roundw
          case rel => exact ⟨k + 1, Hk.out, by go_num, by rw [HR.out, HM.out], hB3.trans (hB4.mono hB3.size)⟩
          case measure => have := Hk.out; simp [RowKit.intOf]; omega
        · have da : decide (acc < 0) = false := decide_eq_false ha
          by_cases hda : (d : Int) < acc
          · have db : decide ((d : Int) < acc) = true := decide_eq_true hda
            have HM := Lib.hid (show minD acc d = d from by unfold minD; rw [da, db]; rfl)
            clear ha hda
            go_wp2_with fail
            go_at_call 37
            refine hd.mono ?_
            rintro e w4 ⟨rfl, hB4⟩
            clear hd
            go_wp2_with fail
            go_roundw
            case rel => exact ⟨k + 1, Hk.out, by go_num, by rw [HR.out, HM.out], hB3.trans (hB4.mono hB3.size)⟩
            case measure => have := Hk.out; simp [RowKit.intOf]; omega
          · have db : decide ((d : Int) < acc) = false := decide_eq_false hda
            have HM := Lib.hid (show minD acc d = acc from by unfold minD; rw [da, db]; rfl)
            clear ha hda
            go_wp2_with fail
            go_at_call 37
            refine hd.mono ?_
            rintro e w4 ⟨rfl, hB4⟩
            clear hd
            go_wp2_with fail
            go_roundw
            case rel => exact ⟨k + 1, Hk.out, by go_num, by rw [HR.out, HM.out], hB3.trans (hB4.mono hB3.size)⟩
            case measure => have := Hk.out; simp [RowKit.intOf]; omega
      · obtain rfl : k = i := by omega
        have h3 : ¬ (k : Int) < (k : Int) := by omega
        clear hlt2 hk hcx
        go_wp2_with fail
        go_roundw
        case rel => exact ⟨k + 1, Hi.out, by go_num, by rw [HSX.out], hB3⟩
        case measure => have := Hi.out; simp [RowKit.intOf]; omega
   · obtain rfl : i = all.length := by omega
     have h3 : ¬ (all.length : Int) < (all.length : Int) := by omega
     clear hlt hi
     go_wp2_with fail
     go_ret
     exact ⟨rfl, below_trans hB hB2⟩
end Go.Proofs.YtcngnjkpnmpcpaaDoor
