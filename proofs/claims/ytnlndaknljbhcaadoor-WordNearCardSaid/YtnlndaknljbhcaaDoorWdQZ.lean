/- WordNear. -/
import Derived.Test.YtnlndaknljbhcaaDoorTgHaZ
import Derived.Test.YtnlndaknljbhcaaDoorWdOZ
namespace Go.Proofs.YtnlndaknljbhcaaDoor
open Go.RowKit Go.Shelf
attribute [local go_sem] Oper.semAt_some run_store_func

theorem clean_one {x y z : List UInt8} (hx : CleanW x) (h7 : x.length ≤ 7) (h1 : OneE x y) (h2 : OneE y z) (hl : z.length = x.length) : CleanW z :=
  ⟨by have := hx.1; omega, by omega, (Four.one hx.2.2 h1).one h2⟩
theorem RDist_near {x z : List UInt8} (hx : CleanW x) (hz : CleanW z) (hl : z.length = x.length) (hne : z ≠ x) (va vb : Value) (w : World) (hSa : Sl eB w.heap.size w va (wordC z)) (hSb : Sl eB w.heap.size w vb (wordC x)) :
    ∃ d : Nat, 2 < d ∧ Calls Tryd.prog 26 #[va, vb] w fun e w' => e = .returned (.int .i64 d) ∧ Below w.heap.size w w' :=
  RDist_words hx hz hl.symm (Ne.symm hne) va vb w hSa hSb
set_option maxRecDepth 100000 in
set_option maxHeartbeats 4000000 in
theorem WordNear_some (v0 : Value) (x : List UInt8) (q : Int) (w : World) (hS : Sl eB w.heap.size w v0 x) (hT : Tab w) (hTB : TabB w) (hx : CleanW x) (h7 : x.length ≤ 7) :
    Calls Tryd.prog 6 #[v0, .int .i64 q] w fun e w' => e = .returned (.bool true) ∧ Below w.heap.size w w' := by
  have hwk := wwakes_any
  have hcx := fun w h => wclean_any v0 x w h
  rw [decide_eq_true hx] at hcx
  have hMx := fun w h1 h2 h3 => Make_clean x hx v0 w h1 h2 h3
  have hEx := fun w h => Edits_any v0 x (by omega) w h
  have hAp := fun (d : Ed) (hd : d.Ok) => Apply_ed x d hd (by have := hx.1; omega) (by omega)
  have H2 := Lib.hid hx.1
  have H7 := Lib.hid h7
  have Hx := Lib.hid hx
  have d7 : decide ((7 : Int) < (x.length : Int)) = false := decide_eq_false (by omega)
  have d7' : ¬ (7 : Int) < (x.length : Int) := by omega
  have HC : Hid (∀ y z : List UInt8, OneE x y → OneE y z → z.length = x.length → CleanW z) := Lib.hid fun y z h1 h2 h3 => clean_one hx h7 h1 h2 h3
  clear hx h7
  obtain ⟨A, c, rfl⟩ := hS.len
  go_enter Tryd.func6, Tryd.ntmps6
  go_wp2_with fail
  go_at_call 24
  refine (hcx _ hS).mono ?_
  rintro e w' ⟨rfl, rfl⟩
  clear hcx
  go_wp2_with fail
  go_at_call 9
  refine (hMx _ hT hTB hS).mono ?_
  rintro e w3 ⟨hB3, u, rfl, hu⟩
  have hS3 := hS.next hB3
  have hT3 := hT.below hB3
  have hTB3 := hTB.below hB3
  obtain ⟨wx, hwx⟩ : ∃ wx, wordC x = wx := ⟨_, rfl⟩
  rw [hwx] at hu
  have Hwx := Lib.hid hwx
  obtain ⟨Au, cu, rfl⟩ := hu.len
  clear hMx hS hT hTB hwx
  go_wp2_with fail
  go_at_call 27
  refine (hEx _ hS3).mono ?_
  rintro e w5 ⟨v5, rfl, hv5, hB5⟩
  have hS5 := hS3.next hB5
  have hT5 := hT3.below hB5
  have hTB5 := hTB3.below hB5
  have hu5 := hu.next hB5
  have hB5 := below_trans hB3 hB5
  obtain ⟨l, A5, c5, rfl, hlm, hl1, hok, hcl⟩ := hv5.open1
  obtain ⟨i, hi, hat⟩ := at_is q l.length (by omega) hlm
  obtain ⟨d, hd⟩ : ∃ d, l[i]? = some d := ⟨l[i], by simp [hi]⟩
  obtain ⟨g, rfl, hg, q0, q1, q2⟩ := hcl i d hd
  have hdo := hok d (List.mem_of_getElem? hd)
  obtain ⟨y, hy1, hAy⟩ := hAp d hdo
  have hyl := hy1.length
  have hil : (i : Int) < l.length := by omega
  have hi9 : i ≤ 200 := by omega
  have hl0 : ¬ (l.length : Int) = 0 := by omega
  have hl0' : ¬ l.length = 0 := by omega
  have Hy1 := Lib.hid hy1
  have Hyl := Lib.hid hyl
  have HI := Lib.hid (And.intro hi (And.intro hlm hl1))
  have hEy := fun v w h => Edits_any v y (by have := H7.out; omega) w h
  have hAp2 := fun (d : Ed) (hd : d.Ok) => Apply_ed y d hd (by have := H2.out; omega) (by have := H7.out; omega)
  clear hEx hS3 hT3 hTB3 hu hB3 hv5 hcl hok hd hdo hAp hy1 hyl hi hlm hl1
  go_wp2_with fail
  go_at_call 25
  refine (hAy _ _ hS5).mono ?_
  rintro e w7 ⟨v7, rfl, hv7, hB7⟩
  clear hAy q0 q1 q2
  have hS7 := hS5.next hB7
  have hT7 := hT5.below hB7
  have hTB7 := hTB5.below hB7
  have hu7 := hu5.next hB7
  have hB7 := below_trans hB5 hB7
  clear hS5 hT5 hTB5 hu5 hB5
  go_wp2_with fail
  go_at_call 27
  refine (hEy _ _ hv7).mono ?_
  rintro e w8 ⟨v8, rfl, hv8, hB8⟩
  have hv7 := hv7.next hB8
  have hS8 := hS7.next hB8
  have hT8 := hT7.below hB8
  have hTB8 := hTB7.below hB8
  have hu8 := hu7.next hB8
  have hB8 := below_trans hB7 hB8
  obtain ⟨l2, A8, c8, rfl, hlm2, hok2, hcl2⟩ := hv8.open
  clear hEy hS7 hT7 hTB7 hu7 hB7 hv8
  go_wp2_with fail
  go_loopw [10] (fun i wr => ∃ j : Nat, j ≤ l2.length ∧ i = .int .i64 j ∧ Below w8.heap.size w8 wr) (fun i _ => l2.length - (intOf i).toNat)
  case atStart => exact ⟨0, Nat.zero_le _, rfl, Below.refl _ _⟩
  case round =>
    obtain ⟨j, hj, rfl, hB⟩ := hrel
    by_cases hlt : j < l2.length
    · obtain ⟨d2, hd2⟩ : ∃ d, l2[j]? = some d := ⟨l2[j], by simp [hlt]⟩
      obtain ⟨g2, rfl, hg2, q0, q1, q2⟩ := hcl2 j d2 hd2
      have hdo := hok2 d2 (List.mem_of_getElem? hd2)
      obtain ⟨z, hz1, hAz⟩ := hAp2 d2 hdo
      have r0 := (hB.cell (p := ⟨g2, j * 3, none⟩) hg2).trans q0
      have r1 := (hB.cell (p := ⟨g2, j * 3 + 1, none⟩) hg2).trans q1
      have r2 := (hB.cell (p := ⟨g2, j * 3 + 2, none⟩) hg2).trans q2
      have hjl : (j : Int) < l2.length := by omega
      have hSr := (hS8.below hB).more hB.size
      have hvr := (hv7.below hB).more hB.size
      have hur := (hu8.below hB).more hB.size
      have hTr := hT8.below hB
      have hTBr := hTB8.below hB
      have Hj := Lib.hid hlt
      have hj200 : j ≤ 200 := by omega
      have HC := Lib.hid (HC.out y z Hy1.out hz1)
      clear hcl2 hok2 hd2 q0 q1 q2 hz1 hlt hdo hAp2 hS8 hv7 hT8 hTB8 hu8
      go_wp2_with fail
      go_at_call 25
      refine (hAz _ _ hvr).mono ?_
      rintro e w10 ⟨v10, rfl, hv10, hB10⟩
      have hS10 := hSr.next hB10
      have hu10 := hur.next hB10
      have hT10 := hTr.below hB10
      have hTB10 := hTBr.below hB10
      have hBn := hB.trans (hB10.mono hB.size)
      have hsm := same_any v10 _ z x w10.heap.size w10 hv10 hS10
      obtain ⟨A10, c10, rfl⟩ := hv10.len
      clear hAz r0 r1 r2 hvr hSr hur hTr hTBr hB hB10
      by_cases hzl : z.length = x.length
      · have b1 : ((z.length : Int) == (x.length : Int)) = true := by rw [hzl]; simp
        have b2 : ((z.length : Int) != (x.length : Int)) = false := by rw [hzl]; simp
        have b3 : (z.length == x.length) = true := by rw [hzl]; simp
        have Hzl := Lib.hid hzl
        clear hzl
        by_cases hzx : z = x
        · rw [decide_eq_true hzx] at hsm
          clear hzx hv10 hS10 hu10
          go_wp2_with fail
          go_at_call 17
          refine hsm.mono ?_
          rintro e w' ⟨rfl, rfl⟩
          go_wp2_with fail
          go_roundw
          case rel => exact ⟨j + 1, by have := Hj.out; omega, by go_num, hBn⟩
          case measure => have := Hj.out; simp [intOf]; omega
        · rw [decide_eq_false hzx] at hsm
          have hCz := HC.out Hzl.out
          have hMz := fun w h1 h2 h3 => Make_clean z hCz (.slice A10 z.length c10) w h1 h2 h3
          have hD := fun va vb w h1 h2 => RDist_near Hx.out hCz Hzl.out hzx va vb w h1 h2
          rw [Hwx.out] at hD
          clear hzx hCz
          generalize wordC z = wz at *
          go_wp2_with fail
          go_at_call 17
          refine hsm.mono ?_
          rintro e w' ⟨rfl, rfl⟩
          go_wp2_with fail
          go_at_call 9
          refine (hMz _ hT10 hTB10 hv10).mono ?_
          rintro e w11 ⟨hB11, vz, rfl, hvz⟩
          obtain ⟨dd, hdd, hDd⟩ := hD vz _ w11 hvz (hu10.next hB11)
          have g1 : decide ((dd : Int) < 3) = false := decide_eq_false (by omega)
          have g2 : ¬ (dd : Int) < 3 := by omega
          have g3 : ¬ dd < 3 := by omega
          have hBn := hBn.trans (hB11.mono hBn.size)
          obtain ⟨Az, cz, rfl⟩ := hvz.len
          clear hMz hD hsm hv10 hS10 hu10 hT10 hTB10 hB11 hvz hdd
          go_wp2_with fail
          go_at_call 26
          refine hDd.mono ?_
          rintro e w12 ⟨rfl, hB12⟩
          have hBn := hBn.trans (hB12.mono hBn.size)
          go_wp2_with fail
          go_roundw
          case rel => exact ⟨j + 1, by have := Hj.out; omega, by go_num, hBn⟩
          case measure => have := Hj.out; simp [intOf]; omega
      · have hli : ¬ (z.length : Int) = (x.length : Int) := by omega
        have b1 : ((z.length : Int) == (x.length : Int)) = false := by rw [beq_eq_false_iff_ne]; exact hli
        have b2 : ((z.length : Int) != (x.length : Int)) = true := by rw [bne_iff_ne]; exact hli
        have b3 : (z.length == x.length) = false := by simpa using hzl
        clear hzl hli hsm hv10 hS10 hu10
        go_wp2_with fail
        go_roundw
        case rel => exact ⟨j + 1, by have := Hj.out; omega, by go_num, hBn⟩
        case measure => have := Hj.out; simp [intOf]; omega
    · obtain rfl : j = l2.length := by omega
      have hTr := hT8.below hB
      have hTBr := hTB8.below hB
      clear hcl2 hok2 hAp2
      go_wp2_with fail
      go_at_call 8
      refine (hwk _ hTr hTBr).mono ?_
      rintro e w' ⟨rfl, hBw⟩
      go_wp2_with fail
      go_ret
      exact ⟨rfl, below_trans hB8 (below_trans hB hBw)⟩
set_option maxRecDepth 100000 in
set_option maxHeartbeats 4000000 in
theorem WordNear_any (v0 : Value) (x : List UInt8) (q : Int) (w : World) (hS : Sl eB w.heap.size w v0 x) (hT : Tab w) (hTB : TabB w) :
    Calls Tryd.prog 6 #[v0, .int .i64 q] w fun e w' => e = .returned (.bool true) ∧ Below w.heap.size w w' := by
  by_cases hx : CleanW x
  · by_cases h7 : x.length ≤ 7
    · exact WordNear_some v0 x q w hS hT hTB hx h7
    · have hwk := wwakes_any
      have hcx := fun w h => wclean_any v0 x w h
      rw [decide_eq_true hx] at hcx
      have d7 : decide ((7 : Int) < (x.length : Int)) = true := decide_eq_true (by omega)
      have d7' : (7 : Int) < (x.length : Int) := by omega
      clear hx h7
      obtain ⟨A, c, rfl⟩ := hS.len
      go_enter Tryd.func6, Tryd.ntmps6
      go_wp2_with fail
      go_at_call 24
      refine (hcx _ hS).mono ?_
      rintro e w' ⟨rfl, rfl⟩
      go_wp2_with fail
      go_at_call 8
      refine (hwk _ hT hTB).mono ?_
      rintro e w' ⟨rfl, hB⟩
      go_wp2_with fail
      go_ret
      exact ⟨rfl, hB⟩
  · have hwk := wwakes_any
    have hcx := fun w h => wclean_any v0 x w h
    rw [decide_eq_false hx] at hcx
    clear hx
    obtain ⟨A, c, rfl⟩ := hS.len
    go_enter Tryd.func6, Tryd.ntmps6
    go_wp2_with fail
    go_at_call 24
    refine (hcx _ hS).mono ?_
    rintro e w' ⟨rfl, rfl⟩
    go_wp2_with fail
    go_at_call 8
    refine (hwk _ hT hTB).mono ?_
    rintro e w' ⟨rfl, hB⟩
    go_wp2_with fail
    go_ret
    exact ⟨rfl, hB⟩
end Go.Proofs.YtnlndaknljbhcaaDoor
