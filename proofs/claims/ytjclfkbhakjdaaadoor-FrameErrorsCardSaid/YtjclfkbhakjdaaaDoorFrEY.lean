import Derived.Deep.Cut
import Derived.Test.YtjclfkbhakjdaaaDoorFrDY
import Derived.Test.YtjclfkbhakjdaaaDoorShDY
namespace Go.Proofs.YtjclfkbhakjdaaaDoor
open Go.RowKit Go.Shelf
attribute [local go_sem] Oper.semAt_some run_store_func
abbrev shV (P D R : Int) : Value := .agg #[.int .i64 P, .int .i64 D, .int .i64 R]
abbrev shB (P D R : Int) : Array Value := #[.int .i64 P, .int .i64 D, .int .i64 R]
def chkF (P D R G PL : Int) (n : Nat) : Int := if Sh.May P D R then (if 0 ≤ G ∧ G ≤ 65535 ∧ 0 ≤ PL ∧ PL < D + R ∧ (n : Int) = P then 0 else 2) else 180
set_option maxRecDepth 100000 in
set_option maxHeartbeats 4000000 in
theorem FCheck_no (P D R G PL : Int) (v : Value) (hM : ¬ Sh.May P D R) (w : World) (hT : Sh.Tab w) :
    Calls Tryd.prog 15 #[shV P D R, frV G PL v] w fun e w' => e = .returned (.int .i64 180) ∧ Below w.heap.size w w' := by
  have hc1 : (shV P D R).cells = shB P D R := rfl
  have hc2 : (frV G PL v).cells = frB G PL v := rfl
  obtain ⟨W0, hW0⟩ : ∃ W0, (w.alloc (.cells (shB P D R) 23)).alloc (.cells (frB G PL v) 26) = W0 := ⟨_, rfl⟩
  have hA : Below w.heap.size w W0 := by rw [← hW0]; exact (below_alloc w _).alloc (by simp) _
  have hr : Rowed W0 w.heap.size 23 (shB P D R) := by rw [← hW0]; exact (Rowed.new w 23 (shB P D R)).alloc _
  have k0 := hr.cell 0
  have k1 := hr.cell 1
  have k2 := hr.cell 2
  have hq := Sh.Check_no P D R hM W0 (hT.below hA)
  clear hM
  go_enter Tryd.func15, Tryd.ntmps15
  go_upto_region 1 with fail
  clear hW0
  go_wp2_with fail
  go_at_call 30
  refine hq.mono ?_
  rintro e w1 ⟨rfl, hB⟩
  go_wp2_with fail
  go_ret
  exact ⟨rfl, below_trans hA hB⟩
set_option maxRecDepth 100000 in
set_option maxHeartbeats 8000000 in
theorem FCheck_may (P D R G PL : Int) (pv : Value) (pay : List UInt8) (hM : Sh.May P D R) (w : World) (hT : Sh.Tab w) (hS : Sl eB w.heap.size w pv pay) :
    Calls Tryd.prog 15 #[shV P D R, frV G PL pv] w fun e w' => e = .returned (.int .i64 (chkF P D R G PL pay.length)) ∧ Below w.heap.size w w' := by
  obtain ⟨A, c, rfl⟩ := hS.len
  obtain ⟨v, hv⟩ : ∃ v, Value.slice A pay.length c = v := ⟨_, rfl⟩
  have hc1 : (shV P D R).cells = shB P D R := rfl
  have hc2 : (frV G PL (.slice A pay.length c)).cells = frB G PL (.slice A pay.length c) := rfl
  obtain ⟨W0, hW0⟩ : ∃ W0, (w.alloc (.cells (shB P D R) 23)).alloc (.cells (frB G PL (.slice A pay.length c)) 26) = W0 := ⟨_, rfl⟩
  have hA : Below w.heap.size w W0 := by rw [← hW0]; exact (below_alloc w _).alloc (by simp) _
  have hr : Rowed W0 w.heap.size 23 (shB P D R) := by rw [← hW0]; exact (Rowed.new w 23 (shB P D R)).alloc _
  have hs : Rowed W0 (w.heap.size + 1) 26 (frB G PL (.slice A pay.length c)) := by
   rw [← hW0]
   have := Rowed.new (w.alloc (.cells (shB P D R) 23)) 26 (frB G PL (.slice A pay.length c))
   rwa [World.size_alloc] at this
  have k0 := hr.cell 0
  have k1 := hr.cell 1
  have k2 := hr.cell 2
  have hq := Sh.Check_yes P D R hM W0 (hT.below hA)
  have hw : IntKind.i64.wrap (D + R) = D + R := IntWalk.i64_in _ (by obtain ⟨-, h1, h2, h3, h4⟩ := hM; omega)
  have HF := Lib.hid (show chkF P D R G PL pay.length = if 0 ≤ G ∧ G ≤ 65535 ∧ 0 ≤ PL ∧ PL < D + R ∧ (pay.length : Int) = P then 0 else 2 from if_pos hM)
  have hN : ∃ e : Int, chkF P D R G PL pay.length = e := ⟨_, rfl⟩
  obtain ⟨E, hE⟩ := hN
  rw [hE] at HF ⊢
  clear hM hS hE hv
  go_enter Tryd.func15, Tryd.ntmps15
  go_upto_region 1 with fail
  clear hW0
  go_wp2_with fail
  go_at_call 30
  refine hq.mono ?_
  rintro e w1 ⟨rfl, hB⟩
  have hr1 : Rowed w1 w.heap.size 23 (shB P D R) := (hB.block _ hr.lt).trans hr
  have hs1 : Rowed w1 (w.heap.size + 1) 26 (frB G PL (.slice A pay.length c)) := (hB.block _ hs.lt).trans hs
  have HB := Lib.hid (below_trans hA hB)
  have j0 := hr1.cell 0
  have j1 := hr1.cell 1
  have j2 := hr1.cell 2
  have f0 := hs1.cell 0
  have f1 := hs1.cell 1
  have f2 := hs1.cell 2
  clear hq hr hs hr1 hs1 hA hB k0 k1 k2
  by_cases dG : G < 0
  · have hdG : decide (G < (0 : Int)) = true := decide_eq_true dG
    have HE := Lib.hid (show E = 2 from by rw [HF.out, if_neg (by omega)])
    clear dG
    go_wp2_with fail
    go_ret
    exact ⟨by rw [HE.out]; rfl, HB.out⟩
  have hdG : decide (G < (0 : Int)) = false := decide_eq_false dG
  by_cases dH : 65535 < G
  · have hdH : decide ((65535 : Int) < G) = true := decide_eq_true dH
    have HE := Lib.hid (show E = 2 from by rw [HF.out, if_neg (by omega)])
    clear dG dH
    go_wp2_with fail
    go_ret
    exact ⟨by rw [HE.out]; rfl, HB.out⟩
  have hdH : decide ((65535 : Int) < G) = false := decide_eq_false dH
  by_cases dP : PL < 0
  · have hdP : decide (PL < (0 : Int)) = true := decide_eq_true dP
    have HE := Lib.hid (show E = 2 from by rw [HF.out, if_neg (by omega)])
    clear dG dH dP
    go_wp2_with fail
    go_ret
    exact ⟨by rw [HE.out]; rfl, HB.out⟩
  have hdP : decide (PL < (0 : Int)) = false := decide_eq_false dP
  by_cases dQ : D + R ≤ PL
  · have hdQ : decide (D + R ≤ PL) = true := decide_eq_true dQ
    have HE := Lib.hid (show E = 2 from by rw [HF.out, if_neg (by omega)])
    clear dG dH dP dQ
    go_wp2_with fail
    go_ret
    exact ⟨by rw [HE.out]; rfl, HB.out⟩
  have hdQ : decide (D + R ≤ PL) = false := decide_eq_false dQ
  by_cases dN : (pay.length : Int) = P
  · have hN : ((pay.length : Int) == P) = true := beq_iff_eq.2 dN
    have HE := Lib.hid (show E = 0 from by rw [HF.out, if_pos ⟨by omega, by omega, by omega, by omega, dN⟩])
    clear dG dH dP dQ dN
    go_wp2_with fail
    go_ret
    exact ⟨by rw [HE.out]; rfl, HB.out⟩
  · have hN : ((pay.length : Int) == P) = false := by rw [beq_eq_false_iff_ne]; exact dN
    have HE := Lib.hid (show E = 2 from by rw [HF.out, if_neg (fun h => dN h.2.2.2.2)])
    clear dG dH dP dQ dN
    go_wp2_with fail
    go_ret
    exact ⟨by rw [HE.out]; rfl, HB.out⟩
theorem FCheck_any (P D R G PL : Int) (pv : Value) (pay : List UInt8) (w : World) (hT : Sh.Tab w) (hS : Sl eB w.heap.size w pv pay) :
    Calls Tryd.prog 15 #[shV P D R, frV G PL pv] w fun e w' => e = .returned (.int .i64 (chkF P D R G PL pay.length)) ∧ Below w.heap.size w w' := by
  by_cases hM : Sh.May P D R
  · exact FCheck_may P D R G PL pv pay hM w hT hS
  · rw [show chkF P D R G PL pay.length = 180 from if_neg hM]
    exact FCheck_no P D R G PL pv hM w hT
set_option maxRecDepth 100000 in
set_option maxHeartbeats 4000000 in
theorem RFCheck_no (P D R G PL : Int) (v : Value) (hM : ¬ Sh.May P D R) (w : World) :
    Calls Tryd.prog 8 #[shV P D R, frV G PL v] w fun e w' => e = .returned (.int .i64 180) ∧ Below w.heap.size w w' := by
  have hc1 : (shV P D R).cells = shB P D R := rfl
  have hc2 : (frV G PL v).cells = frB G PL v := rfl
  obtain ⟨W0, hW0⟩ : ∃ W0, (w.alloc (.cells (shB P D R) 23)).alloc (.cells (frB G PL v) 26) = W0 := ⟨_, rfl⟩
  have hA : Below w.heap.size w W0 := by rw [← hW0]; exact (below_alloc w _).alloc (by simp) _
  have hr : Rowed W0 w.heap.size 23 (shB P D R) := by rw [← hW0]; exact (Rowed.new w 23 (shB P D R)).alloc _
  have k0 := hr.cell 0
  have k1 := hr.cell 1
  have k2 := hr.cell 2
  have hq := Sh.RefCheck_no P D R hM W0
  clear hM
  go_enter Tryd.func8, Tryd.ntmps8
  go_upto_region 1 with fail
  clear hW0
  go_wp2_with fail
  go_at_call 25
  refine hq.mono ?_
  rintro e w1 ⟨rfl, hB⟩
  go_wp2_with fail
  go_ret
  exact ⟨rfl, below_trans hA hB⟩
set_option maxRecDepth 100000 in
set_option maxHeartbeats 8000000 in
theorem RFCheck_may (P D R G PL : Int) (pv : Value) (pay : List UInt8) (hM : Sh.May P D R) (w : World) (hS : Sl eB w.heap.size w pv pay) :
    Calls Tryd.prog 8 #[shV P D R, frV G PL pv] w fun e w' => e = .returned (.int .i64 (chkF P D R G PL pay.length)) ∧ Below w.heap.size w w' := by
  obtain ⟨A, c, rfl⟩ := hS.len
  obtain ⟨v, hv⟩ : ∃ v, Value.slice A pay.length c = v := ⟨_, rfl⟩
  have hc1 : (shV P D R).cells = shB P D R := rfl
  have hc2 : (frV G PL (.slice A pay.length c)).cells = frB G PL (.slice A pay.length c) := rfl
  obtain ⟨W0, hW0⟩ : ∃ W0, (w.alloc (.cells (shB P D R) 23)).alloc (.cells (frB G PL (.slice A pay.length c)) 26) = W0 := ⟨_, rfl⟩
  have hA : Below w.heap.size w W0 := by rw [← hW0]; exact (below_alloc w _).alloc (by simp) _
  have hr : Rowed W0 w.heap.size 23 (shB P D R) := by rw [← hW0]; exact (Rowed.new w 23 (shB P D R)).alloc _
  have hs : Rowed W0 (w.heap.size + 1) 26 (frB G PL (.slice A pay.length c)) := by
   rw [← hW0]
   have := Rowed.new (w.alloc (.cells (shB P D R) 23)) 26 (frB G PL (.slice A pay.length c))
   rwa [World.size_alloc] at this
  have k0 := hr.cell 0
  have k1 := hr.cell 1
  have k2 := hr.cell 2
  have hq := Sh.RefCheck_yes P D R hM W0
  have hw : IntKind.i64.wrap (D + R) = D + R := IntWalk.i64_in _ (by obtain ⟨-, h1, h2, h3, h4⟩ := hM; omega)
  have HF := Lib.hid (show chkF P D R G PL pay.length = if 0 ≤ G ∧ G ≤ 65535 ∧ 0 ≤ PL ∧ PL < D + R ∧ (pay.length : Int) = P then 0 else 2 from if_pos hM)
  have hN : ∃ e : Int, chkF P D R G PL pay.length = e := ⟨_, rfl⟩
  obtain ⟨E, hE⟩ := hN
  rw [hE] at HF ⊢
  clear hM hS hE hv
  go_enter Tryd.func8, Tryd.ntmps8
  go_upto_region 1 with fail
  clear hW0
  go_wp2_with fail
  go_at_call 25
  refine hq.mono ?_
  rintro e w1 ⟨rfl, hB⟩
  have hr1 : Rowed w1 w.heap.size 23 (shB P D R) := (hB.block _ hr.lt).trans hr
  have hs1 : Rowed w1 (w.heap.size + 1) 26 (frB G PL (.slice A pay.length c)) := (hB.block _ hs.lt).trans hs
  have HB := Lib.hid (below_trans hA hB)
  have j0 := hr1.cell 0
  have j1 := hr1.cell 1
  have j2 := hr1.cell 2
  have f0 := hs1.cell 0
  have f1 := hs1.cell 1
  have f2 := hs1.cell 2
  clear hq hr hs hr1 hs1 hA hB k0 k1 k2
  by_cases dG : G < 0
  · have hdG : decide (G < (0 : Int)) = true := decide_eq_true dG
    have HE := Lib.hid (show E = 2 from by rw [HF.out, if_neg (by omega)])
    clear dG
    go_wp2_with fail
    go_ret
    exact ⟨by rw [HE.out]; rfl, HB.out⟩
  have hdG : decide (G < (0 : Int)) = false := decide_eq_false dG
  by_cases dH : 65535 < G
  · have hdH : decide ((65535 : Int) < G) = true := decide_eq_true dH
    have HE := Lib.hid (show E = 2 from by rw [HF.out, if_neg (by omega)])
    clear dG dH
    go_wp2_with fail
    go_ret
    exact ⟨by rw [HE.out]; rfl, HB.out⟩
  have hdH : decide ((65535 : Int) < G) = false := decide_eq_false dH
  by_cases dP : PL < 0
  · have hdP : decide (PL < (0 : Int)) = true := decide_eq_true dP
    have HE := Lib.hid (show E = 2 from by rw [HF.out, if_neg (by omega)])
    clear dG dH dP
    go_wp2_with fail
    go_ret
    exact ⟨by rw [HE.out]; rfl, HB.out⟩
  have hdP : decide (PL < (0 : Int)) = false := decide_eq_false dP
  by_cases dQ : D + R ≤ PL
  · have hdQ : decide (D + R ≤ PL) = true := decide_eq_true dQ
    have HE := Lib.hid (show E = 2 from by rw [HF.out, if_neg (by omega)])
    clear dG dH dP dQ
    go_wp2_with fail
    go_ret
    exact ⟨by rw [HE.out]; rfl, HB.out⟩
  have hdQ : decide (D + R ≤ PL) = false := decide_eq_false dQ
  by_cases dN : (pay.length : Int) = P
  · have hN : ((pay.length : Int) == P) = true := beq_iff_eq.2 dN
    have HE := Lib.hid (show E = 0 from by rw [HF.out, if_pos ⟨by omega, by omega, by omega, by omega, dN⟩])
    clear dG dH dP dQ dN
    go_wp2_with fail
    go_ret
    exact ⟨by rw [HE.out]; rfl, HB.out⟩
  · have hN : ((pay.length : Int) == P) = false := by rw [beq_eq_false_iff_ne]; exact dN
    have HE := Lib.hid (show E = 2 from by rw [HF.out, if_neg (fun h => dN h.2.2.2.2)])
    clear dG dH dP dQ dN
    go_wp2_with fail
    go_ret
    exact ⟨by rw [HE.out]; rfl, HB.out⟩
theorem RFCheck_any (P D R G PL : Int) (pv : Value) (pay : List UInt8) (w : World) (hS : Sl eB w.heap.size w pv pay) :
    Calls Tryd.prog 8 #[shV P D R, frV G PL pv] w fun e w' => e = .returned (.int .i64 (chkF P D R G PL pay.length)) ∧ Below w.heap.size w w' := by
  by_cases hM : Sh.May P D R
  · exact RFCheck_may P D R G PL pv pay hM w hS
  · rw [show chkF P D R G PL pay.length = 180 from if_neg hM]
    exact RFCheck_no P D R G PL pv hM w
end Go.Proofs.YtjclfkbhakjdaaaDoor
