/- SumsAll. -/
import Derived.Test.YtheealkoooiloaaDoorSuT
import Derived.Test.YtheealkoooiloaaDoorTgG
namespace Go.Proofs.YtheealkoooiloaaDoor
open Go.RowKit Go.Shelf
attribute [local go_sem] Oper.semAt_some run_store_func

/-- A row of edits, opened: where it lies and what its cells hold. -/
theorem RowE.open {B m : Nat} {W : World} {v : Value} (h : RowE B W v m) : ∃ (l : List Ed) (A : Option Addr) (c : Nat), v = .slice A l.length c ∧ l.length ≤ m ∧ (∀ d ∈ l, d.Ok) ∧
    (∀ k d, l[k]? = some d → ∃ g, A = some ⟨g, 0, none⟩ ∧ g < W.heap.size ∧ W.cell? ⟨g, k * 3, none⟩ = some (.int .u8 d.k) ∧ W.cell? ⟨g, k * 3 + 1, none⟩ = some (.int .i64 d.z) ∧ W.cell? ⟨g, k * 3 + 2, none⟩ = some (eB d.b)) := by
  obtain ⟨l, h1, h2, h3⟩ := h
  rcases h3.2 with ⟨e, hn⟩ | ⟨g, cap, cur, e, hg, hrow, hcap, hm, hs, ht⟩
  · refine ⟨l, none, 0, by rw [e, hn], h1, h2, fun k d hk => ?_⟩
    have : l = [] := List.length_eq_zero_iff.1 hn
    rw [this] at hk
    simp at hk
  · refine ⟨l, some ⟨g, 0, none⟩, cap, e, h1, h2, fun k d hk => ?_⟩
    have hc := h3.cells (g := g) (by rw [e]; rfl)
    obtain ⟨a0, a1, a2⟩ := flatE_at l k d hk
    have he : ∀ j, ((⟨g, 0, none⟩ : Addr).add j) = ⟨g, j, none⟩ := fun j => by rcases j with _ | j <;> simp [Addr.add]
    have b0 := hc _ _ a0
    have b1 := hc _ _ a1
    have b2 := hc _ _ a2
    rw [he, Nat.mul_comm 3 k] at b0 b1 b2
    exact ⟨g, rfl, World.block_lt_of_cell? _ _ b0, b0, b1, b2⟩
set_option maxRecDepth 100000 in
set_option maxHeartbeats 4000000 in
theorem SumsAll_some (v0 : Value) (x : List UInt8) (w : World) (hS : Sl eB w.heap.size w v0 x) (hT : Tab w) (hx : CleanP x) (h9 : x.length ≤ 9) :
    Calls Tryd.prog 6 #[v0] w fun e w' => e = .returned (.bool true) ∧ Below w.heap.size w w' := by
  have hw := wakes_any
  have hcx := fun w h => clean_any v0 x w h
  rw [decide_eq_true hx] at hcx
  have hOx := Of_clean x hx v0
  have hEx := fun w h => Edits_any v0 x (by omega) w h
  have hAp := fun (d : Ed) (hd : d.Ok) => Apply_ed x d hd (by have := hx.1; omega) (by omega)
  have H2 := Lib.hid hx.1
  have H9 := Lib.hid h9
  have d9 : decide ((9 : Int) < (x.length : Int)) = false := decide_eq_false (by omega)
  have Hp : Hid (∀ y z : List UInt8, OneE x y → OneE y z → z.length = x.length → sT z x.length % x.length = sT x x.length % x.length → sS z x.length % 4 = sS x x.length % 4 → sW z x.length % (6 * x.length + 1) = sW x x.length % (6 * x.length + 1) → z = x) :=
    Lib.hid fun y z h1 h2 h3 h4 h5 h6 => two_edits hx.1 hx.2.2 h1 h2 h3 h4 h5 h6
  have HC : Hid (∀ y z : List UInt8, OneE x y → OneE y z → z.length = x.length → CleanP z) :=
    Lib.hid fun y z h1 h2 h3 => ⟨by have := hx.1; omega, by omega, (Four.one hx.2.2 h1).one h2⟩
  clear hx h9
  obtain ⟨A, c, rfl⟩ := hS.len
  go_enter Tryd.func6, Tryd.ntmps6
  go_wp2_with fail
  go_at_call 21
  refine (hcx _ hS).mono ?_
  rintro e w' ⟨rfl, rfl⟩
  clear hcx
  go_wp2_with fail
  go_at_call 9
  refine (hOx _ hT hS).mono ?_
  rintro e w3 ⟨rfl, hB3⟩
  generalize sT x x.length % (x.length : Int) = t1 at *
  generalize sS x x.length % 4 = s1 at *
  generalize sW x x.length % (6 * (x.length : Int) + 1) = u1 at *
  have hA3 := below_alloc w3 (.cells (c3 t1 s1 u1) 24)
  have hr3 := Rowed.new w3 24 (c3 t1 s1 u1)
  have hBx := below_trans hB3 hA3
  have hS3 := hS.next hBx
  have hT3 := hT.below hBx
  have hlt3 := hr3.lt
  clear hOx hS hT hA3
  go_upto_region 4 with fail
  generalize w3.alloc (.cells (c3 t1 s1 u1) 24) = w4 at *
  generalize w3.heap.size = g4 at *
  go_wp2_with fail
  go_at_call 23
  refine (hEx _ hS3).mono ?_
  rintro e w5 ⟨v5, rfl, hv5, hB5⟩
  have hS5 := hS3.next hB5
  have hT5 := hT3.below hB5
  have hr5 := hr3.below hB5 hlt3
  have hlt5 := hr5.lt
  have hB5 := below_trans hBx hB5
  obtain ⟨l, A5, c5, rfl, hlm, hok, hcl⟩ := hv5.open
  clear hEx hS3 hT3 hr3 hlt3 hB3 hBx hv5
  go_wp2_with fail
  go_loopw [6] (fun i wr => ∃ k : Nat, k ≤ l.length ∧ i = .int .i64 k ∧ Below w5.heap.size w5 wr) (fun i _ => l.length - (intOf i).toNat)
  case atStart => exact ⟨0, Nat.zero_le _, rfl, Below.refl _ _⟩
  case round =>
    obtain ⟨k, hk, rfl, hB⟩ := hrel
    by_cases hlt : k < l.length
    · obtain ⟨d, hd⟩ : ∃ d, l[k]? = some d := ⟨l[k], by simp [hlt]⟩
      obtain ⟨g, rfl, hg, q0, q1, q2⟩ := hcl k d hd
      have hdo := hok d (List.mem_of_getElem? hd)
      obtain ⟨y, hy1, hAy⟩ := hAp d hdo
      have hyl := hy1.length
      have r0 := (hB.cell (p := ⟨g, k * 3, none⟩) hg).trans q0
      have r1 := (hB.cell (p := ⟨g, k * 3 + 1, none⟩) hg).trans q1
      have r2 := (hB.cell (p := ⟨g, k * 3 + 2, none⟩) hg).trans q2
      have hkl : (k : Int) < l.length := by omega
      have hSr := hS5.below hB
      have hTr := hT5.below hB
      have Hy1 := Lib.hid hy1
      have Hyl := Lib.hid hyl
      have Hk := Lib.hid hlt
      clear hcl hok hd q0 q1 q2 hy1 hyl hlt
      have hEy := fun v w h => Edits_any v y (by have := H9.out; have := Hyl.out; omega) w h
      have hAp2 := fun (d : Ed) (hd : d.Ok) => Apply_ed y d hd (by have := H2.out; have := Hyl.out; omega) (by have := H9.out; have := Hyl.out; omega)
      go_wp2_with fail
      go_at_call 22
      refine (hAy _ _ (hSr.more hB.size)).mono ?_
      rintro e w7 ⟨v7, rfl, hv7, hB7⟩
      clear hAy r0 r1 r2 hdo
      go_wp2_with fail
      go_at_call 23
      refine (hEy _ _ hv7).mono ?_
      rintro e w8 ⟨v8, rfl, hv8, hB8⟩
      have hBx := below_trans hB7 hB8
      have hv7 := hv7.next hB8
      have hS8 := (hSr.more hB.size).next hBx
      have hT8 := hTr.below hBx
      have hr8 := (hr5.below hB hlt5).below hBx (Nat.lt_of_lt_of_le hlt5 hB.size)
      have hlt8 := hr8.lt
      have hB8 := below_trans hB hBx
      obtain ⟨l2, A8, c8, rfl, hlm2, hok2, hcl2⟩ := hv8.open
      clear hEy hSr hTr hB7 hBx hv8 hB
      go_wp2_with fail
      go_loopw [9] (fun i wr => ∃ j : Nat, j ≤ l2.length ∧ i = .int .i64 j ∧ Below w8.heap.size w8 wr) (fun i _ => l2.length - (intOf i).toNat)
      case atStart => exact ⟨0, Nat.zero_le _, rfl, Below.refl _ _⟩
      case round =>
        obtain ⟨j, hj, rfl, hB⟩ := hrel
        by_cases hlt : j < l2.length
        · obtain ⟨d2, hd2⟩ : ∃ d, l2[j]? = some d := ⟨l2[j], by simp [hlt]⟩
          obtain ⟨g2, rfl, hg2, q0, q1, q2⟩ := hcl2 j d2 hd2
          have hdo := hok2 d2 (List.mem_of_getElem? hd2)
          obtain ⟨z, hz1, hAz⟩ := hAp2 d2 hdo
          have r0 := (hB.cell (p := ⟨g2, j * 3, none⟩) hg2).trans q0
          have r1 := (hB.cell (p := ⟨g2, j * 3 + 1, none⟩) hg2).trans q1
          have r2 := (hB.cell (p := ⟨g2, j * 3 + 2, none⟩) hg2).trans q2
          have hjl : (j : Int) < l2.length := by omega
          have hSr := (hS8.below hB).more hB.size
          have hvr := (hv7.below hB).more hB.size
          have hTr := hT8.below hB
          have hrr := hr8.below hB hlt8
          have hltr := hrr.lt
          have Hz1 := Lib.hid hz1
          have Hj := Lib.hid hlt
          have hj200 : j ≤ 200 := by omega
          have Hp := Lib.hid (Hp.out y z Hy1.out hz1)
          have HC := Lib.hid (HC.out y z Hy1.out hz1)
          clear hcl2 hok2 hd2 q0 q1 q2 hz1 hlt hdo hAp hAp2 hS8 hv7 hT8 hr8 hr5 hS5 hT5
          go_wp2_with fail
          go_at_call 22
          refine (hAz _ _ hvr).mono ?_
          rintro e w10 ⟨v10, rfl, hv10, hB10⟩
          have hS10 := hSr.next hB10
          have hT10 := hTr.below hB10
          have hr10 := hrr.below hB10 hltr
          have hlt10 := hr10.lt
          have hBn := below_trans hB hB10
          clear hAz r0 r1 r2 hSr hvr hTr hrr
          have e1 := run_str (P := Tryd.prog) hv10 22 9 5 Tryd.underlying22 Tryd.underlying5 Tryd.underlying9
          have e2 := run_str (P := Tryd.prog) hS10 22 9 5 Tryd.underlying22 Tryd.underlying5 Tryd.underlying9
          obtain ⟨A10, c10, rfl⟩ := hv10.len
          by_cases hzl : z.length = x.length
          · have hq1 : ((z.length : Int) != (x.length : Int)) = false := by rw [hzl]; simp
            have Hzl := Lib.hid hzl
            have e3 : ((⟨z.toArray⟩ : ByteArray) == ⟨x.toArray⟩) = decide (z = x) := str_eq z x
            clear hzl
            by_cases hzx : z = x
            · rw [decide_eq_true hzx] at e3
              have e4 : (z == x) = true := by simpa using hzx
              clear hzx
              go_wp2_with fail
              go_roundw
              case rel => exact ⟨j + 1, by have := Hj.out; omega, by go_num, hBn⟩
              case measure => have := Hj.out; simp [intOf]; omega
            · rw [decide_eq_false hzx] at e3
              have e4 : (z == x) = false := by simpa using hzx
              have hOz := Of_clean z (HC.out Hzl.out)
              have hP := Hp.out Hzl.out
              rw [Hzl.out] at hOz
              have hq : (sT z x.length % x.length == t1 && (sS z x.length % 4 == s1 && sW z x.length % (6 * x.length + 1) == u1)) = false := by
                rw [Bool.eq_false_iff]
                intro h
                simp only [Bool.and_eq_true, beq_iff_eq] at h
                exact hzx (hP h.1 h.2.1 h.2.2)
              clear hzx hP
              generalize sT z x.length % (x.length : Int) = t2 at *
              generalize sS z x.length % 4 = s2 at *
              generalize sW z x.length % (6 * (x.length : Int) + 1) = u2 at *
              have hEq := fun w => eqS t2 s2 u2 t1 s1 u1 w
              rw [hq] at hEq
              clear hq
              go_wp2_with fail
              go_at_call 9
              refine (hOz _ _ hT10 hv10).mono ?_
              rintro e w11 ⟨rfl, hB11⟩
              have hA11 := below_alloc w11 (.cells (c3 t2 s2 u2) 24)
              have hr11 := Rowed.new w11 24 (c3 t2 s2 u2)
              have hBx := below_trans hB11 hA11
              have hr12 := hr10.below hBx hlt10
              have hBn := below_trans hBn hBx
              clear hOz hB11 hA11 hBx hr10 hT10 hv10 hS10
              go_upto_region 16 with fail
              generalize w11.alloc (.cells (c3 t2 s2 u2) 24) = w12 at *
              generalize w11.heap.size = g12 at *
              have k0 := hr11.cell 0
              have k1 := hr11.cell 1
              have k2 := hr11.cell 2
              have m0 := hr12.cell 0
              have m1 := hr12.cell 1
              have m2 := hr12.cell 2
              simp at k0 k1 k2 m0 m1 m2
              go_wp2_with fail
              go_roundw
              case rel => exact ⟨j + 1, by have := Hj.out; omega, by go_num, hBn⟩
              case measure => have := Hj.out; simp [intOf]; omega
          · have hq1 : ((z.length : Int) != (x.length : Int)) = true := by
              rw [bne_iff_ne]
              omega
            clear hzl
            go_wp2_with fail
            go_roundw
            case rel => exact ⟨j + 1, by have := Hj.out; omega, by go_num, hBn⟩
            case measure => have := Hj.out; simp [intOf]; omega
        · obtain rfl : j = l2.length := by omega
          have hk200 : k ≤ 200 := by have := Hk.out; omega
          go_wp2_with fail
          go_roundw
          case rel => exact ⟨k + 1, by have := Hk.out; omega, by go_num, below_trans hB8 hB⟩
          case measure => have := Hk.out; simp [intOf]; omega
    · obtain rfl : k = l.length := by omega
      have hTr := hT5.below hB
      clear hcl hok
      go_wp2_with (go_at_call 8; refine (hw _ hTr).mono ?_; rintro e w' ⟨rfl, hBw⟩)
      go_ret
      exact ⟨rfl, below_trans hB5 (below_trans hB hBw)⟩
set_option maxRecDepth 100000 in
set_option maxHeartbeats 4000000 in
theorem SumsAll_any (v0 : Value) (x : List UInt8) (w : World) (hS : Sl eB w.heap.size w v0 x) (hT : Tab w) :
    Calls Tryd.prog 6 #[v0] w fun e w' => e = .returned (.bool true) ∧ Below w.heap.size w w' := by
  by_cases hx : CleanP x
  · by_cases h9 : x.length ≤ 9
    · exact SumsAll_some v0 x w hS hT hx h9
    · have hw := wakes_any
      have hcx := fun w h => clean_any v0 x w h
      rw [decide_eq_true hx] at hcx
      have d9 : decide ((9 : Int) < (x.length : Int)) = true := decide_eq_true (by omega)
      clear hx h9
      obtain ⟨A, c, rfl⟩ := hS.len
      go_enter Tryd.func6, Tryd.ntmps6
      go_wp2_with fail
      go_at_call 21
      refine (hcx _ hS).mono ?_
      rintro e w' ⟨rfl, rfl⟩
      go_wp2_with (go_at_call 8; refine (hw _ hT).mono ?_; rintro e w' ⟨rfl, hB⟩)
      go_ret
      exact ⟨rfl, hB⟩
  · have hw := wakes_any
    have hcx := fun w h => clean_any v0 x w h
    rw [decide_eq_false hx] at hcx
    clear hx
    obtain ⟨A, c, rfl⟩ := hS.len
    go_enter Tryd.func6, Tryd.ntmps6
    go_wp2_with fail
    go_at_call 21
    refine (hcx _ hS).mono ?_
    rintro e w' ⟨rfl, rfl⟩
    go_wp2_with (go_at_call 8; refine (hw _ hT).mono ?_; rintro e w' ⟨rfl, hB⟩)
    go_ret
    exact ⟨rfl, hB⟩
end Go.Proofs.YtheealkoooiloaaDoor
