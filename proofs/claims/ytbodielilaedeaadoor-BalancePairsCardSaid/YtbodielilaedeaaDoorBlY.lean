/- Contracts of the law's strong and clean. -/
import Derived.Test.YtbodielilaedeaaDoorBlI
namespace Go.Proofs.YtbodielilaedeaaDoor
open Go.RowKit Go.Shelf
attribute [local go_sem] Oper.semAt_some

set_option maxRecDepth 100000 in
set_option maxHeartbeats 400000 in
theorem strongL_any (sv : Value) (bs : List UInt8) (hreach : bs.length ≤ 140737488351232) (B : Nat) (w : World) (hS : Sl eB B w sv bs) :
    Calls Tryd.prog 9 #[sv] w fun e w' => e = .returned (.int .i64 (gcOf bs)) ∧ w = w' := by
  obtain ⟨A, cap, rfl, hcap, hcs⟩ := hS
  go_enter Tryd.func9, Tryd.ntmps9
  go_wp2
  go_loop [3, 4] (fun g i => ∃ k : Nat, k ≤ bs.length ∧ i = .int .i64 k ∧ g = .int .i64 (gcOf (bs.take k))) (fun _ i => bs.length - (intOf i).toNat)
  case atStart => exact ⟨0, Nat.zero_le _, rfl, rfl⟩
  case round =>
    obtain ⟨k, hk, rfl, rfl⟩ := hrel
    by_cases hlt : k < bs.length
    · obtain ⟨b, off, rfl, hb, hcell⟩ := hcs (by omega)
      have hcx : w.cell? ⟨b, off + k, none⟩ = some (eB bs[k]) := hcell k _ (by simp [hlt])
      have hg := gcOf_le (bs.take k)
      have hg2 : gcOf (bs.take k) ≤ k := by rw [List.length_take] at hg; omega
      have H := Lib.hid (gcOf_snoc bs k hlt)
      clear hcell hcs hg
      generalize hx : bs[k] = x at *
      have Hx := Lib.hid hx
      clear hx
      by_cases h1 : x = 71
      · have e1 : ((x.toNat : Int) == 71) = true := by subst h1; rfl
        have Hh := Lib.hid h1
        clear h1
        go_wp2
        go_round
        case rel => exact ⟨k + 1, by omega, by go_num, by rw [H.out, Hh.out]; go_num⟩
        case measure => simp [intOf]; omega
      · have e1 : ((x.toNat : Int) == 71) = false := by
          rw [beq_eq_false_iff_ne]; intro e; apply h1; apply UInt8.toNat_inj.1; simp; omega
        by_cases h2 : x = 67
        · have e2 : ((x.toNat : Int) == 67) = true := by subst h2; rfl
          have Hh := Lib.hid h2
          clear h1 h2
          go_wp2
          go_round
          case rel => exact ⟨k + 1, by omega, by go_num, by rw [H.out, Hh.out]; go_num⟩
          case measure => simp [intOf]; omega
        · have e2 : ((x.toNat : Int) == 67) = false := by
            rw [beq_eq_false_iff_ne]; intro e; apply h2; apply UInt8.toNat_inj.1; simp; omega
          have Hh1 := Lib.hid h1
          have Hh2 := Lib.hid h2
          clear h1 h2
          go_wp2
          go_round
          case rel => exact ⟨k + 1, by omega, by go_num, by rw [H.out]; simp [Hh1.out, Hh2.out]⟩
          case measure => simp [intOf]; omega
    · obtain rfl : k = bs.length := by omega
      go_wp2
      go_ret
      exact ⟨rfl, rfl⟩

theorem code_not (c : UInt8) (h1 : ((c.toNat : Int) == 65) = false) (h2 : ((c.toNat : Int) == 67) = false) (h3 : ((c.toNat : Int) == 71) = false) (h4 : ((c.toNat : Int) == 84) = false) : codeOf c.toNat = -1 := by
  rw [beq_eq_false_iff_ne] at h1 h2 h3 h4
  unfold codeOf
  rw [if_neg (by omega), if_neg (by omega), if_neg (by omega), if_neg (by omega)]
theorem codesOf_snoc (bs : List UInt8) (k : Nat) (h : k < bs.length) : codesOf (bs.take (k + 1)) = codesOf (bs.take k) ++ [codeOf bs[k].toNat] := by
  rw [List.take_succ_eq_append_getElem h, codesOf, codesOf, List.map_append]; rfl
theorem codesOf_in (bs : List UInt8) (k : Nat) (h : k < bs.length) : codeOf bs[k].toNat ∈ codesOf bs :=
  List.mem_map_of_mem (f := fun b : UInt8 => codeOf b.toNat) (List.getElem_mem h)

set_option maxRecDepth 100000 in
set_option maxHeartbeats 1000000 in
theorem clean_any (sv : Value) (bs : List UInt8) (hreach : bs.length ≤ 140737488351232) (B : Nat) (w : World) (hS : Sl eB B w sv bs) :
    Calls Tryd.prog 6 #[sv] w fun e w' => e = .returned (.bool (decide ((-1 : Int) ∉ codesOf bs))) ∧ w = w' := by
  obtain ⟨A, cap, rfl, hcap, hcs⟩ := hS
  go_enter Tryd.func6, Tryd.ntmps6
  go_wp2
  go_loop [3] (fun i => ∃ k : Nat, k ≤ bs.length ∧ i = .int .i64 k ∧ (-1 : Int) ∉ codesOf (bs.take k)) (fun i => bs.length - (intOf i).toNat)
  case atStart => exact ⟨0, Nat.zero_le _, rfl, by simp [codesOf]⟩
  case round =>
    obtain ⟨k, hk, rfl, hfine⟩ := hrel
    by_cases hlt : k < bs.length
    · obtain ⟨b, off, rfl, hb, hcell⟩ := hcs (by omega)
      have hcx : w.cell? ⟨b, off + k, none⟩ = some (eB bs[k]) := hcell k _ (by simp [hlt])
      have H := Lib.hid (codesOf_snoc bs k hlt)
      have Hin := Lib.hid (codesOf_in bs k hlt)
      have Hf := Lib.hid hfine
      clear hcell hcs hfine
      generalize hx : bs[k] = x at *
      have Hx := Lib.hid hx
      clear hx
      by_cases hcode : codeOf x.toNat = -1
      · have e1 : ¬ (x.toNat : Int) = 65 := by
          intro e; obtain rfl : x = 65 := UInt8.toNat_inj.1 (by simp; omega); exact absurd hcode (by decide)
        have e2 : ¬ (x.toNat : Int) = 67 := by
          intro e; obtain rfl : x = 67 := UInt8.toNat_inj.1 (by simp; omega); exact absurd hcode (by decide)
        have e3 : ¬ (x.toNat : Int) = 71 := by
          intro e; obtain rfl : x = 71 := UInt8.toNat_inj.1 (by simp; omega); exact absurd hcode (by decide)
        have e4 : ¬ (x.toNat : Int) = 84 := by
          intro e; obtain rfl : x = 84 := UInt8.toNat_inj.1 (by simp; omega); exact absurd hcode (by decide)
        have d1 : ((x.toNat : Int) != 65) = true := by simpa using e1
        have d2 : ((x.toNat : Int) != 67) = true := by simpa using e2
        have d3 : ((x.toNat : Int) != 71) = true := by simpa using e3
        have d4 : ((x.toNat : Int) != 84) = true := by simpa using e4
        have Hc := Lib.hid hcode
        clear hcode
        go_wp2
        go_ret
        have hin := Hin.out
        rw [Hc.out] at hin
        exact ⟨by simp only [hin]; rfl, rfl⟩
      · have hfine' : (-1 : Int) ∉ codesOf (bs.take (k + 1)) := by
          rw [H.out]
          simp only [List.mem_append, List.mem_singleton]
          exact fun h => h.elim Hf.out (fun e => hcode e.symm)
        have Hfine := Lib.hid hfine'
        clear hfine'
        rcases code_some x hcode with rfl | rfl | rfl | rfl
        all_goals
          clear hcode
          go_wp2
          go_round
          case rel => exact ⟨k + 1, by omega, by go_num, Hfine.out⟩
          case measure => simp [intOf]; omega
    · obtain rfl : k = bs.length := by omega
      rw [List.take_length] at hfine
      have Hf := Lib.hid hfine
      clear hfine
      go_wp2
      go_ret
      exact ⟨by rw [show (!decide ((-1 : Int) ∈ codesOf bs)) = true by simp [Hf.out]]; rfl, rfl⟩
end Go.Proofs.YtbodielilaedeaaDoor
