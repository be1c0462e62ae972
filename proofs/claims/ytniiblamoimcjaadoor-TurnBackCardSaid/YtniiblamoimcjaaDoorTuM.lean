/- TurnBack. -/
import Derived.Test.YtniiblamoimcjaaDoorTuL
namespace Go.Proofs.YtniiblamoimcjaaDoor
open Go.RowKit Go.Shelf
attribute [local go_sem] Oper.semAt_some run_store_func

set_option maxRecDepth 100000 in
set_option maxHeartbeats 4000000 in
theorem TurnBack_any (n : Int) (sv : Value) (l : List Int) (w : World) (hS : Sl eI w.heap.size w sv l) (hT : Tab w) :
    Calls Tryd.prog 4 #[.int .i64 n, sv] w fun e w' => e = .returned (.bool true) ∧ Below w.heap.size w w' := by
  have hw := wakes_any
  have hle := lett_any n
  have hal := let_letter n
  have hsl : (tritsOf l).length = l.length := by simp [tritsOf]
  have htr : ∀ t ∈ tritsOf l, IsTri t := by
    intro t ht
    obtain ⟨x, _, rfl⟩ := List.mem_map.1 ht
    exact tri_trit x
  have htv := trits_any sv l
  obtain ⟨A, c, hsv⟩ := hS.len
  subst hsv
  generalize tritsOf l = ts at *
  generalize letterOf n = a at *
  by_cases h3 : 300 < l.length
  · have d1 : decide ((300 : Int) < (l.length : Int)) = true := decide_eq_true (by omega)
    go_enter Tryd.func4, Tryd.ntmps4
    go_wp2_with (go_at_call 8; refine (hw _ hT).mono ?_; rintro e w' ⟨rfl, hB⟩)
    go_ret
    exact ⟨rfl, hB⟩
  · have d1 : decide ((300 : Int) < (l.length : Int)) = false := decide_eq_false (by omega)
    obtain ⟨s, e1, e2, e3, e4, e5⟩ := walk_turn ts a hal htr
    have hTy := fun v w => Turn_yes a v ts s (by show gatG a (wB a ts) = _; rw [e1]; exact gat_ok hal s) (by omega) w
    have hBy := fun v w => Back_yes a v s ts (by show gatG a (wT a s) = _; rw [e5]; exact gat_ok hal ts) (by omega) w
    have hn2 := Lib.hid e2
    have hs300 : s.length ≤ 300 := by omega
    have hln : ts.length ≤ 300 := by omega
    have hl3 : l.length ≤ 17592186044416 := by omega
    have Hsl := Lib.hid hsl
    clear e2 hsl
    go_enter Tryd.func4, Tryd.ntmps4
    go_wp2_with fail
    go_at_call 18
    refine (hle _).mono ?_
    rintro e w' ⟨rfl, rfl⟩
    go_wp2_with fail
    go_at_call 19
    refine (htv hl3 _ hS).mono ?_
    rintro e w1 ⟨v1, rfl, ho1, hB1⟩
    rw [← Hsl.out] at ho1
    have hs1 := sl_own ho1
    have hT1 := hT.below hB1
    obtain ⟨A1, c1, rfl⟩ := hs1.len
    clear htv ho1 hS hT hle
    go_wp2_with fail
    go_at_call 13
    refine (hTy _ _ hT1 hs1).mono ?_
    rintro e w2 ⟨v2, rfl, ho2, hB2⟩
    have hs2 := sl_own ho2
    have hs1 := hs1.next hB2
    have hT2 := hT1.below hB2
    have hB2 := below_trans hB1 hB2
    obtain ⟨A2, c2, rfl⟩ := hs2.len
    clear hTy ho2 hT1 hB1
    go_wp2_with fail
    go_at_call 15
    refine (hBy _ _ hT2 hs2).mono ?_
    rintro e w3 ⟨v3, rfl, ho3, hB3⟩
    have hs3 := sl_own ho3
    have hs1 := hs1.next hB3
    have hs2 := hs2.next hB3
    have hT3 := hT2.below hB3
    have hB3 := below_trans hB2 hB3
    obtain ⟨A3, c3, rfl⟩ := hs3.len
    clear hBy ho3 hT2 hB2
    have hlen : ((s.length : Int) != (ts.length : Int)) = false := by rw [hn2.out]; simp
    go_wp2_with fail
    go_at_call 17
    refine (same_eq _ _ _ _ _ hs3 hs1).mono ?_
    rintro e w' ⟨rfl, rfl⟩
    clear hs3 hs1 hlen Hsl e1 e5 hn2 htr
    go_wp2_with fail
    obtain ⟨A', c', he, _, hcs⟩ := hs2
    injection he with he1 he2 he3
    subst he1 he3
    go_loop [5, 11] (fun v i => ∃ k : Nat, ∃ x : UInt8, k ≤ s.length ∧ (a :: s)[k]? = some x ∧ v = eB x ∧ i = .int .i64 k) (fun _ i => s.length - (intOf i).toNat)
    case atStart => exact ⟨0, a, Nat.zero_le _, rfl, rfl, rfl⟩
    case round =>
      obtain ⟨k, p, hk, hp, rfl, rfl⟩ := hrel
      by_cases hlt : k < s.length
      · obtain ⟨b, off, rfl, hb, hcell⟩ := hcs (by omega)
        have hcx : w3.cell? ⟨b, off + k, none⟩ = some (eB s[k]) := hcell k _ (by simp [hlt])
        have hne : s[k] ≠ p := by
          have h4 := e4 k hlt
          rw [List.getElem?_eq_getElem (by simp; omega)] at hp
          cases hp
          exact h4
        have hx := e3 s[k] (by simp)
        have H := Lib.hid (show (a :: s)[k + 1]? = some s[k] by simp [hlt])
        clear hcell hcs e3 e4 hp
        generalize s[k] = x at *
        have hd : ((x.toNat : Int) == (p.toNat : Int)) = false := by
          simp only [beq_eq_false_iff_ne, ne_eq, Int.ofNat_inj]
          intro h
          exact hne (UInt8.toNat_inj.1 h)
        rcases hx with rfl | rfl | rfl | rfl
        · have hcx : w3.cell? ⟨b, off + k, none⟩ = some (.int .u8 65) := hcx
          have hd : ((65 : Int) == (p.toNat : Int)) = false := hd
          go_wp2
          go_round
          case rel => exact ⟨k + 1, 65, by omega, H.out, rfl, by go_num⟩
          case measure => simp [intOf]; omega
        · have hcx : w3.cell? ⟨b, off + k, none⟩ = some (.int .u8 67) := hcx
          have hd : ((67 : Int) == (p.toNat : Int)) = false := hd
          go_wp2
          go_round
          case rel => exact ⟨k + 1, 67, by omega, H.out, rfl, by go_num⟩
          case measure => simp [intOf]; omega
        · have hcx : w3.cell? ⟨b, off + k, none⟩ = some (.int .u8 71) := hcx
          have hd : ((71 : Int) == (p.toNat : Int)) = false := hd
          go_wp2
          go_round
          case rel => exact ⟨k + 1, 71, by omega, H.out, rfl, by go_num⟩
          case measure => simp [intOf]; omega
        · have hcx : w3.cell? ⟨b, off + k, none⟩ = some (.int .u8 84) := hcx
          have hd : ((84 : Int) == (p.toNat : Int)) = false := hd
          go_wp2
          go_round
          case rel => exact ⟨k + 1, 84, by omega, H.out, rfl, by go_num⟩
          case measure => simp [intOf]; omega
      · obtain rfl : k = s.length := by omega
        go_wp2_with (go_at_call 8; refine (hw _ hT3).mono ?_; rintro e w' ⟨rfl, hB⟩)
        go_ret
        exact ⟨rfl, below_trans hB3 hB⟩
end Go.Proofs.YtniiblamoimcjaaDoor
