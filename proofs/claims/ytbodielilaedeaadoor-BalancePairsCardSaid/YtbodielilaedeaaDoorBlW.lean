/- The law's own wakes. -/
import Derived.Test.YtbodielilaedeaaDoorBlI
namespace Go.Proofs.YtbodielilaedeaaDoor
open Go.RowKit Go.Shelf
attribute [local go_sem] Oper.semAt_some run_store_func

theorem below_alloc (w : World) (o : Obj) : Below w.heap.size w (w.alloc o) := (Below.refl w.heap.size w).alloc (Nat.le_refl _) o
theorem yes_AT (k : Nat) (h : FindYes [65, 84] k) : k = 1 := by
  obtain ⟨hk, _, he, hl⟩ := h
  have hk' : k ≤ 2 := hk
  rcases (show k = 0 ∨ k = 1 ∨ k = 2 by omega) with rfl | rfl | rfl
  · exact absurd he (by decide)
  · rfl
  · exact absurd (show 2 * mk [65, 84] 1 = (([65, 84] : List UInt8).length : Int) by decide) (hl 1 (by omega))
theorem no_AT (n : Int) : ¬ FindNo [65, 84] n := by
  rintro (⟨_, _, h⟩ | ⟨_, h⟩)
  · exact h 1 (by decide) (by decide)
  · exact absurd h (by decide)
theorem no_A (n : Int) (h : FindNo [65] n) : n = 2 := by
  rcases h with ⟨h, _⟩ | ⟨_, h⟩
  · exact h
  · exact absurd h (by decide)
theorem yes_A (k : Nat) : ¬ FindYes [65] k := by
  rintro ⟨_, _, he, _⟩
  simp at he
  omega

set_option maxRecDepth 100000 in
set_option maxHeartbeats 2000000 in
theorem wakes_any (w : World) (hT : Tab w) (hO : TabO w) : Calls Tryd.prog 7 #[] w fun e w' => e = .returned (.bool true) ∧ Below w.heap.size w w' := by
  have kc := fun (w : World) (C : Array Value) (n c : Nat) => Lib.run_convert_bytes_const (P := Tryd.prog) w 22 5 C n c Tryd.underlying22 Tryd.underlying5
  have W1 := Width_any 52 (by decide)
  have W2 := Width_any 0 (by decide)
  have W3 := Width_any 64 (by decide)
  rw [show widthOf 52 = 6 by decide] at W1
  rw [show widthOf 0 = 2 by decide] at W2
  rw [show widthOf 64 = 8 by decide] at W3
  go_enter Tryd.func7, Tryd.ntmps7
  go_wp2_with fail
  have hA1 := below_alloc w (.cells #[.int .u8 65, .int .u8 84] 5 (2, 3))
  have hS1 := Sl.new eB w [65, 84] #[.int .u8 65, .int .u8 84] 5 (2, 3) 2 2 rfl (by simp) rfl
  have hT1 := hT.below hA1
  have hO1 := hO.below hA1
  go_at_call 8
  refine (Balance_any _ [65, 84] (by simp) _ hS1 hT1 hO1).mono ?_
  rintro e w2 ⟨hB2, ⟨v, k, rfl, hy, hv⟩ | ⟨n, rfl, hno⟩⟩
  · obtain rfl := yes_AT k hy
    rw [show flipOf [65, 84] (1 : Nat) = [67, 84] by decide] at hv
    have hBw := below_trans hA1 hB2
    have hT2 := hT1.below hB2
    have hO2 := hO1.below hB2
    clear hA1 hS1 hT1 hO1 hB2 hy hT hO
    go_wp2_with fail
    have hA3 := below_alloc w2 (.cells #[.int .u8 65, .int .u8 78] 5 (2, 3))
    have hS3 := Sl.new eB w2 [65, 78] #[.int .u8 65, .int .u8 78] 5 (2, 3) 2 2 rfl (by simp) rfl
    go_at_call 11
    refine (Flip_any _ [65, 78] 0 (by simp) _ hS3 (hT2.below hA3) (hO2.below hA3)).mono ?_
    rintro e w4 ⟨hB4, ⟨v4, rfl, hfine, _⟩ | ⟨rfl, -⟩⟩
    · exact absurd (show (-1 : Int) ∈ codesOf [65, 78] by decide) hfine
    have hB34 := below_trans hA3 hB4
    replace hBw := below_trans hBw hB34
    have hv4 := hv.next hB34
    have hT4 := hT2.below hB34
    have hO4 := hO2.below hB34
    clear hv hT2 hO2 hA3 hS3 hB4 hB34
    go_wp2_with fail
    have hA5 := below_alloc w4 (.cells #[.int .u8 65] 5 (1, 2))
    have hS5 := Sl.new eB w4 [65] #[.int .u8 65] 5 (1, 2) 1 1 rfl (by simp) rfl
    go_at_call 14
    refine (Find_any _ [65] (by simp) _ hS5 (hT4.below hA5) (hO4.below hA5)).mono ?_
    rintro e w6 ⟨hB6, ⟨k6, rfl, hy6⟩ | ⟨n6, rfl, hno6⟩⟩
    · exact absurd hy6 (yes_A k6)
    obtain rfl := no_A n6 hno6
    have hB56 := below_trans hA5 hB6
    replace hBw := below_trans hBw hB56
    have hv6 := hv4.next hB56
    have hT6 := hT4.below hB56
    clear hv4 hT4 hO4 hA5 hS5 hB6 hB56 hno6
    have rs := run_str (P := Tryd.prog) hv6 22 9 5 Tryd.underlying22 Tryd.underlying5 Tryd.underlying9
    obtain ⟨A, c, rfl⟩ := hv6.len
    have rs' : (convert 22 9 (.slice A 2 c)).run Tryd.prog w6 = .ok (.string ⟨#[67, 84]⟩) w6 := rs
    clear rs
    go_wp2_with fail
    go_at_call 10
    refine (Right_yes _ [67, 84] (by simp) _ hv6 hT6 (by decide) (by decide)).mono ?_
    rintro e w7 ⟨rfl, hB7⟩
    clear rs' hv6
    go_wp2_with fail
    go_at_call 13
    refine (W1 _).mono ?_
    rintro e w' ⟨rfl, rfl⟩
    go_wp2_with fail
    go_at_call 13
    refine (W2 _).mono ?_
    rintro e w' ⟨rfl, rfl⟩
    go_wp2_with fail
    go_at_call 13
    refine (W3 _).mono ?_
    rintro e w' ⟨rfl, rfl⟩
    go_wp2
    go_ret
    exact ⟨rfl, below_trans hBw hB7⟩
  · exact absurd hno (no_AT n)
end Go.Proofs.YtbodielilaedeaaDoor
