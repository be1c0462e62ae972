import Derived.Test.YtcngnjkpnmpcpaaDoorRdDZ
namespace Go.Proofs.YtcngnjkpnmpcpaaDoor
open Go.RowKit Go.Shelf
attribute [local go_sem] Oper.semAt_some run_store_func
theorem cutR_any (x : List UInt8) (A : Option Addr) (cap : Nat) (hc : x.length ≤ cap) (w : World) :
    Calls Tryd.prog 44 #[.slice A x.length cap] w fun e w' => e = .returned (.slice A (x.take 1000).length cap) ∧ w = w' := by
  by_cases h : 1000 < x.length
  · have h1 : (1000 : Int) < (x.length : Int) := by omega
    have hl : (x.take 1000).length = 1000 := by rw [List.length_take]; omega
    rw [hl]
    go_enter Tryd.func44, Tryd.ntmps44
    go_wp2_with fail
    go_ret
    exact ⟨rfl, rfl⟩
  · have h1 : ¬ (1000 : Int) < (x.length : Int) := by omega
    have hl : x.take 1000 = x := List.take_of_length_le (by omega)
    rw [hl]
    go_enter Tryd.func44, Tryd.ntmps44
    go_wp2_with fail
    go_ret
    exact ⟨rfl, rfl⟩
theorem cutR_sl {A : Option Addr} {c : Nat} {x : List UInt8} {w : World} (h : Sl eB w.heap.size w (.slice A x.length c) x) : Sl eB w.heap.size w (.slice A (x.take 1000).length c) (x.take 1000) := by
 have := h.upto (p := (x.take 1000).length) (by rw [List.length_take]; omega)
 have e : x.take (x.take 1000).length = x.take 1000 := by
  rw [List.length_take]
  rcases Nat.le_total 1000 x.length with h1 | h1
  · rw [Nat.min_eq_left h1]
  · rw [Nat.min_eq_right h1, List.take_length, List.take_of_length_le h1]
 rwa [e] at this
set_option maxRecDepth 100000 in
set_option maxHeartbeats 1000000 in
theorem RDistance_any (va vb : Value) (a b : List UInt8) (w : World) (hSa : Sl eB w.heap.size w va a) (hSb : Sl eB w.heap.size w vb b) :
    Calls Tryd.prog 25 #[va, vb] w fun e w' => e = .returned (.int .i64 (dist (a.take 1000) (b.take 1000) : Nat)) ∧ Below w.heap.size w w' := by
  obtain ⟨A0, c0, rfl, hc0, -⟩ := id hSa
  obtain ⟨A1, c1, rfl, hc1, -⟩ := id hSb
  have k0 := fun w => cutR_any a A0 c0 hc0 w
  have k1 := fun w => cutR_any b A1 c1 hc1 w
  have sa := cutR_sl hSa
  have sb := cutR_sl hSb
  have hla : (a.take 1000).length ≤ 1000 := by rw [List.length_take]; omega
  have hlb : (b.take 1000).length ≤ 1000 := by rw [List.length_take]; omega
  clear hSa hSb hc0 hc1
  obtain ⟨la, hl1⟩ : ∃ n, a.length = n := ⟨_, rfl⟩
  obtain ⟨lb, hl2⟩ : ∃ n, b.length = n := ⟨_, rfl⟩
  rw [hl1] at k0 ⊢
  rw [hl2] at k1 ⊢
  clear hl1 hl2
  generalize a.take 1000 = x at *
  generalize b.take 1000 = y at *
  have hR := row_any _ _ x y hla hlb w sa sb
  go_enter Tryd.func25, Tryd.ntmps25
  go_wp2_with fail
  go_at_call 44
  refine (k0 _).mono ?_
  rintro e w' ⟨rfl, rfl⟩
  go_wp2_with fail
  go_at_call 44
  refine (k1 _).mono ?_
  rintro e w' ⟨rfl, rfl⟩
  go_wp2_with fail
  go_at_call 45
  refine hR.mono ?_
  rintro e w2 ⟨g, rfl, hr, hg, hB⟩
  have hc := hr.cell y.length
  rw [cellsI_get _ _ _ (by omega)] at hc
  have h3 : (y.length : Int) < ((y.length + 1 : Nat) : Int) := by omega
  go_wp2_with fail
  go_ret
  exact ⟨rfl, hB⟩
end Go.Proofs.YtcngnjkpnmpcpaaDoor
