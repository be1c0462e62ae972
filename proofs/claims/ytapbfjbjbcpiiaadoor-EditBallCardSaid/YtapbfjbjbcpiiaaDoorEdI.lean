/- Contract of edit.Apply, of whatever word. -/
import Derived.Test.YtapbfjbjbcpiiaaDoorEdG
import Derived.Test.YtapbfjbjbcpiiaaDoorEdH
namespace Go.Proofs.YtapbfjbjbcpiiaaDoor
open Go.RowKit Go.Shelf
attribute [local go_sem] Oper.semAt_some run_store_func

set_option maxRecDepth 100000 in
theorem Apply_e0 (k : UInt8) (hk : k ≠ 2) (z : Int) (b : UInt8) (A : Option Addr) (c : Nat) (w : World) :
    Calls Tryd.prog 19 #[.slice A 0 c, eE k z b] w fun e w' => ∃ u, e = .returned u ∧ Own8 w.heap.size w' u [] ∧ Below w.heap.size w w' := by
  have hcl : (eE k z b).cells = cE k z b := rfl
  have g1 : ((k.toNat : Int) == 2) = false := by
    rw [beq_eq_false_iff_ne]
    intro e
    exact hk (UInt8.toNat_inj.1 (show k.toNat = 2 by omega))
  have hb1 := Boxed.new w 25 (.slice A 0 c)
  have hA1 := below_alloc w (.cells #[.slice A 0 c] 25)
  have hr2 := Rowed.new (w.alloc (.cells #[.slice A 0 c] 25)) 36 (cE k z b)
  have hA2 := below_trans hA1 (below_alloc (w.alloc (.cells #[.slice A 0 c] 25)) (.cells (cE k z b) 36))
  rw [World.size_alloc] at hr2
  have hb1 := hb1.alloc (.cells (cE k z b) 36)
  go_enter Tryd.func19, Tryd.ntmps19
  go_upto_region 1 with fail
  generalize (w.alloc (.cells #[.slice A 0 c] 25)).alloc (.cells (cE k z b) 36) = w0 at *
  have q1 := hb1.cell
  have q2 := hr2.cell 0
  go_wp2_with fail
  go_ret
  exact ⟨_, rfl, ⟨rfl, .inl ⟨rfl, rfl⟩⟩, hA2⟩
set_option maxRecDepth 100000 in
set_option maxHeartbeats 4000000 in
theorem Apply_e2 (z : Int) (b : UInt8) (A : Option Addr) (c : Nat) (w : World) :
    Calls Tryd.prog 19 #[.slice A 0 c, .agg #[.int .u8 2, .int .i64 z, eB b]] w fun e w' => ∃ u, e = .returned u ∧ Own8 w.heap.size w' u [b] ∧ Below w.heap.size w w' := by
  have hmf : ∀ (fn : Fn) (first cap : Array Value) (w : World), (Instr.makeFunc fn first cap).run Tryd.prog w = .ok (.func fn first cap) w := fun _ _ _ _ => rfl
  have hcl : (Value.agg #[.int .u8 2, .int .i64 z, eB b]).cells = #[.int .u8 2, .int .i64 z, eB b] := rfl
  obtain ⟨hpl, hat⟩ := pl_is z 1 (by omega) (by omega)
  have hp0 : plG z 1 = 0 := by omega
  rw [hp0] at hat
  have hrs := fun w => erest_any z 1 0 (by omega) hat w
  clear hpl hat hp0
  have hb1 := Boxed.new w 25 (.slice A 0 c)
  have hA1 := below_alloc w (.cells #[(.slice A 0 c)] 25)
  have hr2 := Rowed.new (w.alloc (.cells #[(.slice A 0 c)] 25)) 36 #[.int .u8 2, .int .i64 z, eB b]
  have hA2 := below_trans hA1 (below_alloc (w.alloc (.cells #[(.slice A 0 c)] 25)) (.cells #[.int .u8 2, .int .i64 z, eB b] 36))
  rw [World.size_alloc] at hr2
  have hb1 := hb1.alloc (.cells #[.int .u8 2, .int .i64 z, eB b] 36)
  go_enter Tryd.func19, Tryd.ntmps19
  go_upto_region 1 with fail
  generalize (w.alloc (.cells #[(.slice A 0 c)] 25)).alloc (.cells #[.int .u8 2, .int .i64 z, eB b] 36) = w0 at *
  have q1 := hb1.cell
  have q2 := hr2.cell 0
  have q3 := hr2.cell 1
  have lx := hb1.lt
  have lr := hr2.lt
  go_wp2_with fail
  go_at_call 36
  refine (hrs _).mono ?_
  rintro e w' ⟨rfl, rfl⟩
  have hr3 := Rowed.new w0 3 #[.int .i64 0]
  have hB3 := below_alloc w0 (.cells #[.int .i64 0] 3)
  have hr4 := Rowed.new (w0.alloc (.cells #[.int .i64 0] 3)) 58 #[.func (.func 37) #[] #[.pointer (some ⟨w.heap.size, 0, none⟩)], .func (.func 38) #[] #[.pointer (some ⟨w.heap.size, 0, none⟩), .pointer (some ⟨w0.heap.size, 0, none⟩)], .func (.func 40) #[] #[.pointer (some ⟨w.heap.size, 0, none⟩), .pointer (some ⟨w0.heap.size, 0, none⟩), .pointer (some ⟨w.heap.size + 1, 0, none⟩)], .func (.func 41) #[] #[.pointer (some ⟨w.heap.size, 0, none⟩), .pointer (some ⟨w0.heap.size, 0, none⟩), .pointer (some ⟨w.heap.size + 1, 0, none⟩)]]
  have hB4 := below_alloc (w0.alloc (.cells #[.int .i64 0] 3)) (.cells #[.func (.func 37) #[] #[.pointer (some ⟨w.heap.size, 0, none⟩)], .func (.func 38) #[] #[.pointer (some ⟨w.heap.size, 0, none⟩), .pointer (some ⟨w0.heap.size, 0, none⟩)], .func (.func 40) #[] #[.pointer (some ⟨w.heap.size, 0, none⟩), .pointer (some ⟨w0.heap.size, 0, none⟩), .pointer (some ⟨w.heap.size + 1, 0, none⟩)], .func (.func 41) #[] #[.pointer (some ⟨w.heap.size, 0, none⟩), .pointer (some ⟨w0.heap.size, 0, none⟩), .pointer (some ⟨w.heap.size + 1, 0, none⟩)]] 58)
  have hB34 := below_trans hB3 hB4
  have c1 := (hb1.alloc (.cells #[.int .i64 0] 3)).alloc (.cells #[.func (.func 37) #[] #[.pointer (some ⟨w.heap.size, 0, none⟩)], .func (.func 38) #[] #[.pointer (some ⟨w.heap.size, 0, none⟩), .pointer (some ⟨w0.heap.size, 0, none⟩)], .func (.func 40) #[] #[.pointer (some ⟨w.heap.size, 0, none⟩), .pointer (some ⟨w0.heap.size, 0, none⟩), .pointer (some ⟨w.heap.size + 1, 0, none⟩)], .func (.func 41) #[] #[.pointer (some ⟨w.heap.size, 0, none⟩), .pointer (some ⟨w0.heap.size, 0, none⟩), .pointer (some ⟨w.heap.size + 1, 0, none⟩)]] 58) |>.cell
  have c2 := (hr3.below hB4 hr3.lt).cell 0
  have c0 := (hr2.below hB34 lr).cell 0
  have c3 := (hr2.below hB34 lr).cell 2
  rw [World.size_alloc] at hr4
  have c7 := hr4.cell 2
  have hBB := below_trans hA2 hB34
  go_upto_region 8 with fail
  generalize (w0.alloc (.cells #[.int .i64 0] 3)).alloc (.cells #[.func (.func 37) #[] #[.pointer (some ⟨w.heap.size, 0, none⟩)], .func (.func 38) #[] #[.pointer (some ⟨w.heap.size, 0, none⟩), .pointer (some ⟨w0.heap.size, 0, none⟩)], .func (.func 40) #[] #[.pointer (some ⟨w.heap.size, 0, none⟩), .pointer (some ⟨w0.heap.size, 0, none⟩), .pointer (some ⟨w.heap.size + 1, 0, none⟩)], .func (.func 41) #[] #[.pointer (some ⟨w.heap.size, 0, none⟩), .pointer (some ⟨w0.heap.size, 0, none⟩), .pointer (some ⟨w.heap.size + 1, 0, none⟩)]] 58) = w6 at *
  have hCC := deed_moreE b A c w.heap.size w0.heap.size (w.heap.size + 1) w6 c1 c2 c3
  clear hrs q1 q2 q3 hr2 hr3 hr4 hB3 hB4 hB34 hb1 hA1 hA2
  go_wp2_with fail
  go_at_call 40
  refine hCC.mono ?_
  rintro e w7 ⟨u, rfl, hu, hB7⟩
  go_wp2_with fail
  go_ret
  exact ⟨u, rfl, own_mono8 hu hBB.size, below_trans hBB hB7⟩
theorem u8_cases (k : UInt8) : k = 0 ∨ k = 1 ∨ k = 2 ∨ k = 3 ∨ (4 ≤ k.toNat ∧ k ≠ 1 ∧ k ≠ 2 ∧ k ≠ 3) := by
  have e : ∀ c : UInt8, k.toNat = c.toNat → k = c := fun c h => UInt8.toNat_inj.1 h
  by_cases h0 : k.toNat = 0
  · exact .inl (e 0 h0)
  · by_cases h1 : k.toNat = 1
    · exact .inr (.inl (e 1 h1))
    · by_cases h2 : k.toNat = 2
      · exact .inr (.inr (.inl (e 2 h2)))
      · by_cases h3 : k.toNat = 3
        · exact .inr (.inr (.inr (.inl (e 3 h3))))
        · exact .inr (.inr (.inr (.inr ⟨by omega, by rintro rfl; exact h1 rfl, by rintro rfl; exact h2 rfl, by rintro rfl; exact h3 rfl⟩)))
theorem Apply_any (v : Value) (x : List UInt8) (k : UInt8) (z : Int) (b : UInt8) (hl : x.length ≤ 200) (w : World) (hS : Sl eB w.heap.size w v x) :
    Calls Tryd.prog 19 #[v, eE k z b] w fun e w' => ∃ u, e = .returned u ∧ Own8 w.heap.size w' u (apG x k z b) ∧ Below w.heap.size w w' := by
  by_cases h0 : 0 < x.length
  · obtain ⟨A, c, rfl, -, hcs⟩ := id hS
    obtain ⟨bk, off, rfl, -⟩ := hcs h0
    have hx : ¬ x.length = 0 := by omega
    rcases u8_cases k with rfl | rfl | rfl | rfl | ⟨h4, n1, n2, n3⟩
    · exact Apply_ne0 x z b bk off c h0 hl w hS
    · have := Apply_ne1 x z b bk off c h0 hl w hS
      have e : apG x 1 z b = x.take (plG z x.length) ++ x.drop (plG z x.length + 1) := by unfold apG; rw [if_pos rfl, if_neg hx]
      rw [e]; exact this
    · exact Apply_ne2 x z b bk off c h0 hl w hS
    · have := Apply_ne3 x z b bk off c h0 hl w hS
      have e : apG x 3 z b = x.take (plG z x.length) ++ b :: x.drop (plG z x.length + 1) := by unfold apG; rw [if_neg (by decide), if_neg (by decide), if_pos rfl, if_neg hx]
      rw [e]; exact this
    · have := Apply_nek x k h4 z b bk off c h0 hl w hS
      have e : apG x k z b = x := by unfold apG; rw [if_neg n1, if_neg n2, if_neg n3]
      rw [e]; exact this
  · obtain rfl : x = [] := List.eq_nil_of_length_eq_zero (by omega)
    obtain ⟨A, c, rfl⟩ := hS.len
    by_cases hk : k = 2
    · subst hk
      have e : apG [] 2 z b = [b] := by unfold apG; simp
      rw [e]; exact Apply_e2 z b A c w
    · have e : apG [] k z b = [] := by
        unfold apG
        rw [if_neg hk]
        simp
      rw [e]; exact Apply_e0 k hk z b A c w
end Go.Proofs.YtapbfjbjbcpiiaaDoor
