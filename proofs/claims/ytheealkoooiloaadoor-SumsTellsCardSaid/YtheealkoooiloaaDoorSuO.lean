/- Structs that are compared; rows of one's own that are set. -/
import Derived.Test.YtheealkoooiloaaDoorSuN
namespace Go.Proofs.YtheealkoooiloaaDoor
open Go.RowKit Go.Shelf
attribute [local go_sem] Oper.semAt_some run_store_func

theorem eqS (a b c a' b' c' : Int) (w : World) : (Op.equalIn 10000 24 (v3 a b c) (v3 a' b' c')).run Tryd.prog w = .ok (a == a' && (b == b' && c == c')) w := by
  have u3 := Tryd.underlying3
  have hS : Tryd.prog.underlying 24 = some (.struct (Tryd.prog.fieldsOf 24)) := by kernel_rfl
  have hp : Tryd.prog.stoodInHeld 24 = false := by kernel_rfl
  have hi1 : ∀ (d : Nat) (x y : Int) w, (Op.equalIn (d + 1) 3 (.int .i64 x) (.int .i64 y)).run Tryd.prog w = .ok (x == y) w := fun d x y w => run_equalIn_int w d 3 .i64 .i64 x y u3
  rw [show (10000 : Nat) = 9999 + 1 from rfl, run_equalIn_agg w 9999 24 _ _ hS hp]
  simp only [Program.fieldsOf, Tryd.underlying24]
  have hsz : (Tryd.prog.info? 3).map (·.size) = some 1 := by kernel_rfl
  go_simp
  by_cases h1 : a = a' <;> by_cases h2 : b = b' <;> by_cases h3 : c = c' <;> simp [h1, h2, h3]
/-- Cells that begin with a list. -/
def RowL (cur : Array Value) (xs : List UInt8) : Prop := ∀ (j : Nat) (x : UInt8), xs[j]? = some x → cur[j]? = some (eB x)
theorem RowL.put {cur : Array Value} {xs : List UInt8} (h : RowL cur xs) (p : Nat) (y : UInt8) : RowL (cur.setIfInBounds p (eB y)) (xs.set p y) := by
  intro j x hx
  have hj : j < xs.length := by have := (List.getElem?_eq_some_iff.1 hx).1; simpa using this
  have hc := h j xs[j] (by simp [hj])
  rw [List.getElem?_set] at hx
  by_cases e : p = j
  · subst e
    have hpc : p < cur.size := (Array.getElem?_eq_some_iff.1 hc).1
    rw [if_pos rfl, if_pos hj] at hx
    cases hx
    rw [Array.getElem?_setIfInBounds_self_of_lt hpc]
  · rw [if_neg e] at hx
    rw [Array.getElem?_setIfInBounds_ne e]
    exact h j x hx
theorem sl_rowed {W : World} {g : Nat} {t : TypeId} {cur : Array Value} {xs : List UInt8} {cap : Nat} (hr : Rowed W g t cur) (h : RowL cur xs) (hc : xs.length ≤ cap) : Sl eB W.heap.size W (.slice (some ⟨g, 0, none⟩) xs.length cap) xs :=
  ⟨some ⟨g, 0, none⟩, cap, rfl, hc, fun _ => ⟨g, 0, rfl, hr.lt, fun j x hx => by rw [Nat.zero_add, hr.cell j]; exact h j x hx⟩⟩
theorem own_rowed {W : World} {base n : Nat} {v : Value} {xs : List UInt8} (h : W.ownsRow base 5 1 v n (xs.map eB)) (h0 : 0 < xs.length) : ∃ g cap cur, v = .slice (some ⟨g, 0, none⟩) xs.length cap ∧ v.ownBlock = some g ∧ xs.length ≤ cap ∧ Rowed W g 5 cur ∧ RowL cur xs := by
  have hl : xs.length = n := by have := h.1; simpa using this
  subst hl
  rcases h.2 with ⟨_, e0⟩ | ⟨g, cap, cur, rfl, hb, hg, hn, hcm, hsz, htk⟩
  · omega
  have hr0 : Rowed W g 5 cur := hg
  refine ⟨g, cap, cur, rfl, rfl, hn, hr0, fun j x hx => ?_⟩
  have := World.ownsRow.cells h (g := g) rfl j (eB x) (by simp [hx])
  rwa [show (⟨g, 0, none⟩ : Addr).add j = ⟨g, j, none⟩ from by unfold Addr.add; split <;> simp_all, hr0.cell j] at this
theorem at_is (z : Int) (L : Nat) (h0 : 0 < L) (hL : L ≤ 200) : ∃ k : Nat, k < L ∧ (wrap64 (z.tmod (L : Int) + (L : Int))).tmod (L : Int) = (k : Int) := by
  have h1 : z.tmod (L : Int) < L := Int.tmod_lt_of_pos _ (by omega)
  have h2 : -(L : Int) ≤ z.tmod (L : Int) := by
    rw [Int.tmod_eq_emod]
    have := Int.emod_nonneg z (b := (L : Int)) (by omega)
    split <;> simp <;> omega
  rw [IntWalk.wrap64_in _ (by omega)]
  have h3 := Int.tmod_nonneg (L : Int) (a := z.tmod (L : Int) + (L : Int)) (by omega)
  have h4 := Int.tmod_lt_of_pos (z.tmod (L : Int) + (L : Int)) (b := (L : Int)) (by omega)
  exact ⟨((z.tmod (L : Int) + (L : Int)).tmod (L : Int)).toNat, by omega, by omega⟩
theorem Tab.stays {w W : World} (h : Tab w) (hb : Below w.heap.size w W) : Tab W := h.below hb

set_option maxRecDepth 100000 in
set_option maxHeartbeats 4000000 in
theorem SumsBits_no (a b c n z : Int) (h : rightB a b c n = false) (w : World) (hT : Tab w) :
    Calls Tryd.prog 7 #[v3 a b c, .int .i64 n, .int .i64 z] w fun e w' => e = .returned (.bool true) ∧ Below w.heap.size w w' := by
  have hR := fun w => refRight_any a b c n w
  have hP := fun w => Pack_no a b c n h w
  have hR2 := fun w => Right_any a b c n w
  rw [h] at hR hR2
  have hw := wakes_any
  have hcl : (v3 a b c).cells = c3 a b c := rfl
  have hr := Rowed.new w 24 (c3 a b c)
  have hA := below_alloc w (.cells (c3 a b c) 24)
  have hlt := hr.lt
  clear h
  have k0 := hr.cell 0
  have k1 := hr.cell 1
  have k2 := hr.cell 2
  simp at k0 k1 k2
  go_enter Tryd.func7, Tryd.ntmps7
  go_wp2_with fail
  generalize w.alloc (.cells (c3 a b c) 24) = w0 at *
  go_at_call 18
  refine (hR _).mono ?_
  rintro e w1 ⟨rfl, hB1⟩
  have hr1 := hr.below hB1 hlt
  have hA1 := hA.trans (hB1.mono hA.size)
  have hlt1 := hr1.lt
  have k0 := hr1.cell 0
  have k1 := hr1.cell 1
  have k2 := hr1.cell 2
  simp at k0 k1 k2
  clear hR hB1 hr hA hlt
  go_wp2_with fail
  go_at_call 11
  refine (hP _).mono ?_
  rintro e w2 ⟨hB2, rfl⟩
  have hr2 := hr1.below hB2 hlt1
  have hA2 := hA1.trans (hB2.mono hA1.size)
  have k0 := hr2.cell 0
  have k1 := hr2.cell 1
  have k2 := hr2.cell 2
  simp at k0 k1 k2
  clear hP hB2 hr1 hA1 hlt1 hr2
  go_wp2_with fail
  go_at_call 17
  refine (hR2 _).mono ?_
  rintro e w3 ⟨rfl, hB3⟩
  have hA3 := hA2.trans (hB3.mono hA2.size)
  clear hR2 hB3 hA2 k0 k1 k2
  go_wp2_with (go_at_call 8; refine (hw _ (hT.stays hA3)).mono ?_; rintro e w' ⟨rfl, hB⟩)
  go_ret
  exact ⟨rfl, hA3.trans (hB.mono hA3.size)⟩
end Go.Proofs.YtheealkoooiloaaDoor
