/- Structs of sums that are compared; rows of one's own that are set. -/
import Derived.Lib.SlBytesConst
import Derived.Deep.CutRange
import Derived.Test.YtnlndaknljbhcaaDoorSuNZ
namespace Go.Proofs.YtnlndaknljbhcaaDoor
open Go.RowKit Go.Shelf
attribute [local go_sem] Oper.semAt_some run_store_func

theorem eqS (a b c a' b' c' : Int) (w : World) : (Op.equalIn 10000 28 (v3 a b c) (v3 a' b' c')).run Tryd.prog w = .ok (a == a' && (b == b' && c == c')) w := by
  have u3 := Tryd.underlying3
  have hS : Tryd.prog.underlying 28 = some (.struct (Tryd.prog.fieldsOf 28)) := by kernel_rfl
  have hp : Tryd.prog.stoodInHeld 28 = false := by kernel_rfl
  have hi1 : ∀ (d : Nat) (x y : Int) w, (Op.equalIn (d + 1) 3 (.int .i64 x) (.int .i64 y)).run Tryd.prog w = .ok (x == y) w := fun d x y w => run_equalIn_int w d 3 .i64 .i64 x y u3
  rw [show (10000 : Nat) = 9999 + 1 from rfl, run_equalIn_agg w 9999 28 _ _ hS hp]
  simp only [Program.fieldsOf, Tryd.underlying28]
  have hsz : (Tryd.prog.info? 3).map (·.size) = some 1 := by kernel_rfl
  go_simp
  by_cases h1 : a = a' <;> by_cases h2 : b = b' <;> by_cases h3 : c = c' <;> simp [h1, h2, h3]
/-- Cells that begin with a list. -/
def RowL (cur : Array Value) (xs : List UInt8) : Prop := ∀ (j : Nat) (x : UInt8), xs[j]? = some x → cur[j]? = some (eB x)
theorem RowL.put {cur : Array Value} {xs : List UInt8} (h : RowL cur xs) (p : Nat) (y : UInt8) : RowL (cur.setIfInBounds p (eB y)) (xs.set p y) := by
  intro j x hx
  have hj : j < xs.length := by have := (List.getElem?_eq_some_iff.1 hx).1; simpa using this
  have hc := h j xs[j] (by simp [hj])
  rw [List.getElem?_set] at hx
  by_cases e : p = j
  · subst e
    have hpc : p < cur.size := (Array.getElem?_eq_some_iff.1 hc).1
    rw [if_pos rfl, if_pos hj] at hx
    cases hx
    rw [Array.getElem?_setIfInBounds_self_of_lt hpc]
  · rw [if_neg e] at hx
    rw [Array.getElem?_setIfInBounds_ne e]
    exact h j x hx
theorem sl_rowed {W : World} {g : Nat} {t : TypeId} {cur : Array Value} {xs : List UInt8} {cap : Nat} (hr : Rowed W g t cur) (h : RowL cur xs) (hc : xs.length ≤ cap) : Sl eB W.heap.size W (.slice (some ⟨g, 0, none⟩) xs.length cap) xs :=
  ⟨some ⟨g, 0, none⟩, cap, rfl, hc, fun _ => ⟨g, 0, rfl, hr.lt, fun j x hx => by rw [Nat.zero_add, hr.cell j]; exact h j x hx⟩⟩
theorem own_rowed {W : World} {base n : Nat} {v : Value} {xs : List UInt8} (h : W.ownsRow base 5 1 v n (xs.map eB)) (h0 : 0 < xs.length) : ∃ g cap cur, v = .slice (some ⟨g, 0, none⟩) xs.length cap ∧ v.ownBlock = some g ∧ xs.length ≤ cap ∧ Rowed W g 5 cur ∧ RowL cur xs := by
  have hl : xs.length = n := by have := h.1; simpa using this
  subst hl
  rcases h.2 with ⟨_, e0⟩ | ⟨g, cap, cur, rfl, hb, hg, hn, hcm, hsz, htk⟩
  · omega
  have hr0 : Rowed W g 5 cur := hg
  refine ⟨g, cap, cur, rfl, rfl, hn, hr0, fun j x hx => ?_⟩
  have := World.ownsRow.cells h (g := g) rfl j (eB x) (by simp [hx])
  rwa [show (⟨g, 0, none⟩ : Addr).add j = ⟨g, j, none⟩ from by unfold Addr.add; split <;> simp_all, hr0.cell j] at this
theorem at_is (z : Int) (L : Nat) (h0 : 0 < L) (hL : L ≤ 200) : ∃ k : Nat, k < L ∧ (wrap64 (z.tmod (L : Int) + (L : Int))).tmod (L : Int) = (k : Int) := by
  have h1 : z.tmod (L : Int) < L := Int.tmod_lt_of_pos _ (by omega)
  have h2 : -(L : Int) ≤ z.tmod (L : Int) := by
    rw [Int.tmod_eq_emod]
    have := Int.emod_nonneg z (b := (L : Int)) (by omega)
    split <;> simp <;> omega
  rw [IntWalk.wrap64_in _ (by omega)]
  have h3 := Int.tmod_nonneg (L : Int) (a := z.tmod (L : Int) + (L : Int)) (by omega)
  have h4 := Int.tmod_lt_of_pos (z.tmod (L : Int) + (L : Int)) (b := (L : Int)) (by omega)
  exact ⟨((z.tmod (L : Int) + (L : Int)).tmod (L : Int)).toNat, by omega, by omega⟩
theorem Tab.stays {w W : World} (h : Tab w) (hb : Below w.heap.size w W) : Tab W := h.below hb
end Go.Proofs.YtnlndaknljbhcaaDoor
/- Contracts of helixref02.place and of helixref02.Apply where a letter is swapped. -/
namespace Go.Proofs.YtnlndaknljbhcaaDoor
open Go.RowKit Go.Shelf
attribute [local go_sem] Oper.semAt_some run_store_func

theorem code_four {a : UInt8} (h : codeOf a.toNat ≠ -1) : a = 65 ∨ a = 67 ∨ a = 71 ∨ a = 84 := by
  unfold codeOf at h
  have e : ∀ k : UInt8, a.toNat = k.toNat → a = k := fun k hk => UInt8.toNat_inj.1 hk
  split at h
  · exact .inl (e 65 (by assumption))
  · split at h
    · exact .inr (.inl (e 67 (by assumption)))
    · split at h
      · exact .inr (.inr (.inl (e 71 (by assumption))))
      · split at h
        · exact .inr (.inr (.inr (e 84 (by assumption))))
        · exact absurd rfl h
theorem code_none {a : UInt8} (h : codeOf a.toNat = -1) : a ≠ 65 ∧ a ≠ 67 ∧ a ≠ 71 ∧ a ≠ 84 :=
  ⟨fun e => by rw [e] at h; exact absurd h (by decide), fun e => by rw [e] at h; exact absurd h (by decide), fun e => by rw [e] at h; exact absurd h (by decide), fun e => by rw [e] at h; exact absurd h (by decide)⟩
theorem byte_neq {a k : UInt8} (h : a ≠ k) : ((a.toNat : Int) != (k.toNat : Int)) = true := by
  rw [bne_iff_ne]
  intro e
  exact h (UInt8.toNat_inj.1 (by omega))
theorem place_any (z : Int) (L p : Nat) (h0 : 0 < L) (hat : (wrap64 (z.tmod (L : Int) + (L : Int))).tmod (L : Int) = (p : Int)) (w : World) :
    Calls Tryd.prog 47 #[.int .i64 z, .int .i64 L] w fun e w' => e = .returned (.int .i64 p) ∧ w = w' := by
  have hL0 : ¬ (L : Int) = 0 := by omega
  have hL0' : ¬ L = 0 := by omega
  clear h0
  go_enter Tryd.func47, Tryd.ntmps47
  go_wp2
  go_ret
  exact ⟨rfl, rfl⟩
theorem row_made (w : World) : (w.alloc (.cells #[] 5)).ownsRow w.heap.size 5 1 (.slice (some ⟨w.heap.size, 0, none⟩) 0 0) 0 [] :=
  ⟨rfl, .inr ⟨w.heap.size, 0, #[], rfl, Nat.le_refl _, Rowed.new w 5 #[], Nat.le_refl _, by unfold maxLen; omega, rfl, rfl⟩⟩
abbrev eD (k : Int) (z : Int) (b : UInt8) : Value := .agg #[.int .u8 k, .int .i64 z, eB b]
abbrev cD (k : Int) (z : Int) (b : UInt8) : Array Value := #[.int .u8 k, .int .i64 z, eB b]
set_option maxRecDepth 100000 in
set_option maxHeartbeats 4000000 in
theorem Apply_swap (sv : Value) (s : List UInt8) (z : Int) (b : UInt8) (p : Nat) (h0 : 0 < s.length) (hl : s.length ≤ 1000) (hp : p < s.length) (hat : (wrap64 (z.tmod (s.length : Int) + (s.length : Int))).tmod (s.length : Int) = (p : Int)) (w : World) (hS : Sl eB w.heap.size w sv s) :
    Calls Tryd.prog 25 #[sv, eD 3 z b] w fun e w' => ∃ v, e = .returned v ∧ Sl eB w'.heap.size w' v (s.set p b) ∧ Below w.heap.size w w' := by
  obtain ⟨i0, hi, hz0, hz1, hz2⟩ := info_parts info_u8
  have hpl := fun (n : Nat) (w : World) => (callsIn_wide (n := n)).2 (place_any z s.length p h0 hat w)
  obtain ⟨A, c, rfl⟩ := hS.len
  have hcl : (eD 3 z b).cells = cD 3 z b := rfl
  have hr := Rowed.new w 38 (cD 3 z b)
  have hA := below_alloc w (.cells (cD 3 z b) 38)
  have hS0 := hS.below hA
  have hlt := hr.lt
  have hne0 : ((s.length : Int) == 0) = false := by rw [beq_eq_false_iff_ne]; omega
  have Hp := Lib.hid hp
  have Hl := Lib.hid hl
  have H0 := Lib.hid h0
  clear hat hp hl h0
  go_enter Tryd.func25, Tryd.ntmps25
  go_upto_region 1 with fail
  generalize w.alloc (.cells (cD 3 z b) 38) = w0 at *
  have hrow := row_made w0
  have hA1 := hA.alloc hA.size (.cells #[] 5)
  have hS1 : Sl eB w.heap.size (w0.alloc (.cells #[] 5)) (.slice A s.length c) s := hS0.below ((Below.refl _ w0).alloc hA.size _)
  have hr1 := hr.alloc (.cells #[] 5)
  have hlt1 := hr1.lt
  go_wp2_with
    (at_builtin
     refine wpList_append_sl _ rfl (.tmp 8) (.tmp 9) _ rfl w0.heap.size 5 i0 (.int .u8 0) 1 Tryd.underlying22 hi hz0 hz1 hz2 rfl _ 0 [] hrow rfl w.heap.size _ s hS1 rfl (fun _ => rfl) (by have := Hl.out; unfold maxLen; omega) (by have := Hl.out; omega) (by simp) ?_
     intro v1 w1 hown1 hg1 hat1
     have hr2 : Rowed w1 w.heap.size 38 (cD 3 z b) := (hg1.block _ hlt1 (by simp [Value.ownBlock]; omega)).trans hr1
     have k0 := hr2.cell 0
     have k1 := hr2.cell 1
     have k2 := hr2.cell 2)
  have hown : w1.ownsRow w0.heap.size 5 1 v1 s.length (s.map eB) := by simpa using hown1
  obtain ⟨g, cap, cur, rfl, hob, hcap, hrw, hRL⟩ := own_rowed hown H0.out
  have hgb : w0.heap.size ≤ g := own_base hown g hob
  have hB1 := hA1.trans (below_grown hrow hg1 hA1.size (by omega))
  have hgh : w.heap.size ≠ g := by omega
  have d1 : w1.drew.cell? ⟨w.heap.size, 1, none⟩ = some (.int .i64 z) := k1
  have d2 : w1.drew.cell? ⟨w.heap.size, 2, none⟩ = some (eB b) := k2
  have hpL : (p : Int) < s.length := by have := Hp.out; omega
  have hpN := Hp.out
  clear hown1 hown hg1 hat1 hrow hS1 hr1 hlt1 hS0 k0 k1 k2 hS hob hA1
  refine (wpIn_wide (n := 5)).1 ?_
  refine wpIn_region_det 9 [(61, .slice (some ⟨g, 0, none⟩) s.length cap), (62, .pointer (some ⟨w.heap.size, 1, none⟩)), (63, .int .i64 z), (64, .slice A s.length c), (65, .int .i64 s.length), (66, .int .i64 p), (67, .pointer (some ⟨w.heap.size, 2, none⟩)), (68, eB b), (69, .pointer (some ⟨g, p, none⟩))]
    (by kernel_rfl) (by decide) (by kernel_rfl) (by kernel_rfl) (by kernel_rfl) (by kernel_rfl) (by kernel_rfl) ?ok1 ?tail1
  case ok1 =>
    intro A' hA'
    simp only [putAll, Act.put, List.setIfInBounds_toArray, List.set_cons_zero, List.set_cons_succ] at hA'
    subst hA'
    refine ⟨?_, ?_, ?_, ?_, ?_, ?_, ?_, ?_, ?_, trivial⟩
    all_goals unfold DetIn
    all_goals go_simp
    refine ⟨trivial, (hpl _ _).mono ?_⟩
    rintro e w' ⟨rfl, rfl⟩
    exact ⟨rfl, rfl⟩
  case tail1 =>
    intro A' hA'
    simp only [putAll, Act.put, List.setIfInBounds_toArray, List.set_cons_zero, List.set_cons_succ] at hA'
    subst hA'
    have hrd : Rowed w1.drew g 5 cur := hrw
    have hc0 : cur[p]? = some (eB (atB s p)) := hRL p _ (atB_lt hpN)
    have cc := hrd.cell p
    rw [hc0] at cc
    have ff := hrd.frozen p
    have hset := hrd.set p (eB b)
    have hsl := sl_rowed hset (hRL.put p b) (cap := cap) (by simpa using hcap)
    rw [List.length_set] at hsl
    have hBd : Below w.heap.size w w1.drew := hB1.trans ⟨rfl, rfl, rfl, Nat.le_refl _, fun _ _ => rfl⟩
    have hBs := hBd.setCell (p := ⟨g, p, none⟩) (by show w.heap.size ≤ g; omega) (eB b)
    simp only [List.drop_succ_cons, List.drop_zero]
    clear d1 d2 hrd hset hRL hrw hcap
    gi_wp2_with fail
    go_wp2_with fail
    go_ret
    exact ⟨_, rfl, hsl, hBs⟩
end Go.Proofs.YtnlndaknljbhcaaDoor
