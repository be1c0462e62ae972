/- Contracts of the law's clean, and of helixref02.Apply where a letter is swapped. -/
import Derived.Test.YtheealkoooiloaaDoorSuQ
namespace Go.Proofs.YtheealkoooiloaaDoor
open Go.RowKit Go.Shelf
attribute [local go_sem] Oper.semAt_some run_store_func

theorem code_four {a : UInt8} (h : codeOf a.toNat ≠ -1) : a = 65 ∨ a = 67 ∨ a = 71 ∨ a = 84 := by
  unfold codeOf at h
  have e : ∀ k : UInt8, a.toNat = k.toNat → a = k := fun k hk => UInt8.toNat_inj.1 hk
  split at h
  · exact .inl (e 65 (by assumption))
  · split at h
    · exact .inr (.inl (e 67 (by assumption)))
    · split at h
      · exact .inr (.inr (.inl (e 71 (by assumption))))
      · split at h
        · exact .inr (.inr (.inr (e 84 (by assumption))))
        · exact absurd rfl h
theorem code_none {a : UInt8} (h : codeOf a.toNat = -1) : a ≠ 65 ∧ a ≠ 67 ∧ a ≠ 71 ∧ a ≠ 84 :=
  ⟨fun e => by rw [e] at h; exact absurd h (by decide), fun e => by rw [e] at h; exact absurd h (by decide), fun e => by rw [e] at h; exact absurd h (by decide), fun e => by rw [e] at h; exact absurd h (by decide)⟩
theorem byte_neq {a k : UInt8} (h : a ≠ k) : ((a.toNat : Int) != (k.toNat : Int)) = true := by
  rw [bne_iff_ne]
  intro e
  exact h (UInt8.toNat_inj.1 (by omega))
/-- Whether all letters are of the four, and from 2 to 40 of them. -/
def CleanP (s : List UInt8) : Prop := 2 ≤ s.length ∧ s.length ≤ 40 ∧ ∀ k, k < s.length → codeOf (atB s k).toNat ≠ -1
instance (s : List UInt8) : Decidable (CleanP s) := by unfold CleanP; infer_instance
set_option maxRecDepth 100000 in
set_option maxHeartbeats 4000000 in
theorem clean_any (sv : Value) (s : List UInt8) (w : World) (hS : Sl eB w.heap.size w sv s) :
    Calls Tryd.prog 21 #[sv] w fun e w' => e = .returned (.bool (decide (CleanP s))) ∧ w = w' := by
  obtain ⟨A, c, rfl, hc, hcs⟩ := hS
  go_enter Tryd.func21, Tryd.ntmps21
  go_wp2_with fail
  go_loop [3] (fun i => ∃ k : Nat, k ≤ s.length ∧ k ≤ 41 ∧ i = .int .i64 k ∧ ∀ j, j < k → codeOf (atB s j).toNat ≠ -1) (fun i => 50 - (intOf i).toNat)
  case atStart => exact ⟨0, Nat.zero_le _, by omega, rfl, fun j hj => absurd hj (by omega)⟩
  case round =>
    obtain ⟨k, hk, hk41, rfl, hok⟩ := hrel
    by_cases hlt : k < s.length
    · have d1 : decide ((k : Int) < (s.length : Int)) = true := decide_eq_true (by omega)
      have hkl : (k : Int) < (s.length : Int) := by omega
      by_cases h40 : k ≤ 40
      · have d2 : decide ((k : Int) ≤ 40) = true := decide_eq_true (by omega)
        obtain ⟨b, off, rfl, hb, hcell⟩ := hcs (by omega)
        have hx := hcell k _ (atB_lt hlt)
        by_cases hbad : codeOf (atB s k).toNat = -1
        · have hno : decide (CleanP s) = false := decide_eq_false (fun h => h.2.2 k hlt hbad)
          obtain ⟨n0, n1, n2, n3⟩ := code_none hbad
          have b0 := byte_neq n0
          have b1 := byte_neq n1
          have b2 := byte_neq n2
          have b3 := byte_neq n3
          have Hn := Lib.hid hno
          clear n0 n1 n2 n3 hbad hcell hcs hok hno
          generalize atB s k = y at *
          simp only [show ((65 : UInt8).toNat : Int) = 65 from rfl, show ((67 : UInt8).toNat : Int) = 67 from rfl, show ((71 : UInt8).toNat : Int) = 71 from rfl, show ((84 : UInt8).toNat : Int) = 84 from rfl] at b0 b1 b2 b3
          go_wp2_with fail
          go_ret
          exact ⟨by rw [Hn.out]; rfl, rfl⟩
        · have Hok := Lib.hid (show ∀ j, j < k + 1 → codeOf (atB s j).toNat ≠ -1 from fun j hj => by
            by_cases e : j = k
            · rw [e]; exact hbad
            · exact hok j (by omega))
          have hfour := code_four hbad
          clear hbad hcell hcs hok
          generalize atB s k = y at *
          rcases hfour with rfl | rfl | rfl | rfl
          all_goals
            go_wp2_with fail
            go_round
            case rel => exact ⟨k + 1, by omega, by omega, by go_num, Hok.out⟩
            case measure => simp [intOf]; omega
      · have d2 : decide ((k : Int) ≤ 40) = false := decide_eq_false (by omega)
        have hno : decide (CleanP s) = false := decide_eq_false (fun h => by have := h.2.1; omega)
        have d3 : decide ((2 : Int) ≤ (s.length : Int)) = true := decide_eq_true (by omega)
        have d4 : decide ((s.length : Int) ≤ 40) = false := decide_eq_false (by omega)
        have Hn := Lib.hid hno
        clear hok hno hcs
        go_wp2_with fail
        go_ret
        exact ⟨by rw [Hn.out]; rfl, rfl⟩
    · obtain rfl : k = s.length := by omega
      have d1 : decide ((s.length : Int) < (s.length : Int)) = false := decide_eq_false (by omega)
      by_cases h2 : 2 ≤ s.length
      · have d3 : decide ((2 : Int) ≤ (s.length : Int)) = true := decide_eq_true (by omega)
        by_cases h40 : s.length ≤ 40
        · have d4 : decide ((s.length : Int) ≤ 40) = true := decide_eq_true (by omega)
          have Hn := Lib.hid (show decide (CleanP s) = true from decide_eq_true ⟨h2, h40, hok⟩)
          clear hok hcs h2 h40
          go_wp2_with fail
          go_ret
          exact ⟨by rw [Hn.out]; rfl, rfl⟩
        · have d4 : decide ((s.length : Int) ≤ 40) = false := decide_eq_false (by omega)
          have Hn := Lib.hid (show decide (CleanP s) = false from decide_eq_false (fun h => h40 h.2.1))
          clear hok hcs h2 h40
          go_wp2_with fail
          go_ret
          exact ⟨by rw [Hn.out]; rfl, rfl⟩
      · have d3 : decide ((2 : Int) ≤ (s.length : Int)) = false := decide_eq_false (by omega)
        have Hn := Lib.hid (show decide (CleanP s) = false from decide_eq_false (fun h => h2 h.1))
        clear hok hcs h2
        go_wp2_with fail
        go_ret
        exact ⟨by rw [Hn.out]; rfl, rfl⟩
theorem place_any (z : Int) (L p : Nat) (h0 : 0 < L) (hat : (wrap64 (z.tmod (L : Int) + (L : Int))).tmod (L : Int) = (p : Int)) (w : World) :
    Calls Tryd.prog 38 #[.int .i64 z, .int .i64 L] w fun e w' => e = .returned (.int .i64 p) ∧ w = w' := by
  have hL0 : ¬ (L : Int) = 0 := by omega
  have hL0' : ¬ L = 0 := by omega
  clear h0
  go_enter Tryd.func38, Tryd.ntmps38
  go_wp2
  go_ret
  exact ⟨rfl, rfl⟩
theorem row_made (w : World) : (w.alloc (.cells #[] 5)).ownsRow w.heap.size 5 1 (.slice (some ⟨w.heap.size, 0, none⟩) 0 0) 0 [] :=
  ⟨rfl, .inr ⟨w.heap.size, 0, #[], rfl, Nat.le_refl _, Rowed.new w 5 #[], Nat.le_refl _, by unfold maxLen; omega, rfl, rfl⟩⟩
abbrev eD (k : Int) (z : Int) (b : UInt8) : Value := .agg #[.int .u8 k, .int .i64 z, eB b]
abbrev cD (k : Int) (z : Int) (b : UInt8) : Array Value := #[.int .u8 k, .int .i64 z, eB b]
set_option maxRecDepth 100000 in
set_option maxHeartbeats 4000000 in
theorem Apply_swap (sv : Value) (s : List UInt8) (z : Int) (b : UInt8) (p : Nat) (h0 : 0 < s.length) (hl : s.length ≤ 1000) (hp : p < s.length) (hat : (wrap64 (z.tmod (s.length : Int) + (s.length : Int))).tmod (s.length : Int) = (p : Int)) (w : World) (hS : Sl eB w.heap.size w sv s) :
    Calls Tryd.prog 22 #[sv, eD 3 z b] w fun e w' => ∃ v, e = .returned v ∧ Sl eB w'.heap.size w' v (s.set p b) ∧ Below w.heap.size w w' := by
  obtain ⟨i0, hi, hz0, hz1, hz2⟩ := info_parts info_u8
  have hpl := fun (n : Nat) (w : World) => (callsIn_wide (n := n)).2 (place_any z s.length p h0 hat w)
  obtain ⟨A, c, rfl⟩ := hS.len
  have hcl : (eD 3 z b).cells = cD 3 z b := rfl
  have hr := Rowed.new w 40 (cD 3 z b)
  have hA := below_alloc w (.cells (cD 3 z b) 40)
  have hS0 := hS.below hA
  have hlt := hr.lt
  have hne0 : ((s.length : Int) == 0) = false := by rw [beq_eq_false_iff_ne]; omega
  have Hp := Lib.hid hp
  have Hl := Lib.hid hl
  have H0 := Lib.hid h0
  clear hat hp hl h0
  go_enter Tryd.func22, Tryd.ntmps22
  go_upto_region 1 with fail
  generalize w.alloc (.cells (cD 3 z b) 40) = w0 at *
  have hrow := row_made w0
  have hA1 := hA.alloc hA.size (.cells #[] 5)
  have hS1 : Sl eB w.heap.size (w0.alloc (.cells #[] 5)) (.slice A s.length c) s := hS0.below ((Below.refl _ w0).alloc hA.size _)
  have hr1 := hr.alloc (.cells #[] 5)
  have hlt1 := hr1.lt
  go_wp2_with
    (at_builtin
     refine wpList_append_sl _ rfl (.tmp 8) (.tmp 9) _ rfl w0.heap.size 5 i0 (.int .u8 0) 1 Tryd.underlying22 hi hz0 hz1 hz2 rfl _ 0 [] hrow rfl w.heap.size _ s hS1 rfl (fun _ => rfl) (by have := Hl.out; unfold maxLen; omega) (by have := Hl.out; omega) (by simp) ?_
     intro v1 w1 hown1 hg1 hat1
     have hr2 : Rowed w1 w.heap.size 40 (cD 3 z b) := (hg1.block _ hlt1 (by simp [Value.ownBlock]; omega)).trans hr1
     have k0 := hr2.cell 0
     have k1 := hr2.cell 1
     have k2 := hr2.cell 2)
  have hown : w1.ownsRow w0.heap.size 5 1 v1 s.length (s.map eB) := by simpa using hown1
  obtain ⟨g, cap, cur, rfl, hob, hcap, hrw, hRL⟩ := own_rowed hown H0.out
  have hgb : w0.heap.size ≤ g := own_base hown g hob
  have hB1 := hA1.trans (below_grown hrow hg1 hA1.size (by omega))
  have hgh : w.heap.size ≠ g := by omega
  have d1 : w1.drew.cell? ⟨w.heap.size, 1, none⟩ = some (.int .i64 z) := k1
  have d2 : w1.drew.cell? ⟨w.heap.size, 2, none⟩ = some (eB b) := k2
  have hpL : (p : Int) < s.length := by have := Hp.out; omega
  have hpN := Hp.out
  clear hown1 hown hg1 hat1 hrow hS1 hr1 hlt1 hS0 k0 k1 k2 hS hob hA1
  refine (wpIn_wide (n := 5)).1 ?_
  refine wpIn_region_det 9 [(61, .slice (some ⟨g, 0, none⟩) s.length cap), (62, .pointer (some ⟨w.heap.size, 1, none⟩)), (63, .int .i64 z), (64, .slice A s.length c), (65, .int .i64 s.length), (66, .int .i64 p), (67, .pointer (some ⟨w.heap.size, 2, none⟩)), (68, eB b), (69, .pointer (some ⟨g, p, none⟩))]
    (by kernel_rfl) (by decide) (by kernel_rfl) (by kernel_rfl) (by kernel_rfl) (by kernel_rfl) (by kernel_rfl) ?ok1 ?tail1
  case ok1 =>
    intro A' hA'
    simp only [putAll, Act.put, List.setIfInBounds_toArray, List.set_cons_zero, List.set_cons_succ] at hA'
    subst hA'
    refine ⟨?_, ?_, ?_, ?_, ?_, ?_, ?_, ?_, ?_, trivial⟩
    all_goals unfold DetIn
    all_goals go_simp
    refine ⟨trivial, (hpl _ _).mono ?_⟩
    rintro e w' ⟨rfl, rfl⟩
    exact ⟨rfl, rfl⟩
  case tail1 =>
    intro A' hA'
    simp only [putAll, Act.put, List.setIfInBounds_toArray, List.set_cons_zero, List.set_cons_succ] at hA'
    subst hA'
    have hrd : Rowed w1.drew g 5 cur := hrw
    have hc0 : cur[p]? = some (eB (atB s p)) := hRL p _ (atB_lt hpN)
    have cc := hrd.cell p
    rw [hc0] at cc
    have ff := hrd.frozen p
    have hset := hrd.set p (eB b)
    have hsl := sl_rowed hset (hRL.put p b) (cap := cap) (by simpa using hcap)
    rw [List.length_set] at hsl
    have hBd : Below w.heap.size w w1.drew := hB1.trans ⟨rfl, rfl, rfl, Nat.le_refl _, fun _ _ => rfl⟩
    have hBs := hBd.setCell (p := ⟨g, p, none⟩) (by show w.heap.size ≤ g; omega) (eB b)
    simp only [List.drop_succ_cons, List.drop_zero]
    clear d1 d2 hrd hset hRL hrw hcap
    gi_wp2_with fail
    go_wp2_with fail
    go_ret
    exact ⟨_, rfl, hsl, hBs⟩
end Go.Proofs.YtheealkoooiloaaDoor
