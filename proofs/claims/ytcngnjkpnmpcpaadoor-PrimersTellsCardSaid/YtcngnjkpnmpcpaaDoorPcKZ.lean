import Derived.Test.YtcngnjkpnmpcpaaDoorPcJZ
namespace Go.Proofs.YtcngnjkpnmpcpaaDoor
open Go.RowKit Go.Shelf
attribute [local go_sem] Oper.semAt_some run_store_func
set_option maxRecDepth 100000 in
set_option maxHeartbeats 2000000 in
theorem RLibraryP_any (n : Int) (s : Nat) (hs : s < 18446744073709551616) (w : World) :
    Calls Tryd.prog 11 #[.int .i64 n, .int .u64 s] w fun e w' => ∃ v, e = .returned (.tuple #[v, .int .i64 (libE n s)]) ∧ PrsIn w'.heap.size w' v (libP n s) ∧ Below w.heap.size w w' := by
  by_cases h : 0 ≤ n ∧ n ≤ 8
  · have h1 := RLib_main n.toNat s (by omega) hs w
    rwa [show ((n.toNat : Nat) : Int) = n by omega] at h1
  · have e1 : libE n s = 2 := if_neg h
    have e2 : libP n s = [] := by unfold libP; rw [e1, if_neg (by decide)]
    rw [e1, e2]
    clear e1 e2
    by_cases h0 : n < 0
    · have hd : decide (n < 0) = true := decide_eq_true h0
      clear h
      go_enter Tryd.func11, Tryd.ntmps11
      go_wp2_with fail
      go_ret2
      exact ⟨_, rfl, ⟨none, 0, rfl, Nat.le_refl _, fun h => absurd h (by simp)⟩, Below.refl _ _⟩
    · have hd : decide (n < 0) = false := decide_eq_false h0
      have h8 : 8 < n := by omega
      have hd8 : decide (8 < n) = true := decide_eq_true h8
      clear h
      go_enter Tryd.func11, Tryd.ntmps11
      go_wp2_with fail
      go_ret2
      exact ⟨_, rfl, ⟨none, 0, rfl, Nat.le_refl _, fun h => absurd h (by simp)⟩, Below.refl _ _⟩
set_option maxRecDepth 100000 in
set_option maxHeartbeats 4000000 in
theorem RSameP_any (u v : Value) (L : List Pr) (hL : L.length ≤ 1000) (w : World) (h1 : PrsIn w.heap.size w u L) (h2 : PrsIn w.heap.size w v L) :
    Calls Tryd.prog 16 #[u, v] w fun e w' => e = .returned (.bool true) ∧ Below w.heap.size w w' := by
  have hdr : Tryd.prog.follows .mixedOrders = true := by kernel_rfl
  obtain ⟨A1, c1, e, -, hc1⟩ := h1
  subst e
  obtain ⟨A2, c2, e, -, hc2⟩ := h2
  subst e
  have HC1 := Lib.hid hc1
  have HC2 := Lib.hid hc2
  clear hc1 hc2
  go_enter Tryd.func16, Tryd.ntmps16
  go_wp2_with fail
  go_loopw [5] (fun i wr => ∃ k : Nat, k ≤ L.length ∧ i = .int .i64 k ∧ Below w.heap.size w wr) (fun i _ => L.length - (RowKit.intOf i).toNat)
  case atStart => exact ⟨0, Nat.zero_le _, rfl, Below.refl _ _⟩
  case round =>
   obtain ⟨k, hk, rfl, hB⟩ := hrel
   by_cases hlt : k < L.length
   · obtain ⟨b, off, rfl, hb, hcell⟩ := HC1.out (by omega)
     obtain ⟨b', off', rfl, hb', hcell'⟩ := HC2.out (by omega)
     have hkl : (k : Int) < (L.length : Int) := by omega
     have hx1 := hcell k hlt
     have hx2 := hcell' k hlt
     obtain ⟨⟨x, y⟩, hp⟩ : ∃ p, L[k] = p := ⟨_, rfl⟩
     rw [hp] at hx1 hx2
     simp only at hx1 hx2
     have hck : ∀ W, Below wr.heap.size wr W → (W.cell? ⟨b, off + k * 2, none⟩ = some (sV x) ∧ W.cell? ⟨b, off + k * 2 + 1, none⟩ = some (sV y)) ∧ W.cell? ⟨b', off' + k * 2, none⟩ = some (sV x) ∧ W.cell? ⟨b', off' + k * 2 + 1, none⟩ = some (sV y) := fun W hW =>
      have h := hB.trans (hW.mono hB.size)
      ⟨⟨(h.cell (p := ⟨b, off + k * 2, none⟩) hb).trans hx1.1, (h.cell (p := ⟨b, off + k * 2 + 1, none⟩) hb).trans hx1.2⟩, (h.cell (p := ⟨b', off' + k * 2, none⟩) hb').trans hx2.1, (h.cell (p := ⟨b', off' + k * 2 + 1, none⟩) hb').trans hx2.2⟩
     have hSd : Below wr.heap.size wr wr.drew := ⟨rfl, rfl, rfl, Nat.le_refl _, fun _ _ => rfl⟩
     have HB := Lib.hid hB
     have HK := Lib.hid hlt
     clear hx1 hx2 hcell hcell' hp hlt hk hB
     go_wp2_with fail
     refine wp_region_det (Below wr.heap.size wr) [(17, .slice (some ⟨b, off, none⟩) L.length c1), (18, .int .i64 k), (19, .pointer (some ⟨b, off + k * 2, none⟩)), (20, .agg #[sV x, sV y]), (21, .slice (some ⟨b', off', none⟩) L.length c2), (22, .int .i64 k), (23, .pointer (some ⟨b', off' + k * 2, none⟩)), (24, .agg #[sV x, sV y]), (25, .bool false)]
       (by kernel_rfl) (by kernel_rfl) (by kernel_rfl) (by kernel_rfl) (by kernel_rfl) hSd ?ok1 ?fin1
     case ok1 =>
      intro A' hA'
      simp only [putAll, Act.put, List.setIfInBounds_toArray, List.set_cons_zero, List.set_cons_succ] at hA'
      subst hA'
      simp only [detAll]
      refine ⟨?_, ?_, ?_, ?_, ?_, ?_, ?_, ?_, ?_, trivial⟩
      all_goals
       intro w' hS'
       obtain ⟨⟨cc1, cc2⟩, cc3, cc4⟩ := hck w' hS'
       clear hck
       go_simp
       first
        | exact hS'
        | exact ⟨rfl, hS'⟩
        | done
     case fin1 =>
      intro A' hA' w6 hS6
      simp only [putAll, Act.put, List.setIfInBounds_toArray, List.set_cons_zero, List.set_cons_succ] at hA'
      subst hA'
      have HS6 := Lib.hid (HB.out.trans (hS6.mono HB.out.size))
      clear hck hSd hS6
      go_wp2_with fail
      go_roundw
      case rel => exact ⟨k + 1, HK.out, by go_num, HS6.out⟩
      case measure => have := HK.out; simp [RowKit.intOf]; omega
   · obtain rfl : k = L.length := by omega
     have h3 : ¬ (L.length : Int) < (L.length : Int) := by omega
     clear hlt hk HC1 HC2
     go_wp2_with fail
     go_ret
     exact ⟨rfl, hB⟩
end Go.Proofs.YtcngnjkpnmpcpaaDoor
