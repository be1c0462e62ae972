import Derived.Test.YtcngnjkpnmpcpaaDoorEdCZ
import Derived.Test.YtcngnjkpnmpcpaaDoorRdEZ
namespace Go.Proofs.YtcngnjkpnmpcpaaDoor
open Go.RowKit Go.Shelf
attribute [local go_sem] Oper.semAt_some run_store_func
set_option maxRecDepth 100000 in
set_option maxHeartbeats 1000000 in
theorem RPrefix_any (va vb : Value) (a b : List UInt8) (w : World) (hSa : Sl eB w.heap.size w va a) (hSb : Sl eB w.heap.size w vb b) :
    Calls Tryd.prog 23 #[va, vb] w fun e w' => (∃ n : Nat, e = .returned (.int .i64 n) ∧ IsPre (cut a) (cut b) n) ∧ Below w.heap.size w w' := by
  obtain ⟨A0, c0, rfl, hc0, -⟩ := id hSa
  obtain ⟨A1, c1, rfl, hc1, -⟩ := id hSb
  have k0 := fun w => cutR_any a A0 c0 hc0 w
  have k1 := fun w => cutR_any b A1 c1 hc1 w
  have sa := cutR_sl hSa
  have sb := cutR_sl hSb
  have hla : (a.take 1000).length ≤ 1000 := by rw [List.length_take]; omega
  have hlb : (b.take 1000).length ≤ 1000 := by rw [List.length_take]; omega
  clear hSa hSb hc0 hc1
  unfold cut
  obtain ⟨la, hl1⟩ : ∃ n, a.length = n := ⟨_, rfl⟩
  obtain ⟨lb, hl2⟩ : ∃ n, b.length = n := ⟨_, rfl⟩
  rw [hl1] at k0 ⊢
  rw [hl2] at k1 ⊢
  clear hl1 hl2
  generalize a.take 1000 = x at *
  generalize b.take 1000 = y at *
  have hR := row_any _ _ x y hla hlb w sa sb
  go_enter Tryd.func23, Tryd.ntmps23
  go_wp2_with fail
  go_at_call 44
  refine (k0 _).mono ?_
  rintro e w' ⟨rfl, rfl⟩
  go_wp2_with fail
  go_at_call 44
  refine (k1 _).mono ?_
  rintro e w' ⟨rfl, rfl⟩
  go_wp2_with fail
  go_at_call 45
  refine hR.mono ?_
  rintro e w2 ⟨g, rfl, hr, hg, hB⟩
  have hdt : ∀ j, j ≤ y.length → lev (sameAt x y) x.length j = dist x (y.take j) := fun j hj => (dist_take x y j hj).symm
  obtain ⟨f, hf⟩ : ∃ f : Nat → Nat, (fun j => lev (sameAt x y) x.length j) = f := ⟨_, rfl⟩
  have hfj : ∀ j, lev (sameAt x y) x.length j = f j := fun j => by rw [← hf]
  have hcj : ∀ j, j ≤ y.length → w2.cell? ⟨g, j, none⟩ = some (.int .i64 (f j : Nat)) := fun j hj => by
   have hc := hr.cell j
   rw [cellsI_get _ _ _ (by omega), hfj] at hc
   exact hc
  obtain ⟨N, hN⟩ : ∃ N, y.length = N := ⟨_, rfl⟩
  have HP := Lib.hid (show ∀ n, (∃ j, j ≤ N ∧ f j = n) → (∀ j, j ≤ N → n ≤ f j) → IsPre x y n from fun n ⟨j, hj, hn⟩ h => by
   subst hN
   refine ⟨⟨j, hj, by rw [← hdt j hj, hfj, hn]⟩, fun i hi => ?_⟩
   rw [← hdt i hi, hfj]
   exact h i hi)
  have hc0 := hcj 0 (Nat.zero_le _)
  have HC := Lib.hid hcj
  have HL := Lib.hid hlb
  rw [hN] at HC HL
  have h3 : (0 : Int) < ((N + 1 : Nat) : Int) := by omega
  simp only [hN]
  clear hcj hdt hfj hf hr hla hlb sa sb hR k0 k1
  go_wp2_with fail
  go_loopw [6, 7] (fun t i wr => ∃ k n : Nat, 1 ≤ k ∧ k ≤ N + 1 ∧ i = .int .i64 k ∧ t = .int .i64 n ∧ (∃ j, j ≤ N ∧ f j = n) ∧ (∀ j, j < k → n ≤ f j) ∧ w2 = wr) (fun _ i _ => N + 1 - (RowKit.intOf i).toNat)
  case atStart => exact ⟨1, f 0, Nat.le_refl _, by omega, rfl, rfl, ⟨0, Nat.zero_le _, rfl⟩, fun j hj => (by obtain rfl : j = 0 := (by omega); exact Nat.le_refl _), by trivial⟩
  case round =>
   obtain ⟨k, n, hk1, hk, rfl, rfl, hex, hall, rfl⟩ := hrel
   by_cases hlt : k < N + 1
   · have hcx := HC.out k (by omega)
     have hkl : (k : Int) < ((N + 1 : Nat) : Int) := by omega
     have hN9 : N ≤ 1000 := HL.out
     have HE := Lib.hid hex
     have HA := Lib.hid hall
     have HK := Lib.hid hlt
     obtain ⟨v, hv⟩ : ∃ v, f k = v := ⟨_, rfl⟩
     rw [hv] at hcx
     have HV := Lib.hid hv
     clear hex hall hlt hv hc0
     go_wp2_with fail
     go_roundw
     case rel =>
      refine ⟨k + 1, min n v, by omega, HK.out, by go_num, by go_num, ?_, fun j hj => ?_, by trivial⟩
      · obtain ⟨j, hj, e⟩ := HE.out
        rcases Nat.le_total n v with h | h
        · exact ⟨j, hj, by omega⟩
        · exact ⟨k, by have := HK.out; omega, by rw [HV.out]; omega⟩
      · by_cases e : j = k
        · subst e; rw [HV.out]; omega
        · have := HA.out j (by omega); omega
     case measure => have := HK.out; simp [RowKit.intOf]; omega
   · obtain rfl : k = N + 1 := by omega
     have h4 : ¬ ((N + 1 : Nat) : Int) < ((N + 1 : Nat) : Int) := by omega
     have hF := Lib.hid (HP.out n hex fun j hj => hall j (by omega))
     clear hlt hex hall
     go_wp2_with fail
     go_ret
     exact ⟨⟨n, rfl, hF.out⟩, hB⟩
end Go.Proofs.YtcngnjkpnmpcpaaDoor
