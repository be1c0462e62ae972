/- The law's own comes. -/
import Derived.Test.YtmdpodgodhkjdaaDoorGpV
import Derived.Test.YtmdpodgodhkjdaaDoorDT
namespace Go.Proofs.YtmdpodgodhkjdaaDoor
open Go.RowKit Go.Shelf
attribute [local go_sem] Oper.semAt_some run_store_func

theorem arr_del (x : List UInt8) (p : Nat) : (⟨(x.take p).toArray⟩ : ByteArray) ++ ⟨(x.drop (p + 1)).toArray⟩ = ⟨(delW x p).toArray⟩ := by
  apply ByteArray.ext
  simp [delW]
set_option maxRecDepth 100000 in
set_option maxHeartbeats 4000000 in
theorem comes_any (sx sy : Value) (x y : List UInt8) (hx9 : x.length ≤ 1000) (h : ∃ p, p < x.length ∧ delW x p = y) (w : World) (hx : Sl eB w.heap.size w sx x) (hy : Sl eB w.heap.size w sy y) :
    Calls Tryd.prog 23 #[sx, sy] w fun e w' => e = .returned (.bool true) ∧ Below w.heap.size w w' := by
  have hcx : ∃ A cx, sx = .slice A x.length cx ∧ x.length ≤ cx := by
    obtain ⟨A, cx, e, hc, _⟩ := hx
    exact ⟨A, cx, e, hc⟩
  obtain ⟨A, cx, rfl, hcx⟩ := hcx
  obtain ⟨B, cy, rfl⟩ := hy.len
  have H := Lib.hid h
  clear h
  go_enter Tryd.func23, Tryd.ntmps23
  go_wp2_with fail
  go_loopw [5] (fun i wr => ∃ k : Nat, k ≤ x.length ∧ i = .int .i64 k ∧ (∀ j, j < k → delW x j ≠ y) ∧ Below w.heap.size w wr) (fun i _ => x.length - (intOf i).toNat)
  case atStart => exact ⟨0, Nat.zero_le _, rfl, fun j hj => absurd hj (by omega), Below.refl _ _⟩
  case round =>
    obtain ⟨k, hk, rfl, hno, hB⟩ := hrel
    by_cases hlt : k < x.length
    · have hki : (k : Int) < (x.length : Int) := by omega
      have hkd : decide ((k : Int) < (x.length : Int)) = true := decide_eq_true hki
      have hx2 := hx.next hB
      have hy2 := hy.next hB
      have Hno := Lib.hid hno
      have hk9 : k ≤ 1000000 := by omega
      have hw1 := wrap64_succ k hk9
      have hw2 := wrap_succ k hk9
      have Hk := Lib.hid hlt
      clear hno hlt
      go_wp2_with fail
      obtain ⟨bb, hbb⟩ : ∃ bb : Bool, (delW x k == y) = bb := ⟨_, rfl⟩
      refine wp_region_ghost (fun _ (_ : Nat) w' => w' = wr.drew) (fun _ => [(12, .slice A x.length cx), (13, .int .i64 k), (14, sliced A 0 k cx 1), (15, .string ⟨(x.take k).toArray⟩), (16, .slice A x.length cx), (17, .int .i64 k), (18, .int .i64 ((k : Int) + 1)), (19, sliced A (k + 1) x.length cx 1), (20, .string ⟨(x.drop (k + 1)).toArray⟩), (21, .string (⟨(x.take k).toArray⟩ ++ ⟨(x.drop (k + 1)).toArray⟩)), (22, .slice B y.length cy), (23, .string ⟨y.toArray⟩), (24, .bool bb)]) 0
        (by kernel_rfl) (by kernel_rfl) (by kernel_rfl) (by kernel_rfl) (fun _ => by kernel_rfl) ?start ?ok ?fin
      case start => exact fun _ _ => rfl
      case ok =>
        intro T hT
        simp only [putAll, Act.put, List.setIfInBounds_toArray, List.set_cons_zero, List.set_cons_succ] at hT
        have hxd : Sl eB wr.drew.heap.size wr.drew (.slice A x.length cx) x := hx2
        have hyd : Sl eB wr.drew.heap.size wr.drew (.slice B y.length cy) y := hy2
        have c1 : ∀ w', w' = wr.drew → (convert 22 9 (sliced A 0 k cx 1)).run Tryd.prog w' = .ok (.string ⟨(x.take k).toArray⟩) w' := fun w' e => by rw [e]; exact run_str (P := Tryd.prog) (sliced_take hxd k (by have := Hk.out; omega)) 22 9 5 Tryd.underlying22 Tryd.underlying5 Tryd.underlying9
        have c2 : ∀ w', w' = wr.drew → (convert 22 9 (sliced A (k + 1) x.length cx 1)).run Tryd.prog w' = .ok (.string ⟨(x.drop (k + 1)).toArray⟩) w' := fun w' e => by rw [e]; exact run_str (P := Tryd.prog) (sliced_drop hxd (k + 1) (by have := Hk.out; omega)) 22 9 5 Tryd.underlying22 Tryd.underlying5 Tryd.underlying9
        have c3 : ∀ w', w' = wr.drew → (convert 22 9 (.slice B y.length cy)).run Tryd.prog w' = .ok (.string ⟨y.toArray⟩) w' := fun w' e => by rw [e]; exact run_str (P := Tryd.prog) hyd 22 9 5 Tryd.underlying22 Tryd.underlying5 Tryd.underlying9
        have s1 := run_to A x.length cx k (by omega) hcx
        have s2 := run_from A x.length cx (k + 1) (by have := Hk.out; omega)
        have hz1 : (((⟨(x.take k).toArray⟩ : ByteArray).size : Nat) : Int) ≤ 8388608 := by simp [ByteArray.size]; omega
        have hz2 : (((⟨(x.drop (k + 1)).toArray⟩ : ByteArray).size : Nat) : Int) ≤ 8388608 := by simp [ByteArray.size]; omega
        have hbb2 := arr_del x k
        simp only [ghAll]
        refine ⟨?_, ?_, ?_, ?_, ?_, ?_, ?_, ?_, ?_, ?_, ?_, ?_, ?_, trivial⟩
        all_goals first
          | (refine gh_slice 22 _ _ _ _ rfl rfl _ (fun g w' => by rw [hT g]; first | exact s1 w' | exact s2 w') (fun g => by rw [hT g]; rfl) (fun D g w' h => h))
          | (refine gh_conv 22 9 _ rfl rfl _ (fun D g w' _ h => by rw [hT g]; first | exact c1 w' h | exact c2 w' h | exact c3 w' h) (fun g => by rw [hT g]; rfl) (fun D g w' h => h))
          | (refine gh_add _ _ rfl rfl _ _ hz1 hz2 (fun g => by rw [hT g]; rfl) (fun g => by rw [hT g]; rfl) (fun g => by rw [hT g]; rfl) (fun D g w' h => h))
          | (refine gh_same fun D g w' hD hdp hS => ?_
             rw [hT g]
             clear hT
             go_simp
             all_goals first
               | exact hS
               | exact ⟨rfl, hS⟩
               | exact hbb
               | exact ⟨hbb, hS⟩)
          | skip
      case fin =>
        intro T hT D g WF hall e
        subst e
        have hTg := hT g
        simp only [putAll, Act.put, List.setIfInBounds_toArray, List.set_cons_zero, List.set_cons_succ] at hTg
        rw [hTg]
        clear hT hTg
        rw [beq_dec] at hbb
        have hB2 := below_trans hB (below_drew_w wr)
        cases bb with
        | true =>
          clear hbb
          go_wp2_with fail
          go_ret
          exact ⟨rfl, hB2⟩
        | false =>
          have hne : delW x k ≠ y := of_decide_eq_false hbb
          have Hne := Lib.hid (show ∀ j, j < k + 1 → delW x j ≠ y from fun j hj => by
            by_cases h : j = k
            · rw [h]; exact hne
            · exact Hno.out j (by omega))
          have Hm := Lib.hid (show k + 1 ≤ x.length by have := Hk.out; omega)
          clear hbb hne
          go_wp2_with fail
          go_roundw
          case rel => exact ⟨k + 1, Hm.out, by go_num, Hne.out, hB2⟩
          case measure => have := Hk.out; simp [intOf]; omega
    · obtain rfl : k = x.length := by omega
      obtain ⟨p, hp, e⟩ := H.out
      exact absurd e (hno p hp)
end Go.Proofs.YtmdpodgodhkjdaaDoor
