/- Contract of trits.Long, and the law's own wakes. -/
import Derived.Test.YtmppkfiocleicaaTrH
import Derived.Test.YtmppkfiocleicaaAR
namespace Go.Proofs.Ytmppkfiocleicaa
open Go.RowKit Go.Shelf
attribute [local go_sem] Oper.semAt_some run_store_func

/-- What Long tells. -/
def longF (n : Int) : Int := if n < 0 ∨ 1048576 < n ∨ n % 5 ≠ 0 then -1 else n / 5 * 26
theorem Long_any (n : Int) (w : World) : Calls Try.prog 17 #[.int .i64 n] w fun e w' => e = .returned (.int .i64 (longF n)) ∧ w' = w := by
  by_cases h0 : n < 0
  · have d1 : decide (n < 0) = true := decide_eq_true h0
    have HF := Lib.hid (show longF n = -1 by unfold longF; rw [if_pos (.inl h0)])
    go_enter Try.func17, Try.ntmps17
    go_wp2
    go_ret
    exact ⟨by rw [HF.out]; rfl, rfl⟩
  · have d1 : decide (n < 0) = false := decide_eq_false h0
    by_cases h1 : 1048576 < n
    · have d2 : decide (1048576 < n) = true := decide_eq_true h1
      have HF := Lib.hid (show longF n = -1 by unfold longF; rw [if_pos (.inr (.inl h1))])
      go_enter Try.func17, Try.ntmps17
      go_wp2
      go_ret
      exact ⟨by rw [HF.out]; rfl, rfl⟩
    · have d2 : decide (1048576 < n) = false := decide_eq_false h1
      have p0 : 0 ≤ n := by omega
      have p1 : n ≤ 1048576 := by omega
      by_cases h2 : n % 5 = 0
      · have d3 : (n % 5 != 0) = false := by rw [h2]; rfl
        have HF := Lib.hid (show longF n = n / 5 * 26 by unfold longF; rw [if_neg (by omega)])
        clear h2
        go_enter Try.func17, Try.ntmps17
        go_wp2
        go_ret
        exact ⟨by rw [HF.out]; rfl, rfl⟩
      · have d3 : (n % 5 != 0) = true := by simpa using h2
        have HF := Lib.hid (show longF n = -1 by unfold longF; rw [if_pos (.inr (.inr h2))])
        clear h2
        go_enter Try.func17, Try.ntmps17
        go_wp2
        go_ret
        exact ⟨by rw [HF.out]; rfl, rfl⟩
abbrev aB (L : List UInt8) : Value := .agg (L.map eB).toArray
theorem Five_any (b0 b1 b2 b3 b4 : UInt8) (w : World) : Calls Try.prog 14 #[.agg #[eB b0, eB b1, eB b2, eB b3, eB b4]] w fun e w' => e = .returned (aB (trL (nb [b0, b1, b2, b3, b4] 5))) ∧ Below w.heap.size w w' := by
  have h := callsIn_inProg (Five_in b0 b1 b2 b3 b4 0 w)
  rw [tr3_eq] at h
  exact h
theorem z26_eq : z26 = ((List.replicate 26 (0 : UInt8)).map eB).toArray := by simp [z26, eB]
theorem z5_eq : z5 = ((List.replicate 5 (0 : UInt8)).map eB).toArray := by simp [z5, eB]
theorem cells_aB (L : List UInt8) : (aB L).cells = (L.map eB).toArray := rfl
theorem one_map (L : List UInt8) : (L.map eB).toArray.all (·.oneCell') = true := by
  rw [Array.all_eq_true']
  intro x hx
  simp only [List.mem_toArray, List.mem_map] at hx
  obtain ⟨j, _, rfl⟩ := hx
  rfl
/-- A block that holds these bytes by value. -/
abbrev Row8 (W : World) (g : Nat) (t : TypeId) (L : List UInt8) : Prop := Rowed W g t (L.map eB).toArray
theorem Row8.put {W : World} {g : Nat} {t : TypeId} {cs : Array Value} (h : Rowed W g t cs) (L : List UInt8) : Row8 (W.setRow g (L.map eB).toArray) g t L := setRow_heap W g cs (L.map eB).toArray _ _ h
theorem Rowed.put_other {W : World} {g g' : Nat} {t : TypeId} {cs cs' : Array Value} (h : Rowed W g t cs) (hne : g ≠ g') : Rowed (W.setRow g' cs') g t cs := (setRow_other W g' g cs' hne).trans h
theorem below_setRow {B : Nat} {w W : World} (h : Below B w W) (g : Nat) (cs : Array Value) (hg : B ≤ g) : Below B w (W.setRow g cs) :=
  h.trans ⟨rfl, rfl, rfl, by simp, fun k hk => setRow_other _ g k _ (by omega)⟩
def tr05 : List UInt8 := List.replicate 24 0 ++ [1, 2]
theorem tr05_eq : trL (nb [0, 0, 0, 0, 5] 5) = tr05 := by decide +kernel
theorem back05 : backG tr05 = .ok [0, 0, 0, 0, 5] := by rfl
theorem back3 : backG (3 :: List.replicate 25 0) = .error 2 := by rfl
theorem back2 : backG (List.replicate 10 2 ++ List.replicate 16 0) = .error 80 := by rfl
end Go.Proofs.Ytmppkfiocleicaa
