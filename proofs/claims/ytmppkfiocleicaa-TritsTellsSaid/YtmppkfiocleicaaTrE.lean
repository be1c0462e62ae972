/- Contract of trits.each, in the fence of the program. -/
import Derived.Test.YtmppkfiocleicaaTrD
namespace Go.Proofs.Ytmppkfiocleicaa
open Go.RowKit Go.Shelf
attribute [local go_sem] Oper.semAt_some run_store_func inProg_round inProg_depth

/-- What each makes of the first blocks. -/
def partL (bs : List UInt8) (many j : Nat) : List UInt8 := (bs.drop (j * many)).take many
def eachG (g : List UInt8 → Except Int (List UInt8)) (bs : List UInt8) (many : Nat) : Nat → Except Int (List UInt8)
  | 0 => .ok []
  | j + 1 => match eachG g bs many j with
    | .error e => .error e
    | .ok r => match g (partL bs many j) with
      | .error e => .error e
      | .ok x => .ok (r ++ x)
theorem eachG_err {g : List UInt8 → Except Int (List UInt8)} {bs : List UInt8} {many j k : Nat} {e : Int} (h : eachG g bs many j = .error e) (hk : j ≤ k) : eachG g bs many k = .error e := by
  induction k with
  | zero => obtain rfl : j = 0 := by omega
            exact h
  | succ k ih =>
    by_cases hj : j = k + 1
    · subst hj; exact h
    · simp only [eachG, ih (by omega)]
theorem eachG_long {g : List UInt8 → Except Int (List UInt8)} {bs : List UInt8} {many j : Nat} {r : List UInt8} (hg : ∀ L x, g L = .ok x → x.length ≤ 26) (h : eachG g bs many j = .ok r) : r.length ≤ j * 26 := by
  induction j generalizing r with
  | zero => simp only [eachG] at h; cases h; simp
  | succ j ih =>
    simp only [eachG] at h
    cases hj : eachG g bs many j with
    | error e => rw [hj] at h; cases h
    | ok r1 =>
      rw [hj] at h
      simp only at h
      cases hx : g (partL bs many j) with
      | error e => rw [hx] at h; cases h
      | ok x =>
        rw [hx] at h
        cases h
        have h1 := ih hj
        have h2 := hg _ _ hx
        rw [List.length_append]
        omega

set_option maxRecDepth 100000 in
set_option maxHeartbeats 2000000 in
theorem left_idle (n : Nat) (a b : Addr) (w : World) :
    CallsDIn (Fence.inProg Try.prog) n Try.prog 23 #[.pointer (some a), .pointer (some b)] .returning w fun e u' w' => e = .returned (.tuple #[]) ∧ u' = .returning ∧ w' = w := by
  refine callsDIn_of_wpSIn Try.func23 rfl ⟨_, Try.func23⟩ fun c₀ cs hu => ?_
  apply wpSIn_seq
  apply wpSIn_region
  simp [wpOpsSIn, go_sem, recoverD, hu, Try.ntmps23, Exit.thenS]
  refine wpSIn_of_wpIn rfl ?_
  gi_wp2
  cases c₀
  simp_all [bodyPostS, results, Try.results23]
set_option maxRecDepth 100000 in
set_option maxHeartbeats 2000000 in
theorem left_take (n : Nat) (a b : Nat) (m : Int) (v0 v1 : Value) (w : World) (hca : w.cell? ⟨a, 0, none⟩ = some v0) (hfa : w.frozen? ⟨a, 0, none⟩ = false)
    (hcb : (w.setCell ⟨a, 0, none⟩ (.slice none 0 0)).cell? ⟨b, 0, none⟩ = some v1) (hfb : (w.setCell ⟨a, 0, none⟩ (.slice none 0 0)).frozen? ⟨b, 0, none⟩ = false) :
    CallsDIn (Fence.inProg Try.prog) n Try.prog 23 #[.pointer (some ⟨a, 0, none⟩), .pointer (some ⟨b, 0, none⟩)] (.panicking (errno m)) w fun e u' w' => e = .returned (.tuple #[]) ∧ u' = .panicking [{ v := .iface 26 (.int .i64 m), recovered := true }] ∧
      w' = (w.setCell ⟨a, 0, none⟩ (.slice none 0 0)).setCell ⟨b, 0, none⟩ (.int .i64 m) := by
  have hta : ∀ w, (Instr.typeAssert (.iface 26 (.int .i64 m)) 20 26 true).run Try.prog w = .ok (.tuple #[.int .i64 m, .bool true]) w := fun _ => by kernel_rfl
  refine callsDIn_of_wpSIn Try.func23 rfl ⟨_, Try.func23⟩ fun c₀ cs hu => ?_
  apply wpSIn_seq
  apply wpSIn_region
  simp [wpOpsSIn, go_sem, recoverD, hu, Try.ntmps23, Exit.thenS]
  refine wpSIn_of_wpIn rfl ?_
  gi_wp2
  cases c₀
  simp_all [bodyPostS, results, Try.results23]

end Go.Proofs.Ytmppkfiocleicaa
