/- What the laws of rs need: rows opened, slices from a place on, right words as sums. -/
import Derived.Test.YtkldapdebjlfmaaRsW
import Derived.Test.YtkldapdebjlfmaaRsN
namespace Go.Proofs.Ytkldapdebjlfmaa
open Go.RowKit Go.Shelf
attribute [local go_sem] Oper.semAt_some

theorem own_open {B : Nat} {w : World} {v : Value} {xs : List UInt8} (h : Own8 B w v xs) (h0 : 0 < xs.length) :
    ∃ g cap cs, v = .slice (some ⟨g, 0, none⟩) xs.length cap ∧ B ≤ g ∧ Rowed w g 5 cs ∧ cs.size = cap ∧ xs.length ≤ cap ∧ ∀ j, j < xs.length → cs[j]? = some (eB (C xs j)) := by
  rcases h.2 with ⟨_, h1⟩ | ⟨g, cap, cs, e, hB, hg, hn, _, hsz, htake⟩
  · omega
  · rw [Nat.mul_one] at hsz htake
    refine ⟨g, cap, cs, e, hB, hg, hsz, hn, fun j hj => ?_⟩
    have h1 : (cs.toList.take xs.length)[j]? = (xs.map eB)[j]? := by rw [htake]
    rw [List.getElem?_take_of_lt hj, Array.getElem?_toList] at h1
    rw [h1, C_get xs j hj]
    simp [hj]
theorem sl_of_cells {W : World} {g cap n : Nat} {cs : Array Value} (F : Nat → UInt8) (hR : Rowed W g 5 cs) (_hsz : cs.size = cap) (hn : n ≤ cap) (hc : ∀ j, j < n → cs[j]? = some (eB (F j))) :
    Sl eB W.heap.size W (.slice (some ⟨g, 0, none⟩) n cap) ((List.range n).map F) := by
  refine ⟨some ⟨g, 0, none⟩, cap, by simp, by simpa using hn, fun _ => ⟨g, 0, rfl, hR.lt, fun j x hj => ?_⟩⟩
  have hjn : j < n := by
    have := (List.getElem?_eq_some_iff.1 hj).1
    simpa using this
  rw [Nat.zero_add, hR.cell j, hc j hjn]
  simp [hjn] at hj
  rw [hj]
/-- Right, as sums. -/
def Rig (f : Nat → UInt8) (N p : Nat) : Prop := ∀ i, i < p → hvF (g2 i) f N = 0
theorem right_iff (L : List UInt8) (p : Nat) : (synL L.reverse p).all (· = 0) = true ↔ Rig (C L) L.length p := by
  simp only [synL, pows2, Rig, List.all_map, List.all_eq_true, List.mem_range, Function.comp, decide_eq_true_eq]
  constructor
  · intro h i hi
    have := h i hi
    rwa [ev_reverse] at this
  · intro h i hi
    rw [ev_reverse]
    exact h i hi
theorem rig_word (data : List UInt8) (p : Nat) : Rig (C (data ++ restL p data)) (data.length + p) p := by
  intro i hi
  have h := word_zero p i hi data
  rwa [ev_reverse, List.length_append, restL_length] at h
theorem Rig.xor {f g : Nat → UInt8} {N p : Nat} (h : Rig f N p) (k : Rig g N p) : Rig (fun j => f j ^^^ g j) N p := fun i hi => by rw [hvF_xor, h i hi, k i hi, x_self]
theorem Rig.congr {f g : Nat → UInt8} {N p : Nat} (h : Rig f N p) (e : ∀ j, j < N → f j = g j) : Rig g N p := fun i hi => by rw [← hvF_congr _ N e, h i hi]
/-- Of right words few unlike bytes are none. -/
theorem rig_few {f g : Nat → UInt8} {N p : Nat} (hN : N ≤ 255) (h : Rig f N p) (k : Rig g N p) (hw : ((List.range N).filter fun j => f j ≠ g j).length ≤ p) : ∀ j, j < N → f j = g j := by
  have h1 := few N p hN (fun j => f j ^^^ g j) (by
    have e : ((List.range N).filter fun j => f j ^^^ g j ≠ 0) = ((List.range N).filter fun j => f j ≠ g j) := by
      apply List.filter_congr
      intro j _
      have := x_eq_zero (f j) (g j)
      by_cases hh : f j = g j
      · simp [hh]
      · have : f j ^^^ g j ≠ 0 := fun e => hh ((x_eq_zero _ _).1 e)
        simp [hh, this]
    rw [e]; exact hw) (h.xor k)
  exact fun j hj => (x_eq_zero _ _).1 (h1 j hj)
theorem C_range_lt (F : Nat → UInt8) (n j : Nat) (h : j < n) : C ((List.range n).map F) j = F j := by simp [C, h]

/-- A slice from a place on. -/
theorem slice_from (A : Option Addr) (n c lo : Nat) (hlo : lo ≤ n) (hn : n ≤ c) (h0 : A = none → c = 0) : ∃ A2, (∀ w, (Instr.sliceAt 22 (.slice A n c) (some (.int .i64 (lo : Nat))) none none).run Try.prog w = .ok (.slice A2 (n - lo) (c - lo)) w) ∧ (c ≠ lo → A2 = A.map (·.add lo)) := by
  cases A with
  | none =>
    have hc := h0 rfl
    obtain rfl : n = 0 := by omega
    obtain rfl : lo = 0 := by omega
    subst hc
    exact ⟨none, fun w => by kernel_rfl, fun h => absurd rfl h⟩
  | some ad =>
    by_cases h : c = lo
    · subst h
      obtain rfl : n = c := by omega
      refine ⟨some ad, fun w => ?_, fun h => absurd rfl h⟩
      simp [go_sem, Try.underlying22]
    · refine ⟨(some ad).map (·.add lo), fun w => ?_, fun _ => rfl⟩
      simp [go_sem, Try.underlying22, h, hlo]
end Go.Proofs.Ytkldapdebjlfmaa
