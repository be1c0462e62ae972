import Derived.Test.YtgblkcddhnigaaaDoorClVZ
import Derived.Test.YtgblkcddhnigaaaDoorGqDZ
namespace Go.Proofs.YtgblkcddhnigaaaDoor
open Go.RowKit Go.Shelf
attribute [local go_sem] Oper.semAt_some run_store_func
section
variable {G : Type} {P : Program} {md : Region.Mode} {ops : Array Oper} {S : (Nat → Bool) → G → World → Prop} {A : G → Act} {i : Nat} {o : Oper}
end
theorem bsL_dropG (vs : List RowC) (m : Nat) (h : m < vs.length) : (bsL vs).drop m = vs[m].bs :: (bsL vs).drop (m + 1) := by
 rw [List.drop_eq_getElem_cons (by simpa [bsL] using h)]
 simp [bsL]
theorem bsL_someG (vs : List RowC) (m : Nat) (h : m < vs.length) : (bsL vs)[m]? = some vs[m].bs := by simp [bsL, h]
theorem gtr_dec (t : TypeId) (a b : List UInt8) : binOp .gtr t (.string ⟨a.toArray⟩) (.string ⟨b.toArray⟩) = pure (.bool (decide (Lib.compareBytes b a < 0))) := by
 have h : (!Op.bytesLess a b && !(a == b)) = decide (Lib.compareBytes b a < 0) := by
  rw [less_dec]
  by_cases h1 : Lib.compareBytes b a < 0
  · have h2 := compare_swap b a h1
    have h3 : a ≠ b := by rintro rfl; exact compare_self a h1
    simp [h1, h2, h3]
  · by_cases h2 : Lib.compareBytes a b < 0
    · simp [h1, h2]
    · have h3 := compare_total a b h2 h1
      subst h3
      rw [decide_eq_false h1]
      simp
 rw [← h]
 simp [binOp, Op.stringOp, Lib.toList_data]
theorem rise_ins {L : List (List UInt8)} {x : List UInt8} (h : RiseL L) (j : Nat) (hj : j ≤ L.length) (hgt : ∀ b ∈ L.drop j, Lib.compareBytes x b < 0) (hle : ∀ (h0 : 0 < j), ¬ Lib.compareBytes x (L[j - 1]'(by omega)) < 0) : RiseL (L.take j ++ [x] ++ L.drop j) := by
 have hp : RiseL (L.take j ++ L.drop j) := by rw [List.take_append_drop]; exact h
 obtain ⟨h1, h2, h3⟩ := List.pairwise_append.1 hp
 have hx : ∀ a ∈ L.take j, ¬ Lib.compareBytes x a < 0 := by
  rcases Nat.eq_zero_or_pos j with rfl | h0
  · simp
  · obtain ⟨m, rfl⟩ : ∃ m, j = m + 1 := ⟨j - 1, by omega⟩
    have e : L.take (m + 1) = L.take m ++ [L[m]'(by omega)] := List.take_succ_eq_append_getElem (by omega)
    rw [e] at h1 ⊢
    obtain ⟨-, -, h4⟩ := List.pairwise_append.1 h1
    have h5 := hle (by omega)
    intro a ha
    rcases List.mem_append.1 ha with ha | ha
    · exact compare_ntrans x _ a h5 (h4 a ha _ (List.mem_singleton.2 rfl))
    · rw [List.mem_singleton.1 ha]; exact h5
 unfold RiseL
 rw [List.append_assoc, List.singleton_append]
 refine List.pairwise_append.2 ⟨h1, List.pairwise_cons.2 ⟨fun b hb => compare_swap x b (hgt b hb), h2⟩, fun a ha b hb => ?_⟩
 rcases List.mem_cons.1 hb with rfl | hb
 · exact hx a ha
 · exact h3 a ha b hb
theorem perm_ins {L M : List (List UInt8)} {x : List UInt8} (h : L.Perm M) (j : Nat) : (L.take j ++ [x] ++ L.drop j).Perm (M ++ [x]) := by
 rw [List.append_assoc, List.singleton_append]
 refine List.perm_middle.trans ?_
 rw [List.take_append_drop]
 exact (h.cons x).trans (List.perm_append_singleton x M).symm
theorem sliced_takeR {B : Nat} {W : World} {A : Option Addr} {cap : Nat} {y : List RowC} (h : Sl eC B W (.slice A y.length cap) y) (p : Nat) (hp : p ≤ y.length) : Sl eC B W (sliced A 0 p cap 1) (y.take p) := by
 obtain ⟨A', c', e, hc, hcs⟩ := h
 injection e with e1 e2 e3
 subst e1 e3
 have hl : (y.take p).length = p := by simp; omega
 refine ⟨_, cap, by rw [hl]; rfl, by omega, fun h0 => ?_⟩
 obtain ⟨b, off, rfl, hb, hcell⟩ := hcs (by omega)
 refine ⟨b, off, by rw [if_neg (by omega)]; simp [Addr.add], hb, fun j x hx => ?_⟩
 refine hcell j x ?_
 rw [List.getElem?_take] at hx
 split at hx
 · exact hx
 · cases hx
theorem sliced_dropR {B : Nat} {W : World} {A : Option Addr} {cap : Nat} {y : List RowC} (h : Sl eC B W (.slice A y.length cap) y) (p : Nat) (hp : p ≤ y.length) : Sl eC B W (sliced A p y.length cap 1) (y.drop p) := by
 obtain ⟨A', c', e, hc, hcs⟩ := h
 injection e with e1 e2 e3
 subst e1 e3
 have hl : (y.drop p).length = y.length - p := by simp
 refine ⟨_, cap - p, by rw [hl]; rfl, by omega, fun h0 => ?_⟩
 obtain ⟨b, off, rfl, hb, hcell⟩ := hcs (by omega)
 refine ⟨b, off + p, ?_, hb, fun j x hx => ?_⟩
 · rw [if_neg (by omega)]
   simp only [Option.map_some, Nat.mul_one]
   unfold Addr.add
   split <;> simp_all
 · rw [List.getElem?_drop] at hx
   rw [Nat.add_assoc]
   exact hcell (p + j) x hx
set_option maxRecDepth 100000 in
theorem size_r (w : World) : (sizeOf (Tryd.prog.elem 22)).run Tryd.prog w = .ok 1 w := by kernel_rfl
set_option maxRecDepth 100000 in
theorem run_toR (A : Option Addr) (n cap p : Nat) (hp : p ≤ n) (hn : n ≤ cap) (w : World) : (Instr.sliceAt 22 (.slice A n cap) none (some (.int .i64 p)) none).run Tryd.prog w = .ok (sliced A 0 p cap 1) w := by
 rw [run_sliceAt_slice _ _ _ _ _ _ Tryd.underlying22, run_slice_h _ _ _ _ _ Tryd.underlying22 _ _ (by omega) (by omega), size_r]
 rfl
set_option maxRecDepth 100000 in
theorem run_fromR (A : Option Addr) (n cap p : Nat) (hp : p ≤ n) (w : World) : (Instr.sliceAt 22 (.slice A n cap) (some (.int .i64 p)) none none).run Tryd.prog w = .ok (sliced A p n cap 1) w := by
 rw [run_sliceAt_slice _ _ _ _ _ _ Tryd.underlying22, run_slice_l _ _ _ _ _ Tryd.underlying22 _ _ (by omega) (by omega), size_r]
 rfl
end Go.Proofs.YtgblkcddhnigaaaDoor
