/- Contract of consensus.letters. (Seat s27.) -/
import Derived.Test.YtfkjheilcbppcaaCoB
import Derived.Test.YtfkjheilcbppcaaRI
import Derived.Test.YtfkjheilcbppcaaRPr
namespace Go.Proofs.Ytfkjheilcbppcaa
open Go.RowKit Go.Shelf
attribute [local go_sem] Oper.semAt_some run_store_func

/-- How many rows have that byte there. -/
def cntA (L : List (List UInt8)) (i c : Nat) : Nat := L.countP fun r => ((r[i]?).getD 0).toNat == c
theorem cntA_snoc (L : List (List UInt8)) (r : List UInt8) (i c : Nat) : cntA (L ++ [r]) i c = cntA L i c + if ((r[i]?).getD 0).toNat = c then 1 else 0 := by
  unfold cntA
  rw [List.countP_append]
  by_cases h : ((r[i]?).getD 0).toNat = c <;> simp [h]
theorem cntA_le (L : List (List UInt8)) (i c : Nat) : cntA L i c ≤ L.length := List.countP_le_length ..
/-- The counts, as cells. -/
def cellsC (L : List (List UInt8)) (i : Nat) : Array Value := ((List.range 256).map fun c => Value.int .i64 (cntA L i c : Nat)).toArray
theorem cellsC_size (L : List (List UInt8)) (i : Nat) : (cellsC L i).size = 256 := by simp [cellsC]
theorem cellsC_at (L : List (List UInt8)) (i c : Nat) (h : c < 256) : (cellsC L i)[c]? = some (.int .i64 (cntA L i c : Nat)) := by simp [cellsC, h]
theorem cellsC_set (L : List (List UInt8)) (r : List UInt8) (i : Nat) (b : UInt8) (hb : (r[i]?).getD 0 = b) :
    (cellsC L i).setIfInBounds b.toNat (.int .i64 (cntA L i b.toNat + 1 : Nat)) = cellsC (L ++ [r]) i := by
  subst hb
  apply Array.ext
  · simp [cellsC]
  · intro j h1 h2
    simp only [cellsC_size] at h2
    rw [Array.getElem_setIfInBounds (by simpa [cellsC_size] using h2)]
    simp only [cellsC, List.getElem_toArray, List.getElem_map, List.getElem_range, cntA_snoc]
    by_cases hj : ((r[i]?).getD 0).toNat = j
    · subst hj; simp
    · rw [if_neg hj, if_neg hj]; simp
theorem cellsC_one (L : List (List UInt8)) (i : Nat) : (cellsC L i).all (·.oneCell') = true := by
  rw [Array.all_eq_true']
  intro x hx
  simp only [cellsC, List.mem_toArray, List.mem_map] at hx
  obtain ⟨j, _, rfl⟩ := hx
  rfl
theorem cnt_info : (Try.prog.info? 60).map (fun i => (i.zero, i.size)) = some (some (.agg (cellsC [] 0)), 256) := by kernel_rfl
theorem cellsC_nil (i : Nat) : cellsC [] i = cellsC [] 0 := rfl
set_option maxRecDepth 100000 in
set_option maxHeartbeats 4000000 in
theorem CoLetters_any (v0 : Value) (rows : List RowC) (at0 : Nat) (hr : rows.length ≤ 1000) (h8 : at0 ≤ 5000) (hl : ∀ p ∈ rows, at0 < p.bs.length) (w : World) (h0 : RowsIn w v0 rows) :
    Calls Try.prog 22 #[v0, .int .i64 at0] w fun e w' => e = .returned (.func (.func 29) #[] #[.pointer (some ⟨w.heap.size, 0, none⟩)]) ∧ Rowed w' w.heap.size 60 (cellsC (bsL rows) at0) ∧ Below w.heap.size w w' := by
  obtain ⟨hz, hsz⟩ := zero_of_info cnt_info
  have hc0 : (Value.agg (cellsC [] 0)).cells = cellsC [] 0 := rfl
  have hmf : ∀ (fn : Fn) (first cap : Array Value) (w : World), (Instr.makeFunc fn first cap).run Try.prog w = .ok (.func fn first cap) w := fun _ _ _ _ => rfl
  obtain ⟨A, c, rfl, hA⟩ := h0.some
  have hat := fun b off (e : A = some ⟨b, off, none⟩) k hk => RowsIn.at (e ▸ h0) k hk
  have hbl : (bsL rows).length = rows.length := by simp [bsL]
  have HS := Lib.hid (show ∀ k (hk : k < rows.length) (b : UInt8), (rows[k].bs[at0]?).getD 0 = b → (cellsC ((bsL rows).take k) at0).setIfInBounds b.toNat (.int .i64 (cntA ((bsL rows).take k) at0 b.toNat + 1 : Nat)) = cellsC ((bsL rows).take (k + 1)) at0 from fun k hk b hb => by
    rw [take_snoc _ _ (by omega)]
    exact cellsC_set _ _ _ _ (by simpa [bsL] using hb))
  have HE := Lib.hid (show cellsC ((bsL rows).take rows.length) at0 = cellsC (bsL rows) at0 from by rw [← hbl, List.take_length])
  have HC := Lib.hid (show ∀ k b, k < rows.length → b < 256 → (cellsC ((bsL rows).take k) at0)[b]? = some (.int .i64 (cntA ((bsL rows).take k) at0 b : Nat)) ∧ cntA ((bsL rows).take k) at0 b ≤ 1000 from fun k b hk hb => ⟨cellsC_at _ _ _ hb, by
    have h1 := cntA_le ((bsL rows).take k) at0 b
    rw [List.length_take] at h1
    omega⟩)
  have HL := Lib.hid (show ∀ k (hk : k < rows.length), at0 < rows[k].bs.length from fun k hk => hl _ (List.getElem_mem hk))
  have HN := Lib.hid hr
  clear h0 hbl hr hl
  go_enter Try.func22, Try.ntmps22
  go_wp2_with fail
  obtain ⟨W0, hW0⟩ : ∃ W0, w.alloc (Obj.cells (cellsC [] 0) 60) = W0 := ⟨_, rfl⟩
  have hB0 : Below w.heap.size w W0 := by rw [← hW0]; exact (Below.refl _ w).alloc (Nat.le_refl _) _
  have b0 : Rowed W0 w.heap.size 60 (cellsC [] 0) := by rw [← hW0]; exact Rowed.new w _ _
  rw [hW0]
  clear hW0 hz hc0
  go_loopw [10] (fun i wr => ∃ k : Nat, k ≤ rows.length ∧ i = .int .i64 k ∧ Below w.heap.size w wr ∧ Rowed wr w.heap.size 60 (cellsC ((bsL rows).take k) at0)) (fun i _ => rows.length - (intOf i).toNat)
  case atStart => exact ⟨0, Nat.zero_le _, rfl, hB0, b0⟩
  case round =>
    obtain ⟨k, hk, rfl, hB, r0⟩ := hrel
    clear b0 hB0
    by_cases hlt : k < rows.length
    · obtain ⟨b, off, rfl, hb⟩ := hA (by omega)
      obtain ⟨hrow, hsl⟩ := hat b off rfl k hlt
      have hcx := (hB.cell (p := ⟨b, off + k, none⟩) hb).trans hrow
      obtain ⟨A1, c1, he1, hc1, hcs⟩ := hsl.below hB
      have hkl : (k : Int) < rows.length := by omega
      have hal := HL.out k hlt
      have hs := HS.out k hlt
      have hcc := fun b => HC.out k b hlt
      have hk9 : k ≤ 1000 := by have := HN.out; omega
      have Hk := Lib.hid hlt
      generalize rows[k] = R at *
      clear hat hA hrow hsl
      generalize hos : cntA ((bsL rows).take k) at0 = o at *
      injection he1 with e1 e2 e3
      obtain ⟨b1, off1, rfl, hb1, hcell1⟩ := hcs (by omega)
      obtain ⟨y, hy⟩ : ∃ y, R.bs[at0]? = some y := ⟨_, List.getElem?_eq_getElem hal⟩
      have hcy : wr.cell? ⟨b1, off1 + at0, none⟩ = some (.int .u8 (y.toNat : Int)) := hcell1 at0 _ hy
      have hs := hs y (by rw [hy]; rfl)
      obtain ⟨hq1, hq2⟩ := hcc y.toNat y.toNat_lt
      have hyl := y.toNat_lt
      rw [e1] at hcx
      clear hcell1 hcs hcc hy
      generalize y.toNat = m at *
      have cg := (r0.cell m).trans hq1
      have fg := r0.frozen m
      have hal2 : (at0 : Int) < (R.bs.length : Int) := by omega
      have hml : (m : Int) < 256 := by omega
      have Hs := Lib.hid hs
      clear hs hq1
      go_wp2_with fail
      go_roundw
      case rel =>
        refine ⟨k + 1, Hk.out, by go_num, hB.setCell (p := ⟨w.heap.size, m, none⟩) (by simp) _, ?_⟩
        rw [← Hs.out]
        have := r0.set m (.int .i64 (o m + 1 : Nat))
        simpa using this
      case measure => have := Hk.out; simp [intOf]; omega
    · obtain rfl : k = rows.length := by omega
      rw [HE.out] at r0
      go_wp2_with fail
      go_ret
      exact ⟨rfl, r0, hB⟩
end Go.Proofs.Ytfkjheilcbppcaa
