/- Contract of consensus.ofLength. (Seat s27.) -/
import Derived.Test.YtfkjheilcbppcaaCoA
namespace Go.Proofs.Ytfkjheilcbppcaa
open Go.RowKit Go.Shelf
attribute [local go_sem] Oper.semAt_some run_store_func

/-- The rows that have that length. -/
def ofL (rows : List RowC) (n : Nat) : List RowC := rows.filter fun p => p.bs.length == n
theorem ofL_snoc (rows : List RowC) (n k : Nat) (h : k < rows.length) : ofL (rows.take (k + 1)) n = ofL (rows.take k) n ++ if rows[k].bs.length = n then [rows[k]] else [] := by
  unfold ofL
  rw [take_snoc _ _ h, List.filter_append]
  by_cases e : rows[k].bs.length = n
  · simp [e]
  · simp [e]
theorem info_row : (Try.prog.info? 23).map (fun i => (i.zero, i.size, i.bytes)) = some (some (.slice none 0 0), 1, 24) := by kernel_rfl
theorem below_grownR {B : Nat} {W W1 : World} {v : Value} {base : Nat} {n : Nat} {xs : List Value} (hown : W.ownsRow base 23 1 v n xs) (hg : W.grownBy W1 v.ownBlock) (hB : B ≤ W.heap.size) (hb : B ≤ base) : Below B W W1 :=
  (Below.refl B W).grown hg hB fun k hk => Nat.le_trans hb (hown.lt k hk).1
theorem cell_oneR (w : World) (t : TypeId) (v : Value) : ∀ j u, ([v] : List Value)[j]? = some u → (w.alloc (.cells #[v] t)).cell? ((⟨w.heap.size, 0, none⟩ : Addr).add j) = some u := by
  intro j u h
  have := (Rowed.new w t #[v]).cell j
  have e : ((⟨w.heap.size, 0, none⟩ : Addr).add j) = ⟨w.heap.size, j, none⟩ := by rcases j with _ | j <;> simp [Addr.add]
  rw [e, this]
  simpa using h
theorem RowsIn.of_own {W : World} {B : Nat} {v : Value} {rows : List RowC} (h : W.ownsRow B 23 1 v rows.length (rows.map eC)) (hR : ∀ p ∈ rows, Sl eB W.heap.size W (eC p) p.bs) : RowsIn W v rows := ⟨Sl.of_own h, hR⟩
set_option maxRecDepth 100000 in
set_option maxHeartbeats 4000000 in
theorem CoOf_own (v0 : Value) (rows : List RowC) (n : Nat) (hr : rows.length ≤ 1000) (w : World) (h0 : RowsIn w v0 rows) :
    Calls Try.prog 23 #[v0, .int .i64 n] w fun e w' => ∃ v, e = .returned v ∧ w'.ownsRow w.heap.size 23 1 v (ofL rows n).length ((ofL rows n).map eC) ∧ Below w.heap.size w w' := by
  obtain ⟨i0, hi, hz0, hz1, hz2⟩ := info_parts info_row
  obtain ⟨A, c, rfl, hA⟩ := h0.some
  have hat := fun b off (e : A = some ⟨b, off, none⟩) k hk => RowsIn.at (e ▸ h0) k hk
  have hR : ∀ p ∈ rows, Sl eB w.heap.size w (eC p) p.bs := h0.2
  have HR := Lib.hid hR
  have HN := Lib.hid hr
  have hlen : ∀ k, (ofL (rows.take k) n).length ≤ 1000 := fun k => by
    have h1 : (ofL (rows.take k) n).length ≤ (rows.take k).length := List.length_filter_le ..
    have h2 : (rows.take k).length ≤ rows.length := by rw [List.length_take]; omega
    omega
  have HL := Lib.hid hlen
  clear h0 hr hlen hR
  go_enter Try.func23, Try.ntmps23
  go_wp2_with fail
  go_loopw [5, 10] (fun t i wr => ∃ k : Nat, k ≤ rows.length ∧ i = .int .i64 k ∧ wr.ownsRow w.heap.size 23 1 t (ofL (rows.take k) n).length ((ofL (rows.take k) n).map eC) ∧ Below w.heap.size w wr) (fun _ i _ => rows.length - (intOf i).toNat)
  case atStart => exact ⟨0, Nat.zero_le _, rfl, World.ownsRow_nil _ _ _ _, Below.refl _ _⟩
  case round =>
    obtain ⟨k, hk, rfl, hrow, hB⟩ := hrel
    by_cases hlt : k < rows.length
    · obtain ⟨b, off, rfl, hb⟩ := hA (by omega)
      obtain ⟨hcell, -⟩ := hat b off rfl k hlt
      have hcx := (hB.cell (p := ⟨b, off + k, none⟩) hb).trans hcell
      have hkl : (k : Int) < rows.length := by omega
      have hst := ofL_snoc rows n k hlt
      have Hk := Lib.hid hlt
      have hk9 : k ≤ 1000 := by have := HN.out; omega
      have hl1 := HL.out k
      generalize rows[k] = R at *
      clear hat hA hcell
      by_cases hl : R.bs.length = n
      · rw [if_pos hl] at hst
        have hq : (((R.bs.length : Nat) : Int) == (n : Int)) = true := by rw [hl]; simp
        have Hst := Lib.hid hst
        clear hst hl
        generalize hos : ofL (rows.take k) n = o at *
        go_wp2_with (at_builtin; refine wpList_append_own _ rfl _ _ 22 rfl w.heap.size 23 i0 _ 1 24 Try.underlying22 hi hz0 hz1 hz2 (by decide) (by decide) _ _ _ rfl (hrow.alloc _) ⟨wr.heap.size, 0, none⟩ 1 1 [.slice R.A R.bs.length R.c] rfl rfl (cell_oneR _ _ _) (by simp [Value.oneCell']) (by unfold maxLen; omega) (by omega) (by have := hB.size; simp; omega) ?_; intro v' w1 hown' hgrow _)
        have hB' : Below w.heap.size w w1 := (hB.alloc hB.size _).trans (below_grownR (hrow.alloc _) hgrow (by have := hB.size; simp; omega) (Nat.le_refl _))
        go_roundw
        case rel => exact ⟨k + 1, Hk.out, by go_num, by rw [Hst.out]; simpa [eC] using hown', hB'⟩
        case measure => have := Hk.out; simp [intOf]; omega
      · rw [if_neg hl, List.append_nil] at hst
        have hq : (((R.bs.length : Nat) : Int) == (n : Int)) = false := by rw [beq_eq_false_iff_ne]; omega
        have Hst := Lib.hid hst
        clear hst hl
        go_wp2_with fail
        go_roundw
        case rel => exact ⟨k + 1, Hk.out, by go_num, by rw [Hst.out]; exact hrow, hB⟩
        case measure => have := Hk.out; simp [intOf]; omega
    · obtain rfl : k = rows.length := by omega
      rw [List.take_length] at hrow
      go_wp2_with fail
      go_ret
      exact ⟨_, rfl, hrow, hB⟩
theorem CoOf_any (v0 : Value) (rows : List RowC) (n : Nat) (hr : rows.length ≤ 1000) (w : World) (h0 : RowsIn w v0 rows) :
    Calls Try.prog 23 #[v0, .int .i64 n] w fun e w' => ∃ v, e = .returned v ∧ RowsIn w' v (ofL rows n) ∧ Below w.heap.size w w' := by
  refine (CoOf_own v0 rows n hr w h0).mono ?_
  rintro e w' ⟨v, rfl, hrow, hB⟩
  exact ⟨_, rfl, RowsIn.of_own hrow (fun p hp => (h0.2 p (List.mem_filter.1 hp).1).next hB), hB⟩
end Go.Proofs.Ytfkjheilcbppcaa
