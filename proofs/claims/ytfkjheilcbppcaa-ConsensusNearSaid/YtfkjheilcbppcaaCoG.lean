/- Contract of consensus.lengths. (Seat s27.) -/
import Derived.Test.YtfkjheilcbppcaaCoF
import Derived.Maps.OwnOps
import Derived.Maps.OwnSet
import Derived.Maps.Range
import Derived.Lib.SlKeysI
namespace Go.Proofs.Ytfkjheilcbppcaa
open Go.RowKit Go.Maps
attribute [local go_sem] Oper.semAt_some run_store_func

theorem wfI (n : Int) (h0 : 0 ≤ n) (h1 : n ≤ 100000) : (Lit.int .i64 n).wf = true := by
  simp only [Lit.wf, IntKind.min, IntKind.max, IntKind.signed, IntKind.bits, Bool.and_eq_true, decide_eq_true_eq, if_true]
  omega
theorem keyedInt : Keyed Try.prog 3 := int_keyed Try.underlying3
theorem zeroInt (w : World) : (zeroValue 3).run Try.prog w = .ok (.int .i64 0) w := by kernel_rfl
/-- A map that holds how many rows are so long. -/
structure MapIs (D : DataW Unit) (L : List (List UInt8)) : Prop where
  map : IsMap D
  has : ∀ n : Int, has D (.int .i64 n) = decide (∃ r ∈ L, (r.length : Int) = n)
  val : ∀ n : Nat, D.atKey (.int .i64 n) (.lit (.int .i64 0)) = .lit (.int .i64 (cntL L n : Nat))
theorem MapIs.nil : MapIs (.map []) [] := ⟨isMap_empty, fun _ => by simp [has_eq], fun _ => rfl⟩
theorem cntL_snoc (L : List (List UInt8)) (r : List UInt8) (n : Nat) : cntL (L ++ [r]) n = cntL L n + if r.length = n then 1 else 0 := by
  unfold cntL
  rw [List.countP_append]
  by_cases h : r.length = n <;> simp [h]
theorem MapIs.snoc {D : DataW Unit} {L : List (List UInt8)} (h : MapIs D L) (r : List UInt8) : MapIs (D.put (.int .i64 (r.length : Nat)) (.lit (.int .i64 (cntL L r.length + 1 : Nat)))) (L ++ [r]) := by
  have hk : WideAt.IsKeyLit (.int .i64 (r.length : Nat)) := by simp [WideAt.IsKeyLit]
  refine ⟨h.map.put _ _, fun n => ?_, fun n => ?_⟩
  · by_cases e : (r.length : Int) = n
    · subst e
      rw [has_put_same h.map hk]
      exact (decide_eq_true ⟨r, by simp, rfl⟩).symm
    · rw [has_put_other (by intro h; exact e (by injection h with _ h; exact h.symm)), h.has]
      congr 1
      apply propext
      constructor
      · rintro ⟨x, hx, hl⟩; exact ⟨x, by simp [hx], hl⟩
      · rintro ⟨x, hx, hl⟩
        rcases List.mem_append.1 hx with hx | hx
        · exact ⟨x, hx, hl⟩
        · simp at hx; subst hx; exact absurd hl e
  · rw [cntL_snoc]
    by_cases e : r.length = n
    · subst e
      rw [atKey_put_same h.map hk, if_pos rfl]
    · rw [atKey_put_other (by intro h; injection h with _ h; exact e (by omega)), h.val, if_neg e, Nat.add_zero]
set_option maxRecDepth 100000 in
set_option maxHeartbeats 4000000 in
theorem CoLengths_any (v0 : Value) (rows : List RowC) (hr : rows.length ≤ 1000) (hl8 : ∀ p ∈ rows, p.bs.length ≤ 5000) (w : World) (h0 : RowsIn w v0 rows) :
    Calls Try.prog 20 #[v0] w fun e w' => e = .returned (.func (.func 26) #[] #[.pointer (some ⟨w.heap.size + 1, 0, none⟩)]) ∧ Boxed w' (w.heap.size + 1) 53 (.map (some w.heap.size)) ∧ (∃ D : DataW Unit, w'.ownsMap Try.prog 3 (plainElem Try.prog 3) w.heap.size rows.length D ∧ MapIs D (bsL rows)) ∧ Below w.heap.size w w' := by
  have hmm := @run_makeMap Try.prog
  have hmf : ∀ (fn : Fn) (first cap : Array Value) (w : World), (Instr.makeFunc fn first cap).run Try.prog w = .ok (.func fn first cap) w := fun _ _ _ _ => rfl
  obtain ⟨A, c, rfl, hA⟩ := h0.some
  have hat := fun b off (e : A = some ⟨b, off, none⟩) k hk => RowsIn.at (e ▸ h0) k hk
  have hbl : (bsL rows).length = rows.length := by simp [bsL]
  have HS := Lib.hid (show ∀ k (hk : k < rows.length), (bsL rows).take (k + 1) = (bsL rows).take k ++ [rows[k].bs] from fun k hk => by
    rw [take_snoc _ _ (by omega)]
    simp [bsL])
  have HE := Lib.hid (show (bsL rows).take rows.length = bsL rows from by rw [← hbl, List.take_length])
  have HC := Lib.hid (show ∀ k n, k ≤ rows.length → cntL ((bsL rows).take k) n ≤ 1000 from fun k n hk => by
    have h1 : cntL ((bsL rows).take k) n ≤ _ := List.countP_le_length ..
    rw [List.length_take] at h1
    omega)
  have HN := Lib.hid (And.intro hr hl8)
  clear h0 hbl hr hl8
  go_enter Try.func20, Try.ntmps20
  go_wp2_with fail
  obtain ⟨W0, hW0⟩ : ∃ W0, (w.alloc (Obj.map #[] 0)).alloc (Obj.cells #[Value.map (some w.heap.size)] 53) = W0 := ⟨_, rfl⟩
  have hB0 : Below w.heap.size w W0 := by rw [← hW0]; exact ((Below.refl _ w).alloc (Nat.le_refl _) _).alloc (by simp) _
  have b0 : Boxed W0 (w.heap.size + 1) 53 (.map (some w.heap.size)) := by
    rw [← hW0]
    have := Boxed.new (w.alloc (Obj.map #[] 0)) 53 (.map (some w.heap.size))
    rwa [World.size_alloc] at this
  have o0 : W0.ownsMap Try.prog 3 (plainElem Try.prog 3) w.heap.size 0 (.map [] : DataW Unit) := by
    rw [← hW0]
    exact (World.ownsMap_made _ _ _ _).alloc _
  rw [hW0]
  clear hW0
  go_loopw [9] (fun i wr => ∃ (k : Nat) (D : DataW Unit), k ≤ rows.length ∧ i = .int .i64 k ∧ wr.ownsMap Try.prog 3 (plainElem Try.prog 3) w.heap.size k D ∧ MapIs D ((bsL rows).take k) ∧ Boxed wr (w.heap.size + 1) 53 (.map (some w.heap.size)) ∧ Below w.heap.size w wr) (fun i _ => rows.length - (RowKit.intOf i).toNat)
  case atStart => exact ⟨0, _, Nat.zero_le _, rfl, o0, .nil, b0, hB0⟩
  case round =>
    obtain ⟨k, D, hk, rfl, hown, hM, hb, hB⟩ := hrel
    clear b0 hB0 o0
    by_cases hlt : k < rows.length
    · obtain ⟨b, off, rfl, hbl⟩ := hA (by omega)
      obtain ⟨hrow, -⟩ := hat b off rfl k hlt
      have hcx := (hB.cell (p := ⟨b, off + k, none⟩) hbl).trans hrow
      have hcb := hb.cell
      have hkl : (k : Int) < rows.length := by omega
      have hR8 := HN.out.2 _ (List.getElem_mem hlt)
      have hs := HS.out k hlt
      have hc9 := HC.out k rows[k].bs.length hk
      have hk9 : k ≤ 1000 := by have := HN.out.1; omega
      have Hk := Lib.hid hlt
      generalize rows[k] = R at *
      have hkey : keyOf Try.prog 3 (.int .i64 R.bs.length) = some (.int .i64 R.bs.length) := keyOf_int_mk Try.underlying3 (wfI _ (by omega) (by omega))
      have hwf : (Lit.int .i64 ((cntL ((bsL rows).take k) R.bs.length : Nat) + 1 : Int)).wf = true := wfI _ (by omega) (by omega)
      have Hs := Lib.hid hs
      have Hv := Lib.hid (hM.val R.bs.length)
      clear hat hA hs
      go_wp2_with (first
        | (at_lookup; refine wpList_lookup_own_int _ rfl _ _ 53 rfl 3 3 .i64 keyedInt Try.underlying53 Try.underlying3 (zeroInt _) w.heap.size k _ rfl hown _ _ rfl hkey ?_; intro c9 hat9 hwc9; rw [Hv.out] at hat9; injection hat9 with hat9; injection hat9 with _ hat9; subst hat9)
        | (at_mapUpdate; refine wpList_mapUpdate_own _ rfl _ _ _ 53 rfl 3 3 keyedInt Try.underlying53 _ w.heap.size k _ rfl hown (by unfold maxLen; omega) _ _ _ rfl rfl hkey _ [] (plainElem_int Try.underlying3 hwf) ?_; intro w1 hown1 hgrow1))
      refine ⟨⟨k + 1, _, Hk.out, by go_num, hown1, ?_, hb.kept hgrow1 (by simp), hB.grown hgrow1 hB.size (fun j hj => by cases hj; exact Nat.le_refl _)⟩, ?_⟩
      · rw [Hs.out]
        exact hM.snoc R.bs
      · have := Hk.out
        simp [RowKit.intOf]
        omega
    · obtain rfl : k = rows.length := by omega
      rw [HE.out] at hM
      have hcb := hb.cell
      go_wp2_with fail
      go_ret
      exact ⟨rfl, hb, ⟨_, hown, hM⟩, hB⟩
end Go.Proofs.Ytfkjheilcbppcaa
