/- Contracts of consensus.ofLength, Apart. (Seat s27.) -/
import Derived.Test.YtfkjheilcbppcaaChecked
import Derived.Test.YtfkjheilcbppcaaCsN
import Derived.Test.YtfkjheilcbppcaaRB
import Derived.Test.YtfkjheilcbppcaaRQ
namespace Go.Proofs.Ytfkjheilcbppcaa
open Go.RowKit Go.Shelf
attribute [local go_sem] Oper.semAt_some run_store_func

/-- The bytes of rows. -/
def bsL (rows : List RowC) : List (List UInt8) := rows.map (·.bs)
theorem apartG_snoc (L : List (List UInt8)) (r y : List UInt8) : apartG (L ++ [r]) y = apartG L y + if r.length = y.length then diffG r y y.length else 0 := by
  unfold apartG
  rw [List.map_append, List.sum_append]
  simp
theorem diffG_le (r y : List UInt8) (n : Nat) : diffG r y n ≤ n := by
  unfold diffG
  have := List.countP_le_length (p := fun i => !((r[i]?).getD 0 == (y[i]?).getD 0)) (l := List.range n)
  simpa using this
theorem apartG_le (L : List (List UInt8)) (y : List UInt8) : apartG L y ≤ L.length * y.length := by
  induction L with
  | nil => simp [apartG]
  | cons r L ih =>
    have e : apartG (r :: L) y = (if r.length = y.length then diffG r y y.length else 0) + apartG L y := by unfold apartG; rw [List.map_cons, List.sum_cons]
    have := diffG_le r y y.length
    rw [e, List.length_cons, Nat.add_mul]
    split <;> omega
theorem take_snoc {α : Type} (l : List α) (k : Nat) (h : k < l.length) : l.take (k + 1) = l.take k ++ [l[k]] := List.take_succ_eq_append_getElem h
set_option maxRecDepth 100000 in
set_option maxHeartbeats 4000000 in
theorem CoApart_any (v0 v1 : Value) (rows : List RowC) (s : List UInt8) (hr : rows.length ≤ 100) (hs : s.length ≤ 200) (w : World) (h0 : RowsIn w v0 rows) (h1 : Sl eB w.heap.size w v1 s) :
    Calls Try.prog 17 #[v0, v1] w fun e w' => e = .returned (.int .i64 (apartG (bsL rows) s : Nat)) ∧ w = w' := by
  obtain ⟨A, c, rfl, hA⟩ := h0.some
  obtain ⟨A1, c1, rfl, hc1, hcs⟩ := id h1
  have hat := fun b off (e : A = some ⟨b, off, none⟩) k hk => RowsIn.at (e ▸ h0) k hk
  have hbl : (bsL rows).length = rows.length := by simp [bsL]
  have HB := Lib.hid (show ∀ k, k ≤ rows.length → apartG ((bsL rows).take k) s ≤ 20000 from fun k hk => by
    have h1 := apartG_le ((bsL rows).take k) s
    have h2 : ((bsL rows).take k).length ≤ 100 := by rw [List.length_take]; omega
    have h3 : ((bsL rows).take k).length * s.length ≤ 100 * 200 := Nat.mul_le_mul h2 hs
    omega)
  have HS := Lib.hid (show ∀ k (hk : k < rows.length), apartG ((bsL rows).take (k + 1)) s = apartG ((bsL rows).take k) s + if rows[k].bs.length = s.length then diffG rows[k].bs s s.length else 0 from fun k hk => by
    rw [take_snoc _ _ (by omega), apartG_snoc]
    simp [bsL])
  have HE := Lib.hid (show apartG ((bsL rows).take rows.length) s = apartG (bsL rows) s from by rw [← hbl, List.take_length])
  have HN := Lib.hid (And.intro hr hs)
  clear h0 h1 hbl hr hs
  go_enter Try.func17, Try.ntmps17
  go_wp2_with fail
  go_step3
  go_wp2_with fail
  go_step3
  go_wp2_with fail
  go_loopw [5, 12] (fun t i wr => ∃ k : Nat, k ≤ rows.length ∧ i = .int .i64 k ∧ t = .int .i64 (apartG ((bsL rows).take k) s : Nat) ∧ wr = w) (fun _ i _ => rows.length - (intOf i).toNat)
  case atStart => exact ⟨0, Nat.zero_le _, rfl, rfl, rfl⟩
  case round =>
    obtain ⟨k, hk, rfl, rfl, rfl⟩ := hrel
    by_cases hlt : k < rows.length
    · obtain ⟨b, off, rfl, hb⟩ := hA (by omega)
      obtain ⟨hrow, hsl⟩ := hat b off rfl k hlt
      have hkl : (k : Int) < rows.length := by omega
      have hst := HS.out k hlt
      have hbd := HB.out k hk
      have hbd1 := HB.out (k + 1) (by omega)
      have Hk := Lib.hid hlt
      have hk9 : k ≤ 100 := by have := HN.out; omega
      generalize rows[k] = R at *
      clear hat hA
      by_cases hl : R.bs.length = s.length
      · rw [if_pos hl] at hst
        obtain ⟨b2, o2, hA2, hb2, hc2⟩ : ∃ b o, (0 < s.length → R.A = some ⟨b, o, none⟩) ∧ (0 < s.length → b < wr.heap.size) ∧ ∀ (j : Nat) (x : UInt8), R.bs[j]? = some x → wr.cell? ⟨b, o + j, none⟩ = some (eB x) := by
          obtain ⟨A', c', e, -, hcs'⟩ := hsl
          by_cases h0 : 0 < R.bs.length
          · obtain ⟨b, o, e2, hb, hc⟩ := hcs' h0
            cases e
            exact ⟨b, o, fun _ => e2, fun _ => hb, hc⟩
          · exact ⟨0, 0, fun h => absurd h (by omega), fun h => absurd h (by omega), fun j x h => absurd (List.getElem?_eq_some_iff.1 h).1 (by omega)⟩
        have hq : (((R.bs.length : Nat) : Int) != (s.length : Int)) = false := by rw [hl]; simp
        have Hl := Lib.hid hl
        have Hst := Lib.hid hst
        clear hst hl
        generalize apartG ((bsL rows).take k) s = a0 at *
        generalize hrs : R.bs = r at *
        go_wp2_with fail
        go_loopw [5, 23] (fun t i wx => ∃ j : Nat, j ≤ s.length ∧ i = .int .i64 j ∧ t = .int .i64 (a0 + diffG r s j : Nat) ∧ wx = wr) (fun _ i _ => s.length - (intOf i).toNat)
        case atStart => exact ⟨0, Nat.zero_le _, rfl, rfl, rfl⟩
        case round =>
          obtain ⟨j, hj, rfl, rfl, rfl⟩ := hrel
          by_cases hlt2 : j < s.length
          · have hjr : (j : Int) < (r.length : Int) := by have := Hl.out; omega
            have hjs : (j : Int) < (s.length : Int) := by omega
            obtain ⟨b3, o3, rfl, hb3, hc3⟩ := hcs (by omega)
            have e2 := hA2 (by omega)
            have hrj : j < r.length := by have := Hl.out; omega
            have x1 := hc2 j r[j] (List.getElem?_eq_getElem hrj)
            have x2 := hc3 j s[j] (List.getElem?_eq_getElem hlt2)
            have hds := diffG_succ r s j
            rw [List.getElem?_eq_getElem hrj, List.getElem?_eq_getElem hlt2, Option.getD_some, Option.getD_some] at hds
            have hdl := diffG_le r s j
            have Hj := Lib.hid hlt2
            have hj9 : j ≤ 200 := by have := HN.out; omega
            rw [e2]
            clear hA2 hc2 hcs hrow hsl hrs e2 hbd1
            generalize r[j] = p1 at *
            generalize s[j] = p2 at *
            clear hrj hlt2
            by_cases he : p1 = p2
            · rw [if_pos he] at hds
              have hq2 : ((p1.toNat : Int) != (p2.toNat : Int)) = false := by rw [he]; simp
              have Hd := Lib.hid hds
              clear he hds
              go_wp2_with fail
              go_roundw
              case rel => exact ⟨j + 1, Hj.out, by go_num, by rw [Hd.out]; rfl, trivial⟩
              case measure => have := Hj.out; simp [intOf]; omega
            · rw [if_neg he] at hds
              have hq2 : ((p1.toNat : Int) != (p2.toNat : Int)) = true := by rw [bne_iff_ne]; intro e; exact he (UInt8.toNat_inj.1 (by omega))
              have Hd := Lib.hid hds
              clear he hds
              generalize diffG r s j = dd at *
              go_wp2_with fail
              go_roundw
              case rel => exact ⟨j + 1, Hj.out, by go_num, by rw [Hd.out]; go_num, trivial⟩
              case measure => have := Hj.out; simp [intOf]; omega
          · obtain rfl : j = s.length := by omega
            have hjr : ¬ ((s.length : Nat) : Int) < (r.length : Int) := by have := Hl.out; omega
            go_wp2_with fail
            go_roundw
            case rel => exact ⟨k + 1, Hk.out, by go_num, by rw [Hst.out] <;> try rfl, trivial⟩
            case measure => have := Hk.out; simp [intOf]; omega
      · rw [if_neg hl, Nat.add_zero] at hst
        have hq : (((R.bs.length : Nat) : Int) != (s.length : Int)) = true := by rw [bne_iff_ne]; omega
        have Hst := Lib.hid hst
        clear hst hl
        go_wp2_with fail
        go_roundw
        case rel => exact ⟨k + 1, Hk.out, by go_num, by rw [Hst.out] <;> try rfl, trivial⟩
        case measure => have := Hk.out; simp [intOf]; omega
    · obtain rfl : k = rows.length := by omega
      rw [HE.out]
      go_wp2_with fail
      try rw [Exit.noGoto_ret]
      go_ret
      exact ⟨rfl, rfl⟩
end Go.Proofs.Ytfkjheilcbppcaa
