/- Contract of helixref27.Length. (Seat s27.) -/
import Derived.Test.YtfkjheilcbppcaaCoA
import Derived.Test.YtfkjheilcbppcaaCsO
namespace Go.Proofs.Ytfkjheilcbppcaa
open Go.RowKit Go.Shelf
attribute [local go_sem] Oper.semAt_some run_store_func

theorem bsL_get (rows : List RowC) (k : Nat) (h : k < (bsL rows).length) : (bsL rows)[k] = (rows[k]'(by simpa [bsL] using h)).bs := by simp [bsL]
theorem bsL_count (rows : List RowC) : (bsL rows).length = rows.length := by simp [bsL]
set_option maxRecDepth 100000 in
set_option maxHeartbeats 4000000 in
theorem RLen_any (v0 : Value) (rows : List RowC) (hr : rows.length ≤ 100) (hl8 : ∀ p ∈ rows, p.bs.length ≤ 200) (w : World) (h0 : RowsIn w v0 rows) :
    Calls Try.prog 11 #[v0] w fun e w' => e = .returned (.tuple #[.int .i64 (lenG (bsL rows)).1, .bool (decide (0 < (lenG (bsL rows)).2))]) ∧ Below w.heap.size w w' := by
  obtain ⟨A, c, rfl, hA⟩ := h0.some
  have hat := fun b off (e : A = some ⟨b, off, none⟩) k hk => (RowsIn.at (e ▸ h0) k hk).1
  have hbl := bsL_count rows
  have HS := Lib.hid (show ∀ k (hk : k < rows.length), refF (bsL rows) (k + 1) = refS (refF (bsL rows) k) (rows[k].bs.length, cntL (bsL rows) rows[k].bs.length) from fun k hk => by
    have h := refF_succ (bsL rows) k (by omega)
    rw [bsL_get] at h
    exact h)
  have HC := Lib.hid (show ∀ n k (hk : k < rows.length), cntL ((bsL rows).take (k + 1)) n = cntL ((bsL rows).take k) n + if rows[k].bs.length = n then 1 else 0 from fun n k hk => by
    have h := cntL_take (bsL rows) n k (by omega)
    rw [bsL_get] at h
    exact h)
  have HF := Lib.hid (show ∀ k, k ≤ rows.length → (refF (bsL rows) k).1 ≤ 200 ∧ (refF (bsL rows) k).2 ≤ 100 from fun k hk => by
    have h := refF_le (bsL rows) 200 (fun r hr => by obtain ⟨p, hp, rfl⟩ := List.mem_map.1 hr; exact hl8 p hp) k (by omega)
    omega)
  have HL := Lib.hid (show ∀ k (hk : k < rows.length), rows[k].bs.length ≤ 200 from fun k hk => hl8 _ (List.getElem_mem hk))
  have HE := Lib.hid (show refF (bsL rows) rows.length = lenG (bsL rows) from by rw [← hbl]; exact refF_is _)
  have HT := Lib.hid (show (bsL rows).take rows.length = bsL rows from by rw [← hbl, List.take_length])
  have HN := Lib.hid hr
  clear h0 hbl hr hl8
  go_enter Try.func11, Try.ntmps11
  go_wp2_with fail
  go_loopw [4, 5, 6] (fun b m i wr => ∃ k : Nat, k ≤ rows.length ∧ i = .int .i64 k ∧ b = .int .i64 ((refF (bsL rows) k).1 : Nat) ∧ m = .int .i64 ((refF (bsL rows) k).2 : Nat) ∧ Below w.heap.size w wr) (fun _ _ i _ => rows.length - (intOf i).toNat)
  case atStart => exact ⟨0, Nat.zero_le _, rfl, rfl, rfl, Below.refl _ _⟩
  case round =>
    obtain ⟨k, hk, rfl, rfl, rfl, hB⟩ := hrel
    by_cases hlt : k < rows.length
    · obtain ⟨b, off, rfl, hb⟩ := hA (by omega)
      have hrow := hat b off rfl k hlt
      have HAT := Lib.hid (show ∀ j (hj : j < rows.length), w.cell? ⟨b, off + j, none⟩ = some (.slice rows[j].A rows[j].bs.length rows[j].c) from fun j hj => hat b off rfl j hj)
      have hkl : (k : Int) < rows.length := by omega
      have Hst := Lib.hid (HS.out k hlt)
      have hr8 := HL.out k hlt
      obtain ⟨hf1, hf2⟩ := HF.out k hk
      have Hk := Lib.hid hlt
      have hk9 : k ≤ 100 := by have := HN.out; omega
      generalize refF (bsL rows) k = S at *
      generalize rows[k] = R at *
      clear hat hA
      go_wp2_with fail
      go_loopw [7, 8] (fun n i wx => ∃ j : Nat, j ≤ rows.length ∧ i = .int .i64 j ∧ n = .int .i64 (cntL ((bsL rows).take j) R.bs.length : Nat) ∧ Below w.heap.size w wx) (fun _ i _ => rows.length - (intOf i).toNat)
      case atStart => exact ⟨0, Nat.zero_le _, rfl, rfl, hB⟩
      case round =>
        obtain ⟨j, hj, rfl, rfl, hBx⟩ := hrel
        have hrowx := (hBx.cell (p := ⟨b, off + k, none⟩) hb).trans hrow
        clear hrow
        by_cases hlt2 : j < rows.length
        · have hrj := (hBx.cell (p := ⟨b, off + j, none⟩) hb).trans (HAT.out j hlt2)
          have hst2 := HC.out R.bs.length j hlt2
          have hjl : (j : Int) < rows.length := by omega
          have hcb := cntL_all (bsL rows) R.bs.length j
          have Hj := Lib.hid hlt2
          have hj9 : j ≤ 100 := by have := HN.out; omega
          generalize rows[j] = R2 at *
          clear hlt2
          by_cases he : R2.bs.length = R.bs.length
          · rw [if_pos he] at hst2
            have hq : (((R2.bs.length : Nat) : Int) == ((R.bs.length : Nat) : Int)) = true := by rw [he]; simp
            have Hd := Lib.hid hst2
            clear he hst2
            generalize cntL ((bsL rows).take j) R.bs.length = cc at *
            go_wp2_with fail
            try go_quiet (fail)
            try go_wp2_with fail
            go_roundw
            case rel => exact ⟨j + 1, Hj.out, by go_num, by rw [Hd.out]; go_num, hBx.trans ⟨rfl, rfl, rfl, Nat.le_refl _, fun _ _ => rfl⟩⟩
            case measure => have := Hj.out; simp [intOf]; omega
          · rw [if_neg he, Nat.add_zero] at hst2
            have hq : (((R2.bs.length : Nat) : Int) == ((R.bs.length : Nat) : Int)) = false := by rw [beq_eq_false_iff_ne]; omega
            have Hd := Lib.hid hst2
            clear he hst2
            generalize cntL ((bsL rows).take j) R.bs.length = cc at *
            go_wp2_with fail
            try go_quiet (fail)
            try go_wp2_with fail
            go_roundw
            case rel => exact ⟨j + 1, Hj.out, by go_num, by rw [Hd.out] <;> try rfl, hBx.trans ⟨rfl, rfl, rfl, Nat.le_refl _, fun _ _ => rfl⟩⟩
            case measure => have := Hj.out; simp [intOf]; omega
        · obtain rfl : j = rows.length := by omega
          rw [HT.out]
          have hcb := cntL_all (bsL rows) R.bs.length rows.length
          rw [HT.out] at hcb
          have hc9 : cntL (bsL rows) R.bs.length ≤ 100 := by have := HN.out; omega
          generalize cntL (bsL rows) R.bs.length = C at *
          clear hcb
          by_cases h1 : S.2 < C
          · have Hd := Lib.hid (show refF (bsL rows) (k + 1) = (R.bs.length, C) from by rw [Hst.out]; unfold refS; rw [if_pos (.inl h1)])
            have h1' : (S.2 : Int) < (C : Int) := by omega
            clear h1 Hst
            go_wp2_with fail
            try go_quiet (fail)
            try go_wp2_with fail
            go_roundw
            case rel => exact ⟨k + 1, Hk.out, by go_num, by rw [Hd.out], by rw [Hd.out], hBx.trans ⟨rfl, rfl, rfl, Nat.le_refl _, fun _ _ => rfl⟩⟩
            case measure => have := Hk.out; simp [intOf]; omega
          · have h1' : ¬ (S.2 : Int) < (C : Int) := by omega
            by_cases h2 : C = S.2
            · have hq : ((C : Int) == (S.2 : Int)) = true := by rw [h2]; simp
              by_cases h3 : R.bs.length < S.1
              · have Hd := Lib.hid (show refF (bsL rows) (k + 1) = (R.bs.length, C) from by rw [Hst.out]; unfold refS; rw [if_pos (.inr ⟨h2, h3⟩)])
                have h3' : ((R.bs.length : Nat) : Int) < (S.1 : Int) := by omega
                clear h1 Hst h2
                go_wp2_with fail
                try go_quiet (fail)
                try go_wp2_with fail
                go_roundw
                case rel => exact ⟨k + 1, Hk.out, by go_num, by rw [Hd.out], by rw [Hd.out], hBx.trans ⟨rfl, rfl, rfl, Nat.le_refl _, fun _ _ => rfl⟩⟩
                case measure => have := Hk.out; simp [intOf]; omega
              · have Hd := Lib.hid (show refF (bsL rows) (k + 1) = S from by rw [Hst.out]; unfold refS; rw [if_neg (fun h => h.elim h1 fun h => h3 h.2)])
                have h3' : ¬ ((R.bs.length : Nat) : Int) < (S.1 : Int) := by omega
                clear h1 Hst h2
                go_wp2_with fail
                try go_quiet (fail)
                try go_wp2_with fail
                go_roundw
                case rel => exact ⟨k + 1, Hk.out, by go_num, by rw [Hd.out], by rw [Hd.out], hBx.trans ⟨rfl, rfl, rfl, Nat.le_refl _, fun _ _ => rfl⟩⟩
                case measure => have := Hk.out; simp [intOf]; omega
            · have hq : ((C : Int) == (S.2 : Int)) = false := by rw [beq_eq_false_iff_ne]; omega
              have Hd := Lib.hid (show refF (bsL rows) (k + 1) = S from by rw [Hst.out]; unfold refS; rw [if_neg (fun h => h.elim h1 fun h => h2 h.1)])
              clear h1 Hst h2
              go_wp2_with fail
              try go_quiet (fail)
              try go_wp2_with fail
              go_roundw
              case rel => exact ⟨k + 1, Hk.out, by go_num, by rw [Hd.out], by rw [Hd.out], hBx.trans ⟨rfl, rfl, rfl, Nat.le_refl _, fun _ _ => rfl⟩⟩
              case measure => have := Hk.out; simp [intOf]; omega
    · obtain rfl : k = rows.length := by omega
      rw [HE.out]
      go_wp2_with fail
      go_ret2
      exact ⟨by simp, hB⟩
end Go.Proofs.Ytfkjheilcbppcaa
