/- NtSorts. -/
import Derived.Test.YtapbfjbjbcpiiaaDoorNsK
namespace Go.Proofs.YtapbfjbjbcpiiaaDoor
open Go.RowKit Go.Shelf
attribute [local go_sem] Oper.semAt_some

theorem w_is (z v : Int) (h : v = z) (h0 : -1000000 ≤ z) (h1 : z ≤ 1000000) : wrap64 z = v ∧ IntKind.i64.wrap z = v :=
  ⟨by rw [IntWalk.wrap64_in _ (by omega), h], by rw [IntWalk.i64_in _ (by omega), h]⟩
/-- How often x is among the first k rows. -/
def cntR (rows : List RowC) (x : List UInt8) (k : Nat) : Nat := ((rows.take k).map (·.bs)).count x
theorem cntR_succ (rows : List RowC) (x : List UInt8) (k : Nat) (h : k < rows.length) : cntR rows x (k + 1) = cntR rows x k + if rows[k].bs = x then 1 else 0 := by
  unfold cntR
  rw [take_snoc rows k h, List.count_append, List.count_singleton]
  simp
theorem cntR_le (rows : List RowC) (x : List UInt8) (k : Nat) : cntR rows x k ≤ k := by
  unfold cntR
  refine Nat.le_trans (List.count_le_length ..) ?_
  rw [List.length_map, List.length_take]
  omega
theorem cntR_all {ra rb : List RowC} (h : (ra.map (·.bs)).Perm (rb.map (·.bs))) (x : List UInt8) : cntR ra x ra.length = cntR rb x rb.length := by
  unfold cntR
  rw [List.take_length, List.take_length]
  exact h.count_eq x
set_option maxRecDepth 100000 in
set_option maxHeartbeats 4000000 in
theorem NtSorts_any (v : Value) (rows : List RowC) (w : World) (h : RowsIn w v rows) (hT : Tab w) :
    Calls Tryd.prog 3 #[v] w fun e w' => e = .returned (.bool true) ∧ Below w.heap.size w w' := by
  have hG := great_any v rows w h
  obtain ⟨i0, hi, hz0, hz1, hz2⟩ := info_parts info_row
  by_cases hg : grG rows = true
  · rw [hg] at hG
    clear h hg
    go_enter Tryd.func3, Tryd.ntmps3
    go_wp2_with fail
    go_at_call 8
    refine hG.mono ?_
    rintro e w' ⟨rfl, rfl⟩
    go_wp2_with fail
    go_at_call 9
    refine (wakes_any _ hT).mono ?_
    rintro e w2 ⟨rfl, hB⟩
    go_wp2
    go_ret
    exact ⟨rfl, hB⟩
  rw [Bool.eq_false_iff.2 hg] at hG
  obtain ⟨hl, h4⟩ := grG_no (Bool.eq_false_iff.2 hg)
  have H4 := Lib.hid h4
  clear hg h4
  obtain ⟨A, c, rfl, hA⟩ := h.some
  go_enter Tryd.func3, Tryd.ntmps3
  go_wp2_with fail
  go_at_call 8
  refine hG.mono ?_
  rintro e w' ⟨rfl, rfl⟩
  clear hG
  have hC0 : Coll w.heap.size w (.slice none 0 0) [] := ⟨⟨rfl, .inl ⟨rfl, rfl⟩⟩, fun p hp => by cases hp⟩
  go_wp2_with fail
  go_loopw [3, 4] (fun sv t wr => ∃ (k : Nat) (vs : List RowC), k ≤ rows.length ∧ t = .int .i64 k ∧ Coll w.heap.size wr sv vs ∧ vs.map (·.bs) = (rows.take k).map (·.bs) ∧ Below w.heap.size w wr) (fun _ t _ => rows.length - (intOf t).toNat)
  case atStart => exact ⟨0, [], Nat.zero_le _, rfl, hC0, by simp, Below.refl _ _⟩
  case round =>
    obtain ⟨k, vs, hk, rfl, hC, hm, hB⟩ := hrel
    have hvl : vs.length = k := by have := congrArg List.length hm; simpa [hk] using this
    by_cases hlt : k < rows.length
    · obtain ⟨b1, o1, rfl, l1⟩ := hA (by omega)
      obtain ⟨q1, s1⟩ := h.at k hlt
      have r1 := (hB.cell (p := ⟨b1, o1 + k, none⟩) l1).trans q1
      have s1 := s1.next hB
      have hlen := H4.out rows[k] (List.getElem_mem hlt)
      have HS := Lib.hid (take_snoc rows k hlt)
      have hCl := both_own (.slice rows[k].A rows[k].bs.length rows[k].c) rows[k].bs (by omega) wr s1
      generalize rows[k].A = A2 at *
      generalize rows[k].c = c2 at *
      generalize rows[k].bs = bs at *
      have h3 : (k : Int) < (rows.length : Int) := by omega
      have hlt' := Lib.hid hlt
      have hk9 : k ≤ 60 := by omega
      have Hm := Lib.hid hm
      have Hv := Lib.hid hvl
      have hgl := fun g' hg' => (hC.1.lt g' hg').2
      clear h hA q1 s1 hlen hlt hk hm hC0 hvl hT
      go_wp2_with fail
      go_at_call 10
      refine hCl.mono ?_
      rintro e w2 ⟨u, rfl, hu, hBu⟩
      obtain ⟨A3, c3, rfl⟩ := hu.1.len
      have hC2 := hC.bel hBu
      have hne := own_ne hu hgl (Nat.le_refl _)
      have hAl := below_alloc w2 (.cells #[.slice A3 bs.length c3] 25)
      have hnew := Sl.new eC w2 [⟨A3, c3, bs⟩] #[.slice A3 bs.length c3] 25 (0, 0) 1 1 rfl (Nat.le_refl _) rfl
      have hB2 := below_trans hB hBu
      have hown2 := hC2.1.alloc (.cells #[.slice A3 bs.length c3] 25)
      clear hCl hC hgl
      go_wp2_with
        (at_builtin
         refine wpList_append_sl _ rfl (.tmp 19) (.tmp 25) _ rfl w.heap.size 25 i0 (.slice none 0 0) 24 Tryd.underlying22 hi hz0 hz1 hz2 rfl _ vs.length _ hown2 rfl _ _ [⟨A3, c3, bs⟩] hnew rfl eC_one (by have := Hv.out; unfold maxLen; simp; omega) (by have := Hv.out; simp; omega) (by have := hB2.size; simp; omega) ?_
         intro v3 w3 hown3 hg3 hat3)
      have hC3 := hC2.push (p := ⟨A3, c3, bs⟩) hu.1 hne hown3 hg3 hat3
      have hB3 := (below_trans hB2 hAl).trans (below_grown hown2 hg3 (by have := hB2.size; simp; omega) (Nat.le_refl _))
      clear hown3 hg3 hat3 hown2 hnew hAl hB2 hC2 hne hu hBu
      go_roundw
      case rel =>
        refine ⟨k + 1, vs ++ [⟨A3, c3, bs⟩], hlt'.out, by go_num, by simpa using hC3, ?_, hB3⟩
        rw [HS.out, ← Hm.out, List.map_append]
        rfl
      case measure => have := hlt'.out; simp [intOf]; omega
    · obtain rfl : k = rows.length := by omega
      have h3 : ¬ (rows.length : Int) < (rows.length : Int) := by omega
      have h5 : ¬ rows.length < rows.length := by omega
      rw [List.take_length] at hm
      have hin := h.next hB
      have hvs := hC.rows
      have hT1 := hT.below hB
      have hS := Sort_any _ rows wr hin hl H4.out
      have hA2 : 0 < rows.length → ∃ b off, A = some ⟨b, off, none⟩ ∧ b < wr.heap.size := fun hn => by
        obtain ⟨b, off, e, hb⟩ := hA hn
        exact ⟨b, off, e, Nat.lt_of_lt_of_le hb hB.size⟩
      clear hC hC0 hlt hk hA h hT hvl
      go_wp2_with fail
      go_at_call 11
      refine hS.mono ?_
      rintro e w2 ⟨u, rows', rfl, hou, hpm, hri, hB2⟩
      have hin := hin.next hB2
      have hvs := hvs.next hB2
      have hT2 := hT1.below hB2
      have hBx := below_trans hB hB2
      have hA3 : 0 < rows.length → ∃ b off, A = some ⟨b, off, none⟩ ∧ b < w2.heap.size := fun hn => by
        obtain ⟨b, off, e, hb⟩ := hA2 hn
        exact ⟨b, off, e, Nat.lt_of_lt_of_le hb hB2.size⟩
      obtain ⟨A', c', rfl, hA'⟩ := hou.some
      have hl' : rows'.length = rows.length := by have := hpm.length_eq; simpa using this
      have hne : ((rows'.length : Int) != (rows.length : Int)) = false := by rw [hl']; simp
      have hR := fun w h1 h2 => Rows_same (.slice A rows.length c) u3 rows vs w h1 h2 hm.symm hl
      have Hl' := Lib.hid hl'
      clear hS hT1 hA2 hB hB2 hm hl'
      go_wp2_with fail
      go_at_call 12
      refine (hR _ hin hvs).mono ?_
      rintro e w3 ⟨rfl, hC⟩
      have hin := hin.next hC
      have hou := hou.next hC
      have hT3 := hT2.below hC
      have hBx := below_trans hBx hC
      have hA4 : 0 < rows.length → ∃ b off, A = some ⟨b, off, none⟩ ∧ b < w3.heap.size := fun hn => by
        obtain ⟨b, off, e, hb⟩ := hA3 hn
        exact ⟨b, off, e, Nat.lt_of_lt_of_le hb hC.size⟩
      have hA5 : 0 < rows'.length → ∃ b off, A' = some ⟨b, off, none⟩ ∧ b < w3.heap.size := fun hn => by
        obtain ⟨b, off, e, hb⟩ := hA' hn
        exact ⟨b, off, e, Nat.lt_of_lt_of_le hb hC.size⟩
      clear hR hvs hT2 hA3 hA' hC
      go_wp2_with fail
      go_loopw [6] (fun t wr => ∃ i : Nat, i ≤ rows.length ∧ t = .int .i64 i ∧ Below w3.heap.size w3 wr) (fun t _ => rows.length - (intOf t).toNat)
      case atStart => exact ⟨0, Nat.zero_le _, rfl, Below.refl _ _⟩
      case round =>
        obtain ⟨i, hi', rfl, hBi⟩ := hrel
        by_cases hlt : i < rows.length
        · obtain ⟨b1, o1, rfl, l1⟩ := hA4 (by omega)
          obtain ⟨b2, o2, rfl, l2⟩ := hA5 (by have := Hl'.out; omega)
          obtain ⟨q1, s1⟩ := hin.at i hlt
          have hix : (i : Int) < (rows.length : Int) := by omega
          have Hi := Lib.hid hlt
          have hi9 : i ≤ 60 := by omega
          have HA := Lib.hid (cntR_all hpm rows[i].bs)
          have HR : Hid (0 < i → ¬ Lib.compareBytes (rows'[i]'(by have := Hl'.out; omega)).bs (rows'[i - 1]'(by have := Hl'.out; omega)).bs < 0) := Lib.hid fun h0 => hri (i - 1) i (by have := Hl'.out; omega) (by have := Hl'.out; omega) (by omega)
          have HP := Lib.hid (fun (j : Nat) (hj : j < rows'.length) => hou.at j hj)
          have HN := Lib.hid (fun (j : Nat) (hj : j < rows.length) => hin.at j hj)
          generalize hz : rows[i].bs = z at *
          generalize rows[i].A = zA at *
          generalize rows[i].c = zc at *
          clear hin hou hri hpm hA4 hA5
          go_wp2_with fail
          go_loopw [7, 8, 9] (fun ta tb tk wq => ∃ k : Nat, k ≤ rows.length ∧ tk = .int .i64 k ∧ ta = .int .i64 (cntR rows z k : Nat) ∧ tb = .int .i64 (cntR rows' z k : Nat) ∧ Below w3.heap.size w3 wq) (fun _ _ tk _ => rows.length - (intOf tk).toNat)
          case atStart => exact ⟨0, Nat.zero_le _, rfl, rfl, rfl, hBi⟩
          case round =>
            obtain ⟨k, hk, rfl, rfl, rfl, hBk⟩ := hrel
            by_cases hkl : k < rows.length
            · obtain ⟨x1, x2⟩ := HN.out k hkl
              obtain ⟨y1, y2⟩ := HP.out k (by have := Hl'.out; omega)
              have m1 := (hBk.cell (p := ⟨b1, o1 + k, none⟩) l1).trans x1
              have m2 := (hBk.cell (p := ⟨b2, o2 + k, none⟩) l2).trans y1
              have m3 := (hBk.cell (p := ⟨b1, o1 + i, none⟩) l1).trans q1
              obtain ⟨e1, he1⟩ : ∃ r, decide (rows[k].bs = z) = r := ⟨_, rfl⟩
              obtain ⟨e2, he2⟩ : ∃ r, decide ((rows'[k]'(by have := Hl'.out; omega)).bs = z) = r := ⟨_, rfl⟩
              have hc1 : cntR rows z (k + 1) = cntR rows z k + (if e1 then 1 else 0) := by
                rw [cntR_succ rows z k hkl, ← he1]
                by_cases h : rows[k].bs = z <;> simp [h]
              have hc2 : cntR rows' z (k + 1) = cntR rows' z k + (if e2 then 1 else 0) := by
                rw [cntR_succ rows' z k (by have := Hl'.out; omega), ← he2]
                by_cases h : (rows'[k]'(by have := Hl'.out; omega)).bs = z <;> simp [h]
              have hQ1 : ∀ n, Calls Tryd.prog 13 #[.slice rows[k].A rows[k].bs.length rows[k].c, .slice zA z.length zc] (wr.drewN n) fun e w' => e = .returned (.bool e1) ∧ w' = wr.drewN n := fun n =>
                (same_is _ _ _ _ e1 he1 w3.heap.size _ (x2.below (hBk.trans (below_drewN' _ _ _))) (s1.below (hBk.trans (below_drewN' _ _ _)))).mono fun _ _ ⟨a, b⟩ => ⟨a, b.symm⟩
              have hQ2 : ∀ m n, Calls Tryd.prog 13 #[.slice (rows'[k]'(by have := Hl'.out; omega)).A (rows'[k]'(by have := Hl'.out; omega)).bs.length (rows'[k]'(by have := Hl'.out; omega)).c, .slice zA z.length zc] ((wr.drewN m).drewN n) fun e w' => e = .returned (.bool e2) ∧ w' = (wr.drewN m).drewN n := fun m n =>
                (same_is _ _ _ _ e2 he2 w3.heap.size _ (y2.below ((hBk.trans (below_drewN' _ _ _)).trans (below_drewN' _ _ _))) (s1.below ((hBk.trans (below_drewN' _ _ _)).trans (below_drewN' _ _ _)))).mono fun _ _ ⟨a, b⟩ => ⟨a, b.symm⟩
              have n1 := cntR_le rows z k
              have n2 := cntR_le rows' z k
              generalize (rows'[k]'(by have := Hl'.out; omega)).bs = y at *
              generalize (rows'[k]'(by have := Hl'.out; omega)).A = yA at *
              generalize (rows'[k]'(by have := Hl'.out; omega)).c = yc at *
              generalize rows[k].bs = x at *
              generalize rows[k].A = xA at *
              generalize rows[k].c = xc at *
              have h3 : (k : Int) < (rows.length : Int) := by omega
              have h3' : (k : Int) < (rows'.length : Int) := by have := Hl'.out; omega
              have h3'' : k < rows'.length := by have := Hl'.out; omega
              have Hk := Lib.hid hkl
              have hk9 : k ≤ 60 := by omega
              have n3 : cntR rows z k ≤ 60 := by omega
              have n4 : cntR rows' z k ≤ 60 := by omega
              have Hc1 := Lib.hid hc1
              have Hc2 := Lib.hid hc2
              clear x1 y1 x2 y2 q1 hc1 hc2 he1 he2 hk hkl n1 n2 s1
              cases e1 <;> cases e2
              all_goals
                go_wp2_with fail
                go_quiet ((go_at_call 13; with_reducible exact Calls.quiet_of_same (hQ1 _)))
                have hBq : Below w3.heap.size w3 (wr.drewN nq) := hBk.trans (below_drewN' _ _ _)
                have m2 : (wr.drewN nq).cell? ⟨b2, o2 + k, none⟩ = some (.slice yA y.length yc) := m2
                have m3 : (wr.drewN nq).cell? ⟨b1, o1 + i, none⟩ = some (.slice zA z.length zc) := m3
                have hQ2 := hQ2 nq
                clear m1 hQ1 hBk
                generalize wr.drewN nq = W1 at *
                go_wp2_with fail
                go_quiet ((go_at_call 13; with_reducible exact Calls.quiet_of_same (hQ2 _)))
                have hBn : Below w3.heap.size w3 (W1.drewN nq) := hBq.trans (below_drewN' _ _ _)
                clear m2 m3 hQ2 hBq
                generalize W1.drewN nq = W2 at *
                go_wp2_with fail
                go_roundw
              all_goals first
                | exact ⟨k + 1, Hk.out, by go_num, by rw [Hc1.out]; simp, by rw [Hc2.out]; simp, hBn⟩
                | (have := Hk.out; simp [intOf]; omega)
            · obtain rfl : k = rows.length := by omega
              have h3 : ¬ (rows.length : Int) < (rows.length : Int) := by omega
              have h4 : ¬ rows.length < rows.length := by omega
              have hab : cntR rows' z rows.length = cntR rows z rows.length := by have := HA.out; rwa [Hl'.out] at this
              rw [hab]
              generalize cntR rows z rows.length = cc at *
              by_cases h0 : i = 0
              · subst h0
                clear hk hkl hab q1 s1 hz
                go_wp2_with fail
                go_quiet (fail)
                go_wp2_with fail
                go_roundw
                case rel => exact ⟨0 + 1, Hi.out, by go_num, hBk.trans (below_drewN' _ _ _)⟩
                case measure => have := Hi.out; simp [intOf]; omega
              · obtain ⟨m, rfl⟩ : ∃ m, i = m + 1 := ⟨i - 1, by omega⟩
                obtain ⟨y1, y2⟩ := HP.out (m + 1) (by have := Hl'.out; omega)
                obtain ⟨x1, x2⟩ := HP.out m (by have := Hl'.out; omega)
                have hr : ¬ Lib.compareBytes (rows'[m + 1]'(by have := Hl'.out; omega)).bs (rows'[m]'(by have := Hl'.out; omega)).bs < 0 := by
                  have := HR.out (by omega)
                  simpa using this
                have hless : Op.bytesLess (rows'[m]'(by have := Hl'.out; omega)).bs (rows'[m + 1]'(by have := Hl'.out; omega)).bs = true ∨ ((rows'[m]'(by have := Hl'.out; omega)).bs == (rows'[m + 1]'(by have := Hl'.out; omega)).bs) = true := by
                  by_cases h : Lib.compareBytes (rows'[m]'(by have := Hl'.out; omega)).bs (rows'[m + 1]'(by have := Hl'.out; omega)).bs < 0
                  · exact .inl ((less_iff _ _).2 h)
                  · exact .inr (beq_iff_eq.2 (compare_total _ _ h hr))
                have m1 := (hBk.cell (p := ⟨b2, o2 + (m + 1), none⟩) l2).trans y1
                have m2 := (hBk.cell (p := ⟨b2, o2 + m, none⟩) l2).trans x1
                have t1 := str_n y2 hBk
                have t2 := str_n x2 hBk
                generalize (rows'[m + 1]'(by have := Hl'.out; omega)).bs = y at *
                generalize (rows'[m + 1]'(by have := Hl'.out; omega)).A = yA at *
                generalize (rows'[m + 1]'(by have := Hl'.out; omega)).c = yc at *
                generalize (rows'[m]'(by have := Hl'.out; omega)).bs = x at *
                generalize (rows'[m]'(by have := Hl'.out; omega)).A = xA at *
                generalize (rows'[m]'(by have := Hl'.out; omega)).c = xc at *
                have hm0 : (0 : Int) < ((m + 1 : Nat) : Int) := by omega
                have hm1 : ((m + 1 : Nat) : Int) < (rows'.length : Int) := by have := Hl'.out; have := Hi.out; omega
                have hm2 : (m : Int) < (rows'.length : Int) := by have := Hl'.out; have := Hi.out; omega
                have hm3 : m + 1 < rows'.length := by have := Hl'.out; have := Hi.out; omega
                have hm4 : m < rows'.length := by omega
                obtain ⟨em, em'⟩ := w_is (((m + 1 : Nat) : Int) - 1) (m : Int) (by omega) (by omega) (by omega)
                clear hk hkl hab q1 s1 hz y1 x1 y2 x2 hr h0
                rcases hless with hless | hless
                all_goals
                  go_wp2_with fail
                  go_quiet (fail)
                  go_wp2_with fail
                  go_roundw
                all_goals first
                  | exact ⟨m + 1 + 1, Hi.out, by go_num, hBk.trans (below_drewN' _ _ _)⟩
                  | (have := Hi.out; simp [intOf]; omega)
        · obtain rfl : i = rows.length := by omega
          have h3 : ¬ (rows.length : Int) < (rows.length : Int) := by omega
          have h4 : ¬ rows.length < rows.length := by omega
          have hT4 := hT3.below hBi
          have hBx := below_trans hBx hBi
          clear hi' hlt hin hou hri hpm hA4 hA5 hBi hT3
          go_wp2_with fail
          go_at_call 9
          refine (wakes_any _ hT4).mono ?_
          rintro e w5 ⟨rfl, hC⟩
          have hBx := below_trans hBx hC
          go_wp2_with fail
          go_ret
          exact ⟨rfl, hBx⟩
end Go.Proofs.YtapbfjbjbcpiiaaDoor
