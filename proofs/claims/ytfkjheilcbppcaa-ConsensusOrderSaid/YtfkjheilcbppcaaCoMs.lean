/- ConsensusMost, walked. (Seat s27; made by mk_coms.py.) -/
import Derived.Test.YtfkjheilcbppcaaCoS
import Derived.Deep.RegionLaw
import Derived.Deep.CutRange
import Derived.Test.YtfkjheilcbppcaaCsO
namespace Go.Proofs.Ytfkjheilcbppcaa
open Go.RowKit Go.Shelf
attribute [local go_sem] Oper.semAt_some run_store_func

theorem place_in (at_ : Int) (n : Nat) (h : 0 < n) (hn : n ≤ 9000000000000000) : ∃ p : Nat, p < n ∧ (wrap64 (at_.tmod (n : Int) + n)).tmod (n : Int) = p := by
  have h1 : at_.tmod (n : Int) < (n : Int) := Int.tmod_lt_of_pos _ (by omega)
  have h2 : -(n : Int) < at_.tmod (n : Int) := Int.lt_tmod_of_pos _ (by omega)
  generalize at_.tmod (n : Int) = t at *
  rw [IntWalk.wrap64_in (t + n) (by omega), Int.tmod_eq_emod_of_nonneg (by omega)]
  have h3 := Int.emod_nonneg (t + n) (b := (n : Int)) (by omega)
  have h4 := Int.emod_lt_of_pos (t + n) (b := (n : Int)) (by omega)
  exact ⟨((t + n) % (n : Int)).toNat, by omega, by omega⟩
theorem step_append_slR {α : Type} {enc : α → Value} {P : Program} (w : World) {ops : Array Oper} {o : Oper} {a : Act} {K : Act → World → Prop} {Q : Exit → Act → World → Prop} {E : Prop} (hgd : o.guard = none) (s x : Operand) (t : TypeId)
    (ho : o.op = .call { callee := .builtin .append, args := #[s, x], argTypes := #[t, t] })
    (base : Nat) (e : TypeId) (i : TypeInfo) (z : Value) (bytes : Nat) (ht : P.underlying t = some (.slice e)) (hi : P.info? e = some i) (hz : i.zero = some z)
    (hsize : i.size = 1) (hby : i.bytes = bytes) (hzs : z.cells.size = 1) (v : Value) (n : Nat) (ys : List Value) (hown : w.ownsRow base e 1 v n ys) (hv : a.eval s = v)
    (B : Nat) (sv : Value) (xs : List α) (hs : Sl enc B w sv xs) (hx : a.eval x = sv) (h1 : ∀ x, (enc x).oneCell' = true)
    (h63 : n + xs.length ≤ maxLen) (hbytes : (n + xs.length) * bytes ≤ 140737488355328) (hbase : base ≤ w.heap.size)
    (h : ∀ v' w', w'.ownsRow base e 1 v' (n + xs.length) (ys ++ xs.map enc) → w.grownBy w' v.ownBlock → (v'.ownBlock = v.ownBlock ∨ v'.ownBlock = some w.heap.size) → K (a.put o.dst v') w') :
    if Region.wanted o (yielded ops a.tmps) = true then Oper.wp P o a w K Q else E := by
  have hw : Region.wanted o (yielded ops a.tmps) = true := by simp [Region.wanted, hgd]
  rw [if_pos hw]
  obtain ⟨v', w', hrun, r1, r2, r3⟩ := run_append_sl (P := P) w base t o.type e i z bytes ht hi hz hsize hby hzs v n ys hown B sv xs hs h1 h63 hbytes hbase
  unfold Oper.wp execOp
  simp only [ho, resolve, invoke, builtin, Sem.run_bind, Sem.run_pure, Result.andThen_ok, List.map_toArray, List.map_cons, List.map_nil, hv, hx, hrun]
  exact h v' w' r1 r2 r3
set_option maxRecDepth 100000 in
set_option maxHeartbeats 1000000 in
theorem Most_great0 (v0 v2 : Value) (s : List UInt8) (m z : Int) (rows : List RowC) (w : World) (h0 : Sl eB w.heap.size w v0 s) (h2 : RowsIn w v2 rows) (e0 : grG rows = true) :
    Calls Try.prog 4 #[v0, .int .i64 m, v2, .int .i64 z] w fun e w' => e = .returned (.bool true) ∧ Below w.heap.size w w' := by
  have g0 := great_any v2 rows w h2
  have hw := wakes_any w
  obtain ⟨A, c, rfl⟩ := h0.len
  obtain ⟨A1, c1, rfl, -⟩ := h2.some
  clear h0 h2
  rw [e0] at g0
  clear e0
  go_enter Try.func4, Try.ntmps4
  go_wp2_with fail
  go_at_call 8
  refine g0.mono ?_
  rintro e w1 ⟨rfl, rfl⟩
  clear g0
  go_wp2_with fail
  go_at_call 9
  refine hw.mono ?_
  rintro e w2 ⟨rfl, hB⟩
  clear hw
  go_wp2_with fail
  go_ret
  exact ⟨rfl, hB⟩
set_option maxRecDepth 100000 in
set_option maxHeartbeats 1000000 in
theorem Most_great1 (v0 v2 : Value) (s : List UInt8) (m z : Int) (rows : List RowC) (w : World) (h0 : Sl eB w.heap.size w v0 s) (h2 : RowsIn w v2 rows) (e0 : grG rows = false) (k0 : 60 < s.length) :
    Calls Try.prog 4 #[v0, .int .i64 m, v2, .int .i64 z] w fun e w' => e = .returned (.bool true) ∧ Below w.heap.size w w' := by
  have g0 := great_any v2 rows w h2
  have hw := wakes_any w
  obtain ⟨A, c, rfl⟩ := h0.len
  obtain ⟨A1, c1, rfl, -⟩ := h2.some
  clear h0 h2
  rw [e0] at g0
  have d1 := decide_eq_true (show (60 : Int) < (s.length : Int) by omega)
  clear k0
  clear e0
  go_enter Try.func4, Try.ntmps4
  go_wp2_with fail
  go_at_call 8
  refine g0.mono ?_
  rintro e w1 ⟨rfl, rfl⟩
  clear g0
  go_wp2_with fail
  go_at_call 9
  refine hw.mono ?_
  rintro e w2 ⟨rfl, hB⟩
  clear hw
  go_wp2_with fail
  go_ret
  exact ⟨rfl, hB⟩
set_option maxRecDepth 100000 in
set_option maxHeartbeats 1000000 in
theorem Most_great2 (v0 v2 : Value) (s : List UInt8) (m z : Int) (rows : List RowC) (w : World) (h0 : Sl eB w.heap.size w v0 s) (h2 : RowsIn w v2 rows) (e0 : grG rows = false) (k0 : ¬ 60 < s.length) (k1 : 30 < m) :
    Calls Try.prog 4 #[v0, .int .i64 m, v2, .int .i64 z] w fun e w' => e = .returned (.bool true) ∧ Below w.heap.size w w' := by
  have g0 := great_any v2 rows w h2
  have hw := wakes_any w
  obtain ⟨A, c, rfl⟩ := h0.len
  obtain ⟨A1, c1, rfl, -⟩ := h2.some
  clear h0 h2
  rw [e0] at g0
  have d1 := decide_eq_false (show ¬ (60 : Int) < (s.length : Int) by omega)
  have d2 := decide_eq_true (show (30 : Int) < m by omega)
  clear k0 k1
  clear e0
  go_enter Try.func4, Try.ntmps4
  go_wp2_with fail
  go_at_call 8
  refine g0.mono ?_
  rintro e w1 ⟨rfl, rfl⟩
  clear g0
  go_wp2_with fail
  go_at_call 9
  refine hw.mono ?_
  rintro e w2 ⟨rfl, hB⟩
  clear hw
  go_wp2_with fail
  go_ret
  exact ⟨rfl, hB⟩
set_option maxRecDepth 100000 in
set_option maxHeartbeats 1000000 in
theorem Most_great3 (v0 v2 : Value) (s : List UInt8) (m z : Int) (rows : List RowC) (w : World) (h0 : Sl eB w.heap.size w v0 s) (h2 : RowsIn w v2 rows) (e0 : grG rows = false) (k0 : ¬ 60 < s.length) (k1 : ¬ 30 < m) (k2 : m ≤ (rows.length : Int)) :
    Calls Try.prog 4 #[v0, .int .i64 m, v2, .int .i64 z] w fun e w' => e = .returned (.bool true) ∧ Below w.heap.size w w' := by
  have g0 := great_any v2 rows w h2
  have hw := wakes_any w
  obtain ⟨A, c, rfl⟩ := h0.len
  obtain ⟨A1, c1, rfl, -⟩ := h2.some
  clear h0 h2
  rw [e0] at g0
  have d1 := decide_eq_false (show ¬ (60 : Int) < (s.length : Int) by omega)
  have d2 := decide_eq_false (show ¬ (30 : Int) < m by omega)
  have d3 := decide_eq_true (show m ≤ (rows.length : Int) by omega)
  clear k0 k1 k2
  clear e0
  go_enter Try.func4, Try.ntmps4
  go_wp2_with fail
  go_at_call 8
  refine g0.mono ?_
  rintro e w1 ⟨rfl, rfl⟩
  clear g0
  go_wp2_with fail
  go_at_call 9
  refine hw.mono ?_
  rintro e w2 ⟨rfl, hB⟩
  clear hw
  go_wp2_with fail
  go_ret
  exact ⟨rfl, hB⟩
/-- What rows turned about say. -/
theorem most_turned {L : List RowC} {R : RowC} {m p : Nat} {o : List RowC} (hL : L = List.replicate m R ++ o) (hm : o.length < m) : ofG (bsL (L.drop p ++ L.take p)) = R.bs ∧ (lenG (bsL (L.drop p ++ L.take p))).1 = R.bs.length ∧ 0 < (lenG (bsL (L.drop p ++ L.take p))).2 ∧ L.drop p ++ L.take p ≠ [] := by
  have hp : (L.drop p ++ L.take p).Perm (List.replicate m R ++ o) := hL ▸ turned_perm L p
  have hq : (bsL (L.drop p ++ L.take p)).Perm (List.replicate m R.bs ++ bsL o) := by
    have := hp.map (·.bs)
    simpa [bsL] using this
  have hm' : (bsL o).length < m := by simpa [bsL] using hm
  have h1 := most_len hq hm'
  have hne : L.drop p ++ L.take p ≠ [] := by
    intro e
    have := hp.length_eq
    rw [e, List.length_append, List.length_replicate, List.length_nil] at this
    omega
  refine ⟨most_of hq hm', by rw [h1], (lenG_is _ fun e => hne ((bsL_nil _).1 e)).1, hne⟩
set_option maxRecDepth 100000 in
set_option maxHeartbeats 4000000 in
theorem Most_main (v0 v2 : Value) (s : List UInt8) (m : Nat) (z : Int) (rows : List RowC) (w : World) (h0 : Sl eB w.heap.size w v0 s) (h2 : RowsIn w v2 rows) (e0 : grG rows = false) (hs6 : ¬ 60 < s.length) (hm3 : m ≤ 30) (hmo : rows.length < m) :
    Calls Try.prog 4 #[v0, .int .i64 m, v2, .int .i64 z] w fun e w' => e = .returned (.bool true) ∧ Below w.heap.size w w' := by
  have g0 := great_any v2 rows w h2
  rw [e0] at g0
  obtain ⟨-, hl0⟩ := grG_no e0
  have hw := wakes_any
  obtain ⟨i0, hi, hz0, hz1, hz2⟩ := info_parts info_row
  obtain ⟨A, c, rfl⟩ := h0.len
  obtain ⟨A1, c1, rfl, -⟩ := h2.some
  obtain ⟨p, hp, hpe⟩ := place_in z (m + rows.length) (by omega) (by omega)
  generalize hR : (⟨A, c, s⟩ : RowC) = R at *
  have hRs : R.bs = s := by rw [← hR]
  have hRe : eC R = .slice A s.length c := by rw [← hR]; rfl
  generalize hL : List.replicate m R ++ rows = L at *
  have hlen : L.length = m + rows.length := by rw [← hL]; simp
  obtain ⟨t1, t2, t3, t4⟩ := most_turned (p := p) hL.symm hmo
  have hall : ∀ q ∈ L, q.bs.length ≤ 60 := fun q hq => by
    rw [← hL] at hq
    rcases List.mem_append.1 hq with h | h
    · rw [List.eq_of_mem_replicate h, hRs]; omega
    · exact hl0 q h
  have hin : ∀ q ∈ L.drop p ++ L.take p, q ∈ L := fun q hq => by
    rcases List.mem_append.1 hq with h | h
    · exact List.mem_of_mem_drop h
    · exact List.mem_of_mem_take h
  have hTl : (L.drop p ++ L.take p).length = m + rows.length := by rw [List.length_append, List.length_drop, List.length_take]; omega
  have q1 := fun v w' h => Of_uni v (L.drop p ++ L.take p) (by omega) (fun q hq => by have := hall q (hin q hq); omega) w' h
  have q2 := fun v w' h => CoLength_any v (L.drop p ++ L.take p) (by omega) (fun q hq => by have := hall q (hin q hq); omega) w' h
  rw [t1, decide_eq_true t4, hRs] at q1
  rw [t2, decide_eq_true t3, hRs] at q2
  have Q1 := Lib.hid q1
  have Q2 := Lib.hid q2
  have HS := Lib.hid (show ∀ q ∈ L, Sl eB w.heap.size w (eC q) q.bs from fun q hq => by
    rw [← hL] at hq
    rcases List.mem_append.1 hq with h | h
    · rw [List.eq_of_mem_replicate h, hRe, hRs]; exact h0
    · exact h2.2 q h)
  have H2 := Lib.hid h2.1
  have H0 := Lib.hid h0
  have HIN := Lib.hid hin
  have d1 := decide_eq_false (show ¬ (60 : Int) < (s.length : Int) by omega)
  have d2 := decide_eq_false (show ¬ (30 : Int) < (m : Int) by omega)
  have d3 := decide_eq_false (show ¬ m ≤ rows.length by omega)
  have Hp := Lib.hid hp
  have Hpe := Lib.hid hpe
  have HLN := Lib.hid hlen
  have HTl := Lib.hid hTl
  have HL := Lib.hid hL
  have HRe := Lib.hid hRe
  have HN := Lib.hid (And.intro hm3 hmo)
  have HMS := Lib.hid hs6
  clear t1 t2 t3 t4 q1 q2 e0 hl0 h0 h2 hp hpe hall hin hlen hTl hL hR hRs hRe hm3 hmo hs6
  go_enter Try.func4, Try.ntmps4
  go_wp2_with fail
  go_at_call 8
  refine g0.mono ?_
  rintro e w1 ⟨rfl, rfl⟩
  clear g0
  go_wp2_with fail
  clear d1 d2 d3
  go_loopw [9, 10] (fun t i wr => ∃ k : Nat, k ≤ m ∧ i = .int .i64 k ∧ wr.ownsRow w.heap.size 23 1 t k ((List.replicate k R).map eC) ∧ Below w.heap.size w wr) (fun _ i _ => m - (RowKit.intOf i).toNat)
  case atStart => exact ⟨0, Nat.zero_le _, rfl, World.ownsRow_nil _ _ _ _, Below.refl _ _⟩
  case round =>
    obtain ⟨k, hk, rfl, hrow, hB⟩ := hrel
    by_cases hlt : k < m
    · have hkl : (k : Int) < m := by omega
      have Hk := Lib.hid hlt
      have hk9 : k ≤ 30 := by have := HN.out; omega
      clear hlt
      go_wp2_with (at_builtin; refine wpList_append_own _ rfl _ _ 22 rfl w.heap.size 23 i0 _ 1 24 Try.underlying22 hi hz0 hz1 hz2 (by decide) (by decide) _ _ _ rfl (hrow.alloc _) ⟨wr.heap.size, 0, none⟩ 1 1 [.slice A s.length c] rfl rfl (cell_oneR _ _ _) (by simp [Value.oneCell']) (by unfold maxLen; omega) (by omega) (by have := hB.size; simp; omega) ?_; intro v' w1 hown' hgrow _)
      have hB' : Below w.heap.size w w1 := (hB.alloc hB.size _).trans (below_grownR (hrow.alloc _) hgrow (by have := hB.size; simp; omega) (Nat.le_refl _))
      go_roundw
      case rel => exact ⟨k + 1, Hk.out, by go_num, by rw [List.replicate_succ', List.map_append, List.map_singleton, HRe.out]; exact hown', hB'⟩
      case measure => have := Hk.out; simp [RowKit.intOf]; omega
    · obtain rfl : k = m := by omega
      have h2s := H2.out.below hB
      have hsz := hB.size
      clear hlt hk
      go_wp2_with (first
        | (at_builtin
           refine wpList_append_slg _ rfl (.tmp 42) (.tmp 43) _ rfl w.heap.size 23 i0 _ 24 Try.underlying22 hi hz0 hz1 hz2 rfl _ _ _ hrow rfl w.heap.size _ rows h2s rfl eC_one (by have := HN.out; unfold maxLen; omega) (by have := HN.out; omega) hsz ?_
           intro v1' w1 hown1 hg1 hat1
           have hB1 : Below w.heap.size w w1 := hB.trans (below_grownR hrow hg1 hsz (Nat.le_refl _))
           have hsl : Sl eC w1.heap.size w1 v1' L := by rw [← HL.out]; exact Sl.of_own (n := k + rows.length) (by rw [List.map_append]; exact hown1)
           obtain ⟨As, cs, rfl, hcs, hcell⟩ := id hsl
           obtain ⟨bk, off, rfl, hbk, -⟩ := hcell (by have := HLN.out; have := HN.out; omega)
           rw [HLN.out] at hcs hsl ⊢
           have Hpe := Hpe
           clear hrow hown1 hg1 hat1 h2s hsz hB hcell
           generalize hn : k + rows.length = n at *
           have hnz : ¬ (n : Int) = 0 := by have := HN.out; omega))
      have HcsI := Lib.hid hcs
      have Hsl := Lib.hid hsl
      have hpe2 := Hpe.out
      rw [Hpe.out]
      go_cut [9] from 55 to 63 (fun t wx => wx.ownsRow w1.heap.size 23 1 t (L.drop p ++ L.take p).length ((L.drop p ++ L.take p).map eC) ∧ Below w1.heap.size w1 wx)
      case first =>
        have hrow := row_madeR w1
        have hpn := Hp.out
        have hn9 : n ≤ 60 := by have := HN.out; omega
        have hcp : ¬ cs = p := by omega
        have hcp2 : ¬ p = cs := by omega
        have l0 : (0 : Int) ≤ (p : Int) := by omega
        have l1 : (p : Int) ≤ n := by omega
        have l4 : (p : Int) ≤ cs := by omega
        have hB1' : Below w1.heap.size w1 (w1.alloc (.cells #[] 23)).drew := ((Below.refl _ _).alloc (Nat.le_refl _) _).drew
        have s1 := hsl.from_ (p := p) (by have := HLN.out; omega) (some ⟨bk, off + p, none⟩) (fun _ => by simp [Addr.add])
        have s2 := hsl.upto (p := p) (by have := HLN.out; omega)
        have hrow' : (w1.alloc (.cells #[] 23)).drew.ownsRow w1.heap.size 23 1 (.slice (some ⟨w1.heap.size, 0, none⟩) 0 0) 0 [] := hrow
        have x1 : (L.drop p).length ≤ 60 := by rw [List.length_drop]; have := HLN.out; omega
        have x2 : (L.take p).length ≤ 60 := by rw [List.length_take]; have := HLN.out; omega
        have q1 : 0 + (L.drop p).length ≤ maxLen := by unfold maxLen; omega
        have q2 : (0 + (L.drop p).length) * 24 ≤ 140737488355328 := by omega
        have q3 : 0 + (L.drop p).length + (L.take p).length ≤ maxLen := by unfold maxLen; omega
        have q4 : (0 + (L.drop p).length + (L.take p).length) * 24 ≤ 140737488355328 := by omega
        have q5 : w1.heap.size ≤ (w1.alloc (.cells #[] 23)).drew.heap.size := hB1'.size
        clear hcs hsl hpe2 hrow
        go_region_law (first
          | (refine step_append_slR _ rfl (.tmp 55) (.tmp 58) _ rfl w1.heap.size 23 i0 _ 24 Try.underlying22 hi hz0 hz1 hz2 rfl _ 0 [] hrow' rfl w1.heap.size _ (L.drop p) (s1.below hB1') rfl eC_one q1 q2 q5 ?_
             intro v1 w3 hown1 hg1 hat1
             have hB2 : Below w1.heap.size w1 w3 := hB1'.trans (below_grownR hrow' hg1 q5 (Nat.le_refl _)))
          | (refine step_append_slR _ rfl (.tmp 59) (.tmp 62) _ rfl w1.heap.size 23 i0 _ 24 Try.underlying22 hi hz0 hz1 hz2 rfl _ _ _ hown1 rfl w1.heap.size _ (L.take p) (s2.below hB2) rfl eC_one q3 q4 hB2.size ?_
             intro v2 w4 hown2 hg2 hat2))
        all_goals
          go_wp2_with fail
          go_meet
          exact ⟨by simpa using hown2, hB2.trans (below_grownR hown1 hg2 hB2.size (Nat.le_refl _))⟩
      case rest =>
        obtain ⟨hrow, hBc⟩ := hcut
        have hB := hB1.trans (hBc.mono hB1.size)
        rw [HTl.out] at hrow
        have htw : RowsIn wc u9 (L.drop p ++ L.take p) := rows_of (B := w1.heap.size) (by rw [HTl.out]; exact hrow) (fun q hq => HS.out q (HIN.out q hq)) hB
        have h0 := H0.out.next hB
        have HW := Lib.hid hw
        clear hrow hBc hB1 hbk hcs hsl hpe2 hw hn hnz
        generalize L.drop p ++ L.take p = T at *
        go_wp2_with fail
        go_at_call 14
        refine (Q1.out _ _ htw).mono ?_
        rintro e w5 ⟨hC, vx, rfl, hx⟩
        have htw := htw.next hC
        have h0 := h0.next hC
        have hB := below_trans hB hC
        clear hC
        go_wp2_with fail
        go_at_call 10
        refine (Q2.out _ _ htw).mono ?_
        rintro e w6 ⟨rfl, hC⟩
        have hx := hx.next hC
        have h0 := h0.next hC
        have hB := below_trans hB hC
        have hs := same_is vx _ s s true (by simp) w6.heap.size w6 hx h0
        have hwk := HW.out w6
        clear hC htw hx h0
        go_wp2_with fail
        go_at_call 16
        refine hs.mono ?_
        rintro e w7 ⟨rfl, rfl⟩
        clear hs
        go_wp2_with fail
        go_at_call 9
        refine hwk.mono ?_
        rintro e w7 ⟨rfl, hC⟩
        have hB := below_trans hB hC
        clear hwk hC
        go_wp2_with fail
        go_ret
        exact ⟨rfl, hB⟩
theorem ConsensusMost_any (v0 : Value) (s : List UInt8) (m : Int) (v2 : Value) (rows : List RowC) (z : Int) (w : World) (h0 : Sl eB w.heap.size w v0 s) (h2 : RowsIn w v2 rows) :
    Calls Try.prog 4 #[v0, .int .i64 m, v2, .int .i64 z] w fun e w' => e = .returned (.bool true) ∧ Below w.heap.size w w' := by
  cases e0 : grG rows with
  | true => exact Most_great0 v0 v2 s m z rows w h0 h2 e0
  | false =>
    by_cases k0 : 60 < s.length
    · exact Most_great1 v0 v2 s m z rows w h0 h2 e0 k0
    · by_cases k1 : 30 < m
      · exact Most_great2 v0 v2 s m z rows w h0 h2 e0 k0 k1
      · by_cases k2 : m ≤ (rows.length : Int)
        · exact Most_great3 v0 v2 s m z rows w h0 h2 e0 k0 k1 k2
        · obtain ⟨n, rfl⟩ : ∃ n : Nat, m = n := ⟨m.toNat, by omega⟩
          exact Most_main v0 v2 s n z rows w h0 h2 e0 k0 (by omega) (by omega)
end Go.Proofs.Ytfkjheilcbppcaa
