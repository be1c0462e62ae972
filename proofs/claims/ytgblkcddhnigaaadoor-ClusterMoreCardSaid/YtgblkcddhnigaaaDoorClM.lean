/- ClusterMore, walked. (Seat s26; made by mk_clm.py.) -/
import Derived.Test.YtgblkcddhnigaaaDoorClY
import Derived.Test.YtgblkcddhnigaaaDoorRdE
import Derived.Test.YtgblkcddhnigaaaDoorAG
namespace Go.Proofs.YtgblkcddhnigaaaDoor
open Go.RowKit Go.Shelf
attribute [local go_sem] Oper.semAt_some run_store_func

theorem row_madeR (w : World) : (w.alloc (.cells #[] 34)).ownsRow w.heap.size 34 1 (.slice (some ⟨w.heap.size, 0, none⟩) 0 0) 0 [] :=
  ⟨rfl, .inr ⟨w.heap.size, 0, #[], rfl, Nat.le_refl _, World.alloc_heap_new _ _, Nat.le_refl _, by unfold maxLen; omega, rfl, rfl⟩⟩
theorem below_al (w : World) (o : Obj) : Below w.heap.size w (w.alloc o) := (Below.refl w.heap.size w).alloc (Nat.le_refl _) o
theorem below_grownR {B : Nat} {W W1 : World} {v : Value} {base : Nat} {e : TypeId} {n : Nat} {xs : List Value} (hown : W.ownsRow base e 1 v n xs) (hg : W.grownBy W1 v.ownBlock) (hB : B ≤ W.heap.size) (hb : B ≤ base) : Below B W W1 :=
  (Below.refl B W).grown hg hB fun k hk => Nat.le_trans hb (hown.lt k hk).1
/-- The clusters' rows, where blocks of another mark alone have turned. -/
theorem CcB.others {B : Nat} {W W' : World} {t : Value} {cl : List ClC} (h : CcB B W t cl) (hk : ∀ (k : Nat) (cs : Array Value) (e : TypeId), W.heap[k]? = some (.cells cs e (0, 0)) → e ≠ 22 → W'.heap[k]? = some (.cells cs e (0, 0))) : ∀ c ∈ cl, RowsIn W' (eCC c) c.rows := fun c hc =>
  ⟨Sl.of_own (own_keepT (h.each c hc).2 fun k cs _ ho _ => hk k cs _ ho (by decide)), fun p hp => Sl.of_own (own_keepT (h.rows c hc p hp) fun k cs _ ho _ => hk k cs _ ho (by decide))⟩
/-- A cluster more, of one row that was there. -/
theorem CcB.push3 {B : Nat} {W0 W3 : World} {t t' : Value} {cl : List ClC} (h : CcB B W0 t cl) (X : RowC) (o : Obj) (hX : Sl eB W3.heap.size W3 (eC X) X.bs)
    (hown : W3.ownsRow B 22 1 t' (cl.length + 1) (cl.map eCC ++ [.slice (some ⟨W0.heap.size, 0, none⟩) 1 1])) (hg : ((W0.alloc (.cells #[eC X] 34)).alloc o).grownBy W3 t.ownBlock) :
    R3In W3 t' (cl ++ [⟨some ⟨W0.heap.size, 0, none⟩, 1, [X]⟩]) := by
  have hal : Below W0.heap.size W0 ((W0.alloc (.cells #[eC X] 34)).alloc o) := ((Below.refl _ _).alloc (Nat.le_refl _) _).alloc (by simp) _
  have hk : ∀ (k : Nat) (cs : Array Value) (e : TypeId), ((W0.alloc (.cells #[eC X] 34)).alloc o).heap[k]? = some (.cells cs e (0, 0)) → e ≠ 22 → W3.heap[k]? = some (.cells cs e (0, 0)) := fun k cs e ho hd => (hg.block k (Array.getElem?_eq_some_iff.1 ho).1 fun e2 => by
    obtain ⟨-, cs2, h2⟩ := own_tag h.out e2.symm
    have h3 := (hal.block k (Array.getElem?_eq_some_iff.1 h2).1).trans h2
    rw [ho] at h3
    cases h3
    exact hd rfl).trans ho
  have hk0 : ∀ (k : Nat) (cs : Array Value) (e : TypeId), W0.heap[k]? = some (.cells cs e (0, 0)) → e ≠ 22 → W3.heap[k]? = some (.cells cs e (0, 0)) := fun k cs e ho hd => hk k cs e ((hal.block k (Array.getElem?_eq_some_iff.1 ho).1).trans ho) hd
  have hnew : Rowed W3 W0.heap.size 34 #[eC X] := hk _ _ _ ((Below.heap_alloc _ o W0.heap.size (by simp)).trans (World.alloc_heap_new W0 _)) (by decide)
  refine ⟨Sl.of_own (n := cl.length + 1) (by simpa [eCC] using hown), fun c hc => ?_⟩
  rcases List.mem_append.1 hc with hc | hc
  · exact h.others hk0 c hc
  · rw [List.mem_singleton.1 hc]
    refine ⟨⟨some ⟨W0.heap.size, 0, none⟩, 1, rfl, Nat.le_refl _, fun _ => ⟨W0.heap.size, 0, rfl, hnew.lt, fun j x hx => ?_⟩⟩, fun p hp => ?_⟩
    · rw [Nat.zero_add, hnew.cell]
      rcases j with _ | j
      · simp at hx; subst hx; rfl
      · simp at hx
    · rw [List.mem_singleton.1 hp]; exact hX
theorem cl_small {cl' : List ClC} {G : List (List (List UInt8))} {x : List UInt8} (h : bs3 cl' = addG G x) (h1 : G.length ≤ 40) (h2 : sizeG G ≤ 40) : cl'.length ≤ 1000 ∧ ∀ c ∈ cl', c.rows.length ≤ 1000 := by
  refine ⟨?_, fun c hc => ?_⟩
  · have h3 := addG_len G x
    rw [← h, bs3_len] at h3
    omega
  · have h3 := sizeG_ge (bs3 cl') (c := bsL c.rows) (List.mem_map.2 ⟨_, hc, rfl⟩)
    rw [h, sizeG_add] at h3
    simp only [bsL, List.length_map] at h3
    omega
/-- A cluster's place in the outer row, and what it is set to. -/
theorem CcB.set3 {B : Nat} {W3 : World} {t : Value} {cl : List ClC} (h : CcB B W3 t cl) (i : Nat) (hi : i < cl.length) (X : RowC) (hX : Sl eB B W3 (eC X) X.bs) (A' : Option Addr) (c' : Nat) {base : Nat}
    (hown : W3.ownsRow base 34 1 (.slice A' (cl[i].rows.length + 1) c') (cl[i].rows.length + 1) ((cl[i].rows ++ [X]).map eC)) :
    ∃ g cap, t = .slice (some ⟨g, 0, none⟩) cl.length cap ∧ B ≤ g ∧ g < W3.heap.size ∧ cl.length ≤ cap ∧ W3.cell? ⟨g, i, none⟩ = some (eCC cl[i]) ∧ W3.frozen? ⟨g, i, none⟩ = false ∧
      R3In (W3.setCell ⟨g, i, none⟩ (.slice A' (cl[i].rows.length + 1) c')) t (cl.set i ⟨A', c', cl[i].rows ++ [X]⟩) := by
  have hout' : W3.ownsRow B 22 1 t (cl.map eCC).length (cl.map eCC) := by rw [List.length_map]; exact h.out
  obtain ⟨g, cap, e1, hB, hlt, hcap, ⟨cs0, htag⟩, hcell, hfr, hput⟩ := own_setV hout' i (by rw [List.length_map]; exact hi)
  rw [List.length_map] at e1 hcap hput
  rw [List.getElem_map] at hcell
  refine ⟨g, cap, e1, hB, hlt, hcap, hcell, hfr, ?_⟩
  have hst : ∀ (k : Nat) (cs : Array Value) (e : TypeId) (u : Value), W3.heap[k]? = some (.cells cs e (0, 0)) → e ≠ 22 → (W3.setCell ⟨g, i, none⟩ u).heap[k]? = some (.cells cs e (0, 0)) := fun k cs e u ho hd => (Below.heap_setCell W3 ⟨g, i, none⟩ u k (show k ≠ g by
    rintro rfl
    rw [htag] at ho
    cases ho
    exact hd rfl)).trans ho
  have hset : (cl.set i ⟨A', c', cl[i].rows ++ [X]⟩).map eCC = (cl.map eCC).set i (.slice A' (cl[i].rows.length + 1) c') := by
    rw [List.map_set]
    simp [eCC]
  have hoth := h.others fun k cs e ho hd => hst k cs e (.slice A' (cl[i].rows.length + 1) c') ho hd
  have hrow : ∀ p : RowC, W3.ownsRow B 5 1 (eC p) p.bs.length (p.bs.map eB) → Sl eB (W3.setCell ⟨g, i, none⟩ (.slice A' (cl[i].rows.length + 1) c')).heap.size (W3.setCell ⟨g, i, none⟩ (.slice A' (cl[i].rows.length + 1) c')) (eC p) p.bs := fun p hp => Sl.of_own (own_keepT hp fun k cs _ ho _ => hst k cs _ _ ho (by decide))
  refine ⟨Sl.of_own (n := cl.length) (by rw [hset]; exact hput W3 _ rfl), fun c hc => ?_⟩
  obtain ⟨j, hj, e⟩ := List.getElem_of_mem hc
  rw [List.length_set] at hj
  rw [List.getElem_set] at e
  by_cases hji : i = j
  · rw [if_pos hji] at e
    subst e
    refine ⟨?_, fun p hp => ?_⟩
    · have h2 : W3.ownsRow base 34 1 (eCC ⟨A', c', cl[i].rows ++ [X]⟩) (cl[i].rows ++ [X]).length ((cl[i].rows ++ [X]).map eC) := by
        have e3 : (cl[i].rows ++ [X]).length = cl[i].rows.length + 1 := by simp
        unfold eCC
        rw [e3]
        exact hown
      exact Sl.of_own (own_keepT h2 fun k cs _ ho _ => hst k cs _ _ ho (by decide))
    · rcases List.mem_append.1 hp with hp | hp
      · exact hrow p (h.rows _ (List.getElem_mem hi) p hp)
      · rw [List.mem_singleton.1 hp]
        refine Sl.more (hX.of_cells fun q hq => ?_) (by simp; omega)
        simp only [World.cell?, Below.heap_setCell W3 ⟨g, i, none⟩ _ q.block (show q.block ≠ g by omega)]
  · rw [if_neg hji] at e
    subst e
    exact hoth _ (List.getElem_mem hj)
set_option maxRecDepth 100000 in
set_option maxHeartbeats 1000000 in
theorem More_great0 (v0 v1 : Value) (rows : List RowC) (x : List UInt8) (w : World) (h0 : RowsIn w v0 rows) (h1 : Sl eB w.heap.size w v1 x) (hT : Tab w) (e0 : gr6 rows = true) :
    Calls Tryd.prog 7 #[v0, v1] w fun e w' => e = .returned (.bool true) ∧ Below w.heap.size w w' := by
  have g0 := great_any v0 rows w h0
  have hw := wakes_any w hT
  obtain ⟨A, c, rfl, -⟩ := h0.some
  obtain ⟨A1, c1, rfl⟩ := h1.len
  clear h0 h1
  rw [e0] at g0
  clear e0
  go_enter Tryd.func7, Tryd.ntmps7
  go_wp2_with fail
  go_at_call 8
  refine g0.mono ?_
  rintro e w1 ⟨rfl, rfl⟩
  clear g0
  go_wp2_with fail
  go_at_call 9
  refine hw.mono ?_
  rintro e w2 ⟨rfl, hB⟩
  clear hw
  go_wp2_with fail
  go_ret
  exact ⟨rfl, hB⟩
set_option maxRecDepth 100000 in
set_option maxHeartbeats 1000000 in
theorem More_great1 (v0 v1 : Value) (rows : List RowC) (x : List UInt8) (w : World) (h0 : RowsIn w v0 rows) (h1 : Sl eB w.heap.size w v1 x) (hT : Tab w) (e0 : gr6 rows = false) (k0 : 39 < rows.length) :
    Calls Tryd.prog 7 #[v0, v1] w fun e w' => e = .returned (.bool true) ∧ Below w.heap.size w w' := by
  have g0 := great_any v0 rows w h0
  have hw := wakes_any w hT
  obtain ⟨A, c, rfl, -⟩ := h0.some
  obtain ⟨A1, c1, rfl⟩ := h1.len
  clear h0 h1
  rw [e0] at g0
  have d1 := decide_eq_true (show (39 : Int) < (rows.length : Int) by omega)
  clear k0
  clear e0
  go_enter Tryd.func7, Tryd.ntmps7
  go_wp2_with fail
  go_at_call 8
  refine g0.mono ?_
  rintro e w1 ⟨rfl, rfl⟩
  clear g0
  go_wp2_with fail
  go_at_call 9
  refine hw.mono ?_
  rintro e w2 ⟨rfl, hB⟩
  clear hw
  go_wp2_with fail
  go_ret
  exact ⟨rfl, hB⟩
set_option maxRecDepth 100000 in
set_option maxHeartbeats 1000000 in
theorem More_great2 (v0 v1 : Value) (rows : List RowC) (x : List UInt8) (w : World) (h0 : RowsIn w v0 rows) (h1 : Sl eB w.heap.size w v1 x) (hT : Tab w) (e0 : gr6 rows = false) (k0 : ¬ 39 < rows.length) (k1 : 200 < x.length) :
    Calls Tryd.prog 7 #[v0, v1] w fun e w' => e = .returned (.bool true) ∧ Below w.heap.size w w' := by
  have g0 := great_any v0 rows w h0
  have hw := wakes_any w hT
  obtain ⟨A, c, rfl, -⟩ := h0.some
  obtain ⟨A1, c1, rfl⟩ := h1.len
  clear h0 h1
  rw [e0] at g0
  have d1 := decide_eq_false (show ¬ (39 : Int) < (rows.length : Int) by omega)
  have d2 := decide_eq_true (show (200 : Int) < (x.length : Int) by omega)
  clear k0 k1
  clear e0
  go_enter Tryd.func7, Tryd.ntmps7
  go_wp2_with fail
  go_at_call 8
  refine g0.mono ?_
  rintro e w1 ⟨rfl, rfl⟩
  clear g0
  go_wp2_with fail
  go_at_call 9
  refine hw.mono ?_
  rintro e w2 ⟨rfl, hB⟩
  clear hw
  go_wp2_with fail
  go_ret
  exact ⟨rfl, hB⟩
set_option maxRecDepth 100000 in
set_option maxHeartbeats 4000000 in
theorem More_main (v0 v1 : Value) (rows : List RowC) (x : List UInt8) (w : World) (h0 : RowsIn w v0 rows) (h1 : Sl eB w.heap.size w v1 x) (hT : Tab w) (e0 : gr6 rows = false) (h39 : rows.length ≤ 39) (hx2 : x.length ≤ 200) :
    Calls Tryd.prog 7 #[v0, v1] w fun e w' => e = .returned (.bool true) ∧ Below w.heap.size w w' := by
  have g0 := great_any v0 rows w h0
  rw [e0] at g0
  obtain ⟨-, hl0⟩ := gr6_no e0
  have hw := wakes_any
  obtain ⟨i0, hi, hz0, hz1, hz2⟩ := info_parts info_row
  obtain ⟨i1, hi', hz0', hz1', hz2'⟩ := info_parts info_rows
  have q1 := CGroup_any v0 rows (by omega) (fun p hp => by have := hl0 p hp; omega) w h0
  obtain ⟨A, c, rfl, -⟩ := h0.some
  obtain ⟨A1, c1, rfl⟩ := h1.len
  have q2 := fun v w' h => CGroup_any v (rows ++ [⟨A1, c1, x⟩]) (by rw [List.length_append]; simp; omega) (fun p hp => by rcases List.mem_append.1 hp with hp | hp; (have := hl0 p hp; omega); (rw [List.mem_singleton.1 hp]; show x.length ≤ _; omega)) w' h
  have hbx : bsL (rows ++ [(⟨A1, c1, x⟩ : RowC)]) = bsL rows ++ [x] := by simp [bsL]
  rw [hbx, groupG_snoc] at q2
  have d1 := decide_eq_false (show ¬ (39 : Int) < (rows.length : Int) by omega)
  have d2 := decide_eq_false (show ¬ (200 : Int) < (x.length : Int) by omega)
  have HGL := Lib.hid (show (groupG (bsL rows)).length ≤ 40 ∧ sizeG (groupG (bsL rows)) ≤ 40 from by
    have h1 := group_len (bsL rows)
    have h2 := sizeG_group (bsL rows)
    simp only [bsL, List.length_map] at h1 h2 ⊢
    omega)
  have H0 := Lib.hid h0
  have H1 := Lib.hid h1
  have HT := Lib.hid hT
  have HN := Lib.hid (And.intro h39 hx2)
  have Q2 := Lib.hid q2
  have HW := Lib.hid hw
  generalize groupG (bsL rows) = G at *
  clear hbx q2 hl0 e0 h39 hx2 h0 h1 hT hw
  go_enter Tryd.func7, Tryd.ntmps7
  go_wp2_with fail
  go_at_call 8
  refine g0.mono ?_
  rintro e w1 ⟨rfl, rfl⟩
  clear g0
  go_wp2_with fail
  clear d1 d2
  go_at_call 17
  refine q1.mono ?_
  rintro e w1 ⟨u1, cl, rfl, hC, hbs, hB⟩
  have Hbs := Lib.hid hbs
  have h0s := (H0.out.next hB).1
  obtain ⟨At, ct, rfl⟩ := (Sl.of_own hC.out).len
  have hrow := row_madeR w1
  have hA1 := below_al w1 (.cells #[] 34)
  clear q1 hbs
  go_wp2_with (first
    | (at_builtin
       refine wpList_append_slg _ rfl (.tmp 24) (.tmp 25) _ rfl w1.heap.size 34 i0 _ 24 Tryd.underlying22 hi hz0 hz1 hz2 rfl _ 0 [] hrow rfl w1.heap.size _ rows (h0s.below hA1) rfl eC_one (by have := HN.out; unfold maxLen; omega) (by have := HN.out; omega) (by simp) ?_
       intro v1' w2 hown1 hg1 hat1
       have hA2 : Below w1.heap.size w1 w2 := hA1.trans (below_grownR hrow hg1 (by simp) (Nat.le_refl _))
       have hA3 : Below w1.heap.size w1 (w2.alloc (.cells #[.slice A1 x.length c1] 34)) := hA2.alloc hA2.size _
       have hownA := hown1.alloc (.cells #[.slice A1 x.length c1] 34))
    | (at_builtin
       refine wpList_append_slg _ rfl (.tmp 26) (.tmp 28) _ rfl w1.heap.size 34 i0 _ 24 Tryd.underlying22 hi hz0 hz1 hz2 rfl _ _ _ hownA rfl _ _ [⟨A1, c1, x⟩] (Sl.new eC w2 [⟨A1, c1, x⟩] #[.slice A1 x.length c1] 34 (0, 0) 1 1 rfl (Nat.le_refl _) rfl) rfl eC_one (by have := HN.out; unfold maxLen; simp; omega) (by have := HN.out; simp; omega) hA3.size ?_
       intro v2' w3 hown2 hg2 hat2))
  have hB3 : Below w1.heap.size w1 w3 := hA3.trans (below_grownR hownA hg2 hA3.size (Nat.le_refl _))
  have hBw := below_trans hB hB3
  have hR3 : RowsIn w3 v2' (rows ++ [⟨A1, c1, x⟩]) := ⟨Sl.of_own (n := 0 + rows.length + 1) (by rw [List.map_append]; simpa using hown2), fun p hp => by
    rcases List.mem_append.1 hp with hp | hp
    · exact (H0.out.2 p hp).next hBw
    · rw [List.mem_singleton.1 hp]; exact H1.out.next hBw⟩
  have hC := hC.bel hB3
  have hgt3 : ∀ q, (Value.slice At cl.length ct).ownBlock = some q → q < w3.heap.size := fun q hq => (hC.out.lt q hq).2
  clear hA1 hA2 hA3 hown1 hg1 hat1 hown2 hg2 hat2 hownA hrow h0s hB3 hB
  go_at_call 17
  refine (Q2.out _ _ hR3).mono ?_
  rintro e w4 ⟨ub, clb, rfl, hCb, hbb, hB4⟩
  have hC := hC.bel hB4
  have hB := below_trans hBw hB4
  obtain ⟨Ab, cb, rfl⟩ := (Sl.of_own hCb.out).len
  have Hbb := Lib.hid hbb
  have HCB := Lib.hid hCb
  have HGT := Lib.hid (show ∀ q, (Value.slice At cl.length ct).ownBlock = some q → q < w3.heap.size from hgt3)
  have HC := Lib.hid hC
  have HL := Lib.hid (show cl.length ≤ 40 ∧ ∀ c ∈ cl, c.rows.length ≤ 40 from by
    have h1 := HGL.out
    rw [← Hbs.out, bs3_len] at h1
    refine ⟨h1.1, fun c hc => ?_⟩
    have h2 := sizeG_ge (bs3 cl) (c := bsL c.rows) (List.mem_map.2 ⟨_, hc, rfl⟩)
    simp only [bsL, List.length_map] at h2
    omega)
  have H1x := Lib.hid (H1.out.next hB)
  clear hbb hCb hB4 hR3 hBw Q2 hgt3
  have hC2 := hC
  clear hC
  go_wp2_with fail
  go_loopw [7, 8] (fun t i wr => ∃ k : Nat, k ≤ cl.length ∧ i = .int .i64 k ∧ ((t = .int .i64 (-1) ∧ ∀ q (hq : q < cl.length), q < k → likeC x (bsL cl[q].rows) = false) ∨ (∃ (j : Nat) (hj : j < cl.length), t = .int .i64 j ∧ likeC x (bsL cl[j].rows) = true ∧ ∀ q (hq : q < cl.length), q < j → likeC x (bsL cl[q].rows) = false)) ∧ Below w4.heap.size w4 wr) (fun _ i _ => cl.length - (RowKit.intOf i).toNat)
  case atStart => exact ⟨0, Nat.zero_le _, rfl, .inl ⟨rfl, fun q _ h => absurd h (by omega)⟩, Below.refl _ _⟩
  case round =>
    obtain ⟨k, hk, rfl, hst, hBx⟩ := hrel
    have hC := HC.out.bel hBx
    have hBwx := below_trans hB hBx
    clear hC2
    rcases hst with ⟨rfl, hno⟩ | ⟨j, hj, rfl, hy, hno⟩
    · by_cases hlt : k < cl.length
      · obtain ⟨g, cap, et, -, -, -, -, hcell, -, -⟩ := own_setV (xs := cl.map eCC) (by rw [List.length_map]; exact hC.out) k (by rw [List.length_map]; exact hlt)
        obtain ⟨rfl, rfl⟩ : At = some ⟨g, 0, none⟩ ∧ ct = cap := by injection et with e1 e2 e3; exact ⟨e1, e3⟩
        rw [List.getElem_map] at hcell
        have hmem := List.getElem_mem hlt
        obtain ⟨hne, hco⟩ := hC.each _ hmem
        have hn0 : 0 < cl[k].rows.length := List.length_pos_iff.2 hne
        obtain ⟨gc, capc, ec, -, -, -, -, hcell0, -, -⟩ := own_setV (xs := cl[k].rows.map eC) (by rw [List.length_map]; exact hco) 0 (by rw [List.length_map]; exact hn0)
        rw [List.getElem_map] at hcell0
        have hs0 := Sl.of_own (hC.rows _ hmem cl[k].rows[0] (List.getElem_mem hn0))
        have hW := RDistance_any _ _ cl[k].rows[0].bs x wr hs0 (H1x.out.next hBx)
        have hlk : likeC x (bsL cl[k].rows) = decide ((dist (cl[k].rows[0].bs.take 1000) (x.take 1000) : Int) ≤ 4) := by
          unfold likeC likeB
          rw [bsL_head _ hn0]
          rfl
        have hcl9 := HL.out.2 _ hmem
        have HY := Lib.hid (show likeC x (bsL cl[k].rows) = true → ∃ (j : Nat) (hj : j < cl.length), Value.int .i64 (k : Int) = .int .i64 j ∧ likeC x (bsL cl[j].rows) = true ∧ ∀ q (hq : q < cl.length), q < j → likeC x (bsL cl[q].rows) = false from fun hy => ⟨k, hlt, rfl, hy, hno⟩)
        have HNO := Lib.hid (show likeC x (bsL cl[k].rows) = false → ∀ q (hq : q < cl.length), q < k + 1 → likeC x (bsL cl[q].rows) = false from fun hy q hq hqj => by
          by_cases e : q = k
          · subst e; exact hy
          · exact hno q hq (by omega))
        have hkl : (k : Int) < (cl.length : Int) := by omega
        have hk9 : k ≤ 40 := by have := HL.out.1; omega
        have h0l : (0 : Int) < (cl[k].rows.length : Int) := by omega
        have hz0l : ((cl[k].rows.length : Int) == 0) = false := by rw [beq_eq_false_iff_ne]; omega
        have hzn : ¬ cl[k].rows.length = 0 := by omega
        have Hk := Lib.hid hlt
        generalize cl[k].rows[0] = P0 at hcell0 hs0 hW hlk
        generalize dist (P0.bs.take 1000) (x.take 1000) = D at *
        clear hs0 hmem hne hn0 hno et hco
        generalize hcj : cl[k] = cj at *
        clear hlt
        have hec := hcell
        unfold eCC at hec ec
        injection ec with ec1 ec2 ec3
        rw [ec1, ec3] at hec
        unfold eC at hcell0
        clear hcell hcj ec1 ec2 ec3
        go_wp2_with fail
        go_at_call 24
        refine hW.mono ?_
        rintro e w5 ⟨rfl, hB5⟩
        have hBy := hBx.trans (hB5.mono hBx.size)
        clear hW hcell0 hec hB5 hC
        by_cases hD : (D : Int) ≤ 4
        · have HY2 := Lib.hid (HY.out (hlk.trans (decide_eq_true hD)))
          have hD2 := decide_eq_true hD
          clear HY HNO hlk
          go_wp2_with fail
          go_roundw
          case rel => exact ⟨k + 1, Hk.out, by go_num, .inr HY2.out, hBy⟩
          case measure => have := Hk.out; simp [RowKit.intOf]; omega
        · have HN2 := Lib.hid (HNO.out (hlk.trans (decide_eq_false hD)))
          have hD2 := decide_eq_false hD
          clear HY HNO hlk
          go_wp2_with fail
          go_roundw
          case rel => exact ⟨k + 1, Hk.out, by go_num, .inl ⟨rfl, HN2.out⟩, hBy⟩
          case measure => have := Hk.out; simp [RowKit.intOf]; omega
      · obtain rfl : k = cl.length := by omega
        have hN3 : bs3 (cl ++ [⟨some ⟨wr.heap.size, 0, none⟩, 1, [⟨A1, c1, x⟩]⟩]) = addG G x := by
          rw [← Hbs.out, addG_new (fun q hq => by rw [bs3_get]; exact hno q (by rw [bs3_len] at hq; exact hq) (by rw [bs3_len] at hq; exact hq))]
          simp [bs3, bsL]
        have HN3 := Lib.hid hN3
        have hcn : ∀ q u, [Value.slice (some ⟨wr.heap.size, 0, none⟩) 1 1][q]? = some u → ((wr.alloc (.cells #[.slice A1 x.length c1] 34)).alloc (.cells #[.slice (some ⟨wr.heap.size, 0, none⟩) 1 1] 22)).cell? ((⟨wr.heap.size + 1, 0, none⟩ : Addr).add q) = some u := by
          have := cell_one_new (wr.alloc (.cells #[.slice A1 x.length c1] 34)) 22 (Value.slice (some ⟨wr.heap.size, 0, none⟩) 1 1)
          rwa [World.size_alloc] at this
        have hout2 := (hC.out.alloc (.cells #[.slice A1 x.length c1] 34)).alloc (.cells #[.slice (some ⟨wr.heap.size, 0, none⟩) 1 1] 22)
        have hbz : w.heap.size ≤ wr.heap.size := hBwx.size
        have hcl1 := HL.out.1
        have HCx := Lib.hid hC
        have HBX := Lib.hid hBx
        clear hlt hk hno hC hN3
        go_wp2_with (at_builtin; refine wpList_append_own _ rfl _ _ 25 rfl w.heap.size 22 i1 _ 1 24 Tryd.underlying25 hi' hz0' hz1' hz2' (by decide) (by decide) _ _ _ rfl hout2 ⟨wr.heap.size + 1, 0, none⟩ 1 1 [.slice (some ⟨wr.heap.size, 0, none⟩) 1 1] rfl rfl hcn (by simp [Value.oneCell']) (by unfold maxLen; omega) (by omega) (by simp; omega) ?_; intro v' w7 hown' hgrow _)
        have hBn : Below w.heap.size w w7 := hBwx.trans ((((Below.refl w.heap.size wr).alloc hbz _).alloc (by simp; omega) _).grown hgrow (by simp; omega) (fun q hq => (hout2.lt q hq).1))
        have hR := CcB.push3 HCx.out ⟨A1, c1, x⟩ _ (H1.out.next hBn) hown' hgrow
        have hsm := cl_small HN3.out HGL.out.1 HGL.out.2
        have hRb7 : R3In w7 (.slice Ab clb.length cb) clb := (HCB.out.kept fun k cs e hk ho => by
          have hlt := (Array.getElem?_eq_some_iff.1 ho).1
          have h1 := (HBX.out.block k hlt).trans ho
          have hlt2 := (Array.getElem?_eq_some_iff.1 h1).1
          have h2 := (hgrow.block k (by simp; omega) (fun e2 => by have := HGT.out k e2.symm; omega)).trans ((((Below.refl wr.heap.size wr).alloc (Nat.le_refl _) _).alloc (by simp) _).block k hlt2)
          exact h2.trans h1).r3
        have HSAME := RSame_true _ (.slice Ab clb.length cb) _ clb w7 hR hRb7 (HN3.out.trans Hbb.out.symm) hsm.1 hsm.2
        clear hcn hout2 hown' hgrow hsm hRb7 hR
        go_at_call 16
        refine HSAME.mono ?_
        rintro e w8 ⟨rfl, nd, hw8⟩
        have hBz : Below w.heap.size w w8 := by rw [hw8]; exact hBn.trans (below_drewN' _ _ _)
        have hwk := HW.out w8 (HT.out.below hBz)
        clear HSAME hw8
        go_wp2_with fail
        go_at_call 9
        refine hwk.mono ?_
        rintro e w9 ⟨rfl, hB9⟩
        clear hwk
        go_wp2_with fail
        go_ret
        exact ⟨rfl, below_trans hBz hB9⟩
    · obtain ⟨g, cap, et, hgB, hglt, -, -, hcell, -, -⟩ := own_setV (xs := cl.map eCC) (by rw [List.length_map]; exact hC.out) j (by rw [List.length_map]; exact hj)
      obtain ⟨rfl, rfl⟩ : At = some ⟨g, 0, none⟩ ∧ ct = cap := by injection et with e1 e2 e3; exact ⟨e1, e3⟩
      rw [List.getElem_map] at hcell
      have hmem := List.getElem_mem hj
      have hrowj := (hC.row hmem).1
      have hcl9 := HL.out.2 _ hmem
      have HSET := Lib.hid (fun (W3 : World) (h : CcB w.heap.size W3 (.slice (some ⟨g, 0, none⟩) cl.length ct) cl) hX A' c' (base : Nat) hown => CcB.set3 h j hj ⟨A1, c1, x⟩ hX A' c' (base := base) hown)
      have HSETB := Lib.hid (show ∀ A' c', bs3 (cl.set j ⟨A', c', cl[j].rows ++ [⟨A1, c1, x⟩]⟩) = addG G x from fun A' c' => by
        rw [← Hbs.out, addG_at (i := j) (by rw [bs3_len]; exact hj) (fun q hq hqj => by rw [bs3_get]; exact hno q (by rw [bs3_len] at hq; exact hq) hqj) (by rw [bs3_get]; exact hy), bs3_get, bs3_set])
      have hjl : (j : Int) < (cl.length : Int) := by omega
      have hj9 : j ≤ 40 := by have := HL.out.1; omega
      have hjn : ¬ (j : Int) < 0 := by omega
      have hcl1 := HL.out.1
      have hbz : w.heap.size ≤ wr.heap.size := hBwx.size
      have hrow := row_madeR wr
      have hA1 := below_al wr (.cells #[] 34)
      have HCx := Lib.hid hC
      have HBX := Lib.hid hBx
      generalize hcj : cl[j] = cj at *
      unfold eCC at hcell hrowj
      have hcell2 := (hA1.cell (p := ⟨g, j, none⟩) hglt).trans hcell
      clear hcj hmem hj hy hno et hC hcell
      have hdk : ((k : Int) < (cl.length : Int) ∧ k < cl.length) ∨ (¬ (k : Int) < (cl.length : Int) ∧ ¬ k < cl.length) := by omega
      have hgw3 := HGT.out g rfl
      clear hk
      rcases hdk with ⟨hdk, hdk2⟩ | ⟨hdk, hdk2⟩
      all_goals
        go_wp2_with (first
          | (at_builtin
             refine wpList_append_slg _ rfl (.tmp 66) (.tmp 70) _ rfl wr.heap.size 34 i0 _ 24 Tryd.underlying22 hi hz0 hz1 hz2 rfl _ 0 [] hrow rfl wr.heap.size _ cj.rows (hrowj.below hA1) rfl eC_one (by unfold maxLen; omega) (by omega) (by simp) ?_
             intro v1' w5 hown1 hg1 hat1
             have hA2 : Below wr.heap.size wr w5 := hA1.trans (below_grownR hrow hg1 (by simp) (Nat.le_refl _))
             have hA3 : Below wr.heap.size wr (w5.alloc (.cells #[.slice A1 x.length c1] 34)) := hA2.alloc hA2.size _
             have hownA := hown1.alloc (.cells #[.slice A1 x.length c1] 34))
          | (at_builtin
             refine wpList_append_slg _ rfl (.tmp 71) (.tmp 73) _ rfl wr.heap.size 34 i0 _ 24 Tryd.underlying22 hi hz0 hz1 hz2 rfl _ _ _ hownA rfl _ _ [⟨A1, c1, x⟩] (Sl.new eC w5 [⟨A1, c1, x⟩] #[.slice A1 x.length c1] 34 (0, 0) 1 1 rfl (Nat.le_refl _) rfl) rfl eC_one (by unfold maxLen; simp; omega) (by simp; omega) hA3.size ?_
             intro v2' w6 hown2 hg2 hat2
             have hB6 : Below wr.heap.size wr w6 := hA3.trans (below_grownR hownA hg2 hA3.size (Nat.le_refl _))
             replace hown2 : w6.ownsRow wr.heap.size 34 1 v2' (cj.rows.length + 1) ((cj.rows ++ [(⟨A1, c1, x⟩ : RowC)]).map eC) := by
               rw [List.map_append]
               have h5 := hown2
               rw [Nat.zero_add, List.nil_append] at h5
               exact h5
             obtain ⟨g', cap', rfl⟩ := ownsRow_succ hown2
             obtain ⟨gt, ct', et, -, -, -, hcu, hfu, hR⟩ := HSET.out w6 (HCx.out.bel hB6) (H1.out.below (below_trans hBwx hB6)) (some ⟨g', 0, none⟩) cap' _ hown2
             obtain ⟨rfl, rfl⟩ : g = gt ∧ ct = ct' := by injection et with e1 e2 e3; injection e1 with e1; injection e1 with e1; exact ⟨e1, e3⟩
             have hBn6 : Below w.heap.size w w6 := below_trans hBwx hB6
             have HRR := Lib.hid hR
             clear et hR))
        have hBn := hBn6.setCell (p := ⟨g, j, none⟩) hgB (.slice (some ⟨g', 0, none⟩) (cj.rows.length + 1) cap')
        have hRb7 : R3In (w6.setCell ⟨g, j, none⟩ (.slice (some ⟨g', 0, none⟩) (cj.rows.length + 1) cap')) (.slice Ab clb.length cb) clb := (HCB.out.kept fun k cs e hk ho => by
          have hlt := (Array.getElem?_eq_some_iff.1 ho).1
          have h1 := (HBX.out.block k hlt).trans ho
          have h2 := (hB6.block k (Array.getElem?_eq_some_iff.1 h1).1).trans h1
          exact (Below.heap_setCell w6 ⟨g, j, none⟩ _ k (show k ≠ g by omega)).trans h2).r3
        have hbb7 := HSETB.out (some ⟨g', 0, none⟩) cap'
        have hsm := cl_small hbb7 HGL.out.1 HGL.out.2
        rw [List.length_set] at hsm
        have HSAME := RSame_true (.slice (some ⟨g, 0, none⟩) cl.length ct) (.slice Ab clb.length cb) _ clb _ HRR.out hRb7 (hbb7.trans Hbb.out.symm) (by rw [List.length_set]; exact hsm.1) hsm.2
        clear hsm hRb7 hbb7
        go_at_call 16
        refine HSAME.mono ?_
        rintro e w8 ⟨rfl, nd, hw8⟩
        have hBz : Below w.heap.size w w8 := by rw [hw8]; exact hBn.trans (below_drewN' _ _ _)
        have hwk := HW.out w8 (HT.out.below hBz)
        clear HSAME hw8
        go_wp2_with fail
        go_at_call 9
        refine hwk.mono ?_
        rintro e w9 ⟨rfl, hB9⟩
        clear hwk
        go_wp2_with fail
        go_ret
        exact ⟨rfl, below_trans hBz hB9⟩
theorem ClusterMore_any (v0 v1 : Value) (rows : List RowC) (x : List UInt8) (w : World) (h0 : RowsIn w v0 rows) (h1 : Sl eB w.heap.size w v1 x) (hT : Tab w) :
    Calls Tryd.prog 7 #[v0, v1] w fun e w' => e = .returned (.bool true) ∧ Below w.heap.size w w' := by
  cases e0 : gr6 rows with
  | true => exact More_great0 v0 v1 rows x w h0 h1 hT e0
  | false =>
    by_cases k0 : 39 < rows.length
    · exact More_great1 v0 v1 rows x w h0 h1 hT e0 k0
    · by_cases k1 : 200 < x.length
      · exact More_great2 v0 v1 rows x w h0 h1 hT e0 k0 k1
      · exact More_main v0 v1 rows x w h0 h1 hT e0 (by omega) (by omega)
end Go.Proofs.YtgblkcddhnigaaaDoor
