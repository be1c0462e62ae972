import Derived.Test.YtcngnjkpnmpcpaaDoorPaLZ
namespace Go.Proofs.YtcngnjkpnmpcpaaDoor
open Go.RowKit Go.Shelf
attribute [local go_sem] Oper.semAt_some run_store_func
def libE (n : Int) (s : Nat) : Int := if 0 ≤ n ∧ n ≤ 8 then (if (libG (2 * n.toNat) s).length = 2 * n.toNat then 0 else 200) else 2
def libP (n : Int) (s : Nat) : List Pr := if libE n s = 0 then pairsOf (libG (2 * n.toNat) s) else []
set_option maxRecDepth 100000 in
set_option maxHeartbeats 2000000 in
theorem Lib_low (b0 b1 pb : Nat) (n : Int) (hn : n < 0) (w : World) (h0 : Boxed w b0 3 (.int .i64 n)) :
    Calls Tryd.prog 28 #[.pointer (some ⟨b0, 0, none⟩), .pointer (some ⟨b1, 0, none⟩), .pointer (some ⟨pb, 0, none⟩)] w fun e w' => w = w' ∧ e = .panicked (errno 2) := by
  have hc0 := h0.cell
  have hd1 : decide (0 ≤ n) = false := decide_eq_false (by omega)
  go_enter Tryd.func28, Tryd.ntmps28
  go_wp2_with fail
  go_at_call 29
  refine (pmust_no _ _).mono ?_
  rintro e w1 ⟨rfl, rfl⟩
  go_wp2_with fail
  exact ⟨rfl, rfl, rfl⟩
set_option maxRecDepth 100000 in
set_option maxHeartbeats 2000000 in
theorem Lib_high (b0 b1 pb : Nat) (n : Int) (hn : 8 < n) (w : World) (h0 : Boxed w b0 3 (.int .i64 n)) :
    Calls Tryd.prog 28 #[.pointer (some ⟨b0, 0, none⟩), .pointer (some ⟨b1, 0, none⟩), .pointer (some ⟨pb, 0, none⟩)] w fun e w' => w = w' ∧ e = .panicked (errno 2) := by
  have hc0 := h0.cell
  have hd1 : decide (0 ≤ n) = true := decide_eq_true (by omega)
  have hd2 : decide (n ≤ 8) = false := decide_eq_false (by omega)
  go_enter Tryd.func28, Tryd.ntmps28
  go_wp2_with fail
  go_at_call 29
  refine (pmust_no _ _).mono ?_
  rintro e w1 ⟨rfl, rfl⟩
  go_wp2_with fail
  exact ⟨rfl, rfl, rfl⟩
set_option maxRecDepth 100000 in
set_option maxHeartbeats 2000000 in
theorem Lib_few (b0 b1 pb : Nat) (n s : Nat) (hn : n ≤ 8) (hs : s < 18446744073709551616) (w : World) (hT : Tab w) (h0 : Boxed w b0 3 (.int .i64 n)) (h1 : Boxed w b1 23 (.int .u64 s)) (hl : (libG (2 * n) s).length ≠ 2 * n) :
    Calls Tryd.prog 28 #[.pointer (some ⟨b0, 0, none⟩), .pointer (some ⟨b1, 0, none⟩), .pointer (some ⟨pb, 0, none⟩)] w fun e w' => Below w.heap.size w w' ∧ e = .panicked (errno 200) := by
  have hL := library_any (2 * n) s (by omega) hs w hT
  have hc0 := h0.cell
  have hc1 := h1.cell
  have hd1 : decide (0 ≤ (n : Int)) = true := decide_eq_true (by omega)
  have hd2 : decide ((n : Int) ≤ 8) = true := decide_eq_true (by omega)
  have e1 : IntKind.i64.wrap (2 * (n : Int)) = ((2 * n : Nat) : Int) := by rw [IntWalk.i64_in _ (by omega)]; omega
  generalize libG (2 * n) s = G at *
  go_enter Tryd.func28, Tryd.ntmps28
  go_wp2_with fail
  go_at_call 29
  refine (pmust_yes _ _).mono ?_
  rintro e w1 ⟨rfl, rfl⟩
  go_wp2_with fail
  go_at_call 30
  refine hL.mono ?_
  rintro e w1 ⟨hB, ⟨he, -⟩ | ⟨-, rfl⟩⟩
  · exact absurd he hl
  · go_wp2_with fail
    exact ⟨rfl, hB, rfl⟩
theorem LibW_any (b0 b1 pb : Nat) (n : Int) (s : Nat) (hs : s < 18446744073709551616) (w : World) (hT : Tab w) (h0 : Boxed w b0 3 (.int .i64 n)) (h1 : Boxed w b1 23 (.int .u64 s)) (hp : Boxed w pb 22 (.slice none 0 0)) :
    WorkIs 28 #[.pointer (some ⟨b0, 0, none⟩), .pointer (some ⟨b1, 0, none⟩), .pointer (some ⟨pb, 0, none⟩)] pb w
      (fun w' => libE n s = 0 ∧ ∃ v, Boxed w' pb 22 v ∧ w'.ownsRow w.heap.size 46 2 v (libP n s).length ((allP (libP n s)).map sV)) (fun k w' => k = libE n s ∧ libE n s ≠ 0 ∧ Boxed w' pb 22 (.slice none 0 0)) := by
  unfold WorkIs
  by_cases hlo : n < 0
  · have e2 : libE n s = 2 := if_neg (by omega)
    refine (Lib_low b0 b1 pb n hlo w h0).mono ?_
    rintro e w' ⟨rfl, rfl⟩
    exact ⟨keep_r _ _ _, .inr ⟨2, rfl, by rw [e2], by rw [e2]; decide, hp⟩⟩
  by_cases hhi : 8 < n
  · have e2 : libE n s = 2 := if_neg (by omega)
    refine (Lib_high b0 b1 pb n hhi w h0).mono ?_
    rintro e w' ⟨rfl, rfl⟩
    exact ⟨keep_r _ _ _, .inr ⟨2, rfl, by rw [e2], by rw [e2]; decide, hp⟩⟩
  obtain ⟨m, rfl⟩ : ∃ m : Nat, n = m := ⟨n.toNat, by omega⟩
  by_cases hl : (libG (2 * m) s).length = 2 * m
  · have e2 : libE m s = 0 := by
      unfold libE
      rw [if_pos (by omega), Int.toNat_natCast, if_pos hl]
    have e3 : libP m s = pairsOf (libG (2 * m) s) := by
     unfold libP
     rw [if_pos e2, Int.toNat_natCast]
    obtain ⟨hp1, hp2⟩ := allP_pairs m _ hl
    refine (Lib_loop b0 b1 pb m s (by omega) hs w hT h0 h1 hp hl).mono ?_
    rintro e w' ⟨hK, hv, v, hbv, hov⟩
    refine ⟨hK, .inl ⟨hv, e2, v, hbv, ?_⟩⟩
    rw [e3, hp1, hp2]
    exact hov
  · have e2 : libE m s = 200 := by
      unfold libE
      rw [if_pos (by omega), Int.toNat_natCast, if_neg hl]
    refine (Lib_few b0 b1 pb m s (by omega) hs w hT h0 h1 hl).mono ?_
    rintro e w' ⟨hB, rfl⟩
    exact ⟨keep_of hB, .inr ⟨200, rfl, by rw [e2], by rw [e2]; decide, (hB.block _ hp.lt).trans hp⟩⟩
set_option maxRecDepth 100000 in
set_option maxHeartbeats 2000000 in
theorem Library_any (n : Int) (s : Nat) (hs : s < 18446744073709551616) (w : World) (hT : Tab w) :
    Calls Tryd.prog 10 #[.int .i64 n, .int .u64 s] w fun e w' => ∃ v, e = .returned (.tuple #[v, .int .i64 (libE n s)]) ∧ PrsIn w'.heap.size w' v (libP n s) ∧ Below w.heap.size w w' := by
  have hmf : ∀ (fn : Fn) (first cap : Array Value) (w : World), (Instr.makeFunc fn first cap).run Tryd.prog w = .ok (.func fn first cap) w := fun _ _ _ _ => rfl
  obtain ⟨W0, hW0⟩ : ∃ W0, ((w.alloc (.cells #[.int .i64 n] 3)).alloc (.cells #[.int .u64 s] 23)).alloc (.cells #[.slice none 0 0] 22) = W0 := ⟨_, rfl⟩
  have hA1 : Below w.heap.size w W0 := by rw [← hW0]; exact ((below_alloc w _).alloc (by simp) _).alloc (by simp; omega) _
  have hs1 : W0.heap.size = w.heap.size + 3 := by rw [← hW0]; simp
  have hb1 : Boxed W0 w.heap.size 3 (.int .i64 n) := by rw [← hW0]; exact ((Boxed.new w 3 (.int .i64 n)).alloc _).alloc _
  have hb2 : Boxed W0 (w.heap.size + 1) 23 (.int .u64 s) := by
   rw [← hW0]
   have := (Boxed.new (w.alloc (.cells #[.int .i64 n] 3)) 23 (.int .u64 s)).alloc (.cells #[.slice none 0 0] 22)
   simpa only [World.size_alloc] using this
  have hb3 : Boxed W0 (w.heap.size + 1 + 1) 22 (.slice none 0 0) := by
   rw [← hW0]
   have := Boxed.new ((w.alloc (.cells #[.int .i64 n] 3)).alloc (.cells #[.int .u64 s] 23)) 22 (.slice none 0 0)
   simpa only [World.size_alloc] using this
  have hA4 := below_alloc W0 (.cells #[.int .i64 0] 26)
  have hB4 := below_trans hA1 hA4
  have hwork := LibW_any w.heap.size (w.heap.size + 1) (w.heap.size + 1 + 1) n s hs _ (hT.below hB4) (hb1.alloc (.cells #[.int .i64 0] 26)) (hb2.alloc _) (hb3.alloc _)
  have hct := caught_any 28 #[.pointer (some ⟨w.heap.size, 0, none⟩), .pointer (some ⟨w.heap.size + 1, 0, none⟩), .pointer (some ⟨w.heap.size + 1 + 1, 0, none⟩)] (w.heap.size + 1 + 1) W0 (by omega) (enters_of Tryd.func28 (by kernel_rfl) rfl) _ _ hwork
  have HNE := Lib.hid (show libE n s ≠ 0 → libP n s = [] from fun h => if_neg h)
  have HW0 := Lib.hid hW0
  clear hwork hA4 hB4 hW0 hT hb1 hb2 hb3
  generalize libE n s = E at *
  generalize libP n s = L at *
  go_enter Tryd.func10, Tryd.ntmps10
  go_wp2_with fail
  rw [HW0.out]
  go_at_call 27
  refine hct.mono ?_
  rintro e w' ⟨w1, k, hK, rfl, rfl, hlt1, hR⟩
  have hBf : Below w.heap.size w (w1.setCell ⟨W0.heap.size, 0, none⟩ (.int .i64 k)) := (hA1.trans ⟨hK.1.1, hK.1.2.1, hK.1.2.2.1, hK.1.2.2.2, fun j hj => hK.2 j (by omega) (by omega)⟩).setCell (p := ⟨W0.heap.size, 0, none⟩) (by show w.heap.size ≤ W0.heap.size; omega) _
  have hsx : (w1.setCell ⟨W0.heap.size, 0, none⟩ (.int .i64 k)).heap.size = w1.heap.size := by simp [World.setCell]
  clear hct
  rcases hR with ⟨rfl, rfl, v, hbv, hpv⟩ | ⟨rfl, hne, hbv⟩
  · have hbw := hbv.other (B' := W0.heap.size) (by omega) (.int .i64 0)
    have hcv := hbw.cell
    have HP := Lib.hid (own_prs (own_keep2 (W' := w1.setCell ⟨W0.heap.size, 0, none⟩ (.int .i64 0)) hpv fun j hj => Below.heap_setCell w1 ⟨W0.heap.size, 0, none⟩ _ j (by show j ≠ W0.heap.size; rw [World.size_alloc] at hj; omega)))
    clear hbv hbw hpv hsx
    generalize w1.setCell ⟨W0.heap.size, 0, none⟩ (.int .i64 0) = w2 at *
    go_wp2_with fail
    go_ret2
    exact ⟨_, rfl, HP.out, hBf⟩
  · have hbw := hbv.other (B' := W0.heap.size) (by omega) (.int .i64 k)
    have hcv := hbw.cell
    have HN2 := Lib.hid (HNE.out hne)
    clear hbv hbw hsx
    generalize w1.setCell ⟨W0.heap.size, 0, none⟩ (.int .i64 k) = w2 at *
    go_wp2_with fail
    go_ret2
    exact ⟨_, rfl, by rw [HN2.out]; exact ⟨none, 0, rfl, Nat.le_refl _, fun h => absurd h (by simp)⟩, hBf⟩
end Go.Proofs.YtcngnjkpnmpcpaaDoor
namespace Go.Proofs.YtcngnjkpnmpcpaaDoor
open Go.RowKit Go.Shelf
def goR (c : Nat → Bool) : Nat → Nat → List Nat → Nat → List Nat
  | _, _, [], _ => []
  | left, diag, u :: us, j => min (min (u + 1) (left + 1)) (diag + if c j then 0 else 1) :: goR c (min (min (u + 1) (left + 1)) (diag + if c j then 0 else 1)) u us (j + 1)
def rowR (e : Nat → Nat → Bool) (n : Nat) : Nat → List Nat
  | 0 => List.range (n + 1)
  | i + 1 => (i + 1) :: goR (e i) (i + 1) ((rowR e n i).headD 0) ((rowR e n i).tail) 0
theorem goR_is (e : Nat → Nat → Bool) (i : Nat) : ∀ (k j : Nat), goR (e i) (lev e (i + 1) j) (lev e i j) ((List.range k).map fun t => lev e i (j + 1 + t)) j = (List.range k).map fun t => lev e (i + 1) (j + 1 + t) := by
 intro k
 induction k with
 | zero => intro j; rfl
 | succ k ih =>
   intro j
   rw [List.range_succ_eq_map, List.map_cons, List.map_cons, List.map_map, List.map_map]
   have h := ih (j + 1)
   have hs : min (min (lev e i (j + 1) + 1) (lev e (i + 1) j + 1)) (lev e i j + if e i j then 0 else 1) = lev e (i + 1) (j + 1) := (lev_step e i j).symm
   show min (min (lev e i (j + 1 + 0) + 1) (lev e (i + 1) j + 1)) (lev e i j + if e i j then 0 else 1) :: goR (e i) (min (min (lev e i (j + 1 + 0) + 1) (lev e (i + 1) j + 1)) (lev e i j + if e i j then 0 else 1)) (lev e i (j + 1 + 0)) _ (j + 1) = _
   rw [Nat.add_zero, hs]
   have e1 : ((fun t => lev e i (j + 1 + t)) ∘ Nat.succ) = fun t => lev e i (j + 1 + 1 + t) := by
    funext t
    show lev e i (j + 1 + (t + 1)) = _
    congr 1
    omega
   have e2 : ((fun t => lev e (i + 1) (j + 1 + t)) ∘ Nat.succ) = fun t => lev e (i + 1) (j + 1 + 1 + t) := by
    funext t
    show lev e (i + 1) (j + 1 + (t + 1)) = _
    congr 1
    omega
   rw [e1, e2, h]
theorem rowR_is (e : Nat → Nat → Bool) (n : Nat) : ∀ i, rowR e n i = (List.range (n + 1)).map (lev e i) := by
 intro i
 induction i with
 | zero =>
   show List.range (n + 1) = _
   refine List.ext_getElem (by simp) fun j h1 h2 => ?_
   simp [lev_zero]
 | succ i ih =>
   show (i + 1) :: goR (e i) (i + 1) ((rowR e n i).headD 0) ((rowR e n i).tail) 0 = _
   rw [ih, List.range_succ_eq_map, List.map_cons, List.map_cons, List.headD_cons, List.tail_cons, List.map_map, List.map_map]
   have h := goR_is e i n 0
   rw [lev_left e (i + 1)] at h
   have e1 : (lev e i ∘ Nat.succ) = fun t => lev e i (0 + 1 + t) := by funext t; show lev e i (t + 1) = _; congr 1; omega
   have e2 : (lev e (i + 1) ∘ Nat.succ) = fun t => lev e (i + 1) (0 + 1 + t) := by funext t; show lev e (i + 1) (t + 1) = _; congr 1; omega
   rw [e1, e2, lev_left e (i + 1), h]
theorem dist_row (a b : List UInt8) : dist a b = (rowR (sameAt a b) b.length a.length).getLastD 0 := by
 rw [rowR_is, List.range_succ, List.map_append]
 simp [dist]
def P1 : List UInt8 := [67, 84, 71, 67, 67, 65, 65, 67, 65, 65, 71, 84, 84, 71, 71, 84]
def P2 : List UInt8 := [84, 65, 67, 65, 71, 65, 67, 65, 65, 71, 71, 84, 84, 71, 71, 67]
def P3 : List UInt8 := [67, 84, 65, 67, 65, 84, 84, 71, 65, 71, 67, 84, 71, 67, 65, 67]
def P4 : List UInt8 := [65, 71, 71, 65, 65, 67, 67, 71, 65, 84, 71, 65, 67, 65, 65, 67]
theorem dC_row {a b : List UInt8} (ha : a.length ≤ 1000) (hb : b.length ≤ 1000) {n : Nat} (h : (rowR (sameAt a b) b.length a.length).getLastD 0 = n) : dC a b = n := by
 unfold dC cut
 rw [List.take_of_length_le ha, List.take_of_length_le hb, dist_row, h]
theorem d21 : dC P2 P1 = 6 := dC_row (by decide) (by decide) (by decide +kernel)
theorem d31 : dC P3 P1 = 9 := dC_row (by decide) (by decide) (by decide +kernel)
theorem d32 : dC P3 P2 = 9 := dC_row (by decide) (by decide) (by decide +kernel)
theorem d41 : dC P4 P1 = 12 := dC_row (by decide) (by decide) (by decide +kernel)
theorem d42 : dC P4 P2 = 11 := dC_row (by decide) (by decide) (by decide +kernel)
theorem d43 : dC P4 P3 = 10 := dC_row (by decide) (by decide) (by decide +kernel)
theorem tri25 : (triL 7 25).filter oneG = [P1, P2, P3, P4] := by decide +kernel
theorem fold_one (m : Nat) (xs t : List (List UInt8)) : xs.foldl (libS m) t = (xs.filter oneG).foldl (libS m) t := by
 induction xs generalizing t with
 | nil => rfl
 | cons x xs ih =>
   rw [List.foldl_cons]
   cases ho : oneG x with
   | true => rw [List.filter_cons_of_pos ho, List.foldl_cons]; exact ih _
   | false =>
     rw [List.filter_cons_of_neg (by rw [ho]; simp)]
     have : libS m t x = t := by
      unfold libS takeB
      rw [ho]
      simp
     rw [this]
     exact ih _
theorem one1 : oneG P1 = true := by decide +kernel
theorem one2 : oneG P2 = true := by decide +kernel
theorem one3 : oneG P3 = true := by decide +kernel
theorem one4 : oneG P4 = true := by decide +kernel
theorem t1 : takeB [] P1 = true := by unfold takeB; rw [one1]; rfl
theorem t2 : takeB [P1] P2 = true := by unfold takeB; rw [one2]; simp [d21]
theorem t3 : takeB [P1, P2] P3 = true := by unfold takeB; rw [one3]; simp [d31, d32]
theorem t4 : takeB [P1, P2, P3] P4 = true := by unfold takeB; rw [one4]; simp [d41, d42, d43]
theorem fold4 : [P1, P2, P3, P4].foldl (libS 4) [] = [P1, P2, P3, P4] := by
 simp only [List.foldl_cons, List.foldl_nil]
 have s1 : libS 4 [] P1 = [P1] := by unfold libS; rw [if_neg (by decide), if_pos t1]; rfl
 have s2 : libS 4 [P1] P2 = [P1, P2] := by unfold libS; rw [if_neg (by decide), if_pos t2]; rfl
 have s3 : libS 4 [P1, P2] P3 = [P1, P2, P3] := by unfold libS; rw [if_neg (by decide), if_pos t3]; rfl
 have s4 : libS 4 [P1, P2, P3] P4 = [P1, P2, P3, P4] := by unfold libS; rw [if_neg (by decide), if_pos t4]; rfl
 rw [s1, s2, s3, s4]
theorem lib4 : libG 4 7 = [P1, P2, P3, P4] := by
 have h : (triL 7 25).foldl (libS 4) [] = [P1, P2, P3, P4] := by rw [fold_one, tri25, fold4]
 unfold libG
 rw [lib_pre (triL_pre 7 25 20000 (by decide)) (by rw [h]; rfl), h]
theorem lib0 : libG 0 7 = [] := by
 unfold libG
 generalize triL 7 20000 = X
 exact libS_stay (many := 0) (t := []) rfl X
def M7 : List Pr := [(P1, P2), (P3, P4)]
theorem libE0 : libE 0 7 = 0 := by
 unfold libE
 rw [if_pos (by decide)]
 show (if (libG 0 7).length = 0 then (0 : Int) else 200) = 0
 rw [lib0]
 rfl
theorem libP0 : libP 0 7 = [] := by
 unfold libP
 rw [if_pos libE0]
 show pairsOf (libG 0 7) = []
 rw [lib0]
 rfl
theorem libE2 : libE 2 7 = 0 := by
 unfold libE
 rw [if_pos (by decide)]
 show (if (libG 4 7).length = 4 then (0 : Int) else 200) = 0
 rw [lib4]
 rfl
theorem libP2 : libP 2 7 = M7 := by
 unfold libP
 rw [if_pos libE2]
 show pairsOf (libG 4 7) = M7
 rw [lib4]
 rfl
theorem libE9 : libE 9 7 = 2 := if_neg (by decide)
theorem chkM : chkE M7 = 0 := by
 refine if_pos ?_
 show (decide (2 ≤ 8) && (takeB [] P1 && (takeB [P1] P2 && (takeB [P1, P2] P3 && (takeB [P1, P2, P3] P4 && true))))) = true
 rw [t1, t2, t3, t4]
 rfl
theorem dC_self (a : List UInt8) : dC a a = 0 := dist_self _
theorem take_self {xs : List (List UInt8)} {p : List UInt8} (h : p ∈ xs) : takeB xs p = false := by
 unfold takeB
 have : (xs.all fun o => decide (5 ≤ dC p o)) = false := List.all_eq_false.2 ⟨p, h, by rw [dC_self]; decide⟩
 rw [this, Bool.and_false]
theorem chkMM : chkE [(P1, P2), (P1, P2)] = 200 := by
 have h : chkB [(P1, P2), (P1, P2)] = false := by
  show (decide (2 ≤ 8) && (takeB [] P1 && (takeB [P1] P2 && (takeB [P1, P2] P1 && (takeB [P1, P2, P1] P2 && true))))) = false
  rw [take_self (xs := [P1, P2]) (p := P1) (by simp)]
  simp
 exact if_neg (by rw [h]; decide)
theorem leaM : leaA (allP M7) (allP M7).length = 6 := by
 show leaA [P1, P2, P3, P4] 4 = 6
 simp only [leaA, leaR, List.getElem?_cons_zero, List.getElem?_cons_succ, Option.getD_some, d21, d31, d32, d41, d42, d43]
 decide
theorem take_more (x : List UInt8) (i d : Nat) (h : i + d ≤ x.length) : dist (x.take i) (x.take (i + d)) ≤ d := by
 induction d with
 | zero => rw [Nat.add_zero, dist_self]; exact Nat.le_refl _
 | succ d ih =>
   have h1 := ih (by omega)
   have h2 := dist_tri (x.take i) (x.take (i + d)) (x.take (i + d + 1))
   have h3 : dist (x.take (i + d)) (x.take (i + d + 1)) ≤ 1 := by
    rw [take_succ' x (i + d) (by omega)]
    have := dist_way (Way.append (Way.refl (x.take (i + d))) (Way.more (x[i + d]'(by omega)) Way.nil))
    simpa using this
   show dist (x.take i) (x.take (i + d + 1)) ≤ d + 1
   omega
theorem take_near (x : List UInt8) (i j : Nat) (hi : i ≤ x.length) (hj : j ≤ x.length) (h1 : i ≤ j + 2) (h2 : j ≤ i + 2) : dist (x.take i) (x.take j) ≤ 2 := by
 rcases Nat.le_total i j with h | h
 · obtain ⟨d, rfl⟩ := Nat.le.dest h
   have := take_more x i d hj
   omega
 · obtain ⟨d, rfl⟩ := Nat.le.dest h
   have := take_more x j d hi
   rw [dist_comm]
   omega
theorem beg_near {r p q : List UInt8} (hp : p.length = 16) (hq : q.length = 16) (h1 : begB r p = true) (h2 : begB r q = true) : dC p q ≤ 4 := by
 unfold begB at h1 h2
 obtain ⟨i, hi, di⟩ := List.any_eq_true.1 h1
 obtain ⟨j, hj, dj⟩ := List.any_eq_true.1 h2
 have hi := List.mem_range.1 hi
 have hj := List.mem_range.1 hj
 have di := of_decide_eq_true di
 have dj := of_decide_eq_true dj
 have hcp : cut p = p := List.take_of_length_le (by omega)
 have hcq : cut q = q := List.take_of_length_le (by omega)
 rw [hcp] at di
 rw [hcq] at dj
 have ai := dist_apart p ((cut r).take i)
 have aj := dist_apart q ((cut r).take j)
 have li : ((cut r).take i).length = i := by rw [List.length_take]; omega
 have lj : ((cut r).take j).length = j := by rw [List.length_take]; omega
 rw [li] at ai
 rw [lj] at aj
 have hij : dist ((cut r).take i) ((cut r).take j) ≤ 2 := take_near (cut r) i j (by omega) (by omega) (by omega) (by omega)
 unfold dC
 rw [hcp, hcq]
 have k1 := dist_tri p ((cut r).take i) q
 have k2 := dist_tri ((cut r).take i) ((cut r).take j) q
 have k3 := dist_comm ((cut r).take j) q
 omega
end Go.Proofs.YtcngnjkpnmpcpaaDoor
