import Derived.Laws.Externs
import Derived.Test.YtcngnjkpnmpcpaaDoorGCZ
import Derived.Test.YtcngnjkpnmpcpaaDoorNsDZ
import Derived.Test.YtcngnjkpnmpcpaaDoorPaNZ
import Derived.Test.YtcngnjkpnmpcpaaDoorRcBZ
namespace Go.Proofs.YtcngnjkpnmpcpaaDoor
open Go.RowKit Go.Shelf
attribute [local go_sem] Oper.semAt_some run_store_func
theorem beg_self {p t : List UInt8} (h : p.length ≤ 1000) : begB (p ++ t) p = true := by
 unfold begB
 have hc : cut p = p := List.take_of_length_le h
 have ht : (cut (p ++ t)).take p.length = p := by
  unfold cut
  rw [List.take_take, Nat.min_eq_left h, List.take_left]
 refine List.any_eq_true.2 ⟨p.length, List.mem_range.2 ?_, decide_eq_true ?_⟩
 · unfold cut
   rw [List.length_take, List.length_append]
   omega
 · rw [hc, ht, dist_self]
   omega
theorem beg_nil {p : List UInt8} (h : p.length = 16) : begB [] p = false := by
 unfold begB
 refine List.any_eq_false.2 fun j hj => ?_
 have hc : cut p = p := List.take_of_length_le (by omega)
 have h1 := dist_apart p ((cut []).take j)
 have h2 : ((cut []).take j).length = 0 := by simp [cut]
 rw [hc]
 simp
 omega
theorem begM : begR M7 (P3 ++ [65, 67, 71, 84]) = 2 ∧ begK M7 (P3 ++ [65, 67, 71, 84]) = true := by
 have h3 := beg_self (p := P3) (t := [65, 67, 71, 84]) (by decide)
 have h1 : begB (P3 ++ [65, 67, 71, 84]) P1 = false := by
  cases e : begB (P3 ++ [65, 67, 71, 84]) P1 with
  | false => rfl
  | true => have := beg_near rfl rfl h3 e; rw [d31] at this; omega
 have h2 : begB (P3 ++ [65, 67, 71, 84]) P2 = false := by
  cases e : begB (P3 ++ [65, 67, 71, 84]) P2 with
  | false => rfl
  | true => have := beg_near rfl rfl h3 e; rw [d32] at this; omega
 have hi : begI M7 (P3 ++ [65, 67, 71, 84]) = 2 := by
  show [P1, P2, P3, P4].findIdx _ = 2
  simp [List.findIdx_cons, h1, h2, h3]
 unfold begR begK
 rw [hi]
 exact ⟨rfl, rfl⟩
theorem begM0 : begK M7 [] = false := by
 have hi : begI M7 [] = 4 := by
  refine begI_none fun p hp => ?_
  have hp : p ∈ [P1, P2, P3, P4] := hp
  simp only [List.mem_cons, List.not_mem_nil, or_false] at hp
  rcases hp with rfl | rfl | rfl | rfl <;> exact beg_nil rfl
 unfold begK
 rw [hi]
 rfl
theorem str_app (a b : List UInt8) : (⟨a.toArray⟩ : ByteArray) ++ ⟨b.toArray⟩ = ⟨(a ++ b).toArray⟩ := by
 apply ByteArray.ext
 simp
def WkS (N : World) (D : Nat → Bool) (g : Nat → Value) (w : World) : Prop :=
 Below N.heap.size N w ∧ (D 20 = true → ∃ A c, g 20 = .slice A 4 c) ∧ (D 31 = true → PrsIn w.heap.size w (g 31) [(P1, P2), (P1, P2)])
theorem WkS.keep {N : World} {D : Nat → Bool} {g : Nat → Value} {w w' : World} {i : Nat} (h : WkS N D g w) (h20 : i ≠ 20) (h31 : i ≠ 31) (hB : Below w.heap.size w w') : WkS N (upd D i) g w' := by
 unfold WkS
 rw [upd_other D (Ne.symm h20), upd_other D (Ne.symm h31)]
 exact ⟨below_trans h.1 hB, h.2.1, fun hd => (h.2.2 hd).next hB⟩
theorem WkS.same {N : World} {D : Nat → Bool} {g : Nat → Value} {w : World} {i : Nat} (h : WkS N D g w) (h20 : i ≠ 20) (h31 : i ≠ 31) : WkS N (upd D i) g w := h.keep h20 h31 (Below.refl _ _)
theorem WkS.op20 {N : World} {D : Nat → Bool} {g : Nat → Value} {w w' : World} {A : Option Addr} {c : Nat} (h : WkS N D g w) (hB : Below w.heap.size w w') : WkS N (upd D 20) (fun j => if j = 20 then .slice A 4 c else g j) w' := by
 unfold WkS
 rw [upd_same, upd_other D (show 31 ≠ 20 by decide)]
 exact ⟨below_trans h.1 hB, fun _ => ⟨A, c, rfl⟩, fun hd => (h.2.2 hd).next hB⟩
theorem pair2_new (w : World) : PrsIn (w.alloc (.cells #[sV P1, sV P2, sV P1, sV P2] 46)).heap.size (w.alloc (.cells #[sV P1, sV P2, sV P1, sV P2] 46)) (.slice (some ⟨w.heap.size, 0, none⟩) 2 2) [(P1, P2), (P1, P2)] := by
 have hr := Rowed.new w 46 #[sV P1, sV P2, sV P1, sV P2]
 refine ⟨_, 2, rfl, Nat.le_refl _, fun _ => ⟨w.heap.size, 0, rfl, hr.lt, fun i hi => ?_⟩⟩
 have hi : i < 2 := hi
 rw [hr.cell, hr.cell]
 rcases i with _ | _ | i
 · exact ⟨rfl, rfl⟩
 · exact ⟨rfl, rfl⟩
 · omega
theorem WkS.op31 {N : World} {D : Nat → Bool} {g : Nat → Value} {w : World} (h : WkS N D g w) : WkS N (upd D 31) (fun j => if j = 31 then .slice (some ⟨w.heap.size, 0, none⟩) 2 2 else g j) (w.alloc (.cells #[sV P1, sV P2, sV P1, sV P2] 46)) := by
 unfold WkS
 rw [upd_same, upd_other D (show 20 ≠ 31 by decide)]
 exact ⟨below_trans h.1 (below_alloc w _), h.2.1, fun _ => pair2_new w⟩
theorem oneACGT : oneG [65, 67, 71, 84] = false := by decide +kernel
set_option maxRecDepth 100000 in
set_option maxHeartbeats 4000000 in
theorem wakes_any (w : World) (hT : Tab w) : Calls Tryd.prog 9 #[] w fun e w' => e = .returned (.bool true) ∧ Below w.heap.size w w' := by
 have q1 := Library_any 0 7 (by decide) w hT
 rw [libE0, libP0] at q1
 have HT := Lib.hid hT
 have Q2 := Lib.hid (fun W (h : Below w.heap.size w W) => Library_any 2 7 (by decide) W (HT.out.below h))
 rw [libE2, libP2] at Q2
 have Q3 := Lib.hid (fun W (h : Below w.heap.size w W) => Library_any 9 7 (by decide) W (HT.out.below h))
 rw [libE9] at Q3
 have hml : M7.length = 2 := rfl
 clear hT
 go_enter Tryd.func9, Tryd.ntmps9
 go_wp2_with fail
 go_at_call 10
 refine q1.mono ?_
 rintro e w1 ⟨v1, rfl, hp1, hB1⟩
 obtain ⟨A1, c1, rfl⟩ := hp1.len
 have q2 := Q2.out w1 hB1
 clear q1 hp1 Q2
 go_wp2_with fail
 go_at_call 10
 refine q2.mono ?_
 rintro e w2 ⟨v2, rfl, hp2, hB2⟩
 obtain ⟨A2, c2, rfl⟩ := hp2.len
 have hBt2 := below_trans hB1 hB2
 have q3 := Q3.out w2 hBt2
 clear q2 Q3
 go_wp2_with fail
 go_at_call 10
 refine q3.mono ?_
 rintro e w3 ⟨v3, rfl, hp3, hB3⟩
 have hBt3 := below_trans hBt2 hB3
 have hp := hp2.next hB3
 have q4 := Check_any _ M7 (by decide) w3 (HT.out.below hBt3) hp
 rw [chkM] at q4
 clear q3 hp2 hp3
 go_wp2_with fail
 go_at_call 17
 refine q4.mono ?_
 rintro e w4 ⟨rfl, hB4⟩
 have hBt4 := below_trans hBt3 hB4
 have hp := hp.next hB4
 obtain ⟨A, cap, e, -, hcs⟩ := id hp
 injection e with e1 e2 e3
 subst e1
 obtain ⟨b, off, rfl, hb, hcell⟩ := hcs (by decide)
 have hx0 : w4.cell? ⟨b, off + 2, none⟩ = some (sV P3) := (hcell 1 (by decide)).1
 subst e3
 have q5 := Begins_any _ M7 (P3 ++ [65, 67, 71, 84]) (by decide) w4 hp
 rw [begM.1, begM.2] at q5
 unfold sV at q5
 rw [← str_app] at q5
 clear q4 hcs
 go_wp2_with fail
 go_at_call 12
 refine q5.mono ?_
 rintro e w5 ⟨rfl, hB5⟩
 have hBt5 := below_trans hBt4 hB5
 have hp := hp.next hB5
 have q6 := Begins_any _ M7 [] (by decide) w5 hp
 rw [begM0] at q6
 clear q5 hx0 hcell hb
 go_wp2_with fail
 go_at_call 12
 refine q6.mono ?_
 rintro e w6 ⟨rfl, hB6⟩
 have hBt6 := below_trans hBt5 hB6
 have hp := hp.next hB6
 obtain ⟨A, cap, e, -, hcs⟩ := id hp
 injection e with e1 e2 e3
 subst e1
 subst e3
 clear e2
 obtain ⟨b', off', e4, hb, hcell⟩ := hcs (by decide)
 injection e4 with e4
 injection e4 with e4 e5
 subst e4 e5
 have hrx : ∀ W, Below w6.heap.size w6 W → W.cell? ⟨b, off, none⟩ = some (sV P1) ∧ W.cell? ⟨b, off + 1, none⟩ = some (sV P2) := fun W hW => ⟨(hW.cell (p := ⟨b, off, none⟩) hb).trans (hcell 0 (by decide)).1, (hW.cell (p := ⟨b, off + 1, none⟩) hb).trans (hcell 0 (by decide)).2⟩
 have hLe : ∀ W, Below w6.heap.size w6 W → Calls Tryd.prog 19 #[.slice (some ⟨b, off, none⟩) 2 c2] W fun e w' => e = .returned (.int .i64 6) ∧ Below W.heap.size W w' := fun W hW => by
  have h := Least_any _ M7 (by decide) W (hp.next hW)
  rw [leaM] at h
  exact h
 have hOn : ∀ W, Below w6.heap.size w6 W → Calls Tryd.prog 21 #[.string ⟨#[65, 67, 71, 84]⟩] W fun e w' => e = .returned (.bool false) ∧ Below W.heap.size W w' := fun W hW => by
  have h := One_any [65, 67, 71, 84] W (HT.out.below (below_trans hBt6 hW))
  rw [oneACGT] at h
  exact h
 have hAl : ∀ W, Below w6.heap.size w6 W → Calls Tryd.prog 14 #[.slice (some ⟨b, off, none⟩) 2 c2] W fun e w' => ∃ A c, e = .returned (.slice A 4 c) ∧ Below W.heap.size W w' := fun W hW => by
  refine (All_any _ M7 (by decide) W (hp.next hW)).mono ?_
  rintro e w' ⟨u, rfl, hown, hB⟩
  obtain ⟨A, c, rfl⟩ := (Sl.of_own hown).len
  exact ⟨A, c, rfl, hB⟩
 have hCk : ∀ v W, Below w6.heap.size w6 W → PrsIn W.heap.size W v [(P1, P2), (P1, P2)] → Calls Tryd.prog 17 #[v] W fun e w' => e = .returned (.int .i64 200) ∧ Below W.heap.size W w' := fun v W hW hv => by
  have h := Check_any v [(P1, P2), (P1, P2)] (by decide) W (HT.out.below (below_trans hBt6 hW)) hv
  rw [chkMM] at h
  exact h
 clear q6 hcs hcell hp
 generalize begR M7 [] = bn at *
 go_wp2_with fail
 refine wp_region_ghost (WkS w6) (fun g => [(63, .int .i64 2), (64, .bool true), (65, .bool true), (66, .bool true), (67, .bool true), (68, .bool true), (69, .bool false), (70, .bool true), (71, .bool true), (72, .bool true), (73, .slice (some ⟨b, off, none⟩) 2 c2), (74, .int .i64 6), (75, .bool true), (76, .bool true), (77, .bool true), (78, .bool false), (79, .bool true), (80, .bool true), (81, .bool true), (82, .slice (some ⟨b, off, none⟩) 2 c2), (83, g 20), (84, .int .i64 4), (85, .bool true), (86, .bool true), (87, .bool true), (88, .slice (some ⟨b, off, none⟩) 2 c2), (89, .pointer (some ⟨b, off, none⟩)), (90, .agg #[sV P1, sV P2]), (91, .slice (some ⟨b, off, none⟩) 2 c2), (92, .pointer (some ⟨b, off, none⟩)), (93, .agg #[sV P1, sV P2]), (94, g 31), (95, .int .i64 200), (96, .bool true), (97, .bool true), (0, .bool true)]) (fun _ => undef)
  (by kernel_rfl) (by kernel_rfl) (by kernel_rfl) (by kernel_rfl) (fun _ => by kernel_rfl) ?start ?ok ?fin
 case start =>
  intro D hD
  have e20 := hD 20 (by decide)
  have e31 := hD 31 (by decide)
  refine ⟨⟨rfl, rfl, rfl, Nat.le_refl _, fun _ _ => rfl⟩, ?_, ?_⟩
  all_goals (intro h; simp [e20, e31] at h)
 case ok =>
  intro T hT
  simp only [putAll, Act.put, List.setIfInBounds_toArray, List.set_cons_zero, List.set_cons_succ] at hT
  simp only [ghAll]
  refine ⟨?_, ?_, ?_, ?_, ?_, ?_, ?_, ?_, ?_, ?_, ?_, ?_, ?_, ?_, ?_, ?_, ?_, ?_, ?_, ?_, ?_, ?_, ?_, ?_, ?_, ?_, ?_, ?_, ?_, ?_, ?_, ?_, ?_, ?_, ?_, ?_, trivial⟩
  case refine_12 =>
   refine gh_same fun D g w' hD hdp hS => ?_
   have hq := hLe w' hS.1
   rw [hT g]
   clear hT hrx hLe hOn hAl hCk
   go_simp
   refine hq.mono ?_
   rintro e w'' ⟨rfl, hB⟩
   exact ⟨rfl, hS.keep (by decide) (by decide) hB⟩
  case refine_16 =>
   refine gh_same fun D g w' hD hdp hS => ?_
   have hq := hOn w' hS.1
   rw [hT g]
   clear hT hrx hLe hOn hAl hCk
   go_simp
   refine hq.mono ?_
   rintro e w'' ⟨rfl, hB⟩
   exact ⟨rfl, hS.keep (by decide) (by decide) hB⟩
  case refine_21 =>
   refine gh_put rfl rfl (fun g v => by rw [hT, hT]; rfl) fun D g w' hD hdp hS => ?_
   have hq := hAl w' hS.1
   rw [hT g]
   clear hT hrx hLe hOn hAl hCk
   go_simp
   refine hq.mono ?_
   rintro e w'' ⟨A, c, rfl, hB⟩
   exact hS.op20 hB
  case refine_22 =>
   refine gh_same fun D g w' hD hdp hS => ?_
   have h20 : D 20 = true := by simp [Region.binds] at hdp; simp [hdp]
   obtain ⟨A, c, hg⟩ := hS.2.1 h20
   have hS2 := Lib.hid hS
   rw [hT g, hg]
   clear hT hrx hLe hOn hAl hCk hS
   go_simp
   exact hS2.out.same (by decide) (by decide)
  case refine_32 =>
   refine gh_put rfl rfl (fun g v => by rw [hT, hT]; rfl) fun D g w' hD hdp hS => ?_
   rw [hT g]
   clear hT hrx hLe hOn hAl hCk
   go_simp
   exact hS.op31
  case refine_33 =>
   refine gh_same fun D g w' hD hdp hS => ?_
   have h31 : D 31 = true := by simp [Region.binds] at hdp; simp [hdp]
   have hq := hCk (g 31) w' hS.1 (hS.2.2 h31)
   rw [hT g]
   clear hT hrx hLe hOn hAl hCk
   go_simp
   refine hq.mono ?_
   rintro e w'' ⟨rfl, hB⟩
   exact ⟨rfl, hS.keep (by decide) (by decide) hB⟩
  case refine_1 =>
   refine gh_same fun D g w' hD hdp hS => ?_
   have hS2 := Lib.hid (hS.same (i := 0) (by decide) (by decide))
   rw [hT g]
   clear hT hrx hLe hOn hAl hCk hS hdp hD
   go_simp
   exact hS2.out
  case refine_2 =>
   refine gh_same fun D g w' hD hdp hS => ?_
   have hS2 := Lib.hid (hS.same (i := 1) (by decide) (by decide))
   rw [hT g]
   clear hT hrx hLe hOn hAl hCk hS hdp hD
   go_simp
   exact hS2.out
  case refine_3 =>
   refine gh_same fun D g w' hD hdp hS => ?_
   have hS2 := Lib.hid (hS.same (i := 2) (by decide) (by decide))
   rw [hT g]
   clear hT hrx hLe hOn hAl hCk hS hdp hD
   go_simp
   exact hS2.out
  case refine_4 =>
   refine gh_same fun D g w' hD hdp hS => ?_
   have hS2 := Lib.hid (hS.same (i := 3) (by decide) (by decide))
   rw [hT g]
   clear hT hrx hLe hOn hAl hCk hS hdp hD
   go_simp
   exact hS2.out
  case refine_5 =>
   refine gh_same fun D g w' hD hdp hS => ?_
   have hS2 := Lib.hid (hS.same (i := 4) (by decide) (by decide))
   rw [hT g]
   clear hT hrx hLe hOn hAl hCk hS hdp hD
   go_simp
   exact hS2.out
  case refine_6 =>
   refine gh_same fun D g w' hD hdp hS => ?_
   have hS2 := Lib.hid (hS.same (i := 5) (by decide) (by decide))
   rw [hT g]
   clear hT hrx hLe hOn hAl hCk hS hdp hD
   go_simp
   exact hS2.out
  case refine_7 =>
   refine gh_same fun D g w' hD hdp hS => ?_
   have hS2 := Lib.hid (hS.same (i := 6) (by decide) (by decide))
   rw [hT g]
   clear hT hrx hLe hOn hAl hCk hS hdp hD
   go_simp
   exact hS2.out
  case refine_8 =>
   refine gh_same fun D g w' hD hdp hS => ?_
   have hS2 := Lib.hid (hS.same (i := 7) (by decide) (by decide))
   rw [hT g]
   clear hT hrx hLe hOn hAl hCk hS hdp hD
   go_simp
   exact hS2.out
  case refine_9 =>
   refine gh_same fun D g w' hD hdp hS => ?_
   have hS2 := Lib.hid (hS.same (i := 8) (by decide) (by decide))
   rw [hT g]
   clear hT hrx hLe hOn hAl hCk hS hdp hD
   go_simp
   exact hS2.out
  case refine_10 =>
   refine gh_same fun D g w' hD hdp hS => ?_
   have hS2 := Lib.hid (hS.same (i := 9) (by decide) (by decide))
   rw [hT g]
   clear hT hrx hLe hOn hAl hCk hS hdp hD
   go_simp
   exact hS2.out
  case refine_11 =>
   refine gh_same fun D g w' hD hdp hS => ?_
   have hS2 := Lib.hid (hS.same (i := 10) (by decide) (by decide))
   rw [hT g]
   clear hT hrx hLe hOn hAl hCk hS hdp hD
   go_simp
   exact hS2.out
  case refine_13 =>
   refine gh_same fun D g w' hD hdp hS => ?_
   have hS2 := Lib.hid (hS.same (i := 12) (by decide) (by decide))
   rw [hT g]
   clear hT hrx hLe hOn hAl hCk hS hdp hD
   go_simp
   exact hS2.out
  case refine_14 =>
   refine gh_same fun D g w' hD hdp hS => ?_
   have hS2 := Lib.hid (hS.same (i := 13) (by decide) (by decide))
   rw [hT g]
   clear hT hrx hLe hOn hAl hCk hS hdp hD
   go_simp
   exact hS2.out
  case refine_15 =>
   refine gh_same fun D g w' hD hdp hS => ?_
   have hS2 := Lib.hid (hS.same (i := 14) (by decide) (by decide))
   rw [hT g]
   clear hT hrx hLe hOn hAl hCk hS hdp hD
   go_simp
   exact hS2.out
  case refine_17 =>
   refine gh_same fun D g w' hD hdp hS => ?_
   have hS2 := Lib.hid (hS.same (i := 16) (by decide) (by decide))
   rw [hT g]
   clear hT hrx hLe hOn hAl hCk hS hdp hD
   go_simp
   exact hS2.out
  case refine_18 =>
   refine gh_same fun D g w' hD hdp hS => ?_
   have hS2 := Lib.hid (hS.same (i := 17) (by decide) (by decide))
   rw [hT g]
   clear hT hrx hLe hOn hAl hCk hS hdp hD
   go_simp
   exact hS2.out
  case refine_19 =>
   refine gh_same fun D g w' hD hdp hS => ?_
   have hS2 := Lib.hid (hS.same (i := 18) (by decide) (by decide))
   rw [hT g]
   clear hT hrx hLe hOn hAl hCk hS hdp hD
   go_simp
   exact hS2.out
  case refine_20 =>
   refine gh_same fun D g w' hD hdp hS => ?_
   have hS2 := Lib.hid (hS.same (i := 19) (by decide) (by decide))
   rw [hT g]
   clear hT hrx hLe hOn hAl hCk hS hdp hD
   go_simp
   exact hS2.out
  case refine_23 =>
   refine gh_same fun D g w' hD hdp hS => ?_
   have hS2 := Lib.hid (hS.same (i := 22) (by decide) (by decide))
   rw [hT g]
   clear hT hrx hLe hOn hAl hCk hS hdp hD
   go_simp
   exact hS2.out
  case refine_24 =>
   refine gh_same fun D g w' hD hdp hS => ?_
   have hS2 := Lib.hid (hS.same (i := 23) (by decide) (by decide))
   rw [hT g]
   clear hT hrx hLe hOn hAl hCk hS hdp hD
   go_simp
   exact hS2.out
  case refine_25 =>
   refine gh_same fun D g w' hD hdp hS => ?_
   have hS2 := Lib.hid (hS.same (i := 24) (by decide) (by decide))
   rw [hT g]
   clear hT hrx hLe hOn hAl hCk hS hdp hD
   go_simp
   exact hS2.out
  case refine_26 =>
   refine gh_same fun D g w' hD hdp hS => ?_
   have hS2 := Lib.hid (hS.same (i := 25) (by decide) (by decide))
   rw [hT g]
   clear hT hrx hLe hOn hAl hCk hS hdp hD
   go_simp
   exact hS2.out
  case refine_27 =>
   refine gh_same fun D g w' hD hdp hS => ?_
   have hS2 := Lib.hid (hS.same (i := 26) (by decide) (by decide))
   rw [hT g]
   clear hT hrx hLe hOn hAl hCk hS hdp hD
   go_simp
   exact hS2.out
  case refine_28 =>
   refine gh_same fun D g w' hD hdp hS => ?_
   obtain ⟨cx1, cx2⟩ := hrx w' hS.1
   have hS2 := Lib.hid (hS.same (i := 27) (by decide) (by decide))
   rw [hT g]
   clear hT hrx hLe hOn hAl hCk hS hdp hD
   go_simp
   exact hS2.out
  case refine_29 =>
   refine gh_same fun D g w' hD hdp hS => ?_
   have hS2 := Lib.hid (hS.same (i := 28) (by decide) (by decide))
   rw [hT g]
   clear hT hrx hLe hOn hAl hCk hS hdp hD
   go_simp
   exact hS2.out
  case refine_30 =>
   refine gh_same fun D g w' hD hdp hS => ?_
   have hS2 := Lib.hid (hS.same (i := 29) (by decide) (by decide))
   rw [hT g]
   clear hT hrx hLe hOn hAl hCk hS hdp hD
   go_simp
   exact hS2.out
  case refine_31 =>
   refine gh_same fun D g w' hD hdp hS => ?_
   obtain ⟨cx1, cx2⟩ := hrx w' hS.1
   have hS2 := Lib.hid (hS.same (i := 30) (by decide) (by decide))
   rw [hT g]
   clear hT hrx hLe hOn hAl hCk hS hdp hD
   go_simp
   exact hS2.out
  case refine_34 =>
   refine gh_same fun D g w' hD hdp hS => ?_
   have hS2 := Lib.hid (hS.same (i := 33) (by decide) (by decide))
   rw [hT g]
   clear hT hrx hLe hOn hAl hCk hS hdp hD
   go_simp
   exact hS2.out
  case refine_35 =>
   refine gh_same fun D g w' hD hdp hS => ?_
   have hS2 := Lib.hid (hS.same (i := 34) (by decide) (by decide))
   rw [hT g]
   clear hT hrx hLe hOn hAl hCk hS hdp hD
   go_simp
   exact hS2.out
  case refine_36 =>
   refine gh_same fun D g w' hD hdp hS => ?_
   have hS2 := Lib.hid (hS.same (i := 35) (by decide) (by decide))
   rw [hT g]
   clear hT hrx hLe hOn hAl hCk hS hdp hD
   go_simp
   exact hS2.out
 case fin =>
  intro T hT D g w' hD hS
  simp only [putAll, Act.put, List.setIfInBounds_toArray, List.set_cons_zero, List.set_cons_succ] at hT
  rw [hT g]
  have HB := Lib.hid hS.1
  clear hS hT hD hrx hLe hOn hAl hCk
  go_wp2_with fail
  go_ret
  exact ⟨rfl, below_trans hBt6 HB.out⟩
end Go.Proofs.YtcngnjkpnmpcpaaDoor
namespace Go.Proofs.YtcngnjkpnmpcpaaDoor
open Go.RowKit Go.Shelf
attribute [local go_sem] Oper.semAt_some run_store_func
theorem str_of {w : World} {sv : Value} {x : List UInt8} (h : Sl eB w.heap.size w sv x) : (convert 39 9 sv).run Tryd.prog w = .ok (.string ⟨x.toArray⟩) w :=
 run_str (P := Tryd.prog) h 39 9 5 Tryd.underlying39 Tryd.underlying5 Tryd.underlying9
end Go.Proofs.YtcngnjkpnmpcpaaDoor
