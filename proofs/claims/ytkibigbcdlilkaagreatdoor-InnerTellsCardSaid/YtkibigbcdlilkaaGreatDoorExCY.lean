import Derived.Lib.SliceRun
import Derived.Deep.QuietTactic
import Derived.Test.YtkibigbcdlilkaaGreatDoorDTSY
import Derived.Test.YtkibigbcdlilkaaGreatDoorExMY
import Derived.Test.YtkibigbcdlilkaaGreatDoorRJY
import Derived.Test.YtkibigbcdlilkaaGreatDoorRXY
import Derived.Test.YtkibigbcdlilkaaGreatDoorSDY
import Derived.Test.YtkibigbcdlilkaaGreatDoorSuKY
import Derived.Test.YtkibigbcdlilkaaGreatDoorSwCY
import Derived.Test.YtkibigbcdlilkaaGreatDoorVaAY
namespace Go.Proofs.YtkibigbcdlilkaaGreatDoor.Ex
open Go.RowKit Go.Shelf
attribute [local go_sem] Oper.semAt_some run_store_func
theorem wrap_small (z : Int) (h0 : 0 ≤ z) (h1 : z ≤ 1000001) : IntKind.i64.wrap z = z := by rw [IntKind.wrap_i64]; omega
theorem wrap64_small (z : Int) (h0 : 0 ≤ z) (h1 : z ≤ 1000001) : wrap64 z = z := by rw [wrap64]; omega
theorem wrap_succ (n : Nat) (h : n ≤ 1000000) : IntKind.i64.wrap ((n : Int) + 1) = (n : Int) + 1 := wrap_small _ (by omega) (by omega)
theorem wrap64_succ (n : Nat) (h : n ≤ 1000000) : wrap64 ((n : Int) + 1) = (n : Int) + 1 := wrap64_small _ (by omega) (by omega)
theorem add_off (g i j : Nat) : (⟨g, i, none⟩ : Addr).add j = ⟨g, i + j, none⟩ := by unfold Addr.add; split <;> simp_all
theorem below_drew_w (w : World) : Below w.heap.size w w.drew := ⟨rfl, rfl, rfl, Nat.le_refl _, fun _ _ => rfl⟩
theorem zero_u8 (w : World) : (zeroValue 5).run Tryz.prog w = .ok (.int .u8 0) w := by kernel_rfl
set_option maxRecDepth 100000 in
set_option maxHeartbeats 4000000 in
theorem delete_own (x : List UInt8) (i : Nat) (hi : i < x.length) (hreach : x.length ≤ 1000000) (base : Nat) (v : Value) (w : World) (hbase : base ≤ w.heap.size) (hown : Own8 base w v x) :
    Calls Tryz.prog 126 #[v, .int .i64 i, .int .i64 ((i : Int) + 1)] w fun e w' => ∃ v', e = .returned v' ∧ Own8 base w' v' (delW x i) ∧ Below base w w' := by
  obtain ⟨i0, hi0, hz0, hz1, hz2⟩ := info_parts info_u8
  rcases hown.2 with ⟨_, h⟩ | ⟨g, cap, cur, rfl, hbg, hg, hle, hcm, hcs, htk⟩
  · omega
  rw [Nat.mul_one] at hcs htk
  obtain ⟨L, rfl⟩ : ∃ L : List Value, cur = L.toArray := ⟨cur.toList, by simp⟩
  have hL : L.length = cap := by simpa using hcs
  have htk : L.take x.length = x.map eB := by simpa using htk
  have hg' : Rowed w g 5 L.toArray := hg
  have hgd : Rowed w.drew g 5 L.toArray := hg
  have hgl := hg'.lt
  have hn : (x.map eB).length = x.length := by simp
  have hdl : ((x.map eB).drop (i + 1)).length = x.length - (i + 1) := by rw [List.length_drop, hn]
  have hcell : ∀ j v, (x.map eB)[j]? = some v → w.drew.cell? ⟨g, j, none⟩ = some v := fun j v h => by
   rw [← htk, List.getElem?_take] at h
   split at h
   · rw [hgd.cell j]
     simpa using h
   · cases h
  obtain ⟨news, hnews⟩ : ∃ news, news = (x.map eB).drop (i + 1) := ⟨_, rfl⟩
  have hnl : news.length = x.length - (i + 1) := by rw [hnews, hdl]
  obtain ⟨A, hA, hsrc⟩ : ∃ A : Addr, (if cap = i + 1 then some (⟨g, 0, none⟩ : Addr) else some ⟨g, i + 1, none⟩) = some A ∧ Hid (∀ t u, news[t]? = some u → w.drew.cell? (A.add t) = some u) := by
   by_cases h : cap = i + 1
   · refine ⟨⟨g, 0, none⟩, by simp [h], fun t u hu => ?_⟩
     rw [List.eq_nil_of_length_eq_zero (show news.length = 0 by omega)] at hu
     simp at hu
   · refine ⟨⟨g, i + 1, none⟩, by simp [h], fun t u hu => ?_⟩
     rw [add_off]
     refine hcell _ u ?_
     rwa [hnews, List.getElem?_drop] at hu
  have s1 : Hid (news.length = (x.length - (i + 1)) * 1) := Lib.hid (by rw [Nat.mul_one]; exact hnl)
  have s2 : Hid (∀ u ∈ news, u.oneCell' = true) := Lib.hid (by
   intro u hu
   rw [hnews] at hu
   obtain ⟨y, _, rfl⟩ := List.mem_map.1 (List.mem_of_mem_drop hu)
   rfl)
  have s3 : Hid (∀ t, t < news.length → (w.drew.cell? ⟨g, 0 + i * 1 + t, none⟩).isSome = true ∧ w.drew.frozen? ⟨g, 0 + i * 1 + t, none⟩ = false) := Lib.hid (by
   intro t ht
   refine ⟨?_, hgd.frozen _⟩
   rw [hgd.cell]
   simp
   omega)
  obtain ⟨W1, hW1⟩ : ∃ W1, W1 = w.drew.setCells g (0 + i * 1) news := ⟨_, rfl⟩
  have hr1 : Rowed W1 g 5 (splice L i news).toArray := by
   rw [hW1, Nat.mul_one, Nat.zero_add]
   exact rowed_setCells news i L w.drew hgd (by omega)
  have hB1 : Below base w W1 := by
   rw [hW1]
   exact below_setCells hbg news _ ((below_drew_w w).mono hbase)
  have hsl : (splice L i news).length = cap := by rw [length_splice _ _ _ (by omega), hL]
  have hcl : ∀ ty, (Builtin.clear_ #[22] ty #[.slice (some ⟨g, i + (x.length - (i + 1)), none⟩) (x.length - (i + (x.length - (i + 1)))) (cap - (i + (x.length - (i + 1))))]).run Tryz.prog W1 = .ok (.tuple #[]) (W1.setCells g (i + (x.length - (i + 1))) (List.replicate (x.length - (i + (x.length - (i + 1)))) (eB 0))) :=
   fun ty => Lib.run_clear_slice W1 _ _ ty _ Tryz.underlying22 zero_u8 rfl rfl g (i + (x.length - (i + 1))) _ _ (by omega) (fun t ht => by rw [hr1.cell]; simp; omega) (fun t ht => hr1.frozen _)
  have hr2 := rowed_setCells (List.replicate (x.length - (i + (x.length - (i + 1)))) (eB 0)) (i + (x.length - (i + 1))) _ W1 hr1 (by simp; omega)
  have hB2 := below_setCells hbg (List.replicate (x.length - (i + (x.length - (i + 1)))) (eB 0)) (i + (x.length - (i + 1))) hB1
  have hW : Hid (W1 = w.drew.setCells g (0 + i * 1) news) := Lib.hid hW1
  have HX := Lib.hid (And.intro hr2 (And.intro hB2 (And.intro htk (And.intro hL (And.intro hnews hsl)))))
  have hne : ¬ ((i : Int) = (i : Int) + 1) := by omega
  have htn : ((i : Int) + 1).toNat = i + 1 := by omega
  have b1 : (i : Int) ≤ (i : Int) + 1 := by omega
  have b2 : (0 : Int) ≤ (i : Int) + 1 := by omega
  have b3 : (i : Int) + 1 ≤ (x.length : Int) := by omega
  have b4 : (x.length : Int) ≤ (cap : Int) := by omega
  have b5 : (i : Int) + 1 ≤ (cap : Int) := by omega
  have b6 : (i : Int) ≤ (cap : Int) := by omega
  have Hi := Lib.hid hi
  clear hW1 hr1 hB1 hr2 hB2 hnews hnl hdl hn hcell hgd hg' hg htk hL hcs hsl hz0 hz2 hown
  go_enter Tryz.func126, Tryz.ntmps126
  go_wp2_with fail
  go_region_law (refine step_append_room rfl (.tmp 22) (.tmp 25) 22 rfl 5 i0 1 Tryz.underlying22 hi0 hz1 g 0 i cap (by simp [Act.eval, Act.put]) A (x.length - (i + 1)) (cap - (i + 1)) news (by simp [Act.eval, Act.put]) s1.out hsrc.out s2.out (by omega) s3.out ?_; rw [← hW.out])
  go_wp2_with fail
  go_ret
  have hi' := Hi.out
  have e1 : i + (x.length - (i + 1)) = x.length - 1 := by omega
  have e2 : x.length - (x.length - 1) = 1 := by omega
  have hl : (delW x i).length = x.length - 1 := by have := delW_length x i hi'; omega
  obtain ⟨X1, X2, X3, X4, X5, X6⟩ := HX.out
  rw [e1, e2] at X1 X2
  rw [e1, e2]
  have ho : (W1.setCells g (x.length - 1) (List.replicate 1 (eB 0))).ownsRow base 5 1 (.slice (some ⟨g, 0, none⟩) (x.length - 1) cap) (x.length - 1) ((delW x i).map eB) := by
   refine ⟨by rw [List.length_map, hl, Nat.mul_one], .inr ⟨g, cap, _, rfl, hbg, X1, by omega, hcm, ?_, ?_⟩⟩
   · rw [List.size_toArray, length_splice _ _ _ (by rw [X6]; simp; omega), X6, Nat.mul_one]
   · rw [Nat.mul_one, X5]
     have h := del_take (eB 0) X3 hi' (by omega)
     rw [show (List.replicate 1 (eB 0)) = [eB 0] from rfl, h]
     simp [delW]
  exact ⟨_, rfl, by rw [Own8, hl]; exact ho, X2⟩
end Go.Proofs.YtkibigbcdlilkaaGreatDoor.Ex
namespace Go.Proofs.YtkibigbcdlilkaaGreatDoor.Ex
open Go.RowKit Go.Shelf
attribute [local go_sem] Oper.semAt_some run_store_func
theorem sl_at {B : Nat} {W : World} {v : Value} {x : List UInt8} (h : Sl eB B W v x) (h0 : 0 < x.length) : ∃ b off c, v = .slice (some ⟨b, off, none⟩) x.length c ∧ x.length ≤ c ∧ b < B ∧ ∀ p, p < x.length → W.cell? ⟨b, off + p, none⟩ = some (eB (atB x p)) := by
 obtain ⟨A, c, rfl, hc, hcs⟩ := h
 obtain ⟨b, off, rfl, hb, hcell⟩ := hcs h0
 refine ⟨b, off, c, rfl, hc, hb, fun p hp => hcell p _ ?_⟩
 simp [atB, hp]
theorem drewN_any (w : World) (a b : Nat) : ∃ n, (w.drewN a).drewN b = w.drewN n := ⟨a + b, by simp [World.drewN, Nat.add_assoc]⟩
def withG (y : List UInt8) (z : Int) : List UInt8 := if 0 ≤ z ∧ z < y.length then delW y z.toNat else y
set_option maxRecDepth 100000 in
set_option maxHeartbeats 1000000 in
theorem Without_any (sv : Value) (y : List UInt8) (z : Int) (hreach : y.length ≤ 1000000) (w : World) (hS : Sl eB w.heap.size w sv y) :
    Calls Tryz.prog 101 #[sv, .int .i64 z] w fun e w' => ∃ v, e = .returned v ∧ Own8 w.heap.size w' v (withG y z) ∧ Below w.heap.size w w' := by
  have hCl := SClone_any sv y (by omega) w hS
  obtain ⟨A, cap, rfl⟩ := hS.len
  by_cases h : 0 ≤ z ∧ z < y.length
  · obtain ⟨p, rfl⟩ : ∃ p : Nat, z = p := ⟨z.toNat, by omega⟩
    have hp : p < y.length := by omega
    have hg : withG y (p : Int) = delW y p := by rw [withG, if_pos h]; simp
    rw [hg]
    have d1 : decide ((p : Int) < 0) = false := decide_eq_false (by omega)
    have d2 : decide ((y.length : Int) ≤ (p : Int)) = false := decide_eq_false (by omega)
    have hD := fun base v w hb ho => delete_own y p hp hreach base v w hb ho
    have hwp := wrap64_succ p (by omega)
    clear h hS hg
    go_enter Tryz.func101, Tryz.ntmps101
    go_wp2_with fail
    go_at_call 97
    refine hCl.mono ?_
    rintro e w1 ⟨v1, rfl, hv, hB⟩
    have hD1 := hD w.heap.size v1 w1 hB.size hv
    obtain ⟨A1, k1, rfl⟩ := hv.sl.len
    go_wp2_with fail
    go_at_call 126
    refine hD1.mono ?_
    rintro e w2 ⟨v2, rfl, hv2, hB2⟩
    go_wp2_with fail
    go_ret
    exact ⟨v2, rfl, hv2, hB.trans hB2⟩
  · have hg : withG y z = y := by rw [withG, if_neg h]
    rw [hg]
    have hd : decide (z < 0) = true ∨ (decide (z < 0) = false ∧ decide ((y.length : Int) ≤ z) = true) := by
     by_cases h0 : z < 0
     · exact .inl (decide_eq_true h0)
     · exact .inr ⟨decide_eq_false h0, decide_eq_true (by omega)⟩
    clear h hS hg
    rcases hd with d1 | ⟨d1, d2⟩
    all_goals
     go_enter Tryz.func101, Tryz.ntmps101
     go_wp2_with fail
     go_at_call 97
     refine hCl.mono ?_
     rintro e w1 ⟨v1, rfl, hv, hB⟩
     obtain ⟨A1, k1, rfl⟩ := hv.sl.len
     go_wp2_with fail
     go_ret
     exact ⟨_, rfl, hv, hB⟩
theorem rest_is (x n : Int) (h0 : 0 < n) (hn : n ≤ 100000) : (wrap64 (x.tmod n + n)).tmod n = x % n := by
 have h1 : x.tmod n < n := Int.tmod_lt_of_pos x h0
 have h2 : -n < x.tmod n := Int.lt_tmod_of_pos x h0
 rw [wrap64_small _ (by omega) (by omega), Int.tmod_eq_emod_of_nonneg (by omega), Int.add_emod_right, Int.tmod_eq_emod]
 split
 · simp
 · rw [show ((n.natAbs : Int)) = n by omega, Int.sub_emod_right, Int.emod_emod]
set_option maxRecDepth 100000 in
theorem rest_any (x n : Int) (h0 : 0 < n) (hn : n ≤ 100000) (w : World) : Calls Tryz.prog 148 #[.int .i64 x, .int .i64 n] w fun e w' => e = .returned (.int .i64 (x % n)) ∧ w = w' := by
 have h := rest_is x n h0 hn
 have hne : ¬ n = 0 := by omega
 clear hn
 go_enter Tryz.func148, Tryz.ntmps148
 go_wp2_with fail
 go_ret
 exact ⟨by rw [← h]; rfl, rfl⟩
set_option maxRecDepth 100000 in
set_option maxHeartbeats 1000000 in
theorem around_any (sv : Value) (x : List UInt8) (p : Nat) (hp : p < x.length) (hreach : x.length ≤ 1000) (w : World) (hS : Sl eB w.heap.size w sv x) :
    Calls Tryz.prog 147 #[sv, .int .i64 p] w fun e w' => e = .returned (.int .i64 (arG x p)) ∧ ∃ n, w' = w.drewN n := by
  obtain ⟨b, off, c, rfl, hc, hb, hcell⟩ := sl_at hS (by omega)
  have H := Lib.hid (show arG x p = (p : Int) * ro x p + (if p + 1 < x.length then ((p : Int) + 1) * ro x (p + 1) else 0) from rfl)
  have k0 := hcell p hp
  have hpi : (p : Int) < x.length := by omega
  have hw1 := wrap64_succ p (by omega)
  have hw2 := wrap_succ p (by omega)
  have hw3 : wrap64 ((p : Int) + ((p : Int) + 1)) = (p : Int) + ((p : Int) + 1) := wrap64_small _ (by omega) (by omega)
  have tn : ((p : Int) + 1).toNat = p + 1 := by omega
  clear hS
  have hq : ∀ nq j v, w.cell? ⟨b, off + j, none⟩ = some v → (w.drewN nq).cell? ⟨b, off + j, none⟩ = some v := fun _ _ _ h => h
  obtain ⟨c2, hc2⟩ : ∃ c2, decide ((atB x p).toNat ≤ (atB x (p + 1)).toNat) = c2 := ⟨_, rfl⟩
  have hr2 : ro x (p + 1) = if c2 then 1 else 0 := by
   rw [ro_pos x (p + 1) (by omega), ← hc2, Nat.add_sub_cancel]
   simp
  have hd : (p + 1 < x.length ∧ decide ((p : Int) + 1 < (x.length : Int)) = true) ∨ (¬ p + 1 < x.length ∧ decide ((p : Int) + 1 < (x.length : Int)) = false) := by
   by_cases h1 : p + 1 < x.length
   · exact .inl ⟨h1, decide_eq_true (by omega)⟩
   · exact .inr ⟨h1, decide_eq_false (by omega)⟩
  have l0 : (0 : Int) ≤ (p : Int) + 1 := by omega
  by_cases h0 : p = 0
  · have hp0 : decide (0 < p) = false := decide_eq_false (by omega)
    have hz : ro x p = 0 := by rw [h0]; exact ro_zero x
    rcases hd with ⟨h1, d2⟩ | ⟨h1, d2⟩
    · have k2 := hcell (p + 1) h1
      have hpi2 : (p : Int) + 1 < x.length := by omega
      have Hr := Lib.hid (show arG x p = if c2 then (p : Int) + 1 else 0 by rw [H.out, hz, hr2, if_pos h1]; cases c2 <;> simp)
      clear hcell hr2 h1 h0 hz H
      generalize atB x p = a0 at *
      generalize atB x (p + 1) = a1 at *
      cases c2
      all_goals
       go_enter Tryz.func147, Tryz.ntmps147
       go_wp2_with fail
       go_quiet (fail)
       have k0 := hq nq _ _ k0
       have k2 := hq nq _ _ k2
       clear hq
       go_wp2_with fail
       go_quiet (fail)
       go_wp2_with fail
       go_ret
       exact ⟨by rw [Hr.out]; rfl, by first | exact ⟨_, rfl⟩ | exact drewN_any _ _ _⟩
    · have Hr := Lib.hid (show arG x p = 0 by rw [H.out, hz, if_neg h1]; simp)
      clear hcell hr2 h1 h0 hz H hc2
      generalize atB x p = a0 at *
      go_enter Tryz.func147, Tryz.ntmps147
      go_wp2_with fail
      go_quiet (fail)
      have k0 := hq nq _ _ k0
      clear hq
      go_wp2_with fail
      go_quiet (fail)
      go_wp2_with fail
      go_ret
      exact ⟨by rw [Hr.out]; rfl, by first | exact ⟨_, rfl⟩ | exact drewN_any _ _ _⟩
  · have hp0 : decide (0 < p) = true := decide_eq_true (by omega)
    obtain ⟨c1, hc1⟩ : ∃ c1, decide ((atB x (p - 1)).toNat ≤ (atB x p).toNat) = c1 := ⟨_, rfl⟩
    have hr1 : ro x p = if c1 then 1 else 0 := by
     rw [ro_pos x p (by omega), ← hc1]
     simp
    have k1 := hcell (p - 1) (by omega)
    have m0 : (0 : Int) ≤ (p : Int) - 1 := by omega
    have m1 : (p : Int) - 1 < x.length := by omega
    have m2 : ((p : Int) - 1).toNat = p - 1 := by omega
    have m3 : IntKind.i64.wrap ((p : Int) - 1) = (p : Int) - 1 := wrap_small _ (by omega) (by omega)
    have m4 : wrap64 ((p : Int) - 1) = (p : Int) - 1 := wrap64_small _ (by omega) (by omega)
    rcases hd with ⟨h1, d2⟩ | ⟨h1, d2⟩
    · have k2 := hcell (p + 1) h1
      have hpi2 : (p : Int) + 1 < x.length := by omega
      have Hr := Lib.hid (show arG x p = (if c1 then (p : Int) else 0) + (if c2 then (p : Int) + 1 else 0) by rw [H.out, hr1, hr2, if_pos h1]; cases c1 <;> cases c2 <;> simp)
      clear hcell hr2 hr1 h1 h0 H
      generalize atB x p = a0 at *
      generalize atB x (p + 1) = a1 at *
      generalize atB x (p - 1) = a2 at *
      cases c1 <;> cases c2
      all_goals
       go_enter Tryz.func147, Tryz.ntmps147
       go_wp2_with fail
       go_quiet (fail)
       have k0 := hq nq _ _ k0
       have k2 := hq nq _ _ k2
       clear hq
       go_wp2_with fail
       go_quiet (fail)
       go_wp2_with fail
       go_ret
       exact ⟨by rw [Hr.out]; simp, by first | exact ⟨_, rfl⟩ | exact drewN_any _ _ _⟩
    · have Hr := Lib.hid (show arG x p = if c1 then (p : Int) else 0 by rw [H.out, hr1, if_neg h1]; cases c1 <;> simp)
      clear hcell hr2 hr1 h1 h0 H hc2
      generalize atB x p = a0 at *
      generalize atB x (p - 1) = a2 at *
      cases c1
      all_goals
       go_enter Tryz.func147, Tryz.ntmps147
       go_wp2_with fail
       go_quiet (fail)
       have k0 := hq nq _ _ k0
       clear hq
       go_wp2_with fail
       go_quiet (fail)
       go_wp2_with fail
       go_ret
       exact ⟨by rw [Hr.out]; simp, by first | exact ⟨_, rfl⟩ | exact drewN_any _ _ _⟩
end Go.Proofs.YtkibigbcdlilkaaGreatDoor.Ex
namespace Go.Proofs.YtkibigbcdlilkaaGreatDoor.Ex
open Go.RowKit Go.Shelf
attribute [local go_sem] Oper.semAt_some run_store_func
theorem Of_yes (x : List UInt8) (a b c : Int) (h : sumsG x = .ok (a, b, c)) (hreach : x.length ≤ 1000000) (sv : Value) (w : World) (hT : Tab w) (hS : Sl eB w.heap.size w sv x) :
    Calls Tryz.prog 129 #[sv] w fun e w' => e = .returned (.tuple #[v3 a b c, .int .i64 0]) ∧ Below w.heap.size w w' :=
  (Of_any sv x hreach w hT hS).mono (by
   rintro e w' ⟨hB, ⟨a', b', c', hy, rfl⟩ | ⟨m, hm, rfl⟩⟩
   · rw [h] at hy; cases hy; exact ⟨rfl, hB⟩
   · rw [h] at hm; cases hm)
def RowL (W : World) (g : Nat) (x : List UInt8) : Prop := ∃ L : List Value, Rowed W g 5 L.toArray ∧ x.length ≤ L.length ∧ L.take x.length = x.map eB
theorem RowL.lt {W : World} {g : Nat} {x : List UInt8} (h : RowL W g x) : g < W.heap.size := by obtain ⟨L, h1, _⟩ := h; exact h1.lt
theorem RowL.same {W W' : World} {g : Nat} {x : List UInt8} (h : RowL W g x) (e : W'.heap[g]? = W.heap[g]?) : RowL W' g x := by
 obtain ⟨L, h1, h2, h3⟩ := h
 exact ⟨L, e.trans h1, h2, h3⟩
theorem RowL.kc {W W' : World} {g : Nat} {x : List UInt8} (h : RowL W g x) (hk : KC W W') : RowL W' g x := by
 obtain ⟨L, h1, h2, h3⟩ := h
 exact ⟨L, hk g _ h1 rfl, h2, h3⟩
theorem RowL.cell {W : World} {g : Nat} {x : List UInt8} (h : RowL W g x) {p : Nat} (hp : p < x.length) : W.cell? ⟨g, p, none⟩ = some (eB (atB x p)) := by
 obtain ⟨L, h1, h2, h3⟩ := h
 have e : (L.take x.length)[p]? = (x.map eB)[p]? := by rw [h3]
 rw [List.getElem?_take, if_pos hp] at e
 rw [h1.cell p, List.getElem?_toArray, e]
 simp [atB, hp]
theorem RowL.frozen {W : World} {g : Nat} {x : List UInt8} (h : RowL W g x) (p : Nat) : W.frozen? ⟨g, p, none⟩ = false := by obtain ⟨L, h1, _⟩ := h; exact h1.frozen p
theorem RowL.set {W : World} {g : Nat} {x : List UInt8} (h : RowL W g x) (p : Nat) (c : UInt8) : RowL (W.setCell ⟨g, p, none⟩ (eB c)) g (x.set p c) := by
 obtain ⟨L, h1, h2, h3⟩ := h
 refine ⟨L.set p (eB c), ?_, by simpa using h2, ?_⟩
 · have := h1.set p (eB c)
   rwa [show L.toArray.setIfInBounds p (eB c) = (L.set p (eB c)).toArray by simp] at this
 · rw [List.length_set, List.take_set, h3, List.map_set]
theorem RowL.sl {W : World} {g : Nat} {x : List UInt8} (h : RowL W g x) {cx : Nat} (hc : x.length ≤ cx) : Sl eB W.heap.size W (.slice (some ⟨g, 0, none⟩) x.length cx) x :=
 ⟨_, cx, rfl, hc, fun _ => ⟨g, 0, rfl, h.lt, fun j u hu => by
  have hj : j < x.length := (List.getElem?_eq_some_iff.1 hu).1
  rw [Nat.zero_add, h.cell hj]
  have := (List.getElem?_eq_some_iff.1 hu).2
  simp [atB, hj, this]⟩⟩
theorem rowL_own {B : Nat} {W : World} {v : Value} {x : List UInt8} (h : Own8 B W v x) (h0 : 0 < x.length) : ∃ g cx, v = .slice (some ⟨g, 0, none⟩) x.length cx ∧ B ≤ g ∧ x.length ≤ cx ∧ RowL W g x := by
 rcases h.2 with ⟨_, h1⟩ | ⟨g, cap, cur, e, hb, hg, hle, hcm, hcs, htk⟩
 · omega
 · rw [Nat.mul_one] at hcs htk
   exact ⟨g, cap, e, hb, hle, cur.toList, by simpa [Rowed] using hg, by simpa [hcs] using hle, htk⟩
def s1G (y : List UInt8) (p : Nat) : Int := sT (delW y p) (y.length - 1) % ((y.length - 1 : Nat) : Int)
def s2G (y : List UInt8) (p : Nat) : Int := sS (delW y p) (y.length - 1) % 4
def s3G (y : List UInt8) (p : Nat) : Int := sW (delW y p) (y.length - 1) % (6 * ((y.length - 1 : Nat) : Int) + 1)
def FourL (y : List UInt8) : Prop := ∀ k, k < y.length → codeOf (atB y k).toNat ≠ -1
theorem four_delL (x : List UInt8) (p : Nat) (hp : p < x.length) (h4 : FourL x) : FourL (delW x p) := by
 intro k hk
 have := delW_length x p hp
 rw [atB_del x p k hp]
 split
 · exact h4 k (by omega)
 · exact h4 (k + 1) (by omega)
theorem del_sums (y : List UInt8) (p : Nat) (hp : p < y.length) (h3 : 3 ≤ y.length) (h9 : y.length ≤ 1001) (h4 : FourL y) : sumsG (delW y p) = .ok (s1G y p, s2G y p, s3G y p) := by
 have hl := delW_length y p hp
 have e : (delW y p).length = y.length - 1 := by omega
 rw [four_sums (delW y p) (by omega) (by omega) (four_delL y p hp h4), e]
 rfl
theorem wrap64_mid (z : Int) (h0 : -1000000 ≤ z) (h1 : z ≤ 1000000) : wrap64 z = z := by rw [wrap64]; omega
theorem wrap_mid (z : Int) (h0 : -1000000 ≤ z) (h1 : z ≤ 1000000) : IntKind.i64.wrap z = z := by rw [IntKind.wrap_i64]; omega
def Sd (W W' : World) : Prop := ∃ k, W' = W.drewN k
theorem mul_boundE (d q : Int) (h0 : -3 ≤ d) (h1 : d ≤ 3) (q0 : 0 ≤ q) (q1 : q ≤ 1001) : -3003 ≤ d * q ∧ d * q ≤ 3003 := by
 have : d = -3 ∨ d = -2 ∨ d = -1 ∨ d = 0 ∨ d = 1 ∨ d = 2 ∨ d = 3 := by omega
 rcases this with rfl | rfl | rfl | rfl | rfl | rfl | rfl <;> omega
abbrev NoW (z : Int) : Prop := wrap64 z = z ∧ IntKind.i64.wrap z = z
theorem noW (z : Int) (h0 : -1000000 ≤ z) (h1 : z ≤ 1000000) : NoW z := ⟨wrap64_mid z h0 h1, wrap_mid z h0 h1⟩
theorem sd_k (W : World) (k : Nat) : Sd W (W.drewN k) := ⟨k, rfl⟩
theorem sd_two (W : World) (k j : Nat) : Sd W ((W.drewN k).drewN j) := ⟨k + j, by simp [World.drewN, Nat.add_assoc]⟩
theorem range_preE (p n : Nat) (h : p < n) : List.range p ++ [p] <+: List.range n := by
 rw [← List.range_succ]
 exact ⟨(List.range n).drop (p + 1), by
  have h1 : List.range (p + 1) = (List.range n).take (p + 1) := by
   rw [List.take_range, Nat.min_eq_left h]
  rw [h1, List.take_append_drop]⟩
set_option maxRecDepth 1000000 in
set_option maxHeartbeats 8000000 in
theorem eplaces_seq (b1 b2 : Nat) (A : Option Addr) (cap : Nat) (v2 : Value) (y : List UInt8) (h3 : 3 ≤ y.length) (h9 : y.length ≤ 1000) (h4 : FourL y) (w0 : World) (l1 : b1 < w0.heap.size)
    (k1 : w0.cell? ⟨b1, 0, none⟩ = some (.slice A y.length cap)) (hSl : Sl eB w0.heap.size w0 (.slice A y.length cap) y) (k2 : w0.cell? ⟨b2, 0, none⟩ = some v2) (hCl : Sl eI w0.heap.size w0 v2 (codesOf y)) (hT : Tab w0) :
    SeqW Fence.wide Tryz.prog 146 #[.pointer (some ⟨b1, 0, none⟩), .pointer (some ⟨b2, 0, none⟩)] (fun p : Nat => #[.int .i64 p, v3 (s1G y p) (s2G y p) (s3G y p)]) KC (List.range y.length) none w0 := by
 intro l J JS W hW hJo hJw hY h0
 have hTW := hT.below hW
 have hSW := hSl.next hW
 have hWo := Without_any (.slice A y.length cap) y 0 (by omega) W hSW
 rw [show withG y 0 = delW y 0 by rw [withG, if_pos (by omega)]; rfl] at hWo
 have hl0 := delW_length y 0 (by omega)
 have hOf := fun v w hT hS => Of_yes (delW y 0) _ _ _ (del_sums y 0 (by omega) h3 (by omega) h4) (by omega) v w hT hS
 have c1 := (hW.cell (p := ⟨b1, 0, none⟩) l1).trans k1
 have hRC := rc_of hW
 have hlc : (codesOf y).length = y.length := by simp [codesOf]
 obtain ⟨bc, oc, cc, rfl, hcells⟩ : ∃ bc oc cc, v2 = .slice (some ⟨bc, oc, none⟩) y.length cc ∧ ∀ p, p < y.length → w0.cell? ⟨bc, oc + p, none⟩ = some (.int .i64 (codeOf (atB y p).toNat)) := by
  obtain ⟨A', c', e, hc, hcs⟩ := hCl
  obtain ⟨bc, oc, rfl, _, hcell⟩ := hcs (by omega)
  refine ⟨bc, oc, c', by rw [e, hlc], fun p hp => hcell p _ ?_⟩
  simp [codesOf, atB, hp]
 obtain ⟨by_, oy, cy, e, hcy, hby, hycells⟩ := sl_at hSl (by omega)
 injection e with e1 e2 e3
 subst e1 e3
 clear hSl hCl hlc
 refine callsIn_of_wp Tryz.func146 rfl trivial ?_ rfl
 simp only [Tryz.ntmps146, List.size_toArray, List.length_cons, List.length_nil, Nat.reduceAdd, Nat.reduceSub, Array.replicate_succ, Array.replicate_zero, List.push_toArray, List.append_toArray, List.nil_append, List.cons_append]
 gi_wp2_with fail
 refine ⟨trivial, ?_⟩
 gi_at_call 101
 refine (callsIn_wide.2 hWo).mono ?_
 rintro e w1 ⟨vx, rfl, hx, hB1⟩
 obtain ⟨gx, cx, rfl, hgx, hcx, hrow⟩ := rowL_own hx (by omega)
 have hJ1 := hJw [] W w1 h0 (Nat.le_refl _) hB1
 have hT1 := hTW.below hB1
 have hRC1 := rc_below hRC hW.size hB1
 clear hWo hx
 obtain ⟨n, hn⟩ : ∃ n, (delW y 0).length = n := ⟨_, rfl⟩
 have hnl : n + 1 = y.length := by omega
 have hsx := hrow.sl hcx
 rw [hn] at hsx hcx ⊢
 clear hl0
 gi_wp2_with fail
 refine ⟨trivial, ?_⟩
 gi_at_call 129
 refine (callsIn_wide.2 (hOf _ _ hT1 hsx)).mono ?_
 rintro e w2 ⟨rfl, hB2⟩
 have hJ2 := hJw [] w1 w2 hJ1 hB1.size (hB2.mono hB1.size)
 have hRC2 := rc_below hRC1 (Nat.le_trans hW.size hB1.size) hB2
 have hrow2 := hrow.same (hB2.block gx hrow.lt)
 have hs2 := hB2.size
 have hs1 := hB1.size
 have hcl : (v3 (s1G y 0) (s2G y 0) (s3G y 0)).cells = c3 (s1G y 0) (s2G y 0) (s3G y 0) := rfl
 have hA3 := below_alloc w2 (.cells (c3 (s1G y 0) (s2G y 0) (s3G y 0)) 51)
 have hr3 := Rowed.new w2 51 (c3 (s1G y 0) (s2G y 0) (s3G y 0))
 have hgw := hrow2.lt
 have hJ3 := hJw [] w2 _ hJ2 (Nat.le_trans hs1 hs2) (hA3.mono (Nat.le_trans hs1 hs2))
 have hRC3 := rc_below hRC2 (Nat.le_trans hW.size (Nat.le_trans hs1 hs2)) hA3
 have hrow3 := hrow2.same (hA3.block gx hgw)
 have c3' := rc_cell hRC3 k1
 clear hOf hsx hB1 hB2 hJ1 hJ2 hT1 hRC1 hRC2 hrow hrow2 hA3 hRC hTW hSW c1 h0
 gi_wp2_with fail
 have hWb := Nat.le_trans hs1 hs2
 generalize w2.alloc (.cells (c3 (s1G y 0) (s2G y 0) (s3G y 0)) 51) = wz at *
 generalize w2.heap.size = bs at *
 have Hn := Lib.hid hn
 clear hn hcl c3'
 gi_loopw [22] (fun i wr => ∃ p : Nat, p < y.length ∧ i = .int .i64 p ∧ J (List.range p) wr ∧ RowL wr gx (delW y p) ∧ Rowed wr bs 51 (c3 (s1G y p) (s2G y p) (s3G y p)) ∧ RC w0 wr) (fun i _ => y.length - (intOf i).toNat)
 case atStart => exact ⟨0, by omega, rfl, hJ3, hrow3, hr3, hRC3⟩
 case round =>
  obtain ⟨p, hp, rfl, hJ, hrow, hr, hRC⟩ := hrel
  have hpi : (p : Int) < (y.length : Int) := by omega
  have hpd : decide ((p : Int) < (y.length : Int)) = true := decide_eq_true hpi
  have hpre := range_preE p y.length hp
  obtain ⟨fn, tmps, assign, body, hyy, hR⟩ := hY (List.range p) p wr hJ hpre
  have q0 := hr.cell 0
  have q1 := hr.cell 1
  have q2 := hr.cell 2
  have Hp := Lib.hid hp
  clear hp hpre
  gi_wp2_with fail
  refine (roundIn_room rfl hR).mono ?_
  rintro e W3 (⟨rfl, hJ3, hK3, hF3⟩ | ⟨rfl, hS3⟩)
  · by_cases hend : p = n
    · subst hend
      have hJe : J (List.range y.length) W3 := by
       rw [← hnl, List.range_succ]; exact hJ3
      clear hR hyy q0 q1 q2 hY hpi hpd hJ hrow hr hRC
      gi_wp2_with fail
      refine bodyPost_ret (results_none rfl _ _ _) rfl ?_
      exact .inr (.inl ⟨trivial, ⟨_, rfl⟩, hJe⟩)
    · have hpn : p < n := by have := Hp.out; omega
      have hrow := hrow.kc hK3
      have hr : Rowed W3 bs 51 (c3 (s1G y p) (s2G y p) (s3G y p)) := hK3 bs _ hr rfl
      have hRC := rc_kc hRC hK3
      have hJ := hJ3
      rw [← List.range_succ] at hJ
      have kc2 := rc_cell hRC k2
      have ky1 := rc_cell hRC k1
      have kp := rc_cell hRC (hcells p (by omega))
      have kq := rc_cell hRC (hcells (p + 1) (by omega))
      have kyp := rc_cell hRC (hycells p (by omega))
      have hne : ((p : Int) == (n : Int)) = false := by rw [beq_eq_false_iff_ne]; omega
      have hp9 : p ≤ 1000000 := by omega
      have tn : ((p : Int) + 1).toNat = p + 1 := by omega
      have b0 : (0 : Int) ≤ (p : Int) + 1 := by omega
      have b1' : (p : Int) + 1 < (y.length : Int) := by omega
      have cb1 := code_bound (h4 p (by omega))
      have cb2 := code_bound (h4 (p + 1) (by omega))
      have hdel := delW_length y p (by omega)
      have hdl : (delW y p).length = n := by omega
      have har := arG_bound (delW y p) p (by omega)
      have hs1b : 0 ≤ s1G y p ∧ s1G y p ≤ 1000 := by
       have e : y.length - 1 = n := by omega
       rw [s1G, e]
       exact ⟨Int.emod_nonneg _ (by omega), by have := Int.emod_lt_of_pos (sT (delW y p) n) (b := (n : Int)) (by omega); omega⟩
      have o1 : p < (delW y p).length := by omega
      have o2 : p + 1 < y.length := by omega
      have o3 : (p : Int) < (n : Int) := by omega
      have o4 : bs ≠ gx := by omega
      have o5 : W.heap.size ≤ W3.heap.size := by have := hr.lt; omega
      have es : y.length - 1 = n := by omega
      have hdl2 : (delW y (p + 1)).length = n := by have := delW_length y (p + 1) o2; omega
      have e1 : (s1G y p - arG (delW y p) p + arG (delW y (p + 1)) p) % (n : Int) = s1G y (p + 1) := by rw [s1G, s1G, es]; exact step_T y p n hnl o2
      have e2 : (s2G y p + (codeOf (atB y p).toNat - codeOf (atB y (p + 1)).toNat)) % 4 = s2G y (p + 1) := by rw [s2G, s2G, es]; exact step_S y p n hnl o2
      have e3 : (s3G y p + (codeOf (atB y p).toNat - codeOf (atB y (p + 1)).toNat) * ((p : Int) + 1)) % (6 * (n : Int) + 1) = s3G y (p + 1) := by rw [s3G, s3G, es]; exact step_W y p n hnl o2
      have bA := arG_bound (delW y (p + 1)) p (by omega)
      have hs2b : 0 ≤ s2G y p ∧ s2G y p ≤ 3 := by rw [s2G]; omega
      have hs3b : 0 ≤ s3G y p ∧ s3G y p ≤ 6000 := by
       rw [s3G, es]
       exact ⟨Int.emod_nonneg _ (by omega), by have := Int.emod_lt_of_pos (sW (delW y p) n) (b := 6 * (n : Int) + 1) (by omega); omega⟩
      have bm := mul_boundE (codeOf (atB y p).toNat - codeOf (atB y (p + 1)).toNat) ((p : Int) + 1) (by omega) (by omega) (by omega) (by omega)
      have HW := Lib.hid (And.intro (noW (s1G y p - arG (delW y p) p + arG (delW y (p + 1)) p) (by omega) (by omega)) (And.intro (noW (s2G y p + (codeOf (atB y p).toNat - codeOf (atB y (p + 1)).toNat)) (by omega) (by omega)) (And.intro (noW ((codeOf (atB y p).toNat - codeOf (atB y (p + 1)).toNat) * ((p : Int) + 1)) (by omega) (by omega)) (And.intro (noW (s3G y p + (codeOf (atB y p).toNat - codeOf (atB y (p + 1)).toNat) * ((p : Int) + 1)) (by omega) (by omega)) (And.intro (noW (6 * (n : Int)) (by omega) (by omega)) (noW (6 * (n : Int) + 1) (by omega) (by omega)))))))
      have HR : Hid ((∀ w, Calls Tryz.prog 148 #[.int .i64 (s1G y p - arG (delW y p) p + arG (delW y (p + 1)) p), .int .i64 n] w fun e w' => e = .returned (.int .i64 (s1G y (p + 1))) ∧ w = w') ∧
          (∀ w, Calls Tryz.prog 148 #[.int .i64 (s2G y p + (codeOf (atB y p).toNat - codeOf (atB y (p + 1)).toNat)), .int .i64 4] w fun e w' => e = .returned (.int .i64 (s2G y (p + 1))) ∧ w = w') ∧
          ∀ w, Calls Tryz.prog 148 #[.int .i64 (s3G y p + (codeOf (atB y p).toNat - codeOf (atB y (p + 1)).toNat) * ((p : Int) + 1)), .int .i64 (6 * (n : Int) + 1)] w fun e w' => e = .returned (.int .i64 (s3G y (p + 1))) ∧ w = w') := by
        refine Lib.hid ⟨fun w => ?_, fun w => ?_, fun w => ?_⟩
        · have := rest_any (s1G y p - arG (delW y p) p + arG (delW y (p + 1)) p) n (by omega) (by omega) w
          rwa [e1] at this
        · have := rest_any (s2G y p + (codeOf (atB y p).toNat - codeOf (atB y (p + 1)).toNat)) 4 (by omega) (by omega) w
          rwa [e2] at this
        · have := rest_any (s3G y p + (codeOf (atB y p).toNat - codeOf (atB y (p + 1)).toNat) * ((p : Int) + 1)) (6 * (n : Int) + 1) (by omega) (by omega) w
          rwa [e3] at this
      have o8 : p < (delW y (p + 1)).length := by omega
      have o9 : (delW y (p + 1)).length ≤ cx := by omega
      have o10 : (delW y (p + 1)).length ≤ 1000 := by omega
      clear e1 e2 e3 bA hs2b hs3b bm
      have hdiff := wrap64_mid (codeOf (atB y p).toNat - codeOf (atB y (p + 1)).toNat) (by omega) (by omega)
      have hdiff2 := wrap64_mid (s1G y p - arG (delW y p) p) (by omega) (by omega)
      have hdiff3 := wrap_mid (s1G y p - arG (delW y p) p) (by omega) (by omega)
      have o6 : (delW y p).length ≤ cx := by omega
      have o7 : (delW y p).length ≤ 1000 := by omega
      have hARd : ∀ k, Calls Tryz.prog 147 #[.slice (some ⟨gx, 0, none⟩) n cx, .int .i64 p] (W3.drewN k) fun e w' => e = .returned (.int .i64 (arG (delW y p) p)) ∧ ∃ j, w' = (W3.drewN k).drewN j := fun k => by
       have hsl := (hrow.same (W' := W3.drewN k) rfl).sl (cx := cx) o6
       have := around_any _ (delW y p) p o1 o7 (W3.drewN k) hsl
       rwa [hdl] at this
      have hw1 := wrap64_succ p hp9
      have hw2 := wrap_succ p hp9
      have Hne := Lib.hid hend
      clear hR hyy q0 q1 q2 hY hpd hK3 hF3 hJ3 hend hcells hycells
      gi_wp2_with fail
      refine wpIn_wide.2 ?_
      go_quiet (fail)
      gi_wp2_with fail
      have Hb := Lib.hid (And.intro cb1 (And.intro cb2 (And.intro har hs1b)))
      clear cb1 cb2 har hs1b
      refine wpIn_region_detS (Sd W3) 6 [(45, .pointer (some ⟨bs, 0, none⟩)), (46, .int .i64 (s1G y p)), (47, .slice (some ⟨gx, 0, none⟩) n cx), (48, .int .i64 p), (49, .int .i64 (arG (delW y p) p)), (50, .int .i64 (s1G y p - arG (delW y p) p))]
        (by kernel_rfl) (by decide) (by kernel_rfl) (by kernel_rfl) (by kernel_rfl) (by kernel_rfl) (by kernel_rfl) ⟨nq + 1, rfl⟩ ?ok8 ?tail8
      case ok8 =>
       intro A' hA'
       simp only [putAll, Act.put, List.setIfInBounds_toArray, List.set_cons_zero, List.set_cons_succ] at hA'
       subst hA'
       have q0 := hr.cell 0
       refine ⟨?_, ?_, ?_, ?_, ?_, ?_, trivial⟩
       all_goals
        rintro w' ⟨k, rfl⟩
        have q0 : (W3.drewN k).cell? ⟨bs, 0, none⟩ = some (.int .i64 (s1G y p)) := q0
        go_simp
       all_goals first
        | exact ⟨k, rfl⟩
        | (refine ⟨trivial, (callsIn_wide.2 (hARd k)).mono ?_⟩
           rintro e w' ⟨rfl, j, rfl⟩
           exact ⟨rfl, sd_two _ _ _⟩)
      case tail8 =>
       intro A' hA' w' hw'
       simp only [putAll, Act.put, List.setIfInBounds_toArray, List.set_cons_zero, List.set_cons_succ] at hA'
       subst hA'
       simp only [List.drop_succ_cons, List.drop_zero]
       obtain ⟨k, rfl⟩ := hw'
       have y1 : (W3.drewN k).cell? ⟨b1, 0, none⟩ = some (.slice (some ⟨by_, oy, none⟩) y.length cap) := ky1
       have y2 : (W3.drewN k).cell? ⟨by_, oy + p, none⟩ = some (eB (atB y p)) := kyp
       have hrowd : RowL (W3.drewN k) gx (delW y p) := hrow.same rfl
       have x1 := hrowd.cell (p := p) o1
       have xf := hrowd.frozen p
       have hset := hrowd.set p (atB y p)
       rw [← del_set y p o2] at hset
       have Hset := Lib.hid hset
       have hltg := hrowd.lt
       have hrd : Rowed (W3.drewN k) bs 51 (c3 (s1G y p) (s2G y p) (s3G y p)) := hr
       have hr5 := hrd.other gx p (eB (atB y p)) o4
       have hB5 : Below W.heap.size W3 ((W3.drewN k).setCell ⟨gx, p, none⟩ (eB (atB y p))) := (show Below W.heap.size W3 (W3.drewN k) from ⟨rfl, rfl, rfl, Nat.le_refl _, fun _ _ => rfl⟩).setCell (p := ⟨gx, p, none⟩) hgx _
       have hJ5 := hJw _ _ _ hJ o5 hB5
       have hRC5 := rc_below hRC hW.size hB5
       clear hset hrowd hrow hrd hr hJ hRC ky1 kyp kp kq kc2 hARd
       gi_wp2_with fail
       generalize (W3.drewN k).setCell ⟨gx, p, none⟩ (eB (atB y p)) = w5 at *
       clear y1 y2 x1 xf
       have hARd : ∀ k, Calls Tryz.prog 147 #[.slice (some ⟨gx, 0, none⟩) n cx, .int .i64 p] (w5.drewN k) fun e w' => e = .returned (.int .i64 (arG (delW y (p + 1)) p)) ∧ ∃ j, w' = (w5.drewN k).drewN j := fun k => by
        have hsl := (Hset.out.same (W' := w5.drewN k) rfl).sl (cx := cx) o9
        have := around_any _ (delW y (p + 1)) p o8 o10 (w5.drewN k) hsl
        rwa [hdl2] at this
       obtain ⟨⟨wa1, wb1⟩, ⟨wa2, wb2⟩, ⟨wa3, wb3⟩, ⟨wa4, wb4⟩, ⟨wa5, wb5⟩, wa6, wb6⟩ := HW.out
       obtain ⟨hr1, hr2, hr3'⟩ := HR.out
       generalize codeOf (atB y p).toNat - codeOf (atB y (p + 1)).toNat = d at *
       generalize s1G y p - arG (delW y p) p = g1 at *
       generalize arG (delW y (p + 1)) p = A1 at *
       clear HW HR
       refine wpIn_region_detS (Sd w5) 24 [(58, .int .i64 g1), (59, .slice (some ⟨gx, 0, none⟩) n cx), (60, .int .i64 p), (61, .int .i64 A1), (62, .int .i64 (g1 + A1)), (63, .int .i64 n), (64, .int .i64 (s1G y (p + 1))), (65, .pointer (some ⟨bs, 1, none⟩)), (66, .int .i64 (s2G y p)), (67, .int .i64 d), (68, .int .i64 (s2G y p + d)), (69, .int .i64 (s2G y (p + 1))), (70, .pointer (some ⟨bs, 2, none⟩)), (71, .int .i64 (s3G y p)), (72, .int .i64 d), (73, .int .i64 p), (74, .int .i64 ((p : Int) + 1)), (75, .int .i64 (d * ((p : Int) + 1))), (76, .int .i64 (s3G y p + d * ((p : Int) + 1))), (77, .int .i64 n), (78, .int .i64 (6 * (n : Int))), (79, .int .i64 (6 * (n : Int) + 1)), (80, .int .i64 (s3G y (p + 1))), (81, v3 (s1G y (p + 1)) (s2G y (p + 1)) (s3G y (p + 1)))]
         (by kernel_rfl) (by decide) (by kernel_rfl) (by kernel_rfl) (by kernel_rfl) (by kernel_rfl) (by kernel_rfl) ⟨1, rfl⟩ ?okT ?tailT
       case okT =>
        intro A' hA'
        simp only [putAll, Act.put, List.setIfInBounds_toArray, List.set_cons_zero, List.set_cons_succ] at hA'
        subst hA'
        have q1 := hr5.cell 1
        have q2 := hr5.cell 2
        refine ⟨?_, ?_, ?_, ?_, ?_, ?_, ?_, ?_, ?_, ?_, ?_, ?_, ?_, ?_, ?_, ?_, ?_, ?_, ?_, ?_, ?_, ?_, ?_, ?_, trivial⟩
        all_goals
         rintro w' ⟨k, rfl⟩
         have q1 : (w5.drewN k).cell? ⟨bs, 1, none⟩ = some (.int .i64 (s2G y p)) := q1
         have q2 : (w5.drewN k).cell? ⟨bs, 2, none⟩ = some (.int .i64 (s3G y p)) := q2
         go_simp
        all_goals first
         | exact sd_k _ _
         | refine ⟨trivial, ?_⟩
        · with_reducible refine (callsIn_wide.2 (hARd k)).mono ?_
          rintro e w' ⟨rfl, j, rfl⟩
          exact ⟨rfl, sd_two _ _ _⟩
        · with_reducible refine (callsIn_wide.2 (hr1 _)).mono ?_
          rintro e w' ⟨rfl, rfl⟩
          exact ⟨rfl, k, rfl⟩
        · with_reducible refine (callsIn_wide.2 (hr2 _)).mono ?_
          rintro e w' ⟨rfl, rfl⟩
          exact ⟨rfl, k, rfl⟩
        · with_reducible refine (callsIn_wide.2 (hr3' _)).mono ?_
          rintro e w' ⟨rfl, rfl⟩
          exact ⟨rfl, k, rfl⟩
       case tailT =>
        intro A' hA' w' hw'
        simp only [putAll, Act.put, List.setIfInBounds_toArray, List.set_cons_zero, List.set_cons_succ] at hA'
        subst hA'
        simp only [List.drop_succ_cons, List.drop_zero]
        obtain ⟨k', rfl⟩ := hw'
        have hrd5 : Rowed (w5.drewN k') bs 51 (c3 (s1G y p) (s2G y p) (s3G y p)) := hr5
        have hsr : (Tryz.prog.info? 51).map (·.size) = some (#[Value.int .i64 (s1G y (p + 1)), Value.int .i64 (s2G y (p + 1)), Value.int .i64 (s3G y (p + 1))] : Array Value).size := by rw [(zero_of_info infoS).2]; rfl
        refine wpListIn_store_row rfl 51 (.tmp 6) (.tmp 81) rfl bs #[.int .i64 (s1G y (p + 1)), .int .i64 (s2G y (p + 1)), .int .i64 (s3G y (p + 1))] rfl rfl _ _ hrd5 hsr rfl (by simp [Value.oneCell']) ?_
        have hr6 := setRow_heap (w5.drewN k') bs _ #[.int .i64 (s1G y (p + 1)), .int .i64 (s2G y (p + 1)), .int .i64 (s3G y (p + 1))] _ _ hrd5
        have hrow6 := Hset.out.same (setRow_other (w5.drewN k') bs gx #[.int .i64 (s1G y (p + 1)), .int .i64 (s2G y (p + 1)), .int .i64 (s3G y (p + 1))] (fun e => o4 e.symm))
        have hB6 : Below W.heap.size w5 ((w5.drewN k').setRow bs #[.int .i64 (s1G y (p + 1)), .int .i64 (s2G y (p + 1)), .int .i64 (s3G y (p + 1))]) := below_setRow (show Below W.heap.size w5 (w5.drewN k') from ⟨rfl, rfl, rfl, Nat.le_refl _, fun _ _ => rfl⟩) bs _ hWb
        have hJ6 := hJw _ _ _ hJ5 (Nat.le_of_lt (Nat.lt_of_le_of_lt hWb hr5.lt)) hB6
        have hRC6 := rc_below hRC5 hW.size hB6
        clear hr1 hr2 hr3' hARd hrd5 hr5 hJ5 hRC5 hB5 wa2 wb2 wa3 wb3 wa4 wb4 wa5 wb5 wa6 wb6 wa1 wb1 hB6
        generalize (w5.drewN k').setRow bs #[.int .i64 (s1G y (p + 1)), .int .i64 (s2G y (p + 1)), .int .i64 (s3G y (p + 1))] = w6 at *
        gi_wp2_with fail
        clear hw1 hw2 hdiff hdiff2 hdiff3
        refine ⟨⟨p + 1, o2, by go_num, hJ6, hrow6, hr6, hRC6⟩, ?_⟩
        have := Hp.out
        simp [intOf]
        omega
  · clear hR hyy q0 q1 q2 hY hpd
    gi_wp2_with fail
    refine bodyPost_ret (results_none rfl _ _ _) rfl ?_
    exact .inl ⟨_, rfl, hS3⟩
end Go.Proofs.YtkibigbcdlilkaaGreatDoor.Ex
