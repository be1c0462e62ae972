/- The walk of NtCodes. -/
import Derived.Test.YtillclgolelefaaDoorNtT
import Derived.Deep.RegionWith
namespace Go.Proofs.YtillclgolelefaaDoor
open Go.RowKit Go.Shelf
attribute [local go_sem] Oper.semAt_some

theorem Codes_row (sv : Value) (l : List Int) (hlen : l.length ≤ 17592186044416) (w : World) (hS : Sl eB w.heap.size w sv (rowOf l)) (hT : Tab w) :
    Calls Tryd.prog 15 #[sv] w fun e W' => ∃ v, Below w.heap.size w W' ∧ e = .returned (.tuple #[v, .int .i64 0]) ∧ Sl eI W'.heap.size W' v (l.map (· % 4)) := by
  refine (Codes_any sv (rowOf l) (by rw [rowOf_length]; exact hlen) w hS hT).mono ?_
  rintro e w1 ⟨v1, hB1, hor⟩
  obtain ⟨rfl, -, hv1⟩ := hor.resolve_right (fun h => codes_fine l h.2)
  exact ⟨v1, hB1, rfl, by rw [← codesOf_rowOf]; exact hv1⟩
theorem rowOf_mod (l : List Int) : rowOf (l.map (· % 4)) = rowOf l := by
  simp only [rowOf, List.map_map]
  apply List.map_congr_left
  intro n _
  exact letterOf_congr (by show n % 4 % 4 = n % 4; omega)
theorem Text_is (sv : Value) (l m : List Int) (hm : rowOf l = rowOf m) (hreach : l.length ≤ 17592186044416) (w : World) (hS : Sl eI w.heap.size w sv l) (hT : Tab w) :
    Calls Tryd.prog 16 #[sv] w fun e w' => ∃ v, e = .returned v ∧ Sl eB w'.heap.size w' v (rowOf m) ∧ Below w.heap.size w w' := by rw [← hm]; exact Text_any sv l hreach w hS hT
theorem letter_quiet (n : Int) (w : World) (hT : Tab w) :
    Calls Tryd.prog 18 #[.int .i64 n] w fun e w' => e = .returned (eB (letterOf n)) ∧ w' = w := (letter_any n w hT).mono fun _ _ h => ⟨h.1, h.2.symm⟩
theorem Sl.cell_ {α : Type} {enc : α → Value} {B : Nat} {W : World} {A : Option Addr} {len cap : Nat} {xs : List α} (h : Sl enc B W (.slice A len cap) xs) {j : Nat} {x : α} (hx : xs[j]? = some x) :
    ∃ b off, A = some ⟨b, off, none⟩ ∧ b < B ∧ W.cell? ⟨b, off + j, none⟩ = some (enc x) := by
  obtain ⟨A', c', e, _, hcells⟩ := h
  cases e
  have hj := (List.getElem?_eq_some_iff.1 hx).1
  obtain ⟨b, off, e, hb, hcell⟩ := hcells (by omega)
  exact ⟨b, off, e, hb, hcell j x hx⟩

theorem Codes_bad (sv : Value) (bs : List UInt8) (hreach : bs.length ≤ 17592186044416) (hm : (-1 : Int) ∈ codesOf bs) (w : World) (hS : Sl eB w.heap.size w sv bs) (hT : Tab w) :
    Calls Tryd.prog 15 #[sv] w fun e W' => e = .returned (.tuple #[.slice none 0 0, .int .i64 10]) ∧ Below w.heap.size w W' := by
  refine (Codes_any sv bs hreach w hS hT).mono ?_
  rintro e w1 ⟨v1, hB1, hor⟩
  exact ⟨(hor.resolve_left (fun h => h.2.1 hm)).1, hB1⟩
theorem Rc_bad (sv : Value) (bs : List UInt8) (hreach : bs.length ≤ 17592186044416) (hm : (-1 : Int) ∈ codesOf bs) (w : World) (hS : Sl eB w.heap.size w sv bs) (hT : Tab w) :
    Calls Tryd.prog 9 #[sv] w fun e W' => e = .returned (.tuple #[.slice none 0 0, .int .i64 10]) ∧ Below w.heap.size w W' := by
  refine (Rc_any sv bs hreach w hS hT).mono ?_
  rintro e w1 ⟨v1, hB1, hor⟩
  exact ⟨(hor.resolve_left (fun h => h.2.1 hm)).1, hB1⟩
theorem Least_bad (sv : Value) (bs : List UInt8) (hreach : bs.length ≤ 17592186044416) (hm : (-1 : Int) ∈ codesOf bs) (w : World) (hS : Sl eB w.heap.size w sv bs) (hT : Tab w) :
    Calls Tryd.prog 11 #[sv] w fun e W' => ∃ v, Below w.heap.size w W' ∧ e = .returned (.tuple #[v, .bool false]) ∧ Sl eB W'.heap.size W' v bs := by
  have h := Least_any sv bs hreach w hS hT
  rw [leastOf, if_pos hm] at h
  exact h
theorem codes_bad (a b : List UInt8) (c : UInt8) (hc : ¬(c = 65 ∨ c = 67 ∨ c = 71 ∨ c = 84)) : (-1 : Int) ∈ codesOf (a ++ [c] ++ b) := by
  simp only [codesOf, List.map_append, List.map_cons, List.map_nil, List.mem_append, List.mem_singleton]
  refine .inl (.inr ?_)
  unfold codeOf
  rw [if_neg, if_neg, if_neg, if_neg]
  all_goals (intro h; apply hc; simp only [← UInt8.toNat_inj]; simp; omega)

set_option maxRecDepth 100000 in
set_option maxHeartbeats 4000000 in
theorem NtCodes_any (sl : Value) (l : List Int) (c : UInt8) (at_ : Int) (w : World) (hl : Sl eI w.heap.size w sl l) (hT : Tab w) :
    Calls Tryd.prog 4 #[sl, .int .u8 c.toNat, .int .i64 at_] w fun e w' => e = .returned (.bool true) ∧ Below w.heap.size w w' := by
  obtain ⟨Al, cl, rfl⟩ := hl.len
  by_cases h1 : 200 < l.length
  · have hd : decide ((200 : Int) < l.length) = true := by simp; omega
    go_enter Tryd.func4, Tryd.ntmps4
    go_wp2_with (go_at_call 7; refine (wakes_any _ hT).mono ?_; rintro e w1 ⟨rfl, hB1⟩)
    go_ret
    exact ⟨rfl, hB1⟩
  have hd1 : decide ((200 : Int) < l.length) = false := by simp; omega
  go_enter Tryd.func4, Tryd.ntmps4
  go_wp2_with fail
  go_at_call 8
  refine (row_any _ l (by omega) _ hl).mono ?_
  rintro e w1 ⟨vs, rfl, hvs, hB1⟩
  have hl1 := hl.next hB1
  have hT1 := hT.below hB1
  clear hl hT
  go_wp2_with fail
  go_at_call 15
  refine (Codes_row _ l (by omega) _ hvs hT1).mono ?_
  rintro e w2 ⟨vx, hB2, rfl, hvx⟩
  have hBw2 := below_trans hB1 hB2
  have hl2 := hl1.next hB2
  have hs2 := hvs.next hB2
  have hT2 := hT1.below hB2
  clear hB1 hB2 hl1 hT1 hvs
  obtain ⟨Ax, cx, ex⟩ := hvx.len
  rw [List.length_map] at ex
  subst ex
  obtain ⟨As, cs, es⟩ := hs2.len
  rw [rowOf_length] at es
  subst es
  go_wp2_with fail
  go_at_call 16
  refine (Text_is _ (l.map (· % 4)) l (rowOf_mod l) (by simp; omega) _ hvx hT2).mono ?_
  rintro e w3 ⟨vt, rfl, hvt, hB3⟩
  have hBw3 := below_trans hBw2 hB3
  have hl3 := hl2.next hB3
  have hs3 := hs2.next hB3
  have hx3 := hvx.next hB3
  have hT3 := hT2.below hB3
  clear hBw2 hB3 hl2 hs2 hT2 hvx
  go_wp2_with fail
  go_at_call 12
  refine (same_is _ _ (rowOf l) (rowOf l) true (by simp) _ _ hvt hs3).mono ?_
  rintro e w' ⟨rfl, rfl⟩
  go_wp2_with fail
  go_at_call 16
  refine (Text_is _ l l rfl (by omega) _ hl3 hT3).mono ?_
  rintro e w4 ⟨vt2, rfl, hvt2, hB4⟩
  have hBw4 := below_trans hBw3 hB4
  have hl4 := hl3.next hB4
  have hs4 := hs3.next hB4
  have hx4 := hx3.next hB4
  have hT4 := hT3.below hB4
  clear hBw3 hB4 hl3 hs3 hT3 hx3 hvt
  go_wp2_with fail
  go_at_call 12
  refine (same_is _ _ (rowOf l) (rowOf l) true (by simp) _ _ hvt2 hs4).mono ?_
  rintro e w' ⟨rfl, rfl⟩
  go_wp2_with fail
  go_at_call 17
  refine (Valid_is _ (rowOf l) (by rw [rowOf_length]; omega) true (by simp [codes_fine]) _ hs4 hT4).mono ?_
  rintro e w5 ⟨rfl, hB5⟩
  have hBw5 := below_trans hBw4 hB5
  have hl5 := hl4.next hB5
  have hs5 := hs4.next hB5
  have hx5 := hx4.next hB5
  have hT5 := hT4.below hB5
  clear hBw4 hB5 hl4 hs4 hT4 hx4 hvt2
  go_wp2_with fail
  go_loopw [10] (fun i wr => ∃ k : Nat, k ≤ l.length ∧ i = .int .i64 k ∧ Below w5.heap.size w5 wr) (fun i _ => l.length - (intOf i).toNat)
  case atStart => exact ⟨0, Nat.zero_le _, rfl, Below.refl _ _⟩
  case round =>
    obtain ⟨k, hk, rfl, hBr⟩ := hrel
    have hl := hl5.next hBr
    have hs := hs5.next hBr
    have hx := hx5.next hBr
    have hT := hT5.below hBr
    by_cases hlt : k < l.length
    · obtain ⟨b1, o1, rfl, -, c1⟩ := hl.cell_ (j := k) (x := l[k]) (by simp [hlt])
      obtain ⟨b2, o2, rfl, -, c2⟩ := hs.cell_ (j := k) (x := letterOf l[k]) (by simp [rowOf, hlt])
      obtain ⟨b3, o3, rfl, -, c3⟩ := hx.cell_ (j := k) (x := l[k] % 4) (by simp [hlt])
      clear hl hs hx hl5 hs5 hx5
      generalize l[k] = x at *
      have hb := bits_and3 x
      have hne : (x % 4 != x % 4) = false := by simp
      have hne2 : (((letterOf x).toNat : Int) != ((letterOf x).toNat : Int)) = false := by simp
      go_wp2_with fail
      go_quiet ((go_at_call 18; exact Calls.quiet_of_same (letter_quiet _ _ hT)))
      go_wp2
      go_roundw
      case rel => exact ⟨k + 1, by omega, by go_num, hBr.trans (below_drewN _ _)⟩
      case measure => simp [intOf]; omega
    · obtain rfl : k = l.length := by omega
      have hBw := below_trans hBw5 hBr
      clear hl5 hs5 hx5 hT5 hBw5 hBr
      by_cases hcl : c = 65 ∨ c = 67 ∨ c = 71 ∨ c = 84
      · rcases hcl with rfl | rfl | rfl | rfl
        all_goals
          go_wp2_with (go_at_call 7; refine (wakes_any _ hT).mono ?_; rintro e wz ⟨rfl, hBz⟩)
          go_ret
          exact ⟨rfl, below_trans hBw hBz⟩
      have hne : ∀ x : UInt8, c ≠ x → ((c.toNat : Int) == (x.toNat : Int)) = false := fun x h => by
        rw [beq_eq_false_iff_ne]; intro e; apply h; apply UInt8.toNat_inj.1; omega
      have hn1 : ((c.toNat : Int) == 65) = false := hne 65 (fun e => hcl (.inl e))
      have hn2 : ((c.toNat : Int) == 67) = false := hne 67 (fun e => hcl (.inr (.inl e)))
      have hn3 : ((c.toNat : Int) == 71) = false := hne 71 (fun e => hcl (.inr (.inr (.inl e))))
      have hn4 : ((c.toNat : Int) == 84) = false := hne 84 (fun e => hcl (.inr (.inr (.inr e))))
      have Hcl := Lib.hid hcl
      obtain ⟨p, hp, hpe⟩ := place_ex at_ l.length (by omega)
      have Hpe := Lib.hid hpe
      clear hcl hne hpe
      go_wp2_with fail
      rw [Hpe.out]
      have hp' : (p : Int) ≤ l.length := by omega
      have hcap : l.length ≤ cs := by
        obtain ⟨_, _, e, hc, _⟩ := hs
        injection e with e1 e2 e3
        subst e3
        rwa [rowOf_length] at hc
      have hcap' : (p : Int) ≤ cs := by omega
      have s1 := hs.upto (p := p) (by rw [rowOf_length]; exact hp)
      have hlb : p + 1 + (l.length - p) ≤ 140737488355328 := by omega
      have hl1' : ((rowOf l).take p ++ [c]).length + ((rowOf l).drop p).length ≤ 140737488355328 := by simp [rowOf_length]; omega
      have hl2' : ((rowOf l).take p).length + [c].length ≤ 140737488355328 := by simp; omega
      rcases Decidable.em (cs = p) with hcp | hcp
      · subst hcp
        have s3 : Sl eB wr.heap.size wr (.slice As (l.length - cs) (cs - cs)) ((rowOf l).drop cs) := hs.from_ (by rw [rowOf_length]; exact hp) As (fun h => absurd rfl h)
        have hz : l.length - cs = 0 := by omega
        rw [Nat.sub_self, hz] at s3
        clear hz
        go_region_with (first
          | (go_at_call 10
             refine (both_any _ _ ((rowOf l).take cs) [c] hl2' _ (s1.next (((Below.refl _ _).alloc (Nat.le_refl _) _).drew)) (Sl.new eB wr [c] #[eB c] 5 (0, 0) 1 1 rfl (Nat.le_refl _) (by simp))).mono ?_
             rintro e w6 ⟨v6, rfl, hv6, hB6⟩)
          | (go_at_call 10
             refine (both_any _ _ ((rowOf l).take cs ++ [c]) ((rowOf l).drop cs) hl1' _ hv6 (s3.next (below_trans (((Below.refl _ _).alloc (Nat.le_refl _) _).drew) hB6))).mono ?_
             rintro e w7 ⟨v7, rfl, hv7, hB7⟩))
        all_goals
          have hBw7 := below_trans hBw (below_trans (below_trans (((Below.refl _ _).alloc (Nat.le_refl _) _).drew) hB6) hB7)
          have hT7 := (hT.below (((Below.refl _ _).alloc (Nat.le_refl _) _).drew)).below (hB6) |>.below hB7
          have hm := codes_bad ((rowOf l).take cs) ((rowOf l).drop cs) c Hcl.out
          have hlen : (((rowOf l).take cs ++ [c]) ++ (rowOf l).drop cs).length ≤ 1000 := by simp [rowOf_length]; omega
          generalize ((rowOf l).take cs ++ [c]) ++ (rowOf l).drop cs = bad at hv7 hm hlen
          clear hv6 hB6 hB7 s1 s3 hl hs hx hT hBw
          go_wp2_with fail
          go_at_call 15
          refine (Codes_bad _ bad (by omega) hm _ hv7 hT7).mono ?_
          rintro e w8 ⟨rfl, hB8⟩
          have hBw8 := below_trans hBw7 hB8
          have hv8 := hv7.next hB8
          have hT8 := hT7.below hB8
          clear hBw7 hB8 hv7 hT7
          go_wp2_with fail
          go_at_call 9
          refine (Rc_bad _ bad (by omega) hm _ hv8 hT8).mono ?_
          rintro e w9 ⟨rfl, hB9⟩
          have hBw9 := below_trans hBw8 hB9
          have hv9 := hv8.next hB9
          have hT9 := hT8.below hB9
          clear hBw8 hB9 hv8 hT8
          go_wp2_with fail
          go_at_call 11
          refine (Least_bad _ bad (by omega) hm _ hv9 hT9).mono ?_
          rintro e wa ⟨vu, hBa, rfl, hu⟩
          have hBwa := below_trans hBw9 hBa
          have hva := hv9.next hBa
          have hTa := hT9.below hBa
          clear hBw9 hBa hv9 hT9
          go_wp2_with fail
          go_at_call 12
          refine (same_is _ _ bad bad true (by simp) _ _ hu hva).mono ?_
          rintro e w' ⟨rfl, rfl⟩
          go_wp2_with fail
          go_at_call 17
          refine (Valid_is _ bad (by omega) false (by simp [hm]) _ hva hTa).mono ?_
          rintro e wb ⟨rfl, hBb⟩
          have hBwb := below_trans hBwa hBb
          have hTb := hTa.below hBb
          clear hBwa hBb hva hTa hu
          go_wp2_with (go_at_call 7; refine (wakes_any _ hTb).mono ?_; rintro e wz ⟨rfl, hBz⟩)
          go_ret
          exact ⟨rfl, below_trans hBwb hBz⟩
      · have hcq : (cs = p) = False := eq_false hcp
        have s3 : Sl eB wr.heap.size wr (.slice (As.map (·.add p)) (l.length - p) (cs - p)) ((rowOf l).drop p) := hs.from_ (by rw [rowOf_length]; exact hp) _ (fun _ => rfl)
        go_region_with (first
          | (go_at_call 10
             refine (both_any _ _ ((rowOf l).take p) [c] hl2' _ (s1.next (((Below.refl _ _).alloc (Nat.le_refl _) _).drew)) (Sl.new eB wr [c] #[eB c] 5 (0, 0) 1 1 rfl (Nat.le_refl _) (by simp))).mono ?_
             rintro e w6 ⟨v6, rfl, hv6, hB6⟩)
          | (go_at_call 10
             refine (both_any _ _ ((rowOf l).take p ++ [c]) ((rowOf l).drop p) hl1' _ hv6 (s3.next (below_trans (((Below.refl _ _).alloc (Nat.le_refl _) _).drew) hB6))).mono ?_
             rintro e w7 ⟨v7, rfl, hv7, hB7⟩))
        all_goals
          have hBw7 := below_trans hBw (below_trans (below_trans (((Below.refl _ _).alloc (Nat.le_refl _) _).drew) hB6) hB7)
          have hT7 := (hT.below (((Below.refl _ _).alloc (Nat.le_refl _) _).drew)).below (hB6) |>.below hB7
          have hm := codes_bad ((rowOf l).take p) ((rowOf l).drop p) c Hcl.out
          have hlen : (((rowOf l).take p ++ [c]) ++ (rowOf l).drop p).length ≤ 1000 := by simp [rowOf_length]; omega
          generalize ((rowOf l).take p ++ [c]) ++ (rowOf l).drop p = bad at hv7 hm hlen
          clear hv6 hB6 hB7 s1 s3 hl hs hx hT hBw
          go_wp2_with fail
          go_at_call 15
          refine (Codes_bad _ bad (by omega) hm _ hv7 hT7).mono ?_
          rintro e w8 ⟨rfl, hB8⟩
          have hBw8 := below_trans hBw7 hB8
          have hv8 := hv7.next hB8
          have hT8 := hT7.below hB8
          clear hBw7 hB8 hv7 hT7
          go_wp2_with fail
          go_at_call 9
          refine (Rc_bad _ bad (by omega) hm _ hv8 hT8).mono ?_
          rintro e w9 ⟨rfl, hB9⟩
          have hBw9 := below_trans hBw8 hB9
          have hv9 := hv8.next hB9
          have hT9 := hT8.below hB9
          clear hBw8 hB9 hv8 hT8
          go_wp2_with fail
          go_at_call 11
          refine (Least_bad _ bad (by omega) hm _ hv9 hT9).mono ?_
          rintro e wa ⟨vu, hBa, rfl, hu⟩
          have hBwa := below_trans hBw9 hBa
          have hva := hv9.next hBa
          have hTa := hT9.below hBa
          clear hBw9 hBa hv9 hT9
          go_wp2_with fail
          go_at_call 12
          refine (same_is _ _ bad bad true (by simp) _ _ hu hva).mono ?_
          rintro e w' ⟨rfl, rfl⟩
          go_wp2_with fail
          go_at_call 17
          refine (Valid_is _ bad (by omega) false (by simp [hm]) _ hva hTa).mono ?_
          rintro e wb ⟨rfl, hBb⟩
          have hBwb := below_trans hBwa hBb
          have hTb := hTa.below hBb
          clear hBwa hBb hva hTa hu
          go_wp2_with (go_at_call 7; refine (wakes_any _ hTb).mono ?_; rintro e wz ⟨rfl, hBz⟩)
          go_ret
          exact ⟨rfl, below_trans hBwb hBz⟩
end Go.Proofs.YtillclgolelefaaDoor
