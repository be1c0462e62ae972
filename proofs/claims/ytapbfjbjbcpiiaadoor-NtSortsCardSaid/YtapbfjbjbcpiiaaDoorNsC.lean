/- Of stage 1, without helixlaw01.row and nt.Text (they aren't in the seat of NtSorts):  Contracts of the law's own helpers same, both, row, and of nt.Gc, nt.Run, nt.Text, bytes.Clone. -/
import Derived.Test.YtapbfjbjbcpiiaaDoorNtB
namespace Go.Proofs.YtapbfjbjbcpiiaaDoor
open Go.RowKit Go.Shelf
attribute [local go_sem] Oper.semAt_some

theorem beq_dec (a b : List UInt8) : (a == b) = decide (a = b) := by by_cases h : a = b <;> simp [h]
theorem info_u8 : (Tryd.prog.info? 5).map (fun i => (i.zero, i.size, i.bytes)) = some (some (.int .u8 0), 1, 1) := by kernel_rfl

set_option maxRecDepth 100000 in
set_option maxHeartbeats 400000 in
theorem same_any (sa sb : Value) (a b : List UInt8) (B : Nat) (w : World) (ha : Sl eB B w sa a) (hb : Sl eB B w sb b) :
    Calls Tryd.prog 13 #[sa, sb] w fun e w' => e = .returned (.bool (decide (a = b))) ∧ w = w' := by
  have ra := run_str (P := Tryd.prog) ha 25 9 5 Tryd.underlying25 Tryd.underlying5 Tryd.underlying9
  have rb := run_str (P := Tryd.prog) hb 25 9 5 Tryd.underlying25 Tryd.underlying5 Tryd.underlying9
  obtain ⟨Aa, ca, rfl⟩ := ha.len
  obtain ⟨Ab, cb, rfl⟩ := hb.len
  clear ha hb
  go_enter Tryd.func13, Tryd.ntmps13
  go_wp2
  go_ret
  exact ⟨by rw [← beq_dec]; rfl, rfl⟩

/-- How many letters are strong. -/
def gcOf (bs : List UInt8) : Nat := bs.countP fun b => b == 67 || b == 71
theorem gcOf_le (bs : List UInt8) : gcOf bs ≤ bs.length := List.countP_le_length
theorem gcOf_snoc (bs : List UInt8) (k : Nat) (h : k < bs.length) : gcOf (bs.take (k + 1)) = gcOf (bs.take k) + if bs[k] == 67 || bs[k] == 71 then 1 else 0 := by
  rw [List.take_succ_eq_append_getElem h, gcOf, gcOf, List.countP_append]
  simp [List.countP_cons]

set_option maxRecDepth 100000 in
set_option maxHeartbeats 400000 in
theorem Gc_any (sv : Value) (bs : List UInt8) (hreach : bs.length ≤ 140737488351232) (B : Nat) (w : World) (hS : Sl eB B w sv bs) :
    Calls Tryd.prog 27 #[sv] w fun e w' => e = .returned (.int .i64 (gcOf bs)) ∧ w = w' := by
  obtain ⟨A, cap, rfl, hcap, hcs⟩ := hS
  go_enter Tryd.func27, Tryd.ntmps27
  go_wp2
  go_loop [3, 8] (fun g i => ∃ k : Nat, k ≤ bs.length ∧ i = .int .i64 k ∧ g = .int .i64 (gcOf (bs.take k))) (fun _ i => bs.length - (intOf i).toNat)
  case atStart => exact ⟨0, Nat.zero_le _, rfl, rfl⟩
  case round =>
    obtain ⟨k, hk, rfl, rfl⟩ := hrel
    by_cases hlt : k < bs.length
    · obtain ⟨b, off, rfl, hb, hcell⟩ := hcs (by omega)
      have hcx : w.cell? ⟨b, off + k, none⟩ = some (eB bs[k]) := hcell k _ (by simp [hlt])
      have hg := gcOf_le (bs.take k)
      have hg2 : gcOf (bs.take k) ≤ k := by rw [List.length_take] at hg; omega
      have H := Lib.hid (gcOf_snoc bs k hlt)
      clear hcell hcs hg
      generalize hx : bs[k] = x at *
      have Hx := Lib.hid hx
      clear hx
      by_cases h1 : x = 67
      · have e1 : ((x.toNat : Int) == 67) = true := by subst h1; rfl
        have Hh := Lib.hid h1
        clear h1
        go_wp2
        go_round
        case rel => exact ⟨k + 1, by omega, by go_num, by rw [H.out, Hh.out]; go_num⟩
        case measure => simp [intOf]; omega
      · have e1 : ((x.toNat : Int) == 67) = false := by
          rw [beq_eq_false_iff_ne]; intro e; apply h1; apply UInt8.toNat_inj.1; simp; omega
        by_cases h2 : x = 71
        · have e2 : ((x.toNat : Int) == 71) = true := by subst h2; rfl
          have Hh := Lib.hid h2
          clear h1 h2
          go_wp2
          go_round
          case rel => exact ⟨k + 1, by omega, by go_num, by rw [H.out, Hh.out]; go_num⟩
          case measure => simp [intOf]; omega
        · have e2 : ((x.toNat : Int) == 71) = false := by
            rw [beq_eq_false_iff_ne]; intro e; apply h2; apply UInt8.toNat_inj.1; simp; omega
          have Hh1 := Lib.hid h1
          have Hh2 := Lib.hid h2
          clear h1 h2
          go_wp2
          go_round
          case rel => exact ⟨k + 1, by omega, by go_num, by rw [H.out]; simp [Hh1.out, Hh2.out]⟩
          case measure => simp [intOf]; omega
    · obtain rfl : k = bs.length := by omega
      go_wp2
      go_ret
      exact ⟨rfl, rfl⟩

/-- The longest run so far, and the one that goes on, behind k letters. -/
def runAt (bs : List UInt8) : Nat → Nat × Nat
  | 0 => (0, 0)
  | k + 1 => let r := if k = 0 ∨ bs[k]? ≠ bs[k - 1]? then 1 else (runAt bs k).2 + 1
             (max (runAt bs k).1 r, r)
theorem runAt_le (bs : List UInt8) : ∀ k, (runAt bs k).1 ≤ k ∧ (runAt bs k).2 ≤ k
  | 0 => by simp [runAt]
  | k + 1 => by
    have := runAt_le bs k
    simp only [runAt]
    split <;> omega
theorem runAt_succ_new (bs : List UInt8) (k : Nat) (h : k = 0 ∨ bs[k]? ≠ bs[k - 1]?) : runAt bs (k + 1) = (max (runAt bs k).1 1, 1) := by simp [runAt, h]
theorem runAt_succ_on (bs : List UInt8) (k : Nat) (h : ¬ (k = 0 ∨ bs[k]? ≠ bs[k - 1]?)) : runAt bs (k + 1) = (max (runAt bs k).1 ((runAt bs k).2 + 1), (runAt bs k).2 + 1) := by simp [runAt, h]

set_option maxRecDepth 100000 in
set_option maxHeartbeats 400000 in
theorem Run_any (sv : Value) (bs : List UInt8) (hreach : bs.length ≤ 140737488351232) (B : Nat) (w : World) (hS : Sl eB B w sv bs) :
    Calls Tryd.prog 26 #[sv] w fun e w' => e = .returned (.int .i64 (runAt bs bs.length).1) ∧ w = w' := by
  obtain ⟨A, cap, rfl, hcap, hcs⟩ := hS
  go_enter Tryd.func26, Tryd.ntmps26
  go_wp2
  go_loop [3, 4, 9] (fun m r i => ∃ k : Nat, k ≤ bs.length ∧ i = .int .i64 k ∧ m = .int .i64 (runAt bs k).1 ∧ r = .int .i64 (runAt bs k).2) (fun _ _ i => bs.length - (intOf i).toNat)
  case atStart => exact ⟨0, Nat.zero_le _, rfl, rfl, rfl⟩
  case round =>
    obtain ⟨k, hk, rfl, rfl, rfl⟩ := hrel
    by_cases hlt : k < bs.length
    · obtain ⟨b, off, rfl, hb, hcell⟩ := hcs (by omega)
      have hle := runAt_le bs k
      have HN := Lib.hid (runAt_succ_new bs k)
      have HO := Lib.hid (runAt_succ_on bs k)
      generalize runAt bs k = p at *
      obtain ⟨m, r⟩ := p
      dsimp only at hle HN HO ⊢
      have hcx : w.cell? ⟨b, off + k, none⟩ = some (eB bs[k]) := hcell k _ (by simp [hlt])
      rcases Nat.eq_zero_or_pos k with rfl | hpos
      · have hc0 : w.cell? ⟨b, off, none⟩ = some (eB bs[0]) := hcx
        clear hcell hcs hcx
        go_wp2
        go_round
        case rel => exact ⟨1, by omega, by go_num, by rw [HN.out (.inl rfl)]; simp; omega, by rw [HN.out (.inl rfl)]; simp⟩
        case measure => simp [intOf]; omega
      · obtain ⟨j, rfl⟩ : ∃ j, k = j + 1 := ⟨k - 1, by omega⟩
        have hcy : w.cell? ⟨b, off + j, none⟩ = some (eB bs[j]) := hcell j _ (by simp)
        have hz : ((j : Int) + 1 == 0) = false := by rw [beq_eq_false_iff_ne]; omega
        have hget : bs[j + 1]? = some bs[j + 1] := by simp
        have hget' : bs[j]? = some bs[j] := by simp
        clear hcell hcs
        by_cases heq : bs[j + 1] = bs[j]
        · have hne : ((bs[j + 1].toNat : Int) != bs[j].toNat) = false := by rw [heq]; simp
          have HH := Lib.hid (HO.out (by rw [Nat.add_sub_cancel, hget, hget', heq]; simp))
          clear hget hget' heq
          go_wp2
          go_round
          case rel => exact ⟨j + 2, by omega, by go_num, by rw [HH.out]; go_num, by rw [HH.out]; go_num⟩
          case measure => simp [intOf]; omega
        · have hne : ((bs[j + 1].toNat : Int) != bs[j].toNat) = true := by
            rw [bne_iff_ne]; intro e; apply heq; apply UInt8.toNat_inj.1; omega
          have HH := Lib.hid (HN.out (.inr (by rw [Nat.add_sub_cancel, hget, hget']; simpa using heq)))
          clear hget hget' heq
          go_wp2
          go_round
          case rel => exact ⟨j + 2, by omega, by go_num, by rw [HH.out]; go_num, by rw [HH.out]; go_num⟩
          case measure => simp [intOf]; omega
    · obtain rfl : k = bs.length := by omega
      go_wp2
      go_ret
      exact ⟨rfl, rfl⟩

/-- What append makes of bytes, or of nothing. -/
theorem row_made (w : World) : (w.alloc (.cells #[] 5)).ownsRow w.heap.size 5 1 (.slice (some ⟨w.heap.size, 0, none⟩) 0 0) 0 [] :=
  World.ownsRow_made w #[] 0 (Nat.le_refl _) (by unfold maxLen; omega) rfl

set_option maxRecDepth 100000 in
set_option maxHeartbeats 400000 in
theorem both_any (sa sb : Value) (a b : List UInt8) (hreach : a.length + b.length ≤ 140737488355328) (w : World) (ha : Sl eB w.heap.size w sa a) (hb : Sl eB w.heap.size w sb b) :
    Calls Tryd.prog 10 #[sa, sb] w fun e w' => ∃ v, e = .returned v ∧ Sl eB w'.heap.size w' v (a ++ b) ∧ Below w.heap.size w w' := by
  obtain ⟨i0, hi, hz0, hz1, hz2⟩ := info_parts info_u8
  have hrow := row_made w
  have hB1 : Below w.heap.size w (w.alloc (.cells #[] 5)) := (Below.refl _ _).alloc (Nat.le_refl _) _
  go_enter Tryd.func10, Tryd.ntmps10
  go_wp2_with (first
    | (at_builtin
       refine wpList_append_sl _ rfl (.tmp 5) (.tmp 6) _ rfl w.heap.size 5 i0 (.int .u8 0) 1 Tryd.underlying25 hi hz0 hz1 hz2 rfl _ 0 [] hrow rfl w.heap.size sa a (ha.below hB1) rfl (fun _ => rfl) (by unfold maxLen; omega) (by omega) (by simp) ?_
       intro v1 w1 hown1 hg1 hat1
       have hB2 : Below w.heap.size w w1 := hB1.trans (below_grown hrow hg1 (by simp) (Nat.le_refl _)))
    | (at_builtin
       refine wpList_append_sl _ rfl (.tmp 7) (.tmp 8) _ rfl w.heap.size 5 i0 (.int .u8 0) 1 Tryd.underlying25 hi hz0 hz1 hz2 rfl _ _ _ hown1 rfl w.heap.size sb b (hb.below hB2) rfl (fun _ => rfl) (by unfold maxLen; omega) (by omega) hB2.size ?_
       intro v2 w2 hown2 hg2 hat2))
  go_ret
  exact ⟨v2, rfl, Sl.of_own (n := a.length + b.length) (by simpa using hown2), hB2.trans (below_grown hown1 hg2 hB2.size (Nat.le_refl _))⟩

set_option maxRecDepth 100000 in
set_option maxHeartbeats 400000 in
theorem Clone_any (sv : Value) (a : List UInt8) (hreach : a.length ≤ 140737488355328) (w : World) (ha : Sl eB w.heap.size w sv a) :
    Calls Tryd.prog 30 #[sv] w fun e w' => ∃ v, e = .returned v ∧ Sl eB w'.heap.size w' v a ∧ Below w.heap.size w w' := by
  obtain ⟨i0, hi, hz0, hz1, hz2⟩ := info_parts info_u8
  have hrow := row_made w
  have hB1 : Below w.heap.size w (w.alloc (.cells #[] 5)) := (Below.refl _ _).alloc (Nat.le_refl _) _
  obtain ⟨A, c, rfl⟩ := ha.len
  cases A with
  | none =>
    have hx : a = [] := by
      obtain ⟨A, c', e, _, hcells⟩ := ha
      cases e
      cases a with
      | nil => rfl
      | cons x xs => obtain ⟨_, _, h, _⟩ := hcells (by simp); cases h
    subst hx
    have hq : ∀ w, (binOp .eql 25 (.slice none 0 c) (.slice none 0 0)).run Tryd.prog w = .ok (.bool true) w := fun w => Lib.run_eql_slice_nil w 25 5 none 0 c 0 0 Tryd.underlying25
    go_enter Tryd.func30, Tryd.ntmps30
    go_wp2
    go_ret
    exact ⟨_, rfl, Sl.nil _ _ _, Below.refl _ _⟩
  | some ad =>
    have hq : ∀ w, (binOp .eql 25 (.slice (some ad) a.length c) (.slice none 0 0)).run Tryd.prog w = .ok (.bool false) w := fun w => Lib.run_eql_slice_nil w 25 5 (some ad) a.length c 0 0 Tryd.underlying25
    go_enter Tryd.func30, Tryd.ntmps30
    go_wp2_with
      (at_builtin
       refine wpList_append_sl _ rfl (.tmp 5) (.tmp 6) _ rfl w.heap.size 5 i0 (.int .u8 0) 1 Tryd.underlying25 hi hz0 hz1 hz2 rfl _ 0 [] hrow rfl w.heap.size (.slice (some ad) a.length c) a (ha.below hB1) rfl (fun _ => rfl) (by unfold maxLen; omega) (by omega) (by simp) ?_
       intro v1 w1 hown1 hg1 hat1
       have hB2 : Below w.heap.size w w1 := hB1.trans (below_grown hrow hg1 (by simp) (Nat.le_refl _)))
    go_ret
    exact ⟨v1, rfl, Sl.of_own (n := a.length) (by simpa using hown1), hB2⟩

end Go.Proofs.YtapbfjbjbcpiiaaDoor
