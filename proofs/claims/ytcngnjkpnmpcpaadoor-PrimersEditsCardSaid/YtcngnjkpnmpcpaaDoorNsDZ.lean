import Derived.Maps.AppendAt
import Derived.Test.YtcngnjkpnmpcpaaDoorNtAZ
namespace Go.Proofs.YtcngnjkpnmpcpaaDoor
open Go.RowKit Go.Shelf
attribute [local go_sem] Oper.semAt_some
theorem info_u8 : (Tryd.prog.info? 5).map (fun i => (i.zero, i.size, i.bytes)) = some (some (.int .u8 0), 1, 1) := by kernel_rfl
def gcOf (bs : List UInt8) : Nat := bs.countP fun b => b == 67 || b == 71
theorem gcOf_le (bs : List UInt8) : gcOf bs ≤ bs.length := List.countP_le_length
theorem gcOf_snoc (bs : List UInt8) (k : Nat) (h : k < bs.length) : gcOf (bs.take (k + 1)) = gcOf (bs.take k) + if bs[k] == 67 || bs[k] == 71 then 1 else 0 := by
 rw [List.take_succ_eq_append_getElem h, gcOf, gcOf, List.countP_append]
 simp [List.countP_cons]
set_option maxRecDepth 100000 in
set_option maxHeartbeats 400000 in
theorem Gc_any (sv : Value) (bs : List UInt8) (hreach : bs.length ≤ 140737488351232) (B : Nat) (w : World) (hS : Sl eB B w sv bs) :
    Calls Tryd.prog 39 #[sv] w fun e w' => e = .returned (.int .i64 (gcOf bs)) ∧ w = w' := by
  obtain ⟨A, cap, rfl, hcap, hcs⟩ := hS
  go_enter Tryd.func39, Tryd.ntmps39
  go_wp2
  go_loop [3, 8] (fun g i => ∃ k : Nat, k ≤ bs.length ∧ i = .int .i64 k ∧ g = .int .i64 (gcOf (bs.take k))) (fun _ i => bs.length - (intOf i).toNat)
  case atStart => exact ⟨0, Nat.zero_le _, rfl, rfl⟩
  case round =>
   obtain ⟨k, hk, rfl, rfl⟩ := hrel
   by_cases hlt : k < bs.length
   · obtain ⟨b, off, rfl, hb, hcell⟩ := hcs (by omega)
     have hcx : w.cell? ⟨b, off + k, none⟩ = some (eB bs[k]) := hcell k _ (by simp [hlt])
     have hg := gcOf_le (bs.take k)
     have hg2 : gcOf (bs.take k) ≤ k := by rw [List.length_take] at hg; omega
     have H := Lib.hid (gcOf_snoc bs k hlt)
     clear hcell hcs hg
     generalize hx : bs[k] = x at *
     have Hx := Lib.hid hx
     clear hx
     by_cases h1 : x = 67
     · have e1 : ((x.toNat : Int) == 67) = true := by subst h1; rfl
       have Hh := Lib.hid h1
       clear h1
       go_wp2
       go_round
       case rel => exact ⟨k + 1, by omega, by go_num, by rw [H.out, Hh.out]; go_num⟩
       case measure => simp [intOf]; omega
     · have e1 : ((x.toNat : Int) == 67) = false := by
         rw [beq_eq_false_iff_ne]; intro e; apply h1; apply UInt8.toNat_inj.1; simp; omega
       by_cases h2 : x = 71
       · have e2 : ((x.toNat : Int) == 71) = true := by subst h2; rfl
         have Hh := Lib.hid h2
         clear h1 h2
         go_wp2
         go_round
         case rel => exact ⟨k + 1, by omega, by go_num, by rw [H.out, Hh.out]; go_num⟩
         case measure => simp [intOf]; omega
       · have e2 : ((x.toNat : Int) == 71) = false := by
           rw [beq_eq_false_iff_ne]; intro e; apply h2; apply UInt8.toNat_inj.1; simp; omega
         have Hh1 := Lib.hid h1
         have Hh2 := Lib.hid h2
         clear h1 h2
         go_wp2
         go_round
         case rel => exact ⟨k + 1, by omega, by go_num, by rw [H.out]; simp [Hh1.out, Hh2.out]⟩
         case measure => simp [intOf]; omega
   · obtain rfl : k = bs.length := by omega
     go_wp2
     go_ret
     exact ⟨rfl, rfl⟩
def runAt (bs : List UInt8) : Nat → Nat × Nat
  | 0 => (0, 0)
  | k + 1 => let r := if k = 0 ∨ bs[k]? ≠ bs[k - 1]? then 1 else (runAt bs k).2 + 1
             (max (runAt bs k).1 r, r)
theorem runAt_le (bs : List UInt8) : ∀ k, (runAt bs k).1 ≤ k ∧ (runAt bs k).2 ≤ k
  | 0 => by simp [runAt]
  | k + 1 => by
    have := runAt_le bs k
    simp only [runAt]
    split <;> omega
theorem runAt_succ_new (bs : List UInt8) (k : Nat) (h : k = 0 ∨ bs[k]? ≠ bs[k - 1]?) : runAt bs (k + 1) = (max (runAt bs k).1 1, 1) := by simp [runAt, h]
theorem runAt_succ_on (bs : List UInt8) (k : Nat) (h : ¬ (k = 0 ∨ bs[k]? ≠ bs[k - 1]?)) : runAt bs (k + 1) = (max (runAt bs k).1 ((runAt bs k).2 + 1), (runAt bs k).2 + 1) := by simp [runAt, h]
set_option maxRecDepth 100000 in
set_option maxHeartbeats 400000 in
theorem Run_any (sv : Value) (bs : List UInt8) (hreach : bs.length ≤ 140737488351232) (B : Nat) (w : World) (hS : Sl eB B w sv bs) :
    Calls Tryd.prog 40 #[sv] w fun e w' => e = .returned (.int .i64 (runAt bs bs.length).1) ∧ w = w' := by
  obtain ⟨A, cap, rfl, hcap, hcs⟩ := hS
  go_enter Tryd.func40, Tryd.ntmps40
  go_wp2
  go_loop [3, 4, 9] (fun m r i => ∃ k : Nat, k ≤ bs.length ∧ i = .int .i64 k ∧ m = .int .i64 (runAt bs k).1 ∧ r = .int .i64 (runAt bs k).2) (fun _ _ i => bs.length - (intOf i).toNat)
  case atStart => exact ⟨0, Nat.zero_le _, rfl, rfl, rfl⟩
  case round =>
   obtain ⟨k, hk, rfl, rfl, rfl⟩ := hrel
   by_cases hlt : k < bs.length
   · obtain ⟨b, off, rfl, hb, hcell⟩ := hcs (by omega)
     have hle := runAt_le bs k
     have HN := Lib.hid (runAt_succ_new bs k)
     have HO := Lib.hid (runAt_succ_on bs k)
     generalize runAt bs k = p at *
     obtain ⟨m, r⟩ := p
     dsimp only at hle HN HO ⊢
     have hcx : w.cell? ⟨b, off + k, none⟩ = some (eB bs[k]) := hcell k _ (by simp [hlt])
     rcases Nat.eq_zero_or_pos k with rfl | hpos
     · have hc0 : w.cell? ⟨b, off, none⟩ = some (eB bs[0]) := hcx
       clear hcell hcs hcx
       go_wp2
       go_round
       case rel => exact ⟨1, by omega, by go_num, by rw [HN.out (.inl rfl)]; simp; omega, by rw [HN.out (.inl rfl)]; simp⟩
       case measure => simp [intOf]; omega
     · obtain ⟨j, rfl⟩ : ∃ j, k = j + 1 := ⟨k - 1, by omega⟩
       have hcy : w.cell? ⟨b, off + j, none⟩ = some (eB bs[j]) := hcell j _ (by simp)
       have hz : ((j : Int) + 1 == 0) = false := by rw [beq_eq_false_iff_ne]; omega
       have hget : bs[j + 1]? = some bs[j + 1] := by simp
       have hget' : bs[j]? = some bs[j] := by simp
       clear hcell hcs
       by_cases heq : bs[j + 1] = bs[j]
       · have hne : ((bs[j + 1].toNat : Int) != bs[j].toNat) = false := by rw [heq]; simp
         have HH := Lib.hid (HO.out (by rw [Nat.add_sub_cancel, hget, hget', heq]; simp))
         clear hget hget' heq
         go_wp2
         go_round
         case rel => exact ⟨j + 2, by omega, by go_num, by rw [HH.out]; go_num, by rw [HH.out]; go_num⟩
         case measure => simp [intOf]; omega
       · have hne : ((bs[j + 1].toNat : Int) != bs[j].toNat) = true := by
           rw [bne_iff_ne]; intro e; apply heq; apply UInt8.toNat_inj.1; omega
         have HH := Lib.hid (HN.out (.inr (by rw [Nat.add_sub_cancel, hget, hget']; simpa using heq)))
         clear hget hget' heq
         go_wp2
         go_round
         case rel => exact ⟨j + 2, by omega, by go_num, by rw [HH.out]; go_num, by rw [HH.out]; go_num⟩
         case measure => simp [intOf]; omega
   · obtain rfl : k = bs.length := by omega
     go_wp2
     go_ret
     exact ⟨rfl, rfl⟩
theorem row_made (w : World) : (w.alloc (.cells #[] 5)).ownsRow w.heap.size 5 1 (.slice (some ⟨w.heap.size, 0, none⟩) 0 0) 0 [] :=
 World.ownsRow_made w #[] 0 (Nat.le_refl _) (by unfold maxLen; omega) rfl
end Go.Proofs.YtcngnjkpnmpcpaaDoor
namespace Go.Proofs.YtcngnjkpnmpcpaaDoor
open Go.RowKit Go.Shelf
attribute [local go_sem] Oper.semAt_some
set_option maxRecDepth 100000 in
set_option maxHeartbeats 2000000 in
theorem Valid_any (sv : Value) (bs : List UInt8) (hreach : bs.length ≤ 140737488351232) (w : World) (hS : Sl eB w.heap.size w sv bs) (hT : Tab w) :
    Calls Tryd.prog 38 #[sv] w fun e W' => e = .returned (.bool (decide ((-1 : Int) ∉ codesOf bs))) ∧ Below w.heap.size w W' := by
  refine (callsIn_wide (n := 5)).1 ?_
  obtain ⟨A, cap, rfl⟩ := hS.len
  refine callsIn_of_wp_marks Tryd.func38 rfl trivial ?_ rfl
  simp only [Tryd.ntmps38, List.size_toArray, List.length_cons, List.length_nil, Nat.reduceAdd, Nat.reduceSub, Array.replicate_succ, Array.replicate_zero, List.push_toArray, List.append_toArray, List.nil_append, List.cons_append]
  gi_wp2_with (refine ⟨trivial, ?_⟩; gi_at_call 58; refine (callsIn_wide.2 (codes_any _ _ _ _)).mono ?_; rintro e w' ⟨rfl, rfl⟩)
  obtain ⟨W0, hW0⟩ : ∃ W0, (w.alloc (Obj.cells #[Value.bool false] 4)).alloc (Obj.cells #[Value.slice A bs.length cap] 39) = W0 := ⟨_, rfl⟩
  have hs0 : W0.heap.size = w.heap.size + 2 := by rw [← hW0]; simp
  have hB0 : Below w.heap.size w W0 := by
   rw [← hW0]
   exact ((Below.refl _ w).alloc (Nat.le_refl _) _).alloc (by simp) _
  have b1 : Boxed W0 w.heap.size 4 (.bool false) := by
   rw [← hW0]
   exact (Boxed.new w 4 (.bool false)).alloc _
  have b3 : Boxed W0 (w.heap.size + 1) 39 (.slice A bs.length cap) := by
   rw [← hW0]
   have := Boxed.new (w.alloc (Obj.cells #[Value.bool false] 4)) 39 (Value.slice A bs.length cap)
   simpa only [World.size_alloc] using this
  have hT0 : Tab W0 := hT.below hB0
  rw [hW0]
  refine wpIn_rangeFunc_ownG rfl (by decide) (gf := 64) (lb := #[.pointer (some ⟨w.heap.size + 1, 0, none⟩)]) rfl trivial (enters_of Tryd.func64 (by kernel_rfl) rfl)
   (codes_stops 3 (w.heap.size + 1) w.heap.size _ bs (by omega) W0 (by omega) (by omega) hT.lt b3.cell (hS.below hB0) hT0) belowK_t (belowK_b (by omega)) (Below.refl _ _) (fun _ => rfl)
   (fun (pre : List Int) W => (Boxed W w.heap.size 4 (.bool false) ∧ (-1 : Int) ∉ pre) ∧ Below w.heap.size w W)
   (fun c (pre : List Int) W => (c = .ret ∧ Boxed W w.heap.size 4 (.bool false) ∧ (-1 : Int) ∈ pre) ∧ Below w.heap.size w W)
   (OwnFrom.and (OwnFrom.and (Own.from (boxed_own w.heap.size 4 (fun _ => .bool false)) _) (ownFrom_pure _ (fun (pre : List Int) => (-1 : Int) ∉ pre))) (ownFrom_below (Nat.le_refl _) (by omega)))
   (fun c => OwnFrom.and (OwnFrom.and (ownFrom_pure _ (fun _ => c = .ret)) (OwnFrom.and (Own.from (boxed_own w.heap.size 4 (fun _ => .bool false)) _) (ownFrom_pure _ (fun (pre : List Int) => (-1 : Int) ∈ pre)))) (ownFrom_below (Nat.le_refl _) (by omega)))
   ⟨⟨b1, by simp⟩, hB0⟩
   (fun x => { tmps := #[.slice A bs.length cap, undef, .pointer (some ⟨w.heap.size, 0, none⟩), .int .i64 x, .slice A bs.length cap, .func (.func 64) #[] #[.pointer (some ⟨w.heap.size + 1, 0, none⟩)], .int .i64 x, undef, undef], defers := [] }) ?assign ?body ?done ?stop
  case assign =>
   intro l x W K hK
   gi_wp2
   exact hK
  case body =>
   rintro l pre x W ⟨⟨hv, hnot⟩, hB⟩ hlt
   have hc := hv.cell
   have hf := hv.frozen
   by_cases hx : x = -1
   · subst hx
     gi_wp2
     exact ⟨(KeepsOthers.setCell W _ _).from _, ⟨rfl, hv.set _, by simp⟩, hB.setCell (p := ⟨w.heap.size, 0, none⟩) (Nat.le_refl _) _⟩
   · have hxb : (x == -1) = false := by simpa using hx
     gi_wp2
     refine ⟨KeepsFrom.refl _ _, Below.refl _ _, ⟨hv, ?_⟩, hB⟩
     simp only [List.mem_append, List.mem_singleton]
     exact fun h => h.elim hnot (fun e => hx e.symm)
  case done =>
   rintro D ys W hD rfl ⟨⟨hv, hnot⟩, hB⟩ hK
   have hc := hv.cell
   have hf := hv.frozen
   gi_wp2
   have hK' := (KeepsOthers.setCell W ⟨w.heap.size, 0, none⟩ (.bool true)).same D _ hK rfl
   refine ⟨by simp, .inl ⟨_, _, rfl, run_takeDeferred hK', ?_⟩⟩
   have hc5 := cell_kept (hv.set (.bool true)).cell (grownBy_putObj' _ D (.deferred none)) (fun r e => by cases e; exact ⟨_, hK', rfl⟩)
   refine ⟨.bool true, ?_, by simp [hnot], (hB.setCell (p := ⟨w.heap.size, 0, none⟩) (Nat.le_refl _) _).trans (belowK_b (w := w) (Nat.le_refl _) _ D _ _ (by omega) hK' rfl rfl)⟩
   simp [results, Tryd.f38, go_sem, hc5]
  case stop =>
   rintro D c pre W hD hpre ⟨⟨rfl, hv, hin⟩, hB⟩ hK
   have hc := hv.cell
   gi_wp2
   refine ⟨by simp, .inl ⟨_, _, rfl, run_takeDeferred hK, ?_⟩⟩
   have hc5 := cell_kept hc (grownBy_putObj' _ D (.deferred none)) (fun r e => by cases e; exact ⟨_, hK, rfl⟩)
   have hin' := hpre.subset hin
   refine ⟨.bool false, ?_, by simp [hin'], hB.trans (belowK_b (w := w) (Nat.le_refl _) _ D _ _ (by omega) hK rfl rfl)⟩
   simp [results, Tryd.f38, go_sem, hc5]
end Go.Proofs.YtcngnjkpnmpcpaaDoor
