/- TurnAll. -/
import Derived.Test.YtniiblamoimcjaaDoorTuL
namespace Go.Proofs.YtniiblamoimcjaaDoor
open Go.RowKit Go.Shelf
attribute [local go_sem] Oper.semAt_some run_store_func

/-- A row of numbers, as letters. -/
def rowOf (l : List Int) : List UInt8 := l.map letterOf
theorem rowOf_snoc (l : List Int) (k : Nat) (h : k < l.length) : rowOf (l.take (k + 1)) = rowOf (l.take k) ++ [letterOf l[k]] := by
  rw [List.take_succ_eq_append_getElem h, rowOf, rowOf, List.map_append]; rfl
theorem rowOf_let (l : List Int) : ∀ c ∈ rowOf l, IsLet c := by
  intro c hc
  obtain ⟨x, _, rfl⟩ := List.mem_map.1 hc
  exact let_letter x
theorem beq_u8 (x y : UInt8) : ((x.toNat : Int) == (y.toNat : Int)) = (x == y) := by
  rw [Bool.eq_iff_iff]
  simp only [beq_iff_eq, Int.ofNat_inj]
  exact UInt8.toNat_inj

set_option maxRecDepth 100000 in
set_option maxHeartbeats 4000000 in
theorem TurnAll_any (n : Int) (sv : Value) (l : List Int) (w : World) (hS : Sl eI w.heap.size w sv l) (hT : Tab w) :
    Calls Tryd.prog 5 #[.int .i64 n, sv] w fun e w' => e = .returned (.bool true) ∧ Below w.heap.size w w' := by
  have hw := wakes_any
  have hle := lett_any n
  have hal := let_letter n
  obtain ⟨i0, hi, hz0, hz1, hz2⟩ := info_parts info_u8
  obtain ⟨A, c, rfl, hcap, hcs⟩ := hS
  generalize letterOf n = a at *
  by_cases h3 : 300 < l.length
  · have d1 : decide ((300 : Int) < (l.length : Int)) = true := decide_eq_true (by omega)
    go_enter Tryd.func5, Tryd.ntmps5
    go_wp2_with (go_at_call 8; refine (hw _ hT).mono ?_; rintro e w' ⟨rfl, hB⟩)
    go_ret
    exact ⟨rfl, hB⟩
  · have d1 : decide ((300 : Int) < (l.length : Int)) = false := decide_eq_false (by omega)
    go_enter Tryd.func5, Tryd.ntmps5
    go_wp2_with fail
    go_at_call 18
    refine (hle _).mono ?_
    rintro e w' ⟨rfl, rfl⟩
    go_wp2_with fail
    go_loopw [6, 7, 8, 9] (fun p v al i wr => ∃ k : Nat, k ≤ l.length ∧ p = eB ((rowOf (l.take k)).getLastD a) ∧ al = .bool (alikeG a (rowOf (l.take k))) ∧ i = .int .i64 k ∧ wr.ownsRow w.heap.size 5 1 v k ((rowOf (l.take k)).map eB) ∧ Below w.heap.size w wr) (fun _ _ _ i _ => l.length - (intOf i).toNat)
    case atStart => exact ⟨0, Nat.zero_le _, rfl, rfl, rfl, World.ownsRow_nil _ _ _ _, Below.refl _ _⟩
    case round =>
      obtain ⟨k, hk, rfl, rfl, rfl, hrow, hB⟩ := hrel
      by_cases hlt : k < l.length
      · obtain ⟨b, off, rfl, hb, hcell⟩ := hcs (by omega)
        have hcx : wr.cell? ⟨b, off + k, none⟩ = some (eI l[k]) := (hB.cell (p := ⟨b, off + k, none⟩) hb).trans (hcell k _ (by simp [hlt]))
        have H := Lib.hid (rowOf_snoc l k hlt)
        have hlx := lett_any l[k]
        have hq := alikeG_snoc (rowOf (l.take k)) a (letterOf l[k])
        rw [← H.out] at hq
        have hgl : (rowOf (l.take (k + 1))).getLastD a = letterOf l[k] := by rw [H.out]; simp
        have Hq := Lib.hid hq
        have Hg := Lib.hid hgl
        clear hcell hcs hq hgl
        generalize alikeG a (rowOf (l.take k)) = al at *
        generalize (rowOf (l.take k)).getLastD a = p at *
        generalize letterOf l[k] = x at *
        generalize l[k] = y at *
        have hdd := beq_u8 x p
        have hm : k + 1 ≤ maxLen := by unfold maxLen; omega
        cases al with
        | true =>
          go_wp2_with fail
          go_at_call 18
          refine (hlx _).mono ?_
          rintro e w' ⟨rfl, rfl⟩
          go_wp2_with (at_builtin; refine wpList_append_own _ rfl _ _ 22 rfl w.heap.size 5 i0 (.int .u8 0) 1 1 Tryd.underlying22 hi hz0 hz1 hz2 rfl (by decide) _ _ _ rfl (hrow.alloc _) ⟨wr.heap.size, 0, none⟩ 1 1 [eB x] rfl rfl (cell_one_new _ _ _) (by simp [Value.oneCell']) hm (by omega) (by have := hB.size; simp; omega) ?_; intro v' w1 hown' hgrow _)
          have hB' : Below w.heap.size w w1 := (hB.alloc hB.size _).trans (below_grown (hrow.alloc _) hgrow (by have := hB.size; simp; omega) (Nat.le_refl _))
          go_roundw
          case rel => exact ⟨k + 1, by omega, by rw [Hg.out], by rw [Hq.out]; rfl, by go_num, by rw [H.out]; simpa using hown', hB'⟩
          case measure => simp [intOf]; omega
        | false =>
          go_wp2_with fail
          go_at_call 18
          refine (hlx _).mono ?_
          rintro e w' ⟨rfl, rfl⟩
          go_wp2_with (at_builtin; refine wpList_append_own _ rfl _ _ 22 rfl w.heap.size 5 i0 (.int .u8 0) 1 1 Tryd.underlying22 hi hz0 hz1 hz2 rfl (by decide) _ _ _ rfl (hrow.alloc _) ⟨wr.heap.size, 0, none⟩ 1 1 [eB x] rfl rfl (cell_one_new _ _ _) (by simp [Value.oneCell']) hm (by omega) (by have := hB.size; simp; omega) ?_; intro v' w1 hown' hgrow _)
          have hB' : Below w.heap.size w w1 := (hB.alloc hB.size _).trans (below_grown (hrow.alloc _) hgrow (by have := hB.size; simp; omega) (Nat.le_refl _))
          go_roundw
          case rel => exact ⟨k + 1, by omega, by rw [Hg.out], by rw [Hq.out]; simp, by go_num, by rw [H.out]; simpa using hown', hB'⟩
          case measure => simp [intOf]; omega
      · obtain rfl : k = l.length := by omega
        rw [List.take_length] at *
        have hsl : (rowOf l).length = l.length := by simp [rowOf]
        have hlet := rowOf_let l
        rw [← hsl] at hrow
        have hs := sl_own hrow
        have hTr := hT.below hB
        have hln : (rowOf l).length ≤ 1000000 := by omega
        have hl3 : (rowOf l).length ≤ 300 := by omega
        clear hcs hle hrow
        generalize rowOf l = s at *
        clear hsl
        obtain ⟨As, cs, rfl⟩ := hs.len
        cases hak : alikeG a s with
        | true =>
          have hR := walk_alike s a hal hlet hak
          have hBn := fun v w => Back_no a v s 90 (by show gatG a (wT a s) = _; rw [show wT a s = ((wT a s).1, some 90) from Prod.ext rfl hR]; exact gat_no hal _ _) hln w
          clear hR hak
          go_wp2_with fail
          go_at_call 15
          refine (hBn _ _ hTr hs).mono ?_
          rintro e w3 ⟨rfl, hB3⟩
          have hT3 := hTr.below hB3
          have hB3 := below_trans hB hB3
          go_wp2_with (go_at_call 8; refine (hw _ hT3).mono ?_; rintro e w' ⟨rfl, hB4⟩)
          go_ret
          exact ⟨rfl, below_trans hB3 hB4⟩
        | false =>
          obtain ⟨ts, f1, f2, f3⟩ := walk_back s a hal hlet hak
          have hBy := fun v w => Back_yes a v s ts (by show gatG a (wT a s) = _; rw [f1]; exact gat_ok hal ts) hln w
          have hTy := fun v w => Turn_yes a v ts s (by show gatG a (wB a ts) = _; rw [f3]; exact gat_ok hal s) (by omega) w
          clear f1 f2 f3 hak
          go_wp2_with fail
          go_at_call 15
          refine (hBy _ _ hTr hs).mono ?_
          rintro e w3 ⟨v3, rfl, ho3, hB3⟩
          have hs3 := sl_own ho3
          have hs := hs.next hB3
          have hT3 := hTr.below hB3
          have hB3 := below_trans hB hB3
          obtain ⟨A3, c3, rfl⟩ := hs3.len
          clear hBy ho3 hTr hB
          go_wp2_with fail
          go_at_call 13
          refine (hTy _ _ hT3 hs3).mono ?_
          rintro e w4 ⟨v4, rfl, ho4, hB4⟩
          have hs4 := sl_own ho4
          have hs := hs.next hB4
          have hT4 := hT3.below hB4
          have hB4 := below_trans hB3 hB4
          obtain ⟨A4, c4, rfl⟩ := hs4.len
          clear hTy ho4 hT3 hB3 hs3
          go_wp2_with fail
          go_at_call 17
          refine (same_eq _ _ _ _ _ hs4 hs).mono ?_
          rintro e w' ⟨rfl, rfl⟩
          go_wp2_with (go_at_call 8; refine (hw _ hT4).mono ?_; rintro e w' ⟨rfl, hB5⟩)
          go_ret
          exact ⟨rfl, below_trans hB4 hB5⟩
end Go.Proofs.YtniiblamoimcjaaDoor
