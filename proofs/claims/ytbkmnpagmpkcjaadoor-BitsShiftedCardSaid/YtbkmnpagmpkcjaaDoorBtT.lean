/- Contracts of helixref01.Gc and of the law's own row. -/
import Derived.Test.YtbkmnpagmpkcjaaDoorBtS
namespace Go.Proofs.YtbkmnpagmpkcjaaDoor
open Go.RowKit Go.Shelf
attribute [local go_sem] Oper.semAt_some

/-- How many letters are strong. -/
def gcOf (bs : List UInt8) : Nat := bs.countP fun b => b == 67 || b == 71
theorem gcOf_le (bs : List UInt8) : gcOf bs ≤ bs.length := List.countP_le_length
theorem gcOf_snoc (bs : List UInt8) (k : Nat) (h : k < bs.length) : gcOf (bs.take (k + 1)) = gcOf (bs.take k) + if bs[k] == 67 || bs[k] == 71 then 1 else 0 := by
  rw [List.take_succ_eq_append_getElem h, gcOf, gcOf, List.countP_append]
  simp [List.countP_cons]

set_option maxRecDepth 100000 in
set_option maxHeartbeats 400000 in
theorem Gc_any (sv : Value) (bs : List UInt8) (hreach : bs.length ≤ 140737488351232) (B : Nat) (w : World) (hS : Sl eB B w sv bs) :
    Calls Tryd.prog 13 #[sv] w fun e w' => e = .returned (.int .i64 (gcOf bs)) ∧ w = w' := by
  obtain ⟨A, cap, rfl, hcap, hcs⟩ := hS
  go_enter Tryd.func13, Tryd.ntmps13
  go_wp2
  go_loop [3, 4] (fun g i => ∃ k : Nat, k ≤ bs.length ∧ i = .int .i64 k ∧ g = .int .i64 (gcOf (bs.take k))) (fun _ i => bs.length - (intOf i).toNat)
  case atStart => exact ⟨0, Nat.zero_le _, rfl, rfl⟩
  case round =>
    obtain ⟨k, hk, rfl, rfl⟩ := hrel
    by_cases hlt : k < bs.length
    · obtain ⟨b, off, rfl, hb, hcell⟩ := hcs (by omega)
      have hcx : w.cell? ⟨b, off + k, none⟩ = some (eB bs[k]) := hcell k _ (by simp [hlt])
      have hg := gcOf_le (bs.take k)
      have hg2 : gcOf (bs.take k) ≤ k := by rw [List.length_take] at hg; omega
      have H := Lib.hid (gcOf_snoc bs k hlt)
      clear hcell hcs hg
      generalize hx : bs[k] = x at *
      have Hx := Lib.hid hx
      clear hx
      by_cases h1 : x = 67
      · have e1 : ((x.toNat : Int) == 67) = true := by subst h1; rfl
        have Hh := Lib.hid h1
        clear h1
        go_wp2
        go_round
        case rel => exact ⟨k + 1, by omega, by go_num, by rw [H.out, Hh.out]; go_num⟩
        case measure => simp [intOf]; omega
      · have e1 : ((x.toNat : Int) == 67) = false := by
          rw [beq_eq_false_iff_ne]; intro e; apply h1; apply UInt8.toNat_inj.1; simp; omega
        by_cases h2 : x = 71
        · have e2 : ((x.toNat : Int) == 71) = true := by subst h2; rfl
          have Hh := Lib.hid h2
          clear h1 h2
          go_wp2
          go_round
          case rel => exact ⟨k + 1, by omega, by go_num, by rw [H.out, Hh.out]; go_num⟩
          case measure => simp [intOf]; omega
        · have e2 : ((x.toNat : Int) == 71) = false := by
            rw [beq_eq_false_iff_ne]; intro e; apply h2; apply UInt8.toNat_inj.1; simp; omega
          have Hh1 := Lib.hid h1
          have Hh2 := Lib.hid h2
          clear h1 h2
          go_wp2
          go_round
          case rel => exact ⟨k + 1, by omega, by go_num, by rw [H.out]; simp [Hh1.out, Hh2.out]⟩
          case measure => simp [intOf]; omega
    · obtain rfl : k = bs.length := by omega
      go_wp2
      go_ret
      exact ⟨rfl, rfl⟩


/-- A row of bits. -/
def bitRow (l : List Int) : List UInt8 := l.map fun n => UInt8.ofNat (n % 2).toNat
theorem bitRow_length (l : List Int) : (bitRow l).length = l.length := by simp [bitRow]
theorem bitRow_snoc (l : List Int) (k : Nat) (h : k < l.length) : bitRow (l.take (k + 1)) = bitRow (l.take k) ++ [UInt8.ofNat (l[k] % 2).toNat] := by
  rw [List.take_succ_eq_append_getElem h, bitRow, List.map_append]; rfl
theorem bitRow_bits (l : List Int) : ∀ b ∈ bitRow l, b.toNat ≤ 1 := by
  intro b hb
  obtain ⟨n, _, rfl⟩ := List.mem_map.1 hb
  rcases (show n % 2 = 0 ∨ n % 2 = 1 by omega) with e | e <;> rw [e] <;> decide
set_option maxRecDepth 100000 in
set_option maxHeartbeats 1000000 in
theorem row_any (sv : Value) (l : List Int) (hreach : l.length ≤ 17592186044416) (w : World) (hS : Sl eI w.heap.size w sv l) :
    Calls Tryd.prog 8 #[sv] w fun e w' => ∃ v, e = .returned v ∧ Sl eB w'.heap.size w' v (bitRow l) ∧ Below w.heap.size w w' := by
  obtain ⟨i0, hi, hz0, hz1, hz2⟩ := info_parts info_u8
  obtain ⟨A, cap, rfl, hcap, hcs⟩ := hS
  go_enter Tryd.func8, Tryd.ntmps8
  go_wp2
  go_loopw [3, 4] (fun v i wr => ∃ k : Nat, k ≤ l.length ∧ i = .int .i64 k ∧ wr.ownsRow w.heap.size 5 1 v k ((bitRow (l.take k)).map eB) ∧ Below w.heap.size w wr) (fun _ i _ => l.length - (intOf i).toNat)
  case atStart => exact ⟨0, Nat.zero_le _, rfl, World.ownsRow_nil _ _ _ _, Below.refl _ _⟩
  case round =>
    obtain ⟨k, hk, rfl, hrow, hB⟩ := hrel
    by_cases hlt : k < l.length
    · obtain ⟨b, off, rfl, hb, hcell⟩ := hcs (by omega)
      have hcx : wr.cell? ⟨b, off + k, none⟩ = some (eI l[k]) := (hB.cell (p := ⟨b, off + k, none⟩) hb).trans (hcell k _ (by simp [hlt]))
      have H := Lib.hid (bitRow_snoc l k hlt)
      clear hcell hcs
      generalize l[k] = x at *
      have h3 := bits_and1 x
      have hm : k + 1 ≤ maxLen := by unfold maxLen; omega
      rcases (show x % 2 = 0 ∨ x % 2 = 1 by omega) with hx2 | hx2
      · rw [hx2] at h3 H
        clear hx2
        go_wp2_with (at_builtin; refine wpList_append_own _ rfl _ _ 24 rfl w.heap.size 5 i0 (.int .u8 0) 1 1 Tryd.underlying24 hi hz0 hz1 hz2 rfl (by decide) _ _ _ rfl (hrow.alloc _) ⟨wr.heap.size, 0, none⟩ 1 1 [.int .u8 0] rfl rfl (cell_one_new _ _ _) (by simp [Value.oneCell']) hm (by omega) (by have := hB.size; simp; omega) ?_; intro v' w1 hown' hgrow _)
        have hB' : Below w.heap.size w w1 := (hB.alloc hB.size _).trans (below_grown (hrow.alloc _) hgrow (by have := hB.size; simp; omega) (Nat.le_refl _))
        go_roundw
        case rel => exact ⟨k + 1, by omega, by go_num, by rw [H.out]; simpa [show eB 0 = .int .u8 0 from rfl] using hown', hB'⟩
        case measure => simp [intOf]; omega
      · rw [hx2] at h3 H
        clear hx2
        go_wp2_with (at_builtin; refine wpList_append_own _ rfl _ _ 24 rfl w.heap.size 5 i0 (.int .u8 0) 1 1 Tryd.underlying24 hi hz0 hz1 hz2 rfl (by decide) _ _ _ rfl (hrow.alloc _) ⟨wr.heap.size, 0, none⟩ 1 1 [.int .u8 1] rfl rfl (cell_one_new _ _ _) (by simp [Value.oneCell']) hm (by omega) (by have := hB.size; simp; omega) ?_; intro v' w1 hown' hgrow _)
        have hB' : Below w.heap.size w w1 := (hB.alloc hB.size _).trans (below_grown (hrow.alloc _) hgrow (by have := hB.size; simp; omega) (Nat.le_refl _))
        go_roundw
        case rel => exact ⟨k + 1, by omega, by go_num, by rw [H.out]; simpa [show eB 1 = .int .u8 1 from rfl] using hown', hB'⟩
        case measure => simp [intOf]; omega
    · obtain rfl : k = l.length := by omega
      go_wp2
      go_ret
      exact ⟨_, rfl, Sl.of_own (by simpa using hrow), hB⟩

end Go.Proofs.YtbkmnpagmpkcjaaDoor
