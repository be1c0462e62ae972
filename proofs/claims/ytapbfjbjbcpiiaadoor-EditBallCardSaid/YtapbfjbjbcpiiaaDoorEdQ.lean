/- others; a row of edits opened; EditApplies. -/
import Derived.Test.YtapbfjbjbcpiiaaDoorEdP
namespace Go.Proofs.YtapbfjbjbcpiiaaDoor
open Go.RowKit Go.Shelf
attribute [local go_sem] Oper.semAt_some run_store_func

theorem oG_succ (s : List UInt8) (k : Nat) (h : k < s.length) : oG s (k + 1) = oG s k + if isL s[k] then 3 else 4 := by
  show oG s k + _ = _
  rw [List.getD_eq_getElem?_getD, List.getElem?_eq_getElem h]
  rfl
theorem u8_ne (c k : UInt8) (h : c ≠ k) : ¬ (c.toNat : Int) = (k.toNat : Int) := fun he => h (UInt8.toNat_inj.1 (by omega))
set_option maxRecDepth 100000 in
set_option maxHeartbeats 1000000 in
theorem others_any (v : Value) (s : List UInt8) (hl : s.length ≤ 1000) (w : World) (hS : Sl eB w.heap.size w v s) :
    Calls Tryd.prog 21 #[v] w fun e w' => e = .returned (.int .i64 (oG s s.length : Nat)) ∧ w = w' := by
  obtain ⟨A, c, rfl, -, hcs⟩ := hS
  go_enter Tryd.func21, Tryd.ntmps21
  go_wp2_with fail
  go_loopw [3, 4] (fun n i wr => ∃ k : Nat, k ≤ s.length ∧ i = .int .i64 k ∧ n = .int .i64 (oG s k : Nat) ∧ wr = w) (fun _ i _ => s.length - (intOf i).toNat)
  case atStart => exact ⟨0, Nat.zero_le _, rfl, rfl, rfl⟩
  case round =>
    obtain ⟨k, hk, rfl, rfl, rfl⟩ := hrel
    by_cases hlt : k < s.length
    · obtain ⟨b, off, rfl, -, hcell⟩ := hcs (by omega)
      have hc := hcell k s[k] (List.getElem?_eq_getElem hlt)
      have ho := oG_le s k
      have hs := oG_succ s k hlt
      have h3 : (k : Int) < (s.length : Int) := by omega
      have hk9 : k ≤ 1000 := by omega
      have ho9 : oG s k ≤ 4000 := by omega
      have hlt' := Lib.hid hlt
      generalize s[k] = x at *
      by_cases h0 : isL x = true
      · rw [if_pos h0] at hs
        have h4 : x = 65 ∨ x = 67 ∨ x = 71 ∨ x = 84 := by
          unfold isL at h0
          simp only [Bool.or_eq_true, beq_iff_eq] at h0
          rcases h0 with ((h0 | h0) | h0) | h0
          · exact .inl h0
          · exact .inr (.inl h0)
          · exact .inr (.inr (.inl h0))
          · exact .inr (.inr (.inr h0))
        clear h0 hcell hcs
        have Hs := Lib.hid hs
        clear hs
        rcases h4 with rfl | rfl | rfl | rfl <;>
        · go_wp2_with fail
          go_roundw
          case rel => exact ⟨k + 1, hlt'.out, by go_num, by rw [Hs.out]; go_num, trivial⟩
          case measure => have := hlt'.out; simp [intOf]; omega
      · rw [if_neg h0] at hs
        have e0 : ¬ (x.toNat : Int) = 65 := u8_ne x 65 (by rintro rfl; exact h0 rfl)
        have e1 : ¬ (x.toNat : Int) = 67 := u8_ne x 67 (by rintro rfl; exact h0 rfl)
        have e2 : ¬ (x.toNat : Int) = 71 := u8_ne x 71 (by rintro rfl; exact h0 rfl)
        have e3 : ¬ (x.toNat : Int) = 84 := u8_ne x 84 (by rintro rfl; exact h0 rfl)
        have n0 : ¬ x.toNat = 65 := by omega
        have n1 : ¬ x.toNat = 67 := by omega
        have n2 : ¬ x.toNat = 71 := by omega
        have n3 : ¬ x.toNat = 84 := by omega
        have m0 : ((x.toNat : Int) == 65) = false := beq_eq_false_iff_ne.2 e0
        have m1 : ((x.toNat : Int) == 67) = false := beq_eq_false_iff_ne.2 e1
        have m2 : ((x.toNat : Int) == 71) = false := beq_eq_false_iff_ne.2 e2
        have m3 : ((x.toNat : Int) == 84) = false := beq_eq_false_iff_ne.2 e3
        clear h0 hcell hcs n0 n1 n2 n3 e0 e1 e2 e3
        have Hs := Lib.hid hs
        clear hs
        go_wp2_with fail
        go_roundw
        case rel => exact ⟨k + 1, hlt'.out, by go_num, by rw [Hs.out]; go_num, trivial⟩
        case measure => have := hlt'.out; simp [intOf]; omega
    · obtain rfl : k = s.length := by omega
      have h3 : ¬ (s.length : Int) < (s.length : Int) := by omega
      have h4 : ¬ s.length < s.length := by omega
      clear hlt hk
      go_wp2_with fail
      go_ret
      exact ⟨rfl, rfl⟩
/-- The row of all edits, opened. -/
theorem ed_open {B : Nat} {W : World} {v : Value} {s : List UInt8} (h : W.ownsRow B 36 3 v (edG s).length (flatG (edG s))) : ∃ (g c : Nat), v = .slice (some ⟨g, 0, none⟩) (edG s).length c ∧
    ∀ k d, (edG s)[k]? = some d → g < W.heap.size ∧ W.cell? ⟨g, k * 3, none⟩ = some (eB d.k) ∧ W.cell? ⟨g, k * 3 + 1, none⟩ = some (.int .i64 d.z) ∧ W.cell? ⟨g, k * 3 + 2, none⟩ = some (eB d.b) := by
  obtain ⟨n, hn⟩ : ∃ n, (edG s).length = n + 1 := ⟨(upS s s.length ++ upM (s.length + 1)).length, rfl⟩
  rw [hn] at h ⊢
  obtain ⟨g, c, rfl⟩ := ownsRow_succ h
  refine ⟨g, c, rfl, fun k d hk => ?_⟩
  obtain ⟨a0, a1, a2⟩ := flatG_at _ k d hk
  have hc := h.cells (g := g) rfl
  have he : ∀ j, ((⟨g, 0, none⟩ : Addr).add j) = ⟨g, j, none⟩ := fun j => by rcases j with _ | j <;> simp [Addr.add]
  have b0 := hc _ _ a0
  have b1 := hc _ _ a1
  have b2 := hc _ _ a2
  rw [he] at b0 b1 b2
  exact ⟨World.block_lt_of_cell? _ _ b0, b0, b1, b2⟩
end Go.Proofs.YtapbfjbjbcpiiaaDoor
