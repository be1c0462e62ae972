/- Contracts of the reference's Five and Back. -/
import Derived.Test.YtmppkfiocleicaaTrP
namespace Go.Proofs.Ytmppkfiocleicaa
open Go.RowKit Go.Shelf
attribute [local go_sem] Oper.semAt_some run_store_func

theorem row_get (L : List UInt8) (k : Nat) : (L.map eB).toArray[k]? = (L[k]?).map eB := by simp
set_option maxRecDepth 100000 in
set_option maxHeartbeats 4000000 in
theorem RFive_any (L : List UInt8) (hl : L.length = 5) (w : World) :
    Calls Try.prog 15 #[aB L] w fun e w' => e = .returned (aB (trL (nb L 5))) ∧ Below w.heap.size w w' := by
  obtain ⟨hz, hsz⟩ := zero_of_info info26
  have hc0 : (Value.agg z26).cells = z26 := rfl
  have hcL := cells_aB L
  have hB : Below w.heap.size w ((w.alloc (.cells (L.map eB).toArray 22)).alloc (.cells z26 23)) := ((Below.refl _ w).alloc (Nat.le_refl _) _).alloc (by simp) _
  have hr1 : Row8 ((w.alloc (.cells (L.map eB).toArray 22)).alloc (.cells z26 23)) w.heap.size 22 L := (Rowed.new w _ _).alloc _
  have hr2 : Rowed ((w.alloc (.cells (L.map eB).toArray 22)).alloc (.cells z26 23)) (w.heap.size + 1) 23 z26 := by
    have := Rowed.new (w.alloc (.cells (L.map eB).toArray 22)) 23 z26
    rwa [World.size_alloc] at this
  go_enter Try.func15, Try.ntmps15
  go_wp2_with fail
  generalize (w.alloc (.cells (L.map eB).toArray 22)).alloc (.cells z26 23) = w1 at *
  go_loop [3, 4] (fun z i => ∃ k : Nat, k ≤ 5 ∧ i = .int .i64 k ∧ z = .int .u64 (nb L k : Nat)) (fun _ i => 5 - (intOf i).toNat)
  case atStart => exact ⟨0, Nat.zero_le _, rfl, rfl⟩
  case round =>
    obtain ⟨k, hk, rfl, rfl⟩ := hrel
    by_cases hlt : k < 5
    · have hck : w1.cell? ⟨w.heap.size, k, none⟩ = some (eB (nb.C8 L k)) := by rw [hr1.cell k, row_get, C8_at L k (by omega), List.getElem?_eq_getElem (by omega)]; rfl
      have hnb := nb_lt L k
      have hpw : 256 ^ k ≤ 256 ^ 4 := Nat.pow_le_pow_right (by omega) (by omega)
      have hn5 : nb L k < 4294967296 := by omega
      have Hs := Lib.hid (show nb L (k + 1) = nb L k * 256 + (nb.C8 L k).toNat from rfl)
      have hy := (nb.C8 L k).toNat_lt
      have dk : decide ((k : Int) < 5) = true := decide_eq_true (by omega)
      generalize nb L k = m at *
      generalize nb.C8 L k = c at *
      have e1 : IntKind.u64.wrap ((m : Int) * 256) = (m : Int) * 256 := IntWalk.u64_in _ (by omega)
      have e2 : IntKind.u64.wrap (c.toNat : Int) = (c.toNat : Int) := IntWalk.u64_in _ (by omega)
      have e3 : IntKind.u64.wrap ((m : Int) * 256 + (c.toNat : Int)) = (m : Int) * 256 + (c.toNat : Int) := IntWalk.u64_in _ (by omega)
      clear hnb hpw hr1 hr2 hz hsz hc0 hcL
      go_wp2_with fail
      go_round
      case rel => exact ⟨k + 1, by omega, by go_num, by rw [Hs.out]; go_num⟩
      case measure => simp [intOf]; omega
    · obtain rfl : k = 5 := by omega
      have hx5 := nb_lt L 5
      generalize hxe : nb L 5 = x at *
      have Hxe := Lib.hid hxe
      clear hxe hk hlt hcL hr1
      go_wp2_with fail
      have hB2 : Below w.heap.size w (w1.alloc (.cells z26 23)) := hB.alloc (hB.size) _
      have hs1 : w.heap.size + 2 ≤ w1.heap.size := by have := hr2.lt; omega
      have hr3 : Rowed (w1.alloc (.cells z26 23)) w1.heap.size 23 (tr3 x 0) := by rw [tr3_zero]; exact Rowed.new w1 _ _
      have hr4 : Rowed (w1.alloc (.cells z26 23)) (w.heap.size + 1) 23 z26 := hr2.alloc _
      generalize hg : w1.heap.size = g at *
      generalize w1.alloc (.cells z26 23) = w2 at *
      clear hg hB hr2
      go_loopw [3, 6] (fun z i wr => ∃ k : Nat, k ≤ 26 ∧ i = .int .i64 (25 - (k : Int)) ∧ z = .int .u64 (x / 3 ^ k : Nat) ∧ Rowed wr g 23 (tr3 x k) ∧ Rowed wr (w.heap.size + 1) 23 z26 ∧ Below w.heap.size w wr) (fun _ i _ => (intOf i + 1).toNat)
      case atStart => exact ⟨0, Nat.zero_le _, rfl, by rw [Nat.pow_zero, Nat.div_one], hr3, hr4, hB2⟩
      case round =>
        clear hr3 hr4 hB2
        obtain ⟨k, hk, rfl, rfl, h3, h4, hB⟩ := hrel
        by_cases hlt : k < 26
        · obtain ⟨j, hj⟩ : ∃ j : Nat, j = 25 - k := ⟨_, rfl⟩
          have hji : (25 : Int) - (k : Int) = (j : Int) := by omega
          rw [hji]
          have dk : decide ((0 : Int) ≤ (j : Int)) = true := decide_eq_true (by omega)
          have ck := h3.cell j
          have fk := h3.frozen j
          have hset := h3.set j (.int .u8 ((x / 3 ^ k % 3 : Nat) : Int))
          rw [hj, tr3_set x k hlt, ← hj] at hset
          rw [hj, tr3_at x k hlt, ← hj] at ck
          have hnext : x / 3 ^ (k + 1) = x / 3 ^ k / 3 := by rw [Nat.pow_succ, Nat.div_div_eq_div_mul]
          have hxk : x / 3 ^ k < 1099511627776 := Nat.lt_of_le_of_lt (Nat.div_le_self _ _) hx5
          have Hn := Lib.hid hnext
          have Hj := Lib.hid hji
          clear hnext hji
          generalize x / 3 ^ k = y at *
          have i1 : (j : Int) < 26 := by omega
          have hjk : j ≤ 25 := by omega
          have Hj2 := Lib.hid hj
          clear hj
          go_wp2_with fail
          rw [show (y : Int) % 3 = ((y % 3 : Nat) : Int) by omega, show (y : Int) / 3 = ((y / 3 : Nat) : Int) by omega]
          have hh := Hj2.out
          go_roundw
          case rel => exact ⟨k + 1, by omega, by rw [show (25 : Int) - ((k + 1 : Nat) : Int) = (j : Int) - 1 by omega], by rw [Hn.out], hset, h4.other g j _ (by omega), hB.setCell (p := ⟨g, j, none⟩) (by show _ ≤ g; omega) _⟩
          case measure => simp [intOf]
        · obtain rfl : k = 26 := by omega
          have hsr : (Try.prog.info? 23).map (·.size) = some (tr3 x 26).size := by rw [hsz, tr3_size]
          have dk : decide ((0 : Int) ≤ 25 - ((26 : Nat) : Int)) = false := decide_eq_false (by omega)
          clear hlt
          go_wp2_with (first
            | (refine wpList_load_row rfl 23 (.tmp 5) rfl g rfl _ (tr3 x 26) _ _ h3 Try.underlying23 rfl hsr ?_)
            | (refine wpList_store_row rfl 23 (.tmp 2) (.tmp 29) rfl (w.heap.size + 1) (tr3 x 26) rfl rfl _ z26 h4 hsr (by rw [tr3_size]; rfl) (tr3_one x 26) ?_))
          have hrow := setRow_heap wr (w.heap.size + 1) z26 (tr3 x 26) _ _ h4
          have hB3 := below_setRow hB (w.heap.size + 1) (tr3 x 26) (by omega)
          refine bodyPost_ret (v := .agg (tr3 x 26)) (results_cell_row rfl _ _ (w.heap.size + 1) _ _ _ _ rfl hrow Try.underlying23 rfl hsr) rfl ⟨by rw [tr3_eq, Hxe.out], hB3⟩
set_option maxRecDepth 100000 in
set_option maxHeartbeats 4000000 in
theorem RBack_any (L x : List UInt8) (e0 : Int) (hl : L.length = 26) (hbi : BackIs L x e0) (w : World) :
    Calls Try.prog 9 #[aB L] w fun e w' => e = .returned (.tuple #[aB x, .int .i64 e0]) ∧ Below w.heap.size w w' := by
  obtain ⟨hz, hsz⟩ := zero_of_info info5
  have hc0 : (Value.agg z5).cells = z5 := rfl
  have hcL := cells_aB L
  have hb1 : ∀ w, (Instr.build 22 #[]).run Try.prog w = .ok (.agg z5) w := fun _ => by kernel_rfl
  have h5 : (Try.prog.info? 22).map (·.size) = some z5.size := by rw [hsz]; rfl
  have h5c : z5.all (·.oneCell') = true := by rw [← by5_zero 0]; exact by5_one 0 0
  have hB : Below w.heap.size w ((w.alloc (.cells (L.map eB).toArray 23)).alloc (.cells z5 22)) := ((Below.refl _ w).alloc (Nat.le_refl _) _).alloc (by simp) _
  have hr1 : Row8 ((w.alloc (.cells (L.map eB).toArray 23)).alloc (.cells z5 22)) w.heap.size 23 L := (Rowed.new w _ _).alloc _
  have hr2 : Rowed ((w.alloc (.cells (L.map eB).toArray 23)).alloc (.cells z5 22)) (w.heap.size + 1) 22 z5 := by
    have := Rowed.new (w.alloc (.cells (L.map eB).toArray 23)) 22 z5
    rwa [World.size_alloc] at this
  go_enter Try.func9, Try.ntmps9
  go_wp2_with fail
  generalize (w.alloc (.cells (L.map eB).toArray 23)).alloc (.cells z5 22) = w1 at *
  have hrow5 := setRow_heap w1 (w.heap.size + 1) z5 z5 _ _ hr2
  have hB5 := below_setRow hB (w.heap.size + 1) z5 (by omega)
  go_loop [4, 5] (fun z i => ∃ k : Nat, k ≤ 26 ∧ i = .int .i64 k ∧ z = .int .u64 (nt3 L k : Nat) ∧ ∀ j, j < k → (nb.C8 L j).toNat ≤ 2) (fun _ i => 26 - (intOf i).toNat)
  case atStart => exact ⟨0, Nat.zero_le _, rfl, rfl, fun j hj => absurd hj (by omega)⟩
  case round =>
    obtain ⟨k, hk, rfl, rfl, hle⟩ := hrel
    by_cases hlt : k < 26
    · have hck : w1.cell? ⟨w.heap.size, k, none⟩ = some (eB (nb.C8 L k)) := by rw [hr1.cell k, row_get, C8_at L k (by omega), List.getElem?_eq_getElem (by omega)]; rfl
      have hnb := nt3_lt L k hle
      have hpw : 3 ^ k ≤ 3 ^ 25 := Nat.pow_le_pow_right (by omega) (by omega)
      have hn5 : nt3 L k < 1000000000000 := by omega
      have Hs := Lib.hid (show nt3 L (k + 1) = nt3 L k * 3 + (nb.C8 L k).toNat from rfl)
      have hy := (nb.C8 L k).toNat_lt
      have dk : decide ((k : Int) < 26) = true := decide_eq_true (by omega)
      by_cases hc : 2 < (nb.C8 L k).toNat
      · have d1 : decide ((2 : Int) < ((nb.C8 L k).toNat : Int)) = true := decide_eq_true (by omega)
        have hf : fB L 26 = false := by
          cases h : fB L 26 with
          | false => rfl
          | true => have := (fB_all L hl).1 h k hlt; omega
        obtain ⟨rfl, rfl⟩ := back_not hl hf hbi
        generalize nt3 L k = m at *
        generalize nb.C8 L k = c at *
        clear hnb hpw hf hbi hz hle hcL
        go_wp2_with (first
          | (refine wpList_build rfl 22 _ rfl _ _ (hb1 _) (by kernel_rfl) ?_)
          | (refine wpList_store_row rfl 22 (.tmp 2) (.tmp 16) rfl (w.heap.size + 1) z5 rfl rfl _ z5 hr2 h5 rfl h5c ?_))
        refine bodyPost_ret (v := .tuple #[.agg z5, .int .i64 2]) ?_ rfl ⟨by rw [z5_eq]; rfl, hB5⟩
        exact results_cell_slot (p := 2) (q := 3) rfl _ _ (w.heap.size + 1) _ _ _ _ rfl hrow5 Try.underlying22 rfl h5
      · have d1 : decide ((2 : Int) < ((nb.C8 L k).toNat : Int)) = false := decide_eq_false (by omega)
        have Hle := Lib.hid (show ∀ j, j < k + 1 → (nb.C8 L j).toNat ≤ 2 from fun j hj => by
          by_cases e : j = k
          · subst e; omega
          · exact hle j (by omega))
        generalize nt3 L k = m at *
        generalize nb.C8 L k = c at *
        have e1 : IntKind.u64.wrap ((m : Int) * 3) = (m : Int) * 3 := IntWalk.u64_in _ (by omega)
        have e2 : IntKind.u64.wrap (c.toNat : Int) = (c.toNat : Int) := IntWalk.u64_in _ (by omega)
        have e3 : IntKind.u64.wrap ((m : Int) * 3 + (c.toNat : Int)) = (m : Int) * 3 + (c.toNat : Int) := IntWalk.u64_in _ (by omega)
        clear hnb hpw hr1 hr2 hz hsz hc0 hcL hle hbi
        go_wp2_with fail
        go_round
        case rel => exact ⟨k + 1, by omega, by go_num, by rw [Hs.out]; go_num, Hle.out⟩
        case measure => simp [intOf]; omega
    · obtain rfl : k = 26 := by omega
      have hf := (fB_all L hl).2 hle
      have hx5 := nt3_lt L 26 hle
      clear hk hlt hcL hr1
      rcases back_fine hl hf hbi with ⟨rfl, rfl, _⟩ | ⟨rfl, rfl, hn⟩
      · have hbig : 1099511627776 ≤ nt3 L 26 := by
          rcases hbi.2 with ⟨_, h2⟩ | ⟨h1, _⟩
          · cases h2
          · unfold backG at h1
            split at h1
            · cases h1
            · split at h1
              · assumption
              · cases h1
        have d2 : decide ((1099511627776 : Int) ≤ ((nt3 L 26 : Nat) : Int)) = true := decide_eq_true (by omega)
        generalize nt3 L 26 = m at *
        clear hf hbi hz hle
        go_wp2_with (first
          | (refine wpList_build rfl 22 _ rfl _ _ (hb1 _) (by kernel_rfl) ?_)
          | (refine wpList_store_row rfl 22 (.tmp 2) (.tmp 26) rfl (w.heap.size + 1) z5 rfl rfl _ z5 hr2 h5 rfl h5c ?_))
        refine bodyPost_ret (v := .tuple #[.agg z5, .int .i64 80]) ?_ rfl ⟨by rw [z5_eq]; rfl, hB5⟩
        exact results_cell_slot (p := 2) (q := 3) rfl _ _ (w.heap.size + 1) _ _ _ _ rfl hrow5 Try.underlying22 rfl h5
      · have d2 : decide ((1099511627776 : Int) ≤ ((nt3 L 26 : Nat) : Int)) = false := decide_eq_false (by omega)
        generalize hxe : nt3 L 26 = x at *
        have Hxe := Lib.hid hxe
        clear hxe hf hbi hle hb1 hrow5 hB5
        go_wp2_with fail
        have hB2 : Below w.heap.size w (w1.alloc (.cells z5 22)) := hB.alloc (hB.size) _
        have hs1 : w.heap.size + 2 ≤ w1.heap.size := by have := hr2.lt; omega
        have hr3 : Rowed (w1.alloc (.cells z5 22)) w1.heap.size 22 (by5 x 0) := by rw [by5_zero]; exact Rowed.new w1 _ _
        have hr4 : Rowed (w1.alloc (.cells z5 22)) (w.heap.size + 1) 22 z5 := hr2.alloc _
        generalize hg : w1.heap.size = g at *
        generalize w1.alloc (.cells z5 22) = w2 at *
        clear hg hB hr2
        go_loopw [4, 7] (fun z i wr => ∃ k : Nat, k ≤ 5 ∧ i = .int .i64 (4 - (k : Int)) ∧ z = .int .u64 (x / 256 ^ k : Nat) ∧ Rowed wr g 22 (by5 x k) ∧ Rowed wr (w.heap.size + 1) 22 z5 ∧ Below w.heap.size w wr) (fun _ i _ => (intOf i + 1).toNat)
        case atStart => exact ⟨0, Nat.zero_le _, rfl, by rw [Nat.pow_zero, Nat.div_one], hr3, hr4, hB2⟩
        case round =>
          clear hr3 hr4 hB2
          obtain ⟨k, hk, rfl, rfl, h3, h4, hB⟩ := hrel
          by_cases hlt : k < 5
          · obtain ⟨j, hj⟩ : ∃ j : Nat, j = 4 - k := ⟨_, rfl⟩
            have hji : (4 : Int) - (k : Int) = (j : Int) := by omega
            rw [hji]
            have dk : decide ((0 : Int) ≤ (j : Int)) = true := decide_eq_true (by omega)
            have ck := h3.cell j
            have fk := h3.frozen j
            have hset := h3.set j (.int .u8 ((x / 256 ^ k % 256 : Nat) : Int))
            rw [hj, by5_set x k hlt, ← hj] at hset
            rw [hj, by5_at x k hlt, ← hj] at ck
            have hnext : x / 256 ^ (k + 1) = x / 256 ^ k / 256 := by rw [Nat.pow_succ, Nat.div_div_eq_div_mul]
            have hxk : x / 256 ^ k < 1099511627776 := Nat.lt_of_le_of_lt (Nat.div_le_self _ _) hn
            have Hn := Lib.hid hnext
            clear hnext hji
            generalize x / 256 ^ k = y at *
            have i1 : (j : Int) < 5 := by omega
            have hjk : j ≤ 4 := by omega
            have Hj2 := Lib.hid hj
            clear hj
            go_wp2_with fail
            rw [show (y : Int) % 256 = ((y % 256 : Nat) : Int) by omega, show (y : Int) / 256 = ((y / 256 : Nat) : Int) by omega]
            have hh := Hj2.out
            go_roundw
            case rel => exact ⟨k + 1, by omega, by rw [show (4 : Int) - ((k + 1 : Nat) : Int) = (j : Int) - 1 by omega], by rw [Hn.out], hset, h4.other g j _ (by omega), hB.setCell (p := ⟨g, j, none⟩) (by show _ ≤ g; omega) _⟩
            case measure => simp [intOf]
          · obtain rfl : k = 5 := by omega
            have hsr : (Try.prog.info? 22).map (·.size) = some (by5 x 5).size := by rw [hsz, by5_size]
            have dk : decide ((0 : Int) ≤ 4 - ((5 : Nat) : Int)) = false := decide_eq_false (by omega)
            clear hlt
            go_wp2_with (first
              | (refine wpList_load_row rfl 22 (.tmp 6) rfl g rfl _ (by5 x 5) _ _ h3 Try.underlying22 rfl hsr ?_)
              | (refine wpList_store_row rfl 22 (.tmp 2) (.tmp 37) rfl (w.heap.size + 1) (by5 x 5) rfl rfl _ z5 h4 hsr (by rw [by5_size]; rfl) (by5_one x 5) ?_))
            have hrow := setRow_heap wr (w.heap.size + 1) z5 (by5 x 5) _ _ h4
            have hB3 := below_setRow hB (w.heap.size + 1) (by5 x 5) (by omega)
            refine bodyPost_ret (v := .tuple #[.agg (by5 x 5), .int .i64 0]) (results_cell_slot (p := 2) (q := 3) rfl _ _ (w.heap.size + 1) _ _ _ _ rfl hrow Try.underlying22 rfl hsr) rfl ⟨by rw [by5_eq, Hxe.out], hB3⟩
end Go.Proofs.Ytmppkfiocleicaa
