/- Contract of sums.Pack. -/
import Derived.Test.YtnlndaknljbhcaaDoorSuIZ
namespace Go.Proofs.YtnlndaknljbhcaaDoor
open Go.RowKit Go.Shelf
attribute [local go_sem] Oper.semAt_some run_store_func

theorem rightB_nat {a b c n : Int} (h : rightB a b c n = true) : ∃ a' b' c' n' : Nat, a = a' ∧ b = b' ∧ c = c' ∧ n = n' ∧ 2 ≤ n' ∧ n' ≤ 1000 ∧ a' < n' ∧ b' < 4 ∧ c' ≤ 6 * n' := by
  unfold rightB mayB at h
  simp only [Bool.and_eq_true, decide_eq_true_eq] at h
  exact ⟨a.toNat, b.toNat, c.toNat, n.toNat, by omega, by omega, by omega, by omega, by omega, by omega, by omega, by omega, by omega⟩
theorem own_shape {W : World} {base : Nat} {e : TypeId} {v : Value} {n : Nat} {xs : List Value} (h : W.ownsRow base e 1 v n xs) : ∃ A l c, v = .slice A l c := by
  rcases h.2 with ⟨rfl, _⟩ | ⟨g, cap, cur, rfl, _⟩
  · exact ⟨_, _, _, rfl⟩
  · exact ⟨_, _, _, rfl⟩
set_option maxRecDepth 100000 in
set_option maxHeartbeats 2000000 in
theorem Pack1_no (b1 b2 b3 : Nat) (a b c n : Int) (hbad : rightB a b c n = false) (W : World) (h1 : Rowed W b1 28 (c3 a b c)) (h2 : W.cell? ⟨b2, 0, none⟩ = some (.int .i64 n)) (h3 : Boxed W b3 22 (.slice none 0 0)) :
    WorkIs 69 #[.pointer (some ⟨b1, 0, none⟩), .pointer (some ⟨b2, 0, none⟩), .pointer (some ⟨b3, 0, none⟩)] b3 W
      (fun _ => False) (fun m w' => m = 2 ∧ Boxed w' b3 22 (.slice none 0 0)) := by
  have hR := fun w => Right_any a b c n w
  rw [hbad] at hR
  have hl := h3.lt
  clear hbad
  unfold WorkIs
  go_enter Tryd.func69, Tryd.ntmps69
  go_wp2_with (refine wpList_load_row rfl 28 (.tmp 0) rfl b1 rfl _ (c3 a b c) _ _ h1 Tryd.underlying28 rfl (size_c3 a b c) ?_)
  go_at_call 71
  refine (hR _).mono ?_
  rintro e w1 ⟨rfl, hB⟩
  go_wp2_with fail
  go_at_call 70
  refine (must_not _).mono ?_
  rintro e w' ⟨rfl, rfl⟩
  exact ⟨rfl, keep_of hB, .inr ⟨2, rfl, rfl, (hB.block _ hl).trans h3⟩⟩
set_option maxRecDepth 100000 in
set_option maxHeartbeats 2000000 in
theorem Pack1_yes (b1 b2 b3 : Nat) (a b c n : Nat) (hn2 : 2 ≤ n) (hn1 : n ≤ 1000) (hok : rightB a b c n = true) (W : World) (h1 : Rowed W b1 28 (c3 a b c)) (h2 : W.cell? ⟨b2, 0, none⟩ = some (.int .i64 n)) (h2l : b2 < W.heap.size) (h3 : Boxed W b3 22 (.slice none 0 0)) :
    WorkIs 69 #[.pointer (some ⟨b1, 0, none⟩), .pointer (some ⟨b2, 0, none⟩), .pointer (some ⟨b3, 0, none⟩)] b3 W
      (fun w' => ∃ v, Boxed w' b3 22 v ∧ w'.ownsRow 0 5 1 v (longN n) ((packL a b c n).map eB) ∧ ∀ k, v.ownBlock = some k → W.heap.size ≤ k) (fun _ _ => False) := by
  have hR := fun w => Right_any a b c n w
  rw [hok] at hR
  have hP := fun w => pack_any a b c n hn2 hn1 w
  have hl := h3.lt
  clear hok hn2 hn1
  generalize longN n = L at *
  generalize packL a b c n = PL at *
  unfold WorkIs
  go_enter Tryd.func69, Tryd.ntmps69
  go_wp2_with (refine wpList_load_row rfl 28 (.tmp 0) rfl b1 rfl _ (c3 a b c) _ _ h1 Tryd.underlying28 rfl (size_c3 a b c) ?_)
  go_at_call 71
  refine (hR _).mono ?_
  rintro e w1 ⟨rfl, hB⟩
  have h1' := h1.below hB h1.lt
  have h2' := (hB.cell (p := ⟨b2, 0, none⟩) h2l).trans h2
  have h3' : Boxed w1 b3 22 (.slice none 0 0) := (hB.block _ hl).trans h3
  clear hR
  go_wp2_with fail
  go_at_call 70
  refine (must_ok _).mono ?_
  rintro e w' ⟨rfl, rfl⟩
  go_wp2_with (refine wpList_load_row rfl 28 (.tmp 0) rfl b1 rfl _ (c3 a b c) _ _ h1' Tryd.underlying28 rfl (size_c3 a b c) ?_)
  go_at_call 72
  refine (hP _).mono ?_
  rintro e w2 ⟨v, rfl, hv, hB2, hfr⟩
  have h3'' : Boxed w2 b3 22 (.slice none 0 0) := (hB2.block _ h3'.lt).trans h3'
  have hnr := h3''.not_row (by decide) hv
  obtain ⟨A, l, cp, rfl⟩ := own_shape hv
  have hb3 := h3''.set (.slice A l cp)
  have hv3 := hv.kept (grownBy_setCell' w2 b3 (.slice A l cp)) (.inr hnr.symm)
  have hK : Keep W.heap.size b3 W (w2.setCell ⟨b3, 0, none⟩ (.slice A l cp)) := keep_t (keep_of (below_trans hB hB2)) (keep_set _ _ _ _ _)
  have hc := h3''.cell
  have hf := h3''.frozen
  clear hP hv h1 h1' h2 h2' h3 h3'
  go_wp2_with fail
  go_end0
  exact ⟨hK, .inl ⟨⟨_, rfl⟩, _, hb3, hv3, fun k hk => Nat.le_trans hB.size (hfr k hk)⟩⟩
set_option maxRecDepth 100000 in
set_option maxHeartbeats 2000000 in
theorem Pack_own (a b c n : Nat) (hn2 : 2 ≤ n) (hn1 : n ≤ 1000) (hok : rightB a b c n = true) (w : World) :
    Calls Tryd.prog 56 #[v3 a b c, .int .i64 n] w fun e w' => Below w.heap.size w w' ∧ ∃ v, e = .returned (.tuple #[v, .int .i64 0]) ∧ w'.ownsRow 0 5 1 v (longN n) ((packL a b c n).map eB) ∧ ∀ k, v.ownBlock = some k → w.heap.size ≤ k := by
  have hmf : ∀ (fn : Fn) (first cap : Array Value) (w : World), (Instr.makeFunc fn first cap).run Tryd.prog w = .ok (.func fn first cap) w := fun _ _ _ _ => rfl
  have hcl : (v3 a b c).cells = c3 a b c := rfl
  have hb1 := ((Rowed.new w 28 (c3 a b c)).alloc (.cells #[.int .i64 n] 3)).alloc (.cells #[.slice none 0 0] 22)
  have hb2 := (Boxed.new (w.alloc (.cells (c3 a b c) 28)) 3 (.int .i64 n)).alloc (.cells #[.slice none 0 0] 22)
  have hb3 := Boxed.new ((w.alloc (.cells (c3 a b c) 28)).alloc (.cells #[.int .i64 n] 3)) 22 (.slice none 0 0)
  rw [World.size_alloc] at hb2
  rw [World.size_alloc, World.size_alloc] at hb3
  have hA : Below w.heap.size w (((w.alloc (.cells (c3 a b c) 28)).alloc (.cells #[.int .i64 n] 3)).alloc (.cells #[.slice none 0 0] 22)) := (((Below.refl _ w).alloc (Nat.le_refl _) _).alloc (by simp) _).alloc (by simp; omega) _
  have hs0 : (((w.alloc (.cells (c3 a b c) 28)).alloc (.cells #[.int .i64 n] 3)).alloc (.cells #[.slice none 0 0] 22)).heap.size = w.heap.size + 3 := by simp
  obtain ⟨W0, hW0⟩ : ∃ W0, ((w.alloc (.cells (c3 a b c) 28)).alloc (.cells #[.int .i64 n] 3)).alloc (.cells #[.slice none 0 0] 22) = W0 := ⟨_, rfl⟩
  rw [hW0] at hb1 hb2 hb3 hA hs0
  have hwork := Pack1_yes w.heap.size (w.heap.size + 1) (w.heap.size + 1 + 1) a b c n hn2 hn1 hok (W0.alloc (.cells #[.int .i64 0] 24)) (hb1.alloc _) (hb2.alloc _).cell (by simp; omega) (hb3.alloc _)
  have hct := caught_any 69 _ (w.heap.size + 1 + 1) W0 (by omega) (enters_of Tryd.func69 (by kernel_rfl) rfl) _ _ hwork
  have HW0 := Lib.hid hW0
  clear hwork hb1 hb2 hb3 hW0
  go_enter Tryd.func56, Tryd.ntmps56
  go_wp2_with fail
  rw [HW0.out]
  go_at_call 66
  refine hct.mono ?_
  rintro e w' ⟨w1, m, hK, rfl, rfl, hlt, hR⟩
  have hBf : Below w.heap.size w (w1.setCell ⟨W0.heap.size, 0, none⟩ (.int .i64 m)) := (below_of_keep hK hA (by omega) (by omega)).setCell (p := ⟨W0.heap.size, 0, none⟩) (by show w.heap.size ≤ W0.heap.size; omega) _
  clear hct
  rcases hR with ⟨rfl, v, hv, hr, hfr⟩ | hF
  · have hvw := Boxed.set_other (b' := W0.heap.size) (y := .int .i64 0) hv (by omega)
    have hne : v.ownBlock ≠ some W0.heap.size := fun e => by
      have := hfr _ e
      simp at this
      omega
    have hsl := hr.kept (grownBy_setCell' w1 W0.heap.size (.int .i64 0)) (.inr hne)
    have hfw : ∀ k, v.ownBlock = some k → w.heap.size ≤ k := fun k hk => by
      have := hfr k hk
      simp at this
      omega
    have hc := hvw.cell
    obtain ⟨A, l, cp, rfl⟩ := own_shape hr
    clear hr hvw hfr
    generalize w1.setCell ⟨W0.heap.size, 0, none⟩ (.int .i64 0) = w2 at *
    go_wp2_with fail
    go_ret2
    exact ⟨hBf, _, rfl, hsl, hfw⟩
  · exact hF.elim
theorem Pack_yes (a b c n : Nat) (hn2 : 2 ≤ n) (hn1 : n ≤ 1000) (hok : rightB a b c n = true) (w : World) :
    Calls Tryd.prog 56 #[v3 a b c, .int .i64 n] w fun e w' => Below w.heap.size w w' ∧ ∃ v, e = .returned (.tuple #[v, .int .i64 0]) ∧ Sl eB w'.heap.size w' v (packL a b c n) :=
  (Pack_own a b c n hn2 hn1 hok w).mono fun _ _ ⟨hB, v, he, hv, _⟩ => ⟨hB, v, he, Sl.of_own hv⟩
set_option maxRecDepth 100000 in
set_option maxHeartbeats 2000000 in
theorem Pack_no (a b c n : Int) (hbad : rightB a b c n = false) (w : World) :
    Calls Tryd.prog 56 #[v3 a b c, .int .i64 n] w fun e w' => Below w.heap.size w w' ∧ e = .returned (.tuple #[.slice none 0 0, .int .i64 2]) := by
  have hmf : ∀ (fn : Fn) (first cap : Array Value) (w : World), (Instr.makeFunc fn first cap).run Tryd.prog w = .ok (.func fn first cap) w := fun _ _ _ _ => rfl
  have hcl : (v3 a b c).cells = c3 a b c := rfl
  have hb1 := ((Rowed.new w 28 (c3 a b c)).alloc (.cells #[.int .i64 n] 3)).alloc (.cells #[.slice none 0 0] 22)
  have hb2 := (Boxed.new (w.alloc (.cells (c3 a b c) 28)) 3 (.int .i64 n)).alloc (.cells #[.slice none 0 0] 22)
  have hb3 := Boxed.new ((w.alloc (.cells (c3 a b c) 28)).alloc (.cells #[.int .i64 n] 3)) 22 (.slice none 0 0)
  rw [World.size_alloc] at hb2
  rw [World.size_alloc, World.size_alloc] at hb3
  have hA : Below w.heap.size w (((w.alloc (.cells (c3 a b c) 28)).alloc (.cells #[.int .i64 n] 3)).alloc (.cells #[.slice none 0 0] 22)) := (((Below.refl _ w).alloc (Nat.le_refl _) _).alloc (by simp) _).alloc (by simp; omega) _
  have hs0 : (((w.alloc (.cells (c3 a b c) 28)).alloc (.cells #[.int .i64 n] 3)).alloc (.cells #[.slice none 0 0] 22)).heap.size = w.heap.size + 3 := by simp
  obtain ⟨W0, hW0⟩ : ∃ W0, ((w.alloc (.cells (c3 a b c) 28)).alloc (.cells #[.int .i64 n] 3)).alloc (.cells #[.slice none 0 0] 22) = W0 := ⟨_, rfl⟩
  rw [hW0] at hb1 hb2 hb3 hA hs0
  have hwork := Pack1_no w.heap.size (w.heap.size + 1) (w.heap.size + 1 + 1) a b c n hbad (W0.alloc (.cells #[.int .i64 0] 24)) (hb1.alloc _) (hb2.alloc _).cell (hb3.alloc _)
  have hct := caught_any 69 _ (w.heap.size + 1 + 1) W0 (by omega) (enters_of Tryd.func69 (by kernel_rfl) rfl) _ _ hwork
  have HW0 := Lib.hid hW0
  clear hwork hb1 hb2 hb3 hW0
  go_enter Tryd.func56, Tryd.ntmps56
  go_wp2_with fail
  rw [HW0.out]
  go_at_call 66
  refine hct.mono ?_
  rintro e w' ⟨w1, m, hK, rfl, rfl, hlt, hR⟩
  have hBf : Below w.heap.size w (w1.setCell ⟨W0.heap.size, 0, none⟩ (.int .i64 m)) := (below_of_keep hK hA (by omega) (by omega)).setCell (p := ⟨W0.heap.size, 0, none⟩) (by show w.heap.size ≤ W0.heap.size; omega) _
  clear hct
  rcases hR with ⟨rfl, hF⟩ | ⟨rfl, hv⟩
  · exact hF.elim
  · have hvw := Boxed.set_other (b' := W0.heap.size) (y := .int .i64 2) hv (by omega)
    have hc := hvw.cell
    clear hvw
    generalize w1.setCell ⟨W0.heap.size, 0, none⟩ (.int .i64 2) = w2 at *
    go_wp2_with fail
    go_ret2
    exact ⟨hBf, rfl⟩
end Go.Proofs.YtnlndaknljbhcaaDoor
/- Contract of unpack's take. -/
namespace Go.Proofs.YtnlndaknljbhcaaDoor
open Go.RowKit Go.Shelf
attribute [local go_sem] Oper.semAt_some run_store_func

/-- The number that the first k bits tell. -/
def numB (ls : List UInt8) : Nat → Nat
  | 0 => 0
  | k + 1 => numB ls k * 2 + (atB ls k).toNat
theorem numB_lt (ls : List UInt8) (k : Nat) (h : ∀ j, j < k → (atB ls j).toNat ≤ 1) : numB ls k < 2 ^ k := by
  induction k with
  | zero => simp [numB]
  | succ k ih =>
    have h1 := ih (fun j hj => h j (by omega))
    have h2 := h k (by omega)
    rw [numB, Nat.pow_succ]
    omega
theorem or1 (m : Nat) (c : UInt8) (h : m < 4294967296) (hc : c.toNat ≤ 1) : bits .or .i64 ((m : Int) * 2) (c.toNat : Int) = (m : Int) * 2 + c.toNat := by
  have h1 : (BitVec.ofInt IntKind.i64.bits ((m : Int) * 2) ||| BitVec.ofInt IntKind.i64.bits (c.toNat : Int)).toNat = m * 2 + c.toNat := by
    rw [BitVec.toNat_or, BitVec.toNat_ofInt, BitVec.toNat_ofInt]
    have e1 : (((m : Int) * 2) % ((2 ^ IntKind.i64.bits : Nat) : Int)).toNat = 2 ^ 1 * m := by
      show (((m : Int) * 2) % ((2 ^ 64 : Nat) : Int)).toNat = _
      omega
    have e2 : ((c.toNat : Int) % ((2 ^ IntKind.i64.bits : Nat) : Int)).toNat = c.toNat := by
      show ((c.toNat : Int) % ((2 ^ 64 : Nat) : Int)).toNat = _
      omega
    rw [e1, e2, ← Nat.two_pow_add_eq_or_of_lt (i := 1) (b := c.toNat) (by omega) m]
    omega
  unfold bits
  simp only [h1]
  rw [IntWalk.i64_in _ (by omega)]
  omega
set_option maxRecDepth 100000 in
set_option maxHeartbeats 4000000 in
theorem take_yes (b bk off wd c : Nat) (ls : List UInt8) (W : World) (hc : ls.length ≤ c) (hb : Boxed W b 22 (.slice (some ⟨bk, off, none⟩) ls.length c)) (hcell : ∀ j x, ls[j]? = some x → W.cell? ⟨bk, off + j, none⟩ = some (eB x)) (hw : wd ≤ ls.length) (hwd : wd ≤ 20) (hbits : ∀ k, k < wd → (atB ls k).toNat ≤ 1) :
    Calls Tryd.prog 83 #[.int .i64 wd, .pointer (some ⟨b, 0, none⟩)] W fun e w' => e = .returned (.int .i64 (numB ls wd)) ∧ ∃ off', w' = W.setCell ⟨b, 0, none⟩ (.slice (some ⟨bk, off', none⟩) (ls.length - wd : Nat) (c - wd : Nat)) ∧ (wd < ls.length → off' = off + wd) := by
  have cb := hb.cell
  have fb := hb.frozen
  have m1 : (wd : Int) ≤ c := by omega
  go_enter Tryd.func83, Tryd.ntmps83
  go_wp2_with fail
  go_loop [4, 11] (fun x i => ∃ k : Nat, k ≤ wd ∧ i = .int .i64 k ∧ x = .int .i64 (numB ls k)) (fun _ i => wd - (intOf i).toNat)
  case atStart => exact ⟨0, Nat.zero_le _, rfl, rfl⟩
  case round =>
    obtain ⟨k, hk, rfl, rfl⟩ := hrel
    by_cases hlt : k < wd
    · have hx := hcell k _ (atB_lt (x := ls) (i := k) (by omega))
      have hle := hbits k hlt
      have hlt2 := numB_lt ls k (fun j hj => hbits j (by omega))
      have hp : 2 ^ k ≤ 2 ^ 20 := Nat.pow_le_pow_right (by omega) (by omega)
      have hor := or1 (numB ls k) (atB ls k) (by omega) hle
      have Hs := Lib.hid (show numB ls (k + 1) = numB ls k * 2 + (atB ls k).toNat from rfl)
      have d1 : decide (((atB ls k).toNat : Int) ≤ 1) = true := decide_eq_true (by omega)
      have m2 : (k : Int) < wd := by omega
      have e1 : IntKind.i64.wrap ((numB ls k : Int) * 2) = (numB ls k : Int) * 2 := IntWalk.i64_in _ (by omega)
      have e2 : wrap64 ((numB ls k : Int) * 2) = (numB ls k : Int) * 2 := IntWalk.wrap64_in _ (by omega)
      have e3 : IntKind.i64.wrap ((atB ls k).toNat : Int) = ((atB ls k).toNat : Int) := IntWalk.i64_in _ (by omega)
      clear hbits hcell hlt2 hp
      generalize numB ls k = m at *
      generalize atB ls k = y at *
      go_wp2_with (go_at_call 70; refine (must_ok _).mono ?_; rintro e w' ⟨rfl, rfl⟩)
      exact ⟨⟨k + 1, by omega, by go_num, by rw [Hs.out]; simp⟩, by simp [intOf]; omega⟩
    · obtain rfl : k = wd := by omega
      by_cases hcw : c = k
      · go_wp2_with fail
        go_ret
        exact ⟨rfl, off, rfl, fun h => by omega⟩
      · go_wp2_with fail
        go_ret
        exact ⟨rfl, off + k, rfl, fun _ => rfl⟩
set_option maxRecDepth 100000 in
set_option maxHeartbeats 4000000 in
theorem take_no (b bk off wd c : Nat) (ls : List UInt8) (W : World) (hc : ls.length ≤ c) (hb : Boxed W b 22 (.slice (some ⟨bk, off, none⟩) ls.length c)) (hcell : ∀ j x, ls[j]? = some x → W.cell? ⟨bk, off + j, none⟩ = some (eB x)) (hw : wd ≤ ls.length) (hwd : wd ≤ 20) (hbad : ¬ ∀ k, k < wd → (atB ls k).toNat ≤ 1) :
    Calls Tryd.prog 83 #[.int .i64 wd, .pointer (some ⟨b, 0, none⟩)] W fun e w' => e = .panicked (errno 2) ∧ w' = W := by
  have cb := hb.cell
  have fb := hb.frozen
  have m1 : (wd : Int) ≤ c := by omega
  have Hb := Lib.hid hbad
  clear hbad
  go_enter Tryd.func83, Tryd.ntmps83
  go_wp2_with fail
  go_loop [4, 11] (fun x i => ∃ k : Nat, k ≤ wd ∧ i = .int .i64 k ∧ x = .int .i64 (numB ls k) ∧ ∀ j, j < k → (atB ls j).toNat ≤ 1) (fun _ i => wd - (intOf i).toNat)
  case atStart => exact ⟨0, Nat.zero_le _, rfl, rfl, fun j hj => absurd hj (by omega)⟩
  case round =>
    obtain ⟨k, hk, rfl, rfl, hbits⟩ := hrel
    by_cases hlt : k < wd
    · have hx := hcell k _ (atB_lt (x := ls) (i := k) (by omega))
      have hlt2 := numB_lt ls k hbits
      have hp : 2 ^ k ≤ 2 ^ 20 := Nat.pow_le_pow_right (by omega) (by omega)
      have m2 : (k : Int) < wd := by omega
      by_cases hle : (atB ls k).toNat ≤ 1
      · have hor := or1 (numB ls k) (atB ls k) (by omega) hle
        have Hs := Lib.hid (show numB ls (k + 1) = numB ls k * 2 + (atB ls k).toNat from rfl)
        have d1 : decide (((atB ls k).toNat : Int) ≤ 1) = true := decide_eq_true (by omega)
        have e1 : IntKind.i64.wrap ((numB ls k : Int) * 2) = (numB ls k : Int) * 2 := IntWalk.i64_in _ (by omega)
        have e2 : wrap64 ((numB ls k : Int) * 2) = (numB ls k : Int) * 2 := IntWalk.wrap64_in _ (by omega)
        have e3 : IntKind.i64.wrap ((atB ls k).toNat : Int) = ((atB ls k).toNat : Int) := IntWalk.i64_in _ (by omega)
        have Hn := Lib.hid (show ∀ j, j < k + 1 → (atB ls j).toNat ≤ 1 from fun j hj => by
          by_cases e : j = k
          · rw [e]; exact hle
          · exact hbits j (by omega))
        clear hbits hcell hlt2 hp hle
        generalize numB ls k = m at *
        generalize atB ls k = y at *
        go_wp2_with (go_at_call 70; refine (must_ok _).mono ?_; rintro e w' ⟨rfl, rfl⟩)
        exact ⟨⟨k + 1, by omega, by go_num, by rw [Hs.out]; simp, Hn.out⟩, by simp [intOf]; omega⟩
      · have d1 : decide (((atB ls k).toNat : Int) ≤ 1) = false := decide_eq_false (by omega)
        have d1' : decide ((atB ls k).toNat ≤ 1) = false := decide_eq_false hle
        clear hbits hcell hlt2 hp hle
        generalize numB ls k = m at *
        generalize atB ls k = y at *
        go_wp2_with (go_at_call 70; refine (must_not _).mono ?_; rintro e w' ⟨rfl, rfl⟩)
        exact ⟨rfl, rfl, rfl⟩
    · obtain rfl : k = wd := by omega
      exact absurd hbits Hb.out
end Go.Proofs.YtnlndaknljbhcaaDoor
