import Derived.Lib.SlBytesConst
import Derived.Deep.CutRange
import Derived.Test.YtkibigbcdlilkaaGreatDoorDTJY
import Derived.Test.YtkibigbcdlilkaaGreatDoorSuNY
namespace Go.Proofs.YtkibigbcdlilkaaGreatDoor
open Go.RowKit Go.Shelf
attribute [local go_sem] Oper.semAt_some run_store_func
theorem eqS (a b c a' b' c' : Int) (w : World) : (Op.equalIn 10000 51 (v3 a b c) (v3 a' b' c')).run Tryz.prog w = .ok (a == a' && (b == b' && c == c')) w := by
 have u3 := Tryz.underlying3
 have hS : Tryz.prog.underlying 51 = some (.struct (Tryz.prog.fieldsOf 51)) := by kernel_rfl
 have hp : Tryz.prog.stoodInHeld 51 = false := by kernel_rfl
 have hi1 : ∀ (d : Nat) (x y : Int) w, (Op.equalIn (d + 1) 3 (.int .i64 x) (.int .i64 y)).run Tryz.prog w = .ok (x == y) w := fun d x y w => run_equalIn_int w d 3 .i64 .i64 x y u3
 rw [show (10000 : Nat) = 9999 + 1 from rfl, run_equalIn_agg w 9999 51 _ _ hS hp]
 simp only [Program.fieldsOf, Tryz.underlying51]
 have hsz : (Tryz.prog.info? 3).map (·.size) = some 1 := by kernel_rfl
 go_simp
 by_cases h1 : a = a' <;> by_cases h2 : b = b' <;> by_cases h3 : c = c' <;> simp [h1, h2, h3]
def RowL (cur : Array Value) (xs : List UInt8) : Prop := ∀ (j : Nat) (x : UInt8), xs[j]? = some x → cur[j]? = some (eB x)
theorem RowL.put {cur : Array Value} {xs : List UInt8} (h : RowL cur xs) (p : Nat) (y : UInt8) : RowL (cur.setIfInBounds p (eB y)) (xs.set p y) := by
 intro j x hx
 have hj : j < xs.length := by have := (List.getElem?_eq_some_iff.1 hx).1; simpa using this
 have hc := h j xs[j] (by simp [hj])
 rw [List.getElem?_set] at hx
 by_cases e : p = j
 · subst e
   have hpc : p < cur.size := (Array.getElem?_eq_some_iff.1 hc).1
   rw [if_pos rfl, if_pos hj] at hx
   cases hx
   rw [Array.getElem?_setIfInBounds_self_of_lt hpc]
 · rw [if_neg e] at hx
   rw [Array.getElem?_setIfInBounds_ne e]
   exact h j x hx
theorem sl_rowed {W : World} {g : Nat} {t : TypeId} {cur : Array Value} {xs : List UInt8} {cap : Nat} (hr : Rowed W g t cur) (h : RowL cur xs) (hc : xs.length ≤ cap) : Sl eB W.heap.size W (.slice (some ⟨g, 0, none⟩) xs.length cap) xs :=
 ⟨some ⟨g, 0, none⟩, cap, rfl, hc, fun _ => ⟨g, 0, rfl, hr.lt, fun j x hx => by rw [Nat.zero_add, hr.cell j]; exact h j x hx⟩⟩
theorem own_rowed {W : World} {base n : Nat} {v : Value} {xs : List UInt8} (h : W.ownsRow base 5 1 v n (xs.map eB)) (h0 : 0 < xs.length) : ∃ g cap cur, v = .slice (some ⟨g, 0, none⟩) xs.length cap ∧ v.ownBlock = some g ∧ xs.length ≤ cap ∧ Rowed W g 5 cur ∧ RowL cur xs := by
 have hl : xs.length = n := by have := h.1; simpa using this
 subst hl
 rcases h.2 with ⟨_, e0⟩ | ⟨g, cap, cur, rfl, hb, hg, hn, hcm, hsz, htk⟩
 · omega
 have hr0 : Rowed W g 5 cur := hg
 refine ⟨g, cap, cur, rfl, rfl, hn, hr0, fun j x hx => ?_⟩
 have := World.ownsRow.cells h (g := g) rfl j (eB x) (by simp [hx])
 rwa [show (⟨g, 0, none⟩ : Addr).add j = ⟨g, j, none⟩ from by unfold Addr.add; split <;> simp_all, hr0.cell j] at this
end Go.Proofs.YtkibigbcdlilkaaGreatDoor
namespace Go.Proofs.YtkibigbcdlilkaaGreatDoor
open Go.RowKit Go.Shelf
attribute [local go_sem] Oper.semAt_some run_store_func
theorem code_four {a : UInt8} (h : codeOf a.toNat ≠ -1) : a = 65 ∨ a = 67 ∨ a = 71 ∨ a = 84 := by
 unfold codeOf at h
 have e : ∀ k : UInt8, a.toNat = k.toNat → a = k := fun k hk => UInt8.toNat_inj.1 hk
 split at h
 · exact .inl (e 65 (by assumption))
 · split at h
   · exact .inr (.inl (e 67 (by assumption)))
   · split at h
     · exact .inr (.inr (.inl (e 71 (by assumption))))
     · split at h
       · exact .inr (.inr (.inr (e 84 (by assumption))))
       · exact absurd rfl h
theorem code_none {a : UInt8} (h : codeOf a.toNat = -1) : a ≠ 65 ∧ a ≠ 67 ∧ a ≠ 71 ∧ a ≠ 84 :=
 ⟨fun e => by rw [e] at h; exact absurd h (by decide), fun e => by rw [e] at h; exact absurd h (by decide), fun e => by rw [e] at h; exact absurd h (by decide), fun e => by rw [e] at h; exact absurd h (by decide)⟩
theorem byte_neq {a k : UInt8} (h : a ≠ k) : ((a.toNat : Int) != (k.toNat : Int)) = true := by
 rw [bne_iff_ne]
 intro e
 exact h (UInt8.toNat_inj.1 (by omega))
theorem place_any (z : Int) (L p : Nat) (h0 : 0 < L) (hat : (wrap64 (z.tmod (L : Int) + (L : Int))).tmod (L : Int) = (p : Int)) (w : World) :
    Calls Tryz.prog 34 #[.int .i64 z, .int .i64 L] w fun e w' => e = .returned (.int .i64 p) ∧ w = w' := by
  have hL0 : ¬ (L : Int) = 0 := by omega
  have hL0' : ¬ L = 0 := by omega
  clear h0
  go_enter Tryz.func34, Tryz.ntmps34
  go_wp2
  go_ret
  exact ⟨rfl, rfl⟩
theorem row_made (w : World) : (w.alloc (.cells #[] 5)).ownsRow w.heap.size 5 1 (.slice (some ⟨w.heap.size, 0, none⟩) 0 0) 0 [] :=
 ⟨rfl, .inr ⟨w.heap.size, 0, #[], rfl, Nat.le_refl _, Rowed.new w 5 #[], Nat.le_refl _, by unfold maxLen; omega, rfl, rfl⟩⟩
abbrev eD (k : Int) (z : Int) (b : UInt8) : Value := .agg #[.int .u8 k, .int .i64 z, eB b]
abbrev cD (k : Int) (z : Int) (b : UInt8) : Array Value := #[.int .u8 k, .int .i64 z, eB b]
set_option maxRecDepth 100000 in
set_option maxHeartbeats 4000000 in
theorem Apply_swap (sv : Value) (s : List UInt8) (z : Int) (b : UInt8) (p : Nat) (h0 : 0 < s.length) (hl : s.length ≤ 1000) (hp : p < s.length) (hat : (wrap64 (z.tmod (s.length : Int) + (s.length : Int))).tmod (s.length : Int) = (p : Int)) (w : World) (hS : Sl eB w.heap.size w sv s) :
    Calls Tryz.prog 18 #[sv, eD 3 z b] w fun e w' => ∃ v, e = .returned v ∧ Sl eB w'.heap.size w' v (s.set p b) ∧ Below w.heap.size w w' := by
  obtain ⟨i0, hi, hz0, hz1, hz2⟩ := info_parts info_u8
  have hpl := fun (n : Nat) (w : World) => (callsIn_wide (n := n)).2 (place_any z s.length p h0 hat w)
  obtain ⟨A, c, rfl⟩ := hS.len
  have hcl : (eD 3 z b).cells = cD 3 z b := rfl
  have hr := Rowed.new w 28 (cD 3 z b)
  have hA := below_alloc w (.cells (cD 3 z b) 28)
  have hS0 := hS.below hA
  have hlt := hr.lt
  have hne0 : ((s.length : Int) == 0) = false := by rw [beq_eq_false_iff_ne]; omega
  have Hp := Lib.hid hp
  have Hl := Lib.hid hl
  have H0 := Lib.hid h0
  clear hat hp hl h0
  go_enter Tryz.func18, Tryz.ntmps18
  go_upto_region 1 with fail
  generalize w.alloc (.cells (cD 3 z b) 28) = w0 at *
  have hrow := row_made w0
  have hA1 := hA.alloc hA.size (.cells #[] 5)
  have hS1 : Sl eB w.heap.size (w0.alloc (.cells #[] 5)) (.slice A s.length c) s := hS0.below ((Below.refl _ w0).alloc hA.size _)
  have hr1 := hr.alloc (.cells #[] 5)
  have hlt1 := hr1.lt
  go_wp2_with
    (at_builtin
     refine wpList_append_sl _ rfl (.tmp 8) (.tmp 9) _ rfl w0.heap.size 5 i0 (.int .u8 0) 1 Tryz.underlying22 hi hz0 hz1 hz2 rfl _ 0 [] hrow rfl w.heap.size _ s hS1 rfl (fun _ => rfl) (by have := Hl.out; unfold maxLen; omega) (by have := Hl.out; omega) (by simp) ?_
     intro v1 w1 hown1 hg1 hat1
     have hr2 : Rowed w1 w.heap.size 28 (cD 3 z b) := (hg1.block _ hlt1 (by simp [Value.ownBlock]; omega)).trans hr1
     have k0 := hr2.cell 0
     have k1 := hr2.cell 1
     have k2 := hr2.cell 2)
  have hown : w1.ownsRow w0.heap.size 5 1 v1 s.length (s.map eB) := by simpa using hown1
  obtain ⟨g, cap, cur, rfl, hob, hcap, hrw, hRL⟩ := own_rowed hown H0.out
  have hgb : w0.heap.size ≤ g := own_base hown g hob
  have hB1 := hA1.trans (below_grown hrow hg1 hA1.size (by omega))
  have hgh : w.heap.size ≠ g := by omega
  have d1 : w1.drew.cell? ⟨w.heap.size, 1, none⟩ = some (.int .i64 z) := k1
  have d2 : w1.drew.cell? ⟨w.heap.size, 2, none⟩ = some (eB b) := k2
  have hpL : (p : Int) < s.length := by have := Hp.out; omega
  have hpN := Hp.out
  clear hown1 hown hg1 hat1 hrow hS1 hr1 hlt1 hS0 k0 k1 k2 hS hob hA1
  refine (wpIn_wide (n := 5)).1 ?_
  refine wpIn_region_det 9 [(61, .slice (some ⟨g, 0, none⟩) s.length cap), (62, .pointer (some ⟨w.heap.size, 1, none⟩)), (63, .int .i64 z), (64, .slice A s.length c), (65, .int .i64 s.length), (66, .int .i64 p), (67, .pointer (some ⟨w.heap.size, 2, none⟩)), (68, eB b), (69, .pointer (some ⟨g, p, none⟩))]
    (by kernel_rfl) (by decide) (by kernel_rfl) (by kernel_rfl) (by kernel_rfl) (by kernel_rfl) (by kernel_rfl) ?ok1 ?tail1
  case ok1 =>
   intro A' hA'
   simp only [putAll, Act.put, List.setIfInBounds_toArray, List.set_cons_zero, List.set_cons_succ] at hA'
   subst hA'
   refine ⟨?_, ?_, ?_, ?_, ?_, ?_, ?_, ?_, ?_, trivial⟩
   all_goals unfold DetIn
   all_goals go_simp
   refine ⟨trivial, (hpl _ _).mono ?_⟩
   rintro e w' ⟨rfl, rfl⟩
   exact ⟨rfl, rfl⟩
  case tail1 =>
   intro A' hA'
   simp only [putAll, Act.put, List.setIfInBounds_toArray, List.set_cons_zero, List.set_cons_succ] at hA'
   subst hA'
   have hrd : Rowed w1.drew g 5 cur := hrw
   have hc0 : cur[p]? = some (eB (atB s p)) := hRL p _ (atB_lt hpN)
   have cc := hrd.cell p
   rw [hc0] at cc
   have ff := hrd.frozen p
   have hset := hrd.set p (eB b)
   have hsl := sl_rowed hset (hRL.put p b) (cap := cap) (by simpa using hcap)
   rw [List.length_set] at hsl
   have hBd : Below w.heap.size w w1.drew := hB1.trans ⟨rfl, rfl, rfl, Nat.le_refl _, fun _ _ => rfl⟩
   have hBs := hBd.setCell (p := ⟨g, p, none⟩) (by show w.heap.size ≤ g; omega) (eB b)
   simp only [List.drop_succ_cons, List.drop_zero]
   clear d1 d2 hrd hset hRL hrw hcap
   gi_wp2_with fail
   go_wp2_with fail
   go_ret
   exact ⟨_, rfl, hsl, hBs⟩
end Go.Proofs.YtkibigbcdlilkaaGreatDoor
namespace Go.Proofs.YtkibigbcdlilkaaGreatDoor
open Go.RowKit Go.Shelf
attribute [local go_sem] Oper.semAt_some run_store_func
set_option maxRecDepth 100000 in
set_option maxHeartbeats 2000000 in
theorem rwide_any (x : Nat) (h0 : 1 ≤ x) (h1 : x ≤ 6000) (w : World) :
    Calls Tryz.prog 71 #[.int .i64 x] w fun e w' => e = .returned (.int .i64 (Lib.bitLen x)) ∧ w = w' := by
  obtain ⟨a, b, c⟩ := Lib.bitLenAux_bounds 64 x (by omega) (by omega)
  have hL : Lib.bitLen x ≤ 13 := Lib.bitLen_le _ 13 (by omega) (by omega)
  have a' : 1 ≤ Lib.bitLen x := a
  have b' : 2 ^ (Lib.bitLen x - 1) ≤ x := b
  have c' : x < 2 ^ Lib.bitLen x := c
  clear a b c
  generalize Lib.bitLen x = L at *
  have HL := Lib.hid hL
  clear hL
  go_enter Tryz.func71, Tryz.ntmps71
  go_wp2
  go_loop [3] (fun i => ∃ k : Nat, 1 ≤ k ∧ k ≤ L ∧ i = .int .i64 k) (fun i => 20 - (intOf i).toNat)
  case atStart => exact ⟨1, by omega, a', rfl⟩
  case round =>
   obtain ⟨k, hk1, hkL, rfl⟩ := hrel
   have hk : k = 1 ∨ k = 2 ∨ k = 3 ∨ k = 4 ∨ k = 5 ∨ k = 6 ∨ k = 7 ∨ k = 8 ∨ k = 9 ∨ k = 10 ∨ k = 11 ∨ k = 12 ∨ k = 13 := by have := HL.out; omega
   by_cases hlt : k < L
   · have hp : 2 ^ k ≤ x := Nat.le_trans (Nat.pow_le_pow_right (by omega) (by omega)) b'
     have d : decide (((2 ^ k : Nat) : Int) ≤ (x : Int)) = true := decide_eq_true (by omega)
     have Hk := Lib.hid hlt
     clear hp b' c' hk1 hkL hlt
     rcases hk with rfl | rfl | rfl | rfl | rfl | rfl | rfl | rfl | rfl | rfl | rfl | rfl | rfl
     all_goals
      simp only [Nat.reducePow, Int.cast_ofNat_Int] at d
      go_wp2
      go_round
      case rel => exact ⟨_, by omega, Hk.out, rfl⟩
      case measure => simp [intOf]
   · have e : k = L := by omega
     have d : decide (((2 ^ k : Nat) : Int) ≤ (x : Int)) = false := decide_eq_false (by rw [e]; omega)
     have He := Lib.hid e
     clear b' c' hk1 hkL hlt e
     rcases hk with rfl | rfl | rfl | rfl | rfl | rfl | rfl | rfl | rfl | rfl | rfl | rfl | rfl
     all_goals
      simp only [Nat.reducePow, Int.cast_ofNat_Int] at d
      go_wp2
      go_ret
      exact ⟨by rw [← He.out]; rfl, rfl⟩
set_option maxRecDepth 100000 in
set_option maxHeartbeats 1000000 in
theorem rLong_yes (n : Nat) (h2 : 2 ≤ n) (h1 : n ≤ 1000) (w : World) :
    Calls Tryz.prog 43 #[.int .i64 n] w fun e w' => e = .returned (.int .i64 (longN n)) ∧ w = w' := by
  have hm : mayB n = true := by unfold mayB; rw [decide_eq_true (by omega), decide_eq_true (by omega)]; rfl
  have hmy := refmay_any n
  rw [hm] at hmy
  have ht := fun w => rwide_any (n - 1) (by omega) (by omega) w
  have hw := fun w => rwide_any (6 * n) (by omega) (by omega) w
  have ht10 := tb_le n h1
  have hw13 := wb_le n h1
  have e1 : IntKind.i64.wrap ((n : Int) - 1) = ((n - 1 : Nat) : Int) := by rw [IntWalk.i64_in _ (by omega)]; omega
  have e2 : IntKind.i64.wrap (6 * (n : Int)) = ((6 * n : Nat) : Int) := by rw [IntWalk.i64_in _ (by omega)]; omega
  have e2' : wrap64 (6 * (n : Int)) = ((6 * n : Nat) : Int) := by rw [IntWalk.wrap64_in _ (by omega)]; omega
  have Hl := Lib.hid (show longN n = zb n + tb n + 2 + wb n from rfl)
  have Hz := Lib.hid (show zb n = (tb n + 2 + wb n) % 2 from rfl)
  have htb : Lib.bitLen (n - 1) = tb n := rfl
  have hwb : Lib.bitLen (6 * n) = wb n := rfl
  rw [htb] at ht
  rw [hwb] at hw
  clear htb hwb hm
  generalize longN n = ln at *
  generalize zb n = z at *
  generalize tb n = t at *
  generalize wb n = u at *
  go_enter Tryz.func43, Tryz.ntmps43
  go_wp2_with (go_at_call 70; refine (hmy _).mono ?_; rintro e w' ⟨rfl, rfl⟩)
  go_at_call 71
  refine (ht _).mono ?_
  rintro e w' ⟨rfl, rfl⟩
  go_wp2_with fail
  go_at_call 71
  refine (hw _).mono ?_
  rintro e w' ⟨rfl, rfl⟩
  go_wp2_with fail
  go_ret
  have hz' : ((t : Int) + 2 + u) % 2 = z := by rw [Hz.out]; omega
  refine ⟨?_, rfl⟩
  rw [hz', show (t : Int) + 2 + u + z = ln by rw [Hl.out]; omega]
  rfl
end Go.Proofs.YtkibigbcdlilkaaGreatDoor
namespace Go.Proofs.YtkibigbcdlilkaaGreatDoor
open Go.RowKit Go.Shelf
attribute [local go_sem] Oper.semAt_some run_store_func
theorem orP (m y k : Nat) (hy : y < 2 ^ k) (hl : 2 ^ k * m + y < 1099511627776) : bits .or .i64 ((2 ^ k * m : Nat) : Int) (y : Int) = ((2 ^ k * m + y : Nat) : Int) := by
 have h1 : (BitVec.ofInt IntKind.i64.bits ((2 ^ k * m : Nat) : Int) ||| BitVec.ofInt IntKind.i64.bits (y : Int)).toNat = 2 ^ k * m + y := by
  rw [BitVec.toNat_or, BitVec.toNat_ofInt, BitVec.toNat_ofInt]
  have e1 : (((2 ^ k * m : Nat) : Int) % ((2 ^ IntKind.i64.bits : Nat) : Int)).toNat = 2 ^ k * m := by
   show (((2 ^ k * m : Nat) : Int) % ((2 ^ 64 : Nat) : Int)).toNat = _
   omega
  have e2 : ((y : Int) % ((2 ^ IntKind.i64.bits : Nat) : Int)).toNat = y := by
   show ((y : Int) % ((2 ^ 64 : Nat) : Int)).toNat = _
   omega
  rw [e1, e2, ← Nat.two_pow_add_eq_or_of_lt (i := k) (b := y) hy m]
 unfold bits
 simp only [h1]
 rw [IntWalk.i64_in _ (by omega)]
theorem bits_app (x y p q : Nat) (hy : y < 2 ^ q) : bitsOf x p ++ bitsOf y q = bitsOf (2 ^ q * x + y) (p + q) := by
 apply List.ext_getElem
 · simp [bitsOf_length]
 · intro i h1 h2
   have hi : i < p + q := by simpa [bitsOf_length] using h2
   have e2 : (bitsOf (2 ^ q * x + y) (p + q))[i] = UInt8.ofNat ((2 ^ q * x + y) / 2 ^ (p + q - 1 - i) % 2) := by simp [bitsOf]
   rw [e2]
   by_cases hip : i < p
   · rw [List.getElem_append_left (by rw [bitsOf_length]; exact hip)]
     have e1 : (bitsOf x p)[i]'(by rw [bitsOf_length]; exact hip) = UInt8.ofNat (x / 2 ^ (p - 1 - i) % 2) := by simp [bitsOf]
     rw [e1, show p + q - 1 - i = q + (p - 1 - i) by omega, Nat.pow_add, ← Nat.div_div_eq_div_mul, Nat.mul_add_div (Nat.two_pow_pos q), Nat.div_eq_of_lt hy, Nat.add_zero]
   · rw [List.getElem_append_right (by rw [bitsOf_length]; omega)]
     have e1 : (bitsOf y q)[i - (bitsOf x p).length]'(by rw [bitsOf_length, bitsOf_length]; omega) = UInt8.ofNat (y / 2 ^ (q - 1 - (i - p)) % 2) := by simp [bitsOf]
     rw [e1, show p + q - 1 - i = q - 1 - (i - p) by omega]
     congr 1
     have hq : 2 ^ q * x = 2 ^ (q - 1 - (i - p)) * (2 * (2 ^ (i - p) * x)) := by
      have : q = (q - 1 - (i - p)) + (1 + (i - p)) := by omega
      conv => lhs; rw [this, Nat.pow_add, Nat.pow_add]
      simp only [Nat.pow_one, Nat.mul_assoc]
     rw [hq, Nat.mul_add_div (Nat.two_pow_pos _), Nat.add_comm, Nat.add_mul_mod_self_left]
theorem pack_number (a b c n : Nat) (h2 : 2 ≤ n) (h1 : n ≤ 1000) (ha : a < n) (hb : b < 4) (hc : c ≤ 6 * n) : packL a b c n = bitsOf (2 ^ wb n * (2 ^ 2 * a + b) + c) (longN n) := by
 have h3 := tb_lt n h2 h1
 have h4 := wb_lt n h2 h1
 rw [packL, bits_app 0 a _ _ (by omega), bits_app _ b _ 2 (by omega), bits_app _ c _ _ (by omega)]
 simp only [Nat.mul_zero, Nat.zero_add]
 rfl
def bCells (N L j : Nat) : Array Value := ((List.range L).map fun i => if L ≤ i + j then eB (UInt8.ofNat (N / 2 ^ (L - 1 - i) % 2)) else .int .u8 0).toArray
theorem bCells_size (N L j : Nat) : (bCells N L j).size = L := by simp [bCells]
theorem bCells_get (N L j i : Nat) (h : i < L) : (bCells N L j)[i]? = some (if L ≤ i + j then eB (UInt8.ofNat (N / 2 ^ (L - 1 - i) % 2)) else .int .u8 0) := by
 rw [Array.getElem?_eq_getElem (by rw [bCells_size]; exact h)]
 simp [bCells]
theorem bCells_set (N L j : Nat) (h : j < L) : (bCells N L j).setIfInBounds (L - 1 - j) (eB (UInt8.ofNat (N / 2 ^ j % 2))) = bCells N L (j + 1) := by
 apply Array.ext
 · simp [bCells]
 · intro i h1 h2
   have hi : i < L := by simpa [bCells] using h2
   rw [Array.getElem_setIfInBounds (by simpa [bCells] using hi)]
   simp only [bCells, List.getElem_toArray, List.getElem_map, List.getElem_range]
   by_cases e : L - 1 - j = i
   · rw [if_pos e, if_pos (by omega), show L - 1 - i = j by omega]
   · rw [if_neg e]
     by_cases e2 : L ≤ i + j
     · rw [if_pos e2, if_pos (by omega)]
     · rw [if_neg e2, if_neg (by omega)]
theorem bCells_all (N L : Nat) : bCells N L L = ((bitsOf N L).map eB).toArray := by
 unfold bCells bitsOf
 congr 1
 rw [List.map_map]
 apply List.map_congr_left
 intro i hi
 rw [if_pos (by omega)]
 rfl
set_option maxRecDepth 100000 in
set_option maxHeartbeats 4000000 in
theorem rPack_yes (a b c n : Nat) (h2 : 2 ≤ n) (h1 : n ≤ 1000) (ha : a < n) (hb : b < 4) (hc : c ≤ 6 * n) (hok : rightB a b c n = true) (w : World) :
    Calls Tryz.prog 55 #[v3 a b c, .int .i64 n] w fun e w' => ∃ v, e = .returned (.tuple #[v, .int .i64 0]) ∧ Below w.heap.size w w' ∧ Sl eB w'.heap.size w' v (packL a b c n) := by
  have hR := fun w => refRight_any a b c n w
  rw [hok] at hR
  have hW := fun (m : Nat) w => (callsIn_wide (n := m)).2 (rwide_any (6 * n) (by omega) (by omega) w)
  have hL := fun w => rLong_yes n h2 h1 w
  have hwb : Lib.bitLen (6 * n) = wb n := rfl
  rw [hwb] at hW
  have hcw : c < 2 ^ wb n := Nat.lt_of_le_of_lt hc (wb_lt n h2 h1)
  have hwb13 := wb_le n h1
  have hr := Rowed.new w 51 (c3 a b c)
  have hA := below_alloc w (.cells (c3 a b c) 51)
  have hcl : (v3 a b c).cells = c3 a b c := rfl
  clear hwb
  go_enter Tryz.func55, Tryz.ntmps55
  go_upto_region 1 with fail
  generalize w.alloc (.cells (c3 a b c) 51) = w1 at *
  have hg : w.heap.size < w1.heap.size := hr.lt
  have k0 := hr.cell 0
  have k1 := hr.cell 1
  have k2 := hr.cell 2
  simp at k0 k1 k2
  go_wp2_with fail
  go_at_call 80
  refine (hR _).mono ?_
  rintro e w2 ⟨rfl, hB⟩
  have hr2 := hr.below hB hg
  have hB2 := below_trans hA hB
  clear hr hA hB k0 k1 k2 hR
  have k0 : w2.drew.cell? ⟨w.heap.size, 0, none⟩ = some (.int .i64 a) := hr2.cell 0
  have k1 : w2.drew.cell? ⟨w.heap.size, 1, none⟩ = some (.int .i64 b) := hr2.cell 1
  have k2 : w2.drew.cell? ⟨w.heap.size, 2, none⟩ = some (.int .i64 c) := hr2.cell 2
  go_wp2_with fail
  have HLn := Lib.hid (show longN n = (tb n + 2 + wb n) % 2 + tb n + 2 + wb n from rfl)
  have hpk := Lib.hid (pack_number a b c n h2 h1 ha hb hc)
  have hp8 : 2 ^ wb n ≤ 8192 := (Nat.pow_le_pow_right (by omega) hwb13 : 2 ^ wb n ≤ 2 ^ 13)
  have hLn : longN n ≤ 26 := by have := tb_le n h1; unfold longN zb; omega
  have hL0 : 1 ≤ longN n := by unfold longN; omega
  generalize wb n = u at *
  have hm : 2 ^ u * (4 * a + b) ≤ 8192 * 4003 := Nat.mul_le_mul hp8 (by omega)
  have Q3 : Hid (IntKind.i64.wrap ((a : Int) * 4) = 4 * a) := Lib.hid (by rw [IntWalk.i64_in _ (by omega)]; omega)
  have Q6 : Hid (bits .or .i64 (4 * (a : Int)) b = 4 * a + b) := Lib.hid (by
   have := orP a b 2 (by omega) (by omega)
   simpa using this)
  have Q8 : Hid (IntKind.i64.wrap (6 * (n : Int)) = 6 * n) := Lib.hid (IntWalk.i64_in _ (by omega))
  have Q10 : Hid (IntKind.u64.wrap (u : Int) = u) := Lib.hid (IntWalk.u64_in _ (by omega))
  have Hcast : Hid ((2 : Int) ^ u * (4 * (a : Int) + b) = ((2 ^ u * (4 * a + b) : Nat) : Int)) := Lib.hid (by simp)
  have Q11 : Hid (IntKind.i64.wrap ((4 * (a : Int) + b) * 2 ^ u) = 2 ^ u * (4 * (a : Int) + b)) := Lib.hid (by
   rw [Int.mul_comm, Hcast.out, IntWalk.i64_in _ (by omega)])
  have Q14 : Hid (bits .or .i64 ((2 : Int) ^ u * (4 * (a : Int) + b)) c = 2 ^ u * (4 * (a : Int) + b) + c) := Lib.hid (by
   rw [Hcast.out, orP _ _ _ hcw (by omega)]
   omega)
  have HN0 : Hid (2 ^ u * (2 ^ 2 * a + b) + c ≤ 8192 * 4003 + 6000) := Lib.hid (by
   rw [show 2 ^ 2 * a + b = 4 * a + b by omega]
   omega)
  clear hm hp8 hcw
  have e20 : ((6 * n : Nat) : Int) = 6 * (n : Int) := by omega
  rw [e20] at hW
  clear e20
  refine (wpIn_wide (n := 5)).1 ?_
  refine wpIn_region_det 14 [(13, .pointer (some ⟨w.heap.size, 0, none⟩)), (14, .int .i64 a), (15, .int .i64 (2 ^ 2 * a : Nat)), (16, .pointer (some ⟨w.heap.size, 1, none⟩)), (17, .int .i64 b), (18, .int .i64 (2 ^ 2 * a + b : Nat)), (19, .int .i64 n), (20, .int .i64 (6 * n : Nat)), (21, .int .i64 u), (22, .int .u64 u), (23, .int .i64 (2 ^ u * (2 ^ 2 * a + b) : Nat)), (24, .pointer (some ⟨w.heap.size, 2, none⟩)), (25, .int .i64 c), (26, .int .i64 (2 ^ u * (2 ^ 2 * a + b) + c : Nat))]
    (by kernel_rfl) (by decide) (by kernel_rfl) (by kernel_rfl) (by kernel_rfl) (by kernel_rfl) (by kernel_rfl) ?ok1 ?tail1
  case ok1 =>
   intro A' hA'
   simp only [putAll, Act.put, List.setIfInBounds_toArray, List.set_cons_zero, List.set_cons_succ] at hA'
   subst hA'
   refine ⟨?_, ?_, ?_, ?_, ?_, ?_, ?_, ?_, ?_, ?_, ?_, ?_, ?_, ?_, trivial⟩
   all_goals unfold DetIn
   all_goals go_simp
   · exact Q3.out
   · exact Q6.out
   · exact Q8.out
   · refine ⟨trivial, (hW _ _).mono ?_⟩
     rintro e w' ⟨rfl, rfl⟩
     exact ⟨rfl, rfl⟩
   · exact Q10.out
   · exact Q11.out
   · exact Q14.out
  case tail1 =>
   intro A' hA'
   simp only [putAll, Act.put, List.setIfInBounds_toArray, List.set_cons_zero, List.set_cons_succ] at hA'
   subst hA'
   have hN0 := HN0.out
   clear HN0 Hcast Q3 Q6 Q8 Q10 Q11 Q14
   generalize 2 ^ u * (2 ^ 2 * a + b) + c = N at *
   have hBd : Below w.heap.size w w2.drew := hB2.trans ⟨rfl, rfl, rfl, Nat.le_refl _, fun _ _ => rfl⟩
   generalize w2.drew = w3 at *
   simp only [List.drop_succ_cons, List.drop_zero]
   clear hW k0 k1 k2 hr2 hok hwb13 hB2
   gi_wp2_with fail
   obtain ⟨i0, hi, hz0, hz1, hz2⟩ := info_parts info_u8
   generalize longN n = L at *
   have hmk : ∀ w, (Instr.makeSlice 22 (.int .i64 (L : Int)) (.int .i64 (L : Int))).run Tryz.prog w = .ok (.slice (some ⟨w.heap.size, 0, none⟩) L L) (w.alloc (.cells (bCells N L 0) 5)) := by
    intro w
    have h1 := run_make (P := Tryz.prog) w 22 5 i0 (.int .u8 0) Tryz.underlying22 hi hz0 .i64 .i64 (L : Int) (L : Int) (by omega) (by omega) (by rw [hz2]; omega) (by omega)
    have h2 : madeCells (Value.int .u8 0).cells ((L : Int).toNat * i0.size) = bCells N L 0 := by
     rw [hz1]
     apply Array.ext
     · simp [madeCells, bCells, Value.cells]
     · intro j h1 h2
       have hj : j < L := by simpa [bCells] using h2
       simp [madeCells, bCells, Value.cells, Nat.mod_one]
       omega
    rw [h2] at h1
    simpa using h1
   have hr0 := Rowed.new w3 5 (bCells N L 0)
   have hA3 := hBd.alloc hBd.size (.cells (bCells N L 0) 5)
   have hlw := hBd.size
   have e31 : IntKind.i64.wrap ((L : Int) - 1) = (L : Int) - 1 := IntWalk.i64_in _ (by omega)
   go_wp2_with (go_at_call 43; refine (hL _).mono ?_; rintro e w' ⟨rfl, rfl⟩)
   go_loopw [6, 8] (fun x i wr => ∃ j : Nat, j ≤ L ∧ i = .int .i64 ((L : Int) - 1 - j) ∧ x = .int .i64 ((N / 2 ^ j : Nat) : Int) ∧ Rowed wr w3.heap.size 5 (bCells N L j) ∧ Below w.heap.size w wr) (fun _ i _ => (intOf i + 1).toNat)
   case atStart => exact ⟨0, Nat.zero_le _, by simp, by simp, hr0, hA3⟩
   case round =>
    clear hr0 hA3
    obtain ⟨j, hj, rfl, rfl, hr, hB⟩ := hrel
    by_cases hlt : j < L
    · have hset := hr.set (L - 1 - j) (eB (UInt8.ofNat (N / 2 ^ j % 2)))
      rw [bCells_set N L j hlt] at hset
      have hcell := hr.cell (L - 1 - j)
      rw [bCells_get N L j _ (by omega)] at hcell
      have hfz := hr.frozen (L - 1 - j)
      have hM : N / 2 ^ j ≤ 32798576 := Nat.le_trans (Nat.div_le_self _ _) (by omega)
      have hM2 : N / 2 ^ (j + 1) = N / 2 ^ j / 2 := by rw [Nat.pow_succ, Nat.div_div_eq_div_mul]
      have hb2 : ((UInt8.ofNat (N / 2 ^ j % 2)).toNat : Int) = ((N / 2 ^ j : Nat) : Int) % 2 := by
       simp
       omega
      obtain ⟨p, hp⟩ : ∃ p : Nat, p = L - 1 - j := ⟨_, rfl⟩
      have hpI : (L : Int) - 1 - j = (p : Int) := by omega
      have hpL : (p : Int) < L := by omega
      rw [← hp] at hset hcell hfz
      rw [hpI]
      have Hlt := Lib.hid hlt
      have HM2 := Lib.hid hM2
      have Hp := Lib.hid hp
      have HpI := Lib.hid hpI
      have Hset := Lib.hid hset
      have hand := bits_and1 ((N / 2 ^ j : Nat) : Int)
      clear hset hM2 hlt hj hp hpI
      have hv : eB (UInt8.ofNat (N / 2 ^ j % 2)) = .int .u8 (((N / 2 ^ j : Nat) : Int) % 2) := by rw [eB, hb2]
      rw [hv] at Hset
      clear hv hb2
      generalize N / 2 ^ j = M at *
      go_wp2_with fail
      refine ⟨⟨j + 1, Hlt.out, ?_, ?_, Hset.out, hB.setCell (p := ⟨w3.heap.size, p, none⟩) hlw _⟩, ?_⟩
      · have := HpI.out
        congr 1
        omega
      · rw [HM2.out]
        congr 1
      · have := HpI.out
        simp [intOf]
    · obtain rfl : j = L := by omega
      have ei : (j : Int) - 1 - j = -1 := by omega
      rw [ei]
      have Hr := Lib.hid hr
      clear hr
      go_wp2_with fail
      go_ret2
      refine ⟨_, rfl, hB, ?_⟩
      have hr := Hr.out
      rw [bCells_all] at hr
      rw [hpk.out]
      refine ⟨some ⟨w3.heap.size, 0, none⟩, j, by rw [bitsOf_length]; rfl, by rw [bitsOf_length]; omega, fun _ => ⟨w3.heap.size, 0, rfl, Rowed.lt hr, fun i b hb => ?_⟩⟩
      rw [Nat.zero_add, hr.cell i]
      simp [hb]
end Go.Proofs.YtkibigbcdlilkaaGreatDoor
namespace Go.Proofs.YtkibigbcdlilkaaGreatDoor
open Go.RowKit Go.Shelf
theorem numB_app (l : List UInt8) (p q : Nat) : numB l (p + q) = numB l p * 2 ^ q + numB (l.drop p) q := by
 induction q with
 | zero => simp [numB]
 | succ q ih =>
   rw [← Nat.add_assoc, numB, ih, numB, atB_drop, Nat.pow_succ]
   rw [Nat.add_mul, Nat.mul_assoc, Nat.add_assoc]
theorem numB_drop_lt (l : List UInt8) (o k : Nat) (h : ∀ j, j < o + k → (atB l j).toNat ≤ 1) : numB (l.drop o) k < 2 ^ k :=
 numB_lt _ _ fun j hj => by rw [atB_drop]; exact h _ (by omega)
theorem unG_ref (l : List UInt8) (n : Nat) (h2 : 2 ≤ n) (h1 : n ≤ 1000) (hl : l.length = longN n) (hb : ∀ k, k < l.length → (atB l k).toNat ≤ 1) :
    unG l n = if rightB (numB l (longN n) / 2 ^ (wb n + 2) : Nat) (numB l (longN n) / 2 ^ wb n % 4 : Nat) (numB l (longN n) % 2 ^ wb n : Nat) n = true then
      some (numB l (longN n) / 2 ^ (wb n + 2), numB l (longN n) / 2 ^ wb n % 4, numB l (longN n) % 2 ^ wb n) else none := by
  have hL : longN n = zb n + tb n + 2 + wb n := rfl
  have hm : mayB n = true := by unfold mayB; rw [decide_eq_true (by omega), decide_eq_true (by omega)]; rfl
  have ht := tb_lt n h2 h1
  have e1 : numB l (longN n) = numB l (zb n + tb n + 2) * 2 ^ wb n + numB (l.drop (zb n + tb n + 2)) (wb n) := by rw [hL, numB_app]
  have e2 : numB l (zb n + tb n + 2) = numB l (zb n + tb n) * 2 ^ 2 + numB (l.drop (zb n + tb n)) 2 := numB_app _ _ _
  have e3 : numB l (zb n + tb n) = numB l (zb n) * 2 ^ tb n + numB (l.drop (zb n)) (tb n) := numB_app _ _ _
  have r1 := numB_drop_lt l (zb n + tb n + 2) (wb n) (fun j hj => hb j (by omega))
  have r2 := numB_drop_lt l (zb n + tb n) 2 (fun j hj => hb j (by omega))
  have r3 := numB_drop_lt l (zb n) (tb n) (fun j hj => hb j (by omega))
  have c1 : numB l (longN n) % 2 ^ wb n = numB (l.drop (zb n + tb n + 2)) (wb n) := by
   rw [e1, Nat.mul_comm, Nat.mul_add_mod, Nat.mod_eq_of_lt r1]
  have c2 : numB l (longN n) / 2 ^ wb n = numB l (zb n + tb n + 2) := by
   rw [e1, Nat.mul_comm, Nat.mul_add_div (Nat.two_pow_pos _), Nat.div_eq_of_lt r1, Nat.add_zero]
  have c3 : numB l (longN n) / 2 ^ (wb n + 2) = numB l (zb n + tb n) := by
   rw [Nat.pow_add, ← Nat.div_div_eq_div_mul, c2, e2]
   omega
  have c4 : numB l (zb n + tb n + 2) % 4 = numB (l.drop (zb n + tb n)) 2 := by
   rw [e2]
   omega
  rw [c3, c2, c1, c4]
  unfold unG
  simp only [Int.toNat_natCast]
  by_cases hz : numB l (zb n) = 0
  · have e4 : numB l (zb n + tb n) = numB (l.drop (zb n)) (tb n) := by rw [e3, hz, Nat.zero_mul, Nat.zero_add]
    rw [e4]
    by_cases hr : rightB (numB (l.drop (zb n)) (tb n)) (numB (l.drop (zb n + tb n)) 2) (numB (l.drop (zb n + tb n + 2)) (wb n)) n = true
    · rw [if_pos hr, if_pos ⟨hm, hl, hb, hz, hr⟩]
    · rw [if_neg hr, if_neg (fun h => hr h.2.2.2.2)]
  · rw [if_neg (fun h => hz h.2.2.2.1), if_neg]
    intro hr
    obtain ⟨a', b', c', n', ea, -, -, en, -, -, hlt, -⟩ := rightB_nat hr
    have hp : 2 ^ tb n ≤ numB l (zb n) * 2 ^ tb n := Nat.le_mul_of_pos_left _ (by omega)
    omega
end Go.Proofs.YtkibigbcdlilkaaGreatDoor
