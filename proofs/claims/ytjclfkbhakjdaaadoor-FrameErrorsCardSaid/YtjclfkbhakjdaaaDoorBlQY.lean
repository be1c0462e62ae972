import Derived.Shelf.Strconv.Itoa0
import Derived.Shelf.Lay
import Derived.Shelf.LaySoft
import Derived.Test.YtjclfkbhakjdaaaDoorBlHY
import Derived.Test.YtjclfkbhakjdaaaDoorLyAY
namespace Go.Proofs.YtjclfkbhakjdaaaDoor.Bl
open Go.RowKit Go.Shelf
attribute [local go_sem] Oper.semAt_some run_store_func
set_option maxHeartbeats 400000 in
theorem Len_any (x : Int) (h0 : 0 ≤ x) (h1 : x ≤ 18446744073709551615) (w : World) :
    Calls Tryd.prog 57 #[.int .u64 x] w fun e w' => e = .returned (.int .i64 (Lib.bitLen x.toNat)) ∧ w = w' := by
  have hc := fun w => Any.bits_Len64 YtjclfkbhakjdaaaDoor.lays129 x w h0 h1
  have hw : IntKind.u64.wrap x = x := IntWalk.u64_in _ (by omega)
  clear h0 h1
  go_enter Tryd.func57, Tryd.ntmps57
  go_wp2_with (go_at_call 81; refine (hc _).mono ?_; rintro e w' ⟨rfl, rfl⟩)
  go_ret
  exact ⟨rfl, rfl⟩
def widthOf (n : Int) : Nat := min (Lib.bitLen (max n 1).toNat + Lib.bitLen (max n 1).toNat % 2) 62
set_option maxRecDepth 100000 in
set_option maxHeartbeats 1000000 in
theorem Width_any (n : Int) (hn : n ≤ 9223372036854775807) (w : World) :
    Calls Tryd.prog 38 #[.int .i64 n] w fun e w' => e = .returned (.int .i64 (widthOf n)) ∧ w = w' := by
  obtain ⟨x, hx⟩ : ∃ x, max n 1 = x := ⟨_, rfl⟩
  have hx1 : 1 ≤ x := by omega
  have hx2 : x ≤ 9223372036854775807 := by omega
  have hlen := fun w => Len_any x (by omega) (by omega) w
  have hb64 : Lib.bitLen x.toNat ≤ 64 := Lib.bitLen_le _ 64 (by omega) (by omega)
  have hw : IntKind.u64.wrap x = x := IntWalk.u64_in _ (by omega)
  have Hw := Lib.hid (show widthOf n = min (Lib.bitLen x.toNat + Lib.bitLen x.toNat % 2) 62 by rw [widthOf, hx])
  generalize Lib.bitLen x.toNat = b at *
  have hm : (b : Int).tmod 2 = ((b % 2 : Nat) : Int) := by rw [Int.tmod_eq_emod_of_nonneg (by omega)]; omega
  go_enter Tryd.func38, Tryd.ntmps38
  go_wp2_with (go_at_call 57; refine (hlen _).mono ?_; rintro e w' ⟨rfl, rfl⟩)
  have hmin : min ((b : Int) + b % 2) 62 = ((min (b + b % 2) 62 : Nat) : Int) := by omega
  go_ret
  exact ⟨by rw [Hw.out, ← hmin]; rfl, rfl⟩
set_option maxRecDepth 100000 in
set_option maxHeartbeats 1000000 in
theorem Balance_any (sv : Value) (bs : List UInt8) (hreach : bs.length ≤ 17592186044416) (w : World) (hS : Sl eB w.heap.size w sv bs) (hT : Tab w) (hO : TabO w) :
    Calls Tryd.prog 36 #[sv] w fun e W' => Below w.heap.size w W' ∧
      ((∃ v k, e = .returned (.tuple #[v, .int .i64 (k : Nat), .int .i64 0]) ∧ FindYes bs k ∧ Sl eB W'.heap.size W' v (flipOf bs k)) ∨
       (∃ n, e = .returned (.tuple #[.slice none 0 0, .int .i64 0, .int .i64 n]) ∧ FindNo bs n)) := by
  obtain ⟨A, cap, rfl⟩ := hS.len
  go_enter Tryd.func36, Tryd.ntmps36
  go_wp2_with fail
  go_at_call 53
  refine (Find_any _ bs hreach w hS hT hO).mono ?_
  rintro e w1 ⟨hB, ⟨k, rfl, hy⟩ | ⟨n, rfl, hno⟩⟩
  · go_wp2_with fail
    go_at_call 54
    refine (Flip_any _ bs k hreach w1 (hS.next hB) (hT.below hB) (hO.below hB)).mono ?_
    rintro e w2 ⟨hB2, ⟨v, rfl, -, -, hv⟩ | ⟨rfl, hbad⟩⟩
    · go_wp2
      exact bodyPost_ret (results_tmp3 rfl _ _ _) rfl ⟨below_trans hB hB2, .inl ⟨v, k, rfl, hy, hv⟩⟩
    · exact absurd hbad hy.2.1
  · have hn0 : (n == 0) = false := by
      rcases hno with ⟨rfl, _⟩ | ⟨rfl, _⟩ <;> decide
    have hn : n = 2 ∨ n = 10 := by rcases hno with ⟨rfl, _⟩ | ⟨rfl, _⟩ <;> simp
    go_wp2
    exact bodyPost_ret (results_tmp3 rfl _ _ _) rfl ⟨hB, .inr ⟨n, rfl, hno⟩⟩
end Go.Proofs.YtjclfkbhakjdaaaDoor.Bl
namespace Go.Proofs.YtjclfkbhakjdaaaDoor.Bl
open Go.RowKit Go.Shelf
attribute [local go_sem] Oper.semAt_some
theorem codesOf_in (bs : List UInt8) (k : Nat) (h : k < bs.length) : codeOf bs[k].toNat ∈ codesOf bs :=
 List.mem_map_of_mem (f := fun b : UInt8 => codeOf b.toNat) (List.getElem_mem h)
end Go.Proofs.YtjclfkbhakjdaaaDoor.Bl
namespace Go.Proofs.YtjclfkbhakjdaaaDoor.Bl
def Fine (bs : List UInt8) : Prop := (-1 : Int) ∉ codesOf bs
theorem Fine.get {bs : List UInt8} (h : Fine bs) (i : Nat) (hi : i < bs.length) : codeOf bs[i].toNat ≠ -1 := fun e => h (e ▸ codesOf_in bs i hi)
theorem fine_of {bs : List UInt8} (h : ∀ i (hi : i < bs.length), codeOf bs[i].toNat ≠ -1) : Fine bs := by
 intro hin
 obtain ⟨c, hc, e⟩ := List.mem_map.1 hin
 obtain ⟨i, hi, rfl⟩ := List.mem_iff_getElem.1 hc
 exact h i hi e
theorem flipB_twice (c : UInt8) (h : codeOf c.toNat ≠ -1) : flipB (flipB c) = c := by
 rcases code_some c h with rfl | rfl | rfl | rfl <;> decide
theorem flipB_code (c : UInt8) (h : codeOf c.toNat ≠ -1) : codeOf (flipB c).toNat ≠ -1 := by
 rcases code_some c h with rfl | rfl | rfl | rfl <;> decide
theorem flipB_gc (c : UInt8) (h : codeOf c.toNat ≠ -1) : (gcOf [flipB c] : Int) = 1 - gcOf [c] := by
 rcases code_some c h with rfl | rfl | rfl | rfl <;> decide
theorem flipOf_at (bs : List UInt8) (k : Int) (i : Nat) (h : i < bs.length) : (flipOf bs k)[i]'(by rw [flipOf_length]; exact h) = flipAt k bs[i] i := by
 have := flipOf_get bs k i h
 rw [List.getElem?_eq_getElem (by rw [flipOf_length]; exact h)] at this
 exact Option.some.inj this
theorem flipAt_code (k : Int) (c : UInt8) (i : Nat) (h : codeOf c.toNat ≠ -1) : codeOf (flipAt k c i).toNat ≠ -1 := by
 unfold flipAt
 split
 · exact flipB_code c h
 · exact h
theorem flipAt_twice (k : Int) (c : UInt8) (i : Nat) (h : codeOf c.toNat ≠ -1) : flipAt k (flipAt k c i) i = c := by
 unfold flipAt
 by_cases hk : (i : Int) < k
 · simp only [hk, if_true]; exact flipB_twice c h
 · simp only [hk, if_false]
theorem Fine.flip {bs : List UInt8} (h : Fine bs) (k : Int) : Fine (flipOf bs k) := by
 apply fine_of
 intro i hi
 rw [flipOf_length] at hi
 rw [flipOf_at bs k i hi]
 exact flipAt_code k _ i (h.get i hi)
theorem flip_twice {bs : List UInt8} (h : Fine bs) (k : Int) : flipOf (flipOf bs k) k = bs := by
 apply List.ext_getElem
 · rw [flipOf_length, flipOf_length]
 · intro i h1 h2
   rw [flipOf_at _ k i (by rw [flipOf_length]; exact h2), flipOf_at bs k i h2]
   exact flipAt_twice k _ i (h.get i h2)
theorem flip_strong {bs : List UInt8} (h : Fine bs) (k : Int) (j : Nat) (hj : j ≤ bs.length) (hjk : (j : Int) ≤ k) :
    (gcOf ((flipOf bs k).take j) : Int) = j - gcOf (bs.take j) := by
  induction j with
  | zero => simp [gcOf]
  | succ j ih =>
    have h1 := gcOf_snoc bs j (by omega)
    have h2 := gcOf_snoc (flipOf bs k) j (by rw [flipOf_length]; omega)
    rw [flipOf_at bs k j (by omega)] at h2
    have h3 := ih (by omega) (by omega)
    have h4 := flipB_gc _ (h.get j (by omega))
    have h5 : flipAt k bs[j] j = flipB bs[j] := by
     unfold flipAt
     rw [if_pos (by omega)]
    rw [h5] at h2
    have one : ∀ c : UInt8, gcOf [c] = if c == 67 || c == 71 then 1 else 0 := by
     intro c
     simp [gcOf, List.countP_cons]
    rw [one, one] at h4
    rw [h1, h2]
    omega
end Go.Proofs.YtjclfkbhakjdaaaDoor.Bl
namespace Go.Proofs.YtjclfkbhakjdaaaDoor.Bl
open Go.RowKit Go.Shelf
attribute [local go_sem] Oper.semAt_some run_store_func
theorem below_alloc (w : World) (o : Obj) : Below w.heap.size w (w.alloc o) := (Below.refl w.heap.size w).alloc (Nat.le_refl _) o
end Go.Proofs.YtjclfkbhakjdaaaDoor.Bl
namespace Go.Proofs.YtjclfkbhakjdaaaDoor.Bl
open Go.RowKit Go.Shelf
attribute [local go_sem] Oper.semAt_some run_store_func
theorem bitLen_lt (x : Nat) (hx : x < 2 ^ 64) : x < 2 ^ Lib.bitLen x := by
 rcases Nat.lt_or_ge x (2 ^ Lib.bitLen x) with h | h
 · exact h
 exfalso
 have h1 := Lib.bitLen_shift _ x h hx
 have h2 : 0 < x / 2 ^ Lib.bitLen x := Nat.div_pos h (Nat.two_pow_pos _)
 have h3 := Lib.bitLen_half (x / 2 ^ Lib.bitLen x) (by omega) (Nat.lt_of_le_of_lt (Nat.div_le_self _ _) hx)
 omega
theorem bitLen_ge (x : Nat) (hx : x < 2 ^ 64) (h0 : 0 < Lib.bitLen x) : 2 ^ (Lib.bitLen x - 1) ≤ x := by
 rcases Nat.lt_or_ge x (2 ^ (Lib.bitLen x - 1)) with h | h
 · have h64 := Lib.bitLen_le x 64 (by omega) hx
   have := Lib.bitLen_le x _ (by omega) h
   omega
 · exact h
theorem bitLen_mono (x y : Nat) (hy : y < 2 ^ 64) (h : x ≤ y) : Lib.bitLen x ≤ Lib.bitLen y := by
 have h64 := Lib.bitLen_le y 64 (by omega) hy
 exact Lib.bitLen_le x _ h64 (Nat.lt_of_le_of_lt h (bitLen_lt y hy))
theorem width_facts (n : Nat) (h1 : 1 ≤ n) (h2 : n ≤ 1099511627776) : ∃ u : Nat, widthOf n = 2 * u ∧ 1 ≤ u ∧ u ≤ 21 ∧ n < 2 ^ (2 * u) ∧ (u = 1 ∨ 2 ^ (2 * u - 2) ≤ n) ∧ widthOf n ≤ widthOf ((n : Int) + 1) := by
 have e1 : widthOf n = min (Lib.bitLen n + Lib.bitLen n % 2) 62 := by
  unfold widthOf
  rw [show (max (n : Int) 1).toNat = n by omega]
 have e2 : widthOf ((n : Int) + 1) = min (Lib.bitLen (n + 1) + Lib.bitLen (n + 1) % 2) 62 := by
  unfold widthOf
  rw [show (max ((n : Int) + 1) 1).toNat = n + 1 by omega]
 have hlt := bitLen_lt n (by omega)
 have hb41 := Lib.bitLen_le n 41 (by omega) (by omega)
 have hm := bitLen_mono n (n + 1) (by omega) (by omega)
 have hpos : 0 < Lib.bitLen n := by
  rcases Nat.eq_zero_or_pos (Lib.bitLen n) with h | h
  · rw [h] at hlt; omega
  · exact h
 have hge := bitLen_ge n (by omega) hpos
 rw [e1, e2]
 generalize Lib.bitLen n = b at *
 generalize Lib.bitLen (n + 1) = c at *
 refine ⟨(b + 1) / 2, by omega, by omega, by omega, ?_, ?_, by omega⟩
 · exact Nat.lt_of_lt_of_le hlt (Nat.pow_le_pow_right (by omega) (by omega))
 · rcases (show (b + 1) / 2 = 1 ∨ 2 ≤ (b + 1) / 2 by omega) with h | h
   · exact .inl h
   · exact .inr (Nat.le_trans (Nat.pow_le_pow_right (by omega) (by omega)) hge)
end Go.Proofs.YtjclfkbhakjdaaaDoor.Bl
namespace Go.Proofs.YtjclfkbhakjdaaaDoor.Bl
theorem gcOf_append (a b : List UInt8) : gcOf (a ++ b) = gcOf a + gcOf b := List.countP_append
theorem gcOf_one (c : UInt8) : gcOf [c] = if c == 67 || c == 71 then 1 else 0 := by simp [gcOf, List.countP_cons]
theorem mk_form {bs : List UInt8} (h : Fine bs) (k : Nat) (hk : k ≤ bs.length) : mk bs k = gcOf bs + k - 2 * (gcOf (bs.take k) : Int) := by
 induction k with
 | zero => simp [mk, gcOf]
 | succ k ih =>
   have h1 := ih (by omega)
   have h2 := gcOf_snoc bs k (by omega)
   have h4 := flipB_gc _ (h.get k (by omega))
   rw [← gcOf_one] at h2
   simp only [mk, List.getElem?_eq_getElem (show k < bs.length by omega), Option.getD_some]
   omega
theorem flip_drop (bs : List UInt8) (k : Nat) : (flipOf bs k).drop k = bs.drop k := by
 apply List.ext_getElem?
 intro i
 rw [List.getElem?_drop, List.getElem?_drop]
 by_cases h : k + i < bs.length
 · rw [flipOf_get bs k (k + i) h, List.getElem?_eq_getElem h, flipAt, if_neg (by omega)]
 · rw [List.getElem?_eq_none (by rw [flipOf_length]; omega), List.getElem?_eq_none (by omega)]
theorem mk_gc {bs : List UInt8} (h : Fine bs) (k : Nat) (hk : k ≤ bs.length) : mk bs k = gcOf (flipOf bs k) := by
 have e1 := flip_strong h k k hk (Int.le_refl _)
 have e2 := mk_form h k hk
 have e3 : gcOf (flipOf bs k) = gcOf ((flipOf bs k).take k) + gcOf (bs.drop k) := by
  rw [← flip_drop bs k, ← gcOf_append, List.take_append_drop]
 have e4 : gcOf bs = gcOf (bs.take k) + gcOf (bs.drop k) := by rw [← gcOf_append, List.take_append_drop]
 omega
theorem some_half {bs : List UInt8} (h : Fine bs) (hev : bs.length % 2 = 0) : ∃ k, k ≤ bs.length ∧ 2 * mk bs k = bs.length := by
 rcases Classical.em (∃ k, k ≤ bs.length ∧ 2 * mk bs k = bs.length) with h1 | h1
 · exact h1
 exfalso
 have h2 : ∀ k, k ≤ bs.length → 2 * mk bs k ≠ bs.length := fun k hk e => h1 ⟨k, hk, e⟩
 have key : ∀ k, k ≤ bs.length → (2 * mk bs k > bs.length ↔ 2 * mk bs 0 > bs.length) := by
  intro k
  induction k with
  | zero => intro _; exact Iff.rfl
  | succ k ih =>
    intro hk
    have a := ih (by omega)
    have b := h2 k (by omega)
    have c := h2 (k + 1) hk
    have s1 := mk_form h k (by omega)
    have s2 := mk_form h (k + 1) hk
    have s3 := gcOf_snoc bs k (by omega)
    rw [← a]
    split at s3 <;> omega
 have z := key bs.length (Nat.le_refl _)
 have f0 := mk_form h 0 (by omega)
 have fn := mk_form h bs.length (Nat.le_refl _)
 have n0 := h2 0 (by omega)
 have nn := h2 bs.length (Nat.le_refl _)
 rw [List.take_length] at fn
 rw [List.take_zero, show gcOf ([] : List UInt8) = 0 from rfl] at f0
 omega
theorem always {bs : List UInt8} (h : Fine bs) (hev : bs.length % 2 = 0) (n : Int) : ¬ FindNo bs n := by
 rintro (⟨_, _, h2⟩ | ⟨_, h2⟩)
 · obtain ⟨k, hk, e⟩ := some_half h hev
   exact h2 k hk e
 · exact h h2
theorem width_room (n k : Nat) (hk : k ≤ n) (hn : n ≤ 300) : ∃ u : Nat, widthOf n = 2 * u ∧ 1 ≤ u ∧ u ≤ 5 ∧ k < 2 ^ (2 * u) := by
 rcases Nat.eq_zero_or_pos n with rfl | hp
 · exact ⟨1, by decide, by omega, by omega, by omega⟩
 · obtain ⟨u, hu, u1, u21, hlt, hge, _⟩ := width_facts n hp (by omega)
   refine ⟨u, hu, u1, ?_, by omega⟩
   rcases hge with h | h
   · omega
   · rcases Nat.lt_or_ge u 6 with h6 | h6
     · omega
     · have := Nat.pow_le_pow_right (n := 2) (by omega) (show 10 ≤ 2 * u - 2 by omega)
       omega
end Go.Proofs.YtjclfkbhakjdaaaDoor.Bl
