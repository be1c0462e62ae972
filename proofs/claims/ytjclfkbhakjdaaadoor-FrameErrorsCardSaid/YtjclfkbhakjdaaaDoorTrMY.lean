import Derived.Test.YtjclfkbhakjdaaaDoorTrGY
namespace Go.Proofs.YtjclfkbhakjdaaaDoor.Tr
open Go.RowKit Go.Shelf
attribute [local go_sem] Oper.semAt_some run_store_func
def packG (L : List UInt8) : Except Int (List UInt8) := .ok (trL (nb L 5))
def packL (bs : List UInt8) : Nat → List UInt8
  | 0 => []
  | j + 1 => packL bs j ++ trL (nb (partL bs 5 j) 5)
theorem packL_eq (bs : List UInt8) (k : Nat) : eachG packG bs 5 k = .ok (packL bs k) := by
 induction k with
 | zero => rfl
 | succ k ih => simp only [eachG, ih, packG, packL]
theorem packG_long (L x : List UInt8) (h : packG L = .ok x) : x.length ≤ 26 := by
 cases h; rw [trL_length]; omega
theorem backG_long (L x : List UInt8) (h : backG L = .ok x) : x.length ≤ 26 := by
 unfold backG at h
 split at h
 · cases h
 · split at h
   · cases h
   · cases h; rw [byL_length]; omega
set_option maxRecDepth 100000 in
theorem Pack_yes (sv : Value) (bs : List UInt8) (k : Nat) (hl : bs.length = k * 5) (hreach : bs.length ≤ 1000000) (w : World) (hS : Sl eB w.heap.size w sv bs) :
    Calls Tryd.prog 34 #[sv] w fun e w' => ∃ v, e = .returned (.tuple #[v, .int .i64 0]) ∧ w'.ownsRow w.heap.size 5 1 v (packL bs k).length ((packL bs k).map eB) ∧ Below w.heap.size w w' := by
  have hE := callsIn_inProg (each_in 5 k 49 #[] packG Pack1_in packG_long ⟨_, Tryd.func49⟩ (enters_of Tryd.func49 (by kernel_rfl) rfl) sv bs hl (by omega) (by omega) hreach w hS 0)
  rw [packL_eq] at hE
  obtain ⟨A, c, rfl⟩ := hS.len
  clear hl
  go_enter Tryd.func34, Tryd.ntmps34
  go_wp2_with fail
  go_at_call 48
  refine hE.mono ?_
  rintro e w' ⟨hB, ⟨v, r, hr, rfl, hv⟩ | ⟨m, hm, rfl⟩⟩
  · cases hr
    go_wp2
    go_ret2
    exact ⟨v, rfl, hv, hB⟩
  · cases hm
set_option maxRecDepth 100000 in
theorem Unpack_yes (sv : Value) (bs : List UInt8) (k : Nat) (hl : bs.length = k * 26) (hreach : bs.length ≤ 1000000) (w : World) (hS : Sl eB w.heap.size w sv bs) :
    Calls Tryd.prog 68 #[sv] w fun e w' => Below w.heap.size w w' ∧
      ((∃ v r, eachG backG bs 26 k = .ok r ∧ e = .returned (.tuple #[v, .int .i64 0]) ∧ w'.ownsRow w.heap.size 5 1 v r.length (r.map eB)) ∨ ∃ m, eachG backG bs 26 k = .error m ∧ e = .returned (.tuple #[.slice none 0 0, .int .i64 m])) := by
  have hE := callsIn_inProg (each_in 26 k 89 #[] backG Unpack1_in backG_long ⟨_, Tryd.func89⟩ (enters_of Tryd.func89 (by kernel_rfl) rfl) sv bs hl (by omega) (by omega) hreach w hS 0)
  obtain ⟨A, c, rfl⟩ := hS.len
  clear hl
  go_enter Tryd.func68, Tryd.ntmps68
  go_wp2_with fail
  go_at_call 48
  refine hE.mono ?_
  rintro e w' ⟨hB, ⟨v, r, hr, rfl, hv⟩ | ⟨m, hm, rfl⟩⟩
  · go_wp2
    go_ret2
    exact ⟨hB, .inl ⟨v, r, hr, rfl, hv⟩⟩
  · go_wp2
    go_ret2
    exact ⟨hB, .inr ⟨m, hm, rfl⟩⟩
end Go.Proofs.YtjclfkbhakjdaaaDoor.Tr
namespace Go.Proofs.YtjclfkbhakjdaaaDoor.Tr
open Go.RowKit Go.Shelf
theorem C8_at (L : List UInt8) (j : Nat) (h : j < L.length) : nb.C8 L j = L[j] := by simp [nb.C8, h]
theorem ofNat_toNat (n : Nat) (h : n < 256) : (UInt8.ofNat n).toNat = n := by simp; omega
theorem trL_at (x j : Nat) (h : j < 26) : (nb.C8 (trL x) j).toNat = x / 3 ^ (25 - j) % 3 := by
 rw [C8_at _ _ (by rw [trL_length]; exact h)]
 simp only [trL, List.getElem_map, List.getElem_range]
 exact ofNat_toNat _ (by have := Nat.mod_lt (x / 3 ^ (25 - j)) (show 0 < 3 by omega); omega)
theorem byL_at (x j : Nat) (h : j < 5) : (nb.C8 (byL x) j).toNat = x / 256 ^ (4 - j) % 256 := by
 rw [C8_at _ _ (by rw [byL_length]; exact h)]
 simp only [byL, List.getElem_map, List.getElem_range]
 exact ofNat_toNat _ (Nat.mod_lt _ (by omega))
theorem nt3_trL (x : Nat) (hx : x < 3 ^ 26) (k : Nat) (hk : k ≤ 26) : nt3 (trL x) k = x / 3 ^ (26 - k) := by
 induction k with
 | zero => rw [nt3]; exact (Nat.div_eq_of_lt hx).symm
 | succ k ih =>
   rw [nt3, ih (by omega), trL_at x k (by omega)]
   have e : 26 - k = 25 - k + 1 := by omega
   rw [e, show 26 - (k + 1) = 25 - k by omega, Nat.pow_succ, ← Nat.div_div_eq_div_mul]
   omega
theorem ext8 {L M : List UInt8} (hl : L.length = M.length) (h : ∀ j, j < L.length → (nb.C8 L j).toNat = (nb.C8 M j).toNat) : L = M := by
 apply List.ext_getElem hl
 intro j h1 h2
 have := h j h1
 rw [C8_at L j h1, C8_at M j h2] at this
 exact UInt8.toNat_inj.1 this
theorem nt3_digit (L : List UInt8) (hle : ∀ j, j < 26 → (nb.C8 L j).toNat ≤ 2) (k : Nat) (hk : k ≤ 26) (j : Nat) (hj : j < k) : nt3 L k / 3 ^ (k - 1 - j) % 3 = (nb.C8 L j).toNat := by
 induction k with
 | zero => omega
 | succ k ih =>
   by_cases e : j = k
   · subst e
     rw [show j + 1 - 1 - j = 0 by omega, Nat.pow_zero, Nat.div_one, nt3]
     have := hle j (by omega)
     omega
   · have h1 := ih (by omega) (by omega)
     rw [show k + 1 - 1 - j = (k - 1 - j) + 1 by omega, Nat.pow_succ, Nat.mul_comm, ← Nat.div_div_eq_div_mul]
     have h2 := hle k (by omega)
     rw [show nt3 L (k + 1) / 3 = nt3 L k by rw [nt3]; omega]
     exact h1
theorem nb_digit (L : List UInt8) (k : Nat) (j : Nat) (hj : j < k) : nb L k / 256 ^ (k - 1 - j) % 256 = (nb.C8 L j).toNat := by
 induction k with
 | zero => omega
 | succ k ih =>
   have h2 := (nb.C8 L k).toNat_lt
   by_cases e : j = k
   · subst e
     rw [show j + 1 - 1 - j = 0 by omega, Nat.pow_zero, Nat.div_one, nb]
     omega
   · have h1 := ih (by omega)
     rw [show k + 1 - 1 - j = (k - 1 - j) + 1 by omega, Nat.pow_succ, Nat.mul_comm, ← Nat.div_div_eq_div_mul]
     rw [show nb L (k + 1) / 256 = nb L k by rw [nb]; omega]
     exact h1
theorem byL_nb (L : List UInt8) (hl : L.length = 5) : byL (nb L 5) = L := by
 refine ext8 (by rw [byL_length, hl]) fun j hj => ?_
 rw [byL_length] at hj
 rw [byL_at _ j hj, show 4 - j = 5 - 1 - j by omega]
 exact nb_digit L 5 j hj
theorem nb5_lt (L : List UInt8) : nb L 5 < 1099511627776 := nb_lt L 5
theorem trL_le (x j : Nat) (h : j < 26) : (nb.C8 (trL x) j).toNat ≤ 2 := by
 rw [trL_at x j h]
 have := Nat.mod_lt (x / 3 ^ (25 - j)) (show 0 < 3 by omega)
 omega
theorem backG_trL (x : Nat) (hx : x < 1099511627776) : backG (trL x) = .ok (byL x) := by
 have h3 : nt3 (trL x) 26 = x := by
  rw [nt3_trL x (by omega) 26 (by omega), Nat.sub_self, Nat.pow_zero, Nat.div_one]
 rw [backG, if_neg (fun h => by
  obtain ⟨j, h1, h2⟩ := (any_of (trL x) (trL_length x)).1 h
  have := trL_le x j h1
  omega), h3, if_neg (by omega)]
theorem packL_length (bs : List UInt8) (k : Nat) : (packL bs k).length = k * 26 := by
 induction k with
 | zero => rfl
 | succ k ih => rw [packL, List.length_append, ih, trL_length]; omega
theorem packL_part (bs : List UInt8) (k j : Nat) (h : j < k) : partL (packL bs k) 26 j = trL (nb (partL bs 5 j) 5) := by
 induction k with
 | zero => omega
 | succ k ih =>
   by_cases e : j = k
   · subst e
     unfold partL
     rw [packL, List.drop_append_of_le_length (by rw [packL_length]; omega), List.drop_of_length_le (by rw [packL_length]; omega), List.nil_append, List.take_of_length_le (by rw [trL_length]; omega)]
     rfl
   · rw [← ih (by omega)]
     unfold partL
     have h1 := packL_length bs k
     have h2 : (j + 1) * 26 ≤ k * 26 := Nat.mul_le_mul_right 26 (by omega)
     rw [packL, List.drop_append_of_le_length (by omega), List.take_append_of_le_length (by rw [List.length_drop]; omega)]
theorem each_back (bs : List UInt8) (k : Nat) (hl : bs.length = k * 5) (j : Nat) (hj : j ≤ k) : eachG backG (packL bs k) 26 j = .ok (bs.take (j * 5)) := by
 induction j with
 | zero => simp [eachG]
 | succ j ih =>
   have hp := partL_length hl (x := j) (by omega)
   simp only [eachG, ih (by omega), packL_part bs k j (by omega), backG_trL _ (nb5_lt _), byL_nb _ hp]
   rw [Nat.succ_mul, List.take_add]
   rfl
theorem pack_back (bs : List UInt8) (k : Nat) (hl : bs.length = k * 5) : eachG backG (packL bs k) 26 k = .ok bs := by
 rw [each_back bs k hl k (Nat.le_refl _), List.take_of_length_le (by omega)]
theorem packL_le (bs : List UInt8) (k : Nat) : ∀ c ∈ packL bs k, c.toNat ≤ 2 := by
 induction k with
 | zero => intro c h; cases h
 | succ k ih =>
   intro c h
   rw [packL, List.mem_append] at h
   rcases h with h | h
   · exact ih c h
   · obtain ⟨j, hj, rfl⟩ := List.mem_iff_getElem.1 h
     have := trL_le (nb (partL bs 5 k) 5) j (by rwa [trL_length] at hj)
     rwa [C8_at _ _ hj] at this
end Go.Proofs.YtjclfkbhakjdaaaDoor.Tr
