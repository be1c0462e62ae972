import Derived.Test.YtjclfkbhakjdaaaDoorFrWZ
namespace Go.Proofs.YtjclfkbhakjdaaaDoor
open Go.RowKit Go.Shelf
theorem vfold_split : ∀ (b : List UInt8) (y : Nat), b.foldl (fun y c => 2 * y + c.toNat) y = y * 2 ^ b.length + vG b
  | [], y => by simp [vG]
  | c :: b, y => by
    have h1 := vfold_split b (2 * y + c.toNat)
    have h2 := vfold_split b (2 * 0 + c.toNat)
    have h3 : vG (c :: b) = b.foldl (fun y c => 2 * y + c.toNat) (2 * 0 + c.toNat) := rfl
    rw [List.foldl_cons, h1, h3, h2, List.length_cons, Nat.pow_succ, Nat.add_mul, Nat.add_mul]
    have : 2 * y * 2 ^ b.length = y * (2 ^ b.length * 2) := by rw [Nat.mul_comm 2 y, Nat.mul_assoc, Nat.mul_comm 2]
    omega
theorem vG_cons (c : UInt8) (b : List UInt8) : vG (c :: b) = c.toNat * 2 ^ b.length + vG b := by
 have h3 : vG (c :: b) = b.foldl (fun y c => 2 * y + c.toNat) (2 * 0 + c.toNat) := rfl
 rw [h3, vfold_split]
 simp
theorem vG_pow {b : List UInt8} (h : ∀ c ∈ b, c.toNat ≤ 1) : vG b < 2 ^ b.length := by
 have := vfold_lt b 0 h
 unfold vG
 omega
theorem v_inj : ∀ (b b' : List UInt8), b.length = b'.length → (∀ c ∈ b, c.toNat ≤ 1) → (∀ c ∈ b', c.toNat ≤ 1) → vG b = vG b' → b = b'
  | [], [], _, _, _, _ => rfl
  | [], _ :: _, h, _, _, _ => by cases h
  | _ :: _, [], h, _, _, _ => by cases h
  | c :: b, c' :: b', h, hb, hb', hv => by
    have hl : b.length = b'.length := by simpa using h
    have p1 := vG_pow (b := b) fun x hx => hb x (List.mem_cons_of_mem _ hx)
    have p2 := vG_pow (b := b') fun x hx => hb' x (List.mem_cons_of_mem _ hx)
    have q1 := hb c List.mem_cons_self
    have q2 := hb' c' List.mem_cons_self
    rw [vG_cons, vG_cons, hl] at hv
    rw [hl] at p1
    have hc : c.toNat = c'.toNat ∧ vG b = vG b' := by
     rcases (show c.toNat = 0 ∨ c.toNat = 1 by omega) with e | e <;> rcases (show c'.toNat = 0 ∨ c'.toNat = 1 by omega) with e' | e' <;> rw [e, e'] at hv ⊢
     all_goals omega
    rw [UInt8.toNat_inj.1 hc.1, v_inj b b' hl (fun x hx => hb x (List.mem_cons_of_mem _ hx)) (fun x hx => hb' x (List.mem_cons_of_mem _ hx)) hc.2]
theorem num_v {b : List UInt8} (h : ∀ c ∈ b, c.toNat ≤ 1) : Bt.numOf (vG b) b.length = b := by
 refine v_inj _ _ (Bt.numOf_length _ _) (Bt.numOf_bits _ _) h ?_
 have := Bt.numOf_fold (vG b) b.length 0
 unfold vG at this ⊢
 rw [this]
 have hp := vG_pow h
 unfold vG at hp
 rw [Nat.mod_eq_of_lt hp]
 omega
theorem field_bits {h : List UInt8} (hl : ∀ y ∈ h.zipIdx, Bt.LetterAt y) : Bt.fieldOf (bitsG h) = h := by
 refine List.ext_getElem (by rw [Bt.fieldOf_length, bitsG_length]) fun i h1 h2 => ?_
 rw [Bt.fieldOf_get _ i (by rw [bitsG_length]; exact h2)]
 have hm : (h[i], i) ∈ h.zipIdx := List.mem_zipIdx_iff_getElem?.2 (List.getElem?_eq_getElem h2)
 have hb : (bitsG h)[i]'(by rw [bitsG_length]; exact h2) = Bt.bitB (h[i], i) := by simp [bitsG]
 rw [hb]
 have ha := hl _ hm
 unfold Bt.bitB
 split
 · rename_i e; exact e.symm
 · rename_i e
   rcases ha with e' | e'
   · exact absurd e' e
   · exact e'.symm
theorem let_unb {n : Nat} {x s : List UInt8} (h : unbG n x = .ok s) (hn : n ≤ x.length) (hw : widG s.length = n) : letG s = x ∧ Bl.Fine s := by
 unfold unbG at h
 split at h
 · rename_i hlet
   split at h
   · cases h
   · rename_i hf
     split at h
     · rename_i hk
       injection h with h
       have hf' : Bl.Fine (x.drop n) := hf
       have hbl : (bitsG (x.take n)).length = n := by rw [bitsG_length, List.length_take]; omega
       have hkg : kG s = vG (bitsG (x.take n)) := by rw [← h]; exact hk
       have hnum := num_v (bitsG_le (x.take n))
       rw [hbl] at hnum
       refine ⟨?_, h ▸ Bl.Fine.flip hf' _⟩
       unfold letG indexG
       rw [hw, hkg, hnum, field_bits hlet, ← h, Bl.flip_twice hf', List.take_append_drop]
     · cases h
 · cases h
theorem trit_ok {a c t : UInt8} (ha : Tu.IsLet a) (h : Tu.triG a c = .ok t) : Tu.IsLet c ∧ Tu.IsTri t ∧ Tu.behG a t = .ok c := by
 by_cases hc : Tu.IsLet c
 · by_cases hne : c = a
   · rw [hne, Tu.tri_same ha] at h; cases h
   · obtain ⟨t', h1, h2, h3⟩ := Tu.tri_fact ha hc hne
     rw [h] at h1
     cases h1
     exact ⟨hc, h2, h3⟩
 · have : Tu.codeOf c.toNat = -1 := Tu.no_code (fun e => hc (.inl e)) (fun e => hc (.inr (.inl e))) (fun e => hc (.inr (.inr (.inl e)))) (fun e => hc (.inr (.inr (.inr e))))
   rw [Tu.tri_bad ha this] at h; cases h
theorem wT_wB : ∀ (s : List UInt8) (a : UInt8) (t : List UInt8), Tu.IsLet a → Tu.wT a s = (t, none) → Tu.wB a t = (s, none)
 | [], a, t, _, h => by
   have : t = [] := by simp [Tu.wT, Tu.walkG] at h; exact h
   subst this
   rfl
 | c :: s, a, t, ha, h => by
   cases ht : Tu.triG a c with
   | error n => rw [Tu.wT_bad s ht] at h; cases h
   | ok u =>
     obtain ⟨h1, -, h3⟩ := trit_ok ha ht
     rw [Tu.wT_cons s ht] at h
     injection h with e1 e2
     subst e1
     rw [Tu.wB_cons _ h3, wT_wB s c (Tu.wT c s).1 h1 (Prod.ext rfl e2)]
theorem body_back {s t : List UInt8} (h : Tu.backG 65 s = .ok t) : bodyG t = s := by
 have h' : Tu.gatG 65 (Tu.wT 65 s) = .ok t := h
 cases hw : Tu.wT 65 s with
 | mk r o =>
   rw [hw] at h'
   cases o with
   | none =>
     rw [Tu.gat_ok is_A] at h'
     cases h'
     unfold bodyG
     rw [wT_wB s 65 t is_A hw]
   | some n => rw [Tu.gat_no is_A] at h'; cases h'
theorem pack_part {bs s y : List UInt8} : ∀ k, Tr.packL (bs ++ s) k = Tr.packL (bs ++ y) k ∨ ¬ 5 * k ≤ bs.length := by
 intro k
 induction k with
 | zero => exact .inl rfl
 | succ k ih =>
   by_cases h : 5 * (k + 1) ≤ bs.length
   · rcases ih with ih | ih
     · refine .inl ?_
       rw [Tr.packL, Tr.packL, ih]
       have e : ∀ z : List UInt8, Tr.partL (bs ++ z) 5 k = Tr.partL bs 5 k := fun z => by
        unfold Tr.partL
        rw [List.drop_append_of_le_length (by omega), List.take_append_of_le_length (by rw [List.length_drop]; omega)]
       rw [e, e]
     · omega
   · exact .inr h
theorem block_back {L y : List UInt8} (hl : L.length = 26) (h : Tr.backG L = .ok y) : Tr.trL (Tr.nb y 5) = L ∧ y.length = 5 := by
 unfold Tr.backG at h
 split at h
 · cases h
 · rename_i hany
   split at h
   · cases h
   · rename_i hlt
     cases h
     have hle : ∀ j, j < 26 → (Tr.nb.C8 L j).toNat ≤ 2 := fun j hj => by
      rcases Nat.lt_or_ge 2 (Tr.nb.C8 L j).toNat with h2 | h2
      · exact absurd ((Tr.any_of L hl).2 ⟨j, hj, h2⟩) hany
      · exact h2
     refine ⟨?_, Tr.byL_length _⟩
     have e : Tr.nb (Tr.byL (Tr.nt3 L 26)) 5 = Tr.nt3 L 26 := by
      have := Tr.nb_byL (Tr.nt3 L 26) (by omega) 5 (by omega)
      simpa using this
     rw [e]
     exact Tr.trL_nt3 L hl hle
theorem pack_back_is (t : List UInt8) : ∀ k b, Tr.eachG Tr.backG t 26 k = .ok b → 26 * k ≤ t.length → Tr.packL b k = t.take (26 * k)
 | 0, b, _, _ => by simp [Tr.packL]
 | k + 1, b, h, hl => by
   rw [Tr.eachG] at h
   cases h1 : Tr.eachG Tr.backG t 26 k with
   | error e => rw [h1] at h; cases h
   | ok r =>
     rw [h1] at h
     simp only at h
     have hp : (Tr.partL t 26 k).length = 26 := by unfold Tr.partL; rw [List.length_take, List.length_drop]; omega
     cases h2 : Tr.backG (Tr.partL t 26 k) with
     | error e => rw [h2] at h; cases h
     | ok y =>
       rw [h2] at h
       cases h
       obtain ⟨hb, hy⟩ := block_back hp h2
       have hr := each_len _ _ _ h1
       have ih := pack_back_is t k r h1 (by omega)
       have e1 : Tr.packL (r ++ y) k = Tr.packL r k := by
        rcases pack_part (bs := r) (s := y) (y := []) k with e | e
        · rw [e, List.append_nil]
        · omega
       have e2 : Tr.partL (r ++ y) 5 k = y := by
        unfold Tr.partL
        rw [show k * 5 = r.length by omega, List.drop_left, ← hy, List.take_length]
       rw [Tr.packL, e1, ih, e2, hb, show 26 * (k + 1) = 26 * k + 26 by omega, List.take_add]
       unfold Tr.partL
       rw [Nat.mul_comm k 26]
theorem said_back {b : List UInt8} (h : 3 ≤ b.length) : saidG (grpG b) (plcG b) (b.drop 3) = b := by
 obtain ⟨x, y, z, r, rfl⟩ : ∃ x y z r, b = x :: y :: z :: r := by
  match b, h with
  | x :: y :: z :: r, _ => exact ⟨x, y, z, r, rfl⟩
 have hx := x.toNat_lt
 have hy := y.toNat_lt
 have hz := z.toNat_lt
 have g : grpG (x :: y :: z :: r) = ((x.toNat * 256 + y.toNat : Nat) : Int) := rfl
 have p : plcG (x :: y :: z :: r) = (z.toNat : Int) := rfl
 have e1 : u8Z (grpG (x :: y :: z :: r) / 256) = x := UInt8.toNat_inj.1 (by have := u8_wrap (grpG (x :: y :: z :: r) / 256); omega)
 have e2 : u8Z (grpG (x :: y :: z :: r)) = y := UInt8.toNat_inj.1 (by have := u8_wrap (grpG (x :: y :: z :: r)); omega)
 have e3 : u8Z (plcG (x :: y :: z :: r)) = z := UInt8.toNat_inj.1 (by have := u8_wrap (plcG (x :: y :: z :: r)); omega)
 unfold saidG headG
 rw [e1, e2, e3]
 rfl
theorem let_back {P D R G PL : Int} {pay x : List UInt8} (h : backF P D R x = .ok (G, PL, pay)) : chkF P D R G PL pay.length = 0 ∧ letE P D R G PL pay = x := by
 unfold backF at h
 split at h
 · rename_i hm
   obtain ⟨k, hk, rfl⟩ := Sh.payOk_at hm.1
   rw [kOf_pay] at h
   split at h
   · rename_i hl
     cases hb : bakG (idxG k) (k + 1) x with
     | error e => rw [hb] at h; cases h
     | ok b =>
       rw [hb] at h
       have h' : frmG (Sh.pay k) D R b = .ok (G, PL, pay) := h
       unfold frmG at h'
       split at h'
       · rename_i hc
         injection h' with h'
         injection h' with e1 e2
         injection e2 with e2 e3
         have hbl := bak_len hb
         have hpl : pay.length = b.length - 3 := by rw [← e3, List.length_drop]
         have hc' : chkF (Sh.pay k) D R G PL pay.length = 0 := by rw [← e1, ← e2, hpl]; exact hc
         refine ⟨hc', ?_⟩
         have hle : letE (Sh.pay k) D R G PL pay = lettersG (saidG G PL pay) := if_pos hc'
         rw [hle, ← e1, ← e2, ← e3, said_back (by omega)]
         obtain ⟨y, t, h1, h2, h3⟩ := bak_parts hb
         have hxl : x.length = idxG k + (k + 1) * 26 := by
          unfold Sh.innerK Sh.bodyK at hl
          rw [idx_is] at hl
          omega
         have hyl := unb_len h1
         have htl := turnback_len _ _ _ h2
         have hp := pack_back_is t (k + 1) b h3 (by omega)
         have htr : tritsG b = t := by
          unfold tritsG
          rw [hbl, Nat.mul_div_cancel_left _ (by omega), hp, List.take_of_length_le (by omega)]
         unfold lettersG
         rw [htr, body_back h2]
         exact (let_unb h1 (by omega) (by rw [hyl, show x.length - idxG k = 26 * (k + 1) by omega]; exact wid_k k hk)).1
       · cases h'
   · cases h
 · cases h
end Go.Proofs.YtjclfkbhakjdaaaDoor
