import Derived.Test.YtcngnjkpnmpcpaaDoorPcDZ
namespace Go.Proofs.YtcngnjkpnmpcpaaDoor
open Go.RowKit Go.Shelf
attribute [local go_sem] Oper.semAt_some run_store_func
def farP (z : Int) : Bool := decide (z < 0 ∨ 5 ≤ z)
theorem farP_min (acc : Int) (d : Nat) : farP (minD acc d) = (farP acc && decide (5 ≤ d)) := by
 unfold farP minD
 by_cases h1 : acc < 0
 · rw [decide_eq_true h1, Bool.true_or, if_pos rfl, decide_eq_true (Or.inl h1), Bool.true_and]
   exact decide_eq_decide.2 (by omega)
 · rw [decide_eq_false h1, Bool.false_or]
   by_cases h2 : (d : Int) < acc
   · rw [decide_eq_true h2, if_pos rfl, ← Bool.decide_and]
     exact decide_eq_decide.2 (by omega)
   · rw [decide_eq_false h2, if_neg (by simp), ← Bool.decide_and]
     exact decide_eq_decide.2 (by omega)
theorem farP_leaR (all : List (List UInt8)) (i : Nat) (acc : Int) : ∀ k, farP (leaR all i acc k) = finR all i (farP acc) k
  | 0 => rfl
  | k + 1 => by rw [leaR, finR, farP_min, farP_leaR all i acc k]
theorem finR_and (all : List (List UInt8)) (i : Nat) (x y : Bool) : ∀ k, finR all i (x && y) k = (y && finR all i x k)
 | 0 => Bool.and_comm _ _
 | k + 1 => by rw [finR, finR, finR_and all i x y k, Bool.and_assoc]
theorem finA_parts (all : List (List UInt8)) : ∀ i, i ≤ all.length → finA all i = (((all.take i).all oneG) && farP (leaA all i)) := by
 intro i
 induction i with
 | zero => intro _; rfl
 | succ i ih =>
   intro hi
   rw [finA, leaA, finR_and, ih (by omega), farP_leaR, Bool.and_comm ((all.take i).all oneG), finR_and, List.take_succ_eq_append_getElem (by omega), List.all_append, List.getElem?_eq_getElem (show i < all.length by omega)]
   simp only [Option.getD_some, List.all_cons, List.all_nil, Bool.and_true]
   cases oneG all[i] <;> cases (all.take i).all oneG <;> simp
theorem minD_pos (acc : Int) (d : Nat) : 0 ≤ minD acc d := by
 unfold minD
 by_cases h1 : acc < 0
 · rw [decide_eq_true h1, Bool.true_or, if_pos rfl]; omega
 · rw [decide_eq_false h1, Bool.false_or]
   by_cases h2 : (d : Int) < acc
   · rw [decide_eq_true h2, if_pos rfl]; omega
   · rw [decide_eq_false h2, if_neg (by simp)]; omega
theorem leaA_pos (all : List (List UInt8)) (n : Nat) (h : 2 ≤ n) : 0 ≤ leaA all n := by
 obtain ⟨i, rfl⟩ : ∃ i, n = i + 2 := ⟨n - 2, by omega⟩
 rw [leaA, leaR]
 exact minD_pos _ _
theorem chkE_parts (L : List Pr) (h8 : L.length ≤ 8) : chkE L = if (∀ x ∈ allP L, oneG x = true) ∧ (0 < L.length → 5 ≤ leaA (allP L) (allP L).length) then 0 else 200 := by
 rw [chkE_fin L h8, finA_parts _ _ (Nat.le_refl _), List.take_length]
 have hl := allP_len L
 have e : (((allP L).all oneG && farP (leaA (allP L) (allP L).length)) = true) ↔ ((∀ x ∈ allP L, oneG x = true) ∧ (0 < L.length → 5 ≤ leaA (allP L) (allP L).length)) := by
  rw [Bool.and_eq_true, List.all_eq_true]
  refine and_congr_right fun _ => ?_
  unfold farP
  rw [decide_eq_true_eq]
  by_cases h0 : 0 < L.length
  · have := leaA_pos (allP L) (allP L).length (by omega)
    constructor
    · rintro h _; omega
    · intro h; exact .inr (h h0)
  · have h1 : (allP L).length = 0 := by omega
    rw [h1]
    constructor
    · intro _ h; exact absurd h h0
    · intro _; exact .inl (show (-1 : Int) < 0 by decide)
 by_cases h : (∀ x ∈ allP L, oneG x = true) ∧ (0 < L.length → 5 ≤ leaA (allP L) (allP L).length)
 · rw [if_pos (e.2 h), if_pos h]
 · rw [if_neg (fun h2 => h (e.1 h2)), if_neg h]
set_option maxRecDepth 100000 in
set_option maxHeartbeats 4000000 in
theorem RCheckP_any (v0 : Value) (L : List Pr) (w : World) (h0 : PrsIn w.heap.size w v0 L) :
    Calls Tryd.prog 18 #[v0] w fun e w' => e = .returned (.int .i64 (chkE L)) ∧ Below w.heap.size w w' := by
  by_cases h8 : L.length ≤ 8
  · have hAl := RAllP_any v0 L (by omega) w h0
    have hLe := fun W (h : Below w.heap.size w W) => RLeastP_any v0 L (by omega) W (h0.next h)
    have hp := chkE_parts L h8
    have HBad := Lib.hid (show ∀ x ∈ allP L, oneG x = false → chkE L = 200 from fun x hx h => by
     rw [hp, if_neg]
     intro h2
     have := h2.1 x hx
     rw [h] at this
     cases this)
    have HFar := Lib.hid (show 0 < L.length → leaA (allP L) (allP L).length < 5 → chkE L = 200 from fun h1 h2 => by
     rw [hp, if_neg]
     intro h3
     have := h3.2 h1
     omega)
    have HOk := Lib.hid (show (∀ x ∈ allP L, oneG x = true) → (0 < L.length → 5 ≤ leaA (allP L) (allP L).length) → chkE L = 0 from fun h1 h2 => by rw [hp, if_pos ⟨h1, h2⟩])
    clear hp
    obtain ⟨A, c, rfl⟩ := h0.len
    have d8 : decide ((8 : Int) < (L.length : Int)) = false := decide_eq_false (by omega)
    have hl2 : (allP L).length ≤ 16 := by rw [allP_len]; omega
    generalize leaA (allP L) (allP L).length = z at *
    generalize chkE L = E at *
    generalize allP L = all at *
    clear h0
    have HL8 := Lib.hid h8
    clear h8
    go_enter Tryd.func18, Tryd.ntmps18
    go_wp2_with fail
    go_at_call 15
    refine hAl.mono ?_
    rintro e w1 ⟨u, rfl, hown, hB⟩
    obtain ⟨A2, c2, rfl, hc, hcs⟩ := Sl.of_own hown
    have HC := Lib.hid hcs
    have HL := Lib.hid hl2
    have HLe := Lib.hid hLe
    clear hAl hown hcs hc hl2 hLe
    go_wp2_with fail
    go_loopw [4] (fun i wr => ∃ k : Nat, k ≤ all.length ∧ i = .int .i64 k ∧ (∀ j (h : j < all.length), j < k → oneG all[j] = true) ∧ Below w1.heap.size w1 wr) (fun i _ => all.length - (RowKit.intOf i).toNat)
    case atStart => exact ⟨0, Nat.zero_le _, rfl, fun j _ h => absurd h (by omega), Below.refl _ _⟩
    case round =>
     obtain ⟨i, hi, rfl, hall, hB2⟩ := hrel
     by_cases hlt : i < all.length
     · obtain ⟨b, off, rfl, hb, hcell⟩ := HC.out (by omega)
       have hcx := (hB2.cell (p := ⟨b, off + i, none⟩) hb).trans (hcell i all[i] (List.getElem?_eq_getElem hlt))
       have hil : (i : Int) < (all.length : Int) := by omega
       have hi9 : i ≤ 16 := by have := HL.out; omega
       obtain ⟨x, hx⟩ : ∃ x, all[i] = x := ⟨_, rfl⟩
       have hmem : x ∈ all := by rw [← hx]; exact List.getElem_mem hlt
       rw [hx] at hcx
       have hO := rOne_any x wr
       have Hi := Lib.hid hlt
       have HALL := Lib.hid hall
       have HX := Lib.hid (show ∀ h : i < all.length, all[i] = x from fun _ => hx)
       have HB2 := Lib.hid hB2
       clear hlt hi hcell hall hx
       cases ho : oneG x with
       | true =>
         rw [ho] at hO
         have HO := Lib.hid ho
         clear ho
         go_wp2_with fail
         go_at_call 22
         refine hO.mono ?_
         rintro e w2 ⟨rfl, hBo⟩
         have HB4 := Lib.hid (HB2.out.trans (hBo.mono HB2.out.size))
         clear hO hcx hB2 hBo
         go_wp2_with fail
         go_roundw
         case rel =>
          refine ⟨i + 1, Hi.out, by go_num, fun j hj hjk => ?_, HB4.out⟩
          by_cases e : j = i
          · subst e; rw [HX.out hj]; exact HO.out
          · exact HALL.out j hj (by omega)
         case measure => have := Hi.out; simp [RowKit.intOf]; omega
       | false =>
         rw [ho] at hO
         have HE := Lib.hid (HBad.out x hmem ho)
         clear ho
         go_wp2_with fail
         go_at_call 22
         refine hO.mono ?_
         rintro e w2 ⟨rfl, hBo⟩
         have HB4 := Lib.hid (below_trans hB (HB2.out.trans (hBo.mono HB2.out.size)))
         clear hO hcx hB2 hBo
         go_wp2_with fail
         go_ret
         exact ⟨by rw [HE.out]; rfl, HB4.out⟩
     · obtain rfl : i = all.length := by omega
       have h3 : ¬ (all.length : Int) < (all.length : Int) := by omega
       have hBt := below_trans hB hB2
       have HON := Lib.hid (show ∀ x ∈ all, oneG x = true from fun x hx => by
        obtain ⟨j, hj, rfl⟩ := List.mem_iff_getElem.1 hx
        exact hall j hj hj)
       have hq := HLe.out wr hBt
       clear hlt hi HC hall
       by_cases hz : 0 < L.length
       · have dz2 : decide (0 < L.length) = true := decide_eq_true hz
         by_cases h5 : z < 5
         · have d5 : decide (z < 5) = true := decide_eq_true h5
           have HE := Lib.hid (HFar.out hz h5)
           clear h5
           go_wp2_with fail
           go_at_call 20
           refine hq.mono ?_
           rintro e w2 ⟨rfl, hBo⟩
           clear hq
           go_wp2_with fail
           go_ret
           exact ⟨by rw [HE.out]; rfl, below_trans hBt hBo⟩
         · have d5 : decide (z < 5) = false := decide_eq_false h5
           have HE := Lib.hid (HOk.out HON.out fun _ => by omega)
           clear h5
           go_wp2_with fail
           go_at_call 20
           refine hq.mono ?_
           rintro e w2 ⟨rfl, hBo⟩
           clear hq
           go_wp2_with fail
           go_ret
           exact ⟨by rw [HE.out]; rfl, below_trans hBt hBo⟩
       · have dz2 : decide (0 < L.length) = false := decide_eq_false hz
         have HE := Lib.hid (HOk.out HON.out fun h => absurd h hz)
         clear hq
         go_wp2_with fail
         go_ret
         exact ⟨by rw [HE.out]; rfl, hBt⟩
  · have hE : chkE L = 200 := if_neg fun h => by
      unfold chkB at h
      rw [decide_eq_false h8] at h
      cases h
    rw [hE]
    obtain ⟨A, c, rfl⟩ := h0.len
    have d8 : decide ((8 : Int) < (L.length : Int)) = true := decide_eq_true (by omega)
    clear h8 h0 hE
    go_enter Tryd.func18, Tryd.ntmps18
    go_wp2_with fail
    go_ret
    exact ⟨rfl, Below.refl _ _⟩
end Go.Proofs.YtcngnjkpnmpcpaaDoor
