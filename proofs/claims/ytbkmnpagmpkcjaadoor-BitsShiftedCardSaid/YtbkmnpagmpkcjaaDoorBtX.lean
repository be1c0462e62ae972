/- Plain facts on fields, and the walk of BitsBack. -/
import Derived.Test.YtbkmnpagmpkcjaaDoorBtT
namespace Go.Proofs.YtbkmnpagmpkcjaaDoor
open Go.RowKit Go.Shelf
attribute [local go_sem] Oper.semAt_some

theorem Sl.cell_ {α : Type} {enc : α → Value} {B : Nat} {W : World} {A : Option Addr} {len cap : Nat} {xs : List α} (h : Sl enc B W (.slice A len cap) xs) {j : Nat} {x : α} (hx : xs[j]? = some x) :
    ∃ b off, A = some ⟨b, off, none⟩ ∧ b < B ∧ W.cell? ⟨b, off + j, none⟩ = some (enc x) := by
  obtain ⟨A', c', e, _, hcells⟩ := h
  cases e
  have hj := (List.getElem?_eq_some_iff.1 hx).1
  obtain ⟨b, off, e, hb, hcell⟩ := hcells (by omega)
  exact ⟨b, off, e, hb, hcell j x hx⟩
theorem Sl.cell2 {α : Type} {enc : α → Value} {B : Nat} {W : World} {A : Option Addr} {len cap : Nat} {xs : List α} (h : Sl enc B W (.slice A len cap) xs) (hn : 0 < xs.length) :
    ∃ b off, A = some ⟨b, off, none⟩ ∧ ∀ j x, xs[j]? = some x → W.cell? ⟨b, off + j, none⟩ = some (enc x) := by
  obtain ⟨A', c', e, _, hcells⟩ := h
  cases e
  obtain ⟨b, off, e, hb, hcell⟩ := hcells hn
  exact ⟨b, off, e, hcell⟩
theorem fieldOf_get (b : List UInt8) (i : Nat) (h : i < b.length) : (fieldOf b)[i]'(by rw [fieldOf_length]; exact h) = clsOf i b[i].toNat := by simp [fieldOf]
theorem clsOf_bit (i : Nat) (c : UInt8) (h : c.toNat ≤ 1) : (c = 0 ∧ clsOf i c.toNat = clsOf i 0) ∨ (c = 1 ∧ clsOf i c.toNat = clsOf i 1) := by
  rcases (show c.toNat = 0 ∨ c.toNat = 1 by omega) with h | h
  · exact .inl ⟨UInt8.toNat_inj.1 h, by rw [h]⟩
  · exact .inr ⟨UInt8.toNat_inj.1 h, by rw [h]⟩
theorem clsOf_letter (i k : Nat) : IsLetter (clsOf i k) := by
  unfold clsOf IsLetter
  split <;> split <;> simp
theorem field_letters (b : List UInt8) : ∀ c ∈ fieldOf b, IsLetter c := by
  intro c hc
  obtain ⟨y, _, rfl⟩ := List.mem_map.1 hc
  exact clsOf_letter _ _
theorem field_at (b : List UInt8) (hb : ∀ c ∈ b, c.toNat ≤ 1) : ∀ y ∈ (fieldOf b).zipIdx, LetterAt y := by
  intro y hy
  obtain ⟨i, hi, rfl⟩ := List.mem_iff_getElem.1 hy
  rw [List.length_zipIdx, fieldOf_length] at hi
  simp only [List.getElem_zipIdx, Nat.zero_add, LetterAt]
  rw [fieldOf_get b i hi]
  rcases clsOf_bit i b[i] (hb _ (List.getElem_mem hi)) with ⟨_, e⟩ | ⟨_, e⟩
  · exact .inl e
  · exact .inr e
theorem back_field (b : List UInt8) (hb : ∀ c ∈ b, c.toNat ≤ 1) : (fieldOf b).zipIdx.map bitB = b := by
  apply List.ext_getElem
  · simp [fieldOf_length]
  · intro i h1 h2
    simp only [List.getElem_map, List.getElem_zipIdx, Nat.zero_add, bitB]
    rw [fieldOf_get b i h2]
    rcases clsOf_bit i b[i] (hb _ (List.getElem_mem h2)) with ⟨e0, e⟩ | ⟨e0, e⟩
    · rw [if_pos e, e0]
    · rw [if_neg (by rw [e]; exact (clsOf_ne i).symm), e0]
theorem field_apart (b : List UInt8) (i : Nat) (h : i + 1 < b.length) : (fieldOf b)[i + 1]'(by rw [fieldOf_length]; exact h) ≠ (fieldOf b)[i]'(by rw [fieldOf_length]; omega) := by
  rw [fieldOf_get b (i + 1) h, fieldOf_get b i (by omega)]
  unfold clsOf
  rcases Nat.mod_two_eq_zero_or_one i with e | e
  · rw [show (i + 1) % 2 = 1 by omega, e]
    repeat' split
    all_goals first | decide | (exfalso; omega)
  · rw [show (i + 1) % 2 = 0 by omega, e]
    repeat' split
    all_goals first | decide | (exfalso; omega)
theorem clsOf_strong (i k : Nat) : (clsOf i k == 67 || clsOf i k == 71) = decide (i % 2 = 1) := by
  unfold clsOf
  rcases Nat.mod_two_eq_zero_or_one i with e | e
  · rw [if_pos e, e]
    split <;> decide
  · rw [if_neg (by omega), e]
    split <;> decide
theorem gc_field (b : List UInt8) : gcOf (fieldOf b) = b.length / 2 := by
  have h : ∀ k, k ≤ b.length → gcOf ((fieldOf b).take k) = k / 2 := by
    intro k
    induction k with
    | zero => intro _; simp [gcOf]
    | succ k ih =>
      intro hk
      rw [gcOf_snoc _ k (by rw [fieldOf_length]; exact hk), ih (by omega), fieldOf_get b k hk, clsOf_strong]
      simp only [decide_eq_true_eq]
      split <;> omega
  have := h b.length (Nat.le_refl _)
  rwa [List.take_of_length_le (by rw [fieldOf_length]; exact Nat.le_refl _)] at this

theorem Gc_is (sv : Value) (bs : List UInt8) (hreach : bs.length ≤ 140737488351232) (r : Int) (hr : (gcOf bs : Int) = r) (B : Nat) (w : World) (hS : Sl eB B w sv bs) :
    Calls Tryd.prog 13 #[sv] w fun e w' => e = .returned (.int .i64 r) ∧ w = w' := by subst hr; exact Gc_any sv bs hreach B w hS

set_option maxRecDepth 100000 in
set_option maxHeartbeats 2000000 in
theorem BitsBack_any (sl : Value) (l : List Int) (w : World) (hl : Sl eI w.heap.size w sl l) (hT : Tab w) :
    Calls Tryd.prog 3 #[sl] w fun e w' => e = .returned (.bool true) ∧ Below w.heap.size w w' := by
  obtain ⟨Al, cl, rfl⟩ := hl.len
  by_cases h1 : 200 < l.length
  · have hd : decide ((200 : Int) < l.length) = true := decide_eq_true (by omega)
    go_enter Tryd.func3, Tryd.ntmps3
    go_wp2_with (go_at_call 7; refine (wakes_any _ hT).mono ?_; rintro e w1 ⟨rfl, hB1⟩)
    go_ret
    exact ⟨rfl, hB1⟩
  have hd1 : decide ((200 : Int) < l.length) = false := decide_eq_false (by omega)
  have hbits := Lib.hid (bitRow_bits l)
  have hlb : (bitRow l).length ≤ 200 := by rw [bitRow_length]; omega
  go_enter Tryd.func3, Tryd.ntmps3
  go_wp2_with fail
  go_at_call 8
  refine (row_any _ l (by omega) _ hl).mono ?_
  rintro e w1 ⟨vb, rfl, hvb, hB1⟩
  have hT1 := hT.below hB1
  clear hl hT
  generalize bitRow l = b at *
  obtain ⟨Ab, cb, rfl⟩ := hvb.len
  go_wp2_with fail
  go_at_call 9
  refine (Field_any _ b (by omega) _ hvb hT1).mono ?_
  rintro e w2 ⟨vs, hB2, hor⟩
  obtain ⟨rfl, -, hvs⟩ := hor.resolve_right (fun h => h.2 hbits.out)
  clear hor
  have hb2 := hvb.next hB2
  have hT2 := hT1.below hB2
  have hBw2 := below_trans hB1 hB2
  obtain ⟨As, cs, es⟩ := hvs.len
  rw [fieldOf_length] at es
  subst es
  clear hvb hT1 hB1 hB2
  go_wp2_with fail
  go_at_call 10
  refine (Back_any _ (fieldOf b) (by rw [fieldOf_length]; omega) _ hvs hT2).mono ?_
  rintro e w3 ⟨vc, hB3, hor⟩
  obtain ⟨rfl, -, hvc⟩ := hor.resolve_right (fun h => h.2 (field_at b hbits.out))
  clear hor
  rw [back_field b hbits.out] at hvc
  have hb3 := hb2.next hB3
  have hs3 := hvs.next hB3
  have hT3 := hT2.below hB3
  have hBw3 := below_trans hBw2 hB3
  clear hb2 hvs hT2 hBw2 hB3
  go_wp2_with fail
  go_at_call 11
  refine (same_is _ _ b b true (by simp) _ _ hvc hb3).mono ?_
  rintro e w' ⟨rfl, rfl⟩
  go_wp2_with fail
  go_at_call 12
  refine (refValid_yes _ (fieldOf b) (by rw [fieldOf_length]; omega) (field_letters b) _ _ hs3).mono ?_
  rintro e w' ⟨rfl, rfl⟩
  clear hvc hb3
  go_wp2_with fail
  go_loopw [8] (fun i wr => ∃ k : Nat, (k + 1 ≤ b.length ∨ k = 0) ∧ i = .int .i64 (k + 1 : Nat) ∧ Below w3.heap.size w3 wr) (fun i _ => b.length - (intOf i).toNat)
  case atStart => exact ⟨0, .inr rfl, rfl, Below.refl _ _⟩
  case round =>
    obtain ⟨k, hk, rfl, hBr⟩ := hrel
    have hs4 := hs3.next hBr
    have hT4 := hT3.below hBr
    have hBw4 := below_trans hBw3 hBr
    by_cases hlt : k + 1 < b.length
    · have hfl := fieldOf_length b
      obtain ⟨bk, off, rfl, hc⟩ := hs4.cell2 (by omega)
      have c1 := hc (k + 1) ((fieldOf b)[k + 1]'(by omega)) (by rw [List.getElem?_eq_getElem])
      have c2 := hc k ((fieldOf b)[k]'(by omega)) (by rw [List.getElem?_eq_getElem])
      have e1 : IntKind.i64.wrap (((k + 1 : Nat) : Int) - 1) = (k : Int) := by rw [IntWalk.i64_in _ (by omega)]; omega
      have hne := u8_beq_false (field_apart b k hlt)
      have l1 : ((k + 1 : Nat) : Int) < b.length := by omega
      have l2 : (k : Int) < b.length := by omega
      have l3 : (0 : Int) ≤ ((k + 1 : Nat) : Int) := by omega
      generalize (fieldOf b)[k + 1]'(by omega) = x at *
      generalize (fieldOf b)[k]'(by omega) = y at *
      clear hc hs4 hs3 hfl hk
      go_wp2_with fail
      go_quiet (fail)
      go_wp2
      go_roundw
      case rel => exact ⟨k + 1, .inl (by omega), by go_num, hBr.trans (below_drewN _ _)⟩
      case measure => simp [intOf]; omega
    · have hex : decide (((k + 1 : Nat) : Int) < b.length) = false := decide_eq_false (by omega)
      have hdv : ((b.length : Int).tdiv 2) = ((b.length / 2 : Nat) : Int) := by rw [Int.tdiv_eq_ediv_of_nonneg (by omega)]; omega
      go_wp2_with fail
      go_at_call 13
      refine (Gc_is _ (fieldOf b) (by rw [fieldOf_length]; omega) ((b.length / 2 : Nat) : Int) (by rw [gc_field]) _ _ hs4).mono ?_
      rintro e w' ⟨rfl, rfl⟩
      go_wp2_with (go_at_call 7; refine (wakes_any _ hT4).mono ?_; rintro e wz ⟨rfl, hBz⟩)
      go_ret
      exact ⟨rfl, below_trans hBw4 hBz⟩
end Go.Proofs.YtbkmnpagmpkcjaaDoor
