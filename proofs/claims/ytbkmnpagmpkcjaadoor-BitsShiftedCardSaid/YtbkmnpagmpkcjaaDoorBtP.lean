/- The walk of BitsShifted. -/
import Derived.Test.YtbkmnpagmpkcjaaDoorBtX
import Derived.Deep.RegionLaw
import Derived.Deep.CutRange
namespace Go.Proofs.YtbkmnpagmpkcjaaDoor
open Go.RowKit Go.Shelf
attribute [local go_sem] Oper.semAt_some

theorem step_append_sl {α : Type} {enc : α → Value} {P : Program} (w : World) {ops : Array Oper} {o : Oper} {a : Act} {K : Act → World → Prop} {Q : Exit → Act → World → Prop} {E : Prop} (hgd : o.guard = none) (s x : Operand) (t : TypeId)
    (ho : o.op = .call { callee := .builtin .append, args := #[s, x], argTypes := #[t, t] })
    (base : Nat) (e : TypeId) (i : TypeInfo) (z : Value) (bytes : Nat) (ht : P.underlying t = some (.slice e)) (hi : P.info? e = some i) (hz : i.zero = some z)
    (hsize : i.size = 1) (hby : i.bytes = bytes) (hzs : z.cells.size = 1) (v : Value) (n : Nat) (ys : List Value) (hown : w.ownsRow base e 1 v n ys) (hv : a.eval s = v)
    (B : Nat) (sv : Value) (xs : List α) (hs : Sl enc B w sv xs) (hx : a.eval x = sv) (h1 : ∀ x, (enc x).oneCell' = true)
    (h63 : n + xs.length ≤ maxLen) (hbytes : (n + xs.length) * bytes ≤ 140737488355328) (hbase : base ≤ w.heap.size)
    (h : ∀ v' w', w'.ownsRow base e 1 v' (n + xs.length) (ys ++ xs.map enc) → w.grownBy w' v.ownBlock → (v'.ownBlock = v.ownBlock ∨ v'.ownBlock = some w.heap.size) → K (a.put o.dst v') w') :
    if Region.wanted o (yielded ops a.tmps) = true then Oper.wp P o a w K Q else E := by
  have hw : Region.wanted o (yielded ops a.tmps) = true := by simp [Region.wanted, hgd]
  rw [if_pos hw]
  obtain ⟨v', w', hrun, r1, r2, r3⟩ := run_append_sl (P := P) w base t o.type e i z bytes ht hi hz hsize hby hzs v n ys hown B sv xs hs h1 h63 hbytes hbase
  unfold Oper.wp execOp
  simp only [ho, resolve, invoke, builtin, Sem.run_bind, Sem.run_pure, Result.andThen_ok, List.map_toArray, List.map_cons, List.map_nil, hv, hx, hrun]
  exact h v' w' r1 r2 r3

theorem place2_ex (at_ : Int) (n : Nat) (h2 : 2 ≤ n) (hn : n ≤ 9000000000000000) : ∃ p : Nat, p + 1 < n ∧ (wrap64 (wrap64 (at_.tmod (wrap64 ((n : Int) - 1)) + n) - 1)).tmod (wrap64 ((n : Int) - 1)) = p := by
  rw [IntWalk.wrap64_in ((n : Int) - 1) (by omega)]
  have h1 : at_.tmod ((n : Int) - 1) < (n : Int) - 1 := Int.tmod_lt_of_pos _ (by omega)
  have h2 : -((n : Int) - 1) < at_.tmod ((n : Int) - 1) := Int.lt_tmod_of_pos _ (by omega)
  generalize at_.tmod ((n : Int) - 1) = t at *
  rw [IntWalk.wrap64_in (t + n) (by omega), IntWalk.wrap64_in (t + n - 1) (by omega), Int.tmod_eq_emod_of_nonneg (by omega)]
  have h3 := Int.emod_nonneg (t + n - 1) (b := (n : Int) - 1) (by omega)
  have h4 := Int.emod_lt_of_pos (t + n - 1) (b := (n : Int) - 1) (by omega)
  exact ⟨((t + n - 1) % ((n : Int) - 1)).toNat, by omega, by omega⟩

/-- The letter of a number. -/
def letterN (n : Int) : UInt8 := if n % 4 = 0 then 65 else if n % 4 = 1 then 67 else if n % 4 = 2 then 71 else 84
theorem run_acgt (n : Int) (w : World) : (Instr.index 9 (.string ⟨#[65, 67, 71, 84]⟩) (.int .i64 (n % 4))).run Tryd.prog w = .ok (eB (letterN n)) w := by
  have hn : n % 4 = 0 ∨ n % 4 = 1 ∨ n % 4 = 2 ∨ n % 4 = 3 := by omega
  rcases hn with e | e | e | e
  · have k : (Instr.index 9 (.string ⟨#[65, 67, 71, 84]⟩) (.int .i64 0)).run Tryd.prog w = .ok (.int .u8 65) w := by kernel_rfl
    rw [e, show letterN n = 65 by simp [letterN, e]]
    exact k
  · have k : (Instr.index 9 (.string ⟨#[65, 67, 71, 84]⟩) (.int .i64 1)).run Tryd.prog w = .ok (.int .u8 67) w := by kernel_rfl
    rw [e, show letterN n = 67 by simp [letterN, e]]
    exact k
  · have k : (Instr.index 9 (.string ⟨#[65, 67, 71, 84]⟩) (.int .i64 2)).run Tryd.prog w = .ok (.int .u8 71) w := by kernel_rfl
    rw [e, show letterN n = 71 by simp [letterN, e]]
    exact k
  · have k : (Instr.index 9 (.string ⟨#[65, 67, 71, 84]⟩) (.int .i64 3)).run Tryd.prog w = .ok (.int .u8 84) w := by kernel_rfl
    rw [e, show letterN n = 84 by simp [letterN, e]]
    exact k
theorem one_sl (w : World) (g : Nat) (c : UInt8) (h : w.cell? ⟨g, 0, none⟩ = some (eB c)) : Sl eB w.heap.size w (.slice (some ⟨g, 0, none⟩) 1 1) [c] :=
  ⟨_, 1, rfl, Nat.le_refl _, fun _ => ⟨g, 0, rfl, World.block_lt_of_cell? w _ h, fun j x hx => by
    rcases j with _ | j
    · simp at hx; subst hx; exact h
    · simp at hx⟩⟩

theorem row_made (w : World) : (w.alloc (.cells #[] 5)).ownsRow w.heap.size 5 1 (.slice (some ⟨w.heap.size, 0, none⟩) 0 0) 0 [] :=
  World.ownsRow_made w #[] 0 (Nat.le_refl _) (by unfold maxLen; omega) rfl

theorem cls_apart (i a b : Nat) : clsOf (i + 1) a ≠ clsOf i b := by
  unfold clsOf
  rcases Nat.mod_two_eq_zero_or_one i with e | e
  · rw [show (i + 1) % 2 = 1 by omega, e]
    repeat' split
    all_goals first | decide | (exfalso; omega)
  · rw [show (i + 1) % 2 = 0 by omega, e]
    repeat' split
    all_goals first | decide | (exfalso; omega)
theorem not_field (bad : List UInt8) (i : Nat) (c : UInt8) (h : bad[i]? = some c) (hc : ∀ k, c ≠ clsOf i k) : ¬ ∀ y ∈ bad.zipIdx, LetterAt y := by
  intro hall
  have hm : (c, i) ∈ bad.zipIdx := by
    rw [List.mem_zipIdx_iff_getElem?]
    exact h
  rcases hall _ hm with h | h
  · exact hc 0 h
  · exact hc 1 h
theorem gap_no (b : List UInt8) (p : Nat) (hp : p + 1 < b.length) : ¬ ∀ y ∈ ((fieldOf b).take p ++ (fieldOf b).drop (p + 1)).zipIdx, LetterAt y := by
  have hl := fieldOf_length b
  refine not_field _ p (clsOf (p + 1) (b[p + 1]'hp).toNat) ?_ (fun k => cls_apart p _ k)
  rw [List.getElem?_append_right (by simp; omega), List.length_take, Nat.min_eq_left (by omega), Nat.sub_self, List.getElem?_drop]
  show (fieldOf b)[p + 1]? = _
  rw [List.getElem?_eq_getElem (by omega), fieldOf_get b (p + 1) hp]
theorem more_no (b : List UInt8) (p : Nat) (c : UInt8) (hp : p + 1 < b.length) : ¬ ∀ y ∈ ((fieldOf b).take p ++ [c] ++ (fieldOf b).drop p).zipIdx, LetterAt y := by
  have hl := fieldOf_length b
  refine not_field _ (p + 1) (clsOf p (b[p]'(by omega)).toNat) ?_ (fun k => (cls_apart p k _).symm)
  rw [List.getElem?_append_right (by simp; omega), List.length_append, List.length_take, Nat.min_eq_left (by omega), List.length_singleton, Nat.sub_self, List.getElem?_drop]
  show (fieldOf b)[p]? = _
  rw [List.getElem?_eq_getElem (by omega), fieldOf_get b p (by omega)]

set_option maxRecDepth 100000 in
set_option maxHeartbeats 4000000 in
theorem BitsShifted_any (sl : Value) (l : List Int) (at_ by_ : Int) (w : World) (hl : Sl eI w.heap.size w sl l) (hT : Tab w) :
    Calls Tryd.prog 4 #[sl, .int .i64 at_, .int .i64 by_] w fun e w' => e = .returned (.bool true) ∧ Below w.heap.size w w' := by
  obtain ⟨Al, cl, rfl⟩ := hl.len
  by_cases h1 : 200 < l.length ∨ l.length < 2
  · have hd : decide ((200 : Int) < l.length) = true ∨ (decide ((200 : Int) < l.length) = false ∧ decide ((l.length : Int) < 2) = true) := by
      rcases Nat.lt_or_ge 200 l.length with h | h
      · exact .inl (decide_eq_true (by omega))
      · exact .inr ⟨decide_eq_false (by omega), decide_eq_true (by omega)⟩
    clear h1
    rcases hd with hd | ⟨hd, hd2⟩
    · go_enter Tryd.func4, Tryd.ntmps4
      go_wp2_with (go_at_call 7; refine (wakes_any _ hT).mono ?_; rintro e w1 ⟨rfl, hB1⟩)
      go_ret
      exact ⟨rfl, hB1⟩
    · go_enter Tryd.func4, Tryd.ntmps4
      go_wp2_with (go_at_call 7; refine (wakes_any _ hT).mono ?_; rintro e w1 ⟨rfl, hB1⟩)
      go_ret
      exact ⟨rfl, hB1⟩
  have hd1 : decide ((200 : Int) < l.length) = false := decide_eq_false (by omega)
  have hd2 : decide ((l.length : Int) < 2) = false := decide_eq_false (by omega)
  have hbits := Lib.hid (bitRow_bits l)
  have hlb := Lib.hid (show 2 ≤ (bitRow l).length ∧ (bitRow l).length ≤ 200 by rw [bitRow_length]; omega)
  have hll := Lib.hid (bitRow_length l)
  clear h1
  go_enter Tryd.func4, Tryd.ntmps4
  go_wp2_with fail
  go_at_call 8
  refine (row_any _ l (by have := hlb.out; have := hll.out; omega) _ hl).mono ?_
  rintro e w1 ⟨vb, rfl, hvb, hB1⟩
  have hT1 := hT.below hB1
  clear hl hT
  generalize bitRow l = b at *
  obtain ⟨Ab, cb, rfl⟩ := hvb.len
  go_wp2_with fail
  go_at_call 9
  refine (Field_any _ b (by have := hlb.out; omega) _ hvb hT1).mono ?_
  rintro e w2 ⟨vs, hB2, hor⟩
  obtain ⟨rfl, -, hvs⟩ := hor.resolve_right (fun h => h.2 hbits.out)
  clear hor
  have hT2 := hT1.below hB2
  have hBw2 := below_trans hB1 hB2
  have hfl := Lib.hid (fieldOf_length b)
  have hgn := fun p hp => gap_no b p hp
  have hmn := fun p c hp => more_no b p c hp
  generalize fieldOf b = s at *
  obtain ⟨As, cs, es⟩ := hvs.len
  rw [hfl.out, hll.out] at es
  subst es
  clear hvb hT1 hB1 hB2
  obtain ⟨p, hp, hpe⟩ := place2_ex at_ l.length (by have := hlb.out; have := hll.out; omega) (by have := hlb.out; have := hll.out; omega)
  have Hpe := Lib.hid hpe
  have hz : ¬ wrap64 ((l.length : Int) - 1) = 0 := by
    have := hlb.out; have := hll.out
    rw [IntWalk.wrap64_in _ (by omega)]; omega
  clear hpe
  go_upto_region 7 with fail
  rw [Hpe.out]
  have hcs : l.length ≤ cs := by
    obtain ⟨_, _, e, hc, _⟩ := hvs
    injection e with e1 e2 e3
    subst e3
    rwa [hfl.out, hll.out] at hc
  obtain ⟨i0, hi, hz0, hz1, hz2⟩ := info_parts info_u8
  have hp' := Lib.hid (show p + 1 < s.length by rw [hfl.out, hll.out]; exact hp)
  have hs200 := Lib.hid (show s.length ≤ 200 by rw [hfl.out]; exact hlb.out.2)
  go_cut [9] from 52 to 61 (fun z wx => Sl eB wx.heap.size wx z (s.take p ++ s.drop (p + 1)) ∧ Below w2.heap.size w2 wx)
  case first =>
    have hrow := row_made w2
    have hcp : ¬ cs = p + 1 := by omega
    have hl200 : l.length ≤ 200 := by have := hlb.out; have := hll.out; omega
    have l0 : (0 : Int) ≤ (p : Int) + 1 := by clear hz Hpe; omega
    have e1 : IntKind.i64.wrap ((p : Int) + 1) = ((p + 1 : Nat) : Int) := by rw [IntWalk.i64_in _ (by omega)]; omega
    have l1 : (p : Int) ≤ l.length := by omega
    have l2 : (p : Int) + 1 ≤ l.length := by clear hz Hpe; omega
    have l3 : ((p + 1 : Nat) : Int) ≤ l.length := by omega
    have l4 : (p : Int) ≤ cs := by omega
    have hB1 : Below w2.heap.size w2 (w2.alloc (.cells #[] 5)) := (Below.refl _ _).alloc (Nat.le_refl _) _
    have s1 := hvs.upto (p := p) (by have := hp'.out; omega)
    obtain ⟨bk, off, rfl, _⟩ := hvs.cell2 (by have := hp'.out; omega)
    have s2 := hvs.from_ (p := p + 1) (by have := hp'.out; omega) (some ⟨bk, off + (p + 1), none⟩) (fun _ => by simp [Addr.add])
    have hrow' : (w2.alloc (.cells #[] 5)).drew.ownsRow w2.heap.size 5 1 (.slice (some ⟨w2.heap.size, 0, none⟩) 0 0) 0 [] := hrow
    have hB1' : Below w2.heap.size w2 (w2.alloc (.cells #[] 5)).drew := hB1.drew
    have q1 : 0 + (s.take p).length ≤ maxLen := by have := hs200.out; unfold maxLen; simp; omega
    have q2 : (0 + (s.take p).length) * 1 ≤ 140737488355328 := by have := hs200.out; simp; omega
    have q3 : 0 + (s.take p).length + (s.drop (p + 1)).length ≤ maxLen := by have := hs200.out; unfold maxLen; simp; omega
    have q4 : (0 + (s.take p).length + (s.drop (p + 1)).length) * 1 ≤ 140737488355328 := by have := hs200.out; simp; omega
    have q5 : w2.heap.size ≤ (w2.alloc (.cells #[] 5)).drew.heap.size := hB1'.size
    go_region_law (first
      | (refine step_append_sl _ rfl (.tmp 52) (.tmp 55) _ rfl w2.heap.size 5 i0 (.int .u8 0) 1 Tryd.underlying24 hi hz0 hz1 hz2 rfl _ 0 [] hrow' rfl w2.heap.size _ (s.take p) (s1.below hB1') rfl (fun _ => rfl) q1 q2 q5 ?_
         intro v1 w3 hown1 hg1 hat1
         have hB2 : Below w2.heap.size w2 w3 := hB1'.trans (below_grown hrow' hg1 q5 (Nat.le_refl _)))
      | (refine step_append_sl _ rfl (.tmp 56) (.tmp 60) _ rfl w2.heap.size 5 i0 (.int .u8 0) 1 Tryd.underlying24 hi hz0 hz1 hz2 rfl _ _ _ hown1 rfl w2.heap.size _ (s.drop (p + 1)) (s2.below hB2) rfl (fun _ => rfl) q3 q4 hB2.size ?_
         intro v2 w4 hown2 hg2 hat2))
    all_goals
      go_wp2_with fail
      go_meet
      exact ⟨Sl.of_own (n := 0 + (s.take p).length + (s.drop (p + 1)).length) (by simpa using hown2), hB2.trans (below_grown hown1 hg2 hB2.size (Nat.le_refl _))⟩
  case rest =>
    obtain ⟨hgap, hBc⟩ := hcut
    have hvs3 := hvs.next hBc
    have hTc := hT2.below hBc
    have hBwc := below_trans hBw2 hBc
    clear hvs hT2 hBw2 hBc
    go_upto_region 8 with fail
    have hb3 := bits_and3 by_
    have hidx := fun w => run_acgt by_ w
    generalize letterN by_ = c at *
    go_cut [10] from 62 to 75 (fun z wx => Sl eB wx.heap.size wx z (s.take p ++ [c] ++ s.drop p) ∧ Below wc.heap.size wc wx)
    case first =>
      have hl200 : l.length ≤ 200 := by have := hlb.out; have := hll.out; omega
      have hcp : ¬ cs = p := by omega
      have l1 : (p : Int) ≤ l.length := by omega
      have l4 : (p : Int) ≤ cs := by omega
      have m1 : 0 ≤ by_ % 4 := by omega
      have m2 : by_ % 4 < 4 := by omega
      have s1 := hvs3.upto (p := p) (by have := hp'.out; omega)
      obtain ⟨bk, off, rfl, _⟩ := hvs3.cell2 (by have := hp'.out; omega)
      have s2 := hvs3.from_ (p := p) (by have := hp'.out; omega) (some ⟨bk, off + p, none⟩) (fun _ => by simp [Addr.add])
      have q1 : 0 + (s.take p).length ≤ maxLen := by have := hs200.out; unfold maxLen; simp; omega
      have q2 : (0 + (s.take p).length) * 1 ≤ 140737488355328 := by have := hs200.out; simp; omega
      have q3 : 0 + (s.take p).length + [c].length ≤ maxLen := by have := hs200.out; unfold maxLen; simp; omega
      have q4 : (0 + (s.take p).length + [c].length) * 1 ≤ 140737488355328 := by have := hs200.out; simp; omega
      have q5 : 0 + (s.take p).length + [c].length + (s.drop p).length ≤ maxLen := by have := hs200.out; unfold maxLen; simp; omega
      have q6 : (0 + (s.take p).length + [c].length + (s.drop p).length) * 1 ≤ 140737488355328 := by have := hs200.out; simp; omega
      have w1 : Below wc.heap.size wc (wc.alloc (.cells #[] 5)).drew := ((Below.refl _ _).alloc (Nat.le_refl _) _).drew
      have w2_ : Below wc.heap.size wc ((wc.alloc (.cells #[] 5)).alloc (.cells #[eB c] 5)).drew := (((Below.refl _ _).alloc (Nat.le_refl _) _).alloc (by simp) _).drew
      have w3_ : Below wc.heap.size wc ((wc.alloc (.cells #[eB c] 5)).alloc (.cells #[] 5)).drew := (((Below.refl _ _).alloc (Nat.le_refl _) _).alloc (by simp) _).drew
      have r1 : (wc.alloc (.cells #[] 5)).drew.ownsRow wc.heap.size 5 1 (.slice (some ⟨wc.heap.size, 0, none⟩) 0 0) 0 [] := row_made wc
      have r2 : ((wc.alloc (.cells #[] 5)).alloc (.cells #[eB c] 5)).drew.ownsRow wc.heap.size 5 1 (.slice (some ⟨wc.heap.size, 0, none⟩) 0 0) 0 [] := (row_made wc).alloc _
      have r3 : ((wc.alloc (.cells #[eB c] 5)).alloc (.cells #[] 5)).drew.ownsRow wc.heap.size 5 1 (.slice (some ⟨wc.heap.size + 1, 0, none⟩) 0 0) 0 [] := by
        have := World.ownsRow_made (base := wc.heap.size) (e := 5) (size := 1) (wc.alloc (.cells #[eB c] 5)) #[] 0 (by simp) (by unfold maxLen; omega) rfl
        rw [World.size_alloc] at this
        exact this
      have k2 : ((wc.alloc (.cells #[] 5)).alloc (.cells #[eB c] 5)).drew.cell? ⟨wc.heap.size + 1, 0, none⟩ = some (eB c) := by
        have := cell_one_new (wc.alloc (.cells #[] 5)) (eB c) 5 0 (eB c) rfl
        rw [World.size_alloc] at this
        exact this
      have k3 : ((wc.alloc (.cells #[eB c] 5)).alloc (.cells #[] 5)).drew.cell? ⟨wc.heap.size, 0, none⟩ = some (eB c) := by
        have h0 := cell_one_new wc (eB c) 5 0 (eB c) rfl
        have h1 : Below (wc.heap.size + 1) (wc.alloc (.cells #[eB c] 5)) ((wc.alloc (.cells #[eB c] 5)).alloc (.cells #[] 5)) := (Below.refl _ _).alloc (by simp) _
        exact (h1.cell (p := ⟨wc.heap.size, 0, none⟩) (by simp)).trans h0
      have n2 : some (wc.heap.size + 1) ≠ (Value.slice (some ⟨wc.heap.size, 0, none⟩) 0 0).ownBlock := by simp [Value.ownBlock]
      have n3 : some wc.heap.size ≠ (Value.slice (some ⟨wc.heap.size + 1, 0, none⟩) 0 0).ownBlock := by simp [Value.ownBlock]
      go_region_law (first
        | (refine step_append_sl _ rfl (.tmp 62) (.tmp 65) _ rfl wc.heap.size 5 i0 (.int .u8 0) 1 Tryd.underlying24 hi hz0 hz1 hz2 rfl _ 0 [] r1 rfl wc.heap.size _ (s.take p) (s1.below w1) rfl (fun _ => rfl) q1 q2 w1.size ?_
           intro v1 w3 hown1 hg1 hat1
           have hB2 : Below wc.heap.size wc w3 := w1.trans (below_grown r1 hg1 w1.size (Nat.le_refl _))
           have hown2 := hown1.alloc (.cells #[eB c] 5)
           have hB3 : Below wc.heap.size wc (w3.alloc (.cells #[eB c] 5)) := hB2.alloc hB2.size _
           have hc1 := Sl.new eB w3 [c] #[eB c] 5 (0, 0) 1 1 rfl (Nat.le_refl _) (by simp))
        | (refine step_append_sl _ rfl (.tmp 62) (.tmp 65) _ rfl wc.heap.size 5 i0 (.int .u8 0) 1 Tryd.underlying24 hi hz0 hz1 hz2 rfl _ 0 [] r3 rfl wc.heap.size _ (s.take p) (s1.below w3_) rfl (fun _ => rfl) q1 q2 w3_.size ?_
           intro v1 w3 hown2 hg1 hat1
           have hB3 : Below wc.heap.size wc w3 := w3_.trans (below_grown r3 hg1 w3_.size (Nat.le_refl _))
           have hc1 := one_sl w3 wc.heap.size c ((World.cell?_of_block (a := ⟨wc.heap.size, 0, none⟩) (hg1.block wc.heap.size (World.block_lt_of_cell? _ _ k3) n3)).trans k3))
        | (refine step_append_sl _ rfl (.tmp 66) (.tmp 70) _ rfl wc.heap.size 5 i0 (.int .u8 0) 1 Tryd.underlying24 hi hz0 hz1 hz2 rfl _ _ _ hown2 rfl _ _ [c] hc1 rfl (fun _ => rfl) q3 q4 hB3.size ?_
           intro v2 w4 hown4 hg4 hat4
           have hB4 : Below wc.heap.size wc w4 := hB3.trans (below_grown hown2 hg4 hB3.size (Nat.le_refl _)))
        | (refine step_append_sl _ rfl (.tmp 71) (.tmp 74) _ rfl wc.heap.size 5 i0 (.int .u8 0) 1 Tryd.underlying24 hi hz0 hz1 hz2 rfl _ _ _ hown4 rfl wc.heap.size _ (s.drop p) (s2.below hB4) rfl (fun _ => rfl) q5 q6 hB4.size ?_
           intro v5 w5 hown5 hg5 hat5
           have hB5 : Below wc.heap.size wc w5 := hB4.trans (below_grown hown4 hg5 hB4.size (Nat.le_refl _)))
        | (refine step_append_sl _ rfl (.tmp 62) (.tmp 65) _ rfl wc.heap.size 5 i0 (.int .u8 0) 1 Tryd.underlying24 hi hz0 hz1 hz2 rfl _ 0 [] r2 rfl wc.heap.size _ (s.take p) (s1.below w2_) rfl (fun _ => rfl) q1 q2 w2_.size ?_
           intro v1 w3 hown2 hg1 hat1
           have hB3 : Below wc.heap.size wc w3 := w2_.trans (below_grown r2 hg1 w2_.size (Nat.le_refl _))
           have hc1 := one_sl w3 (wc.heap.size + 1) c ((World.cell?_of_block (a := ⟨wc.heap.size + 1, 0, none⟩) (hg1.block (wc.heap.size + 1) (World.block_lt_of_cell? _ _ k2) n2)).trans k2)))
      all_goals
        go_wp2_with fail
        go_meet
        exact ⟨Sl.of_own (n := 0 + (s.take p).length + [c].length + (s.drop p).length) (by simpa using hown5), hB5⟩
    case rest =>
      obtain ⟨hmore, hBm⟩ := hcut
      have hgap2 := hgap.next hBm
      have hTm := hTc.below hBm
      have hBwm := below_trans hBwc hBm
      have hgn' := hgn p (by rw [hll.out]; exact hp)
      have hmn' := hmn p c (by rw [hll.out]; exact hp)
      have hg200 : (s.take p ++ s.drop (p + 1)).length ≤ 400 := by have := hs200.out; simp; omega
      have hm200 : (s.take p ++ [c] ++ s.drop p).length ≤ 401 := by have := hs200.out; simp; omega
      clear hgn hmn hvs3 hgap hTc hBwc hBm
      generalize s.take p ++ s.drop (p + 1) = gap at *
      generalize s.take p ++ [c] ++ s.drop p = more at *
      go_wp2_with fail
      go_at_call 10
      refine (Back_any _ gap (by omega) _ hgap2 hTm).mono ?_
      rintro e w5 ⟨v5, hB5, hor⟩
      obtain ⟨rfl, -⟩ := hor.resolve_left (fun h => hgn' h.2.1)
      clear hor
      have hmore5 := hmore.next hB5
      have hT5 := hTm.below hB5
      have hBw5 := below_trans hBwm hB5
      clear hmore hTm hBwm hB5 hgap2
      go_wp2_with fail
      go_at_call 10
      refine (Back_any _ more (by omega) _ hmore5 hT5).mono ?_
      rintro e w6 ⟨v6, hB6, hor⟩
      obtain ⟨rfl, -⟩ := hor.resolve_left (fun h => hmn' h.2.1)
      clear hor
      have hT6 := hT5.below hB6
      have hBw6 := below_trans hBw5 hB6
      go_wp2_with (go_at_call 7; refine (wakes_any _ hT6).mono ?_; rintro e w7 ⟨rfl, hB7⟩)
      go_ret
      exact ⟨rfl, below_trans hBw6 hB7⟩
end Go.Proofs.YtbkmnpagmpkcjaaDoor
