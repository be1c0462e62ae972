/- Contracts of slices.Reverse, of bytes, on a row of its own; of poly.Roots, whose row is its own. -/
import Derived.Test.YtkldapdebjlfmaaRsD
import Derived.Test.YtkldapdebjlfmaaRdr
import Derived.RegionTactic
import Derived.BigRegion
namespace Go.Proofs.Ytkldapdebjlfmaa
open Go.RowKit Go.Shelf
attribute [local go_sem] Oper.semAt_some run_store_func

/-- A row, of which i on each side have been exchanged. -/
def rv (bs : List UInt8) (i j : Nat) : UInt8 := if j < i ∨ bs.length - 1 - i < j then C bs (bs.length - 1 - j) else C bs j
theorem rv_end (bs : List UInt8) (i j : Nat) (hj : j < bs.length) (h : bs.length ≤ 2 * i + 1) : rv bs i j = C bs (bs.length - 1 - j) := by
  unfold rv
  split
  · rfl
  · rw [show bs.length - 1 - j = j by omega]
theorem rv_other (bs : List UInt8) (i j : Nat) (h : 2 * i + 1 < bs.length) (h1 : j ≠ i) (h2 : j ≠ bs.length - 1 - i) : rv bs (i + 1) j = rv bs i j := by
  unfold rv
  by_cases h3 : j < i ∨ bs.length - 1 - i < j
  · rw [if_pos h3, if_pos (by omega)]
  · rw [if_neg h3, if_neg (by omega)]
theorem rv_lo (bs : List UInt8) (i : Nat) (h : 2 * i + 1 < bs.length) : rv bs (i + 1) i = rv bs i (bs.length - 1 - i) := by
  unfold rv
  rw [if_pos (by omega), if_neg (by omega)]
theorem rv_hi (bs : List UInt8) (i : Nat) (h : 2 * i + 1 < bs.length) : rv bs (i + 1) (bs.length - 1 - i) = rv bs i i := by
  unfold rv
  rw [if_pos (by omega), if_neg (by omega), show bs.length - 1 - (bs.length - 1 - i) = i by omega]

set_option maxRecDepth 100000 in
set_option maxHeartbeats 4000000 in
theorem Reverse_own (v : Value) (bs : List UInt8) (hreach : bs.length ≤ 100000) (B : Nat) (w : World) (hB : B ≤ w.heap.size) (hO : Own8 B w v bs) :
    Calls Try.prog 47 #[v] w fun e w' => e = .returned (.tuple #[]) ∧ Own8 B w' v bs.reverse ∧ Below B w w' ∧ ∀ b t u, t ≠ 5 → Boxed w b t u → Boxed w' b t u := by
  obtain ⟨_, hO⟩ := hO
  rcases hO with ⟨rfl, h0⟩ | ⟨g, cap, cur, rfl, hBg, hg, hnc, hcm, hcs, htake⟩
  · have hbs : bs = [] := List.eq_nil_of_length_eq_zero (by simpa using h0)
    subst hbs
    go_enter Try.func47, Try.ntmps47
    go_wp2_with fail
    refine wp_loop_rounds 1 ?_
    unfold Code.rounds
    go_wp2
    go_end0
    exact ⟨rfl, ⟨rfl, .inl ⟨rfl, rfl⟩⟩, Below.refl _ _, fun _ _ _ _ h => h⟩
  · simp only [Nat.mul_one] at htake hcs
    have hr0 : Rowed w g 5 cur := hg
    have hr00 := hr0
    have hget : ∀ j, j < bs.length → cur[j]? = some (eB (rv bs 0 j)) := by
      intro j hj
      have h1 : (cur.toList.take bs.length)[j]? = (bs.map eB)[j]? := by rw [htake]
      rw [List.getElem?_take_of_lt hj, Array.getElem?_toList] at h1
      rw [h1]
      have h2 : rv bs 0 j = C bs j := by unfold rv; rw [if_neg (by omega)]
      rw [h2, C_get bs j hj]
      simp [hj]
    have hfin : ∀ i cs W, bs.length ≤ 2 * i + 1 → Rowed W g 5 cs → cs.size = cap → (∀ j, j < bs.length → cs[j]? = some (eB (rv bs i j))) → Own8 B W (.slice (some ⟨g, 0, none⟩) bs.length cap) bs.reverse := by
      intro i cs W hi hR hsz hcj
      refine ⟨by simp, .inr ⟨g, cap, cs, by simp, hBg, hR, by simpa using hnc, hcm, by simpa using hsz, ?_⟩⟩
      apply List.ext_getElem?
      intro j
      simp only [List.length_reverse, Nat.mul_one]
      by_cases hj : j < bs.length
      · rw [List.getElem?_take_of_lt hj, Array.getElem?_toList, hcj j hj, rv_end bs i j hj hi, C_get bs _ (by omega)]
        simp [hj]
      · rw [List.getElem?_eq_none (by simp; omega), List.getElem?_eq_none (by simp; omega)]
    have hw1 : IntKind.i64.wrap ((bs.length : Int) - 1) = (bs.length : Int) - 1 := IntWalk.i64_in _ (by omega)
    clear htake hg
    obtain ⟨n, hn⟩ : ∃ n, bs.length = n := ⟨_, rfl⟩
    have lo := fun i h => rv_lo bs i h
    have hi' := fun i h => rv_hi bs i h
    have ot := fun i j h => rv_other bs i j h
    obtain ⟨F, hF⟩ : ∃ F : Nat → Nat → UInt8, (fun i j => rv bs i j) = F := ⟨_, rfl⟩
    have hF' : ∀ i j, rv bs i j = F i j := fun i j => congrFun (congrFun hF i) j
    simp only [hF', hn] at lo hi' ot hget hfin hw1 hnc hreach
    rw [hn]
    clear hF hF' hn
    go_enter Try.func47, Try.ntmps47
    go_wp2_with fail
    go_loopw [2, 3] (fun s2 s3 wr => ∃ (i : Nat) (cs : Array Value), 2 * i ≤ n + 1 ∧ s2 = .int .i64 i ∧ s3 = .int .i64 ((n : Int) - 1 - i) ∧ Rowed wr g 5 cs ∧ cs.size = cap ∧ (∀ j, j < n → cs[j]? = some (eB (F i j))) ∧ Keep w.heap.size g w wr) (fun s2 _ _ => n + 1 - (intOf s2).toNat)
    case atStart => exact ⟨0, cur, by omega, rfl, by simp, hr0, hcs, hget, keep_r _ _ _⟩
    case round =>
      clear hr0 hcs hget
      obtain ⟨i, cs, hi2, rfl, rfl, hr, hsz, hget, hk⟩ := hrel
      by_cases hlt : 2 * i + 1 < n
      · obtain ⟨j, hj⟩ : ∃ j, n - 1 - i = j := ⟨_, rfl⟩
        have ej : (n : Int) - 1 - i = (j : Int) := by omega
        rw [ej]
        have hd : decide ((i : Int) < (j : Int)) = true := decide_eq_true (by omega)
        have ci := hr.cell i
        rw [hget i (by omega)] at ci
        have cj := hr.cell j
        rw [hget j (by omega)] at cj
        have fi := hr.frozen i
        have fj := hr.frozen j
        have h1 := lo i hlt
        have h2 := hi' i hlt
        rw [hj] at h1 h2
        have h3 : ∀ k, k ≠ i → k ≠ j → F (i + 1) k = F i k := fun k a b => ot i k hlt a (by rw [hj]; exact b)
        have hin : (i : Int) < (n : Int) := by omega
        have hjn : (j : Int) < (n : Int) := by omega
        have hin' : i < n := by omega
        have hjn' : j < n := by omega
        have hij : i ≠ j := by omega
        have e1 : IntKind.i64.wrap ((i : Int) + 1) = ((i + 1 : Nat) : Int) := by rw [IntWalk.i64_in _ (by omega)]; omega
        have e2 : IntKind.i64.wrap ((j : Int) - 1) = (n : Int) - 1 - ((i + 1 : Nat) : Int) := by rw [IntWalk.i64_in _ (by omega)]; omega
        clear lo hi' ot hfin ej
        obtain ⟨x, hx⟩ : ∃ x : UInt8, F i i = x := ⟨_, rfl⟩
        obtain ⟨y, hy⟩ : ∃ y : UInt8, F i j = y := ⟨_, rfl⟩
        rw [hx] at ci h2
        rw [hy] at cj h1
        have ij' : (i : Int) < (j : Int) := by omega
        go_wp2_with fail
        go_region
        have hr3 : Rowed ((wr.setCell ⟨g, i, none⟩ (.int .u8 (y.toNat : Int))).setCell ⟨g, j, none⟩ (.int .u8 (x.toNat : Int))).drew g 5 ((cs.setIfInBounds i (eB y)).setIfInBounds j (eB x)) := rowed_drew ((hr.set i (eB y)).set j (eB x))
        have hk3 : Keep w.heap.size g w ((wr.setCell ⟨g, i, none⟩ (.int .u8 (y.toNat : Int))).setCell ⟨g, j, none⟩ (.int .u8 (x.toNat : Int))).drew :=
          keep_t (keep_t (keep_t hk (keep_set _ _ _ _ _)) (keep_set _ _ _ _ _)) ⟨⟨rfl, rfl, rfl, Nat.le_refl _⟩, fun _ _ _ => rfl⟩
        generalize ((wr.setCell ⟨g, i, none⟩ (.int .u8 (y.toNat : Int))).setCell ⟨g, j, none⟩ (.int .u8 (x.toNat : Int))).drew = w3 at *
        have hget3 : ∀ k, k < n → ((cs.setIfInBounds i (eB y)).setIfInBounds j (eB x))[k]? = some (eB (F (i + 1) k)) := by
          intro k hkn
          by_cases kj : k = j
          · subst kj; rw [Array.getElem?_setIfInBounds_self_of_lt (by simp; omega), h2]
          · rw [Array.getElem?_setIfInBounds_ne (fun e => kj e.symm)]
            by_cases ki : k = i
            · subst ki; rw [Array.getElem?_setIfInBounds_self_of_lt (by omega), h1]
            · rw [Array.getElem?_setIfInBounds_ne (fun e => ki e.symm), hget k hkn, h3 k ki kj]
        have hsz3 : ((cs.setIfInBounds i (eB y)).setIfInBounds j (eB x)).size = cap := by simpa using hsz
        generalize (cs.setIfInBounds i (eB y)).setIfInBounds j (eB x) = cs3 at *
        clear hr ci cj fi fj hget hsz hk h1 h2 h3 hx hy
        go_wp2
        go_roundw
        case rel => exact ⟨i + 1, cs3, by omega, by go_num, by push_cast; rfl, hr3, hsz3, hget3, hk3⟩
        case measure => simp [intOf]; omega
      · have hd : decide ((i : Int) < (n : Int) - 1 - i) = false := decide_eq_false (by omega)
        have ho := hfin i cs wr (by omega) hr hsz hget
        have hb := below_of_keep hk (Below.refl B w) hB hBg
        have hbx : ∀ b t u, t ≠ 5 → Boxed w b t u → Boxed wr b t u := fun b t u ht h => by
          refine (hk.2 b h.lt (fun e => ?_)).trans h
          subst e
          have h1 : w.heap[b]? = some (.cells #[u] t (0, 0)) := h
          have h2 : w.heap[b]? = some (.cells cur 5 (0, 0)) := hr00
          rw [h1] at h2
          injection h2 with h3
          injection h3 with h4 h5
          exact ht h5
        clear hfin lo hi' ot hget hr hr00
        go_wp2
        go_end0
        exact ⟨rfl, ho, hb, hbx⟩
set_option maxRecDepth 100000 in
set_option maxHeartbeats 400000 in
theorem SClone_any (sv : Value) (a : List UInt8) (hreach : a.length ≤ 140737488355328) (w : World) (ha : Sl eB w.heap.size w sv a) :
    Calls Try.prog 54 #[sv] w fun e w' => ∃ v, e = .returned v ∧ Own8 w.heap.size w' v a ∧ Below w.heap.size w w' := by
  obtain ⟨i0, hi, hz0, hz1, hz2⟩ := info_parts info_u8
  have hrow := row_made w
  have hB1 : Below w.heap.size w (w.alloc (.cells #[] 5)) := (Below.refl _ _).alloc (Nat.le_refl _) _
  obtain ⟨A, c, rfl⟩ := ha.len
  cases A with
  | none =>
    have hx : a = [] := by
      obtain ⟨A, c', e, _, hcells⟩ := ha
      cases e
      cases a with
      | nil => rfl
      | cons x xs => obtain ⟨_, _, h, _⟩ := hcells (by simp); cases h
    subst hx
    have hq : ∀ w, (binOp .eql 22 (.slice none 0 c) (.slice none 0 0)).run Try.prog w = .ok (.bool true) w := fun w => Lib.run_eql_slice_nil w 22 5 none 0 c 0 0 Try.underlying22
    go_enter Try.func54, Try.ntmps54
    go_wp2
    go_ret
    exact ⟨_, rfl, ⟨rfl, .inl ⟨rfl, rfl⟩⟩, Below.refl _ _⟩
  | some ad =>
    have hq : ∀ w, (binOp .eql 22 (.slice (some ad) a.length c) (.slice none 0 0)).run Try.prog w = .ok (.bool false) w := fun w => Lib.run_eql_slice_nil w 22 5 (some ad) a.length c 0 0 Try.underlying22
    go_enter Try.func54, Try.ntmps54
    go_wp2_with
      (at_builtin
       refine wpList_append_sl _ rfl (.tmp 5) (.tmp 6) _ rfl w.heap.size 5 i0 (.int .u8 0) 1 Try.underlying22 hi hz0 hz1 hz2 rfl _ 0 [] hrow rfl w.heap.size (.slice (some ad) a.length c) a (ha.below hB1) rfl (fun _ => rfl) (by unfold maxLen; omega) (by omega) (by simp) ?_
       intro v1 w1 hown1 hg1 hat1
       have hB2 : Below w.heap.size w w1 := hB1.trans (below_grown hrow hg1 (by simp) (Nat.le_refl _)))
    go_ret
    exact ⟨v1, rfl, by simpa [Own8] using hown1, hB2⟩

set_option maxRecDepth 100000 in
set_option maxHeartbeats 1000000 in
theorem Roots_own (lv : Value) (l : List UInt8) (hreach : l.length ≤ 10000) (w : World) (hS : Sl eB w.heap.size w lv l) :
    Calls Try.prog 23 #[lv] w fun e w' => ∃ v, e = .returned v ∧ Own8 w.heap.size w' v (RT l) ∧ Below w.heap.size w w' := by
  obtain ⟨A, cap, rfl, hcap, hcs⟩ := hS
  have hA := below_alloc w (.cells #[.int .u8 1] 5)
  have hq : Own8 w.heap.size (w.alloc (.cells #[.int .u8 1] 5)) (.slice (some ⟨w.heap.size, 0, none⟩) 1 1) (RT []) := ⟨by simp [RT], .inr ⟨w.heap.size, 1, #[.int .u8 1], rfl, Nat.le_refl _, World.alloc_heap_new w _, Nat.le_refl _, by unfold maxLen; omega, rfl, rfl⟩⟩
  go_enter Try.func23, Try.ntmps23
  go_wp2_with fail
  generalize w.alloc (.cells #[.int .u8 1] 5) = w0 at *
  go_loopw [3, 9] (fun v i wr => ∃ k : Nat, k ≤ l.length ∧ i = .int .i64 k ∧ Own8 w.heap.size wr v (RT (l.take k)) ∧ Below w.heap.size w wr) (fun _ i _ => l.length - (intOf i).toNat)
  case atStart => exact ⟨0, Nat.zero_le _, rfl, hq, hA⟩
  case round =>
    obtain ⟨k, hk, rfl, hv, hB⟩ := hrel
    by_cases hlt : k < l.length
    · obtain ⟨b, off, rfl, hb, hcell⟩ := hcs (by omega)
      have hcx : wr.cell? ⟨b, off + k, none⟩ = some (eB l[k]) := (hB.cell (p := ⟨b, off + k, none⟩) hb).trans (hcell k _ (by simp [hlt]))
      have hl := (RT_monic (l.take k)).1
      rw [List.length_take] at hl
      have e : l.take (k + 1) = l.take k ++ [l[k]] := List.take_succ_eq_append_getElem (by omega)
      have Hs := Lib.hid (show RT (l.take (k + 1)) = tr (PM (RT (l.take k)) (C [l[k], 1])) ((RT (l.take k)).length + 2) by rw [e, RT_snoc])
      clear e hcell hcs
      generalize l[k] = r at *
      have hA2 := below_alloc wr (.cells #[eB r, .int .u8 1] 5)
      have hq2 := Sl.new eB wr [r, 1] #[eB r, eB 1] 5 (0, 0) 2 2 rfl (Nat.le_refl _) rfl
      have hm := Mul_row _ _ (RT (l.take k)) [r, 1] (by omega) (by simp) _ (hv.sl.next hA2) hq2
      generalize RT (l.take k) = P at *
      clear hl
      go_wp2_with fail
      go_at_call 40
      refine hm.mono ?_
      rintro e w1 ⟨v1, rfl, hv1, hB1⟩
      clear hm
      go_wp2
      go_roundw
      case rel => exact ⟨k + 1, by omega, by go_num, by rw [Hs.out]; exact hv1.mono (by have := hB.size; have := hA2.size; omega), below_trans hB (below_trans hA2 hB1)⟩
      case measure => simp [intOf]; omega
    · obtain rfl : k = l.length := by omega
      rw [List.take_length] at hv
      go_wp2
      go_ret
      exact ⟨_, rfl, hv, hB⟩
end Go.Proofs.Ytkldapdebjlfmaa
