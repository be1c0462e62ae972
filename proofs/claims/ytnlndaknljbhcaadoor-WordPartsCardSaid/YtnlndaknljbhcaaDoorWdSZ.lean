/- WordParts. -/
import Derived.Test.YtnlndaknljbhcaaDoorRoAZ
import Derived.Test.YtnlndaknljbhcaaDoorWdRZ
namespace Go.Proofs.YtnlndaknljbhcaaDoor
open Go.RowKit Go.Shelf
attribute [local go_sem] Oper.semAt_some run_store_func

/-- A part of a row. -/
theorem sl_part {B : Nat} {W : World} {b off n c : Nat} {x : List UInt8} (h : Sl eB B W (.slice (some ⟨b, off, none⟩) n c) x) (hn : n = x.length) (lo hi : Nat) (h1 : lo < hi) (h2 : hi ≤ n) : Sl eB B W (.slice (some ⟨b, off + lo, none⟩) (hi - lo) (c - lo)) ((x.take hi).drop lo) := by
  subst hn
  have h3 := (h.upto h2).from_ (p := lo) (by rw [List.length_take]; omega) (some ⟨b, off + lo, none⟩) (fun _ => by simp [Addr.add])
  exact h3
/-- The numbers of a part's ends. -/
theorem part_facts (n K m P P2 lo hi : Nat) (hm : m < 3) (hn : n ≤ 60) (hK : K ≤ 30) (hP : m * K = P) (hP2 : (m + 1) * K = P2) (hlo : n + 1 + P = lo) (hhi : n + 1 + P2 = hi) :
    ((wrap64 ((m : Int) * (K : Int)) = (P : Int) ∧ IntKind.i64.wrap ((m : Int) * (K : Int)) = (P : Int)) ∧ (wrap64 (((m : Int) + 1) * (K : Int)) = (P2 : Int) ∧ IntKind.i64.wrap (((m : Int) + 1) * (K : Int)) = (P2 : Int)) ∧
      (wrap64 ((n : Int) + 1 + (P : Int)) = (lo : Int) ∧ IntKind.i64.wrap ((n : Int) + 1 + (P : Int)) = (lo : Int)) ∧ (wrap64 ((n : Int) + 1 + (P2 : Int)) = (hi : Int) ∧ IntKind.i64.wrap ((n : Int) + 1 + (P2 : Int)) = (hi : Int)) ∧
      (wrap64 ((n : Int) + 1) = (n : Int) + 1 ∧ IntKind.i64.wrap ((n : Int) + 1) = (n : Int) + 1) ∧ wrap64 ((m : Int) + 1) = (m : Int) + 1 ∧ IntKind.i64.wrap ((m : Int) + 1) = (m : Int) + 1) ∧
    (lo : Int) ≤ (hi : Int) ∧ lo < hi + 1 ∧ hi - lo = K ∧ hi ≤ n + 1 + 3 * K := by
  have iP : (m : Int) * (K : Int) = (P : Int) := by rw [← hP, Int.natCast_mul]
  have iP2 : ((m : Int) + 1) * (K : Int) = (P2 : Int) := by rw [← hP2, Int.natCast_mul]; rfl
  have h1 : P2 = P + K := by rw [← hP2, ← hP, Nat.succ_mul]
  have h2 : P2 ≤ 3 * K := by rw [← hP2]; exact Nat.mul_le_mul_right _ (by omega)
  clear hP hP2
  exact ⟨⟨rw_is _ _ iP.symm (by omega) (by omega), rw_is _ _ iP2.symm (by omega) (by omega), rw_is _ _ (by omega) (by omega) (by omega), rw_is _ _ (by omega) (by omega) (by omega), rw_is _ _ rfl (by omega) (by omega), rw_is _ _ rfl (by omega) (by omega)⟩, by omega, by omega, by omega, by omega⟩
/-- What WordParts asks of a word, apart. -/
structure PartsOk (x F W : List UInt8) (a b c : Int) (n k : Nat) : Prop where
  take : W.take n = x
  len : W.length = n + 1 + 3 * k
  fld : ∀ i, i < 3 → (W.take (n + 1 + (i + 1) * k)).drop (n + 1 + i * k) = F
  next : ∀ i, n ≤ i → i < W.length → atB W i ≠ atB W (i - 1)
  half : 2 * (k / 2) = k
  two : 2 ≤ k
  most : k ≤ 30
theorem parts_ok {x : List UInt8} {a b c : Int} (hx : CleanW x) : PartsOk x (fldL x a b c) (wordL x (fldL x a b c)) a b c x.length (fldL x a b c).length := by
  have hl := fldL_length x a b c
  have h60 := hx.2.1
  refine ⟨word_take _ _, ?_, fun i hi => word_fld x _ i hi, fun i h1 h2 => word_next a b c hx.1 i h1 h2, ?_, ?_, ?_⟩
  · simp [wordL]; omega
  · rw [hl]; have := long_even x.length; omega
  · rw [hl]; unfold longN; omega
  · rw [hl]
    have := Lib.bitLen_le (x.length - 1) 6 (by omega) (by omega)
    have := Lib.bitLen_le (6 * x.length) 9 (by omega) (by omega)
    unfold longN zb tb wb
    omega
set_option maxRecDepth 100000 in
set_option maxHeartbeats 4000000 in
theorem WordParts_some (v0 : Value) (x : List UInt8) (w : World) (hS : Sl eB w.heap.size w v0 x) (hT : Tab w) (hTB : TabB w) (hx : CleanW x) :
    Calls Tryd.prog 7 #[v0] w fun e w' => e = .returned (.bool true) ∧ Below w.heap.size w w' := by
  have hwk := wwakes_any
  have hcx := fun w h => wclean_any v0 x w h
  rw [decide_eq_true hx] at hcx
  obtain ⟨a, b, c, hs, hw⟩ := clean_may hx
  have hok := parts_ok (a := a) (b := b) (c := c) hx
  obtain ⟨hr, -, -⟩ := sums_right hs
  obtain ⟨p1, p2, p3⟩ := right_nat hr
  have hn2 := hx.1
  have hn60 := hx.2.1
  have htold := told_fld hs (by omega)
  obtain ⟨halt, -⟩ := fldL_alt (x := x) a b c
  have hrw := right_word hw
  have hM : ∀ w, Tab w → TabB w → Sl eB w.heap.size w v0 x → Calls Tryd.prog 9 #[v0] w fun e w' => Below w.heap.size w w' ∧ ∃ u, e = .returned (.tuple #[u, .int .i64 0]) ∧ Sl eB w'.heap.size w' u (wordL x (fldL x a b c)) := fun w h1 h2 h3 => (WMake_any v0 x w h1 h2 h3).mono (by
    rintro e w' ⟨hB, ⟨f, u, hf, rfl, hu, -⟩ | ⟨m, hm, rfl⟩⟩
    · rw [hw] at hf; cases hf; exact ⟨hB, u, rfl, hu⟩
    · rw [hw] at hm; cases hm)
  have hF : ∀ w, Tab w → TabB w → Sl eB w.heap.size w v0 x → Calls Tryd.prog 11 #[v0] w fun e w' => Below w.heap.size w w' ∧ ∃ u, e = .returned (.tuple #[u, .int .i64 0]) ∧ Sl eB w'.heap.size w' u (fldL x a b c) := fun w h1 h2 h3 => (WField_any v0 x w h1 h2 h3).mono (by
    rintro e w' ⟨hB, ⟨f, u, hf, rfl, hu, -⟩ | ⟨m, hm, rfl⟩⟩
    · rw [hw] at hf; cases hf; exact ⟨hB, u, rfl, hu⟩
    · rw [hw] at hm; cases hm)
  have hO : ∀ w, Sl eB w.heap.size w v0 x → Calls Tryd.prog 28 #[v0] w fun e w' => Below w.heap.size w w' ∧ e = .returned (.tuple #[v3 a b c, .int .i64 0]) := fun w h => (rOf_any v0 x (by omega) w h).mono (by
    rintro e w' ⟨hB, ⟨a', b', c', hg, rfl⟩ | ⟨m, hg, -⟩⟩
    · rw [hs] at hg; cases hg; exact ⟨hB, rfl⟩
    · rw [hs] at hg; cases hg)
  generalize hWW : wordL x (fldL x a b c) = W at *
  generalize hFF : fldL x a b c = F at *
  have hTo : ∀ u w, TabB w → Sl eB w.heap.size w u F → Calls Tryd.prog 13 #[u, .int .i64 x.length] w fun e w' => Below w.heap.size w w' ∧ e = .returned (.tuple #[v3 a b c, .int .i64 0]) := fun u w h1 h2 => (WTold_any u F x.length (by have := hok.most; omega) w h1 h2).mono (by
    rintro e w' ⟨hB, ⟨a', b', c', hg, rfl⟩ | ⟨hg, -⟩⟩
    · have e := htold.one hg
      injection e with e1 e
      injection e with e2 e3
      rw [← e1, ← e2, ← e3, int_nat p1, int_nat p2, int_nat p3]
      exact ⟨hB, rfl⟩
    · exact absurd ⟨_, htold⟩ hg)
  have hIn : ∀ u w, Tab w → TabB w → Sl eB w.heap.size w u W → Calls Tryd.prog 15 #[u, .int .i64 x.length] w fun e w' => Below w.heap.size w w' ∧ ∃ v, e = .returned (.tuple #[v, .int .i64 0]) ∧ Sl eB w'.heap.size w' v x := fun u w h1 h2 h3 => (WInner_any u W x.length w h1 h2 h3).mono (by
    rintro e w' ⟨hB, ⟨v, -, rfl, hv⟩ | ⟨h, -⟩⟩
    · rw [Int.toNat_natCast, hok.take] at hv; exact ⟨hB, v, rfl, hv⟩
    · rw [hrw] at h; cases h)
  have hRi : ∀ u w, Tab w → TabB w → Sl eB w.heap.size w u W → Calls Tryd.prog 22 #[u, .int .i64 x.length] w fun e w' => e = .returned (.bool true) ∧ Below w.heap.size w w' := fun u w h1 h2 h3 => by
    have h := WRight_any u W x.length w h1 h2 h3
    rwa [hrw] at h
  have hGc := fun u w h => Gc_alt u F halt (by have := hok.most; omega) w h
  have hEq := fun w => eqS a b c a b c w
  have hq : (a == a && (b == b && c == c)) = true := by simp
  rw [hq] at hEq
  have hk2 := hok.two
  have hk30 := hok.most
  have hWl := hok.len
  have hhalf := hok.half
  have Hok := Lib.hid hok
  have HWl := Lib.hid hWl
  have hsx := fun u v w h1 h2 => same_any u v x x w.heap.size w h1 h2
  have hsf := fun u v w h1 h2 => same_any u v F F w.heap.size w h1 h2
  rw [decide_eq_true rfl] at hsx hsf
  have w1 : IntKind.i64.wrap ((x.length : Int) + 1) = (x.length : Int) + 1 := IntWalk.i64_in _ (by omega)
  have w2 : IntKind.i64.wrap (3 * (F.length : Int)) = 3 * (F.length : Int) := IntWalk.i64_in _ (by omega)
  have w3 : IntKind.i64.wrap ((x.length : Int) + 1 + 3 * (F.length : Int)) = (x.length : Int) + 1 + 3 * (F.length : Int) := IntWalk.i64_in _ (by omega)
  have t1 : ((F.length : Int) == 0) = false := by rw [beq_eq_false_iff_ne]; omega
  have t1' : (F.length == 0) = false := by rw [beq_eq_false_iff_ne]; omega
  have t2 : ((W.length : Int) != (x.length : Int) + 1 + 3 * (F.length : Int)) = false := by rw [hWl]; simp
  have t2' : ((W.length : Int) == (x.length : Int) + 1 + 3 * (F.length : Int)) = true := by rw [hWl]; simp
  have HN := Lib.hid (And.intro hn2 (And.intro hn60 (And.intro hk2 (And.intro hk30 hhalf))))
  clear hWW hFF hs hw hr p1 p2 p3 htold halt hrw hok hq hx hhalf hWl hn2 hn60 hk2 hk30
  obtain ⟨A, cp, rfl⟩ := hS.len
  go_enter Tryd.func7, Tryd.ntmps7
  go_wp2_with fail
  go_at_call 24
  refine (hcx _ hS).mono ?_
  rintro e w' ⟨rfl, rfl⟩
  clear hcx
  go_wp2_with fail
  go_at_call 9
  refine (hM _ hT hTB hS).mono ?_
  rintro e wa ⟨hB, u, rfl, hu⟩
  have hS := hS.next hB
  have hT := hT.below hB
  have hTB := hTB.below hB
  have hB0 := hB
  obtain ⟨Au, cu, rfl, hcu, -⟩ := id hu
  clear hB hM
  go_wp2_with fail
  go_at_call 11
  refine (hF _ hT hTB hS).mono ?_
  rintro e wb ⟨hB, v, rfl, hv⟩
  have hS := hS.next hB
  have hT := hT.below hB
  have hTB := hTB.below hB
  have hu := hu.next hB
  have hB0 := below_trans hB0 hB
  obtain ⟨Af, cf, rfl⟩ := hv.len
  have q1 : (x.length : Int) ≤ (cu : Int) := by have := HWl.out; omega
  have q2 : x.length ≤ cu := by have := HWl.out; omega
  have hup := hu.upto (show x.length ≤ W.length by have := HWl.out; omega)
  rw [Hok.out.take] at hup
  have hs1 := hsx _ _ _ hup hS
  clear hB hF hup
  go_wp2_with fail
  go_at_call 17
  refine hs1.mono ?_
  rintro e w' ⟨rfl, rfl⟩
  clear hs1
  go_wp2_with fail
  go_loopw [9] (fun i wr => ∃ m : Nat, m ≤ 3 ∧ i = .int .i64 m ∧ wb = wr) (fun i _ => 3 - (intOf i).toNat)
  case atStart => exact ⟨0, by omega, rfl, rfl⟩
  case round =>
    obtain ⟨m, hm, rfl, rfl⟩ := hrel
    by_cases hlt : m < 3
    · obtain ⟨Au', cu', e, hcu2, hcs⟩ := id hu
      injection e with e1 e2 e3
      subst e1 e3
      obtain ⟨bk, off, rfl, hbk, hcell⟩ := hcs (by have := HWl.out; omega)
      have hfl := Hok.out.fld m hlt
      obtain ⟨P, hP⟩ : ∃ P, m * F.length = P := ⟨_, rfl⟩
      obtain ⟨P2, hP2⟩ : ∃ P2, (m + 1) * F.length = P2 := ⟨_, rfl⟩
      rw [hP, hP2] at hfl
      obtain ⟨lo, hlo⟩ : ∃ lo, x.length + 1 + P = lo := ⟨_, rfl⟩
      obtain ⟨hi, hhi⟩ : ∃ hi, x.length + 1 + P2 = hi := ⟨_, rfl⟩
      rw [hlo, hhi] at hfl
      obtain ⟨hfacts, z1, z1', hln, hhi3⟩ := part_facts x.length F.length m P P2 lo hi hlt HN.out.2.1 HN.out.2.2.2.1 hP hP2 hlo hhi
      have Hfacts := Lib.hid hfacts
      have hN := HN.out
      have hWl := HWl.out
      clear hfacts hP hP2 hlo hhi w1 w2 w3
      have z2 : (hi : Int) ≤ (cu : Int) := by omega
      have z1n : lo ≤ hi := by omega
      have z2n : hi ≤ cu := by omega
      have hpart := sl_part hu rfl lo hi (by omega) (by omega)
      rw [hfl] at hpart
      have z3 : ¬ cu = lo := by omega
      have z4 : ¬ lo = cu := by omega
      have hs1 := hsf _ _ _ hpart hv
      have hm3 : m ≤ 3 := by omega
      have Hlt := Lib.hid hlt
      have hmi : (m : Int) < 3 := by omega
      clear hN hWl hpart hfl hcell hcs hcu2 hsf hsx hln e2 z1' hhi3
      obtain ⟨⟨y1, y1'⟩, ⟨y2, y2'⟩, ⟨y3, y3'⟩, ⟨y4, y4'⟩, ⟨y5, y5'⟩, y6, y6'⟩ := Hfacts.out
      go_wp2_with fail
      go_at_call 17
      refine hs1.mono ?_
      rintro e w' ⟨rfl, rfl⟩
      go_wp2_with fail
      clear y1 y1' y2 y2' y3 y3' y4 y4' y5 y5' y6 y6'
      go_roundw
      case rel => exact ⟨m + 1, by have := Hlt.out; omega, by go_num, trivial⟩
      case measure => have := Hlt.out; simp [intOf]; omega
    · obtain rfl : m = 3 := by omega
      clear hcu w1 w2 w3
      go_wp2_with fail
      go_loopw [10] (fun t wr => ∃ i : Nat, x.length ≤ i ∧ i ≤ W.length ∧ t = .int .i64 i ∧ Below wb.heap.size wb wr) (fun t _ => W.length - (intOf t).toNat)
      case atStart => exact ⟨x.length, Nat.le_refl _, by have := HWl.out; omega, rfl, Below.refl _ _⟩
      case round =>
        obtain ⟨i, hni, hiW, rfl, hBr⟩ := hrel
        by_cases hlt : i < W.length
        · obtain ⟨Au', cu', e, -, hcs⟩ := id hu
          injection e with e1 e2 e3
          subst e1 e3
          obtain ⟨bk, off, rfl, hbk, hcell⟩ := hcs (by omega)
          have hne := Hok.out.next i hni hlt
          have hN := HN.out
          have hWl := HWl.out
          have c1 : wr.drew.cell? ⟨bk, off + i, none⟩ = some (eB (atB W i)) := (hBr.cell (p := ⟨bk, off + i, none⟩) hbk).trans (hcell _ _ (atB_lt hlt))
          have c2 : wr.drew.cell? ⟨bk, off + (i - 1), none⟩ = some (eB (atB W (i - 1))) := (hBr.cell (p := ⟨bk, off + (i - 1), none⟩) hbk).trans (hcell _ _ (atB_lt (by omega)))
          have c3 : wr.cell? ⟨bk, off + i, none⟩ = some (eB (atB W i)) := c1
          have c4 : wr.cell? ⟨bk, off + (i - 1), none⟩ = some (eB (atB W (i - 1))) := c2
          have hii : (i : Int) < (W.length : Int) := by omega
          have hii2 : ((i - 1 : Nat) : Int) < (W.length : Int) := by omega
          have hii3 : i - 1 < W.length := by omega
          have hi9 : i ≤ 1000 := by omega
          have g1 : (((atB W i).toNat : Int) == ((atB W (i - 1)).toNat : Int)) = false := beq_eq_false_iff_ne.2 (u8_neR _ _ hne)
          obtain ⟨v1, v2⟩ := rw_is ((i : Int) - 1) ((i - 1 : Nat) : Int) (by omega) (by omega) (by omega)
          have Hi := Lib.hid (And.intro hni (And.intro hiW hlt))
          clear hni hiW hlt hN hWl hne hcs hcell e2
          generalize atB W i = ya at *
          generalize atB W (i - 1) = yb at *
          go_wp2_with fail
          go_quiet (fail)
          have hBq : Below wb.heap.size wb (wr.drewN nq) := hBr.trans ⟨rfl, rfl, rfl, Nat.le_refl _, fun _ _ => rfl⟩
          clear v1 v2
          go_wp2_with fail
          go_roundw
          case rel => exact ⟨i + 1, by have := Hi.out; omega, by have := Hi.out; omega, by go_num, hBq⟩
          case measure => have := Hi.out; simp [intOf]; omega
        · obtain rfl : i = W.length := by omega
          have hTr := hT.below hBr
          have hTBr := hTB.below hBr
          have hur := hu.next hBr
          have hvr := hv.next hBr
          have hSr := hS.next hBr
          have hB1 := below_trans hB0 hBr
          clear hT hTB hu hv hS hB0 hBr hsf hni hiW hlt t1 t1' t2 t2' q1 q2
          go_wp2_with fail
          go_at_call 13
          refine (hTo _ _ hTBr hvr).mono ?_
          rintro e w2 ⟨hB, rfl⟩
          have hA2 := below_alloc w2 (.cells (c3 a b c) 28)
          have hr11 := Rowed.new w2 28 (c3 a b c)
          have hBx := below_trans hB hA2
          have hT3 := hTr.below hBx
          have hTB3 := hTBr.below hBx
          have hu3 := hur.next hBx
          have hv3 := hvr.next hBx
          have hS3 := hSr.next hBx
          have hB3 := below_trans hB1 hBx
          have hl11 := hr11.lt
          clear hTo hTr hTBr hur hvr hSr hB1 hBx hB hA2
          go_upto_region 19 with fail
          generalize w2.alloc (.cells (c3 a b c) 28) = w3 at *
          generalize w2.heap.size = g11 at *
          go_wp2_with fail
          go_at_call 28
          refine (hO _ hS3).mono ?_
          rintro e w4 ⟨hB, rfl⟩
          have hA4 := below_alloc w4 (.cells (c3 a b c) 28)
          have hr13 := Rowed.new w4 28 (c3 a b c)
          have hBx := below_trans hB hA4
          have hr11 := hr11.below hBx hl11
          have hT5 := hT3.below hBx
          have hTB5 := hTB3.below hBx
          have hu5 := hu3.next hBx
          have hv5 := hv3.next hBx
          have hS5 := hS3.next hBx
          have hB5 := below_trans hB3 hBx
          have hl13 := hr13.lt
          have hl11 := hr11.lt
          clear hO hT3 hTB3 hu3 hv3 hS3 hB3 hBx hB hA4
          go_upto_region 20 with fail
          generalize w4.alloc (.cells (c3 a b c) 28) = w5 at *
          generalize w4.heap.size = g13 at *
          go_wp2_with fail
          go_at_call 15
          refine (hIn _ _ hT5 hTB5 hu5).mono ?_
          rintro e w6 ⟨hB, vi, rfl, hvi⟩
          have hr11 := hr11.below hB hl11
          have hr13 := hr13.below hB hl13
          have hT6 := hT5.below hB
          have hTB6 := hTB5.below hB
          have hu6 := hu5.next hB
          have hv6 := hv5.next hB
          have hS6 := hS5.next hB
          have hB6 := below_trans hB5 hB
          have hs1 := hsx _ _ _ hvi hS6
          have hg1 := hGc _ _ hv6
          obtain ⟨Ai, ci, rfl⟩ := hvi.len
          have k0 := hr11.cell 0
          have k1 := hr11.cell 1
          have k2 := hr11.cell 2
          have m0 := hr13.cell 0
          have m1 := hr13.cell 1
          have m2 := hr13.cell 2
          simp at k0 k1 k2 m0 m1 m2
          have hN := HN.out
          obtain ⟨v1, v2⟩ := rw_is (2 * ((F.length / 2 : Nat) : Int)) (F.length : Int) (by omega) (by omega) (by omega)
          clear hT5 hTB5 hu5 hv5 hS5 hB5 hB hIn hGc hsx hN hv6 hvi hS6
          generalize hh : F.length / 2 = half at *
          clear hh
          go_wp2_with fail
          go_at_call 29
          refine hg1.mono ?_
          rintro e w' ⟨rfl, rfl⟩
          go_wp2_with fail
          go_at_call 17
          refine hs1.mono ?_
          rintro e w' ⟨rfl, rfl⟩
          go_wp2_with fail
          go_at_call 22
          refine (hRi _ _ hT6 hTB6 hu6).mono ?_
          rintro e w7 ⟨rfl, hB7⟩
          go_wp2_with fail
          go_at_call 8
          refine (hwk _ (hT6.below hB7) (hTB6.below hB7)).mono ?_
          rintro e w8 ⟨rfl, hB8⟩
          go_wp2_with fail
          go_ret
          exact ⟨rfl, below_trans hB6 (below_trans hB7 hB8)⟩
set_option maxRecDepth 100000 in
set_option maxHeartbeats 4000000 in
theorem WordParts_any (v0 : Value) (x : List UInt8) (w : World) (hS : Sl eB w.heap.size w v0 x) (hT : Tab w) (hTB : TabB w) :
    Calls Tryd.prog 7 #[v0] w fun e w' => e = .returned (.bool true) ∧ Below w.heap.size w w' := by
  by_cases hx : CleanW x
  · exact WordParts_some v0 x w hS hT hTB hx
  · have hwk := wwakes_any
    have hcx := fun w h => wclean_any v0 x w h
    rw [decide_eq_false hx] at hcx
    clear hx
    obtain ⟨A, c, rfl⟩ := hS.len
    go_enter Tryd.func7, Tryd.ntmps7
    go_wp2_with fail
    go_at_call 24
    refine (hcx _ hS).mono ?_
    rintro e w' ⟨rfl, rfl⟩
    go_wp2_with fail
    go_at_call 8
    refine (hwk _ hT hTB).mono ?_
    rintro e w' ⟨rfl, hB⟩
    go_wp2_with fail
    go_ret
    exact ⟨rfl, hB⟩
end Go.Proofs.YtnlndaknljbhcaaDoor
