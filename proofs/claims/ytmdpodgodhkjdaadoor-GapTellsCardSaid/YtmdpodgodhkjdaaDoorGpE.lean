/- Contract of gap.places' iterator. -/
import Derived.Test.YtmdpodgodhkjdaaDoorGpD
namespace Go.Proofs.YtmdpodgodhkjdaaDoor
open Go.RowKit Go.Shelf
attribute [local go_sem] Oper.semAt_some run_store_func

theorem own_below {β : Type} {B : Nat} {I : β → World → Prop} (h : OwnFrom B I) {s : β} {W W' : World} (hs : I s W) (hB : Below W.heap.size W W') : I s W' :=
  h _ _ _ none hs ⟨hB.os, hB.tape, hB.output, hB.size, fun k hk _ => hB.block k hk⟩ (fun r e => by cases e)
theorem sT_step (y : List UInt8) (p : Nat) (hp : 0 < p) : sT y p = sT y (p - 1) + if riseB y (p - 1) then ((p : Int) - 1) else 0 := by
  obtain ⟨k, rfl⟩ : ∃ k, p = k + 1 := ⟨p - 1, by omega⟩
  rw [sT, Nat.add_sub_cancel]
  split <;> omega
set_option maxRecDepth 1000000 in
set_option maxHeartbeats 8000000 in
theorem places_seq (b1 b2 b3 : Nat) (A : Option Addr) (cap : Nat) (v1 : Value) (y : List UInt8) (c : UInt8) (hn : y.length ≤ 999) (w0 : World) (l1 : b1 < w0.heap.size) (l2 : b2 < w0.heap.size) (l3 : b3 < w0.heap.size)
    (k1 : w0.cell? ⟨b1, 0, none⟩ = some v1) (hRl : Sl eF w0.heap.size w0 v1 ((List.range y.length).map (riseB y))) (k2 : w0.cell? ⟨b2, 0, none⟩ = some (.slice A y.length cap)) (k3 : w0.cell? ⟨b3, 0, none⟩ = some (eB c)) (hSl : Sl eB w0.heap.size w0 (.slice A y.length cap) y)
    (g : Nat) (n1 : b1 ≠ g) (n2 : b2 ≠ g) (n3 : b3 ≠ g) (hap1 : ∀ a n c, v1 = .slice (some a) n c → a.block ≠ g) (hap2 : ∀ a, A = some a → a.block ≠ g) :
    SeqI Fence.wide Tryd.prog 59 #[.pointer (some ⟨b1, 0, none⟩), .pointer (some ⟨b2, 0, none⟩), .pointer (some ⟨b3, 0, none⟩)] (fun p : Nat => #[.int .i64 p, .int .i64 (placesG y c p)]) (Keep w0.heap.size g) (List.range (y.length + 1)) none w0 := by
  intro l J JS W hW hJo hY h0
  have hW := keep_of (g := g) hW
  obtain ⟨Av, cv, rfl⟩ := hRl.len
  have hrl : ((List.range y.length).map (riseB y)).length = y.length := by simp
  rw [hrl] at hRl k1
  have Hread : Hid (∀ (W' : World), Keep w0.heap.size g w0 W' → ∀ i, i < y.length → ∃ bk off, Av = some ⟨bk, off, none⟩ ∧ W'.cell? ⟨bk, off + i, none⟩ = some (.bool (riseB y i))) := Lib.hid (by
    intro W' hB i hi
    obtain ⟨A', c', e, hc, hcs⟩ := hRl
    injection e with e1 e2 e3
    subst e1 e3
    obtain ⟨bk, off, e4, hb, hcell⟩ := hcs (by rw [hrl]; omega)
    subst e4
    exact ⟨bk, off, rfl, (hB.cell (p := ⟨bk, off + i, none⟩) hb (hap1 ⟨bk, off, none⟩ _ _ rfl)).trans (hcell i (riseB y i) (by simp [hi]))⟩)
  have HreadY : Hid (∀ (W' : World), Keep w0.heap.size g w0 W' → ∀ i, i < y.length → ∃ bk off, A = some ⟨bk, off, none⟩ ∧ W'.cell? ⟨bk, off + i, none⟩ = some (eB (atB y i))) := Lib.hid (by
    intro W' hB i hi
    obtain ⟨A', c', e, hc, hcs⟩ := hSl
    injection e with e1 e2 e3
    subst e1 e3
    obtain ⟨bk, off, e4, hb, hcell⟩ := hcs (by omega)
    subst e4
    exact ⟨bk, off, rfl, (hB.cell (p := ⟨bk, off + i, none⟩) hb (hap2 ⟨bk, off, none⟩ rfl)).trans (hcell i _ (atB_lt hi))⟩)
  clear hRl hSl hrl hap1 hap2
  have c1 := (hW.cell (p := ⟨b1, 0, none⟩) l1 n1).trans k1
  have c2 := (hW.cell (p := ⟨b2, 0, none⟩) l2 n2).trans k2
  refine callsIn_of_wp Tryd.func59 rfl trivial ?_ rfl
  simp only [Tryd.ntmps59, List.size_toArray, List.length_cons, List.length_nil, Nat.reduceAdd, Nat.reduceSub, Array.replicate_succ, Array.replicate_zero, List.push_toArray, List.append_toArray, List.nil_append, List.cons_append]
  gi_wp2_with fail
  gi_loopw [6, 13] (fun b i wr => ∃ j : Nat, j ≤ y.length ∧ i = .int .i64 j ∧ b = .int .i64 (bH y j) ∧ wr = W) (fun _ i _ => y.length - (intOf i).toNat)
  case atStart => exact ⟨0, Nat.zero_le _, rfl, rfl, rfl⟩
  case round =>
    obtain ⟨j, hj, rfl, rfl, rfl⟩ := hrel
    by_cases hlt : j < y.length
    · have hjl : (j : Int) < y.length := by omega
      obtain ⟨bk, off, rfl, hx⟩ := Hread.out _ hW j hlt
      have hb := bH_range y j (by omega)
      have Hb := Lib.hid (show bH y (j + 1) = bH y j + if riseB y j then (j : Int) + 1 else 0 from rfl)
      have Hj := Lib.hid hlt
      have hj9 : j < 999 := by omega
      clear hlt hj
      generalize bH y j = b at *
      cases hr : riseB y j with
      | true =>
        rw [hr] at hx Hb
        gi_wp2_with fail
        refine ⟨⟨j + 1, Hj.out, by go_num, ?_, trivial⟩, ?_⟩
        · rw [Hb.out]
          first
            | (simp; done)
            | go_num
        · have := Hj.out
          simp [intOf]
          omega
      | false =>
        rw [hr] at hx Hb
        gi_wp2_with fail
        refine ⟨⟨j + 1, Hj.out, by go_num, ?_, trivial⟩, ?_⟩
        · rw [Hb.out]
          first
            | (simp; done)
            | go_num
        · have := Hj.out
          simp [intOf]
          omega
    · obtain rfl : j = y.length := by omega
      clear hlt hj
      gi_wp2_with fail
      gi_loopw [5, 6, 27] (fun a b i wr => ∃ p : Nat, p ≤ y.length + 1 ∧ i = .int .i64 p ∧ a = .int .i64 (sT y (p - 1)) ∧ b = .int .i64 (bH y y.length - bH y (min p y.length)) ∧ J (List.range p) wr ∧ Keep w0.heap.size g w0 wr) (fun _ _ i _ => y.length + 1 - (intOf i).toNat)
      case atStart => exact ⟨0, Nat.zero_le _, rfl, rfl, by simp [bH], h0, hW⟩
      case round =>
        obtain ⟨p, hp, rfl, rfl, rfl, hJ, hB⟩ := hrel
        by_cases hlt : p ≤ y.length
        · have hpn : ((p : Nat) : Int) < (y.length : Int) + 1 := by omega
          have hpre := range_pre p (y.length + 1) (by omega)
          have Hp := Lib.hid hlt
          have kc := (hB.cell (p := ⟨b3, 0, none⟩) l3 n3).trans k3
          have kr := (hB.cell (p := ⟨b1, 0, none⟩) l1 n1).trans k1
          have ky := (hB.cell (p := ⟨b2, 0, none⟩) l2 n2).trans k2
          have rT := sT_range y (p - 1) (by omega)
          have rB1 := bH_range y y.length (by omega)
          have rB2 := bH_range y (min p y.length) (by omega)
          have rB3 := bH_range y (min (p + 1) y.length) (by omega)
          have rB4 : bH y (min (p + 1) y.length) ≤ bH y y.length := by
            have := bH_le y (min (p + 1) y.length) (y.length - min (p + 1) y.length)
            rwa [show min (p + 1) y.length + (y.length - min (p + 1) y.length) = y.length by omega] at this
          have rG := tG_range y c p hlt hn
          have HG := Lib.hid (show tG y c p = sT y p + (bH y y.length - bH y (min (p + 1) y.length)) + (if 0 < p ∧ (atB y (p - 1)).toNat ≤ c.toNat then (p : Int) else 0) + (if p < y.length ∧ c.toNat ≤ (atB y p).toNat then (p : Int) + 1 else 0) from rfl)
          have HPl := Lib.hid (show placesG y c p = tG y c p % (y.length + 1) from rfl)
          obtain ⟨a', ha'⟩ : ∃ a', a' = sT y p := ⟨_, rfl⟩
          obtain ⟨b', hb'⟩ : ∃ b', b' = bH y y.length - bH y (min (p + 1) y.length) := ⟨_, rfl⟩
          have HA : Hid ((p = 0 ∧ sT y (p - 1) = a') ∨ (0 < p ∧ riseB y (p - 1) = true ∧ a' = sT y (p - 1) + ((p : Int) - 1)) ∨ (0 < p ∧ riseB y (p - 1) = false ∧ a' = sT y (p - 1))) := Lib.hid (by
            by_cases h0 : p = 0
            · exact .inl ⟨h0, by rw [ha', h0]⟩
            · have h1 := sT_step y p (by omega)
              cases hr : riseB y (p - 1) with
              | true => rw [hr, if_pos rfl] at h1; exact .inr (.inl ⟨by omega, rfl, by rw [ha', h1]⟩)
              | false => rw [hr] at h1; exact .inr (.inr ⟨by omega, rfl, by rw [ha', h1]; simp⟩))
          have HBb : Hid ((p = y.length ∧ bH y y.length - bH y (min p y.length) = b') ∨ (p < y.length ∧ riseB y p = true ∧ b' = bH y y.length - bH y (min p y.length) - ((p : Int) + 1)) ∨ (p < y.length ∧ riseB y p = false ∧ b' = bH y y.length - bH y (min p y.length))) := Lib.hid (by
            by_cases h0 : p = y.length
            · exact .inl ⟨h0, by rw [hb', Nat.min_eq_right (by omega), Nat.min_eq_right (by omega)]⟩
            · have h1 : bH y (p + 1) = bH y p + if riseB y p then (p : Int) + 1 else 0 := rfl
              rw [Nat.min_eq_left (show p + 1 ≤ y.length by omega)] at hb'
              rw [Nat.min_eq_left (show p ≤ y.length by omega)]
              cases hr : riseB y p with
              | true => rw [hr, if_pos rfl] at h1; exact .inr (.inl ⟨by omega, rfl, by rw [hb', h1]; omega⟩)
              | false => rw [hr] at h1; exact .inr (.inr ⟨by omega, rfl, by rw [hb', h1]; simp⟩))
          obtain ⟨q1, hq1⟩ : ∃ q1 : Int, q1 = if 0 < p ∧ (atB y (p - 1)).toNat ≤ c.toNat then (p : Int) else 0 := ⟨_, rfl⟩
          obtain ⟨q2, hq2⟩ : ∃ q2 : Int, q2 = if p < y.length ∧ c.toNat ≤ (atB y p).toNat then (p : Int) + 1 else 0 := ⟨_, rfl⟩
          have ra : 0 ≤ a' ∧ a' ≤ 1000000 := by have := sT_range y p (by omega); rw [ha']; omega
          have rb : 0 ≤ b' ∧ b' ≤ 1001000 := by rw [hb']; omega
          rw [← ha', ← hb', ← hq1, ← hq2] at HG
          have HQ1 : Hid ((p = 0 ∧ q1 = 0) ∨ (0 < p ∧ decide ((atB y (p - 1)).toNat ≤ c.toNat) = true ∧ q1 = (p : Int)) ∨ (0 < p ∧ decide ((atB y (p - 1)).toNat ≤ c.toNat) = false ∧ q1 = 0)) := Lib.hid (by
            by_cases h0 : p = 0
            · exact .inl ⟨h0, by rw [hq1, if_neg (by omega)]⟩
            · by_cases h1 : (atB y (p - 1)).toNat ≤ c.toNat
              · exact .inr (.inl ⟨by omega, decide_eq_true h1, by rw [hq1, if_pos ⟨by omega, h1⟩]⟩)
              · exact .inr (.inr ⟨by omega, decide_eq_false h1, by rw [hq1, if_neg (fun h => h1 h.2)]⟩))
          have HQ2 : Hid ((p = y.length ∧ q2 = 0) ∨ (p < y.length ∧ decide (c.toNat ≤ (atB y p).toNat) = true ∧ q2 = (p : Int) + 1) ∨ (p < y.length ∧ decide (c.toNat ≤ (atB y p).toNat) = false ∧ q2 = 0)) := Lib.hid (by
            by_cases h0 : p = y.length
            · exact .inl ⟨h0, by rw [hq2, if_neg (by omega)]⟩
            · by_cases h1 : c.toNat ≤ (atB y p).toNat
              · exact .inr (.inl ⟨by omega, decide_eq_true h1, by rw [hq2, if_pos ⟨by omega, h1⟩]⟩)
              · exact .inr (.inr ⟨by omega, decide_eq_false h1, by rw [hq2, if_neg (fun h => h1 h.2)]⟩))
          have hp9 : p ≤ 999 := by omega
          have HRd := Lib.hid (fun h => Hread.out wr hB (p - 1) h)
          have HRd2 := Lib.hid (fun h => Hread.out wr hB p h)
          have HYd := Lib.hid (fun h => HreadY.out wr hB (p - 1) h)
          have HYd2 := Lib.hid (fun h => HreadY.out wr hB p h)
          have HN : Hid (sT y (p + 1 - 1) = a' ∧ bH y y.length - bH y (min (p + 1) y.length) = b') := Lib.hid ⟨by rw [Nat.add_sub_cancel, ha'], hb'.symm⟩
          have rs : 0 ≤ sT y (p - 1) ∧ sT y (p - 1) ≤ 1000000 := by omega
          have rbb : 0 ≤ bH y y.length - bH y (min p y.length) ∧ bH y y.length - bH y (min p y.length) ≤ 1001000 := by
            have h5 : bH y (min p y.length) ≤ bH y y.length := by
              have := bH_le y (min p y.length) (y.length - min p y.length)
              rwa [show min p y.length + (y.length - min p y.length) = y.length by omega] at this
            omega
          have hYp : ∀ W', Below wr.heap.size wr W' → ∃ fn tmps assign body, _ := fun W' hB' => hY _ p W' (own_below hJo hJ hB') hpre
          rw [← List.range_succ] at hYp
          clear ha' hb' hq1 hq2 hlt hp rT rB1 rB2 rB3 rB4
          generalize placesG y c p = G at *
          generalize tG y c p = tg at *
          generalize sT y (p - 1) = a at *
          generalize bH y y.length - bH y (min p y.length) = b at *
          have e1 : 0 < p → wrap64 ((p : Int) - 1) = ((p - 1 : Nat) : Int) := fun h => by rw [IntWalk.wrap64_in _ (by omega)]; omega
          have e1' : 0 < p → IntKind.i64.wrap ((p : Int) - 1) = ((p - 1 : Nat) : Int) := fun h => by rw [IntWalk.i64_in _ (by omega)]; omega
          have E1 := Lib.hid e1
          have E1' := Lib.hid e1'
          clear e1 e1' hJo hY
          rcases HA.out with ⟨h0, ea⟩ | ⟨h0, hr1, ea⟩ | ⟨h0, hr1, ea⟩
          · rcases HQ1.out with ⟨h0', eq1⟩ | ⟨h0', hc1, eq1⟩ | ⟨h0', hc1, eq1⟩
            · rcases HBb.out with ⟨h1, eb⟩ | ⟨h1, hr2, eb⟩ | ⟨h1, hr2, eb⟩
              · rcases HQ2.out with ⟨h1', eq2⟩ | ⟨h1', hc2, eq2⟩ | ⟨h1', hc2, eq2⟩
                · have dp : decide (0 < (p : Int)) = false := decide_eq_false (by omega)
                  have dpn : decide (0 < p) = false := decide_eq_false (by omega)
                  have dp0 : ¬ 0 < p := by omega
                  have dp1 : ¬ (0 : Int) < (p : Int) := by omega
                  have dq : decide ((p : Int) < (y.length : Int)) = false := decide_eq_false (by omega)
                  have dqn : decide (p < y.length) = false := decide_eq_false (by omega)
                  have hn9 : y.length ≤ 999 := hn
                  have hG : Int.tmod (a + b) ((y.length : Int) + 1) = G := by rw [Int.tmod_eq_emod_of_nonneg (by omega), HPl.out, HG.out]; congr 1; omega
                  have hA : Hid (sT y (p + 1 - 1) = a) := Lib.hid (by rw [HN.out.1]; omega)
                  have hB9 : Hid (bH y y.length - bH y (min (p + 1) y.length) = b) := Lib.hid (by rw [HN.out.2]; omega)
                  have rP : 0 ≤ G ∧ G ≤ 999 := by rw [HPl.out]; exact ⟨Int.emod_nonneg _ (by omega), by have := Int.emod_lt_of_pos tg (b := (y.length : Int) + 1) (by omega); omega⟩
                  have Hh0 := Lib.hid h0
                  have Hh1 := Lib.hid h1
                  clear ea eb eq1 eq2
                  clear h0 h0' h1 h1' HPl HG HN rG ra rb
                  gi_wp2_with fail
                  refine wpIn_wide.2 ?_
                  go_quiet (fail)
                  rename Nat => nqa
                  gi_wp2_with fail
                  refine wpIn_wide.2 ?_
                  go_quiet (fail)
                  rename Nat => nqb
                  obtain ⟨fn, tmps, assign, body, hyy, hR⟩ := hYp (wr.drewN (nqa + nqb)) ⟨rfl, rfl, rfl, Nat.le_refl _, fun _ _ => rfl⟩
                  gi_wp2_with fail
                  refine (roundIn_room rfl hR).mono ?_
                  rintro e W3 (⟨rfl, hJ3, hK3, hF3⟩ | ⟨rfl, hS3⟩)
                  · gi_wp2_with fail
                    refine ⟨⟨p + 1, by have := Hp.out; omega, by go_num, by rw [hA.out], by rw [hB9.out], hJ3, keep_t (keep_t hB (keep_of (show Below w0.heap.size wr (wr.drewN (nqa + nqb)) from ⟨rfl, rfl, rfl, Nat.le_refl _, fun _ _ => rfl⟩))) hK3⟩, ?_⟩
                    have := Hp.out
                    simp [intOf]
                    omega
                  · gi_wp2_with fail
                    refine bodyPost_ret (results_none rfl _ _ _) rfl ?_
                    exact .inl ⟨_, rfl, hS3⟩
                · exfalso; omega
                · exfalso; omega
              · rcases HQ2.out with ⟨h1', eq2⟩ | ⟨h1', hc2, eq2⟩ | ⟨h1', hc2, eq2⟩
                · exfalso; omega
                · obtain ⟨bk, off, rfl, x2⟩ := HRd2.out (by omega)
                  obtain ⟨bk2, off2, rfl, y2⟩ := HYd2.out (by omega)
                  rw [hr2] at x2
                  have dp : decide (0 < (p : Int)) = false := decide_eq_false (by omega)
                  have dpn : decide (0 < p) = false := decide_eq_false (by omega)
                  have dp0 : ¬ 0 < p := by omega
                  have dp1 : ¬ (0 : Int) < (p : Int) := by omega
                  have dq : decide ((p : Int) < (y.length : Int)) = true := decide_eq_true (by omega)
                  have hpl : (p : Int) < (y.length : Int) := by omega
                  have hpln : p < y.length := by omega
                  have hn9 : y.length ≤ 999 := hn
                  have hG : Int.tmod (a + (b - ((p : Int) + 1)) + ((p : Int) + 1)) ((y.length : Int) + 1) = G := by rw [Int.tmod_eq_emod_of_nonneg (by omega), HPl.out, HG.out]; congr 1; omega
                  have hA : Hid (sT y (p + 1 - 1) = a) := Lib.hid (by rw [HN.out.1]; omega)
                  have hB9 : Hid (bH y y.length - bH y (min (p + 1) y.length) = (b - ((p : Int) + 1))) := Lib.hid (by rw [HN.out.2]; omega)
                  have rP : 0 ≤ G ∧ G ≤ 999 := by rw [HPl.out]; exact ⟨Int.emod_nonneg _ (by omega), by have := Int.emod_lt_of_pos tg (b := (y.length : Int) + 1) (by omega); omega⟩
                  have Hh0 := Lib.hid h0
                  have Hh1 := Lib.hid h1
                  clear ea eb eq1 eq2
                  clear h0 h0' h1 h1' HPl HG HN rG ra rb
                  generalize atB y p = yp at *
                  gi_wp2_with fail
                  refine wpIn_wide.2 ?_
                  go_quiet (fail)
                  rename Nat => nqa
                  gi_wp2_with fail
                  refine wpIn_wide.2 ?_
                  go_quiet (fail)
                  rename Nat => nqb
                  obtain ⟨fn, tmps, assign, body, hyy, hR⟩ := hYp (wr.drewN (nqa + nqb)) ⟨rfl, rfl, rfl, Nat.le_refl _, fun _ _ => rfl⟩
                  gi_wp2_with fail
                  refine (roundIn_room rfl hR).mono ?_
                  rintro e W3 (⟨rfl, hJ3, hK3, hF3⟩ | ⟨rfl, hS3⟩)
                  · gi_wp2_with fail
                    refine ⟨⟨p + 1, by have := Hp.out; omega, by go_num, by rw [hA.out], by rw [hB9.out], hJ3, keep_t (keep_t hB (keep_of (show Below w0.heap.size wr (wr.drewN (nqa + nqb)) from ⟨rfl, rfl, rfl, Nat.le_refl _, fun _ _ => rfl⟩))) hK3⟩, ?_⟩
                    have := Hp.out
                    simp [intOf]
                    omega
                  · gi_wp2_with fail
                    refine bodyPost_ret (results_none rfl _ _ _) rfl ?_
                    exact .inl ⟨_, rfl, hS3⟩
                · obtain ⟨bk, off, rfl, x2⟩ := HRd2.out (by omega)
                  obtain ⟨bk2, off2, rfl, y2⟩ := HYd2.out (by omega)
                  rw [hr2] at x2
                  have dp : decide (0 < (p : Int)) = false := decide_eq_false (by omega)
                  have dpn : decide (0 < p) = false := decide_eq_false (by omega)
                  have dp0 : ¬ 0 < p := by omega
                  have dp1 : ¬ (0 : Int) < (p : Int) := by omega
                  have dq : decide ((p : Int) < (y.length : Int)) = true := decide_eq_true (by omega)
                  have hpl : (p : Int) < (y.length : Int) := by omega
                  have hpln : p < y.length := by omega
                  have hn9 : y.length ≤ 999 := hn
                  have hG : Int.tmod (a + (b - ((p : Int) + 1))) ((y.length : Int) + 1) = G := by rw [Int.tmod_eq_emod_of_nonneg (by omega), HPl.out, HG.out]; congr 1; omega
                  have hA : Hid (sT y (p + 1 - 1) = a) := Lib.hid (by rw [HN.out.1]; omega)
                  have hB9 : Hid (bH y y.length - bH y (min (p + 1) y.length) = (b - ((p : Int) + 1))) := Lib.hid (by rw [HN.out.2]; omega)
                  have rP : 0 ≤ G ∧ G ≤ 999 := by rw [HPl.out]; exact ⟨Int.emod_nonneg _ (by omega), by have := Int.emod_lt_of_pos tg (b := (y.length : Int) + 1) (by omega); omega⟩
                  have Hh0 := Lib.hid h0
                  have Hh1 := Lib.hid h1
                  clear ea eb eq1 eq2
                  clear h0 h0' h1 h1' HPl HG HN rG ra rb
                  generalize atB y p = yp at *
                  gi_wp2_with fail
                  refine wpIn_wide.2 ?_
                  go_quiet (fail)
                  rename Nat => nqa
                  gi_wp2_with fail
                  refine wpIn_wide.2 ?_
                  go_quiet (fail)
                  rename Nat => nqb
                  obtain ⟨fn, tmps, assign, body, hyy, hR⟩ := hYp (wr.drewN (nqa + nqb)) ⟨rfl, rfl, rfl, Nat.le_refl _, fun _ _ => rfl⟩
                  gi_wp2_with fail
                  refine (roundIn_room rfl hR).mono ?_
                  rintro e W3 (⟨rfl, hJ3, hK3, hF3⟩ | ⟨rfl, hS3⟩)
                  · gi_wp2_with fail
                    refine ⟨⟨p + 1, by have := Hp.out; omega, by go_num, by rw [hA.out], by rw [hB9.out], hJ3, keep_t (keep_t hB (keep_of (show Below w0.heap.size wr (wr.drewN (nqa + nqb)) from ⟨rfl, rfl, rfl, Nat.le_refl _, fun _ _ => rfl⟩))) hK3⟩, ?_⟩
                    have := Hp.out
                    simp [intOf]
                    omega
                  · gi_wp2_with fail
                    refine bodyPost_ret (results_none rfl _ _ _) rfl ?_
                    exact .inl ⟨_, rfl, hS3⟩
              · rcases HQ2.out with ⟨h1', eq2⟩ | ⟨h1', hc2, eq2⟩ | ⟨h1', hc2, eq2⟩
                · exfalso; omega
                · obtain ⟨bk, off, rfl, x2⟩ := HRd2.out (by omega)
                  obtain ⟨bk2, off2, rfl, y2⟩ := HYd2.out (by omega)
                  rw [hr2] at x2
                  have dp : decide (0 < (p : Int)) = false := decide_eq_false (by omega)
                  have dpn : decide (0 < p) = false := decide_eq_false (by omega)
                  have dp0 : ¬ 0 < p := by omega
                  have dp1 : ¬ (0 : Int) < (p : Int) := by omega
                  have dq : decide ((p : Int) < (y.length : Int)) = true := decide_eq_true (by omega)
                  have hpl : (p : Int) < (y.length : Int) := by omega
                  have hpln : p < y.length := by omega
                  have hn9 : y.length ≤ 999 := hn
                  have hG : Int.tmod (a + b + ((p : Int) + 1)) ((y.length : Int) + 1) = G := by rw [Int.tmod_eq_emod_of_nonneg (by omega), HPl.out, HG.out]; congr 1; omega
                  have hA : Hid (sT y (p + 1 - 1) = a) := Lib.hid (by rw [HN.out.1]; omega)
                  have hB9 : Hid (bH y y.length - bH y (min (p + 1) y.length) = b) := Lib.hid (by rw [HN.out.2]; omega)
                  have rP : 0 ≤ G ∧ G ≤ 999 := by rw [HPl.out]; exact ⟨Int.emod_nonneg _ (by omega), by have := Int.emod_lt_of_pos tg (b := (y.length : Int) + 1) (by omega); omega⟩
                  have Hh0 := Lib.hid h0
                  have Hh1 := Lib.hid h1
                  clear ea eb eq1 eq2
                  clear h0 h0' h1 h1' HPl HG HN rG ra rb
                  generalize atB y p = yp at *
                  gi_wp2_with fail
                  refine wpIn_wide.2 ?_
                  go_quiet (fail)
                  rename Nat => nqa
                  gi_wp2_with fail
                  refine wpIn_wide.2 ?_
                  go_quiet (fail)
                  rename Nat => nqb
                  obtain ⟨fn, tmps, assign, body, hyy, hR⟩ := hYp (wr.drewN (nqa + nqb)) ⟨rfl, rfl, rfl, Nat.le_refl _, fun _ _ => rfl⟩
                  gi_wp2_with fail
                  refine (roundIn_room rfl hR).mono ?_
                  rintro e W3 (⟨rfl, hJ3, hK3, hF3⟩ | ⟨rfl, hS3⟩)
                  · gi_wp2_with fail
                    refine ⟨⟨p + 1, by have := Hp.out; omega, by go_num, by rw [hA.out], by rw [hB9.out], hJ3, keep_t (keep_t hB (keep_of (show Below w0.heap.size wr (wr.drewN (nqa + nqb)) from ⟨rfl, rfl, rfl, Nat.le_refl _, fun _ _ => rfl⟩))) hK3⟩, ?_⟩
                    have := Hp.out
                    simp [intOf]
                    omega
                  · gi_wp2_with fail
                    refine bodyPost_ret (results_none rfl _ _ _) rfl ?_
                    exact .inl ⟨_, rfl, hS3⟩
                · obtain ⟨bk, off, rfl, x2⟩ := HRd2.out (by omega)
                  obtain ⟨bk2, off2, rfl, y2⟩ := HYd2.out (by omega)
                  rw [hr2] at x2
                  have dp : decide (0 < (p : Int)) = false := decide_eq_false (by omega)
                  have dpn : decide (0 < p) = false := decide_eq_false (by omega)
                  have dp0 : ¬ 0 < p := by omega
                  have dp1 : ¬ (0 : Int) < (p : Int) := by omega
                  have dq : decide ((p : Int) < (y.length : Int)) = true := decide_eq_true (by omega)
                  have hpl : (p : Int) < (y.length : Int) := by omega
                  have hpln : p < y.length := by omega
                  have hn9 : y.length ≤ 999 := hn
                  have hG : Int.tmod (a + b) ((y.length : Int) + 1) = G := by rw [Int.tmod_eq_emod_of_nonneg (by omega), HPl.out, HG.out]; congr 1; omega
                  have hA : Hid (sT y (p + 1 - 1) = a) := Lib.hid (by rw [HN.out.1]; omega)
                  have hB9 : Hid (bH y y.length - bH y (min (p + 1) y.length) = b) := Lib.hid (by rw [HN.out.2]; omega)
                  have rP : 0 ≤ G ∧ G ≤ 999 := by rw [HPl.out]; exact ⟨Int.emod_nonneg _ (by omega), by have := Int.emod_lt_of_pos tg (b := (y.length : Int) + 1) (by omega); omega⟩
                  have Hh0 := Lib.hid h0
                  have Hh1 := Lib.hid h1
                  clear ea eb eq1 eq2
                  clear h0 h0' h1 h1' HPl HG HN rG ra rb
                  generalize atB y p = yp at *
                  gi_wp2_with fail
                  refine wpIn_wide.2 ?_
                  go_quiet (fail)
                  rename Nat => nqa
                  gi_wp2_with fail
                  refine wpIn_wide.2 ?_
                  go_quiet (fail)
                  rename Nat => nqb
                  obtain ⟨fn, tmps, assign, body, hyy, hR⟩ := hYp (wr.drewN (nqa + nqb)) ⟨rfl, rfl, rfl, Nat.le_refl _, fun _ _ => rfl⟩
                  gi_wp2_with fail
                  refine (roundIn_room rfl hR).mono ?_
                  rintro e W3 (⟨rfl, hJ3, hK3, hF3⟩ | ⟨rfl, hS3⟩)
                  · gi_wp2_with fail
                    refine ⟨⟨p + 1, by have := Hp.out; omega, by go_num, by rw [hA.out], by rw [hB9.out], hJ3, keep_t (keep_t hB (keep_of (show Below w0.heap.size wr (wr.drewN (nqa + nqb)) from ⟨rfl, rfl, rfl, Nat.le_refl _, fun _ _ => rfl⟩))) hK3⟩, ?_⟩
                    have := Hp.out
                    simp [intOf]
                    omega
                  · gi_wp2_with fail
                    refine bodyPost_ret (results_none rfl _ _ _) rfl ?_
                    exact .inl ⟨_, rfl, hS3⟩
            · exfalso; omega
            · exfalso; omega
          · rcases HQ1.out with ⟨h0', eq1⟩ | ⟨h0', hc1, eq1⟩ | ⟨h0', hc1, eq1⟩
            · exfalso; omega
            · rcases HBb.out with ⟨h1, eb⟩ | ⟨h1, hr2, eb⟩ | ⟨h1, hr2, eb⟩
              · rcases HQ2.out with ⟨h1', eq2⟩ | ⟨h1', hc2, eq2⟩ | ⟨h1', hc2, eq2⟩
                · obtain ⟨bk, off, rfl, x1⟩ := HRd.out (by omega)
                  obtain ⟨bk2, off2, rfl, y1⟩ := HYd.out (by omega)
                  rw [hr1] at x1
                  have dp : decide (0 < (p : Int)) = true := decide_eq_true (by omega)
                  have dpn : decide (0 < p) = true := decide_eq_true (by omega)
                  have w1 := E1.out (by omega)
                  have w2 := E1'.out (by omega)
                  have hpl1 : ((p - 1 : Nat) : Int) < (y.length : Int) := by omega
                  have hpl1n : p - 1 < y.length := by omega
                  have dq : decide ((p : Int) < (y.length : Int)) = false := decide_eq_false (by omega)
                  have dqn : decide (p < y.length) = false := decide_eq_false (by omega)
                  have hn9 : y.length ≤ 999 := hn
                  have hG : Int.tmod (a + ((p - 1 : Nat) : Int) + b + (p : Int)) ((y.length : Int) + 1) = G := by rw [Int.tmod_eq_emod_of_nonneg (by omega), HPl.out, HG.out]; congr 1; omega
                  have hA : Hid (sT y (p + 1 - 1) = a + ((p - 1 : Nat) : Int)) := Lib.hid (by rw [HN.out.1]; omega)
                  have hB9 : Hid (bH y y.length - bH y (min (p + 1) y.length) = b) := Lib.hid (by rw [HN.out.2]; omega)
                  have rP : 0 ≤ G ∧ G ≤ 999 := by rw [HPl.out]; exact ⟨Int.emod_nonneg _ (by omega), by have := Int.emod_lt_of_pos tg (b := (y.length : Int) + 1) (by omega); omega⟩
                  have Hh0 := Lib.hid h0
                  have Hh1 := Lib.hid h1
                  clear ea eb eq1 eq2
                  clear h0 h0' h1 h1' HPl HG HN rG ra rb
                  generalize p - 1 = pm at *
                  generalize atB y pm = ym at *
                  gi_wp2_with fail
                  refine wpIn_wide.2 ?_
                  go_quiet (fail)
                  rename Nat => nqa
                  gi_wp2_with fail
                  refine wpIn_wide.2 ?_
                  go_quiet (fail)
                  rename Nat => nqb
                  obtain ⟨fn, tmps, assign, body, hyy, hR⟩ := hYp (wr.drewN (nqa + nqb)) ⟨rfl, rfl, rfl, Nat.le_refl _, fun _ _ => rfl⟩
                  gi_wp2_with fail
                  refine (roundIn_room rfl hR).mono ?_
                  rintro e W3 (⟨rfl, hJ3, hK3, hF3⟩ | ⟨rfl, hS3⟩)
                  · gi_wp2_with fail
                    refine ⟨⟨p + 1, by have := Hp.out; omega, by go_num, by rw [hA.out], by rw [hB9.out], hJ3, keep_t (keep_t hB (keep_of (show Below w0.heap.size wr (wr.drewN (nqa + nqb)) from ⟨rfl, rfl, rfl, Nat.le_refl _, fun _ _ => rfl⟩))) hK3⟩, ?_⟩
                    have := Hp.out
                    simp [intOf]
                    omega
                  · gi_wp2_with fail
                    refine bodyPost_ret (results_none rfl _ _ _) rfl ?_
                    exact .inl ⟨_, rfl, hS3⟩
                · exfalso; omega
                · exfalso; omega
              · rcases HQ2.out with ⟨h1', eq2⟩ | ⟨h1', hc2, eq2⟩ | ⟨h1', hc2, eq2⟩
                · exfalso; omega
                · obtain ⟨bk, off, rfl, x1⟩ := HRd.out (by omega)
                  obtain ⟨bk2, off2, rfl, y1⟩ := HYd.out (by omega)
                  rw [hr1] at x1
                  obtain ⟨bk3, off3, eA3, x2⟩ := HRd2.out (by omega)
                  obtain ⟨bk4, off4, eY4, y2⟩ := HYd2.out (by omega)
                  rw [hr2] at x2
                  cases eA3
                  cases eY4
                  have dp : decide (0 < (p : Int)) = true := decide_eq_true (by omega)
                  have dpn : decide (0 < p) = true := decide_eq_true (by omega)
                  have w1 := E1.out (by omega)
                  have w2 := E1'.out (by omega)
                  have hpl1 : ((p - 1 : Nat) : Int) < (y.length : Int) := by omega
                  have hpl1n : p - 1 < y.length := by omega
                  have dq : decide ((p : Int) < (y.length : Int)) = true := decide_eq_true (by omega)
                  have hpl : (p : Int) < (y.length : Int) := by omega
                  have hpln : p < y.length := by omega
                  have hn9 : y.length ≤ 999 := hn
                  have hG : Int.tmod (a + ((p - 1 : Nat) : Int) + (b - ((p : Int) + 1)) + (p : Int) + ((p : Int) + 1)) ((y.length : Int) + 1) = G := by rw [Int.tmod_eq_emod_of_nonneg (by omega), HPl.out, HG.out]; congr 1; omega
                  have hA : Hid (sT y (p + 1 - 1) = a + ((p - 1 : Nat) : Int)) := Lib.hid (by rw [HN.out.1]; omega)
                  have hB9 : Hid (bH y y.length - bH y (min (p + 1) y.length) = (b - ((p : Int) + 1))) := Lib.hid (by rw [HN.out.2]; omega)
                  have rP : 0 ≤ G ∧ G ≤ 999 := by rw [HPl.out]; exact ⟨Int.emod_nonneg _ (by omega), by have := Int.emod_lt_of_pos tg (b := (y.length : Int) + 1) (by omega); omega⟩
                  have Hh0 := Lib.hid h0
                  have Hh1 := Lib.hid h1
                  clear ea eb eq1 eq2
                  clear h0 h0' h1 h1' HPl HG HN rG ra rb
                  generalize p - 1 = pm at *
                  generalize atB y pm = ym at *
                  generalize atB y p = yp at *
                  gi_wp2_with fail
                  refine wpIn_wide.2 ?_
                  go_quiet (fail)
                  rename Nat => nqa
                  gi_wp2_with fail
                  refine wpIn_wide.2 ?_
                  go_quiet (fail)
                  rename Nat => nqb
                  obtain ⟨fn, tmps, assign, body, hyy, hR⟩ := hYp (wr.drewN (nqa + nqb)) ⟨rfl, rfl, rfl, Nat.le_refl _, fun _ _ => rfl⟩
                  gi_wp2_with fail
                  refine (roundIn_room rfl hR).mono ?_
                  rintro e W3 (⟨rfl, hJ3, hK3, hF3⟩ | ⟨rfl, hS3⟩)
                  · gi_wp2_with fail
                    refine ⟨⟨p + 1, by have := Hp.out; omega, by go_num, by rw [hA.out], by rw [hB9.out], hJ3, keep_t (keep_t hB (keep_of (show Below w0.heap.size wr (wr.drewN (nqa + nqb)) from ⟨rfl, rfl, rfl, Nat.le_refl _, fun _ _ => rfl⟩))) hK3⟩, ?_⟩
                    have := Hp.out
                    simp [intOf]
                    omega
                  · gi_wp2_with fail
                    refine bodyPost_ret (results_none rfl _ _ _) rfl ?_
                    exact .inl ⟨_, rfl, hS3⟩
                · obtain ⟨bk, off, rfl, x1⟩ := HRd.out (by omega)
                  obtain ⟨bk2, off2, rfl, y1⟩ := HYd.out (by omega)
                  rw [hr1] at x1
                  obtain ⟨bk3, off3, eA3, x2⟩ := HRd2.out (by omega)
                  obtain ⟨bk4, off4, eY4, y2⟩ := HYd2.out (by omega)
                  rw [hr2] at x2
                  cases eA3
                  cases eY4
                  have dp : decide (0 < (p : Int)) = true := decide_eq_true (by omega)
                  have dpn : decide (0 < p) = true := decide_eq_true (by omega)
                  have w1 := E1.out (by omega)
                  have w2 := E1'.out (by omega)
                  have hpl1 : ((p - 1 : Nat) : Int) < (y.length : Int) := by omega
                  have hpl1n : p - 1 < y.length := by omega
                  have dq : decide ((p : Int) < (y.length : Int)) = true := decide_eq_true (by omega)
                  have hpl : (p : Int) < (y.length : Int) := by omega
                  have hpln : p < y.length := by omega
                  have hn9 : y.length ≤ 999 := hn
                  have hG : Int.tmod (a + ((p - 1 : Nat) : Int) + (b - ((p : Int) + 1)) + (p : Int)) ((y.length : Int) + 1) = G := by rw [Int.tmod_eq_emod_of_nonneg (by omega), HPl.out, HG.out]; congr 1; omega
                  have hA : Hid (sT y (p + 1 - 1) = a + ((p - 1 : Nat) : Int)) := Lib.hid (by rw [HN.out.1]; omega)
                  have hB9 : Hid (bH y y.length - bH y (min (p + 1) y.length) = (b - ((p : Int) + 1))) := Lib.hid (by rw [HN.out.2]; omega)
                  have rP : 0 ≤ G ∧ G ≤ 999 := by rw [HPl.out]; exact ⟨Int.emod_nonneg _ (by omega), by have := Int.emod_lt_of_pos tg (b := (y.length : Int) + 1) (by omega); omega⟩
                  have Hh0 := Lib.hid h0
                  have Hh1 := Lib.hid h1
                  clear ea eb eq1 eq2
                  clear h0 h0' h1 h1' HPl HG HN rG ra rb
                  generalize p - 1 = pm at *
                  generalize atB y pm = ym at *
                  generalize atB y p = yp at *
                  gi_wp2_with fail
                  refine wpIn_wide.2 ?_
                  go_quiet (fail)
                  rename Nat => nqa
                  gi_wp2_with fail
                  refine wpIn_wide.2 ?_
                  go_quiet (fail)
                  rename Nat => nqb
                  obtain ⟨fn, tmps, assign, body, hyy, hR⟩ := hYp (wr.drewN (nqa + nqb)) ⟨rfl, rfl, rfl, Nat.le_refl _, fun _ _ => rfl⟩
                  gi_wp2_with fail
                  refine (roundIn_room rfl hR).mono ?_
                  rintro e W3 (⟨rfl, hJ3, hK3, hF3⟩ | ⟨rfl, hS3⟩)
                  · gi_wp2_with fail
                    refine ⟨⟨p + 1, by have := Hp.out; omega, by go_num, by rw [hA.out], by rw [hB9.out], hJ3, keep_t (keep_t hB (keep_of (show Below w0.heap.size wr (wr.drewN (nqa + nqb)) from ⟨rfl, rfl, rfl, Nat.le_refl _, fun _ _ => rfl⟩))) hK3⟩, ?_⟩
                    have := Hp.out
                    simp [intOf]
                    omega
                  · gi_wp2_with fail
                    refine bodyPost_ret (results_none rfl _ _ _) rfl ?_
                    exact .inl ⟨_, rfl, hS3⟩
              · rcases HQ2.out with ⟨h1', eq2⟩ | ⟨h1', hc2, eq2⟩ | ⟨h1', hc2, eq2⟩
                · exfalso; omega
                · obtain ⟨bk, off, rfl, x1⟩ := HRd.out (by omega)
                  obtain ⟨bk2, off2, rfl, y1⟩ := HYd.out (by omega)
                  rw [hr1] at x1
                  obtain ⟨bk3, off3, eA3, x2⟩ := HRd2.out (by omega)
                  obtain ⟨bk4, off4, eY4, y2⟩ := HYd2.out (by omega)
                  rw [hr2] at x2
                  cases eA3
                  cases eY4
                  have dp : decide (0 < (p : Int)) = true := decide_eq_true (by omega)
                  have dpn : decide (0 < p) = true := decide_eq_true (by omega)
                  have w1 := E1.out (by omega)
                  have w2 := E1'.out (by omega)
                  have hpl1 : ((p - 1 : Nat) : Int) < (y.length : Int) := by omega
                  have hpl1n : p - 1 < y.length := by omega
                  have dq : decide ((p : Int) < (y.length : Int)) = true := decide_eq_true (by omega)
                  have hpl : (p : Int) < (y.length : Int) := by omega
                  have hpln : p < y.length := by omega
                  have hn9 : y.length ≤ 999 := hn
                  have hG : Int.tmod (a + ((p - 1 : Nat) : Int) + b + (p : Int) + ((p : Int) + 1)) ((y.length : Int) + 1) = G := by rw [Int.tmod_eq_emod_of_nonneg (by omega), HPl.out, HG.out]; congr 1; omega
                  have hA : Hid (sT y (p + 1 - 1) = a + ((p - 1 : Nat) : Int)) := Lib.hid (by rw [HN.out.1]; omega)
                  have hB9 : Hid (bH y y.length - bH y (min (p + 1) y.length) = b) := Lib.hid (by rw [HN.out.2]; omega)
                  have rP : 0 ≤ G ∧ G ≤ 999 := by rw [HPl.out]; exact ⟨Int.emod_nonneg _ (by omega), by have := Int.emod_lt_of_pos tg (b := (y.length : Int) + 1) (by omega); omega⟩
                  have Hh0 := Lib.hid h0
                  have Hh1 := Lib.hid h1
                  clear ea eb eq1 eq2
                  clear h0 h0' h1 h1' HPl HG HN rG ra rb
                  generalize p - 1 = pm at *
                  generalize atB y pm = ym at *
                  generalize atB y p = yp at *
                  gi_wp2_with fail
                  refine wpIn_wide.2 ?_
                  go_quiet (fail)
                  rename Nat => nqa
                  gi_wp2_with fail
                  refine wpIn_wide.2 ?_
                  go_quiet (fail)
                  rename Nat => nqb
                  obtain ⟨fn, tmps, assign, body, hyy, hR⟩ := hYp (wr.drewN (nqa + nqb)) ⟨rfl, rfl, rfl, Nat.le_refl _, fun _ _ => rfl⟩
                  gi_wp2_with fail
                  refine (roundIn_room rfl hR).mono ?_
                  rintro e W3 (⟨rfl, hJ3, hK3, hF3⟩ | ⟨rfl, hS3⟩)
                  · gi_wp2_with fail
                    refine ⟨⟨p + 1, by have := Hp.out; omega, by go_num, by rw [hA.out], by rw [hB9.out], hJ3, keep_t (keep_t hB (keep_of (show Below w0.heap.size wr (wr.drewN (nqa + nqb)) from ⟨rfl, rfl, rfl, Nat.le_refl _, fun _ _ => rfl⟩))) hK3⟩, ?_⟩
                    have := Hp.out
                    simp [intOf]
                    omega
                  · gi_wp2_with fail
                    refine bodyPost_ret (results_none rfl _ _ _) rfl ?_
                    exact .inl ⟨_, rfl, hS3⟩
                · obtain ⟨bk, off, rfl, x1⟩ := HRd.out (by omega)
                  obtain ⟨bk2, off2, rfl, y1⟩ := HYd.out (by omega)
                  rw [hr1] at x1
                  obtain ⟨bk3, off3, eA3, x2⟩ := HRd2.out (by omega)
                  obtain ⟨bk4, off4, eY4, y2⟩ := HYd2.out (by omega)
                  rw [hr2] at x2
                  cases eA3
                  cases eY4
                  have dp : decide (0 < (p : Int)) = true := decide_eq_true (by omega)
                  have dpn : decide (0 < p) = true := decide_eq_true (by omega)
                  have w1 := E1.out (by omega)
                  have w2 := E1'.out (by omega)
                  have hpl1 : ((p - 1 : Nat) : Int) < (y.length : Int) := by omega
                  have hpl1n : p - 1 < y.length := by omega
                  have dq : decide ((p : Int) < (y.length : Int)) = true := decide_eq_true (by omega)
                  have hpl : (p : Int) < (y.length : Int) := by omega
                  have hpln : p < y.length := by omega
                  have hn9 : y.length ≤ 999 := hn
                  have hG : Int.tmod (a + ((p - 1 : Nat) : Int) + b + (p : Int)) ((y.length : Int) + 1) = G := by rw [Int.tmod_eq_emod_of_nonneg (by omega), HPl.out, HG.out]; congr 1; omega
                  have hA : Hid (sT y (p + 1 - 1) = a + ((p - 1 : Nat) : Int)) := Lib.hid (by rw [HN.out.1]; omega)
                  have hB9 : Hid (bH y y.length - bH y (min (p + 1) y.length) = b) := Lib.hid (by rw [HN.out.2]; omega)
                  have rP : 0 ≤ G ∧ G ≤ 999 := by rw [HPl.out]; exact ⟨Int.emod_nonneg _ (by omega), by have := Int.emod_lt_of_pos tg (b := (y.length : Int) + 1) (by omega); omega⟩
                  have Hh0 := Lib.hid h0
                  have Hh1 := Lib.hid h1
                  clear ea eb eq1 eq2
                  clear h0 h0' h1 h1' HPl HG HN rG ra rb
                  generalize p - 1 = pm at *
                  generalize atB y pm = ym at *
                  generalize atB y p = yp at *
                  gi_wp2_with fail
                  refine wpIn_wide.2 ?_
                  go_quiet (fail)
                  rename Nat => nqa
                  gi_wp2_with fail
                  refine wpIn_wide.2 ?_
                  go_quiet (fail)
                  rename Nat => nqb
                  obtain ⟨fn, tmps, assign, body, hyy, hR⟩ := hYp (wr.drewN (nqa + nqb)) ⟨rfl, rfl, rfl, Nat.le_refl _, fun _ _ => rfl⟩
                  gi_wp2_with fail
                  refine (roundIn_room rfl hR).mono ?_
                  rintro e W3 (⟨rfl, hJ3, hK3, hF3⟩ | ⟨rfl, hS3⟩)
                  · gi_wp2_with fail
                    refine ⟨⟨p + 1, by have := Hp.out; omega, by go_num, by rw [hA.out], by rw [hB9.out], hJ3, keep_t (keep_t hB (keep_of (show Below w0.heap.size wr (wr.drewN (nqa + nqb)) from ⟨rfl, rfl, rfl, Nat.le_refl _, fun _ _ => rfl⟩))) hK3⟩, ?_⟩
                    have := Hp.out
                    simp [intOf]
                    omega
                  · gi_wp2_with fail
                    refine bodyPost_ret (results_none rfl _ _ _) rfl ?_
                    exact .inl ⟨_, rfl, hS3⟩
            · rcases HBb.out with ⟨h1, eb⟩ | ⟨h1, hr2, eb⟩ | ⟨h1, hr2, eb⟩
              · rcases HQ2.out with ⟨h1', eq2⟩ | ⟨h1', hc2, eq2⟩ | ⟨h1', hc2, eq2⟩
                · obtain ⟨bk, off, rfl, x1⟩ := HRd.out (by omega)
                  obtain ⟨bk2, off2, rfl, y1⟩ := HYd.out (by omega)
                  rw [hr1] at x1
                  have dp : decide (0 < (p : Int)) = true := decide_eq_true (by omega)
                  have dpn : decide (0 < p) = true := decide_eq_true (by omega)
                  have w1 := E1.out (by omega)
                  have w2 := E1'.out (by omega)
                  have hpl1 : ((p - 1 : Nat) : Int) < (y.length : Int) := by omega
                  have hpl1n : p - 1 < y.length := by omega
                  have dq : decide ((p : Int) < (y.length : Int)) = false := decide_eq_false (by omega)
                  have dqn : decide (p < y.length) = false := decide_eq_false (by omega)
                  have hn9 : y.length ≤ 999 := hn
                  have hG : Int.tmod (a + ((p - 1 : Nat) : Int) + b) ((y.length : Int) + 1) = G := by rw [Int.tmod_eq_emod_of_nonneg (by omega), HPl.out, HG.out]; congr 1; omega
                  have hA : Hid (sT y (p + 1 - 1) = a + ((p - 1 : Nat) : Int)) := Lib.hid (by rw [HN.out.1]; omega)
                  have hB9 : Hid (bH y y.length - bH y (min (p + 1) y.length) = b) := Lib.hid (by rw [HN.out.2]; omega)
                  have rP : 0 ≤ G ∧ G ≤ 999 := by rw [HPl.out]; exact ⟨Int.emod_nonneg _ (by omega), by have := Int.emod_lt_of_pos tg (b := (y.length : Int) + 1) (by omega); omega⟩
                  have Hh0 := Lib.hid h0
                  have Hh1 := Lib.hid h1
                  clear ea eb eq1 eq2
                  clear h0 h0' h1 h1' HPl HG HN rG ra rb
                  generalize p - 1 = pm at *
                  generalize atB y pm = ym at *
                  gi_wp2_with fail
                  refine wpIn_wide.2 ?_
                  go_quiet (fail)
                  rename Nat => nqa
                  gi_wp2_with fail
                  refine wpIn_wide.2 ?_
                  go_quiet (fail)
                  rename Nat => nqb
                  obtain ⟨fn, tmps, assign, body, hyy, hR⟩ := hYp (wr.drewN (nqa + nqb)) ⟨rfl, rfl, rfl, Nat.le_refl _, fun _ _ => rfl⟩
                  gi_wp2_with fail
                  refine (roundIn_room rfl hR).mono ?_
                  rintro e W3 (⟨rfl, hJ3, hK3, hF3⟩ | ⟨rfl, hS3⟩)
                  · gi_wp2_with fail
                    refine ⟨⟨p + 1, by have := Hp.out; omega, by go_num, by rw [hA.out], by rw [hB9.out], hJ3, keep_t (keep_t hB (keep_of (show Below w0.heap.size wr (wr.drewN (nqa + nqb)) from ⟨rfl, rfl, rfl, Nat.le_refl _, fun _ _ => rfl⟩))) hK3⟩, ?_⟩
                    have := Hp.out
                    simp [intOf]
                    omega
                  · gi_wp2_with fail
                    refine bodyPost_ret (results_none rfl _ _ _) rfl ?_
                    exact .inl ⟨_, rfl, hS3⟩
                · exfalso; omega
                · exfalso; omega
              · rcases HQ2.out with ⟨h1', eq2⟩ | ⟨h1', hc2, eq2⟩ | ⟨h1', hc2, eq2⟩
                · exfalso; omega
                · obtain ⟨bk, off, rfl, x1⟩ := HRd.out (by omega)
                  obtain ⟨bk2, off2, rfl, y1⟩ := HYd.out (by omega)
                  rw [hr1] at x1
                  obtain ⟨bk3, off3, eA3, x2⟩ := HRd2.out (by omega)
                  obtain ⟨bk4, off4, eY4, y2⟩ := HYd2.out (by omega)
                  rw [hr2] at x2
                  cases eA3
                  cases eY4
                  have dp : decide (0 < (p : Int)) = true := decide_eq_true (by omega)
                  have dpn : decide (0 < p) = true := decide_eq_true (by omega)
                  have w1 := E1.out (by omega)
                  have w2 := E1'.out (by omega)
                  have hpl1 : ((p - 1 : Nat) : Int) < (y.length : Int) := by omega
                  have hpl1n : p - 1 < y.length := by omega
                  have dq : decide ((p : Int) < (y.length : Int)) = true := decide_eq_true (by omega)
                  have hpl : (p : Int) < (y.length : Int) := by omega
                  have hpln : p < y.length := by omega
                  have hn9 : y.length ≤ 999 := hn
                  have hG : Int.tmod (a + ((p - 1 : Nat) : Int) + (b - ((p : Int) + 1)) + ((p : Int) + 1)) ((y.length : Int) + 1) = G := by rw [Int.tmod_eq_emod_of_nonneg (by omega), HPl.out, HG.out]; congr 1; omega
                  have hA : Hid (sT y (p + 1 - 1) = a + ((p - 1 : Nat) : Int)) := Lib.hid (by rw [HN.out.1]; omega)
                  have hB9 : Hid (bH y y.length - bH y (min (p + 1) y.length) = (b - ((p : Int) + 1))) := Lib.hid (by rw [HN.out.2]; omega)
                  have rP : 0 ≤ G ∧ G ≤ 999 := by rw [HPl.out]; exact ⟨Int.emod_nonneg _ (by omega), by have := Int.emod_lt_of_pos tg (b := (y.length : Int) + 1) (by omega); omega⟩
                  have Hh0 := Lib.hid h0
                  have Hh1 := Lib.hid h1
                  clear ea eb eq1 eq2
                  clear h0 h0' h1 h1' HPl HG HN rG ra rb
                  generalize p - 1 = pm at *
                  generalize atB y pm = ym at *
                  generalize atB y p = yp at *
                  gi_wp2_with fail
                  refine wpIn_wide.2 ?_
                  go_quiet (fail)
                  rename Nat => nqa
                  gi_wp2_with fail
                  refine wpIn_wide.2 ?_
                  go_quiet (fail)
                  rename Nat => nqb
                  obtain ⟨fn, tmps, assign, body, hyy, hR⟩ := hYp (wr.drewN (nqa + nqb)) ⟨rfl, rfl, rfl, Nat.le_refl _, fun _ _ => rfl⟩
                  gi_wp2_with fail
                  refine (roundIn_room rfl hR).mono ?_
                  rintro e W3 (⟨rfl, hJ3, hK3, hF3⟩ | ⟨rfl, hS3⟩)
                  · gi_wp2_with fail
                    refine ⟨⟨p + 1, by have := Hp.out; omega, by go_num, by rw [hA.out], by rw [hB9.out], hJ3, keep_t (keep_t hB (keep_of (show Below w0.heap.size wr (wr.drewN (nqa + nqb)) from ⟨rfl, rfl, rfl, Nat.le_refl _, fun _ _ => rfl⟩))) hK3⟩, ?_⟩
                    have := Hp.out
                    simp [intOf]
                    omega
                  · gi_wp2_with fail
                    refine bodyPost_ret (results_none rfl _ _ _) rfl ?_
                    exact .inl ⟨_, rfl, hS3⟩
                · obtain ⟨bk, off, rfl, x1⟩ := HRd.out (by omega)
                  obtain ⟨bk2, off2, rfl, y1⟩ := HYd.out (by omega)
                  rw [hr1] at x1
                  obtain ⟨bk3, off3, eA3, x2⟩ := HRd2.out (by omega)
                  obtain ⟨bk4, off4, eY4, y2⟩ := HYd2.out (by omega)
                  rw [hr2] at x2
                  cases eA3
                  cases eY4
                  have dp : decide (0 < (p : Int)) = true := decide_eq_true (by omega)
                  have dpn : decide (0 < p) = true := decide_eq_true (by omega)
                  have w1 := E1.out (by omega)
                  have w2 := E1'.out (by omega)
                  have hpl1 : ((p - 1 : Nat) : Int) < (y.length : Int) := by omega
                  have hpl1n : p - 1 < y.length := by omega
                  have dq : decide ((p : Int) < (y.length : Int)) = true := decide_eq_true (by omega)
                  have hpl : (p : Int) < (y.length : Int) := by omega
                  have hpln : p < y.length := by omega
                  have hn9 : y.length ≤ 999 := hn
                  have hG : Int.tmod (a + ((p - 1 : Nat) : Int) + (b - ((p : Int) + 1))) ((y.length : Int) + 1) = G := by rw [Int.tmod_eq_emod_of_nonneg (by omega), HPl.out, HG.out]; congr 1; omega
                  have hA : Hid (sT y (p + 1 - 1) = a + ((p - 1 : Nat) : Int)) := Lib.hid (by rw [HN.out.1]; omega)
                  have hB9 : Hid (bH y y.length - bH y (min (p + 1) y.length) = (b - ((p : Int) + 1))) := Lib.hid (by rw [HN.out.2]; omega)
                  have rP : 0 ≤ G ∧ G ≤ 999 := by rw [HPl.out]; exact ⟨Int.emod_nonneg _ (by omega), by have := Int.emod_lt_of_pos tg (b := (y.length : Int) + 1) (by omega); omega⟩
                  have Hh0 := Lib.hid h0
                  have Hh1 := Lib.hid h1
                  clear ea eb eq1 eq2
                  clear h0 h0' h1 h1' HPl HG HN rG ra rb
                  generalize p - 1 = pm at *
                  generalize atB y pm = ym at *
                  generalize atB y p = yp at *
                  gi_wp2_with fail
                  refine wpIn_wide.2 ?_
                  go_quiet (fail)
                  rename Nat => nqa
                  gi_wp2_with fail
                  refine wpIn_wide.2 ?_
                  go_quiet (fail)
                  rename Nat => nqb
                  obtain ⟨fn, tmps, assign, body, hyy, hR⟩ := hYp (wr.drewN (nqa + nqb)) ⟨rfl, rfl, rfl, Nat.le_refl _, fun _ _ => rfl⟩
                  gi_wp2_with fail
                  refine (roundIn_room rfl hR).mono ?_
                  rintro e W3 (⟨rfl, hJ3, hK3, hF3⟩ | ⟨rfl, hS3⟩)
                  · gi_wp2_with fail
                    refine ⟨⟨p + 1, by have := Hp.out; omega, by go_num, by rw [hA.out], by rw [hB9.out], hJ3, keep_t (keep_t hB (keep_of (show Below w0.heap.size wr (wr.drewN (nqa + nqb)) from ⟨rfl, rfl, rfl, Nat.le_refl _, fun _ _ => rfl⟩))) hK3⟩, ?_⟩
                    have := Hp.out
                    simp [intOf]
                    omega
                  · gi_wp2_with fail
                    refine bodyPost_ret (results_none rfl _ _ _) rfl ?_
                    exact .inl ⟨_, rfl, hS3⟩
              · rcases HQ2.out with ⟨h1', eq2⟩ | ⟨h1', hc2, eq2⟩ | ⟨h1', hc2, eq2⟩
                · exfalso; omega
                · obtain ⟨bk, off, rfl, x1⟩ := HRd.out (by omega)
                  obtain ⟨bk2, off2, rfl, y1⟩ := HYd.out (by omega)
                  rw [hr1] at x1
                  obtain ⟨bk3, off3, eA3, x2⟩ := HRd2.out (by omega)
                  obtain ⟨bk4, off4, eY4, y2⟩ := HYd2.out (by omega)
                  rw [hr2] at x2
                  cases eA3
                  cases eY4
                  have dp : decide (0 < (p : Int)) = true := decide_eq_true (by omega)
                  have dpn : decide (0 < p) = true := decide_eq_true (by omega)
                  have w1 := E1.out (by omega)
                  have w2 := E1'.out (by omega)
                  have hpl1 : ((p - 1 : Nat) : Int) < (y.length : Int) := by omega
                  have hpl1n : p - 1 < y.length := by omega
                  have dq : decide ((p : Int) < (y.length : Int)) = true := decide_eq_true (by omega)
                  have hpl : (p : Int) < (y.length : Int) := by omega
                  have hpln : p < y.length := by omega
                  have hn9 : y.length ≤ 999 := hn
                  have hG : Int.tmod (a + ((p - 1 : Nat) : Int) + b + ((p : Int) + 1)) ((y.length : Int) + 1) = G := by rw [Int.tmod_eq_emod_of_nonneg (by omega), HPl.out, HG.out]; congr 1; omega
                  have hA : Hid (sT y (p + 1 - 1) = a + ((p - 1 : Nat) : Int)) := Lib.hid (by rw [HN.out.1]; omega)
                  have hB9 : Hid (bH y y.length - bH y (min (p + 1) y.length) = b) := Lib.hid (by rw [HN.out.2]; omega)
                  have rP : 0 ≤ G ∧ G ≤ 999 := by rw [HPl.out]; exact ⟨Int.emod_nonneg _ (by omega), by have := Int.emod_lt_of_pos tg (b := (y.length : Int) + 1) (by omega); omega⟩
                  have Hh0 := Lib.hid h0
                  have Hh1 := Lib.hid h1
                  clear ea eb eq1 eq2
                  clear h0 h0' h1 h1' HPl HG HN rG ra rb
                  generalize p - 1 = pm at *
                  generalize atB y pm = ym at *
                  generalize atB y p = yp at *
                  gi_wp2_with fail
                  refine wpIn_wide.2 ?_
                  go_quiet (fail)
                  rename Nat => nqa
                  gi_wp2_with fail
                  refine wpIn_wide.2 ?_
                  go_quiet (fail)
                  rename Nat => nqb
                  obtain ⟨fn, tmps, assign, body, hyy, hR⟩ := hYp (wr.drewN (nqa + nqb)) ⟨rfl, rfl, rfl, Nat.le_refl _, fun _ _ => rfl⟩
                  gi_wp2_with fail
                  refine (roundIn_room rfl hR).mono ?_
                  rintro e W3 (⟨rfl, hJ3, hK3, hF3⟩ | ⟨rfl, hS3⟩)
                  · gi_wp2_with fail
                    refine ⟨⟨p + 1, by have := Hp.out; omega, by go_num, by rw [hA.out], by rw [hB9.out], hJ3, keep_t (keep_t hB (keep_of (show Below w0.heap.size wr (wr.drewN (nqa + nqb)) from ⟨rfl, rfl, rfl, Nat.le_refl _, fun _ _ => rfl⟩))) hK3⟩, ?_⟩
                    have := Hp.out
                    simp [intOf]
                    omega
                  · gi_wp2_with fail
                    refine bodyPost_ret (results_none rfl _ _ _) rfl ?_
                    exact .inl ⟨_, rfl, hS3⟩
                · obtain ⟨bk, off, rfl, x1⟩ := HRd.out (by omega)
                  obtain ⟨bk2, off2, rfl, y1⟩ := HYd.out (by omega)
                  rw [hr1] at x1
                  obtain ⟨bk3, off3, eA3, x2⟩ := HRd2.out (by omega)
                  obtain ⟨bk4, off4, eY4, y2⟩ := HYd2.out (by omega)
                  rw [hr2] at x2
                  cases eA3
                  cases eY4
                  have dp : decide (0 < (p : Int)) = true := decide_eq_true (by omega)
                  have dpn : decide (0 < p) = true := decide_eq_true (by omega)
                  have w1 := E1.out (by omega)
                  have w2 := E1'.out (by omega)
                  have hpl1 : ((p - 1 : Nat) : Int) < (y.length : Int) := by omega
                  have hpl1n : p - 1 < y.length := by omega
                  have dq : decide ((p : Int) < (y.length : Int)) = true := decide_eq_true (by omega)
                  have hpl : (p : Int) < (y.length : Int) := by omega
                  have hpln : p < y.length := by omega
                  have hn9 : y.length ≤ 999 := hn
                  have hG : Int.tmod (a + ((p - 1 : Nat) : Int) + b) ((y.length : Int) + 1) = G := by rw [Int.tmod_eq_emod_of_nonneg (by omega), HPl.out, HG.out]; congr 1; omega
                  have hA : Hid (sT y (p + 1 - 1) = a + ((p - 1 : Nat) : Int)) := Lib.hid (by rw [HN.out.1]; omega)
                  have hB9 : Hid (bH y y.length - bH y (min (p + 1) y.length) = b) := Lib.hid (by rw [HN.out.2]; omega)
                  have rP : 0 ≤ G ∧ G ≤ 999 := by rw [HPl.out]; exact ⟨Int.emod_nonneg _ (by omega), by have := Int.emod_lt_of_pos tg (b := (y.length : Int) + 1) (by omega); omega⟩
                  have Hh0 := Lib.hid h0
                  have Hh1 := Lib.hid h1
                  clear ea eb eq1 eq2
                  clear h0 h0' h1 h1' HPl HG HN rG ra rb
                  generalize p - 1 = pm at *
                  generalize atB y pm = ym at *
                  generalize atB y p = yp at *
                  gi_wp2_with fail
                  refine wpIn_wide.2 ?_
                  go_quiet (fail)
                  rename Nat => nqa
                  gi_wp2_with fail
                  refine wpIn_wide.2 ?_
                  go_quiet (fail)
                  rename Nat => nqb
                  obtain ⟨fn, tmps, assign, body, hyy, hR⟩ := hYp (wr.drewN (nqa + nqb)) ⟨rfl, rfl, rfl, Nat.le_refl _, fun _ _ => rfl⟩
                  gi_wp2_with fail
                  refine (roundIn_room rfl hR).mono ?_
                  rintro e W3 (⟨rfl, hJ3, hK3, hF3⟩ | ⟨rfl, hS3⟩)
                  · gi_wp2_with fail
                    refine ⟨⟨p + 1, by have := Hp.out; omega, by go_num, by rw [hA.out], by rw [hB9.out], hJ3, keep_t (keep_t hB (keep_of (show Below w0.heap.size wr (wr.drewN (nqa + nqb)) from ⟨rfl, rfl, rfl, Nat.le_refl _, fun _ _ => rfl⟩))) hK3⟩, ?_⟩
                    have := Hp.out
                    simp [intOf]
                    omega
                  · gi_wp2_with fail
                    refine bodyPost_ret (results_none rfl _ _ _) rfl ?_
                    exact .inl ⟨_, rfl, hS3⟩
          · rcases HQ1.out with ⟨h0', eq1⟩ | ⟨h0', hc1, eq1⟩ | ⟨h0', hc1, eq1⟩
            · exfalso; omega
            · rcases HBb.out with ⟨h1, eb⟩ | ⟨h1, hr2, eb⟩ | ⟨h1, hr2, eb⟩
              · rcases HQ2.out with ⟨h1', eq2⟩ | ⟨h1', hc2, eq2⟩ | ⟨h1', hc2, eq2⟩
                · obtain ⟨bk, off, rfl, x1⟩ := HRd.out (by omega)
                  obtain ⟨bk2, off2, rfl, y1⟩ := HYd.out (by omega)
                  rw [hr1] at x1
                  have dp : decide (0 < (p : Int)) = true := decide_eq_true (by omega)
                  have dpn : decide (0 < p) = true := decide_eq_true (by omega)
                  have w1 := E1.out (by omega)
                  have w2 := E1'.out (by omega)
                  have hpl1 : ((p - 1 : Nat) : Int) < (y.length : Int) := by omega
                  have hpl1n : p - 1 < y.length := by omega
                  have dq : decide ((p : Int) < (y.length : Int)) = false := decide_eq_false (by omega)
                  have dqn : decide (p < y.length) = false := decide_eq_false (by omega)
                  have hn9 : y.length ≤ 999 := hn
                  have hG : Int.tmod (a + b + (p : Int)) ((y.length : Int) + 1) = G := by rw [Int.tmod_eq_emod_of_nonneg (by omega), HPl.out, HG.out]; congr 1; omega
                  have hA : Hid (sT y (p + 1 - 1) = a) := Lib.hid (by rw [HN.out.1]; omega)
                  have hB9 : Hid (bH y y.length - bH y (min (p + 1) y.length) = b) := Lib.hid (by rw [HN.out.2]; omega)
                  have rP : 0 ≤ G ∧ G ≤ 999 := by rw [HPl.out]; exact ⟨Int.emod_nonneg _ (by omega), by have := Int.emod_lt_of_pos tg (b := (y.length : Int) + 1) (by omega); omega⟩
                  have Hh0 := Lib.hid h0
                  have Hh1 := Lib.hid h1
                  clear ea eb eq1 eq2
                  clear h0 h0' h1 h1' HPl HG HN rG ra rb
                  generalize p - 1 = pm at *
                  generalize atB y pm = ym at *
                  gi_wp2_with fail
                  refine wpIn_wide.2 ?_
                  go_quiet (fail)
                  rename Nat => nqa
                  gi_wp2_with fail
                  refine wpIn_wide.2 ?_
                  go_quiet (fail)
                  rename Nat => nqb
                  obtain ⟨fn, tmps, assign, body, hyy, hR⟩ := hYp (wr.drewN (nqa + nqb)) ⟨rfl, rfl, rfl, Nat.le_refl _, fun _ _ => rfl⟩
                  gi_wp2_with fail
                  refine (roundIn_room rfl hR).mono ?_
                  rintro e W3 (⟨rfl, hJ3, hK3, hF3⟩ | ⟨rfl, hS3⟩)
                  · gi_wp2_with fail
                    refine ⟨⟨p + 1, by have := Hp.out; omega, by go_num, by rw [hA.out], by rw [hB9.out], hJ3, keep_t (keep_t hB (keep_of (show Below w0.heap.size wr (wr.drewN (nqa + nqb)) from ⟨rfl, rfl, rfl, Nat.le_refl _, fun _ _ => rfl⟩))) hK3⟩, ?_⟩
                    have := Hp.out
                    simp [intOf]
                    omega
                  · gi_wp2_with fail
                    refine bodyPost_ret (results_none rfl _ _ _) rfl ?_
                    exact .inl ⟨_, rfl, hS3⟩
                · exfalso; omega
                · exfalso; omega
              · rcases HQ2.out with ⟨h1', eq2⟩ | ⟨h1', hc2, eq2⟩ | ⟨h1', hc2, eq2⟩
                · exfalso; omega
                · obtain ⟨bk, off, rfl, x1⟩ := HRd.out (by omega)
                  obtain ⟨bk2, off2, rfl, y1⟩ := HYd.out (by omega)
                  rw [hr1] at x1
                  obtain ⟨bk3, off3, eA3, x2⟩ := HRd2.out (by omega)
                  obtain ⟨bk4, off4, eY4, y2⟩ := HYd2.out (by omega)
                  rw [hr2] at x2
                  cases eA3
                  cases eY4
                  have dp : decide (0 < (p : Int)) = true := decide_eq_true (by omega)
                  have dpn : decide (0 < p) = true := decide_eq_true (by omega)
                  have w1 := E1.out (by omega)
                  have w2 := E1'.out (by omega)
                  have hpl1 : ((p - 1 : Nat) : Int) < (y.length : Int) := by omega
                  have hpl1n : p - 1 < y.length := by omega
                  have dq : decide ((p : Int) < (y.length : Int)) = true := decide_eq_true (by omega)
                  have hpl : (p : Int) < (y.length : Int) := by omega
                  have hpln : p < y.length := by omega
                  have hn9 : y.length ≤ 999 := hn
                  have hG : Int.tmod (a + (b - ((p : Int) + 1)) + (p : Int) + ((p : Int) + 1)) ((y.length : Int) + 1) = G := by rw [Int.tmod_eq_emod_of_nonneg (by omega), HPl.out, HG.out]; congr 1; omega
                  have hA : Hid (sT y (p + 1 - 1) = a) := Lib.hid (by rw [HN.out.1]; omega)
                  have hB9 : Hid (bH y y.length - bH y (min (p + 1) y.length) = (b - ((p : Int) + 1))) := Lib.hid (by rw [HN.out.2]; omega)
                  have rP : 0 ≤ G ∧ G ≤ 999 := by rw [HPl.out]; exact ⟨Int.emod_nonneg _ (by omega), by have := Int.emod_lt_of_pos tg (b := (y.length : Int) + 1) (by omega); omega⟩
                  have Hh0 := Lib.hid h0
                  have Hh1 := Lib.hid h1
                  clear ea eb eq1 eq2
                  clear h0 h0' h1 h1' HPl HG HN rG ra rb
                  generalize p - 1 = pm at *
                  generalize atB y pm = ym at *
                  generalize atB y p = yp at *
                  gi_wp2_with fail
                  refine wpIn_wide.2 ?_
                  go_quiet (fail)
                  rename Nat => nqa
                  gi_wp2_with fail
                  refine wpIn_wide.2 ?_
                  go_quiet (fail)
                  rename Nat => nqb
                  obtain ⟨fn, tmps, assign, body, hyy, hR⟩ := hYp (wr.drewN (nqa + nqb)) ⟨rfl, rfl, rfl, Nat.le_refl _, fun _ _ => rfl⟩
                  gi_wp2_with fail
                  refine (roundIn_room rfl hR).mono ?_
                  rintro e W3 (⟨rfl, hJ3, hK3, hF3⟩ | ⟨rfl, hS3⟩)
                  · gi_wp2_with fail
                    refine ⟨⟨p + 1, by have := Hp.out; omega, by go_num, by rw [hA.out], by rw [hB9.out], hJ3, keep_t (keep_t hB (keep_of (show Below w0.heap.size wr (wr.drewN (nqa + nqb)) from ⟨rfl, rfl, rfl, Nat.le_refl _, fun _ _ => rfl⟩))) hK3⟩, ?_⟩
                    have := Hp.out
                    simp [intOf]
                    omega
                  · gi_wp2_with fail
                    refine bodyPost_ret (results_none rfl _ _ _) rfl ?_
                    exact .inl ⟨_, rfl, hS3⟩
                · obtain ⟨bk, off, rfl, x1⟩ := HRd.out (by omega)
                  obtain ⟨bk2, off2, rfl, y1⟩ := HYd.out (by omega)
                  rw [hr1] at x1
                  obtain ⟨bk3, off3, eA3, x2⟩ := HRd2.out (by omega)
                  obtain ⟨bk4, off4, eY4, y2⟩ := HYd2.out (by omega)
                  rw [hr2] at x2
                  cases eA3
                  cases eY4
                  have dp : decide (0 < (p : Int)) = true := decide_eq_true (by omega)
                  have dpn : decide (0 < p) = true := decide_eq_true (by omega)
                  have w1 := E1.out (by omega)
                  have w2 := E1'.out (by omega)
                  have hpl1 : ((p - 1 : Nat) : Int) < (y.length : Int) := by omega
                  have hpl1n : p - 1 < y.length := by omega
                  have dq : decide ((p : Int) < (y.length : Int)) = true := decide_eq_true (by omega)
                  have hpl : (p : Int) < (y.length : Int) := by omega
                  have hpln : p < y.length := by omega
                  have hn9 : y.length ≤ 999 := hn
                  have hG : Int.tmod (a + (b - ((p : Int) + 1)) + (p : Int)) ((y.length : Int) + 1) = G := by rw [Int.tmod_eq_emod_of_nonneg (by omega), HPl.out, HG.out]; congr 1; omega
                  have hA : Hid (sT y (p + 1 - 1) = a) := Lib.hid (by rw [HN.out.1]; omega)
                  have hB9 : Hid (bH y y.length - bH y (min (p + 1) y.length) = (b - ((p : Int) + 1))) := Lib.hid (by rw [HN.out.2]; omega)
                  have rP : 0 ≤ G ∧ G ≤ 999 := by rw [HPl.out]; exact ⟨Int.emod_nonneg _ (by omega), by have := Int.emod_lt_of_pos tg (b := (y.length : Int) + 1) (by omega); omega⟩
                  have Hh0 := Lib.hid h0
                  have Hh1 := Lib.hid h1
                  clear ea eb eq1 eq2
                  clear h0 h0' h1 h1' HPl HG HN rG ra rb
                  generalize p - 1 = pm at *
                  generalize atB y pm = ym at *
                  generalize atB y p = yp at *
                  gi_wp2_with fail
                  refine wpIn_wide.2 ?_
                  go_quiet (fail)
                  rename Nat => nqa
                  gi_wp2_with fail
                  refine wpIn_wide.2 ?_
                  go_quiet (fail)
                  rename Nat => nqb
                  obtain ⟨fn, tmps, assign, body, hyy, hR⟩ := hYp (wr.drewN (nqa + nqb)) ⟨rfl, rfl, rfl, Nat.le_refl _, fun _ _ => rfl⟩
                  gi_wp2_with fail
                  refine (roundIn_room rfl hR).mono ?_
                  rintro e W3 (⟨rfl, hJ3, hK3, hF3⟩ | ⟨rfl, hS3⟩)
                  · gi_wp2_with fail
                    refine ⟨⟨p + 1, by have := Hp.out; omega, by go_num, by rw [hA.out], by rw [hB9.out], hJ3, keep_t (keep_t hB (keep_of (show Below w0.heap.size wr (wr.drewN (nqa + nqb)) from ⟨rfl, rfl, rfl, Nat.le_refl _, fun _ _ => rfl⟩))) hK3⟩, ?_⟩
                    have := Hp.out
                    simp [intOf]
                    omega
                  · gi_wp2_with fail
                    refine bodyPost_ret (results_none rfl _ _ _) rfl ?_
                    exact .inl ⟨_, rfl, hS3⟩
              · rcases HQ2.out with ⟨h1', eq2⟩ | ⟨h1', hc2, eq2⟩ | ⟨h1', hc2, eq2⟩
                · exfalso; omega
                · obtain ⟨bk, off, rfl, x1⟩ := HRd.out (by omega)
                  obtain ⟨bk2, off2, rfl, y1⟩ := HYd.out (by omega)
                  rw [hr1] at x1
                  obtain ⟨bk3, off3, eA3, x2⟩ := HRd2.out (by omega)
                  obtain ⟨bk4, off4, eY4, y2⟩ := HYd2.out (by omega)
                  rw [hr2] at x2
                  cases eA3
                  cases eY4
                  have dp : decide (0 < (p : Int)) = true := decide_eq_true (by omega)
                  have dpn : decide (0 < p) = true := decide_eq_true (by omega)
                  have w1 := E1.out (by omega)
                  have w2 := E1'.out (by omega)
                  have hpl1 : ((p - 1 : Nat) : Int) < (y.length : Int) := by omega
                  have hpl1n : p - 1 < y.length := by omega
                  have dq : decide ((p : Int) < (y.length : Int)) = true := decide_eq_true (by omega)
                  have hpl : (p : Int) < (y.length : Int) := by omega
                  have hpln : p < y.length := by omega
                  have hn9 : y.length ≤ 999 := hn
                  have hG : Int.tmod (a + b + (p : Int) + ((p : Int) + 1)) ((y.length : Int) + 1) = G := by rw [Int.tmod_eq_emod_of_nonneg (by omega), HPl.out, HG.out]; congr 1; omega
                  have hA : Hid (sT y (p + 1 - 1) = a) := Lib.hid (by rw [HN.out.1]; omega)
                  have hB9 : Hid (bH y y.length - bH y (min (p + 1) y.length) = b) := Lib.hid (by rw [HN.out.2]; omega)
                  have rP : 0 ≤ G ∧ G ≤ 999 := by rw [HPl.out]; exact ⟨Int.emod_nonneg _ (by omega), by have := Int.emod_lt_of_pos tg (b := (y.length : Int) + 1) (by omega); omega⟩
                  have Hh0 := Lib.hid h0
                  have Hh1 := Lib.hid h1
                  clear ea eb eq1 eq2
                  clear h0 h0' h1 h1' HPl HG HN rG ra rb
                  generalize p - 1 = pm at *
                  generalize atB y pm = ym at *
                  generalize atB y p = yp at *
                  gi_wp2_with fail
                  refine wpIn_wide.2 ?_
                  go_quiet (fail)
                  rename Nat => nqa
                  gi_wp2_with fail
                  refine wpIn_wide.2 ?_
                  go_quiet (fail)
                  rename Nat => nqb
                  obtain ⟨fn, tmps, assign, body, hyy, hR⟩ := hYp (wr.drewN (nqa + nqb)) ⟨rfl, rfl, rfl, Nat.le_refl _, fun _ _ => rfl⟩
                  gi_wp2_with fail
                  refine (roundIn_room rfl hR).mono ?_
                  rintro e W3 (⟨rfl, hJ3, hK3, hF3⟩ | ⟨rfl, hS3⟩)
                  · gi_wp2_with fail
                    refine ⟨⟨p + 1, by have := Hp.out; omega, by go_num, by rw [hA.out], by rw [hB9.out], hJ3, keep_t (keep_t hB (keep_of (show Below w0.heap.size wr (wr.drewN (nqa + nqb)) from ⟨rfl, rfl, rfl, Nat.le_refl _, fun _ _ => rfl⟩))) hK3⟩, ?_⟩
                    have := Hp.out
                    simp [intOf]
                    omega
                  · gi_wp2_with fail
                    refine bodyPost_ret (results_none rfl _ _ _) rfl ?_
                    exact .inl ⟨_, rfl, hS3⟩
                · obtain ⟨bk, off, rfl, x1⟩ := HRd.out (by omega)
                  obtain ⟨bk2, off2, rfl, y1⟩ := HYd.out (by omega)
                  rw [hr1] at x1
                  obtain ⟨bk3, off3, eA3, x2⟩ := HRd2.out (by omega)
                  obtain ⟨bk4, off4, eY4, y2⟩ := HYd2.out (by omega)
                  rw [hr2] at x2
                  cases eA3
                  cases eY4
                  have dp : decide (0 < (p : Int)) = true := decide_eq_true (by omega)
                  have dpn : decide (0 < p) = true := decide_eq_true (by omega)
                  have w1 := E1.out (by omega)
                  have w2 := E1'.out (by omega)
                  have hpl1 : ((p - 1 : Nat) : Int) < (y.length : Int) := by omega
                  have hpl1n : p - 1 < y.length := by omega
                  have dq : decide ((p : Int) < (y.length : Int)) = true := decide_eq_true (by omega)
                  have hpl : (p : Int) < (y.length : Int) := by omega
                  have hpln : p < y.length := by omega
                  have hn9 : y.length ≤ 999 := hn
                  have hG : Int.tmod (a + b + (p : Int)) ((y.length : Int) + 1) = G := by rw [Int.tmod_eq_emod_of_nonneg (by omega), HPl.out, HG.out]; congr 1; omega
                  have hA : Hid (sT y (p + 1 - 1) = a) := Lib.hid (by rw [HN.out.1]; omega)
                  have hB9 : Hid (bH y y.length - bH y (min (p + 1) y.length) = b) := Lib.hid (by rw [HN.out.2]; omega)
                  have rP : 0 ≤ G ∧ G ≤ 999 := by rw [HPl.out]; exact ⟨Int.emod_nonneg _ (by omega), by have := Int.emod_lt_of_pos tg (b := (y.length : Int) + 1) (by omega); omega⟩
                  have Hh0 := Lib.hid h0
                  have Hh1 := Lib.hid h1
                  clear ea eb eq1 eq2
                  clear h0 h0' h1 h1' HPl HG HN rG ra rb
                  generalize p - 1 = pm at *
                  generalize atB y pm = ym at *
                  generalize atB y p = yp at *
                  gi_wp2_with fail
                  refine wpIn_wide.2 ?_
                  go_quiet (fail)
                  rename Nat => nqa
                  gi_wp2_with fail
                  refine wpIn_wide.2 ?_
                  go_quiet (fail)
                  rename Nat => nqb
                  obtain ⟨fn, tmps, assign, body, hyy, hR⟩ := hYp (wr.drewN (nqa + nqb)) ⟨rfl, rfl, rfl, Nat.le_refl _, fun _ _ => rfl⟩
                  gi_wp2_with fail
                  refine (roundIn_room rfl hR).mono ?_
                  rintro e W3 (⟨rfl, hJ3, hK3, hF3⟩ | ⟨rfl, hS3⟩)
                  · gi_wp2_with fail
                    refine ⟨⟨p + 1, by have := Hp.out; omega, by go_num, by rw [hA.out], by rw [hB9.out], hJ3, keep_t (keep_t hB (keep_of (show Below w0.heap.size wr (wr.drewN (nqa + nqb)) from ⟨rfl, rfl, rfl, Nat.le_refl _, fun _ _ => rfl⟩))) hK3⟩, ?_⟩
                    have := Hp.out
                    simp [intOf]
                    omega
                  · gi_wp2_with fail
                    refine bodyPost_ret (results_none rfl _ _ _) rfl ?_
                    exact .inl ⟨_, rfl, hS3⟩
            · rcases HBb.out with ⟨h1, eb⟩ | ⟨h1, hr2, eb⟩ | ⟨h1, hr2, eb⟩
              · rcases HQ2.out with ⟨h1', eq2⟩ | ⟨h1', hc2, eq2⟩ | ⟨h1', hc2, eq2⟩
                · obtain ⟨bk, off, rfl, x1⟩ := HRd.out (by omega)
                  obtain ⟨bk2, off2, rfl, y1⟩ := HYd.out (by omega)
                  rw [hr1] at x1
                  have dp : decide (0 < (p : Int)) = true := decide_eq_true (by omega)
                  have dpn : decide (0 < p) = true := decide_eq_true (by omega)
                  have w1 := E1.out (by omega)
                  have w2 := E1'.out (by omega)
                  have hpl1 : ((p - 1 : Nat) : Int) < (y.length : Int) := by omega
                  have hpl1n : p - 1 < y.length := by omega
                  have dq : decide ((p : Int) < (y.length : Int)) = false := decide_eq_false (by omega)
                  have dqn : decide (p < y.length) = false := decide_eq_false (by omega)
                  have hn9 : y.length ≤ 999 := hn
                  have hG : Int.tmod (a + b) ((y.length : Int) + 1) = G := by rw [Int.tmod_eq_emod_of_nonneg (by omega), HPl.out, HG.out]; congr 1; omega
                  have hA : Hid (sT y (p + 1 - 1) = a) := Lib.hid (by rw [HN.out.1]; omega)
                  have hB9 : Hid (bH y y.length - bH y (min (p + 1) y.length) = b) := Lib.hid (by rw [HN.out.2]; omega)
                  have rP : 0 ≤ G ∧ G ≤ 999 := by rw [HPl.out]; exact ⟨Int.emod_nonneg _ (by omega), by have := Int.emod_lt_of_pos tg (b := (y.length : Int) + 1) (by omega); omega⟩
                  have Hh0 := Lib.hid h0
                  have Hh1 := Lib.hid h1
                  clear ea eb eq1 eq2
                  clear h0 h0' h1 h1' HPl HG HN rG ra rb
                  generalize p - 1 = pm at *
                  generalize atB y pm = ym at *
                  gi_wp2_with fail
                  refine wpIn_wide.2 ?_
                  go_quiet (fail)
                  rename Nat => nqa
                  gi_wp2_with fail
                  refine wpIn_wide.2 ?_
                  go_quiet (fail)
                  rename Nat => nqb
                  obtain ⟨fn, tmps, assign, body, hyy, hR⟩ := hYp (wr.drewN (nqa + nqb)) ⟨rfl, rfl, rfl, Nat.le_refl _, fun _ _ => rfl⟩
                  gi_wp2_with fail
                  refine (roundIn_room rfl hR).mono ?_
                  rintro e W3 (⟨rfl, hJ3, hK3, hF3⟩ | ⟨rfl, hS3⟩)
                  · gi_wp2_with fail
                    refine ⟨⟨p + 1, by have := Hp.out; omega, by go_num, by rw [hA.out], by rw [hB9.out], hJ3, keep_t (keep_t hB (keep_of (show Below w0.heap.size wr (wr.drewN (nqa + nqb)) from ⟨rfl, rfl, rfl, Nat.le_refl _, fun _ _ => rfl⟩))) hK3⟩, ?_⟩
                    have := Hp.out
                    simp [intOf]
                    omega
                  · gi_wp2_with fail
                    refine bodyPost_ret (results_none rfl _ _ _) rfl ?_
                    exact .inl ⟨_, rfl, hS3⟩
                · exfalso; omega
                · exfalso; omega
              · rcases HQ2.out with ⟨h1', eq2⟩ | ⟨h1', hc2, eq2⟩ | ⟨h1', hc2, eq2⟩
                · exfalso; omega
                · obtain ⟨bk, off, rfl, x1⟩ := HRd.out (by omega)
                  obtain ⟨bk2, off2, rfl, y1⟩ := HYd.out (by omega)
                  rw [hr1] at x1
                  obtain ⟨bk3, off3, eA3, x2⟩ := HRd2.out (by omega)
                  obtain ⟨bk4, off4, eY4, y2⟩ := HYd2.out (by omega)
                  rw [hr2] at x2
                  cases eA3
                  cases eY4
                  have dp : decide (0 < (p : Int)) = true := decide_eq_true (by omega)
                  have dpn : decide (0 < p) = true := decide_eq_true (by omega)
                  have w1 := E1.out (by omega)
                  have w2 := E1'.out (by omega)
                  have hpl1 : ((p - 1 : Nat) : Int) < (y.length : Int) := by omega
                  have hpl1n : p - 1 < y.length := by omega
                  have dq : decide ((p : Int) < (y.length : Int)) = true := decide_eq_true (by omega)
                  have hpl : (p : Int) < (y.length : Int) := by omega
                  have hpln : p < y.length := by omega
                  have hn9 : y.length ≤ 999 := hn
                  have hG : Int.tmod (a + (b - ((p : Int) + 1)) + ((p : Int) + 1)) ((y.length : Int) + 1) = G := by rw [Int.tmod_eq_emod_of_nonneg (by omega), HPl.out, HG.out]; congr 1; omega
                  have hA : Hid (sT y (p + 1 - 1) = a) := Lib.hid (by rw [HN.out.1]; omega)
                  have hB9 : Hid (bH y y.length - bH y (min (p + 1) y.length) = (b - ((p : Int) + 1))) := Lib.hid (by rw [HN.out.2]; omega)
                  have rP : 0 ≤ G ∧ G ≤ 999 := by rw [HPl.out]; exact ⟨Int.emod_nonneg _ (by omega), by have := Int.emod_lt_of_pos tg (b := (y.length : Int) + 1) (by omega); omega⟩
                  have Hh0 := Lib.hid h0
                  have Hh1 := Lib.hid h1
                  clear ea eb eq1 eq2
                  clear h0 h0' h1 h1' HPl HG HN rG ra rb
                  generalize p - 1 = pm at *
                  generalize atB y pm = ym at *
                  generalize atB y p = yp at *
                  gi_wp2_with fail
                  refine wpIn_wide.2 ?_
                  go_quiet (fail)
                  rename Nat => nqa
                  gi_wp2_with fail
                  refine wpIn_wide.2 ?_
                  go_quiet (fail)
                  rename Nat => nqb
                  obtain ⟨fn, tmps, assign, body, hyy, hR⟩ := hYp (wr.drewN (nqa + nqb)) ⟨rfl, rfl, rfl, Nat.le_refl _, fun _ _ => rfl⟩
                  gi_wp2_with fail
                  refine (roundIn_room rfl hR).mono ?_
                  rintro e W3 (⟨rfl, hJ3, hK3, hF3⟩ | ⟨rfl, hS3⟩)
                  · gi_wp2_with fail
                    refine ⟨⟨p + 1, by have := Hp.out; omega, by go_num, by rw [hA.out], by rw [hB9.out], hJ3, keep_t (keep_t hB (keep_of (show Below w0.heap.size wr (wr.drewN (nqa + nqb)) from ⟨rfl, rfl, rfl, Nat.le_refl _, fun _ _ => rfl⟩))) hK3⟩, ?_⟩
                    have := Hp.out
                    simp [intOf]
                    omega
                  · gi_wp2_with fail
                    refine bodyPost_ret (results_none rfl _ _ _) rfl ?_
                    exact .inl ⟨_, rfl, hS3⟩
                · obtain ⟨bk, off, rfl, x1⟩ := HRd.out (by omega)
                  obtain ⟨bk2, off2, rfl, y1⟩ := HYd.out (by omega)
                  rw [hr1] at x1
                  obtain ⟨bk3, off3, eA3, x2⟩ := HRd2.out (by omega)
                  obtain ⟨bk4, off4, eY4, y2⟩ := HYd2.out (by omega)
                  rw [hr2] at x2
                  cases eA3
                  cases eY4
                  have dp : decide (0 < (p : Int)) = true := decide_eq_true (by omega)
                  have dpn : decide (0 < p) = true := decide_eq_true (by omega)
                  have w1 := E1.out (by omega)
                  have w2 := E1'.out (by omega)
                  have hpl1 : ((p - 1 : Nat) : Int) < (y.length : Int) := by omega
                  have hpl1n : p - 1 < y.length := by omega
                  have dq : decide ((p : Int) < (y.length : Int)) = true := decide_eq_true (by omega)
                  have hpl : (p : Int) < (y.length : Int) := by omega
                  have hpln : p < y.length := by omega
                  have hn9 : y.length ≤ 999 := hn
                  have hG : Int.tmod (a + (b - ((p : Int) + 1))) ((y.length : Int) + 1) = G := by rw [Int.tmod_eq_emod_of_nonneg (by omega), HPl.out, HG.out]; congr 1; omega
                  have hA : Hid (sT y (p + 1 - 1) = a) := Lib.hid (by rw [HN.out.1]; omega)
                  have hB9 : Hid (bH y y.length - bH y (min (p + 1) y.length) = (b - ((p : Int) + 1))) := Lib.hid (by rw [HN.out.2]; omega)
                  have rP : 0 ≤ G ∧ G ≤ 999 := by rw [HPl.out]; exact ⟨Int.emod_nonneg _ (by omega), by have := Int.emod_lt_of_pos tg (b := (y.length : Int) + 1) (by omega); omega⟩
                  have Hh0 := Lib.hid h0
                  have Hh1 := Lib.hid h1
                  clear ea eb eq1 eq2
                  clear h0 h0' h1 h1' HPl HG HN rG ra rb
                  generalize p - 1 = pm at *
                  generalize atB y pm = ym at *
                  generalize atB y p = yp at *
                  gi_wp2_with fail
                  refine wpIn_wide.2 ?_
                  go_quiet (fail)
                  rename Nat => nqa
                  gi_wp2_with fail
                  refine wpIn_wide.2 ?_
                  go_quiet (fail)
                  rename Nat => nqb
                  obtain ⟨fn, tmps, assign, body, hyy, hR⟩ := hYp (wr.drewN (nqa + nqb)) ⟨rfl, rfl, rfl, Nat.le_refl _, fun _ _ => rfl⟩
                  gi_wp2_with fail
                  refine (roundIn_room rfl hR).mono ?_
                  rintro e W3 (⟨rfl, hJ3, hK3, hF3⟩ | ⟨rfl, hS3⟩)
                  · gi_wp2_with fail
                    refine ⟨⟨p + 1, by have := Hp.out; omega, by go_num, by rw [hA.out], by rw [hB9.out], hJ3, keep_t (keep_t hB (keep_of (show Below w0.heap.size wr (wr.drewN (nqa + nqb)) from ⟨rfl, rfl, rfl, Nat.le_refl _, fun _ _ => rfl⟩))) hK3⟩, ?_⟩
                    have := Hp.out
                    simp [intOf]
                    omega
                  · gi_wp2_with fail
                    refine bodyPost_ret (results_none rfl _ _ _) rfl ?_
                    exact .inl ⟨_, rfl, hS3⟩
              · rcases HQ2.out with ⟨h1', eq2⟩ | ⟨h1', hc2, eq2⟩ | ⟨h1', hc2, eq2⟩
                · exfalso; omega
                · obtain ⟨bk, off, rfl, x1⟩ := HRd.out (by omega)
                  obtain ⟨bk2, off2, rfl, y1⟩ := HYd.out (by omega)
                  rw [hr1] at x1
                  obtain ⟨bk3, off3, eA3, x2⟩ := HRd2.out (by omega)
                  obtain ⟨bk4, off4, eY4, y2⟩ := HYd2.out (by omega)
                  rw [hr2] at x2
                  cases eA3
                  cases eY4
                  have dp : decide (0 < (p : Int)) = true := decide_eq_true (by omega)
                  have dpn : decide (0 < p) = true := decide_eq_true (by omega)
                  have w1 := E1.out (by omega)
                  have w2 := E1'.out (by omega)
                  have hpl1 : ((p - 1 : Nat) : Int) < (y.length : Int) := by omega
                  have hpl1n : p - 1 < y.length := by omega
                  have dq : decide ((p : Int) < (y.length : Int)) = true := decide_eq_true (by omega)
                  have hpl : (p : Int) < (y.length : Int) := by omega
                  have hpln : p < y.length := by omega
                  have hn9 : y.length ≤ 999 := hn
                  have hG : Int.tmod (a + b + ((p : Int) + 1)) ((y.length : Int) + 1) = G := by rw [Int.tmod_eq_emod_of_nonneg (by omega), HPl.out, HG.out]; congr 1; omega
                  have hA : Hid (sT y (p + 1 - 1) = a) := Lib.hid (by rw [HN.out.1]; omega)
                  have hB9 : Hid (bH y y.length - bH y (min (p + 1) y.length) = b) := Lib.hid (by rw [HN.out.2]; omega)
                  have rP : 0 ≤ G ∧ G ≤ 999 := by rw [HPl.out]; exact ⟨Int.emod_nonneg _ (by omega), by have := Int.emod_lt_of_pos tg (b := (y.length : Int) + 1) (by omega); omega⟩
                  have Hh0 := Lib.hid h0
                  have Hh1 := Lib.hid h1
                  clear ea eb eq1 eq2
                  clear h0 h0' h1 h1' HPl HG HN rG ra rb
                  generalize p - 1 = pm at *
                  generalize atB y pm = ym at *
                  generalize atB y p = yp at *
                  gi_wp2_with fail
                  refine wpIn_wide.2 ?_
                  go_quiet (fail)
                  rename Nat => nqa
                  gi_wp2_with fail
                  refine wpIn_wide.2 ?_
                  go_quiet (fail)
                  rename Nat => nqb
                  obtain ⟨fn, tmps, assign, body, hyy, hR⟩ := hYp (wr.drewN (nqa + nqb)) ⟨rfl, rfl, rfl, Nat.le_refl _, fun _ _ => rfl⟩
                  gi_wp2_with fail
                  refine (roundIn_room rfl hR).mono ?_
                  rintro e W3 (⟨rfl, hJ3, hK3, hF3⟩ | ⟨rfl, hS3⟩)
                  · gi_wp2_with fail
                    refine ⟨⟨p + 1, by have := Hp.out; omega, by go_num, by rw [hA.out], by rw [hB9.out], hJ3, keep_t (keep_t hB (keep_of (show Below w0.heap.size wr (wr.drewN (nqa + nqb)) from ⟨rfl, rfl, rfl, Nat.le_refl _, fun _ _ => rfl⟩))) hK3⟩, ?_⟩
                    have := Hp.out
                    simp [intOf]
                    omega
                  · gi_wp2_with fail
                    refine bodyPost_ret (results_none rfl _ _ _) rfl ?_
                    exact .inl ⟨_, rfl, hS3⟩
                · obtain ⟨bk, off, rfl, x1⟩ := HRd.out (by omega)
                  obtain ⟨bk2, off2, rfl, y1⟩ := HYd.out (by omega)
                  rw [hr1] at x1
                  obtain ⟨bk3, off3, eA3, x2⟩ := HRd2.out (by omega)
                  obtain ⟨bk4, off4, eY4, y2⟩ := HYd2.out (by omega)
                  rw [hr2] at x2
                  cases eA3
                  cases eY4
                  have dp : decide (0 < (p : Int)) = true := decide_eq_true (by omega)
                  have dpn : decide (0 < p) = true := decide_eq_true (by omega)
                  have w1 := E1.out (by omega)
                  have w2 := E1'.out (by omega)
                  have hpl1 : ((p - 1 : Nat) : Int) < (y.length : Int) := by omega
                  have hpl1n : p - 1 < y.length := by omega
                  have dq : decide ((p : Int) < (y.length : Int)) = true := decide_eq_true (by omega)
                  have hpl : (p : Int) < (y.length : Int) := by omega
                  have hpln : p < y.length := by omega
                  have hn9 : y.length ≤ 999 := hn
                  have hG : Int.tmod (a + b) ((y.length : Int) + 1) = G := by rw [Int.tmod_eq_emod_of_nonneg (by omega), HPl.out, HG.out]; congr 1; omega
                  have hA : Hid (sT y (p + 1 - 1) = a) := Lib.hid (by rw [HN.out.1]; omega)
                  have hB9 : Hid (bH y y.length - bH y (min (p + 1) y.length) = b) := Lib.hid (by rw [HN.out.2]; omega)
                  have rP : 0 ≤ G ∧ G ≤ 999 := by rw [HPl.out]; exact ⟨Int.emod_nonneg _ (by omega), by have := Int.emod_lt_of_pos tg (b := (y.length : Int) + 1) (by omega); omega⟩
                  have Hh0 := Lib.hid h0
                  have Hh1 := Lib.hid h1
                  clear ea eb eq1 eq2
                  clear h0 h0' h1 h1' HPl HG HN rG ra rb
                  generalize p - 1 = pm at *
                  generalize atB y pm = ym at *
                  generalize atB y p = yp at *
                  gi_wp2_with fail
                  refine wpIn_wide.2 ?_
                  go_quiet (fail)
                  rename Nat => nqa
                  gi_wp2_with fail
                  refine wpIn_wide.2 ?_
                  go_quiet (fail)
                  rename Nat => nqb
                  obtain ⟨fn, tmps, assign, body, hyy, hR⟩ := hYp (wr.drewN (nqa + nqb)) ⟨rfl, rfl, rfl, Nat.le_refl _, fun _ _ => rfl⟩
                  gi_wp2_with fail
                  refine (roundIn_room rfl hR).mono ?_
                  rintro e W3 (⟨rfl, hJ3, hK3, hF3⟩ | ⟨rfl, hS3⟩)
                  · gi_wp2_with fail
                    refine ⟨⟨p + 1, by have := Hp.out; omega, by go_num, by rw [hA.out], by rw [hB9.out], hJ3, keep_t (keep_t hB (keep_of (show Below w0.heap.size wr (wr.drewN (nqa + nqb)) from ⟨rfl, rfl, rfl, Nat.le_refl _, fun _ _ => rfl⟩))) hK3⟩, ?_⟩
                    have := Hp.out
                    simp [intOf]
                    omega
                  · gi_wp2_with fail
                    refine bodyPost_ret (results_none rfl _ _ _) rfl ?_
                    exact .inl ⟨_, rfl, hS3⟩
        · obtain rfl : p = y.length + 1 := by omega
          have hpn : ¬ ((y.length + 1 : Nat) : Int) < (y.length : Int) + 1 := by omega
          clear hlt hp
          gi_wp2_with fail
          go_end0
          exact .inr ⟨⟨_, rfl⟩, by rw [← List.range_succ]; exact hJ⟩
end Go.Proofs.YtmdpodgodhkjdaaDoor
