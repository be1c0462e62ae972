/- The walk of NtRuns. -/
import Derived.Test.YtillclgolelefaaDoorNtT
import Derived.Test.YtillclgolelefaaDoorNtR
import Derived.Deep.DeepCutAuto
import Derived.Deep.Cut
import Derived.Deep.CutRange
namespace Go.Proofs.YtillclgolelefaaDoor
open Go.RowKit Go.Shelf
attribute [local go_sem] Oper.semAt_some

theorem Sl.cell2 {α : Type} {enc : α → Value} {B : Nat} {W : World} {A : Option Addr} {len cap : Nat} {xs : List α} (h : Sl enc B W (.slice A len cap) xs) (hn : 0 < xs.length) :
    ∃ b off, A = some ⟨b, off, none⟩ ∧ ∀ j x, xs[j]? = some x → W.cell? ⟨b, off + j, none⟩ = some (enc x) := by
  obtain ⟨A', c', e, _, hcells⟩ := h
  cases e
  obtain ⟨b, off, e, hb, hcell⟩ := hcells hn
  exact ⟨b, off, e, hcell⟩
theorem u8_eq_iff (x y : UInt8) : ((x.toNat : Int) == (y.toNat : Int)) = decide (x = y) := by
  by_cases h : x = y
  · subst h; simp
  · rw [decide_eq_false h, beq_eq_false_iff_ne]
    intro e
    apply h
    apply UInt8.toNat_inj.1
    omega

set_option maxRecDepth 100000 in
set_option maxHeartbeats 4000000 in
theorem NtRuns_any (sl sm : Value) (l m : List Int) (c n : Int) (w : World) (hl : Sl eI w.heap.size w sl l) (hm : Sl eI w.heap.size w sm m) (hT : Tab w) :
    Calls Tryd.prog 6 #[sl, sm, .int .i64 c, .int .i64 n] w fun e w' => e = .returned (.bool true) ∧ Below w.heap.size w w' := by
  obtain ⟨i0, hi, hz0, hz1, hz2⟩ := info_parts info_u8
  obtain ⟨Al, cl, rfl⟩ := hl.len
  obtain ⟨Am, cm, rfl⟩ := hm.len
  by_cases h1 : 200 < l.length
  · have hd : decide ((200 : Int) < l.length) = true := by simp; omega
    go_enter Tryd.func6, Tryd.ntmps6
    go_wp2_with (go_at_call 7; refine (wakes_any _ hT).mono ?_; rintro e w1 ⟨rfl, hB1⟩)
    go_ret
    exact ⟨rfl, hB1⟩
  have hd1 : decide ((200 : Int) < l.length) = false := by simp; omega
  by_cases h2 : 200 < m.length
  · have hd : decide ((200 : Int) < m.length) = true := by simp; omega
    go_enter Tryd.func6, Tryd.ntmps6
    go_wp2_with (go_at_call 7; refine (wakes_any _ hT).mono ?_; rintro e w1 ⟨rfl, hB1⟩)
    go_ret
    exact ⟨rfl, hB1⟩
  have hd2 : decide ((200 : Int) < m.length) = false := by simp; omega
  by_cases h3 : n < 0
  · have hd : decide (n < 0) = true := by simp; omega
    go_enter Tryd.func6, Tryd.ntmps6
    go_wp2_with (go_at_call 7; refine (wakes_any _ hT).mono ?_; rintro e w1 ⟨rfl, hB1⟩)
    go_ret
    exact ⟨rfl, hB1⟩
  have hd3 : decide (n < 0) = false := by simp; omega
  by_cases h4 : 200 < n
  · have hd : decide (200 < n) = true := by simp; omega
    go_enter Tryd.func6, Tryd.ntmps6
    go_wp2_with (go_at_call 7; refine (wakes_any _ hT).mono ?_; rintro e w1 ⟨rfl, hB1⟩)
    go_ret
    exact ⟨rfl, hB1⟩
  have hd4 : decide (200 < n) = false := by simp; omega
  go_enter Tryd.func6, Tryd.ntmps6
  go_wp2_with fail
  go_at_call 8
  refine (row_any _ l (by omega) _ hl).mono ?_
  rintro e w1 ⟨va, rfl, hva, hB1⟩
  go_wp2_with fail
  go_at_call 8
  refine (row_any _ m (by omega) _ (hm.next hB1)).mono ?_
  rintro e w2 ⟨vb, rfl, hvb, hB2⟩
  have ha2 := hva.next hB2
  have hBw2 := below_trans hB1 hB2
  have hT2 := hT.below hBw2
  have hla : (rowOf l).length ≤ 200 := by rw [rowOf_length]; omega
  have hlb : (rowOf m).length ≤ 200 := by rw [rowOf_length]; omega
  clear hva hB1 hB2 hl hm hT
  generalize rowOf l = a at *
  generalize rowOf m = b at *
  obtain ⟨Aa, ca, rfl⟩ := ha2.len
  obtain ⟨Ab, cb, rfl⟩ := hvb.len
  go_wp2_with fail
  go_loopw [11] (fun t wr => ∃ k : Nat, k ≤ a.length ∧ t = .int .i64 k ∧ (∀ j, j < k → a[a.length - 1 - j]? = a[a.length - 1]?) ∧ Below w2.heap.size w2 wr) (fun t _ => a.length - (intOf t).toNat)
  case atStart => exact ⟨0, Nat.zero_le _, rfl, fun j hj => by omega, Below.refl _ _⟩
  case round =>
    obtain ⟨k, hk, rfl, hall, hBr⟩ := hrel
    have ha := ha2.next hBr
    go_upto_region 5 with fail
    obtain ⟨bb, hbb⟩ : ∃ bb, decide (k < a.length ∧ a[a.length - 1 - k]? = a[a.length - 1]?) = bb := ⟨_, rfl⟩
    go_cut [57] from 37 to 57 (fun s wx => s = .bool bb ∧ Below wr.heap.size wr wx)
    case first =>
      by_cases hlt : k < a.length
      · obtain ⟨bk, off, rfl, hc⟩ := ha.cell2 (by omega)
        have e1 : IntKind.i64.wrap ((a.length : Int) - 1) = ((a.length - 1 : Nat) : Int) := by rw [IntWalk.i64_in _ (by omega)]; omega
        have e2 : IntKind.i64.wrap (((a.length - 1 : Nat) : Int) - k) = ((a.length - 1 - k : Nat) : Int) := by rw [IntWalk.i64_in _ (by omega)]; omega
        have c1 := hc (a.length - 1 - k) a[a.length - 1 - k] (by simp)
        have c2 := hc (a.length - 1) a[a.length - 1] (by simp)
        have l1 : ((a.length - 1 - k : Nat) : Int) < a.length := by omega
        have l2 : ((a.length - 1 : Nat) : Int) < a.length := by omega
        have hk0 : (k : Int) < a.length := by omega
        have hx := u8_eq_iff a[a.length - 1 - k] a[a.length - 1]
        have hres : decide (k < a.length ∧ a[a.length - 1 - k]? = a[a.length - 1]?) = decide (a[a.length - 1 - k] = a[a.length - 1]) := by
          rw [List.getElem?_eq_getElem (by omega), List.getElem?_eq_getElem (by omega)]; simp [hlt]
        rw [hres] at hbb
        clear hres hc ha ha2 hvb hall
        generalize a[a.length - 1 - k] = x at *
        generalize a[a.length - 1] = y at *
        generalize a.length - 1 - k = q at *
        generalize a.length - 1 = r at *
        go_quiet (fail)
        go_wp2_with fail
        go_meet
        exact ⟨rfl, below_drewN _ _⟩
      · have hres : decide (k < a.length ∧ a[a.length - 1 - k]? = a[a.length - 1]?) = false := by simp [hlt]
        rw [hres] at hbb
        have hk0 : decide ((k : Int) < a.length) = false := by simp; omega
        subst hbb
        clear hres ha ha2 hvb hall
        go_quiet (fail)
        go_wp2_with fail
        go_meet
        exact ⟨rfl, below_drewN _ _⟩
    case rest =>
      obtain ⟨rfl, hBc⟩ := hcut
      have hBk := hBr.trans (hBc.mono hBr.size)
      cases bb with
      | true =>
        obtain ⟨hlt, he⟩ := of_decide_eq_true hbb
        have hall' : ∀ j, j < k + 1 → a[a.length - 1 - j]? = a[a.length - 1]? := fun j hj => by
          rcases Nat.lt_or_ge j k with hjk | hjk
          · exact hall j hjk
          · obtain rfl : j = k := by omega
            exact he
        go_wp2
        go_roundw
        case rel => exact ⟨k + 1, by omega, by go_num, hall', hBk⟩
        case measure => simp [intOf]; omega
      | false =>
        have htail : TailIs a k := ⟨hk, hall, fun hlt he => of_decide_eq_false hbb ⟨hlt, he⟩⟩
        have ha := ha2.next hBk
        have hb := hvb.next hBk
        have hT := hT2.below hBk
        have hBw := below_trans hBw2 hBk
        clear ha2 hvb hT2 hBw2 hBk hBc hBr hall hbb
        go_wp2_with fail
        go_loopw [12] (fun t wy => ∃ k : Nat, k ≤ b.length ∧ t = .int .i64 k ∧ (∀ j, j < k → b[j]? = b[0]?) ∧ Below wc.heap.size wc wy) (fun t _ => b.length - (intOf t).toNat)
        case atStart => exact ⟨0, Nat.zero_le _, rfl, fun j hj => by omega, Below.refl _ _⟩
        case round =>
          obtain ⟨q, hq, rfl, hall, hBr⟩ := hrel
          have hb2 := hb.next hBr
          go_upto_region 7 with fail
          obtain ⟨bb, hbb⟩ : ∃ bb, decide (q < b.length ∧ b[q]? = b[0]?) = bb := ⟨_, rfl⟩
          go_cut [73] from 60 to 73 (fun s wx => s = .bool bb ∧ Below wr.heap.size wr wx)
          case first =>
            by_cases hlt : q < b.length
            · obtain ⟨bk, off, rfl, hc⟩ := hb2.cell2 (by omega)
              have c1 := hc q b[q] (by simp)
              have c2 := hc 0 b[0] (by simp)
              rw [Nat.add_zero] at c2
              have l2 : (0 : Int) < b.length := by omega
              have l3 : 0 < b.length := by omega
              have hk0 : (q : Int) < b.length := by omega
              have hx := u8_eq_iff b[q] b[0]
              have hres : decide (q < b.length ∧ b[q]? = b[0]?) = decide (b[q] = b[0]) := by
                rw [List.getElem?_eq_getElem (by omega), List.getElem?_eq_getElem (by omega)]; simp [hlt]
              rw [hres] at hbb
              clear hres hc ha hb hb2 hall
              generalize b[q] = x at *
              generalize b[0] = y at *
              go_quiet (fail)
              go_wp2_with fail
              go_meet
              exact ⟨rfl, below_drewN _ _⟩
            · have hres : decide (q < b.length ∧ b[q]? = b[0]?) = false := by simp [hlt]
              rw [hres] at hbb
              have hk0 : decide ((q : Int) < b.length) = false := by simp; omega
              subst hbb
              clear hres ha hb hb2 hall
              go_quiet (fail)
              go_wp2_with fail
              go_meet
              exact ⟨rfl, below_drewN _ _⟩
          case rest =>
            obtain ⟨rfl, hBc⟩ := hcut
            have hBk := hBr.trans (hBc.mono hBr.size)
            cases bb with
            | true =>
              obtain ⟨hlt, he⟩ := of_decide_eq_true hbb
              have hall' : ∀ j, j < q + 1 → b[j]? = b[0]? := fun j hj => by
                rcases Nat.lt_or_ge j q with hjk | hjk
                · exact hall j hjk
                · obtain rfl : j = q := by omega
                  exact he
              go_wp2
              go_roundw
              case rel => exact ⟨q + 1, by omega, by go_num, hall', hBk⟩
              case measure => simp [intOf]; omega
            | false =>
              have hhead : HeadIs b q := ⟨hq, hall, fun hlt he => of_decide_eq_false hbb ⟨hlt, he⟩⟩
              have ha3 := ha.next hBk
              have hb3 := hb.next hBk
              have hT3 := hT.below hBk
              have hBw3 := below_trans hBw hBk
              clear ha hb hT hBw hBk hBc hBr hall hbb hb2
              go_upto_region 10 with fail
              obtain ⟨bb, hbb⟩ : ∃ bb, decide (0 < a.length ∧ 0 < b.length ∧ a[a.length - 1]? = b[0]?) = bb := ⟨_, rfl⟩
              go_cut [95] from 76 to 95 (fun s wx => s = .bool bb ∧ Below wc.heap.size wc wx)
              case first =>
                by_cases hla0 : 0 < a.length
                · have d1 : decide ((0 : Int) < a.length) = true := by simp; omega
                  by_cases hlb0 : 0 < b.length
                  · have d2 : decide ((0 : Int) < b.length) = true := by simp; omega
                    obtain ⟨b1, o1, rfl, hc1⟩ := ha3.cell2 hla0
                    obtain ⟨b2, o2, rfl, hc2⟩ := hb3.cell2 hlb0
                    have e1 : IntKind.i64.wrap ((a.length : Int) - 1) = ((a.length - 1 : Nat) : Int) := by rw [IntWalk.i64_in _ (by omega)]; omega
                    have c1 := hc1 (a.length - 1) a[a.length - 1] (by simp)
                    have c2 := hc2 0 b[0] (by simp)
                    rw [Nat.add_zero] at c2
                    have l1 : ((a.length - 1 : Nat) : Int) < a.length := by omega
                    have l2 : (0 : Int) < b.length := by omega
                    have hx := u8_eq_iff a[a.length - 1] b[0]
                    have hres : decide (0 < a.length ∧ 0 < b.length ∧ a[a.length - 1]? = b[0]?) = decide (a[a.length - 1] = b[0]) := by
                      rw [List.getElem?_eq_getElem (by omega), List.getElem?_eq_getElem (by omega)]; simp [hla0, hlb0]
                    rw [hres] at hbb
                    clear hres hc1 hc2 ha3 hb3 htail hhead
                    generalize a[a.length - 1] = x at *
                    generalize b[0] = y at *
                    generalize a.length - 1 = r at *
                    go_quiet (fail)
                    go_wp2_with fail
                    go_meet
                    exact ⟨rfl, below_drewN _ _⟩
                  · have d2 : decide ((0 : Int) < b.length) = false := decide_eq_false (by omega)
                    have hres : decide (0 < a.length ∧ 0 < b.length ∧ a[a.length - 1]? = b[0]?) = false := by simp [hlb0]
                    rw [hres] at hbb
                    subst hbb
                    clear hres ha3 hb3 htail hhead
                    go_quiet (fail)
                    go_wp2_with fail
                    go_meet
                    exact ⟨rfl, below_drewN _ _⟩
                · have d1 : decide ((0 : Int) < a.length) = false := decide_eq_false (by omega)
                  have hres : decide (0 < a.length ∧ 0 < b.length ∧ a[a.length - 1]? = b[0]?) = false := by simp [hla0]
                  rw [hres] at hbb
                  subst hbb
                  clear hres ha3 hb3 htail hhead
                  go_quiet (fail)
                  go_wp2_with fail
                  go_meet
                  exact ⟨rfl, below_drewN _ _⟩
              case rest =>
                obtain ⟨rfl, hBc⟩ := hcut
                have ha4 := ha3.next hBc
                have hb4 := hb3.next hBc
                have hT4 := hT3.below hBc
                have hBw4 := below_trans hBw3 hBc
                have hrun := run_both a b k q htail hhead
                have hkq : (k : Int) + q ≤ 400 := by omega
                obtain ⟨mid, hmid⟩ : ∃ mid : Nat, (if 0 < a.length ∧ 0 < b.length ∧ a[a.length - 1]? = b[0]? then k + q else 0) = mid := ⟨_, rfl⟩
                rw [hmid] at hrun
                clear ha3 hb3 hT3 hBw3 htail hhead hBc
                go_upto_if 95 with fail
                go_cut [13] from 96 to 98 (fun s wx => s = .int .i64 mid ∧ Below wc.heap.size wc wx)
                case first =>
                  cases bb with
                  | true =>
                    rw [if_pos (of_decide_eq_true hbb)] at hmid
                    have hm2 : IntKind.i64.wrap ((k : Int) + q) = (mid : Int) := by rw [IntWalk.i64_in _ (by omega)]; omega
                    go_wp2_with fail
                    go_meet
                    exact ⟨rfl, Below.refl _ _⟩
                  | false =>
                    rw [if_neg (of_decide_eq_false hbb)] at hmid
                    subst hmid
                    go_wp2_with fail
                    go_meet
                    exact ⟨rfl, Below.refl _ _⟩
                case rest =>
                  obtain ⟨rfl, hBc⟩ := hcut
                  have ha5 := ha4.next hBc
                  have hb5 := hb4.next hBc
                  have hT5 := hT4.below hBc
                  have hBw5 := below_trans hBw4 hBc
                  clear ha4 hb4 hT4 hBw4 hBc hbb hk hq hkq hmid
                  have h3c := bits_and3 c
                  have hidx := run_acgt c
                  have h30 : 0 ≤ c % 4 := by omega
                  have h34 : c % 4 < 4 := by omega
                  obtain ⟨N, rfl⟩ : ∃ N : Nat, n = N := ⟨n.toNat, by omega⟩
                  have hN : N ≤ 200 := by omega
                  go_wp2_with fail
                  go_loopw [14, 15] (fun v i wr => ∃ k : Nat, k ≤ N ∧ i = .int .i64 k ∧ wr.ownsRow wc.heap.size 5 1 v k ((List.replicate k (letterOf c)).map eB) ∧ Below wc.heap.size wc wr) (fun _ i _ => N - (intOf i).toNat)
                  case atStart => exact ⟨0, Nat.zero_le _, rfl, World.ownsRow_nil _ _ _ _, Below.refl _ _⟩
                  case round =>
                    obtain ⟨k, hk, rfl, hrow, hB⟩ := hrel
                    by_cases hlt : k < N
                    · have H := Lib.hid (List.replicate_succ' (n := k) (a := letterOf c))
                      have hm : k + 1 ≤ maxLen := by unfold maxLen; omega
                      clear ha5 hb5 hT5 hBw5
                      go_wp2_with (at_builtin; refine wpList_append_own _ rfl _ _ 24 rfl wc.heap.size 5 i0 (.int .u8 0) 1 1 Tryd.underlying24 hi hz0 hz1 hz2 rfl (by decide) _ _ _ rfl (hrow.alloc _) ⟨wr.heap.size, 0, none⟩ 1 1 [eB (letterOf c)] rfl rfl (cell_one_new _ _ _) (by simp [Value.oneCell']) hm (by omega) (by have := hB.size; simp; omega) ?_; intro v' w1 hown' hgrow _)
                      have hB' : Below wc.heap.size wc w1 := (hB.alloc hB.size _).trans (below_grown (hrow.alloc _) hgrow (by have := hB.size; simp; omega) (Nat.le_refl _))
                      go_roundw
                      case rel => exact ⟨k + 1, by omega, by go_num, by rw [H.out]; simpa using hown', hB'⟩
                      case measure => simp [intOf]; omega
                    · obtain rfl : k = N := by omega
                      have ho : Sl eB wr.heap.size wr u14 (List.replicate k (letterOf c)) := Sl.of_own hrow
                      have ha6 := ha5.next hB
                      have hb6 := hb5.next hB
                      have hT6 := hT5.below hB
                      have hBw6 := below_trans hBw5 hB
                      clear ha5 hb5 hT5 hBw5 hB hrow
                      go_wp2_with fail
                      obtain ⟨ga, hga, hgal⟩ : ∃ g : Nat, gcOf a = g ∧ g ≤ 200 := ⟨_, rfl, Nat.le_trans (gcOf_le a) hla⟩
                      obtain ⟨gb, hgb, hgbl⟩ : ∃ g : Nat, gcOf b = g ∧ g ≤ 200 := ⟨_, rfl, Nat.le_trans (gcOf_le b) hlb⟩
                      have hgab : (gcOf (a ++ b) : Int) = (ga : Int) + gb := by rw [gcOf_append, hga, hgb]; omega
                      obtain ⟨ra, hra⟩ : ∃ r : Nat, runOf a = r := ⟨_, rfl⟩
                      obtain ⟨rb, hrb⟩ : ∃ r : Nat, runOf b = r := ⟨_, rfl⟩
                      rw [hra, hrb] at hrun
                      have hab : a.length + b.length ≤ 400 := by omega
                      have hlab : (a ++ b).length ≤ 140737488351232 := by rw [List.length_append]; omega
                      go_at_call 10
                      refine (both_any _ _ a b (by omega) _ ha6 hb6).mono ?_
                      rintro e w7 ⟨v7, rfl, hv7, hB7⟩
                      have ha7 := ha6.next hB7
                      have hb7 := hb6.next hB7
                      have ho7 := ho.next hB7
                      have hT7 := hT6.below hB7
                      have hBw7 := below_trans hBw6 hB7
                      clear ha6 hb6 ho hT6 hBw6 hB7
                      go_wp2_with fail
                      go_at_call 14
                      refine (Gc_is _ (a ++ b) hlab _ hgab _ _ hv7).mono ?_
                      rintro e w' ⟨rfl, rfl⟩
                      go_wp2_with fail
                      go_at_call 14
                      refine (Gc_is _ a (by omega) ga (by rw [hga]) _ _ ha7).mono ?_
                      rintro e w' ⟨rfl, rfl⟩
                      go_wp2_with fail
                      go_at_call 14
                      refine (Gc_is _ b (by omega) gb (by rw [hgb]) _ _ hb7).mono ?_
                      rintro e w' ⟨rfl, rfl⟩
                      have hws : IntKind.i64.wrap ((ga : Int) + gb) = (ga : Int) + gb := by rw [IntWalk.i64_in _ (by omega)]
                      go_wp2_with fail
                      go_at_call 10
                      refine (both_any _ _ a b (by omega) _ ha7 hb7).mono ?_
                      rintro e w8 ⟨v8, rfl, hv8, hB8⟩
                      have ha8 := ha7.next hB8
                      have hb8 := hb7.next hB8
                      have ho8 := ho7.next hB8
                      have hT8 := hT7.below hB8
                      have hBw8 := below_trans hBw7 hB8
                      clear ha7 hb7 ho7 hT7 hBw7 hB8 hv7
                      go_wp2_with fail
                      go_at_call 13
                      refine (Run_is _ (a ++ b) hlab ((max (max ra rb) mid : Nat) : Int) (by rw [← hrun]; rfl) _ _ hv8).mono ?_
                      rintro e w' ⟨rfl, rfl⟩
                      go_wp2_with fail
                      go_at_call 13
                      refine (Run_is _ a (by omega) ra (by rw [← hra]; rfl) _ _ ha8).mono ?_
                      rintro e w' ⟨rfl, rfl⟩
                      go_wp2_with fail
                      go_at_call 13
                      refine (Run_is _ b (by omega) rb (by rw [← hrb]; rfl) _ _ hb8).mono ?_
                      rintro e w' ⟨rfl, rfl⟩
                      go_wp2_with fail
                      all_goals first
                        | (exfalso; omega)
                        | (go_at_call 13
                           refine (Run_is _ (List.replicate k (letterOf c)) (by simp; omega) k (by have := run_replicate (letterOf c) k; rw [runOf] at this; rw [this]) _ _ ho8).mono ?_
                           rintro e w' ⟨rfl, rfl⟩
                           go_wp2_with (go_at_call 7; refine (wakes_any _ hT8).mono ?_; rintro e wz ⟨rfl, hBz⟩)
                           go_ret
                           exact ⟨rfl, below_trans hBw8 hBz⟩)
end Go.Proofs.YtillclgolelefaaDoor
