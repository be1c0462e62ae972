/- Contract of extra.find: the search. -/
import Derived.Test.YtpjpfgahjalggaaDoorExD
namespace Go.Proofs.YtpjpfgahjalggaaDoor
open Go.RowKit Go.Shelf
attribute [local go_sem] Oper.semAt_some run_store_func

theorem firstG {q : Nat → Bool} {n p : Nat} (hp : p < n) (hh : q p = true) (hno : ∀ j, j < p → q j = false) : (List.range n).find? q = some p := by
  rw [List.find?_range_eq_some]
  exact ⟨hh, by simpa using hp, fun j hj => by simp [hno j hj]⟩
theorem noneG {q : Nat → Bool} {n : Nat} (hno : ∀ j, j < n → q j = false) : (List.range n).find? q = none := by
  rw [List.find?_eq_none]
  intro j hj
  simp [hno j (by simpa using hj)]
theorem keep_below {B : Nat} {W W' : World} (h : Keep B B W W') : Below B W W' := ⟨h.1.1, h.1.2.1, h.1.2.2.1, h.1.2.2.2, fun k hk => h.2 k hk (by omega)⟩
theorem below_put2 {B D : Nat} {w W : World} (h : Below B w W) (o : Obj) (hD : B ≤ D) : Below B w (W.putObj D o) :=
  ⟨h.os, h.tape, h.output, by have := h.size; simpa [World.putObj] using this, fun k hk => (World.putObj_heap_other (by omega)).trans (h.block k hk)⟩
theorem eplaces_any (A B : Option Addr) (n c m d : Nat) (w : World) :
    Calls Tryd.prog 26 #[.slice A n c, .slice B m d] w fun e w' => e = .returned (.func (.func 29) #[] #[.pointer (some ⟨w.heap.size, 0, none⟩), .pointer (some ⟨w.heap.size + 1, 0, none⟩)]) ∧ w' = (w.alloc (.cells #[.slice A n c] 22)).alloc (.cells #[.slice B m d] 29) := by
  have hmf : ∀ (fn : Fn) (first cap : Array Value) (w : World), (Instr.makeFunc fn first cap).run Tryd.prog w = .ok (.func fn first cap) w := fun _ _ _ _ => rfl
  go_enter Tryd.func26, Tryd.ntmps26
  go_wp2_with fail
  go_ret
  exact ⟨rfl, rfl⟩
set_option maxRecDepth 100000 in
set_option maxHeartbeats 4000000 in
theorem find_main (y : List UInt8) (a b c : Int) (h3 : 3 ≤ y.length) (h9 : y.length ≤ 1000) (hR1 : rightB a b c ((y.length : Int) - 1) = true) (h4 : FourL y) (sv : Value) (w : World) (hT : Tab w) (hS : Sl eB w.heap.size w sv y) :
    Calls Tryd.prog 18 #[sv, v3 a b c] w (FindIs y a b c w) := by
  have Hg := Lib.hid (show findE y a b c = match (List.range y.length).find? (hitE y a b c) with
    | none => .error 130
    | some p => .ok p by rw [findE, if_neg (by rw [hR1]; simp; omega), if_neg ((fourL_iff y).1 h4)]; cases (List.range y.length).find? (hitE y a b c) <;> rfl)
  have hR := fun w => Right_any a b c ((y.length : Int) - 1) w
  rw [hR1] at hR
  have hC := fun v w hS hT => Codes_any v y (by omega) w hS hT
  have hA := below_alloc w (.cells (c3 a b c) 24)
  have hcl : (v3 a b c).cells = c3 a b c := rfl
  have hr := Rowed.new w 24 (c3 a b c)
  have k0 := hr.cell 0
  have k1 := hr.cell 1
  have k2 := hr.cell 2
  obtain ⟨A, cap, rfl⟩ := hS.len
  have d1 : decide ((y.length : Int) < 3) = false := decide_eq_false (by omega)
  have d2 : decide ((1000 : Int) < (y.length : Int)) = false := decide_eq_false (by omega)
  have hwr := wrap64_mid ((y.length : Int) - 1) (by omega) (by omega)
  have H4 := Lib.hid h4
  have H39 := Lib.hid (And.intro h3 h9)
  clear hR1 h4
  refine (callsIn_wide (n := 5)).1 ?_
  refine callsIn_of_wp_marks Tryd.func18 rfl trivial ?_ rfl
  simp only [Tryd.ntmps18, List.size_toArray, List.length_cons, List.length_nil, Nat.reduceAdd, Nat.reduceSub, Array.replicate_succ, Array.replicate_zero, List.push_toArray, List.append_toArray, List.nil_append, List.cons_append]
  gi_wp2_with fail
  apply wpIn_scope_straight
  gi_wp2_with fail
  refine ⟨trivial, ?_⟩
  gi_at_call 24
  refine (callsIn_wide.2 (hR _)).mono ?_
  rintro e w1 ⟨rfl, hB⟩
  have hr := hr.below hB hr.lt
  have hB := below_trans hA hB
  have hT := hT.below hB
  have hS := hS.next hB
  clear hR hA k0 k1 k2
  gi_wp2_with fail
  refine ⟨trivial, ?_⟩
  gi_at_call 25
  refine (callsIn_wide.2 (hC _ _ hS hT)).mono ?_
  rintro e w2 ⟨v, hB2, ⟨rfl, -, hcs⟩ | ⟨rfl, hbad⟩⟩
  · have hr := hr.below hB2 hr.lt
    have hB := below_trans hB hB2
    have hT := hT.below hB2
    have hS := hS.next hB2
    have hlc : (codesOf y).length = y.length := by simp [codesOf]
    obtain ⟨Ac, kc, rfl⟩ := hcs.len
    rw [hlc] at hcs ⊢
    have hAx := below_alloc w2 (.cells #[.int .i64 (-1)] 3)
    have hba := Boxed.new w2 3 (.int .i64 (-1))
    have hr := hr.alloc (.cells #[.int .i64 (-1)] 3)
    have hS4 := hS.next hAx
    have hcs4 := hcs.next hAx
    have hsa := hB.size
    have hT := hT.below hAx
    have hB := below_trans hB hAx
    clear hS hcs
    clear hC hB2 hAx hlc
    gi_wp2_with fail
    apply wpIn_label
    have hba' := hba.lt
    generalize hgw : w2.alloc (.cells #[.int .i64 (-1)] 3) = w4 at *
    generalize hgs : w2.heap.size = sa at *
    clear hgw hgs
    gi_wp2_with fail
    refine ⟨trivial, ?_⟩
    gi_at_call 26
    refine (callsIn_wide.2 (eplaces_any _ _ _ _ _ _ _)).mono ?_
    rintro e w5 ⟨rfl, hw5⟩
    have hA5 : Below w4.heap.size w4 w5 := by rw [hw5]; exact (below_alloc w4 _).alloc (by simp) _
    have hb1 : Boxed w5 w4.heap.size 22 (.slice A y.length cap) := by rw [hw5]; exact (Boxed.new w4 22 (.slice A y.length cap)).alloc _
    have hb2 : Boxed w5 (w4.heap.size + 1) 29 (.slice Ac y.length kc) := by
      rw [hw5]
      have := Boxed.new (w4.alloc (.cells #[.slice A y.length cap] 22)) 29 (.slice Ac y.length kc)
      rwa [World.size_alloc] at this
    clear hw5
    have hr5 := hr.below hA5 hr.lt
    have hba5 : Boxed w5 sa 3 (.int .i64 (-1)) := (hA5.block _ hba').trans hba
    have hB := below_trans hB hA5
    have hS5 := hS4.next hA5
    have hcs5 := hcs4.next hA5
    have hT5 := hT.below hA5
    have hseq := eplaces_seq w4.heap.size (w4.heap.size + 1) A cap (.slice Ac y.length kc) y H39.out.1 H39.out.2 H4.out w5 hb1.lt hb1.cell hS5 hb2.cell hcs5 hT5
    have hwsa : w.heap.size ≤ sa := hsa
    clear hA5 hS5 hcs5 hT5 hS4 hcs4 hT hr hba hb1 hb2
    gi_wp2_with fail
    obtain ⟨T, hT⟩ : ∃ T : Nat → Nat → Act, T = fun x bt => { tmps := #[.slice A y.length cap, v3 a b c, undef, .pointer (some ⟨w.heap.size, 0, none⟩), .int .i64 0, .slice Ac y.length kc, .int .i64 0, .pointer (some ⟨sa, 0, none⟩), .int .i64 x, .pointer (some ⟨bt, 0, none⟩), .slice A y.length cap, .int .i64 y.length, .bool false, .bool false, .slice A y.length cap, .int .i64 y.length, .bool false, .bool false, .bool false, .agg #[.int .i64 a, .int .i64 b, .int .i64 c], .slice A y.length cap, .int .i64 y.length, .int .i64 ((y.length : Int) - 1), .bool true, .bool false, .bool false, undef, .tuple #[.slice Ac y.length kc, .int .i64 0], .slice A y.length cap, .tuple #[.slice Ac y.length kc, .int .i64 0], .slice Ac y.length kc, .int .i64 0, .int .i64 0, .bool false, undef, undef, .slice A y.length cap, .slice Ac y.length kc, .func (.func 29) #[] #[.pointer (some ⟨w4.heap.size, 0, none⟩), .pointer (some ⟨w4.heap.size + 1, 0, none⟩)], .int .i64 x, v3 (s1G y x) (s2G y x) (s3G y x), undef, undef, undef, undef, undef, undef, undef, undef], defers := [] } := ⟨_, rfl⟩
    have HT := Lib.hid hT
    clear hT
    refine wpIn_range_W (gf := 29) (lb := #[.pointer (some ⟨w4.heap.size, 0, none⟩), .pointer (some ⟨w4.heap.size + 1, 0, none⟩)]) rfl rfl trivial rfl (enters_of Tryd.func29 (by kernel_rfl) rfl)
      hseq (fun _ _ _ => kc_t) (fun W' l o o' e1 e2 e3 => kc_put W' l o o' e2 e3) (Below.refl _ _) (fun _ => rfl)
      (fun (pre : List Nat) W => (∀ j ∈ pre, hitE y a b c j = false) ∧ Keep w5.heap.size w5.heap.size w5 W)
      (fun c' W => (c' = .exit 0 ∧ ∃ p : Nat, p < y.length ∧ hitE y a b c p = true ∧ (∀ j, j < p → hitE y a b c j = false) ∧ Boxed W sa 3 (.int .i64 p)) ∧ Below w.heap.size w W)
      (OwnFrom.and (ownFrom_pure _ (fun (pre : List Nat) => ∀ j ∈ pre, hitE y a b c j = false)) (ownFrom_keep (Nat.le_refl _) (Nat.le_refl _)))
      (fun s X Y hs hB => ⟨hs.1, keep_t hs.2 (keep_of hB)⟩)
      ⟨by simp, keep_r _ _ _⟩
      (fun c' D W o hD ⟨⟨hc', p, h1, h2, h3, h4⟩, h6⟩ => ⟨⟨hc', p, h1, h2, h3, (World.putObj_heap_other (by have := hba5.lt; omega)).trans h4⟩, below_put2 h6 o (by have := hba5.lt; omega)⟩)
      (fun (x : Nat) a' W => ∃ bt, a' = T x bt ∧ Rowed W bt 24 (c3 (s1G y x) (s2G y x) (s3G y x)))
      (fun x a' W l o o' ⟨bt, e1, e2⟩ hl ho => ⟨bt, e1, kc_put W l o o' hl ho bt _ e2 rfl⟩)
      (fun X Y h => kc_below h)
      ?assign1 ?body1 ?done1 ?stop1 ?pan1
    case assign1 =>
      intro l x W K hK
      have hcx : (v3 (s1G y x) (s2G y x) (s3G y x)).cells = c3 (s1G y x) (s2G y x) (s3G y x) := rfl
      have hK2 := hK _ _ ⟨W.heap.size, rfl, Rowed.new W 24 (c3 (s1G y x) (s2G y x) (s3G y x))⟩ (below_alloc W _)
      rw [HT.out] at hK2
      clear hK
      gi_wp2_with fail
      exact hK2
    case pan1 =>
      rintro ch D W hf
      cases hf
    case done1 =>
      rintro - D W hD ⟨hno, hK⟩ hk
      have hBw := keep_below hK
      have h10 : Boxed W sa 3 (.int .i64 (-1)) := (hBw.block _ hba5.lt).trans hba5
      have kk := h10.cell
      have hg : findE y a b c = .error 130 := by
        rw [Hg.out, noneG (fun j hj => hno j (by simpa using hj))]
      have Hg := Lib.hid hg
      clear hno hg
      gi_wp2_with fail
      refine ⟨by simp, .inl ⟨_, _, rfl, run_takeDeferred hk, ?_⟩⟩
      exact ⟨below_put2 (below_trans hB hBw) _ (by have := hB.size; omega), .inr ⟨130, Hg.out, rfl⟩⟩
    case stop1 =>
      rintro c' D W hD ⟨⟨rfl, p, hp, hh, hno, h10⟩, hBw⟩ hk
      have hfd := firstG hp hh hno
      have hg : findE y a b c = .ok p := by rw [Hg.out, hfd]
      have Hg := Lib.hid hg
      have kk := h10.cell
      have hpm : decide ((p : Int) < 0) = false := decide_eq_false (by omega)
      clear hno hg hh hfd hseq
      gi_wp2_with fail
      refine ⟨by simp, .inl ⟨_, _, rfl, run_takeDeferred hk, ?_⟩⟩
      refine ⟨.int .i64 p, ?_, below_put2 hBw _ (by have := hB.size; omega), .inl ⟨p, Hg.out, rfl⟩⟩
      simp [results, Tryd.f18, go_sem]
    case body1 =>
      rintro l pre p a' W ⟨hno, hK⟩ ⟨bt, rfl, hbt⟩ hpre
      obtain ⟨hjn, rfl⟩ := range_is hpre
      have hBw := keep_below hK
      have hba6 : Boxed W sa 3 (.int .i64 (-1)) := (hBw.block _ hba5.lt).trans hba5
      have hr6 := hr5.below hBw hr5.lt
      have ka := hba6.cell
      have fa := hba6.frozen
      have q0 := hr6.cell 0
      have q1 := hr6.cell 1
      have q2 := hr6.cell 2
      have t0 := hbt.cell 0
      have t1 := hbt.cell 1
      have t2 := hbt.cell 2
      have hset := hba6.set (.int .i64 (p : Int))
      have hEq := fun w => eqS (s1G y p) (s2G y p) (s3G y p) a b c w
      rw [show (s1G y p == a && (s2G y p == b && s3G y p == c)) = hitE y a b c p from rfl] at hEq
      rw [HT.out]
      cases hq : hitE y a b c p with
      | false =>
        rw [hq] at hEq
        have Hno := Lib.hid (show ∀ j ∈ List.range p ++ [p], hitE y a b c j = false from fun j hj => by
          rcases List.mem_append.1 hj with h | h
          · exact hno j h
          · obtain rfl := List.mem_singleton.1 h; exact hq)
        clear hno
        gi_wp2_with fail
        exact ⟨KeepsFrom.refl _ _, kc_r _, Hno.out, hK⟩
      | true =>
        rw [hq] at hEq
        have Hno := Lib.hid hno
        clear hno
        gi_wp2_with fail
        exact ⟨(KeepsOthers.setCell W ⟨sa, 0, none⟩ _).from _, ⟨rfl, p, hjn, hq, fun j hj => Hno.out j (by simpa using hj), hset⟩, (below_trans hB hBw).setCell (p := ⟨sa, 0, none⟩) hwsa _⟩
  · exact absurd hbad ((fourL_iff y).1 H4.out)
theorem find_any (y : List UInt8) (a b c : Int) (sv : Value) (w : World) (hT : Tab w) (hS : Sl eB w.heap.size w sv y) :
    Calls Tryd.prog 18 #[sv, v3 a b c] w (FindIs y a b c w) := by
  by_cases h : y.length < 3 ∨ 1000 < y.length ∨ rightB a b c ((y.length : Int) - 1) = false
  · exact find_arg y a b c h sv w hS
  · have hR : rightB a b c ((y.length : Int) - 1) = true := by
      cases hr : rightB a b c ((y.length : Int) - 1) with
      | true => rfl
      | false => exact absurd (.inr (.inr hr)) h
    by_cases hb : (-1 : Int) ∈ codesOf y
    · exact find_bad y a b c (by omega) (by omega) hR hb sv w hT hS
    · exact find_main y a b c (by omega) (by omega) hR ((fourL_iff y).2 hb) sv w hT hS
end Go.Proofs.YtpjpfgahjalggaaDoor
