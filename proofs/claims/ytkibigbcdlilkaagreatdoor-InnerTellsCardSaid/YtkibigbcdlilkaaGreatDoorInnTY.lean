import Derived.Test.YtkibigbcdlilkaaGreatDoorInSY
import Derived.Test.YtkibigbcdlilkaaGreatDoorInTY
import Derived.Test.YtkibigbcdlilkaaGreatDoorInUY
namespace Go.Proofs.YtkibigbcdlilkaaGreatDoor
open Go.RowKit Go.Shelf
attribute [local go_sem] Oper.semAt_some run_store_func
theorem apart_seen {W : World} {g b off m c : Nat} {B : Nat} {f : List UInt8} {x y z : Int} {k : Bool} {t : TypeId} {w : List UInt8} (hr : Rowed W g t (cSeen f x y z k)) (hS : Sl eB B W (.slice (some ⟨b, off, none⟩) m c) w) (hne : 0 < w.length) : b ≠ g := by
 rintro rfl
 obtain ⟨A, c', e, -, hcs⟩ := hS
 cases e
 obtain ⟨b', off', e2, -, hc⟩ := hcs hne
 cases e2
 have h := hc 0 w[0] (by simp [hne])
 rw [hr.cell, Nat.add_zero] at h
 rcases off with _ | _ | _ | _ | _ | off <;> simp at h
def hitR (y : List UInt8) (n : Nat) (d : Ed.Edt) : Bool := decide ((Ed.apG y d.k d.z d.b).length = wlongN n) && innG (Ed.apG y d.k d.z d.b) n
theorem hitR_some {y : List UInt8} {n : Nat} {d : Ed.Edt} (h2 : 2 ≤ n) (h8 : n ≤ 800) (hy : y.length ≤ 1000) (h : hitR y n d = true) : decG y n = .ok ((Ed.apG y d.k d.z d.b).take n) := by
 unfold hitR at h
 rw [Bool.and_eq_true, decide_eq_true_eq] at h
 have hm := ref_hit h2 h8 h.1 h.2 (Ed.dist_ap y d.k d.z d.b hy)
 unfold decG
 rw [if_pos ⟨by omega, by omega⟩, Int.toNat_natCast, hm]
theorem hitR_none {y : List UInt8} {n : Nat} (h2 : 2 ≤ n) (h8 : n ≤ 800) (hy : y.length ≤ 1000) (h : ∀ d ∈ Ed.edG y, hitR y n d = false) : decG y n = .error 130 := by
 unfold decG
 rw [if_pos ⟨by omega, by omega⟩, Int.toNat_natCast]
 cases hm : mendG y n with
 | none => rfl
 | some x =>
   obtain ⟨d, hd, h1, h3⟩ := ref_some h2 h8 hy hm
   have h4 := h d hd
   unfold hitR at h4
   rw [h1, h3] at h4
   simp at h4
abbrev DecIs (y : List UInt8) (n : Int) (w : World) : Ending → World → Prop := fun e w' => Below w.heap.size w w' ∧ ((∃ x v, decG y n = .ok x ∧ e = .returned (.tuple #[v, .int .i64 0]) ∧ Sl eB w'.heap.size w' v x) ∨ (∃ m, decG y n = .error m ∧ e = .returned (.tuple #[.slice none 0 0, .int .i64 m])))
set_option maxRecDepth 100000 in
set_option maxHeartbeats 2000000 in
theorem RDec_arg (y : List UInt8) (n : Int) (h : ¬ (2 ≤ n ∧ n ≤ 800)) (sv : Value) (w : World) (hS : Sl eB w.heap.size w sv y) : Calls Tryz.prog 10 #[sv, .int .i64 n] w (DecIs y n w) := by
 have hL := WRLong_no n (by omega) w
 have hd : decG y n = .error 2 := by unfold decG; rw [if_neg h]
 obtain ⟨A, c, rfl⟩ := hS.len
 clear h
 go_enter Tryz.func10, Tryz.ntmps10
 go_wp2_with fail
 go_at_call 26
 refine hL.mono ?_
 rintro e w' ⟨rfl, rfl⟩
 go_wp2_with fail
 go_ret2
 exact ⟨Below.refl _ _, .inr ⟨2, hd, rfl⟩⟩
set_option maxRecDepth 100000 in
set_option maxHeartbeats 2000000 in
theorem RDec_far (y : List UInt8) (n : Nat) (h2 : 2 ≤ n) (h8 : n ≤ 800) (hf : y.length + 1 < wlongN n ∨ wlongN n + 1 < y.length) (sv : Value) (w : World) (hS : Sl eB w.heap.size w sv y) : Calls Tryz.prog 10 #[sv, .int .i64 n] w (DecIs y n w) := by
 have hL := WRLong_yes n h2 h8 w
 have hd := dec_long h2 h8 hf
 have hM : 3 ≤ wlongN n ∧ wlongN n ≤ 1000 := by have := long_26 n (by omega); unfold wlongN; omega
 obtain ⟨A, c, rfl⟩ := hS.len
 generalize wlongN n = M at *
 have d0 : decide ((M : Int) < 0) = false := decide_eq_false (by omega)
 have e1 : IntKind.i64.wrap ((M : Int) - 1) = (M : Int) - 1 := IntWalk.i64_in _ (by omega)
 have e2 : IntKind.i64.wrap ((M : Int) + 1) = (M : Int) + 1 := IntWalk.i64_in _ (by omega)
 have HD := Lib.hid hd
 clear h2 h8 hd
 by_cases h1 : y.length + 1 < M
 · have d1 : decide ((y.length : Int) < (M : Int) - 1) = true := decide_eq_true (by omega)
   have d1' : (y.length : Int) < (M : Int) - 1 := by omega
   clear hf h1 hM
   go_enter Tryz.func10, Tryz.ntmps10
   go_wp2_with fail
   go_at_call 26
   refine hL.mono ?_
   rintro e w' ⟨rfl, rfl⟩
   go_wp2_with fail
   go_ret2
   exact ⟨Below.refl _ _, .inr ⟨130, HD.out, rfl⟩⟩
 · have d1 : decide ((y.length : Int) < (M : Int) - 1) = false := decide_eq_false (by omega)
   have d1' : ¬ (y.length : Int) < (M : Int) - 1 := by omega
   have d2 : decide ((M : Int) + 1 < (y.length : Int)) = true := decide_eq_true (by omega)
   have d2' : (M : Int) + 1 < (y.length : Int) := by omega
   clear hf h1 hM
   go_enter Tryz.func10, Tryz.ntmps10
   go_wp2_with fail
   go_at_call 26
   refine hL.mono ?_
   rintro e w' ⟨rfl, rfl⟩
   go_wp2_with fail
   go_ret2
   exact ⟨Below.refl _ _, .inr ⟨130, HD.out, rfl⟩⟩
set_option maxRecDepth 100000 in
set_option maxHeartbeats 4000000 in
theorem RDec_in (y : List UInt8) (n : Nat) (h2 : 2 ≤ n) (h8 : n ≤ 800) (hy : y.length ≤ 300) (hf : ¬ (y.length + 1 < wlongN n ∨ wlongN n + 1 < y.length)) (sv : Value) (w : World) (hS : Sl eB w.heap.size w sv y) : Calls Tryz.prog 10 #[sv, .int .i64 n] w (DecIs y n w) := by
 obtain ⟨i0, hi, hz0, hz1, hz2⟩ := info_parts info_u8
 have hL := WRLong_yes n h2 h8 w
 have hM : 3 ≤ wlongN n ∧ wlongN n ≤ 1000 ∧ n ≤ wlongN n := by have := long_26 n (by omega); unfold wlongN longN at *; omega
 have hEd := REdits_any sv y (by omega) w hS
 have hAp := fun (d : Ed.Edt) v w h => RApply_any v y d.k d.z d.b (by omega) (by omega) w h
 have hIn := fun (d : Ed.Edt) (hl : (Ed.apG y d.k d.z d.b).length = wlongN n) => RInner_any (Ed.apG y d.k d.z d.b) n h2 h8 hl
 have hap := fun (d : Ed.Edt) => Ed.apG_len y d.k d.z d.b (by omega)
 have hsm : ∀ d, hitR y n d = true → decG y n = .ok ((Ed.apG y d.k d.z d.b).take n) := fun d h => hitR_some h2 h8 (by omega) h
 have hno : (∀ d ∈ Ed.edG y, hitR y n d = false) → decG y n = .error 130 := fun h => hitR_none h2 h8 (by omega) h
 have hel : (Ed.edG y).length ≤ 10000 := by have := Ed.edG_len y; omega
 have hhit : ∀ d, hitR y n d = (decide ((Ed.apG y d.k d.z d.b).length = wlongN n) && innG (Ed.apG y d.k d.z d.b) n) := fun _ => rfl
 obtain ⟨A, c, rfl⟩ := hS.len
 have Hsm := Lib.hid (And.intro hsm (And.intro hno hhit))
 have Hn := Lib.hid (And.intro h2 (And.intro h8 hy))
 generalize wlongN n = M at *
 have d0 : decide ((M : Int) < 0) = false := decide_eq_false (by omega)
 have e1 : IntKind.i64.wrap ((M : Int) - 1) = (M : Int) - 1 := IntWalk.i64_in _ (by omega)
 have e2 : IntKind.i64.wrap ((M : Int) + 1) = (M : Int) + 1 := IntWalk.i64_in _ (by omega)
 have d1 : decide ((y.length : Int) < (M : Int) - 1) = false := decide_eq_false (by omega)
 have d1' : ¬ (y.length : Int) < (M : Int) - 1 := by omega
 have d2 : decide ((M : Int) + 1 < (y.length : Int)) = false := decide_eq_false (by omega)
 have d2' : ¬ (M : Int) + 1 < (y.length : Int) := by omega
 have HM := Lib.hid hM
 clear hf hM hsm hno hhit h2 h8 hy
 go_enter Tryz.func10, Tryz.ntmps10
 go_wp2_with fail
 go_at_call 26
 refine hL.mono ?_
 rintro e w' ⟨rfl, rfl⟩
 go_wp2_with fail
 go_at_call 19
 refine hEd.mono ?_
 rintro e w2 ⟨u2, rfl, hu2, hB⟩
 obtain ⟨gl, cl, rfl, hcl⟩ := ed_open hu2
 have hr0 : Rowed (w2.alloc (.cells #[.string ⟨#[]⟩, .int .i64 0, .int .i64 0, .int .i64 0, .bool false] 53)) w2.heap.size 53 (cSeen [] 0 0 0 false) := Rowed.new w2 53 _
 have hA := below_alloc w2 (.cells #[.string ⟨#[]⟩, .int .i64 0, .int .i64 0, .int .i64 0, .bool false] 53)
 have hbw : w.heap.size ≤ w2.heap.size := hB.size
 have hB := below_trans hB hA
 have hS := hS.next hB
 have hcl : ∀ k d, (Ed.edG y)[k]? = some d → gl < w2.heap.size ∧ (w2.alloc (.cells #[.string ⟨#[]⟩, .int .i64 0, .int .i64 0, .int .i64 0, .bool false] 53)).cell? ⟨gl, k * 3, none⟩ = some (eB d.k) ∧ (w2.alloc (.cells #[.string ⟨#[]⟩, .int .i64 0, .int .i64 0, .int .i64 0, .bool false] 53)).cell? ⟨gl, k * 3 + 1, none⟩ = some (.int .i64 d.z) ∧ (w2.alloc (.cells #[.string ⟨#[]⟩, .int .i64 0, .int .i64 0, .int .i64 0, .bool false] 53)).cell? ⟨gl, k * 3 + 2, none⟩ = some (eB d.b) := fun k d h => by
  obtain ⟨a0, a1, a2, a3⟩ := hcl k d h
  exact ⟨a0, (hA.cell (p := ⟨gl, k * 3, none⟩) a0).trans a1, (hA.cell (p := ⟨gl, k * 3 + 1, none⟩) a0).trans a2, (hA.cell (p := ⟨gl, k * 3 + 2, none⟩) a0).trans a3⟩
 have hlt0 := hr0.lt
 clear hu2 hA hEd hL
 go_wp2_with fail
 generalize w2.alloc (.cells #[.string ⟨#[]⟩, .int .i64 0, .int .i64 0, .int .i64 0, .bool false] 53) = w3 at *
 generalize w2.heap.size = g at *
 obtain ⟨bS, oS, rfl, hbS⟩ : ∃ b o, A = some ⟨b, o, none⟩ ∧ b < w3.heap.size := by
  obtain ⟨A', c', e, hc, hcs⟩ := hS
  cases e
  obtain ⟨b, off, e4, hb, -⟩ := hcs (by have := HM.out; omega)
  exact ⟨b, off, e4, hb⟩
 have hyg := apart_seen hr0 hS (by have := HM.out; omega)
 have hok0 : SeenOk n [] 0 0 0 false := by
  unfold SeenOk
  have : toldG [] n = none := by
   rw [toldG_none]
   rintro ⟨s, h⟩
   obtain ⟨p, q, r⟩ := s
   have h3 := (unG_some h.2.2).1
   simp at h3
   unfold longN at h3
   omega
  rw [this]
 go_loopw [9] (fun i wr => ∃ k : Nat, k ≤ (Ed.edG y).length ∧ i = .int .i64 k ∧ (∀ j d, j < k → (Ed.edG y)[j]? = some d → hitR y n d = false) ∧ Keep w3.heap.size g w3 wr ∧ ∃ f a b c q, SeenOk n f a b c q ∧ Rowed wr g 53 (cSeen f a b c q)) (fun i _ => (Ed.edG y).length - (intOf i).toNat)
 case atStart => exact ⟨0, Nat.zero_le _, rfl, fun j d h => absurd h (by omega), keep_r _ _ _, _, _, _, _, _, hok0, hr0⟩
 case round =>
  obtain ⟨k, hk, rfl, hnot, hK, f, a, b, c', q, hok, hr⟩ := hrel
  by_cases hlt : k < (Ed.edG y).length
  · obtain ⟨d, hd⟩ : ∃ d, (Ed.edG y)[k]? = some d := ⟨(Ed.edG y)[k], by simp [hlt]⟩
    obtain ⟨hg, p0, p1, p2⟩ := hcl k d hd
    have hgl : gl ≠ g := by omega
    have r0 := (hK.cell (p := ⟨gl, k * 3, none⟩) (show gl < w3.heap.size by omega) hgl).trans p0
    have r1 := (hK.cell (p := ⟨gl, k * 3 + 1, none⟩) (show gl < w3.heap.size by omega) hgl).trans p1
    have r2 := (hK.cell (p := ⟨gl, k * 3 + 2, none⟩) (show gl < w3.heap.size by omega) hgl).trans p2
    have hkl : (k : Int) < (Ed.edG y).length := by omega
    have hk9 : k ≤ 10000 := by omega
    have hSr : Sl eB wr.heap.size wr (.slice (some ⟨bS, oS, none⟩) y.length c) y := (sl_keep hK hS (fun A m c e => by cases e; exact hyg)).more (keep_size hK)
    have hAd := hAp d _ _ hSr
    have Hk := Lib.hid hlt
    have Hno := Lib.hid (And.intro hnot hd)
    have hpl := hap d
    clear hcl hd p0 p1 p2 hg hlt hAp hnot hk
    go_wp2_with fail
    go_at_call 18
    refine hAd.mono ?_
    clear hAd r0 r1 r2
    rintro e w5 ⟨u5, rfl, hu5, hC⟩
    have hK := keep_t hK (keep_of (g := g) (hC.mono (keep_size hK)))
    have hr := hr.below hC hr.lt
    clear hC hSr
    by_cases hlM : (Ed.apG y d.k d.z d.b).length = M
    · obtain ⟨b5, o5, c5, rfl⟩ : ∃ b o c, u5 = .slice (some ⟨b, o, none⟩) (Ed.apG y d.k d.z d.b).length c := by
        obtain ⟨A', c', e, hc, hcs⟩ := id hu5
        obtain ⟨b, off, e4, hb, -⟩ := hcs (by have := HM.out; omega)
        exact ⟨b, off, c', by rw [e, e4]⟩
      have hg5 := apart_seen hr hu5 (by have := HM.out; omega)
      have hI := hIn d hlM _ g f a b c' q hok _ hu5 hr (fun A m c e => by cases e; exact hg5)
      have hq1 : (((Ed.apG y d.k d.z d.b).length : Int) != (M : Int)) = false := by rw [hlM]; simp
      have HlM := Lib.hid hlM
      have hh := Hsm.out.2.2 d
      rw [decide_eq_true hlM, Bool.true_and] at hh
      have Hh := Lib.hid hh
      clear hIn hlM hh
      go_wp2_with fail
      go_at_call 27
      refine hI.mono ?_
      clear hI
      rintro e w6 ⟨hK6, ⟨f', a', b', c'', q', hok', hr'⟩, v, rfl, hv⟩
      have hK := keep_t hK (⟨hK6.1, fun j hj hg => hK6.2 j (by have := keep_size hK; omega) hg⟩ : Keep w3.heap.size g w5 w6)
      cases hin : innG (Ed.apG y d.k d.z d.b) n with
      | true =>
        have hvs := hv hin
        have hrow := row_made w6
        have hA6 := below_alloc w6 (.cells #[] 5)
        have hvs6 : Sl eB w6.heap.size (w6.alloc (.cells #[] 5)) v ((Ed.apG y d.k d.z d.b).take n) := hvs.below hA6
        have HD := Lib.hid (Hsm.out.1 d (by rw [Hh.out, hin]))
        have hlen : (0 + ((Ed.apG y d.k d.z d.b).take n).length) ≤ 1000 := by rw [List.length_take]; have := HM.out; have := HlM.out; omega
        have hBf := below_of_kp2 (kp2_keep hK) hB (by omega) hbw hbw
        clear hok hr hr' hu5 hv hvs hin hpl
        go_wp2_with
          (at_builtin
           refine wpList_append_sl _ rfl (.tmp 54) (.tmp 55) _ rfl w6.heap.size 5 i0 (.int .u8 0) 1 Tryz.underlying22 hi hz0 hz1 hz2 rfl _ 0 [] hrow rfl w6.heap.size _ ((Ed.apG y d.k d.z d.b).take n) hvs6 rfl (fun _ => rfl) (by unfold maxLen; omega) (by omega) (by simp) ?_
           intro v1 w7 hown1 hg1 hat1)
        go_ret2
        exact ⟨hBf.trans ((hA6.trans (below_grown hrow hg1 hA6.size (Nat.le_refl _))).mono hBf.size), .inl ⟨_, _, HD.out, rfl, Sl.of_own (n := 0 + ((Ed.apG y d.k d.z d.b).take n).length) (by simpa using hown1)⟩⟩
      | false =>
        have hnx : ∀ j d', j < k + 1 → (Ed.edG y)[j]? = some d' → hitR y n d' = false := fun j d' hj hd' => by
         obtain ⟨h1, h2⟩ := Hno.out
         by_cases e : j < k
         · exact h1 j d' e hd'
         · obtain rfl : j = k := by omega
           rw [h2] at hd'
           obtain rfl := Option.some.inj hd'
           rw [Hh.out, hin]
        have HX := Lib.hid hnx
        clear hnx hin hv hok hr hu5 hpl
        go_wp2_with fail
        go_roundw
        case rel => exact ⟨k + 1, Hk.out, by go_num, HX.out, hK, _, _, _, _, _, hok', hr'⟩
        case measure => have := Hk.out; simp [intOf]; omega
    · obtain ⟨A5, c5, rfl⟩ := hu5.len
      have hq1 : (((Ed.apG y d.k d.z d.b).length : Int) != (M : Int)) = true := by rw [bne_iff_ne]; omega
      have hh := Hsm.out.2.2 d
      rw [decide_eq_false hlM, Bool.false_and] at hh
      have hnx : ∀ j d', j < k + 1 → (Ed.edG y)[j]? = some d' → hitR y n d' = false := fun j d' hj hd' => by
       obtain ⟨h1, h2⟩ := Hno.out
       by_cases e : j < k
       · exact h1 j d' e hd'
       · obtain rfl : j = k := by omega
         rw [h2] at hd'
         obtain rfl := Option.some.inj hd'
         exact hh
      have HX := Lib.hid hnx
      clear hnx hh hlM hu5 hpl hIn
      go_wp2_with fail
      go_roundw
      case rel => exact ⟨k + 1, Hk.out, by go_num, HX.out, hK, _, _, _, _, _, hok, hr⟩
      case measure => have := Hk.out; simp [intOf]; omega
  · obtain rfl : k = (Ed.edG y).length := by omega
    have hd := Hsm.out.2.1 (fun d hd => by
     obtain ⟨j, hj, rfl⟩ := List.mem_iff_getElem.1 hd
     exact hnot j _ hj (List.getElem?_eq_getElem hj))
    have HD := Lib.hid hd
    have hBf := below_of_kp2 (kp2_keep hK) hB (by omega) hbw hbw
    clear hcl hAp hnot hd hr hok
    go_wp2_with fail
    go_ret2
    exact ⟨hBf, .inr ⟨130, HD.out, rfl⟩⟩
theorem RDec_any (y : List UInt8) (n : Int) (hy : y.length ≤ 300) (sv : Value) (w : World) (hS : Sl eB w.heap.size w sv y) : Calls Tryz.prog 10 #[sv, .int .i64 n] w (DecIs y n w) := by
 by_cases h : 2 ≤ n ∧ n ≤ 800
 · obtain ⟨k, rfl⟩ : ∃ k : Nat, n = k := ⟨n.toNat, by omega⟩
   by_cases hf : y.length + 1 < wlongN k ∨ wlongN k + 1 < y.length
   · exact RDec_far y k (by omega) (by omega) hf sv w hS
   · exact RDec_in y k (by omega) (by omega) hy hf sv w hS
 · exact RDec_arg y n h sv w hS
end Go.Proofs.YtkibigbcdlilkaaGreatDoor
namespace Go.Proofs.YtkibigbcdlilkaaGreatDoor
open Go.RowKit Go.Shelf
attribute [local go_sem] Oper.semAt_some run_store_func
theorem wf_four {x f : List UInt8} (h : wfG x = .ok f) : (wordL x f).length ≤ 1000 ∧ 0 < (wordL x f).length := by
 obtain ⟨a, b, c, hr, rfl⟩ := wf_ok h
 have := word_len hr
 have := hr.most
 have := long_26 x.length (by omega)
 unfold wlongN at *
 omega
set_option maxRecDepth 100000 in
set_option maxHeartbeats 4000000 in
theorem REdit_err (y : List UInt8) (n m : Int) (hy : y.length ≤ 300) (hd : decG y n = .error m) (sv : Value) (w : World) (hS : Sl eB w.heap.size w sv y) :
    Calls Tryz.prog 12 #[sv, .int .i64 n] w fun e w' => e = .returned (.tuple #[Ed.eE 0 0 0, .int .i64 m]) ∧ Below w.heap.size w w' := by
  have hDe := fun w hS => RDec_any y n hy sv w hS
  have hr := Rowed.new w 28 c0
  have hA := below_alloc w (.cells c0 28)
  have hbd : ∀ w, (Instr.build 28 #[]).run Tryz.prog w = .ok (.agg c0) w := fun _ => by kernel_rfl
  have hm0 : (m != 0) = true := by
   rw [bne_iff_ne]
   rintro rfl
   unfold decG at hd
   split at hd
   · split at hd
     · cases hd
     · cases hd
   · cases hd
  have HD := Lib.hid hd
  clear hd
  go_enter Tryz.func12, Tryz.ntmps12
  go_wp2_with fail
  generalize w.alloc (.cells c0 28) = w0 at *
  go_at_call 10
  refine (hDe _ (hS.next hA)).mono ?_
  rintro e w1 ⟨hB1, ⟨x, v, hx, rfl, hv⟩ | ⟨m', hx, rfl⟩⟩
  · rw [HD.out] at hx; cases hx
  · rw [HD.out] at hx
    cases hx
    have hr := hr.below hB1 hr.lt
    have hB := below_trans hA hB1
    have hrow := setRow_heap w1 w.heap.size c0 c0 _ _ hr
    have hB4 := below_setRow hB w.heap.size c0 (Nat.le_refl _)
    go_wp2_with (refine wpList_store_row rfl 28 (.tmp 4) (.tmp 20) rfl w.heap.size c0 rfl rfl _ _ hr size_c0 rfl one_c0 ?_)
    refine bodyPost_ret (v := .tuple #[.agg c0, .int .i64 m]) ?_ rfl ⟨rfl, hB4⟩
    exact results_cell_slot (p := 4) (q := 5) rfl _ _ w.heap.size _ _ _ _ rfl hrow Tryz.underlying28 rfl size_c0
set_option maxRecDepth 100000 in
set_option maxHeartbeats 4000000 in
theorem REdit_ok (y x f s : List UInt8) (hs : wordL x f = s) (n : Int) (hy : y.length ≤ 300) (hd : decG y n = .ok x) (hf : wfG x = .ok f) (sv : Value) (w : World) (hS : Sl eB w.heap.size w sv y) :
    Calls Tryz.prog 12 #[sv, .int .i64 n] w fun e w' => Below w.heap.size w w' ∧ ((∃ d, edfG s y = some d ∧ e = .returned (.tuple #[Ed.eE d.k d.z d.b, .int .i64 0])) ∨ (edfG s y = none ∧ e = .returned (.tuple #[.agg c0, .int .i64 130]))) := by
  have hDe := fun w hS => RDec_any y n hy sv w hS
  have hr := Rowed.new w 28 c0
  have hA := below_alloc w (.cells c0 28)
  have hbd : ∀ w, (Instr.build 28 #[]).run Tryz.prog w = .ok (.agg c0) w := fun _ => by kernel_rfl
  obtain ⟨hw1, hw0⟩ := wf_four hf
  have hMk := fun v w h => WRMake_ok v x f hf w h
  rw [hs] at hw1 hw0 hMk
  have hEd := fun v w h => REdits_any v s hw1 w h
  have hAp := fun (d : Ed.Edt) v w h => RApply_any v s d.k d.z d.b hw0 hw1 w h
  have hel : (Ed.edG s).length ≤ 10000 := by have := Ed.edG_len s; omega
  have HD := Lib.hid (And.intro hd hy)
  obtain ⟨A, c, rfl⟩ := hS.len
  clear hd hf hs hw1 hw0 hy
  go_enter Tryz.func12, Tryz.ntmps12
  go_wp2_with fail
  generalize w.alloc (.cells c0 28) = w0 at *
  go_at_call 10
  refine (hDe _ (hS.next hA)).mono ?_
  rintro e w1 ⟨hB1, ⟨x', v, hx, rfl, hv⟩ | ⟨m', hx, rfl⟩⟩
  case inr => rw [HD.out.1] at hx; cases hx
  rw [HD.out.1] at hx
  cases hx
  have hr := hr.below hB1 hr.lt
  have hA := below_trans hA hB1
  clear hDe hB1
  go_wp2_with fail
  go_at_call 17
  refine (hMk _ _ hv).mono ?_
  rintro e w2 ⟨hC, u2, rfl, hu2⟩
  have hr := hr.below hC hr.lt
  have hA := below_trans hA hC
  clear hMk hC hv
  go_wp2_with fail
  go_at_call 19
  refine (hEd _ _ hu2).mono ?_
  rintro e w5 ⟨u5, rfl, hu5, hC⟩
  have hr := hr.below hC hr.lt
  have hA := below_trans hA hC
  have hv := hu2.next hC
  have hSy := hS.next hA
  obtain ⟨g5, c5, rfl, hcl⟩ := ed_open hu5
  obtain ⟨A2, c2, rfl⟩ := hv.len
  clear hEd hC hu5 hu2 hS
  go_wp2_with fail
  go_loopw [11] (fun i wr => ∃ k : Nat, k ≤ (Ed.edG s).length ∧ i = .int .i64 k ∧ (∀ j d, j < k → (Ed.edG s)[j]? = some d → hitD s y d = false) ∧ Below w5.heap.size w5 wr) (fun i _ => (Ed.edG s).length - (intOf i).toNat)
  case atStart => exact ⟨0, Nat.zero_le _, rfl, fun j d h => absurd h (by omega), Below.refl _ _⟩
  case round =>
   obtain ⟨k, hk, rfl, hno, hB⟩ := hrel
   have hv := (hv.below hB).more hB.size
   have hSy := (hSy.below hB).more hB.size
   have hr6 := hr.below hB hr.lt
   have hA6 := below_trans hA hB
   by_cases hlt : k < (Ed.edG s).length
   · obtain ⟨d, hd⟩ : ∃ d, (Ed.edG s)[k]? = some d := ⟨(Ed.edG s)[k], by simp [hlt]⟩
     obtain ⟨hg, p0, p1, p2⟩ := hcl k d hd
     have r0 := (hB.cell (p := ⟨g5, k * 3, none⟩) hg).trans p0
     have r1 := (hB.cell (p := ⟨g5, k * 3 + 1, none⟩) hg).trans p1
     have r2 := (hB.cell (p := ⟨g5, k * 3 + 2, none⟩) hg).trans p2
     have hkl : (k : Int) < (Ed.edG s).length := by omega
     have hk9 : k ≤ 10000 := by omega
     have Hk := Lib.hid hlt
     have Hno := Lib.hid (And.intro hno hd)
     have hAd := hAp d
     have Hg := Lib.hid hg
     have Hcl := Lib.hid hcl
     clear hcl hd p0 p1 p2 hk hlt hno hAp
     go_wp2_with fail
     have hd0 : Below wr.heap.size wr wr.drew := ⟨rfl, rfl, rfl, Nat.le_refl _, fun _ _ => rfl⟩
     have hSd : Sl eB wr.drew.heap.size wr.drew (.slice A y.length c) y := hSy
     have hvd : Sl eB wr.drew.heap.size wr.drew (.slice A2 s.length c2) s := hv
     have s0 : wr.drew.cell? ⟨g5, k * 3, none⟩ = some (eB d.k) := r0
     have s1 : wr.drew.cell? ⟨g5, k * 3 + 1, none⟩ = some (.int .i64 d.z) := r1
     have s2 : wr.drew.cell? ⟨g5, k * 3 + 2, none⟩ = some (eB d.b) := r2
     have hz1 : hitD s y d = decide (Ed.apG s d.k d.z d.b = y) := rfl
     have hst : ((⟨(Ed.apG s d.k d.z d.b).toArray⟩ : ByteArray) == ⟨y.toArray⟩) = hitD s y d := by rw [str_eq, hz1]
     have hst' : (Ed.apG s d.k d.z d.b == y) = hitD s y d := by
      rw [hz1]
      by_cases h : Ed.apG s d.k d.z d.b = y
      · rw [decide_eq_true h]; simpa using h
      · rw [decide_eq_false h]; simpa using h
     have Hn2 := Lib.hid (show hitD s y d = false → ∀ j d', j < k + 1 → (Ed.edG s)[j]? = some d' → hitD s y d' = false from fun hq j d' hj hd' => by
      obtain ⟨h1, h2⟩ := Hno.out
      by_cases e : j < k
      · exact h1 j d' e hd'
      · obtain rfl : j = k := by omega
        rw [h2] at hd'
        obtain rfl := Option.some.inj hd'
        exact hq)
     have Hf2 := Lib.hid (show hitD s y d = true → edfG s y = some d from fun hq => by
      obtain ⟨h1, h2⟩ := Hno.out
      unfold edfG
      rw [List.find?_eq_some_iff_getElem]
      obtain ⟨hlt, he⟩ := List.getElem?_eq_some_iff.1 h2
      exact ⟨hq, k, hlt, he, fun j hj => by
       rw [h1 j _ hj (List.getElem?_eq_getElem (by omega))]
       rfl⟩)
     clear hz1 Hno
     generalize hzz : Ed.apG s d.k d.z d.b = z at *
     generalize hqq : hitD s y d = qd at *
     clear hzz
     refine wp_region_ghost (CallS [(5, .b z)] wr.drew) (fun g => [(35, .slice A2 s.length c2), (36, .slice (some ⟨g5, 0, none⟩) (Ed.edG s).length c5), (37, .int .i64 k), (38, .pointer (some ⟨g5, k * 3, none⟩)), (39, Ed.eE d.k d.z d.b), (40, g 5), (41, .string ⟨z.toArray⟩), (42, .slice A y.length c), (43, .string ⟨y.toArray⟩), (44, .bool qd)]) (fun _ => undef)
      (by kernel_rfl) (by kernel_rfl) (by kernel_rfl) (by kernel_rfl) (fun _ => by kernel_rfl) ?startE ?okE ?finE
     case startE =>
      intro D hD
      refine CallS.start fun c hc => ?_
      simp only [List.mem_cons, List.not_mem_nil, or_false] at hc
      subst hc
      exact hD _ (by simp)
     case okE =>
      intro T hT'
      simp only [putAll, Act.put, List.setIfInBounds_toArray, List.set_cons_zero, List.set_cons_succ] at hT'
      simp only [ghAll]
      refine ⟨?_, ?_, ?_, ?_, ?_, ?_, ?_, ?_, ?_, ?_, trivial⟩
      · refine gc_op rfl fun D g w' hdp h => ?_
        rw [hT' g]
        clear hT'
        go_simp
        exact Below.refl _ _
      · refine gc_op rfl fun D g w' hdp h => ?_
        rw [hT' g]
        clear hT'
        go_simp
        exact Below.refl _ _
      · refine gc_op rfl fun D g w' hdp h => ?_
        rw [hT' g]
        clear hT'
        go_simp
        exact Below.refl _ _
      · refine gc_op rfl fun D g w' hdp h => ?_
        rw [hT' g]
        clear hT'
        go_simp
        exact Below.refl _ _
      · refine gc_op rfl fun D g w' hdp h => ?_
        have q0 := (h.1.cell (p := ⟨g5, k * 3, none⟩) (show g5 < wr.heap.size from Nat.lt_of_lt_of_le Hg.out hB.size)).trans s0
        have q1 := (h.1.cell (p := ⟨g5, k * 3 + 1, none⟩) (show g5 < wr.heap.size from Nat.lt_of_lt_of_le Hg.out hB.size)).trans s1
        have q2 := (h.1.cell (p := ⟨g5, k * 3 + 2, none⟩) (show g5 < wr.heap.size from Nat.lt_of_lt_of_le Hg.out hB.size)).trans s2
        rw [hT' g]
        clear hT'
        go_simp
        exact Below.refl _ _
      · refine gc_call (r := .b z) rfl rfl (by simp) (fun g v => by rw [hT', hT']; rfl) (fun g => by rw [hT' g]; rfl) (fun D g w' hdp h => by
          rw [hT' g]
          unfold Oper.wp
          go_simp
          refine (hAd _ _ (hvd.next h.1)).mono ?_
          rintro e w3 ⟨v, rfl, hv, hC⟩
          exact ⟨hv, hC⟩)
      · refine gc_conv 22 9 _ rfl _ rfl (fun g => by rw [hT' g]; rfl) (fun D g w' hdp h => by
          rw [hT' g]
          exact run_str (P := Tryz.prog) (show Sl eB w'.heap.size w' (g 5) z from h.2 (5, .b z) (by simp) (dep_on hdp (by kernel_rfl))) 22 9 5 Tryz.underlying22 Tryz.underlying5 Tryz.underlying9) (fun g => by rw [hT' g]; rfl)
      · refine gc_op rfl fun D g w' hdp h => ?_
        rw [hT' g]
        clear hT'
        go_simp
        exact Below.refl _ _
      · refine gc_conv 22 9 _ rfl _ rfl (fun g => by rw [hT' g]; rfl) (fun D g w' hdp h => by
          rw [hT' g]
          exact run_str (P := Tryz.prog) (hSd.next h.1) 22 9 5 Tryz.underlying22 Tryz.underlying5 Tryz.underlying9) (fun g => by rw [hT' g]; rfl)
      · refine gc_op rfl fun D g w' hdp h => ?_
        rw [hT' g]
        clear hT'
        go_simp
        exact Below.refl _ _
     case finE =>
      intro T hT' D g WF hall ⟨hBF, _⟩
      have hTg := hT' g
      simp only [putAll, Act.put, List.setIfInBounds_toArray, List.set_cons_zero, List.set_cons_succ] at hTg
      rw [hTg]
      have hBn : Below wr.heap.size wr WF := below_trans hd0 hBF
      have hBx := hB.trans (hBn.mono hB.size)
      have hr7 := hr6.below hBn hr6.lt
      have hA7 := below_trans hA6 hBn
      have hgl : g5 < wr.heap.size := Nat.lt_of_lt_of_le Hg.out hB.size
      have t0 := (hBn.cell (p := ⟨g5, k * 3, none⟩) hgl).trans r0
      have t1 := (hBn.cell (p := ⟨g5, k * 3 + 1, none⟩) hgl).trans r1
      have t2 := (hBn.cell (p := ⟨g5, k * 3 + 2, none⟩) hgl).trans r2
      clear hT' hTg hall hBF hBn s0 s1 s2 r0 r1 r2 hSd hvd hSy hv hr6 hA6 hB hAd hd0
      generalize g 5 = gv at *
      cases hq : qd with
      | true =>
        rw [hq] at Hf2
        have hrow := setRow_heap WF w.heap.size c0 (Ed.cE d.k d.z d.b) _ _ hr7
        have hB4 := below_setRow hA7 w.heap.size (Ed.cE d.k d.z d.b) (Nat.le_refl _)
        clear hq Hn2 Hk
        go_wp2_with (refine wpList_store_row rfl 28 (.tmp 4) (.tmp 48) rfl w.heap.size (Ed.cE d.k d.z d.b) rfl rfl _ _ hr7 size_c0 rfl (by simp [Value.oneCell']) ?_)
        refine bodyPost_ret (v := .tuple #[Ed.eE d.k d.z d.b, .int .i64 0]) ?_ rfl ⟨hB4, .inl ⟨d, Hf2.out (by trivial), rfl⟩⟩
        exact results_cell_slot (p := 4) (q := 5) rfl _ _ w.heap.size _ _ _ _ rfl hrow Tryz.underlying28 rfl size_c0
      | false =>
        rw [hq] at Hn2
        clear hq Hf2
        go_wp2_with fail
        go_roundw
        case rel => exact ⟨k + 1, Hk.out, by go_num, Hn2.out (by trivial), hBx⟩
        case measure => have := Hk.out; simp [intOf]; omega
   · obtain rfl : k = (Ed.edG s).length := by omega
     have hfind : edfG s y = none := by
      unfold edfG
      rw [List.find?_eq_none]
      intro d hd
      obtain ⟨j, hj, rfl⟩ := List.mem_iff_getElem.1 hd
      rw [hno j _ hj (List.getElem?_eq_getElem hj)]
      simp
     have Hf := Lib.hid hfind
     have hrow := setRow_heap wr w.heap.size c0 c0 _ _ hr6
     have hB4 := below_setRow hA6 w.heap.size c0 (Nat.le_refl _)
     clear hno hfind hcl hAp
     go_wp2_with (refine wpList_store_row rfl 28 (.tmp 4) (.tmp 49) rfl w.heap.size c0 rfl rfl _ _ hr6 size_c0 rfl one_c0 ?_)
     refine bodyPost_ret (v := .tuple #[.agg c0, .int .i64 130]) ?_ rfl ⟨hB4, .inr ⟨Hf.out, rfl⟩⟩
     exact results_cell_slot (p := 4) (q := 5) rfl _ _ w.heap.size _ _ _ _ rfl hrow Tryz.underlying28 rfl size_c0
theorem REdit_any (y : List UInt8) (n : Int) (hy : y.length ≤ 300) (sv : Value) (w : World) (hS : Sl eB w.heap.size w sv y) :
    Calls Tryz.prog 12 #[sv, .int .i64 n] w fun e w' => e = .returned (.tuple #[Ed.eE (editG y n).1.k (editG y n).1.z (editG y n).1.b, .int .i64 (editG y n).2]) ∧ Below w.heap.size w w' := by
  cases hd : decG y n with
  | error m =>
    rw [dec_error hd]
    exact REdit_err y n m hy hd sv w hS
  | ok x =>
    obtain ⟨-, -, -, a, b, c, hr, hf, -⟩ := dec_near hd
    have hE := ref_edit hd hf
    refine (REdit_ok y x _ _ rfl n hy hd hf sv w hS).mono ?_
    rintro e w' ⟨hB, ⟨d, hd, rfl⟩ | ⟨hd, rfl⟩⟩
    · rw [hd] at hE
      rw [hE]
      exact ⟨rfl, hB⟩
    · rw [hd] at hE
      rw [hE]
      exact ⟨rfl, hB⟩
set_option maxRecDepth 100000 in
set_option maxHeartbeats 2000000 in
theorem RKind_any (y : List UInt8) (n : Int) (hy : y.length ≤ 300) (sv : Value) (w : World) (hS : Sl eB w.heap.size w sv y) :
    Calls Tryz.prog 14 #[sv, .int .i64 n] w fun e w' => e = .returned (.tuple #[eB (editG y n).1.k, .int .i64 (editG y n).2]) ∧ Below w.heap.size w w' := by
  have hE := REdit_any y n hy sv w hS
  generalize editG y n = r at *
  obtain ⟨⟨k, z, b⟩, m⟩ := r
  go_enter Tryz.func14, Tryz.ntmps14
  go_wp2_with fail
  go_at_call 12
  refine hE.mono ?_
  clear hE
  rintro e w1 ⟨rfl, hB⟩
  have hr := Rowed.new w1 28 (Ed.cE k z b)
  have hA := below_trans hB (below_alloc w1 (.cells (Ed.cE k z b) 28))
  have q0 := hr.cell 0
  go_wp2_with fail
  go_ret2
  exact ⟨rfl, hA⟩
end Go.Proofs.YtkibigbcdlilkaaGreatDoor
namespace Go.Proofs.YtkibigbcdlilkaaGreatDoor
open Go.RowKit Go.Shelf
attribute [local go_sem] Oper.semAt_some run_store_func
theorem dec_both (y : List UInt8) (n : Int) (hy : y.length ≤ 150) : ∃ (z : List UInt8) (m : Int),
    (∀ v w, Tab w → TabB w → Sl eB w.heap.size w v y → Calls Tryz.prog 9 #[v, .int .i64 n] w fun e w' => Below w.heap.size w w' ∧ ∃ u, e = .returned (.tuple #[u, .int .i64 m]) ∧ Sl eB w'.heap.size w' u z) ∧
    (∀ v w, Sl eB w.heap.size w v y → Calls Tryz.prog 10 #[v, .int .i64 n] w fun e w' => Below w.heap.size w w' ∧ ∃ u, e = .returned (.tuple #[u, .int .i64 m]) ∧ Sl eB w'.heap.size w' u z) := by
 have hnil : ∀ w : World, Sl eB w.heap.size w (.slice none 0 0) ([] : List UInt8) := fun w => ⟨none, 0, rfl, Nat.le_refl _, fun h => absurd h (by simp)⟩
 cases hd : decG y n with
 | ok x =>
   refine ⟨x, 0, fun v w hT hTB hS => Dec_ok hd (by omega) v w hT hTB hS, fun v w hS => (RDec_any y n (by omega) v w hS).mono ?_⟩
   rintro e w' ⟨hB, ⟨x', u, h1, rfl, hu⟩ | ⟨m, h1, rfl⟩⟩
   · rw [hd] at h1; cases h1; exact ⟨hB, u, rfl, hu⟩
   · rw [hd] at h1; cases h1
 | error m =>
   refine ⟨[], m, fun v w hT hTB hS => (Dec_no hd (by omega) v w hT hTB hS).mono ?_, fun v w hS => (RDec_any y n (by omega) v w hS).mono ?_⟩
   · rintro e w' ⟨hB, rfl⟩
     exact ⟨hB, _, rfl, hnil w'⟩
   · rintro e w' ⟨hB, ⟨x', u, h1, rfl, hu⟩ | ⟨k, h1, rfl⟩⟩
     · rw [hd] at h1; cases h1
     · rw [hd] at h1; cases h1; exact ⟨hB, _, rfl, hnil w'⟩
set_option maxRecDepth 100000 in
set_option maxHeartbeats 4000000 in
theorem InnerTells_any (v0 : Value) (y : List UInt8) (n : Int) (w : World) (hS : Sl eB w.heap.size w v0 y) (hT : Tab w) (hTB : TabB w) (hTE : Ed.TabE w) :
    Calls Tryz.prog 3 #[v0, .int .i64 n] w fun e w' => e = .returned (.bool true) ∧ Below w.heap.size w w' := by
  have hwk := wakes_any
  by_cases h0 : 150 < y.length
  · obtain ⟨A, c, rfl⟩ := hS.len
    have d1 : decide ((150 : Int) < (y.length : Int)) = true := decide_eq_true (by omega)
    have d2 : (150 : Int) < (y.length : Int) := by omega
    clear h0
    go_enter Tryz.func3, Tryz.ntmps3
    go_wp2_with fail
    go_at_call 8
    refine (hwk _ hT hTB hTE).mono ?_
    rintro e w7 ⟨rfl, hB7⟩
    go_wp2_with fail
    go_ret
    exact ⟨rfl, hB7⟩
  obtain ⟨x, m, f0, f1⟩ := dec_both y n (by omega)
  have f2 := fun v w hT hTB hTE hS => Edit_any y n (by omega) v w hT hTB hTE hS
  have f3 := fun v w hS => REdit_any y n (by omega) v w hS
  have f4 := fun v w hT hTB hTE hS => Kind_any y n (by omega) v w hT hTB hTE hS
  have f5 := fun v w hS => RKind_any y n (by omega) v w hS
  generalize editG y n = r at *
  obtain ⟨⟨k, z, b⟩, m2⟩ := r
  simp only at f2 f3 f4 f5
  have d1 : decide ((150 : Int) < (y.length : Int)) = false := decide_eq_false (by omega)
  have d2 : ¬ (150 : Int) < (y.length : Int) := by omega
  have hq := eqE_same k z b
  have hcx : (Ed.eE k z b).cells = Ed.cE k z b := rfl
  obtain ⟨A, c, rfl⟩ := hS.len
  clear h0
  go_enter Tryz.func3, Tryz.ntmps3
  go_wp2_with fail
  go_at_call 9
  refine (f0 _ _ hT hTB hS).mono ?_
  rintro e w1 ⟨hB, u1, rfl, hu1⟩
  have hT := hT.below hB
  have hTB := hTB.below hB
  have hTE := hTE.below hB
  have hS := hS.next hB
  clear f0
  go_wp2_with fail
  go_at_call 10
  refine (f1 _ _ hS).mono ?_
  rintro e w2 ⟨hC, u2, rfl, hu2⟩
  have hB := below_trans hB hC
  have hT := hT.below hC
  have hTB := hTB.below hC
  have hTE := hTE.below hC
  have hS := hS.next hC
  have hu1 := hu1.next hC
  clear f1 hC
  go_wp2_with fail
  go_at_call 11
  refine (f2 _ _ hT hTB hTE hS).mono ?_
  rintro e w3 ⟨rfl, hC⟩
  have hr := Rowed.new w3 28 (Ed.cE k z b)
  have hC := below_trans hC (below_alloc w3 (.cells (Ed.cE k z b) 28))
  have hB := below_trans hB hC
  have hT := hT.below hC
  have hTB := hTB.below hC
  have hTE := hTE.below hC
  have hS := hS.next hC
  have hu1 := hu1.next hC
  have hu2 := hu2.next hC
  clear f2 hC
  go_wp2_with fail
  generalize w3.alloc (.cells (Ed.cE k z b) 28) = w3' at *
  generalize w3.heap.size = g3 at *
  go_at_call 12
  refine (f3 _ _ hS).mono ?_
  rintro e w4 ⟨rfl, hC⟩
  have hr := hr.below hC hr.lt
  have hr2 := Rowed.new w4 28 (Ed.cE k z b)
  have hA4 := below_alloc w4 (.cells (Ed.cE k z b) 28)
  have hr := hr.below hA4 hr.lt
  have hC := below_trans hC hA4
  have hB := below_trans hB hC
  have hT := hT.below hC
  have hTB := hTB.below hC
  have hTE := hTE.below hC
  have hS := hS.next hC
  have hu1 := hu1.next hC
  have hu2 := hu2.next hC
  clear f3 hC hA4
  go_wp2_with fail
  generalize w4.alloc (.cells (Ed.cE k z b) 28) = w4' at *
  generalize w4.heap.size = g4 at *
  go_at_call 13
  refine (f4 _ _ hT hTB hTE hS).mono ?_
  rintro e w5 ⟨rfl, hC⟩
  have hr := hr.below hC hr.lt
  have hr2 := hr2.below hC hr2.lt
  have hB := below_trans hB hC
  have hT := hT.below hC
  have hTB := hTB.below hC
  have hTE := hTE.below hC
  have hS := hS.next hC
  have hu1 := hu1.next hC
  have hu2 := hu2.next hC
  clear f4 hC
  go_wp2_with fail
  go_at_call 14
  refine (f5 _ _ hS).mono ?_
  rintro e w6 ⟨rfl, hC⟩
  have hr := hr.below hC hr.lt
  have hr2 := hr2.below hC hr2.lt
  have hB := below_trans hB hC
  have hT := hT.below hC
  have hTB := hTB.below hC
  have hTE := hTE.below hC
  have hu1 := hu1.next hC
  have hu2 := hu2.next hC
  have hsm := Gp.same_eq _ _ x _ _ hu1 hu2
  clear f5 hC hS hu1 hu2
  have p0 := hr.cell 0
  have p1 := hr.cell 1
  have p2 := hr.cell 2
  have q0 := hr2.cell 0
  have q1 := hr2.cell 1
  have q2 := hr2.cell 2
  go_wp2_with fail
  go_at_call 15
  refine hsm.mono ?_
  rintro e w' ⟨rfl, rfl⟩
  go_wp2_with fail
  go_at_call 8
  refine (hwk _ hT hTB hTE).mono ?_
  rintro e w7 ⟨rfl, hB7⟩
  go_wp2_with fail
  go_ret
  exact ⟨rfl, below_trans hB hB7⟩
end Go.Proofs.YtkibigbcdlilkaaGreatDoor
