import Derived.Test.YtcngnjkpnmpcpaaDoorNtMZ
import Derived.Test.YtcngnjkpnmpcpaaDoorPaWZ
import Derived.Test.YtcngnjkpnmpcpaaDoorRcBZ
namespace Go.Proofs.YtcngnjkpnmpcpaaDoor
open Go.RowKit Go.Shelf
attribute [local go_sem] Oper.semAt_some run_store_func
theorem codes_okP {bs : List UInt8} (h : (-1 : Int) ∉ codesOf bs) : ∀ z ∈ codesOf bs, 0 ≤ z ∧ z ≤ 3 := fun z hz => by
 obtain ⟨b, hb, rfl⟩ := List.mem_map.1 hz
 have h1 := codeOf_range b.toNat
 have h2 : codeOf b.toNat ≠ -1 := fun e => h (by rw [← e]; exact hz)
 omega
theorem letter_of_codeP {b : UInt8} (h : codeOf b.toNat ≠ -1) : letterOf (codeOf b.toNat) = b := by
 rcases code_four h with rfl | rfl | rfl | rfl <;> rfl
theorem rowOf_codes {bs : List UInt8} (h : (-1 : Int) ∉ codesOf bs) : rowOf (codesOf bs) = bs := by
 unfold codesOf at h
 unfold rowOf codesOf
 rw [List.map_map]
 conv => rhs; rw [← List.map_id bs]
 refine List.map_congr_left fun b hb => ?_
 exact letter_of_codeP fun e => h (by rw [← e]; exact List.mem_map.2 ⟨b, hb, rfl⟩)
theorem one_rc {bs : List UInt8} (h : (-1 : Int) ∉ codesOf bs) : oneG (rcOf bs) = oneG bs := by
 obtain ⟨l, hl, hk⟩ : ∃ l, rowOf l = bs ∧ ∀ z ∈ l, 0 ≤ z ∧ z ≤ 3 := ⟨_, rowOf_codes h, codes_okP h⟩
 subst hl
 have e : rcOf (rowOf l) = rowOf (turn l) := rcOf_rowOf l
 have hlen : ∀ m : List Int, (rowOf m).length = m.length := fun m => by simp [rowOf]
 have hv : (-1 : Int) ∉ codesOf (rowOf (turn l)) := by
  rw [codesOf_rowOf]
  intro hm
  obtain ⟨z, -, e⟩ := List.mem_map.1 hm
  omega
 have hg := gcOf_turn l
 have hr := runOf_turn l
 unfold runOf at hr
 rw [e]
 unfold oneG
 rw [hg, hr, hlen, hlen, turn_length, decide_eq_true h, decide_eq_true hv]
theorem one_len {l : List UInt8} (h : l.length ≠ 16) : oneG l = false := by
 unfold oneG
 rw [decide_eq_false h]
 rfl
theorem one_bad {l : List UInt8} (h : (-1 : Int) ∈ codesOf l) : oneG l = false := by
 unfold oneG
 rw [decide_eq_false (p := (-1 : Int) ∉ codesOf l) (fun hn => hn h), Bool.and_false, Bool.false_and, Bool.false_and]
theorem str_of {w : World} {sv : Value} {x : List UInt8} (h : Sl eB w.heap.size w sv x) : (convert 39 9 sv).run Tryd.prog w = .ok (.string ⟨x.toArray⟩) w :=
 run_str (P := Tryd.prog) h 39 9 5 Tryd.underlying39 Tryd.underlying5 Tryd.underlying9
theorem OneX_no (X : ByteArray) (hX : X.size ≠ 16) (w : World) (hT : Tab w) : Calls Tryd.prog 21 #[.string X] w fun e w' => e = .returned (.bool false) ∧ Below w.heap.size w w' := by
 have e : X = ⟨X.data.toList.toArray⟩ := by cases X; rfl
 have hl : X.data.toList.length ≠ 16 := by rw [Array.length_toList]; exact hX
 have h := One_any X.data.toList w hT
 rw [one_len hl] at h
 rw [e]
 exact h
theorem enc_pos : ∀ b : UInt8, 1 ≤ (Utf8.encode (b.toNat : Int)).size := by
 have h : ∀ n : Fin 256, 1 ≤ (Utf8.encode ((n.val : Nat) : Int)).size := by decide +kernel
 intro b
 exact h ⟨b.toNat, b.toNat_lt⟩
theorem enc_le : ∀ b : UInt8, (Utf8.encode (b.toNat : Int)).size ≤ 4 := by
 have h : ∀ n : Fin 256, (Utf8.encode ((n.val : Nat) : Int)).size ≤ 4 := by decide +kernel
 intro b
 exact h ⟨b.toNat, b.toNat_lt⟩
theorem i32_byte (b : UInt8) : IntKind.i32.wrap (b.toNat : Int) = (b.toNat : Int) := by
 have h : ∀ n : Fin 256, IntKind.i32.wrap ((n.val : Nat) : Int) = ((n.val : Nat) : Int) := by decide +kernel
 exact h ⟨b.toNat, b.toNat_lt⟩
set_option maxRecDepth 100000 in
set_option maxHeartbeats 4000000 in
theorem One_main (s : List UInt8) (b : UInt8) (hs : s.length ≤ 40) (w : World) (hT : Tab w) :
    Calls Tryd.prog 7 #[sV s, eB b] w fun e w' => e = .returned (.bool true) ∧ Below w.heap.size w w' := by
  have d1 : decide ((40 : Int) < (s.length : Int)) = false := decide_eq_false (by omega)
  obtain ⟨c, w1, hcv, hS, hB1, -⟩ := to_bytes w s
  have hR := rRc_any _ s (by omega) w1 hS
  have HT := Lib.hid hT
  have HW := Lib.hid (fun W (h : Below w.heap.size w W) => wakes_any W (HT.out.below h))
  have HO := Lib.hid (fun l W (h : Below w.heap.size w W) => One_any l W (HT.out.below h))
  clear hT hS
  go_enter Tryd.func7, Tryd.ntmps7
  go_wp2_with fail
  go_at_call 26
  refine hR.mono ?_
  rintro e w2 ⟨hB2, ⟨hok, v, rfl, hown⟩ | ⟨hbad, rfl⟩⟩
  · have hBt := below_trans hB1 hB2
    obtain ⟨A3, c3, rfl⟩ := (Sl.of_own hown).len
    have HOW := Lib.hid hown
    have HRC := Lib.hid (one_rc hok)
    have q1 := HO.out s w2 hBt
    clear hR hok hown
    go_wp2_with fail
    go_at_call 21
    refine q1.mono ?_
    rintro e w3 ⟨rfl, hB3⟩
    have hBt3 := below_trans hBt hB3
    have hcv2 := str_of (Sl.of_own (own_below HOW.out hB3))
    clear q1 hcv
    cases ho : oneG s with
    | false =>
      rw [ho] at HRC
      have q2 := HO.out (rcOf s) w3 hBt3
      rw [HRC.out] at q2
      clear ho
      go_wp2_with fail
      go_at_call 21
      refine q2.mono ?_
      rintro e w4 ⟨rfl, hB4⟩
      have hBt4 := below_trans hBt3 hB4
      have hwk := HW.out w4 hBt4
      clear q2
      go_wp2_with fail
      go_at_call 9
      refine hwk.mono ?_
      rintro e w5 ⟨rfl, hB5⟩
      clear hwk
      go_wp2_with fail
      go_ret
      exact ⟨rfl, below_trans hBt4 hB5⟩
    | true =>
      rw [ho] at HRC
      obtain ⟨h16, -⟩ := oneG_is.1 ho
      have d2 : ((s.length : Int) != 16) = false := by rw [h16]; rfl
      have H16 := Lib.hid h16
      have HX := Lib.hid (fun X hX W (h : Below w.heap.size w W) => OneX_no X hX W (HT.out.below h))
      have q2 := HX.out ((⟨s.toArray⟩ : ByteArray).extract 1 16) (by rw [ByteArray.size_extract, sV_size, h16]; decide) w3 hBt3
      have HEN := Lib.hid (enc_pos b)
      clear ho
      go_wp2_with fail
      go_at_call 21
      refine q2.mono ?_
      rintro e w4 ⟨rfl, hB4⟩
      have hBt4 := below_trans hBt3 hB4
      have hB34 := below_trans hB3 hB4
      have hcv3 := str_of (Sl.of_own (own_below HOW.out hB34))
      clear q2 hcv2
      obtain ⟨E, hE⟩ : ∃ E, Utf8.encode (b.toNat : Int) = E := ⟨_, rfl⟩
      have hce : ∀ w, (convert 5 21 (eB b)).run Tryd.prog w = .ok (.int .i32 (b.toNat : Int)) w := fun w => by
       have h1 := run_convert_int (P := Tryd.prog) (w := w) 5 21 .u8 (b.toNat : Int) (by kernel_rfl) (by kernel_rfl)
       have hk : Tryd.prog.intKind 21 = .i32 := by kernel_rfl
       rw [hk, i32_byte] at h1
       exact h1
      have hcs : ∀ w, (convert 21 9 (.int .i32 (b.toNat : Int))).run Tryd.prog w = .ok (.string E) w := fun w => by
       rw [← hE]
       exact run_convert_int_string w _ _ _ _ (by kernel_rfl) Tryd.underlying9
      have q3 := HX.out ((⟨s.toArray⟩ : ByteArray) ++ E) (by rw [ByteArray.size_append, sV_size, H16.out, ← hE]; have := HEN.out; omega) w4 hBt4
      have hEl : E.size ≤ 4 := by rw [← hE]; exact enc_le b
      clear hE
      generalize eB b = vb at *
      go_wp2_with fail
      go_at_call 21
      refine q3.mono ?_
      rintro e w5 ⟨rfl, hB5⟩
      have hBt5 := below_trans hBt4 hB5
      have hcv4 := str_of (Sl.of_own (own_below HOW.out (below_trans hB34 hB5)))
      have q4 := HO.out (rcOf s) w5 hBt5
      rw [HRC.out] at q4
      clear q3 hcv3
      go_wp2_with fail
      go_at_call 21
      refine q4.mono ?_
      rintro e w6 ⟨rfl, hB6⟩
      have hBt6 := below_trans hBt5 hB6
      have hwk := HW.out w6 hBt6
      clear q4
      go_wp2_with fail
      go_at_call 9
      refine hwk.mono ?_
      rintro e w7 ⟨rfl, hB7⟩
      clear hwk
      go_wp2_with fail
      go_ret
      exact ⟨rfl, below_trans hBt6 hB7⟩
  · have hBt := below_trans hB1 hB2
    have q1 := HO.out s w2 hBt
    rw [one_bad hbad] at q1
    clear hR hbad
    go_wp2_with fail
    go_at_call 21
    refine q1.mono ?_
    rintro e w3 ⟨rfl, hB3⟩
    have hBt3 := below_trans hBt hB3
    have hwk := HW.out w3 hBt3
    clear q1
    go_wp2_with fail
    go_at_call 9
    refine hwk.mono ?_
    rintro e w4 ⟨rfl, hB4⟩
    clear hwk
    go_wp2_with fail
    go_ret
    exact ⟨rfl, below_trans hBt3 hB4⟩
set_option maxRecDepth 100000 in
set_option maxHeartbeats 1000000 in
theorem PrimersOne_any (s : List UInt8) (b : UInt8) (w : World) (hT : Tab w) :
    Calls Tryd.prog 7 #[sV s, eB b] w fun e w' => e = .returned (.bool true) ∧ Below w.heap.size w w' := by
  by_cases hs : s.length ≤ 40
  · exact One_main s b hs w hT
  · have d1 : decide ((40 : Int) < (s.length : Int)) = true := decide_eq_true (by omega)
    have hwk := wakes_any w hT
    clear hs
    go_enter Tryd.func7, Tryd.ntmps7
    go_wp2_with fail
    go_at_call 9
    refine hwk.mono ?_
    rintro e w5 ⟨rfl, hB5⟩
    clear hwk
    go_wp2_with fail
    go_ret
    exact ⟨rfl, hB5⟩
end Go.Proofs.YtcngnjkpnmpcpaaDoor
