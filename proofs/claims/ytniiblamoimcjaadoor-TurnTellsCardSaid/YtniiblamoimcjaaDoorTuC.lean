/- Contracts of turn.behind and trit. -/
import Derived.Test.YtniiblamoimcjaaDoorTuB
namespace Go.Proofs.YtniiblamoimcjaaDoor
open Go.RowKit Go.Shelf
attribute [local go_sem] Oper.semAt_some run_store_func

/-- The letter behind a by t, or the error. -/
def behG (a t : UInt8) : Except Int UInt8 := if codeOf a.toNat = -1 then .error 10 else if 3 ≤ t.toNat then .error 2 else .ok (((oth (codeOf a.toNat).toNat)[t.toNat]?).getD 0)
/-- The trit by which c is behind a, or the error. -/
def triG (a c : UInt8) : Except Int UInt8 :=
  if codeOf a.toNat = -1 then .error 10 else if codeOf c.toNat = -1 then .error 10 else
    match (oth (codeOf a.toNat).toNat).idxOf? c with
    | some n => .ok (UInt8.ofNat n)
    | none => .error 90

set_option maxRecDepth 100000 in
theorem others_no (a : UInt8) (hk : codeOf a.toNat = -1) (w : World) (hT : Tab w) :
    Calls Tryd.prog 31 #[eB a] w fun e w' => e = .panicked (errno 10) ∧ Below w.heap.size w w' := by
  obtain ⟨hz, hsz⟩ := zero_of_info info3
  have hc0 := cells_aB [0, 0, 0]
  obtain ⟨Z, hZ⟩ : ∃ Z : List UInt8, [0, 0, 0] = Z := ⟨_, rfl⟩
  rw [hZ] at hz hc0
  clear hZ
  have hC := fun w hT => Code_no a.toNat w hT hk
  have hA := below_alloc w (.cells (Z.map eB).toArray 45)
  have hT1 := hT.below hA
  clear hk
  go_enter Tryd.func31, Tryd.ntmps31
  go_wp2_with fail
  generalize w.alloc (.cells (Z.map eB).toArray 45) = w1 at *
  go_at_call 32
  refine (hC _ hT1).mono ?_
  rintro e w' ⟨rfl, rfl⟩
  go_wp2_with fail
  go_at_call 33
  refine (told_no 10 (by omega) _).mono ?_
  rintro e w' ⟨rfl, rfl⟩
  exact ⟨rfl, rfl, hA⟩

set_option maxRecDepth 100000 in
set_option maxHeartbeats 2000000 in
theorem behind_any (a t : UInt8) (w : World) (hT : Tab w) :
    Calls Tryd.prog 22 #[eB a, eB t] w fun e w' => Below w.heap.size w w' ∧ ((∃ c, behG a t = .ok c ∧ e = .returned (eB c)) ∨ ∃ n, behG a t = .error n ∧ e = .panicked (errno n)) := by
  by_cases hk : codeOf a.toNat = -1
  · have hb : behG a t = .error 10 := by rw [behG, if_pos hk]
    rw [hb]
    have hO := others_no a hk w hT
    clear hk hb
    go_enter Tryd.func22, Tryd.ntmps22
    go_wp2_with fail
    go_at_call 31
    refine hO.mono ?_
    rintro e w' ⟨rfl, hB⟩
    exact ⟨rfl, hB, .inr ⟨10, rfl, rfl⟩⟩
  · obtain ⟨k, hkk⟩ : ∃ k : Nat, codeOf a.toNat = (k : Int) := ⟨(codeOf a.toNat).toNat, by have := codeOf_range a.toNat; omega⟩
    have hO := others_yes a k hkk w hT
    have hol : (oth k).length = 3 := oRow_length k 3
    obtain ⟨hz, hsz⟩ := zero_of_info info3
    have hc0 := cells_aB [0, 0, 0]
    obtain ⟨Z, hZ⟩ : ∃ Z : List UInt8, [0, 0, 0] = Z := ⟨_, rfl⟩
    have hZl : Z.length = 3 := by rw [← hZ]; rfl
    rw [hZ] at hz hc0
    clear hZ
    have ht8 := t.toNat_lt
    have hconv : IntKind.i64.wrap (t.toNat : Int) = (t.toNat : Int) := IntWalk.i64_in _ (by omega)
    by_cases h3 : 3 ≤ t.toNat
    · have hb : behG a t = .error 2 := by rw [behG, if_neg hk, if_pos h3]
      rw [hb]
      have d3 : decide ((3 : Int) ≤ (t.toNat : Int)) = true := decide_eq_true (by omega)
      have sO := size3 (oth k) hol
      have zO : (Z.map eB).toArray.size = ((oth k).map eB).toArray.size := by simp [hZl, hol]
      have oO := one_map (oth k)
      clear hk hb hkk h3 hol
      generalize oth k = O at *
      go_enter Tryd.func22, Tryd.ntmps22
      go_wp2_with fail
      go_at_call 31
      refine hO.mono ?_
      rintro e w1 ⟨rfl, hB⟩
      have hr := Rowed.new w1 45 (Z.map eB).toArray
      have hB2 := below_setRow (hB.alloc hB.size (.cells (Z.map eB).toArray 45)) w1.heap.size (O.map eB).toArray hB.size
      clear hO
      go_wp2_with (refine wpList_store_row rfl 45 (.tmp 5) (.tmp 7) rfl w1.heap.size (O.map eB).toArray rfl rfl _ _ hr sO zO oO ?_)
      exact ⟨rfl, hB2, .inr ⟨2, rfl, rfl⟩⟩
    · have hb : behG a t = .ok ((oth k)[t.toNat]'(by omega)) := by
        rw [behG, if_neg hk, if_neg h3, hkk, Int.toNat_natCast, List.getElem?_eq_getElem (by omega)]; rfl
      have d3 : decide ((3 : Int) ≤ (t.toNat : Int)) = false := decide_eq_false (by omega)
      have sO := size3 (oth k) hol
      have zO : (Z.map eB).toArray.size = ((oth k).map eB).toArray.size := by simp [hZl, hol]
      have oO := one_map (oth k)
      have i3 : (t.toNat : Int) < 3 := by omega
      rw [hb]
      clear hk hb hkk
      have hrg : ((oth k).map eB).toArray[t.toNat]? = some (eB ((oth k)[t.toNat]'(by omega))) := by rw [row_get, List.getElem?_eq_getElem (by omega)]; rfl
      generalize (oth k)[t.toNat]'(by omega) = c at *
      generalize oth k = O at *
      clear hol
      go_enter Tryd.func22, Tryd.ntmps22
      go_wp2_with fail
      go_at_call 31
      refine hO.mono ?_
      rintro e w1 ⟨rfl, hB⟩
      have hr := Rowed.new w1 45 (Z.map eB).toArray
      have hB2 := below_setRow (hB.alloc hB.size (.cells (Z.map eB).toArray 45)) w1.heap.size (O.map eB).toArray hB.size
      have hr2 := Row8.put hr O
      have ck : ((w1.alloc (.cells (Z.map eB).toArray 45)).setRow w1.heap.size (O.map eB).toArray).cell? ⟨w1.heap.size, t.toNat, none⟩ = some (eB c) := by rw [hr2.cell, hrg]
      clear hO hrg hr2
      go_wp2_with (refine wpList_store_row rfl 45 (.tmp 5) (.tmp 7) rfl w1.heap.size (O.map eB).toArray rfl rfl _ _ hr sO zO oO ?_)
      go_ret
      exact ⟨hB2, .inl ⟨c, rfl, rfl⟩⟩
theorem idx_some {O : List UInt8} {c : UInt8} {n : Nat} (h : O.idxOf? c = some n) : ∃ hn : n < O.length, O[n] = c ∧ ∀ j (hj : j < n), O[j] ≠ c := by
  rw [List.idxOf?, List.findIdx?_eq_some_iff_getElem] at h
  obtain ⟨hn, h1, h2⟩ := h
  exact ⟨hn, by simpa using h1, fun j hj => by simpa using h2 j hj⟩
theorem idx_none {O : List UInt8} {c : UInt8} (h : O.idxOf? c = none) : ∀ j (hj : j < O.length), O[j] ≠ c := by
  rw [List.idxOf?, List.findIdx?_eq_none_iff] at h
  intro j hj
  have := h O[j] (List.getElem_mem hj)
  simpa using this
set_option maxRecDepth 100000 in
set_option maxHeartbeats 2000000 in
theorem trit_any (a c : UInt8) (w : World) (hT : Tab w) :
    Calls Tryd.prog 26 #[eB a, eB c] w fun e w' => Below w.heap.size w w' ∧ ((∃ t, triG a c = .ok t ∧ e = .returned (eB t)) ∨ ∃ n, triG a c = .error n ∧ e = .panicked (errno n)) := by
  by_cases hk : codeOf a.toNat = -1
  · have hb : triG a c = .error 10 := by rw [triG, if_pos hk]
    rw [hb]
    have hO := others_no a hk w hT
    clear hk hb
    go_enter Tryd.func26, Tryd.ntmps26
    go_wp2_with fail
    go_at_call 31
    refine hO.mono ?_
    rintro e w' ⟨rfl, hB⟩
    exact ⟨rfl, hB, .inr ⟨10, rfl, rfl⟩⟩
  · obtain ⟨k, hkk⟩ : ∃ k : Nat, codeOf a.toNat = (k : Int) := ⟨(codeOf a.toNat).toNat, by have := codeOf_range a.toNat; omega⟩
    have hO := others_yes a k hkk w hT
    have hol : (oth k).length = 3 := oRow_length k 3
    obtain ⟨hz, hsz⟩ := zero_of_info info3
    have hc0 := cells_aB [0, 0, 0]
    obtain ⟨Z, hZ⟩ : ∃ Z : List UInt8, [0, 0, 0] = Z := ⟨_, rfl⟩
    have hZl : Z.length = 3 := by rw [← hZ]; rfl
    rw [hZ] at hz hc0
    clear hZ
    have sO := size3 (oth k) hol
    have zO : (Z.map eB).toArray.size = ((oth k).map eB).toArray.size := by simp [hZl, hol]
    have oO := one_map (oth k)
    by_cases hkc : codeOf c.toNat = -1
    · have hb : triG a c = .error 10 := by rw [triG, if_neg hk, if_pos hkc]
      rw [hb]
      have hC := fun w hT => Code_no c.toNat w hT hkc
      clear hk hb hkk hol hkc
      generalize oth k = O at *
      go_enter Tryd.func26, Tryd.ntmps26
      go_wp2_with fail
      go_at_call 31
      refine hO.mono ?_
      rintro e w1 ⟨rfl, hB⟩
      have hr := Rowed.new w1 45 (Z.map eB).toArray
      have hB2 := below_setRow (hB.alloc hB.size (.cells (Z.map eB).toArray 45)) w1.heap.size (O.map eB).toArray hB.size
      have hT2 := hT.below hB2
      clear hO
      go_wp2_with (refine wpList_store_row rfl 45 (.tmp 5) (.tmp 11) rfl w1.heap.size (O.map eB).toArray rfl rfl _ _ hr sO zO oO ?_)
      generalize (w1.alloc (.cells (Z.map eB).toArray 45)).setRow w1.heap.size (O.map eB).toArray = w2 at *
      go_at_call 32
      refine (hC _ hT2).mono ?_
      rintro e w' ⟨rfl, rfl⟩
      go_wp2_with fail
      go_at_call 33
      refine (told_no 10 (by omega) _).mono ?_
      rintro e w' ⟨rfl, rfl⟩
      exact ⟨rfl, hB2, .inr ⟨10, rfl, rfl⟩⟩
    · have hb : triG a c = match (oth k).idxOf? c with | some n => .ok (UInt8.ofNat n) | none => .error 90 := by
        rw [triG, if_neg hk, if_neg hkc, hkk, Int.toNat_natCast]
      have hC := fun w hT => Code_yes c.toNat w hT hkc
      generalize codeOf c.toNat = kc at *
      clear hk hkk hkc
      generalize oth k = O at *
      have hix := fun n hn => run_index_arr (P := Tryd.prog) 45 3 5 .u8 Tryd.underlying45 Tryd.underlying5 size1 O n hol hn
      go_enter Tryd.func26, Tryd.ntmps26
      go_wp2_with fail
      go_at_call 31
      refine hO.mono ?_
      rintro e w1 ⟨rfl, hB⟩
      have hr := Rowed.new w1 45 (Z.map eB).toArray
      have hB2 := below_setRow (hB.alloc hB.size (.cells (Z.map eB).toArray 45)) w1.heap.size (O.map eB).toArray hB.size
      have hT2 := hT.below hB2
      have hr2 := Row8.put hr O
      clear hO
      go_wp2_with (refine wpList_store_row rfl 45 (.tmp 5) (.tmp 11) rfl w1.heap.size (O.map eB).toArray rfl rfl _ _ hr sO zO oO ?_)
      generalize (w1.alloc (.cells (Z.map eB).toArray 45)).setRow w1.heap.size (O.map eB).toArray = w2 at *
      generalize w1.heap.size = g at *
      go_at_call 32
      refine (hC _ hT2).mono ?_
      rintro e w' ⟨rfl, rfl⟩
      clear hC hr
      go_wp2_with (first
        | (go_at_call 33; refine (told_ok _).mono ?_; rintro e w' ⟨rfl, rfl⟩)
        | (refine wpList_load_row rfl 45 (.tmp 5) rfl g rfl _ (O.map eB).toArray _ _ hr2 Tryd.underlying45 rfl sO ?_))
      go_loop [20] (fun i => ∃ j : Nat, j ≤ 3 ∧ i = .int .i64 j ∧ ∀ n (hn : n < O.length), n < j → O[n] ≠ c) (fun i => 3 - (intOf i).toNat)
      case atStart => exact ⟨0, Nat.zero_le _, rfl, fun n _ h => absurd h (by omega)⟩
      case round =>
        obtain ⟨j, hj, rfl, hno⟩ := hrel
        by_cases hlt : j < 3
        · have dj : decide ((j : Int) < 3) = true := decide_eq_true (by omega)
          have hj3 : j < O.length := by omega
          have hij := hix j hj3
          by_cases hoc : O[j] = c
          · have hidx : O.idxOf? c = some j := by
              rw [List.idxOf?, List.findIdx?_eq_some_iff_getElem]
              exact ⟨hj3, by simpa using hoc, fun n hn => by simpa using hno n (by omega) hn⟩
            have hbb : triG a c = .ok (UInt8.ofNat j) := by rw [hb, hidx]
            have hcj : IntKind.u8.wrap (j : Int) = ((UInt8.ofNat j).toNat : Int) := by
              rw [IntWalk.u8_in _ (by omega)]
              simp
              omega
            have Hb := Lib.hid hbb
            rw [hoc] at hij
            have hbc : (((c.toNat : Int)) == (c.toNat : Int)) = true := by simp
            clear hb hbb hidx hno hoc hix
            go_wp2_with fail
            go_ret
            exact ⟨hB2, .inl ⟨_, Hb.out, rfl⟩⟩
          · have hbc : (((O[j].toNat : Int)) == (c.toNat : Int)) = false := by
              rw [beq_eq_false_iff_ne]
              intro h
              exact hoc (UInt8.toNat_inj.1 (by omega))
            have Hno := Lib.hid (show ∀ n (hn : n < O.length), n < j + 1 → O[n] ≠ c from fun n hn h => by
              by_cases e : n = j
              · subst e; exact hoc
              · exact hno n hn (by omega))
            clear hb hno hoc hix
            go_wp2_with fail
            go_round
            case rel => exact ⟨j + 1, by omega, by go_num, Hno.out⟩
            case measure => simp [intOf]; omega
        · obtain rfl : j = 3 := by omega
          have hidx : O.idxOf? c = none := by
            rw [List.idxOf?, List.findIdx?_eq_none_iff]
            intro x hx
            obtain ⟨n, hn, rfl⟩ := List.mem_iff_getElem.1 hx
            simpa using hno n hn (by omega)
          have hbb : triG a c = .error 90 := by rw [hb, hidx]
          have Hb := Lib.hid hbb
          clear hb hbb hidx hno hix
          go_wp2_with fail
          exact ⟨rfl, hB2, .inr ⟨90, Hb.out, rfl⟩⟩
end Go.Proofs.YtniiblamoimcjaaDoor
