/- TritsTells: the walk. -/
import Derived.Test.YtmppkfiocleicaaTsD
namespace Go.Proofs.Ytmppkfiocleicaa
open Go.RowKit Go.Shelf
attribute [local go_sem] Oper.semAt_some run_store_func

set_option maxRecDepth 100000 in
set_option maxHeartbeats 8000000 in
theorem TritsTells_small (B5 B26 l m : List UInt8) (n : Int) (vl vm : Value) (h5 : B5.length = 5) (h26 : B26.length = 26) (hl : l.length ≤ 2000) (hm : m.length ≤ 2000) (w : World) (hL : Sl eB w.heap.size w vl l) (hM : Sl eB w.heap.size w vm m) :
    Calls Try.prog 3 #[aB B5, aB B26, vl, vm, .int .i64 n] w fun e w' => e = .returned (.bool true) ∧ Below w.heap.size w w' := by
  have hw := wakes_any
  obtain ⟨A0, c0, rfl⟩ := hL.len
  obtain ⟨A1, c1, rfl⟩ := hM.len
  obtain ⟨x, e0, hbi⟩ := back_is B26
  obtain ⟨x', e0', hbi', hbk⟩ := Back_both B26 h26
  have hxx : x' = x ∧ e0' = e0 := by
    rcases hbi.2 with ⟨h1, h2⟩ | ⟨h1, h2⟩ <;> rcases hbi'.2 with ⟨h3, h4⟩ | ⟨h3, h4⟩ <;> rw [h1] at h3 <;> cases h3
    · exact ⟨rfl, by rw [h4, h2]⟩
    · exact ⟨by rw [h4, h2], rfl⟩
  obtain ⟨rfl, rfl⟩ := hxx
  have hrb := RBack_any B26 x' e0' h26 hbi
  obtain ⟨rp, ep, hp1, hp2⟩ := Pack_both l hl
  obtain ⟨ru, eu, hu1, hu2⟩ := Unpack_both m hm
  have hx5 := hbi.1
  obtain ⟨hz5, hsz5⟩ := zero_of_info info5
  rw [z5_eq] at hz5
  have hc5 := cells_aB (List.replicate 5 0)
  obtain ⟨Z, hZ⟩ : ∃ Z : List UInt8, List.replicate 5 (0 : UInt8) = Z := ⟨_, rfl⟩
  have hZl : Z.length = 5 := by rw [← hZ]; rfl
  rw [hZ] at hz5 hc5
  have zx : (Z.map eB).toArray.size = (x'.map eB).toArray.size := by simp [hZl, hx5]
  have sx := size5 x' hx5
  have ox := one_map x'
  have s26 := size26 B26 h26
  have s5 := size5 B5 h5
  have hcB := cells_aB B5
  have hcT := cells_aB B26
  have dl0 : decide ((2000 : Int) < (l.length : Int)) = false := decide_eq_false (by omega)
  have dm0 : decide ((2000 : Int) < (m.length : Int)) = false := decide_eq_false (by omega)
  have hA := ((Below.refl w.heap.size w).alloc (Nat.le_refl _) (.cells (B5.map eB).toArray 22)).alloc (by simp) (.cells (B26.map eB).toArray 23)
  have q5 : Row8 ((w.alloc (.cells (B5.map eB).toArray 22)).alloc (.cells (B26.map eB).toArray 23)) w.heap.size 22 B5 := (Rowed.new w _ _).alloc _
  have q26 : Row8 ((w.alloc (.cells (B5.map eB).toArray 22)).alloc (.cells (B26.map eB).toArray 23)) (w.heap.size + 1) 23 B26 := by
    have := Rowed.new (w.alloc (.cells (B5.map eB).toArray 22)) 23 (B26.map eB).toArray
    rwa [World.size_alloc] at this
  clear hZ hbi hbi' hl hm
  go_enter Try.func3, Try.ntmps3
  go_wp2_with (refine wpList_load_row rfl 23 (.tmp 6) rfl (w.heap.size + 1) rfl _ (B26.map eB).toArray _ _ q26 Try.underlying23 rfl s26 ?_)
  generalize (w.alloc (.cells (B5.map eB).toArray 22)).alloc (.cells (B26.map eB).toArray 23) = w0 at *
  go_at_call 8
  refine (hbk _).mono ?_
  rintro e w1 ⟨rfl, hB1⟩
  have q5 := q5.below hB1 q5.lt
  have q26 := q26.below hB1 q26.lt
  have hA1 := below_trans hA hB1
  have r1 := Rowed.new w1 22 (Z.map eB).toArray
  have l5 := q5.lt
  have l26 := q26.lt
  have q5 := (q5.alloc (.cells (Z.map eB).toArray 22)).put_other (g' := w1.heap.size) (cs' := (x'.map eB).toArray) (by omega)
  have q26 := (q26.alloc (.cells (Z.map eB).toArray 22)).put_other (g' := w1.heap.size) (cs' := (x'.map eB).toArray) (by omega)
  have qx := Row8.put r1 x'
  have hA2 := below_setRow (hA1.alloc hA1.size (.cells (Z.map eB).toArray 22)) w1.heap.size (x'.map eB).toArray hA1.size
  clear hA hA1 hB1 l5 l26 hbk
  go_wp2_with (first
    | (refine wpList_store_row rfl 22 (.tmp 11) (.tmp 35) rfl w1.heap.size (x'.map eB).toArray rfl rfl _ _ r1 sx zx ox ?_)
    | (refine wpList_load_row rfl 23 (.tmp 6) rfl (w.heap.size + 1) rfl _ (B26.map eB).toArray _ _ q26 Try.underlying23 rfl s26 ?_))
  generalize (w1.alloc (.cells (Z.map eB).toArray 22)).setRow w1.heap.size (x'.map eB).toArray = w2 at *
  generalize w1.heap.size = g1 at *
  clear r1
  go_at_call 9
  refine (hrb _).mono ?_
  rintro e w3 ⟨rfl, hB3⟩
  have q5 := q5.below hB3 q5.lt
  have qx := qx.below hB3 qx.lt
  have hA3 := below_trans hA2 hB3
  have r1 := Rowed.new w3 22 (Z.map eB).toArray
  have l5 := q5.lt
  have lx := qx.lt
  have q5 := (q5.alloc (.cells (Z.map eB).toArray 22)).put_other (g' := w3.heap.size) (cs' := (x'.map eB).toArray) (by omega)
  have qx := (qx.alloc (.cells (Z.map eB).toArray 22)).put_other (g' := w3.heap.size) (cs' := (x'.map eB).toArray) (by omega)
  have qy := Row8.put r1 x'
  have hA4 := below_setRow (hA3.alloc hA3.size (.cells (Z.map eB).toArray 22)) w3.heap.size (x'.map eB).toArray hA3.size
  clear hA2 hA3 hB3 l5 lx hrb q26
  go_wp2_with (refine wpList_store_row rfl 22 (.tmp 13) (.tmp 40) rfl w3.heap.size (x'.map eB).toArray rfl rfl _ _ r1 sx zx ox ?_)
  generalize (w3.alloc (.cells (Z.map eB).toArray 22)).setRow w3.heap.size (x'.map eB).toArray = w4 at *
  generalize w3.heap.size = g2 at *
  clear r1 zx ox hz5 hc5 hcB hcT s26 hsz5
  have hL := hL.next hA4
  have hM := hM.next hA4
  go_at_call 10
  refine (hp1 _ _ hL).mono ?_
  rintro e w5 ⟨a1, k1, rfl, hs1, hB5⟩
  have q5 := q5.below hB5 q5.lt
  have qx := qx.below hB5 qx.lt
  have qy := qy.below hB5 qy.lt
  have hL := hL.next hB5
  have hM := hM.next hB5
  have hA5 := below_trans hA4 hB5
  clear hA4 hB5 hp1
  go_wp2_with fail
  go_at_call 11
  refine (hp2 _ _ hL).mono ?_
  rintro e w6 ⟨a2, k2, rfl, hs2, hB6⟩
  have q5 := q5.below hB6 q5.lt
  have qx := qx.below hB6 qx.lt
  have qy := qy.below hB6 qy.lt
  have hM := hM.next hB6
  have hs1 := hs1.next hB6
  have hA6 := below_trans hA5 hB6
  clear hA5 hB6 hp2 hL
  go_wp2_with fail
  go_at_call 12
  refine (hu1 _ _ hM).mono ?_
  rintro e w7 ⟨a3, k3, rfl, hs3, hB7⟩
  have q5 := q5.below hB7 q5.lt
  have qx := qx.below hB7 qx.lt
  have qy := qy.below hB7 qy.lt
  have hM := hM.next hB7
  have hs1 := hs1.next hB7
  have hs2 := hs2.next hB7
  have hA7 := below_trans hA6 hB7
  clear hA6 hB7 hu1
  go_wp2_with fail
  go_at_call 13
  refine (hu2 _ _ hM).mono ?_
  rintro e w8 ⟨a4, k4, rfl, hs4, hB8⟩
  have q5 := q5.below hB8 q5.lt
  have qx := qx.below hB8 qx.lt
  have qy := qy.below hB8 qy.lt
  have hs1 := hs1.next hB8
  have hs2 := hs2.next hB8
  have hs3 := hs3.next hB8
  have hA8 := below_trans hA7 hB8
  clear hA7 hB8 hu2 hM
  have l5 := q5.lt
  have lx := qx.lt
  have ly := qy.lt
  have ld1 : ∀ w', Below w8.heap.size w8 w' → (Instr.loadAt 22 (.pointer (some ⟨w.heap.size, 0, none⟩))).run Try.prog w' = .ok (aB B5) w' := fun w' hB => run_loadAt_row w' w.heap.size _ 22 _ _ _ (q5.below hB l5) Try.underlying22 rfl s5
  have ld2 : ∀ w', Below w8.heap.size w8 w' → (Instr.loadAt 22 (.pointer (some ⟨g1, 0, none⟩))).run Try.prog w' = .ok (aB x') w' := fun w' hB => run_loadAt_row w' g1 _ 22 _ _ _ (qx.below hB lx) Try.underlying22 rfl sx
  have ld3 : ∀ w', Below w8.heap.size w8 w' → (Instr.loadAt 22 (.pointer (some ⟨g2, 0, none⟩))).run Try.prog w' = .ok (aB x') w' := fun w' hB => run_loadAt_row w' g2 _ 22 _ _ _ (qy.below hB ly) Try.underlying22 rfl sx
  have c1 := fun w => Five_L B5 h5 w
  have c2 := fun w => RFive_any B5 h5 w
  have hX26 := trL_length (nb B5 5)
  have sm1 : ∀ w', Below w8.heap.size w8 w' → Calls Try.prog 16 #[.slice a1 rp.length k1, .slice a2 rp.length k2] w' fun e w'' => e = .returned (.bool true) ∧ w' = w'' := fun w' hB => same_eq _ _ rp _ w' (hs1.below hB) (hs2.below hB)
  have sm2 : ∀ w', Below w8.heap.size w8 w' → Calls Try.prog 16 #[.slice a3 ru.length k3, .slice a4 ru.length k4] w' fun e w'' => e = .returned (.bool true) ∧ w' = w'' := fun w' hB => same_eq _ _ ru _ w' (hs3.below hB) (hs4.below hB)
  have lo1 := fun w => Long_any n w
  have lo2 := fun w => RLong_any n w
  generalize trL (nb B5 5) = X at *
  generalize longF n = ln at *
  have eX := eql26 X X hX26 hX26
  rw [decide_eq_true rfl] at eX
  have ex := eql5 x' x' hx5 hx5
  rw [decide_eq_true rfl] at ex
  have gX := guard_agg .eql 23 (X.map eB).toArray (X.map eB).toArray (by kernel_rfl)
  have gx := guard_agg .eql 22 (x'.map eB).toArray (x'.map eB).toArray (by kernel_rfl)
  have b1 : (e0' == e0') = true := by simp
  have b2 : (ep == ep) = true := by simp
  have b3 : (eu == eu) = true := by simp
  have b4 : (ln == ln) = true := by simp
  have hdr : Below w8.heap.size w8 w8.drew := ⟨rfl, rfl, rfl, Nat.le_refl _, fun _ _ => rfl⟩
  clear q5 qx qy l5 lx ly hs1 hs2 hs3 hs4 s5 sx hX26 hx5 h5 h26 dl0 dm0
  go_wp2_with fail
  refine wp_region_det (Below w8.heap.size w8) [(62, aB B5), (63, aB X), (64, aB B5), (65, aB X), (66, .bool true), (67, .bool true), (68, aB x'), (69, aB x'), (70, .bool true), (71, .bool true), (72, .bool true), (73, .int .i64 e0'), (74, .int .i64 e0'), (75, .bool true), (76, .bool true), (77, .bool true),
    (78, .slice a1 rp.length k1), (79, .slice a2 rp.length k2), (80, .bool true), (81, .bool true), (82, .bool true), (83, .int .i64 ep), (84, .int .i64 ep), (85, .bool true), (86, .bool true), (87, .bool true), (88, .slice a3 ru.length k3), (89, .slice a4 ru.length k4), (90, .bool true), (91, .bool true), (92, .bool true),
    (93, .int .i64 eu), (94, .int .i64 eu), (95, .bool true), (96, .bool true), (97, .bool true), (98, .int .i64 n), (99, .int .i64 ln), (100, .int .i64 n), (101, .int .i64 ln), (102, .bool true), (103, .bool true), (104, .bool true), (105, .bool true), (106, .bool true), (10, .bool true)]
    (by kernel_rfl) (by kernel_rfl) (by kernel_rfl) (by kernel_rfl) (by kernel_rfl) hdr ?ok1 ?fin1
  case ok1 =>
    intro A hA
    simp only [putAll, Act.put, List.setIfInBounds_toArray, List.set_cons_zero, List.set_cons_succ] at hA
    subst hA
    simp only [detAll]
    refine ⟨?_, ?_, ?_, ?_, ?_, ?_, ?_, ?_, ?_, ?_, ?_, ?_, ?_, ?_, ?_, ?_, ?_, ?_, ?_, ?_, ?_, ?_, ?_, ?_, ?_, ?_, ?_, ?_, ?_, ?_, ?_, ?_, ?_, ?_, ?_, ?_, ?_, ?_, ?_, ?_, ?_, ?_, ?_, ?_, ?_, ?_, trivial⟩
    all_goals first
      | exact det_load 22 (.tmp 5) rfl rfl _ ld1 rfl
      | exact det_load 22 (.tmp 11) rfl rfl _ ld2 rfl
      | exact det_load 22 (.tmp 13) rfl rfl _ ld3 rfl
      | (intro w' hS'
         clear ld1 ld2 ld3
         go_simp
         first
           | exact hS'
           | exact ⟨rfl, hS'⟩
           | (go_at_call 14; refine (c1 _).mono ?_; rintro e w'' ⟨rfl, hB⟩; exact ⟨rfl, below_trans hS' hB⟩)
           | (go_at_call 15; refine (c2 _).mono ?_; rintro e w'' ⟨rfl, hB⟩; exact ⟨rfl, below_trans hS' hB⟩)
           | (go_at_call 16; refine (sm1 _ hS').mono ?_; rintro e w'' ⟨rfl, rfl⟩; exact ⟨rfl, hS'⟩)
           | (go_at_call 16; refine (sm2 _ hS').mono ?_; rintro e w'' ⟨rfl, rfl⟩; exact ⟨rfl, hS'⟩)
           | (go_at_call 17; refine (lo1 _).mono ?_; rintro e w'' ⟨rfl, rfl⟩; exact ⟨rfl, hS'⟩)
           | (go_at_call 18; refine (lo2 _).mono ?_; rintro e w'' ⟨rfl, rfl⟩; exact ⟨rfl, hS'⟩)
           | (go_at_call 7; refine (hw _).mono ?_; rintro e w'' ⟨rfl, hB⟩; exact ⟨rfl, below_trans hS' hB⟩)
           | done)
  case fin1 =>
    intro A hA w6 hS6
    simp only [putAll, Act.put, List.setIfInBounds_toArray, List.set_cons_zero, List.set_cons_succ] at hA
    subst hA
    clear ld1 ld2 ld3
    go_wp2_with fail
    go_ret
    exact ⟨rfl, below_trans hA8 hS6⟩
theorem TritsTells_any (B5 B26 l m : List UInt8) (n : Int) (vl vm : Value) (h5 : B5.length = 5) (h26 : B26.length = 26) (w : World) (hL : Sl eB w.heap.size w vl l) (hM : Sl eB w.heap.size w vm m) :
    Calls Try.prog 3 #[aB B5, aB B26, vl, vm, .int .i64 n] w fun e w' => e = .returned (.bool true) ∧ Below w.heap.size w w' := by
  by_cases h : 2000 < l.length ∨ 2000 < m.length
  · obtain ⟨A0, c0, rfl⟩ := hL.len
    obtain ⟨A1, c1, rfl⟩ := hM.len
    exact TritsTells_big B5 B26 A0 A1 l.length c0 m.length c1 n w h
  · exact TritsTells_small B5 B26 l m n vl vm h5 h26 (by omega) (by omega) w hL hM
end Go.Proofs.Ytmppkfiocleicaa
