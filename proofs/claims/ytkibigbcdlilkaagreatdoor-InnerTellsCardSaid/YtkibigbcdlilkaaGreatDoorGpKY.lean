import Derived.Deep.Onto
import Derived.Test.YtkibigbcdlilkaaGreatDoorMMY
import Derived.Test.YtkibigbcdlilkaaGreatDoorSwDY
namespace Go.Proofs.YtkibigbcdlilkaaGreatDoor.Gp
open Go.RowKit Go.Shelf
attribute [local go_sem] Oper.semAt_some run_store_func
theorem fits_len {y : List UInt8} (h : fitsG y = none) : 1 ≤ y.length ∧ y.length ≤ 999 := by
 unfold fitsG at h
 split at h
 · cases h
 · omega
theorem missing_no (y : List UInt8) (s m : Int) (hm : fitsG y = some m) (sv : Value) (w : World) (hT : Tab w) (hS : Sl eB w.heap.size w sv y) (hreach : y.length ≤ 1000000) :
    Calls Tryz.prog 115 #[sv, .int .i64 s] w fun e w' => e = .panicked (errno m) ∧ Below w.heap.size w w' :=
  (missing_any y s sv w hT hS hreach).mono (by
   rintro e w' ⟨hB, ⟨h, rfl⟩ | ⟨m', h, rfl⟩⟩
   · rw [hm] at h; cases h
   · rw [hm] at h; cases h; exact ⟨rfl, hB⟩)
theorem missing_yes (y : List UInt8) (s : Int) (hm : fitsG y = none) (sv : Value) (w : World) (hT : Tab w) (hS : Sl eB w.heap.size w sv y) (hreach : y.length ≤ 1000000) :
    Calls Tryz.prog 115 #[sv, .int .i64 s] w fun e w' => e = .returned (eB (missL y s)) ∧ Below w.heap.size w w' :=
  (missing_any y s sv w hT hS hreach).mono (by
   rintro e w' ⟨hB, ⟨h, rfl⟩ | ⟨m', h, rfl⟩⟩
   · exact ⟨rfl, hB⟩
   · rw [hm] at h; cases h)
theorem places_from (w2 : World) (s1 p1 g : Nat) (A : Option Addr) (cap : Nat) (y : List UInt8) (c : UInt8) (hn : y.length ≤ 999) (hp1 : s1 + 2 < p1) (hp2 : p1 < w2.heap.size)
    (k1 : w2.cell? ⟨p1, 0, none⟩ = some (.slice (some ⟨s1 + 2, 0, none⟩) y.length y.length)) (kr : ∀ i, i < y.length → w2.cell? ⟨s1 + 2, i, none⟩ = some (.bool (riseB y i))) (k2 : w2.cell? ⟨s1, 0, none⟩ = some (.slice A y.length cap)) (k3 : w2.cell? ⟨s1 + 1, 0, none⟩ = some (eB c))
    (hS : Sl eB w2.heap.size w2 (.slice A y.length cap) y) (hg : g < s1 ∨ w2.heap.size ≤ g) (hA : ∀ a, A = some a → a.block ≠ g) :
    SeqI Fence.wide Tryz.prog 138 #[.pointer (some ⟨p1, 0, none⟩), .pointer (some ⟨s1, 0, none⟩), .pointer (some ⟨s1 + 1, 0, none⟩)] (fun p : Nat => #[.int .i64 p, .int .i64 (placesG y c p)]) (Keep w2.heap.size g) (List.range (y.length + 1)) none w2 := by
 refine places_seq p1 s1 (s1 + 1) A cap _ y c hn w2 hp2 (by omega) (by omega) k1 ?_ k2 k3 hS g (by omega) (by omega) (by omega) ?_ hA
 · refine ⟨some ⟨s1 + 2, 0, none⟩, y.length, by simp, by simp, fun _ => ⟨s1 + 2, 0, rfl, by omega, fun i b hb => ?_⟩⟩
   have hi : i < y.length := by have := (List.getElem?_eq_some_iff.1 hb).1; simpa using this
   rw [Nat.zero_add, kr i hi]
   simp [hi] at hb
   rw [← hb]
 · rintro a n c' e
   injection e with e1 e2 e3
   cases e1
   show s1 + 2 ≠ g
   omega
theorem sl_block {B : Nat} {W : World} {A : Option Addr} {cap : Nat} {y : List UInt8} (h : Sl eB B W (.slice A y.length cap) y) (h0 : 0 < y.length) : ∀ a, A = some a → a.block < B := by
 intro a ha
 obtain ⟨A', c', e, _, hcs⟩ := h
 injection e with e1 e2 e3
 subst e1
 obtain ⟨b, off, e4, hb, _⟩ := hcs h0
 rw [e4] at ha
 cases ha
 exact hb
end Go.Proofs.YtkibigbcdlilkaaGreatDoor.Gp
namespace Go.Proofs.YtkibigbcdlilkaaGreatDoor.Gp
open Go.RowKit Go.Shelf
attribute [local go_sem] Oper.semAt_some run_store_func
def hitG (y : List UInt8) (t s : Int) (p : Nat) : Bool := placesG y (missL y s) p == t
def gapG (y : List UInt8) (t s : Int) : Except Int (List UInt8) := match fitsG y with
 | some m => .error m
 | none => if s < 0 ∨ 3 < s then .error 130 else match (List.range (y.length + 1)).find? (hitG y t s) with
   | none => .error 130
   | some p => .ok (insW y p (missL y s))
theorem firstG {q : Nat → Bool} {n p : Nat} (hp : p < n) (hh : q p = true) (hno : ∀ j, j < p → q j = false) : (List.range n).find? q = some p := by
 rw [List.find?_range_eq_some]
 exact ⟨hh, by simpa using hp, fun j hj => by simp [hno j hj]⟩
theorem noneG {q : Nat → Bool} {n : Nat} (hno : ∀ j, j < n → q j = false) : (List.range n).find? q = none := by
 rw [List.find?_eq_none]
 intro j hj
 simp [hno j (by simpa using hj)]
theorem keep_below {B : Nat} {W W' : World} (h : Keep B B W W') : Below B W W' := ⟨h.1.1, h.1.2.1, h.1.2.2.1, h.1.2.2.2, fun k hk => h.2 k hk (by omega)⟩
theorem below_put2 {B D : Nat} {w W : World} (h : Below B w W) (o : Obj) (hD : B ≤ D) : Below B w (W.putObj D o) :=
 ⟨h.os, h.tape, h.output, by have := h.size; simpa [World.putObj] using this, fun k hk => (World.putObj_heap_other (by omega)).trans (h.block k hk)⟩
abbrev GapIs (y : List UInt8) (t s : Int) (W : World) : Ending → World → Prop := fun e w' => Below W.heap.size W w' ∧ ((∃ x v, gapG y t s = .ok x ∧ e = .returned v ∧ Own8 W.heap.size w' v x) ∨ ∃ m, gapG y t s = .error m ∧ e = .panicked (errno m))
set_option maxRecDepth 100000 in
set_option maxHeartbeats 1000000 in
theorem gap_bad (y : List UInt8) (t s m : Int) (hf : fitsG y = some m) (hreach : y.length ≤ 1000000) (sv : Value) (w : World) (hT : Tab w) (hS : Sl eB w.heap.size w sv y) :
    Calls Tryz.prog 95 #[sv, .int .i64 t, .int .i64 s] w (GapIs y t s w) := by
  have Hg := Lib.hid (show gapG y t s = .error m by rw [gapG, hf])
  have hM := fun w hT hS => missing_no y s m hf sv w hT hS hreach
  have hA := below_alloc w (.cells #[.int .i64 t] 3)
  obtain ⟨A, cap, rfl⟩ := hS.len
  clear hf
  refine (callsIn_wide (n := 5)).1 ?_
  refine callsIn_of_wp_marks Tryz.func95 rfl trivial ?_ rfl
  simp only [Tryz.ntmps95, List.size_toArray, List.length_cons, List.length_nil, Nat.reduceAdd, Nat.reduceSub, Array.replicate_succ, Array.replicate_zero, List.push_toArray, List.append_toArray, List.nil_append, List.cons_append]
  gi_wp2_with fail
  apply wpIn_scope_straight
  gi_wp2_with fail
  refine ⟨trivial, ?_⟩
  gi_at_call 115
  refine (callsIn_wide.2 (hM _ (hT.below hA) (hS.next hA))).mono ?_
  rintro e w1 ⟨rfl, hB⟩
  exact ⟨below_trans hA hB, .inr ⟨m, Hg.out, rfl⟩⟩
set_option maxRecDepth 100000 in
set_option maxHeartbeats 1000000 in
theorem gap_num (y : List UInt8) (t s : Int) (hf : fitsG y = none) (hs : s < 0 ∨ 3 < s) (hreach : y.length ≤ 1000000) (sv : Value) (w : World) (hT : Tab w) (hS : Sl eB w.heap.size w sv y) :
    Calls Tryz.prog 95 #[sv, .int .i64 t, .int .i64 s] w (GapIs y t s w) := by
  have Hg := Lib.hid (show gapG y t s = .error 130 by rw [gapG, hf]; simp only [if_pos hs])
  have hM := fun w hT hS => missing_yes y s hf sv w hT hS hreach
  have hA := below_alloc w (.cells #[.int .i64 t] 3)
  obtain ⟨A, cap, rfl⟩ := hS.len
  have hd : decide (s < 0) = true ∨ (decide (s < 0) = false ∧ decide (3 < s) = true) := by
   by_cases h : s < 0
   · exact .inl (decide_eq_true h)
   · exact .inr ⟨decide_eq_false h, decide_eq_true (by omega)⟩
  clear hf hs
  rcases hd with g1 | ⟨g1, g2⟩
  all_goals
   refine (callsIn_wide (n := 5)).1 ?_
   refine callsIn_of_wp_marks Tryz.func95 rfl trivial ?_ rfl
   simp only [Tryz.ntmps95, List.size_toArray, List.length_cons, List.length_nil, Nat.reduceAdd, Nat.reduceSub, Array.replicate_succ, Array.replicate_zero, List.push_toArray, List.append_toArray, List.nil_append, List.cons_append]
   gi_wp2_with fail
   apply wpIn_scope_straight
   gi_wp2_with fail
   refine ⟨trivial, ?_⟩
   gi_at_call 115
   refine (callsIn_wide.2 (hM _ (hT.below hA) (hS.next hA))).mono ?_
   rintro e w1 ⟨rfl, hB⟩
   gi_wp2_with fail
   exact ⟨below_trans hA hB, .inr ⟨130, Hg.out, rfl⟩⟩
end Go.Proofs.YtkibigbcdlilkaaGreatDoor.Gp
namespace Go.Proofs.YtkibigbcdlilkaaGreatDoor.Gp
open Go.RowKit Go.Shelf
attribute [local go_sem] Oper.semAt_some run_store_func
theorem ready_wp {P : Program} {o : Oper} {a : Act} {w : World} {K : Act → World → Prop} {Q : Exit → Act → World → Prop} {b : Bool} {R : Prop} (hb : b = true) (h : o.wp P a w K Q) : if b = true then o.wp P a w K Q else R := by
 rw [if_pos hb]; exact h
def InsI (w0 : World) (T : Value → Value → Value → Value → Value → Value → Value → Act) (y : List UInt8) (sy : Value) (p : Nat) (c : UInt8) (D : Nat → Bool) (a : Act) (w : World) : Prop :=
 ∃ x6 x33 x34 x35 x36 x37 x38, a = T x6 x33 x34 x35 x36 x37 x38 ∧ Below w0.heap.size w0 w ∧
   ((D 5 = false ∧ D 6 = false ∧ (D 0 = true → x33 = sy) ∧ (D 1 = true → Own8 w0.heap.size w x34 y) ∧ (D 2 = true → x35 = .int .i64 p) ∧ (D 3 = true → x36 = eB c) ∧
     (D 4 = true → ∃ g, x37 = .slice (some ⟨g, 0, none⟩) 1 1 ∧ g < w.heap.size ∧ w0.heap.size ≤ g ∧ Boxed w g 5 (eB c) ∧ (D 1 = true → x34.ownBlock ≠ some g))) ∨
    (D 5 = true ∧ D 1 = true ∧ D 2 = true ∧ D 4 = true ∧ Own8 w0.heap.size w x38 (insW y p c) ∧ (D 6 = true → x6 = x38)))
theorem own_below8 {B : Nat} {w w' : World} {v : Value} {bs : List UInt8} (h : Own8 B w v bs) (hB : Below w.heap.size w w') : Own8 B w' v bs := by
 rcases h with ⟨h1, h2⟩
 refine ⟨h1, ?_⟩
 rcases h2 with h2 | ⟨g, cap, cur, e, hb, hg, hl, hc, hs, ht⟩
 · exact .inl h2
 · exact .inr ⟨g, cap, cur, e, hb, (hB.block g (Array.getElem?_eq_some_iff.1 hg).1).trans hg, hl, hc, hs, ht⟩
theorem own_lt8 {B : Nat} {w : World} {v : Value} {bs : List UInt8} (h : Own8 B w v bs) (g : Nat) (e : v.ownBlock = some g) : B ≤ g ∧ g < w.heap.size := by
 rcases h.2 with ⟨rfl, _⟩ | ⟨g', cap, cur, rfl, hb, hg, _⟩
 · cases e
 · cases e
   exact ⟨hb, (Array.getElem?_eq_some_iff.1 hg).1⟩
set_option maxRecDepth 100000 in
set_option maxHeartbeats 4000000 in
theorem gap_main (y : List UInt8) (t s : Int) (hf : fitsG y = none) (s0 : 0 ≤ s) (s3 : s ≤ 3) (hI : ∀ p, (List.range (y.length + 1)).find? (hitG y t s) = some p → InsIs y p (missL y s)) (sv : Value) (w : World) (hT : Tab w) (hS : Sl eB w.heap.size w sv y) :
    Calls Tryz.prog 95 #[sv, .int .i64 t, .int .i64 s] w (GapIs y t s w) := by
  have Hg := Lib.hid (show gapG y t s = match (List.range (y.length + 1)).find? (hitG y t s) with
   | none => .error 130
   | some p => .ok (insW y p (missL y s)) by rw [gapG, hf]; simp only [if_neg (show ¬ (s < 0 ∨ 3 < s) by omega)]; try (cases (List.range (y.length + 1)).find? (hitG y t s) <;> rfl))
  obtain ⟨hn1, hn9⟩ := fits_len hf
  have hM := fun w hT hS => missing_yes y s hf sv w hT hS (by omega)
  have hA := below_alloc w (.cells #[.int .i64 t] 3)
  have hbt := Boxed.new w 3 (.int .i64 t)
  obtain ⟨A, cap, rfl⟩ := hS.len
  have hPl := fun c w h => placesAt_any A cap y c (by omega) w h
  have hCl := fun w h => SClone_any (.slice A y.length cap) y (by omega) w h
  have d1 : decide (s < 0) = false := decide_eq_false (by omega)
  have d2 : decide (3 < s) = false := decide_eq_false (by omega)
  have HI := Lib.hid hI
  clear hf hI
  refine (callsIn_wide (n := 5)).1 ?_
  refine callsIn_of_wp_marks Tryz.func95 rfl trivial ?_ rfl
  simp only [Tryz.ntmps95, List.size_toArray, List.length_cons, List.length_nil, Nat.reduceAdd, Nat.reduceSub, Array.replicate_succ, Array.replicate_zero, List.push_toArray, List.append_toArray, List.nil_append, List.cons_append]
  gi_wp2_with fail
  apply wpIn_scope_straight
  gi_wp2_with fail
  refine ⟨trivial, ?_⟩
  gi_at_call 115
  refine (callsIn_wide.2 (hM _ (hT.below hA) (hS.next hA))).mono ?_
  rintro e w1 ⟨rfl, hB1⟩
  have hA1 := below_trans hA hB1
  have hbt1 : Boxed w1 w.heap.size 3 (.int .i64 t) := (hB1.block _ hbt.lt).trans hbt
  have hs1 : w.heap.size < w1.heap.size := hbt1.lt
  have hAx := below_alloc w1 (.cells #[.int .i64 (-1)] 3)
  have hba := Boxed.new w1 3 (.int .i64 (-1))
  have hbt2 := hbt1.alloc (.cells #[.int .i64 (-1)] 3)
  have hS2 := hS.next (below_trans hA1 hAx)
  have hA2 := below_trans hA1 hAx
  have hs2 : (w1.alloc (.cells #[.int .i64 (-1)] 3)).heap.size = w1.heap.size + 1 := by simp
  generalize hc : missL y s = c at *
  clear hM hB1 hAx hA hbt
  gi_wp2_with fail
  apply wpIn_label
  generalize w1.alloc (.cells #[.int .i64 (-1)] 3) = w2 at *
  gi_wp2_with fail
  refine ⟨trivial, ?_⟩
  gi_at_call 116
  refine (callsIn_wide.2 (hPl c _ hS2)).mono ?_
  rintro e w3 ⟨hB3, p1, rfl, g1, g2, g3, g4, g5, g6⟩
  have hA3 := below_trans hA2 hB3
  have hS3 := hS2.next hB3
  have hsz3 := hB3.size
  have hseq := places_from w3 w2.heap.size p1 w3.heap.size A cap y c hn9 g1 g2 g3 g4 g5 g6 hS3 (.inr (Nat.le_refl _)) (fun a ha => by have := sl_block hS3 (by omega) a ha; omega)
  rw [hs2] at hseq
  have hbt3 : Boxed w3 w.heap.size 3 (.int .i64 t) := (hB3.block _ hbt2.lt).trans hbt2
  have hba3 : Boxed w3 w1.heap.size 3 (.int .i64 (-1)) := (hB3.block _ hba.lt).trans hba
  clear g3 g4 g5 g6 hPl hS2 hbt2 hba
  gi_wp2_with fail
  refine wpIn_range_I (gf := 138) (lb := #[.pointer (some ⟨p1, 0, none⟩), .pointer (some ⟨w1.heap.size + 1, 0, none⟩), .pointer (some ⟨w1.heap.size + 1 + 1, 0, none⟩)]) rfl rfl trivial rfl (enters_of Tryz.func138 (by kernel_rfl) rfl)
   hseq (fun _ _ _ => keep_t) (fun W' l o o' e1 e2 e3 => keep_put (Nat.le_refl _) W' l o o' e1 e2 e3) (Below.refl _ _) (fun _ => rfl)
   (fun (pre : List Nat) W => (∀ j ∈ pre, hitG y t s j = false) ∧ Keep w3.heap.size w3.heap.size w3 W)
   (fun c' W => (c' = .exit 0 ∧ ∃ p : Nat, p < y.length + 1 ∧ hitG y t s p = true ∧ (∀ j, j < p → hitG y t s j = false) ∧ Boxed W w1.heap.size 3 (.int .i64 p)) ∧ Below w.heap.size w W)
   (OwnFrom.and (ownFrom_pure _ (fun (pre : List Nat) => ∀ j ∈ pre, hitG y t s j = false)) (ownFrom_keep (Nat.le_refl _) (Nat.le_refl _)))
   ⟨by simp, keep_r _ _ _⟩
   (fun c' D W o hD ⟨⟨hc', p, h1, h2, h3, h4⟩, h6⟩ => ⟨⟨hc', p, h1, h2, h3, (World.putObj_heap_other (by omega)).trans h4⟩, below_put2 h6 o (by omega)⟩)
   ?act1 ?assign1 ?body1 ?done1 ?stop1 ?pan1
  case assign1 =>
   intro l x W K hK
   gi_wp2
   exact hK
  case pan1 =>
   rintro ch D W hf
   cases hf
  case done1 =>
   rintro - D W hD ⟨hno, hK⟩ hk
   have hB := keep_below hK
   have h10 : Boxed W w1.heap.size 3 (.int .i64 (-1)) := (hB.block _ hba3.lt).trans hba3
   have kk := h10.cell
   have hg : gapG y t s = .error 130 := by
    rw [Hg.out, noneG (fun j hj => hno j (by simpa using hj))]
   have Hg := Lib.hid hg
   clear hno hg
   gi_wp2_with fail
   refine ⟨by simp, .inl ⟨_, _, rfl, run_takeDeferred hk, ?_⟩⟩
   exact ⟨below_put2 (hA3.trans (hB.mono hA3.size)) _ (by omega), .inr ⟨130, Hg.out, rfl⟩⟩
  case stop1 =>
   rintro c' D W hD ⟨⟨rfl, p, hp, hh, hno, h10⟩, hB⟩ hk
   have hfd := firstG hp hh hno
   have hIns := HI.out p hfd
   have hg : gapG y t s = .ok (insW y p c) := by rw [Hg.out, hfd]
   have Hg := Lib.hid hg
   have kk := h10.cell
   have hpm : decide ((p : Int) < 0) = false := decide_eq_false (by omega)
   have hSW := hS.next hB
   clear hno hg hh hfd hseq hS3
   gi_wp2_with fail
   refine wpIn_wide.2 ?_
   obtain ⟨T, hT⟩ : ∃ T : Value → Value → Value → Value → Value → Value → Value → Act, T = fun x6 x33 x34 x35 x36 x37 x38 => { tmps := #[.slice A y.length cap, .int .i64 t, .int .i64 s, undef, .pointer (some ⟨w.heap.size, 0, none⟩), undef, x6, eB c, .pointer (some ⟨w1.heap.size, 0, none⟩), undef, undef, .slice A y.length cap, .int .i64 s, eB c, .int .i64 s, .bool false, .bool false, .int .i64 s, .bool false, .bool false, undef, .slice A y.length cap, eB c, .func (.func 138) #[] #[.pointer (some ⟨p1, 0, none⟩), .pointer (some ⟨w1.heap.size + 1, 0, none⟩), .pointer (some ⟨w1.heap.size + 1 + 1, 0, none⟩)], undef, undef, undef, undef, undef, undef, .int .i64 p, .bool false, undef, x33, x34, x35, x36, x37, x38], defers := [{ target := .collected D, args := #[] }] } := ⟨_, rfl⟩
   have HT := Lib.hid hT
   clear hT
   refine wp_region_any (by kernel_rfl) (wpAny_inv (InsI W T y (.slice A y.length cap) p c) (by kernel_rfl) ?step ?fin _ _ _ _ rfl (by kernel_rfl) ?start)
   case start =>
    refine ⟨.slice none 0 0, undef, undef, undef, undef, undef, undef, by rw [HT.out], ⟨rfl, rfl, rfl, Nat.le_refl _, fun _ _ => rfl⟩, .inl ⟨rfl, rfl, ?_, ?_, ?_, ?_, ?_⟩⟩ <;> (intro h; simp at h)
   case step =>
    intro E a w' i o ho hDi hdep ⟨x6, x33, x34, x35, x36, x37, x38, ha, hBw, hst⟩ K hK
    subst ha
    rw [HT.out] at hK ⊢
    have hcp : w'.cell? ⟨w1.heap.size, 0, none⟩ = some (.int .i64 p) := (hBw.cell (p := ⟨w1.heap.size, 0, none⟩) h10.lt).trans kk
    rcases i with _ | _ | _ | _ | _ | _ | _ | i
    all_goals
     simp only [List.getElem?_toArray, List.getElem?_cons_zero, List.getElem?_cons_succ, Option.some.injEq, List.getElem?_nil, reduceCtorEq, Nat.zero_add] at ho
    all_goals
     subst ho
     simp [Region.binds] at hdep
     refine ready_wp rfl ?_
     dsimp only
    · go_simp
      rcases hst with ⟨h5, h6, h0, h1, h2, h3, h4⟩ | ⟨h5, d1, d2, d4, ho, h6⟩
      · exact hK _ _ ⟨x6, _, x34, x35, x36, x37, x38, rfl, hBw, .inl ⟨by simpa [upd] using h5, by simpa [upd] using h6, fun _ => rfl, by simpa [upd] using h1, by simpa [upd] using h2, by simpa [upd] using h3, by simpa [upd] using h4⟩⟩
      · exact hK _ _ ⟨x6, _, x34, x35, x36, x37, x38, rfl, hBw, .inr ⟨by simpa [upd] using h5, by simpa [upd] using d1, by simpa [upd] using d2, by simpa [upd] using d4, ho, by simpa [upd] using h6⟩⟩
    · rcases hst with ⟨h5, h6, h0, h1, h2, h3, h4⟩ | ⟨h5, d1, d2, d4, ho, h6⟩
      · obtain rfl := h0 hdep
        go_simp
        refine (hCl _ (hSW.next hBw)).mono ?_
        rintro e w2 ⟨v, rfl, hv, hB2⟩
        refine hK _ _ ⟨x6, _, v, x35, x36, x37, x38, rfl, below_trans hBw hB2, .inl ⟨by simpa [upd] using h5, by simpa [upd] using h6, fun _ => rfl, fun _ => World.ownsRow.mono hv hBw.size, by simpa [upd] using h2, by simpa [upd] using h3, ?_⟩⟩
        intro hd
        obtain ⟨g, e, hg, hbg, hcell, -⟩ := h4 (by simpa [upd] using hd)
        exact ⟨g, e, Nat.lt_of_lt_of_le hg hB2.size, hbg, (hB2.block g hg).trans hcell, fun _ e => by have := own_lt8 hv g e; omega⟩
      · rw [d1] at hDi; cases hDi
    · rcases hst with ⟨h5, h6, h0, h1, h2, h3, h4⟩ | ⟨h5, d1, d2, d4, ho, h6⟩
      · go_simp
        exact hK _ _ ⟨x6, x33, x34, _, x36, x37, x38, rfl, hBw, .inl ⟨by simpa [upd] using h5, by simpa [upd] using h6, by simpa [upd] using h0, by simpa [upd] using h1, fun _ => rfl, by simpa [upd] using h3, by simpa [upd] using h4⟩⟩
      · rw [d2] at hDi; cases hDi
    · go_simp
      rcases hst with ⟨h5, h6, h0, h1, h2, h3, h4⟩ | ⟨h5, d1, d2, d4, ho, h6⟩
      · exact hK _ _ ⟨x6, x33, x34, x35, _, x37, x38, rfl, hBw, .inl ⟨by simpa [upd] using h5, by simpa [upd] using h6, by simpa [upd] using h0, by simpa [upd] using h1, by simpa [upd] using h2, fun _ => rfl, by simpa [upd] using h4⟩⟩
      · exact hK _ _ ⟨x6, x33, x34, x35, _, x37, x38, rfl, hBw, .inr ⟨by simpa [upd] using h5, by simpa [upd] using d1, by simpa [upd] using d2, by simpa [upd] using d4, ho, by simpa [upd] using h6⟩⟩
    · rcases hst with ⟨h5, h6, h0, h1, h2, h3, h4⟩ | ⟨h5, d1, d2, d4, ho, h6⟩
      · obtain rfl := h3 hdep
        go_simp
        refine hK _ _ ⟨x6, x33, x34, x35, _, _, x38, rfl, hBw.alloc hBw.size _, .inl ⟨by simpa [upd] using h5, by simpa [upd] using h6, by simpa [upd] using h0, ?_, by simpa [upd] using h2, fun _ => rfl, fun _ => ⟨w'.heap.size, rfl, by simp, hBw.size, Boxed.new w' 5 (eB c), ?_⟩⟩⟩
        · intro hd
          exact own_below8 (h1 (by simpa [upd] using hd)) (below_alloc w' _)
        · intro hd e
          have := own_lt8 (h1 (by simpa [upd] using hd)) _ e
          omega
      · rw [d4] at hDi; cases hDi
    · rcases hst with ⟨h5, h6, h0, h1, h2, h3, h4⟩ | ⟨h5, d1, d2, d4, ho, h6⟩
      · obtain ⟨e1, e2, e4⟩ : E 1 = true ∧ E 2 = true ∧ E 4 = true := by simp_all
        obtain rfl := h2 e2
        obtain ⟨g, rfl, hg, hbg, hcell, hap⟩ := h4 e4
        have ho1 := h1 e1
        have hcall := hIns W.heap.size x34 g w' hBw.size ho1 hcell (hap e1)
        go_simp
        refine hcall.mono ?_
        rintro e w2 ⟨v', rfl, hv', hB2⟩
        exact hK _ _ ⟨x6, x33, x34, _, x36, _, v', rfl, hBw.trans hB2, .inr ⟨by simp [upd], by simpa [upd] using e1, by simpa [upd] using e2, by simpa [upd] using e4, hv', by simp [upd, h6]⟩⟩
      · rw [h5] at hDi; cases hDi
    · rcases hst with ⟨h5, h6, h0, h1, h2, h3, h4⟩ | ⟨h5, d1, d2, d4, ho, h6⟩
      · simp_all
      · go_simp
        exact hK _ _ ⟨_, x33, x34, x35, x36, x37, x38, rfl, hBw, .inr ⟨by simpa [upd] using h5, by simpa [upd] using d1, by simpa [upd] using d2, by simpa [upd] using d4, ho, fun _ => rfl⟩⟩
   case fin =>
    intro E a w' hall ⟨x6, x33, x34, x35, x36, x37, x38, ha, hBw, hst⟩
    rcases hst with ⟨h5, -⟩ | ⟨h5, d1, d2, d4, ho, h6⟩
    · rw [hall 5 (by decide)] at h5; cases h5
    · obtain rfl := h6 (hall 6 (by decide))
      subst ha
      rw [HT.out]
      have hk' : w'.heap[D]? = some (.deferred (some [])) := (hBw.block D (Array.getElem?_eq_some_iff.1 hk).1).trans hk
      have hBf : Below w.heap.size w w' := below_trans hB hBw
      gi_wp2_with fail
      refine ⟨by simp, .inl ⟨_, _, rfl, run_takeDeferred hk', ?_⟩⟩
      refine ⟨x6, ?_, below_put2 hBf _ (by omega), .inl ⟨_, x6, Hg.out, rfl, ?_⟩⟩
      · simp [results, Tryz.f95, go_sem]
      · exact World.ownsRow.mono (ownsRow_putObj ho _ hk' rfl) hB.size
  case body1 =>
   rintro l pre p W ⟨hno, hK⟩ hpre
   obtain ⟨hjn, rfl⟩ := range_is hpre
   have hB := keep_below hK
   have hba4 : Boxed W w1.heap.size 3 (.int .i64 (-1)) := (hB.block _ hba3.lt).trans hba3
   have hbt4 : Boxed W w.heap.size 3 (.int .i64 t) := (hB.block _ hbt3.lt).trans hbt3
   have kt := hbt4.cell
   have ka := hba4.cell
   have fa := hba4.frozen
   have q1 := hba4.set (.int .i64 (p : Int))
   have hh : (placesG y c p == t) = hitG y t s p := by rw [hitG, hc]
   generalize placesG y c p = G at *
   cases hq : hitG y t s p with
   | false =>
     rw [hq] at hh
     have Hno := Lib.hid (show ∀ j ∈ List.range p ++ [p], hitG y t s j = false from fun j hj => by
      rcases List.mem_append.1 hj with h | h
      · exact hno j h
      · obtain rfl := List.mem_singleton.1 h; exact hq)
     clear hno
     gi_wp2_with fail
     exact ⟨KeepsFrom.refl _ _, keep_r _ _ _, Hno.out, hK⟩
   | true =>
     rw [hq] at hh
     have Hno := Lib.hid hno
     have hKS : KeepsFrom w3.heap.size W (W.setCell ⟨w1.heap.size, 0, none⟩ (.int .i64 p)) := (KeepsOthers.setCell W ⟨w1.heap.size, 0, none⟩ _).from _
     have hBw : Below w.heap.size w (W.setCell ⟨w1.heap.size, 0, none⟩ (.int .i64 p)) := (hA3.trans (hB.mono hA3.size)).setCell (p := ⟨w1.heap.size, 0, none⟩) (by show w.heap.size ≤ w1.heap.size; omega) _
     clear hno
     gi_wp2_with fail
     exact ⟨hKS, ⟨rfl, p, hjn, hq, fun j hj => Hno.out j (by simpa using hj), q1⟩, hBw⟩
end Go.Proofs.YtkibigbcdlilkaaGreatDoor.Gp
namespace Go.Proofs.YtkibigbcdlilkaaGreatDoor.Gp
open Go.RowKit Go.Shelf
attribute [local go_sem] Oper.semAt_some run_store_func
def InsOk (y : List UInt8) (t s : Int) : Prop := ∀ p, fitsG y = none → (List.range (y.length + 1)).find? (hitG y t s) = some p → InsIs y p (missL y s)
theorem gap_any (y : List UInt8) (t s : Int) (hI : InsOk y t s) (hreach : y.length ≤ 1000000) (sv : Value) (w : World) (hT : Tab w) (hS : Sl eB w.heap.size w sv y) :
    Calls Tryz.prog 95 #[sv, .int .i64 t, .int .i64 s] w (GapIs y t s w) := by
  cases hf : fitsG y with
  | some m => exact gap_bad y t s m hf hreach sv w hT hS
  | none =>
    by_cases hs : s < 0 ∨ 3 < s
    · exact gap_num y t s hf hs hreach sv w hT hS
    · exact gap_main y t s hf (by omega) (by omega) (fun p hp => hI p hf hp) sv w hT hS
set_option maxRecDepth 100000 in
set_option maxHeartbeats 1000000 in
theorem Gap1_is (b1 b2 b3 b4 : Nat) (A : Option Addr) (cap : Nat) (y : List UInt8) (t s : Int) (hI : InsOk y t s) (hreach : y.length ≤ 1000000) (W : World) (hT : Tab W) (hS : Sl eB W.heap.size W (.slice A y.length cap) y) (h1 : W.cell? ⟨b1, 0, none⟩ = some (.slice A y.length cap)) (h2 : W.cell? ⟨b2, 0, none⟩ = some (.int .i64 t)) (h3 : W.cell? ⟨b3, 0, none⟩ = some (.int .i64 s)) (h4 : Boxed W b4 22 (.slice none 0 0)) :
    gWork 94 #[.pointer (some ⟨b1, 0, none⟩), .pointer (some ⟨b2, 0, none⟩), .pointer (some ⟨b3, 0, none⟩), .pointer (some ⟨b4, 0, none⟩)] b4 b4 W
      (fun w' => ∃ x, gapG y t s = .ok x ∧ ∃ v, Boxed w' b4 22 v ∧ Own8 W.heap.size w' v x) (fun n w' => gapG y t s = .error n ∧ Boxed w' b4 22 (.slice none 0 0)) := by
  have hM := gap_any y t s hI hreach (.slice A y.length cap) W hT hS
  have hl4 := h4.lt
  unfold gWork
  clear hS hT hI
  go_enter Tryz.func94, Tryz.ntmps94
  go_wp2_with fail
  go_at_call 95
  refine hM.mono ?_
  rintro e w1 ⟨hB, ⟨x, v, hg, rfl, hv⟩ | ⟨m, hg, rfl⟩⟩
  · obtain ⟨A', k', rfl⟩ := hv.sl.len
    have h5 : Boxed w1 b4 22 (.slice none 0 0) := (hB.block _ hl4).trans h4
    have hc5 := h5.cell
    have hf5 := h5.frozen
    have h6 := h5.set (.slice A' x.length k')
    have hv2 : Own8 W.heap.size (w1.setCell ⟨b4, 0, none⟩ (.slice A' x.length k')) (.slice A' x.length k') x := ownsRow_setCell_below hv (by show b4 < W.heap.size; omega) _
    go_wp2_with fail
    go_end0
    exact ⟨kp2_t (kp2_of hB) (kp2_set1 _ _ _ _ _ _), .inl ⟨⟨_, rfl⟩, x, hg, _, h6, hv2⟩⟩
  · exact ⟨rfl, kp2_of hB, .inr ⟨m, rfl, hg, (hB.block _ hl4).trans h4⟩⟩
abbrev GapTells (y : List UInt8) (t s : Int) (w : World) : Ending → World → Prop := fun e w' => Below w.heap.size w w' ∧ ((∃ x v, gapG y t s = .ok x ∧ e = .returned (.tuple #[v, .int .i64 0]) ∧ Sl eB w'.heap.size w' v x) ∨ ∃ m, gapG y t s = .error m ∧ e = .returned (.tuple #[.slice none 0 0, .int .i64 m]))
set_option maxRecDepth 100000 in
set_option maxHeartbeats 2000000 in
theorem Gap_any (y : List UInt8) (t s : Int) (hI : InsOk y t s) (sv : Value) (w : World) (hT : Tab w) (hS : Sl eB w.heap.size w sv y) (hreach : y.length ≤ 1000000) :
    Calls Tryz.prog 83 #[sv, .int .i64 t, .int .i64 s] w (GapTells y t s w) := by
  have hmf : ∀ (fn : Fn) (first cap : Array Value) (w : World), (Instr.makeFunc fn first cap).run Tryz.prog w = .ok (.func fn first cap) w := fun _ _ _ _ => rfl
  obtain ⟨A, cap, rfl⟩ := hS.len
  have hb1 := (((Boxed.new w 22 (.slice A y.length cap)).alloc (.cells #[.int .i64 t] 3)).alloc (.cells #[.int .i64 s] 3)).alloc (.cells #[.slice none 0 0] 22)
  have hb2 := ((Boxed.new (w.alloc (.cells #[.slice A y.length cap] 22)) 3 (.int .i64 t)).alloc (.cells #[.int .i64 s] 3)).alloc (.cells #[.slice none 0 0] 22)
  have hb3 := (Boxed.new ((w.alloc (.cells #[.slice A y.length cap] 22)).alloc (.cells #[.int .i64 t] 3)) 3 (.int .i64 s)).alloc (.cells #[.slice none 0 0] 22)
  have hb4 := Boxed.new (((w.alloc (.cells #[.slice A y.length cap] 22)).alloc (.cells #[.int .i64 t] 3)).alloc (.cells #[.int .i64 s] 3)) 22 (.slice none 0 0)
  obtain ⟨W0, hW0⟩ : ∃ W0, (((w.alloc (.cells #[.slice A y.length cap] 22)).alloc (.cells #[.int .i64 t] 3)).alloc (.cells #[.int .i64 s] 3)).alloc (.cells #[.slice none 0 0] 22) = W0 := ⟨_, rfl⟩
  have hA : Below w.heap.size w W0 := by rw [← hW0]; exact ((((Below.refl _ w).alloc (Nat.le_refl _) _).alloc (by simp) _).alloc (by simp; omega) _).alloc (by simp; omega) _
  have hs0 : W0.heap.size = w.heap.size + 4 := by rw [← hW0]; simp
  rw [World.size_alloc] at hb2
  rw [World.size_alloc, World.size_alloc] at hb3
  rw [World.size_alloc, World.size_alloc, World.size_alloc] at hb4
  rw [hW0] at hb1 hb2 hb3 hb4
  have hA1 := hA.alloc (by omega) (.cells #[.int .i64 0] 24)
  have hs1 : (W0.alloc (.cells #[.int .i64 0] 24)).heap.size = W0.heap.size + 1 := by simp
  have hwork := Gap1_is w.heap.size (w.heap.size + 1) (w.heap.size + 1 + 1) (w.heap.size + 1 + 1 + 1) A cap y t s hI hreach (W0.alloc (.cells #[.int .i64 0] 24)) (hT.below hA1) (hS.next hA1) (hb1.alloc _).cell (hb2.alloc _).cell (hb3.alloc _).cell (hb4.alloc _)
  have hct := gcaught_any 94 _ (w.heap.size + 1 + 1 + 1) (w.heap.size + 1 + 1 + 1) W0 (by omega) (by omega) (enters_of Tryz.func94 (by kernel_rfl) rfl) _ _ hwork
  have HW0 := Lib.hid hW0
  clear hwork hb1 hb2 hb3 hb4 hW0 hA1 hS hT hI
  go_enter Tryz.func83, Tryz.ntmps83
  go_wp2_with fail
  rw [HW0.out]
  go_at_call 93
  refine hct.mono ?_
  rintro e w' ⟨w1, m, hK, rfl, rfl, hlt, hR⟩
  have hBf : Below w.heap.size w (w1.setCell ⟨W0.heap.size, 0, none⟩ (.int .i64 m)) := (below_of_kp2 hK hA (by omega) (by omega) (by omega)).setCell (p := ⟨W0.heap.size, 0, none⟩) (by show w.heap.size ≤ W0.heap.size; omega) _
  clear hct
  rcases hR with ⟨rfl, x, hg, v, hv, hrow⟩ | ⟨hg, hv⟩
  all_goals
   have hvw := fun x => Boxed.set_other (b' := W0.heap.size) (y := x) hv (by omega)
  · have hc := (hvw (.int .i64 0)).cell
    have hrow2 : Own8 (W0.alloc (.cells #[.int .i64 0] 24)).heap.size (w1.setCell ⟨W0.heap.size, 0, none⟩ (.int .i64 0)) v x := ownsRow_setCell_below hrow (by show W0.heap.size < _; rw [hs1]; omega) _
    clear hvw hv hrow
    generalize w1.setCell ⟨W0.heap.size, 0, none⟩ (.int .i64 0) = w2 at *
    go_wp2_with fail
    go_ret2
    exact ⟨hBf, .inl ⟨x, v, hg, rfl, hrow2.sl⟩⟩
  · have hc := (hvw (.int .i64 m)).cell
    clear hvw hv
    generalize w1.setCell ⟨W0.heap.size, 0, none⟩ (.int .i64 m) = w2 at *
    go_wp2_with fail
    go_ret2
    exact ⟨hBf, .inr ⟨m, hg, rfl⟩⟩
end Go.Proofs.YtkibigbcdlilkaaGreatDoor.Gp
