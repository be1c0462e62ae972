import Derived.Test.YtkibigbcdlilkaaGreatDoorDTSY
import Derived.Test.YtkibigbcdlilkaaGreatDoorRXY
import Derived.Test.YtkibigbcdlilkaaGreatDoorWdEY
namespace Go.Proofs.YtkibigbcdlilkaaGreatDoor
open Go.RowKit Go.Shelf
attribute [local go_sem] Oper.semAt_some run_store_func
def Keep2 (N g1 g2 : Nat) (W W' : World) : Prop := W.heap.size ≤ W'.heap.size ∧ ∀ k, k < N → k ≠ g1 → k ≠ g2 → W'.heap[k]? = W.heap[k]?
theorem keep2_r (N g1 g2 : Nat) (W : World) : Keep2 N g1 g2 W W := ⟨Nat.le_refl _, fun _ _ _ _ => rfl⟩
theorem keep2_t {N g1 g2 : Nat} {X Y Z : World} (h : Keep2 N g1 g2 X Y) (k : Keep2 N g1 g2 Y Z) : Keep2 N g1 g2 X Z :=
 ⟨Nat.le_trans h.1 k.1, fun i a b c => (k.2 i a b c).trans (h.2 i a b c)⟩
theorem keep2_below {N g1 g2 : Nat} {X Y : World} (h : Below N X Y) : Keep2 N g1 g2 X Y := ⟨h.size, fun k hk _ _ => h.block k hk⟩
theorem Keep2.cell {N g1 g2 : Nat} {X Y : World} (h : Keep2 N g1 g2 X Y) {p : Addr} (hp : p.block < N) (h1 : p.block ≠ g1) (h2 : p.block ≠ g2) : Y.cell? p = X.cell? p :=
 World.cell?_of_block (h.2 _ hp h1 h2)
theorem sl_keep2 {N g1 g2 : Nat} {X Y : World} {sv : Value} {x : List UInt8} (hS : Sl eB N X sv x) (hn : ∀ k, sv.ownBlock = some k → k ≠ g1 ∧ k ≠ g2) (hN : N ≤ X.heap.size) (h : Keep2 N g1 g2 X Y) : Sl eB Y.heap.size Y sv x := by
 obtain ⟨A, c, rfl, hc, hcs⟩ := hS
 refine ⟨A, c, rfl, hc, fun h0 => ?_⟩
 obtain ⟨b, off, rfl, hb, hcell⟩ := hcs h0
 obtain ⟨n1, n2⟩ := hn b rfl
 have := h.1
 exact ⟨b, off, rfl, by omega, fun j y hy => (h.cell (p := ⟨b, off + j, none⟩) hb n1 n2).trans (hcell j y hy)⟩
theorem tab_keep2 {N g1 g2 : Nat} {X Y : World} (hT : Tab X) (h : Keep2 N g1 g2 X Y) (hN : 1 < N) (h1 : 1 ≠ g1) (h2 : 1 ≠ g2) : Tab Y := by
 obtain ⟨t, fr, hT⟩ := hT
 exact ⟨t, fr, (h.2 _ hN h1 h2).trans hT⟩
set_option maxRecDepth 100000 in
set_option maxHeartbeats 1000000 in
theorem parts_any (sx sf : Value) (hx : ∃ A l c, sx = .slice A l c) (hf : ∃ A l c, sf = .slice A l c) (w : World) :
    Calls Tryz.prog 104 #[sx, sf] w fun e w' => e = .returned (.func (.func 127) #[] #[.pointer (some ⟨w.heap.size, 0, none⟩), .pointer (some ⟨w.heap.size + 1, 0, none⟩)]) ∧ w' = (w.alloc (.cells #[sx] 22)).alloc (.cells #[sf] 22) := by
  have hmf : ∀ (fn : Fn) (first cap : Array Value) (w : World), (Instr.makeFunc fn first cap).run Tryz.prog w = .ok (.func fn first cap) w := fun _ _ _ _ => rfl
  obtain ⟨A, l, c, rfl⟩ := hx
  obtain ⟨A', l', c', rfl⟩ := hf
  go_enter Tryz.func104, Tryz.ntmps104
  go_wp2
  go_ret
  exact ⟨rfl, rfl⟩
def PaS (J : List (List UInt8) → World → Prop) (N g1 g2 : Nat) (w0 : World) (x : List UInt8) (j : UInt8) (D : Nat → Bool) (g : Nat) (w : World) : Prop :=
 Keep2 N g1 g2 w0 w ∧ (D 2 = false → J [] w) ∧ (D 2 = true → D 17 = false → J [x] w) ∧ (D 17 = true → J [x, [j]] w) ∧ (D 3 = true → D 2 = true) ∧ (D 4 = true → D 3 = true) ∧ (D 16 = true → D 4 = true) ∧ (D 17 = true → D 16 = true) ∧
   (D 16 = true → D 17 = false → g < w.heap.size ∧ w.cell? ⟨g, 0, none⟩ = some (eB j))
theorem PaS.keep {J : List (List UInt8) → World → Prop} {N g1 g2 : Nat} {w0 : World} {x : List UInt8} {j : UInt8} {D : Nat → Bool} {g : Nat} {w : World} {i : Nat} (h : PaS J N g1 g2 w0 x j D g w) (h2 : i ≠ 2) (h16 : i ≠ 16) (h17 : i ≠ 17) (h3 : i = 3 → D 2 = true) (h4 : i = 4 → D 3 = true) : PaS J N g1 g2 w0 x j (upd D i) g w := by
 obtain ⟨a, b, c, d, e, f, p, q, r⟩ := h
 unfold PaS
 rw [upd_other D (Ne.symm h2), upd_other D (Ne.symm h16), upd_other D (Ne.symm h17)]
 refine ⟨a, b, c, d, fun h => ?_, fun h => ?_, fun h => ?_, q, r⟩
 · by_cases e3 : i = 3
   · exact h3 e3
   · rw [upd_other D (Ne.symm e3)] at h; exact e h
 · by_cases e4 : i = 4
   · have := h4 e4
     unfold upd
     split
     · rfl
     · exact this
   · rw [upd_other D (Ne.symm e4)] at h
     have := f h
     unfold upd
     split
     · rfl
     · exact this
 · have := p h
   unfold upd
   split
   · rfl
   · exact this
set_option maxRecDepth 100000 in
set_option maxHeartbeats 4000000 in
theorem parts_seq (N b1 b2 g1 g2 : Nat) (sx sf : Value) (x f : List UInt8) (hx0 : 0 < x.length) (hx8 : x.length ≤ 1000000) (hf0 : 0 < f.length) (w0 : World) (hN : N ≤ w0.heap.size) (h1 : b1 < N) (h2 : b2 < N) (n1 : b1 ≠ g1 ∧ b1 ≠ g2) (n2 : b2 ≠ g1 ∧ b2 ≠ g2)
    (c1 : w0.cell? ⟨b1, 0, none⟩ = some sx) (c2 : w0.cell? ⟨b2, 0, none⟩ = some sf) (hSx : Sl eB N w0 sx x) (hSf : Sl eB N w0 sf f) (nx : ∀ k, sx.ownBlock = some k → k ≠ g1 ∧ k ≠ g2) (nf : ∀ k, sf.ownBlock = some k → k ≠ g1 ∧ k ≠ g2)
    (hT : Tab w0) (hTN : 1 < N) (t1 : 1 ≠ g1) (t2 : 1 ≠ g2) :
    SeqV Fence.wide Tryz.prog 127 #[.pointer (some ⟨b1, 0, none⟩), .pointer (some ⟨b2, 0, none⟩)] (fun v : Value => #[v]) (fun (xs : List UInt8) W v => Sl eB W.heap.size W v xs) (Keep2 N g1 g2) [x, [juncL x f], f, f, f] w0 := by
 intro l J W hW hJo hY h0
 have hK0 : Keep2 N g1 g2 w0 W := keep2_below (hW.mono hN)
 have hk : ∀ W', Keep2 N g1 g2 w0 W' → W'.cell? ⟨b1, 0, none⟩ = some sx ∧ W'.cell? ⟨b2, 0, none⟩ = some sf ∧ Sl eB W'.heap.size W' sx x ∧ Sl eB W'.heap.size W' sf f ∧ Tab W' := fun W' h =>
  ⟨(h.cell (p := ⟨b1, 0, none⟩) h1 n1.1 n1.2).trans c1, (h.cell (p := ⟨b2, 0, none⟩) h2 n2.1 n2.2).trans c2, sl_keep2 hSx nx hN h, sl_keep2 hSf nf hN h, tab_keep2 hT h hTN t1 t2⟩
 obtain ⟨A', c', rfl, hxc, hxs⟩ := id hSx
 obtain ⟨bx, ox, rfl, hbx, hxcell⟩ := hxs hx0
 obtain ⟨A, c, rfl, hfc, hfs⟩ := id hSf
 obtain ⟨bf, of, rfl, hbf, hfcell⟩ := hfs hf0
 have hkc : ∀ W', Keep2 N g1 g2 w0 W' → W'.cell? ⟨bx, ox + (x.length - 1), none⟩ = some (eB (atB x (x.length - 1))) ∧ W'.cell? ⟨bf, of, none⟩ = some (eB (atB f 0)) := fun W' h =>
  ⟨(h.cell (p := ⟨bx, ox + (x.length - 1), none⟩) hbx (nx bx rfl).1 (nx bx rfl).2).trans (hxcell _ _ (atB_lt (by omega))), (h.cell (p := ⟨bf, of, none⟩) hbf (nf bf rfl).1 (nf bf rfl).2).trans (hfcell 0 _ (atB_lt hf0))⟩
 have hJu := fun (n : Nat) (w : World) (h : Tab w) => (callsIn_wide (n := n)).2 (Junction_any (atB x (x.length - 1)) (atB f 0) w h)
 have hj1 : IntKind.i64.wrap ((x.length : Int) - 1) = ((x.length - 1 : Nat) : Int) := by rw [IntWalk.i64_in _ (by omega)]; omega
 have hjx : ((x.length - 1 : Nat) : Int) < (x.length : Int) := by omega
 have hjx2 : x.length - 1 < x.length := by omega
 have hfx : (0 : Int) < (f.length : Int) := by omega
 have hpx : ∀ p q r : List UInt8, [p] ++ [q] <+: [p, q, r, r, r] := fun p q r => ⟨[r, r, r], rfl⟩
 clear hT hSx hSf c1 c2 hTN hxs hfs hxcell hfcell hxc hfc
 have Hju := Lib.hid (show juncL x f = letterOf (jN (atB x (x.length - 1)) (atB f 0) : Nat) from rfl)
 rw [← Hju.out] at hJu
 refine callsIn_of_wp Tryz.func127 rfl trivial ?_ rfl
 simp only [Tryz.ntmps127, List.size_toArray, List.length_cons, List.length_nil, Nat.reduceAdd, Nat.reduceSub, Array.replicate_succ, Array.replicate_zero, List.push_toArray, List.append_toArray, List.nil_append, List.cons_append]
 gi_wp2_with fail
 obtain ⟨j, hjd⟩ : ∃ j, juncL x f = j := ⟨_, rfl⟩
 have Hjd := Lib.hid hjd
 rw [hjd] at hY hJu
 clear hjd
 generalize atB x (x.length - 1) = lx at *
 generalize atB f 0 = lf at *
 clear Hju
 refine wpIn_region_ghost (PaS J N g1 g2 w0 x j) (fun g => [(4, .func (.yield l) #[] #[]), (5, .slice (some ⟨bx, ox, none⟩) x.length c'), (6, .bool true), (7, .bool false), (8, .bool false), (9, .func (.yield l) #[] #[]), (10, .slice (some ⟨bx, ox, none⟩) x.length c'), (11, .slice (some ⟨bx, ox, none⟩) x.length c'), (12, .int .i64 x.length),
  (13, .int .i64 (x.length - 1 : Nat)), (14, .pointer (some ⟨bx, ox + (x.length - 1), none⟩)), (15, eB lx), (16, .slice (some ⟨bf, of, none⟩) f.length c), (17, .pointer (some ⟨bf, of, none⟩)), (18, eB lf), (19, eB j), (20, .slice (some ⟨g, 0, none⟩) 1 1), (21, .bool true), (22, .bool false), (23, .bool false)]) 0
  (by kernel_rfl) (by kernel_rfl) (by kernel_rfl) (by kernel_rfl) (fun _ => by kernel_rfl) ?start ?ok ?fin
 case start =>
  intro D hD
  have e2 := hD 2 (by decide)
  have e3 := hD 3 (by decide)
  have e4 := hD 4 (by decide)
  have e16 := hD 16 (by decide)
  have e17 := hD 17 (by decide)
  have hJd : J [] W.drew := hJo _ _ _ none h0 ⟨rfl, rfl, rfl, Nat.le_refl _, fun _ _ _ => rfl⟩ (fun r e => by cases e)
  refine ⟨keep2_t hK0 ⟨Nat.le_refl _, fun _ _ _ _ => rfl⟩, fun _ => hJd, ?_, ?_, ?_, ?_, ?_, ?_, ?_⟩
  all_goals (intro h; first | (rw [e2] at h; cases h) | (rw [e3] at h; cases h) | (rw [e4] at h; cases h) | (rw [e16] at h; cases h) | (rw [e17] at h; cases h))
 case ok =>
  intro T hT
  simp only [putAll, Act.put, List.setIfInBounds_toArray, List.set_cons_zero, List.set_cons_succ] at hT
  simp only [ghAllI]
  refine ⟨?_, ?_, ?_, ?_, ?_, ?_, ?_, ?_, ?_, ?_, ?_, ?_, ?_, ?_, ?_, ?_, ?_, ?_, ?_, ?_, trivial⟩
  · refine ghI_same fun D g w' hD hdp hS => ?_
    obtain ⟨k1, k2, kSx, kSf, kT⟩ := hk _ hS.1
    obtain ⟨kx, kf⟩ := hkc _ hS.1
    rw [hT g]
    clear hT
    go_simp
    exact hS.keep (by decide) (by decide) (by decide) (fun h => by cases h) (fun h => by cases h)
  · refine ghI_same fun D g w' hD hdp hS => ?_
    obtain ⟨k1, k2, kSx, kSf, kT⟩ := hk _ hS.1
    obtain ⟨kx, kf⟩ := hkc _ hS.1
    rw [hT g]
    clear hT
    go_simp
    exact hS.keep (by decide) (by decide) (by decide) (fun h => by cases h) (fun h => by cases h)
  · refine ghI_same fun D g w' hD hdp hS => ?_
    obtain ⟨k1, k2, kSx, kSf, kT⟩ := hk _ hS.1
    obtain ⟨fn, tmps, assign, body, hy, hR⟩ := hY [] x _ w' (hS.2.1 hD) (by simp) kSx
    rw [hT g]
    clear hT
    go_simp
    refine (roundIn_room rfl hR).mono ?_
    rintro e W3 ⟨rfl, hJ3, hK3⟩
    obtain ⟨s1, s2, s3, s4, s5, s6, s7, s8, s9⟩ := hS
    have n17 : D 17 = false := by
     cases h : D 17 with
     | false => rfl
     | true => rw [s5 (s6 (s7 (s8 h)))] at hD; cases hD
    have n16 : D 16 = false := by
     cases h : D 16 with
     | false => rfl
     | true => rw [s5 (s6 (s7 h))] at hD; cases hD
    refine ⟨rfl, keep2_t s1 hK3, fun h => ?_, fun _ _ => hJ3, fun h => ?_, fun _ => by simp [upd], fun h => ?_, fun h => ?_, fun h => ?_, fun h => ?_⟩
    · simp [upd] at h
    · rw [upd_other D (by decide), n17] at h; cases h
    · rw [upd_other D (by decide)] at h ⊢; exact s6 h
    · rw [upd_other D (by decide)] at h ⊢; exact s7 h
    · rw [upd_other D (by decide)] at h ⊢; exact s8 h
    · rw [upd_other D (by decide), n16] at h; cases h
  · refine ghI_same fun D g w' hD hdp hS => ?_
    obtain ⟨k1, k2, kSx, kSf, kT⟩ := hk _ hS.1
    obtain ⟨kx, kf⟩ := hkc _ hS.1
    rw [hT g]
    clear hT
    go_simp
    exact hS.keep (by decide) (by decide) (by decide) (fun _ => by simpa [Region.binds] using hdp) (fun h => by cases h)
  · refine ghI_same fun D g w' hD hdp hS => ?_
    obtain ⟨k1, k2, kSx, kSf, kT⟩ := hk _ hS.1
    obtain ⟨kx, kf⟩ := hkc _ hS.1
    rw [hT g]
    clear hT
    go_simp
    exact hS.keep (by decide) (by decide) (by decide) (fun h => by cases h) (fun _ => by simp [Region.binds] at hdp; exact hdp.1)
  · refine ghI_same fun D g w' hD hdp hS => ?_
    obtain ⟨k1, k2, kSx, kSf, kT⟩ := hk _ hS.1
    obtain ⟨kx, kf⟩ := hkc _ hS.1
    rw [hT g]
    clear hT
    go_simp
    exact hS.keep (by decide) (by decide) (by decide) (fun h => by cases h) (fun h => by cases h)
  · refine ghI_same fun D g w' hD hdp hS => ?_
    obtain ⟨k1, k2, kSx, kSf, kT⟩ := hk _ hS.1
    obtain ⟨kx, kf⟩ := hkc _ hS.1
    rw [hT g]
    clear hT
    go_simp
    exact hS.keep (by decide) (by decide) (by decide) (fun h => by cases h) (fun h => by cases h)
  · refine ghI_same fun D g w' hD hdp hS => ?_
    obtain ⟨k1, k2, kSx, kSf, kT⟩ := hk _ hS.1
    obtain ⟨kx, kf⟩ := hkc _ hS.1
    rw [hT g]
    clear hT
    go_simp
    exact hS.keep (by decide) (by decide) (by decide) (fun h => by cases h) (fun h => by cases h)
  · refine ghI_same fun D g w' hD hdp hS => ?_
    obtain ⟨k1, k2, kSx, kSf, kT⟩ := hk _ hS.1
    obtain ⟨kx, kf⟩ := hkc _ hS.1
    rw [hT g]
    clear hT
    go_simp
    exact hS.keep (by decide) (by decide) (by decide) (fun h => by cases h) (fun h => by cases h)
  · refine ghI_same fun D g w' hD hdp hS => ?_
    obtain ⟨k1, k2, kSx, kSf, kT⟩ := hk _ hS.1
    obtain ⟨kx, kf⟩ := hkc _ hS.1
    rw [hT g]
    clear hT
    go_simp
    exact hS.keep (by decide) (by decide) (by decide) (fun h => by cases h) (fun h => by cases h)
  · refine ghI_same fun D g w' hD hdp hS => ?_
    obtain ⟨k1, k2, kSx, kSf, kT⟩ := hk _ hS.1
    obtain ⟨kx, kf⟩ := hkc _ hS.1
    rw [hT g]
    clear hT
    go_simp
    exact hS.keep (by decide) (by decide) (by decide) (fun h => by cases h) (fun h => by cases h)
  · refine ghI_same fun D g w' hD hdp hS => ?_
    obtain ⟨k1, k2, kSx, kSf, kT⟩ := hk _ hS.1
    obtain ⟨kx, kf⟩ := hkc _ hS.1
    rw [hT g]
    clear hT
    go_simp
    exact hS.keep (by decide) (by decide) (by decide) (fun h => by cases h) (fun h => by cases h)
  · refine ghI_same fun D g w' hD hdp hS => ?_
    obtain ⟨k1, k2, kSx, kSf, kT⟩ := hk _ hS.1
    obtain ⟨kx, kf⟩ := hkc _ hS.1
    rw [hT g]
    clear hT
    go_simp
    exact hS.keep (by decide) (by decide) (by decide) (fun h => by cases h) (fun h => by cases h)
  · refine ghI_same fun D g w' hD hdp hS => ?_
    obtain ⟨k1, k2, kSx, kSf, kT⟩ := hk _ hS.1
    obtain ⟨kx, kf⟩ := hkc _ hS.1
    rw [hT g]
    clear hT
    go_simp
    exact hS.keep (by decide) (by decide) (by decide) (fun h => by cases h) (fun h => by cases h)
  · refine ghI_same fun D g w' hD hdp hS => ?_
    obtain ⟨k1, k2, kSx, kSf, kT⟩ := hk _ hS.1
    obtain ⟨kx, kf⟩ := hkc _ hS.1
    rw [hT g]
    clear hT
    go_simp
    exact hS.keep (by decide) (by decide) (by decide) (fun h => by cases h) (fun h => by cases h)
  · refine ghI_same fun D g w' hD hdp hS => ?_
    obtain ⟨k1, k2, kSx, kSf, kT⟩ := hk _ hS.1
    rw [hT g]
    clear hT
    go_simp
    refine ⟨trivial, (hJu _ _ kT).mono ?_⟩
    rintro e w' ⟨rfl, rfl⟩
    exact ⟨rfl, hS.keep (by decide) (by decide) (by decide) (fun h => by cases h) (fun h => by cases h)⟩
  · intro D g w' hD hdp hS
    obtain ⟨s1, s2, s3, s4, s5, s6, s7, s8, s9⟩ := hS
    have d4 : D 4 = true := by simp [Region.binds] at hdp; simp [hdp]
    have d2 : D 2 = true := s5 (s6 d4)
    have n17 : D 17 = false := by
     cases h : D 17 with
     | false => rfl
     | true => rw [s8 h] at hD; cases hD
    have hJ3 := hJo.alloc (.cells #[eB j] 5) (s3 d2 n17)
    have hcell : (w'.alloc (.cells #[eB j] 5)).cell? ⟨w'.heap.size, 0, none⟩ = some (eB j) := by simp
    have hK3 : Keep2 N g1 g2 w0 (w'.alloc (.cells #[eB j] 5)) := keep2_t s1 ⟨by simp, fun k hk _ _ => Below.heap_alloc _ _ _ (by have := s1.1; omega)⟩
    rw [hT g]
    go_simp
    refine show GhPost _ _ _ _ _ _ _ _ _ from ⟨w'.heap.size, by rw [hT], ?_, ?_, hK3, fun h => ?_, fun _ _ => hJ3, fun h => ?_, ?_, ?_, ?_, ?_, ?_⟩
    · intro s hs
      cases hs
      rw [hT]
    · intro s hs
      rw [hT w'.heap.size, hT g]
      by_cases h20 : s = 20
      · subst h20
        have := hs 16 _ rfl rfl
        rw [hD] at this
        cases this
      · rcases s with _ | _ | _ | _ | _ | _ | _ | _ | _ | _ | _ | _ | _ | _ | _ | _ | _ | _ | _ | _ | _ | s
        all_goals first | exact absurd rfl h20 | simp
    · rw [upd_other D (by decide), d2] at h; cases h
    · rw [upd_other D (by decide), n17] at h; cases h
    · intro h; rw [upd_other D (by decide)] at h ⊢; exact s5 h
    · intro h; rw [upd_other D (by decide)] at h ⊢; exact s6 h
    · intro _; rw [upd_other D (by decide)]; exact d4
    · intro h; rw [upd_other D (by decide), n17] at h; cases h
    · intro _ _; exact ⟨by simp, hcell⟩
  · refine ghI_same fun D g w' hD hdp hS => ?_
    have d16 : D 16 = true := by simp [Region.binds] at hdp; simp_all
    obtain ⟨s1, s2, s3, s4, s5, s6, s7, s8, s9⟩ := hS
    obtain ⟨hg, hgc⟩ := s9 d16 hD
    have hone : Sl eB w'.heap.size w' (.slice (some ⟨g, 0, none⟩) 1 1) [j] := ⟨_, 1, rfl, Nat.le_refl _, fun _ => ⟨g, 0, rfl, hg, fun i y hy => by
     rcases i with _ | i
     · simp at hy; subst hy; exact hgc
     · simp at hy⟩⟩
    obtain ⟨fn, tmps, assign, body, hy, hR⟩ := hY [x] [j] _ w' (s3 (s5 (s6 (s7 d16))) hD) (hpx _ _ _) hone
    rw [hT g]
    clear hT
    go_simp
    refine (roundIn_room rfl hR).mono ?_
    rintro e W3 ⟨rfl, hJ3, hK3⟩
    have d2 := s5 (s6 (s7 d16))
    refine ⟨rfl, keep2_t s1 hK3, fun h => ?_, fun _ h => ?_, fun _ => hJ3, fun h => ?_, fun h => ?_, fun h => ?_, fun h => ?_, fun _ h => ?_⟩
    · rw [upd_other D (by decide), d2] at h; cases h
    · simp [upd] at h
    · rw [upd_other D (by decide)] at h ⊢; exact s5 h
    · rw [upd_other D (by decide)] at h ⊢; exact s6 h
    · rw [upd_other D (by decide)] at h ⊢; exact s7 h
    · rw [upd_other D (by decide)]; exact d16
    · simp [upd] at h
  · refine ghI_same fun D g w' hD hdp hS => ?_
    obtain ⟨k1, k2, kSx, kSf, kT⟩ := hk _ hS.1
    obtain ⟨kx, kf⟩ := hkc _ hS.1
    rw [hT g]
    clear hT
    go_simp
    exact hS.keep (by decide) (by decide) (by decide) (fun h => by cases h) (fun h => by cases h)
  · refine ghI_same fun D g w' hD hdp hS => ?_
    obtain ⟨k1, k2, kSx, kSf, kT⟩ := hk _ hS.1
    obtain ⟨kx, kf⟩ := hkc _ hS.1
    rw [hT g]
    clear hT
    go_simp
    exact hS.keep (by decide) (by decide) (by decide) (fun h => by cases h) (fun h => by cases h)
 case fin =>
  intro T hT D g w' hall hS
  have hTg := hT g
  simp only [putAll, Act.put, List.setIfInBounds_toArray, List.set_cons_zero, List.set_cons_succ] at hTg
  rw [hTg]
  clear hT hTg
  obtain ⟨hK, -, -, hJ, -⟩ := hS
  replace hJ := hJ (hall 17 (by decide))
  clear hkc hJu hpx hall
  gi_wp2_with fail
  have hrep : ∀ k, k < 3 → [x, [j]] ++ List.replicate k f ++ [f] <+: [x, [j], f, f, f] := fun k hk => by
   rcases (show k = 0 ∨ k = 1 ∨ k = 2 by omega) with rfl | rfl | rfl
   · exact ⟨[f, f], rfl⟩
   · exact ⟨[f], rfl⟩
   · exact ⟨[], rfl⟩
  gi_loopw [24] (fun i wr => ∃ k : Nat, k ≤ 3 ∧ i = .int .i64 k ∧ J ([x, [j]] ++ List.replicate k f) wr ∧ Keep2 N g1 g2 w0 wr) (fun i _ => 3 - (intOf i).toNat)
  case atStart => exact ⟨0, by omega, rfl, hJ, hK⟩
  case round =>
   obtain ⟨k, hk3, rfl, hJk, hKk⟩ := hrel
   by_cases hlt : k < 3
   · obtain ⟨k1, k2, kSx, kSf, kT⟩ := hk _ hKk
     obtain ⟨fn, tmps, assign, body, hy, hR⟩ := hY _ f _ wr hJk (hrep k hlt) kSf
     rw [List.append_assoc, ← List.replicate_succ'] at hR
     clear hrep hY hJk hJ hK hk
     gi_wp2_with fail
     refine (roundIn_room rfl hR).mono ?_
     clear hy hR
     rintro e W3 ⟨rfl, hJ3, hK3⟩
     gi_wp2_with fail
     refine ⟨⟨k + 1, by omega, by go_num, hJ3, keep2_t hKk hK3⟩, ?_⟩
     simp [intOf]
     omega
   · obtain rfl : k = 3 := by omega
     clear hY hk hrep
     gi_wp2_with fail
     go_end0
     exact ⟨⟨_, rfl⟩, by rw [Hjd.out]; exact hJk⟩
end Go.Proofs.YtkibigbcdlilkaaGreatDoor
namespace Go.Proofs.YtkibigbcdlilkaaGreatDoor
open Go.RowKit Go.Shelf
attribute [local go_sem] Oper.semAt_some run_store_func
theorem grow_one {b : Nat} {W w1 : World} {v v' : Value} {u : Value} (hg : W.grownBy w1 v.ownBlock) (hat : v'.ownBlock = v.ownBlock ∨ v'.ownBlock = some W.heap.size) : Grow b W v (w1.setCell ⟨b, 0, none⟩ u) v' := by
 refine ⟨⟨hg.os, hg.tape, hg.output, ?_⟩, fun k hk hb hv => ?_, fun k hk => ?_⟩
 · have := hg.size
   show W.heap.size ≤ (w1.setCell _ _).heap.size
   simp [World.setCell]
   omega
 · exact (Below.heap_setCell _ _ _ k hb).trans (hg.block k hk hv)
 · rcases hat with e | e
   · exact .inl (e ▸ hk)
   · rw [e] at hk
     injection hk with hk
     exact .inr (by omega)
theorem keepsFrom_grow {B b : Nat} {W W' : World} {v v' : Value} {t : TypeId} {u : Value} {base n : Nat} {e : TypeId} {xs : List Value} (hb : Boxed W b t u) (hr : W.ownsRow base e 1 v n xs) (h : Grow b W v W' v') : KeepsFrom B W W' := by
 refine ⟨h.1.2.2.2, fun k o _ hk hc => ?_⟩
 have hlt := (Array.getElem?_eq_some_iff.1 hk).1
 refine (h.2.1 k hlt (fun e' => ?_) (fun e' => ?_)).trans hk
 · subst e'
   rw [show W.heap[k]? = _ from hb] at hk
   cases hk
   cases hc
 · rcases hr.2 with ⟨rfl, _⟩ | ⟨g, cap, cur, rfl, _, hg, _⟩
   · cases e'
   · cases e'
     rw [hg] at hk
     cases hk
     cases hc
set_option maxRecDepth 100000 in
set_option maxHeartbeats 2000000 in
theorem wput_any (b3 base : Nat) (v : Value) (ys : List UInt8) (sv : Value) (p : List UInt8) (W : World) (hv : Boxed W b3 22 v) (hrow : W.ownsRow base 5 1 v ys.length (ys.map eB)) (hS : Sl eB W.heap.size W sv p) (hl : ys.length + p.length ≤ 1000000) (hbase : base ≤ W.heap.size) :
    Calls Tryz.prog 103 #[sv, .pointer (some ⟨b3, 0, none⟩)] W fun e w' => e = .returned (.tuple #[]) ∧ ∃ v', Boxed w' b3 22 v' ∧ w'.ownsRow base 5 1 v' (ys ++ p).length ((ys ++ p).map eB) ∧ Grow b3 W v w' v' := by
  obtain ⟨i0, hi, hz0, hz1, hz2⟩ := info_parts info_u8
  obtain ⟨A, c, rfl⟩ := hS.len
  obtain ⟨A', l', c', rfl⟩ := own_shape hrow
  have q1 : ys.length + p.length ≤ maxLen := by unfold maxLen; omega
  have q2 : (ys.length + p.length) * 1 ≤ 140737488355328 := by omega
  have hc := hv.cell
  have hnr := hv.not_row (by decide) hrow
  clear hl
  go_enter Tryz.func103, Tryz.ntmps103
  go_wp2_with
    (at_builtin
     refine wpList_append_sl _ rfl (.tmp 3) (.tmp 4) _ rfl base 5 i0 (.int .u8 0) 1 Tryz.underlying22 hi hz0 hz1 hz2 rfl _ ys.length _ hrow rfl W.heap.size _ p hS rfl (fun _ => rfl) q1 q2 hbase ?_
     intro v1 w1 hown1 hg1 hat1
     have hb2 : Boxed w1 b3 22 _ := Boxed.kept hv hg1 hnr
     have cb2 := hb2.cell
     have fb2 := hb2.frozen
     have hnr2 := hb2.not_row (by decide) hown1
     obtain ⟨A1, l1, c1, rfl⟩ := own_shape hown1)
  go_end0
  have hb3 := hb2.set (.slice A1 l1 c1)
  have hown3 := hown1.kept (grownBy_setCell' w1 b3 (.slice A1 l1 c1)) (.inr hnr2.symm)
  exact ⟨rfl, _, hb3, by rw [List.length_append, List.map_append]; exact hown3, grow_one hg1 hat1⟩
theorem WLong_any (n : Nat) (w : World) : ∃ z : Int, ((z = -1 ∧ ¬ (2 ≤ n ∧ n ≤ 800)) ∨ (z = (wlongN n : Nat) ∧ 2 ≤ n ∧ n ≤ 800 ∧ wlongN n ≤ 10000)) ∧
    Calls Tryz.prog 23 #[.int .i64 n] w fun e w' => e = .returned (.int .i64 z) ∧ Below w.heap.size w w' := by
  by_cases h : 2 ≤ n ∧ n ≤ 800
  · have hl : longN n ≤ 1000 := by
      have := tb_le n (by omega)
      have := wb_le n (by omega)
      unfold longN zb
      omega
    exact ⟨_, .inr ⟨rfl, h.1, h.2, by unfold wlongN; omega⟩, WLong_yes n h.1 h.2 hl w⟩
  · exact ⟨-1, .inl ⟨rfl, h⟩, (WLong_no n (by omega) w).mono fun e w' ⟨he, hw⟩ => ⟨he, hw ▸ Below.refl _ _⟩⟩
theorem ownFrom_keep2 {β : Type} {N B g1 g2 : Nat} {w₀ : World} (h1 : N ≤ w₀.heap.size) (h2 : N ≤ B) : OwnFrom B (fun (_ : β) W => Keep2 N g1 g2 w₀ W) :=
 fun _ X Y row hs hg hr => ⟨Nat.le_trans hs.1 hg.size, fun k hk a b => (hg.block k (by have := hs.1; omega) (fun e => by have := (hr k e.symm).1; omega)).trans (hs.2 k hk a b)⟩
theorem own_below {W W' : World} {base n : Nat} {e : TypeId} {v : Value} {xs : List Value} (h : W.ownsRow base e 1 v n xs) (hB : Below W.heap.size W W') : W'.ownsRow base e 1 v n xs := by
 refine ⟨h.1, ?_⟩
 rcases h.2 with h0 | ⟨g, cap, cur, e1, e2, e3, e4⟩
 · exact .inl h0
 · exact .inr ⟨g, cap, cur, e1, e2, (hB.block g (Array.getElem?_eq_some_iff.1 e3).1).trans e3, e4⟩
theorem sl_block {B : Nat} {W : World} {sv : Value} {x : List UInt8} (h : Sl eB B W sv x) (h0 : 0 < x.length) : ∀ k, sv.ownBlock = some k → k < B := by
 obtain ⟨A, c, rfl, hc, hcs⟩ := h
 obtain ⟨b, off, rfl, hb, -⟩ := hcs h0
 intro k hk
 cases hk
 exact hb
theorem wfG_ok {x f : List UInt8} (h : wfG x = .ok f) : (2 ≤ x.length ∧ x.length ≤ 800) ∧ f.length = longN x.length ∧ 2 ≤ f.length ∧ ∃ a b c, sumsG x = .ok (a, b, c) ∧ f = fldL x a b c := by
 unfold wfG at h
 split at h
 · rename_i h0
   split at h
   · cases h
   · rename_i a b c hs
     injection h with h
     refine ⟨h0, by rw [← h, fldL_length], ?_, a, b, c, hs, h.symm⟩
     rw [← h, fldL_length]
     unfold longN
     omega
 · cases h
theorem flat_le {pre : List (List UInt8)} {p : List UInt8} {xs : List (List UInt8)} (h : pre ++ [p] <+: xs) : pre.flatten.length + p.length ≤ xs.flatten.length := by
 obtain ⟨t, rfl⟩ := h
 simp
theorem flat_word (x f : List UInt8) : [x, [juncL x f], f, f, f].flatten = wordL x f := by simp [wordL]
end Go.Proofs.YtkibigbcdlilkaaGreatDoor
namespace Go.Proofs.YtkibigbcdlilkaaGreatDoor
open Go.RowKit Go.Shelf
attribute [local go_sem] Oper.semAt_some run_store_func
abbrev MadeIs (x : List UInt8) (w : World) : Ending → World → Prop := fun e w' => Below w.heap.size w w' ∧
  ((∃ f v, wfG x = .ok f ∧ e = .returned v ∧ Sl eB w'.heap.size w' v (wordL x f) ∧ ∀ k, v.ownBlock = some k → w.heap.size ≤ k) ∨ ∃ m, wfG x = .error m ∧ e = .panicked (errno m))
theorem made_room (L : Nat) (hL : L ≤ 10000) : ∃ C : Array Value, C.size = L ∧ ∀ w, (Instr.makeSlice 22 (.int .i64 0) (.int .i64 (L : Int))).run Tryz.prog w = .ok (.slice (some ⟨w.heap.size, 0, none⟩) 0 L) (w.alloc (.cells C 5)) := by
 obtain ⟨i0, hi, hz0, hz1, hz2⟩ := info_parts info_u8
 refine ⟨madeCells (Value.cells (.int .u8 0)) (L * i0.size), by simp [madeCells, hz1, Value.cells], fun w => ?_⟩
 have := run_make w 22 5 i0 (.int .u8 0) Tryz.underlying22 hi hz0 .i64 .i64 0 (L : Int) (by omega) (by omega) (by rw [hz2]; omega) (by omega)
 simpa using this
set_option maxRecDepth 100000 in
set_option maxHeartbeats 4000000 in
theorem made_any (sv : Value) (x : List UInt8) (w : World) (hT : Tab w) (hTB : TabB w) (hS : Sl eB w.heap.size w sv x) :
    Calls Tryz.prog 88 #[sv] w (MadeIs x w) := by
  have hmf : ∀ (fn : Fn) (first cap : Array Value) (w : World), (Instr.makeFunc fn first cap).run Tryz.prog w = .ok (.func fn first cap) w := fun _ _ _ _ => rfl
  obtain ⟨z, hz, hLg⟩ := WLong_any x.length w
  obtain ⟨A, c, rfl⟩ := hS.len
  have hFl := fun w h h2 h3 => field_any (.slice A x.length c) x w h h2 h3
  refine (callsIn_wide (n := 5)).1 ?_
  refine callsIn_of_wp_marks Tryz.func88 rfl trivial ?_ rfl
  simp only [Tryz.ntmps88, List.size_toArray, List.length_cons, List.length_nil, Nat.reduceAdd, Nat.reduceSub, Array.replicate_succ, Array.replicate_zero, List.push_toArray, List.append_toArray, List.nil_append, List.cons_append]
  gi_wp2_with fail
  refine ⟨trivial, ?_⟩
  gi_at_call 23
  refine (callsIn_wide.2 hLg).mono ?_
  rintro e w1 ⟨rfl, hB1⟩
  have hT1 := hT.below hB1
  have hTB1 := hTB.below hB1
  have hS1 := hS.next hB1
  clear hLg
  rcases hz with ⟨rfl, hno⟩ | ⟨rfl, h2, h8, hwl⟩
  · obtain ⟨C, hC, hmk⟩ := made_room 0 (by omega)
    have hmx : max (-1 : Int) 0 = 0 := by decide
    have hmk0 : ∀ w, (Instr.makeSlice 22 (.int .i64 0) (.int .i64 0)).run Tryz.prog w = .ok (.slice (some ⟨w.heap.size, 0, none⟩) 0 0) (w.alloc (.cells C 5)) := hmk
    have hA2 : Below w1.heap.size w1 (((w1.alloc (.cells C 5)).alloc (.cells #[.slice (some ⟨w1.heap.size, 0, none⟩) 0 0] 22)).alloc (.cells #[.func (.func 103) #[] #[.pointer (some ⟨w1.heap.size + 1, 0, none⟩)]] 109)) :=
     (((Below.refl _ w1).alloc (Nat.le_refl _) _).alloc (by simp) _).alloc (by simp; omega) _
    have hG : wfG x = .error 2 := by unfold wfG; rw [if_neg hno]
    have HG := Lib.hid hG
    clear hG hno hmk
    gi_wp2_with fail
    refine ⟨trivial, ?_⟩
    refine (callsIn_wide.2 (hFl _ (hT1.below hA2) (hTB1.below hA2) (hS1.next hA2))).mono ?_
    rintro e w3 ⟨hB3, ⟨f, v, hf, rfl, hv, hfr⟩ | ⟨m, hm, rfl⟩⟩
    · rw [HG.out] at hf; cases hf
    · exact ⟨below_trans (below_trans hB1 hA2) hB3, .inr ⟨m, hm, rfl⟩⟩
  · obtain ⟨C, hC, hmk⟩ := made_room (wlongN x.length) hwl
    have hA2 : Below w1.heap.size w1 (((w1.alloc (.cells C 5)).alloc (.cells #[.slice (some ⟨w1.heap.size, 0, none⟩) 0 (wlongN x.length)] 22)).alloc (.cells #[.func (.func 103) #[] #[.pointer (some ⟨w1.heap.size + 1, 0, none⟩)]] 109)) :=
     (((Below.refl _ w1).alloc (Nat.le_refl _) _).alloc (by simp) _).alloc (by simp; omega) _
    have hrow0 : (w1.alloc (.cells C 5)).ownsRow w1.heap.size 5 1 (.slice (some ⟨w1.heap.size, 0, none⟩) 0 (wlongN x.length)) 0 [] := World.ownsRow_made w1 C (wlongN x.length) (Nat.le_refl _) (by unfold maxLen; omega) (by omega)
    have hrow := (hrow0.alloc (.cells #[.slice (some ⟨w1.heap.size, 0, none⟩) 0 (wlongN x.length)] 22)).alloc (.cells #[.func (.func 103) #[] #[.pointer (some ⟨w1.heap.size + 1, 0, none⟩)]] 109)
    clear hrow0
    have hb3 := (Boxed.new (w1.alloc (.cells C 5)) 22 (.slice (some ⟨w1.heap.size, 0, none⟩) 0 (wlongN x.length))).alloc (.cells #[.func (.func 103) #[] #[.pointer (some ⟨w1.heap.size + 1, 0, none⟩)]] 109)
    have hb4 := Boxed.new ((w1.alloc (.cells C 5)).alloc (.cells #[.slice (some ⟨w1.heap.size, 0, none⟩) 0 (wlongN x.length)] 22)) 109 (.func (.func 103) #[] #[.pointer (some ⟨w1.heap.size + 1, 0, none⟩)])
    simp only [World.size_alloc] at hb3 hb4
    have hs2 : (((w1.alloc (.cells C 5)).alloc (.cells #[.slice (some ⟨w1.heap.size, 0, none⟩) 0 (wlongN x.length)] 22)).alloc (.cells #[.func (.func 103) #[] #[.pointer (some ⟨w1.heap.size + 1, 0, none⟩)]] 109)).heap.size = w1.heap.size + 3 := by simp
    have Hl := Lib.hid (And.intro h2 (And.intro h8 hwl))
    have hBw1 := Lib.hid hB1
    clear h2 h8 hwl hC hB1
    obtain ⟨L, hL⟩ : ∃ L, wlongN x.length = L := ⟨_, rfl⟩
    have HL := Lib.hid hL
    rw [hL] at hmk hA2 hrow hb3 hb4 hs2 Hl ⊢
    clear hL
    gi_wp2_with fail
    refine ⟨trivial, ?_⟩
    generalize ((w1.alloc (.cells C 5)).alloc (.cells #[.slice (some ⟨w1.heap.size, 0, none⟩) 0 L] 22)).alloc (.cells #[.func (.func 103) #[] #[.pointer (some ⟨w1.heap.size + 1, 0, none⟩)]] 109) = w2 at *
    refine (callsIn_wide.2 (hFl _ (hT1.below hA2) (hTB1.below hA2) (hS1.next hA2))).mono ?_
    rintro e w3 ⟨hB3, ⟨f, v, hf, rfl, hv, hfr⟩ | ⟨m, hm, rfl⟩⟩
    · obtain ⟨Af, cf, rfl⟩ := hv.len
      have hP := parts_any (.slice A x.length c) (.slice Af f.length cf) ⟨_, _, _, rfl⟩ ⟨_, _, _, rfl⟩ w3
      gi_wp2_with fail
      refine ⟨trivial, ?_⟩
      refine (callsIn_wide.2 hP).mono ?_
      rintro e w' ⟨rfl, rfl⟩
      gi_wp2_with fail
      have hA4 : Below w3.heap.size w3 ((w3.alloc (.cells #[.slice A x.length c] 22)).alloc (.cells #[.slice (Af) f.length cf] 22)) := ((Below.refl _ w3).alloc (Nat.le_refl _) _).alloc (by simp) _
      have k1 := (Boxed.new w3 22 (.slice A x.length c)).alloc (.cells #[.slice (Af) f.length cf] 22)
      have k2 := Boxed.new (w3.alloc (.cells #[.slice A x.length c] 22)) 22 (.slice Af f.length cf)
      simp only [World.size_alloc] at k2
      have hs4 : ((w3.alloc (.cells #[.slice A x.length c] 22)).alloc (.cells #[.slice (Af) f.length cf] 22)).heap.size = w3.heap.size + 2 := by simp
      generalize (w3.alloc (.cells #[.slice A x.length c] 22)).alloc (.cells #[.slice (Af) f.length cf] 22) = w4 at *
      have hs3 := hB3.size
      have hsw := hBw1.out.size
      have htl := hT.lt
      have hB24 := below_trans hB3 hA4
      have hT4 := (hT1.below hA2).below hB24
      have hS4 := (hS1.next hA2).next hB24
      have hv4 := hv.next hA4
      have nx := sl_block hS1 (by have := Hl.out.1; omega)
      obtain ⟨-, hfl, hf2, -⟩ := wfG_ok hf
      have hb3' : Boxed w4 (w1.heap.size + 1) 22 (.slice (some ⟨w1.heap.size, 0, none⟩) 0 L) := (hB24.block _ hb3.lt).trans hb3
      have hb4' : Boxed w4 (w1.heap.size + 1 + 1) 109 (.func (.func 103) #[] #[.pointer (some ⟨w1.heap.size + 1, 0, none⟩)]) := (hB24.block _ hb4.lt).trans hb4
      have hrow' := own_below hrow hB24
      have hBw := below_trans hA2 hB24
      have hwl : (wordL x f).length ≤ 10000 := by
       rw [wordL_length x f hfl, HL.out]
       exact Hl.out.2.2
      have hseq := parts_seq w4.heap.size w3.heap.size (w3.heap.size + 1) (w1.heap.size + 1) w1.heap.size (.slice A x.length c) (.slice Af f.length cf) x f (by have := Hl.out.1; omega) (by have := Hl.out.2.1; omega) (by omega) w4 (Nat.le_refl _) (by omega) (by omega) ⟨by omega, by omega⟩ ⟨by omega, by omega⟩
        k1.cell k2.cell hS4 hv4 (fun k hk => by have := nx k hk; omega) (fun k hk => by have := hfr k hk; omega) hT4 (by omega) (by omega) (by omega)
      have Hf := Lib.hid hf
      have Hwl := Lib.hid hwl
      have Hfr := Lib.hid hsw
      clear hf hwl hfl hf2 hS hS1 hS4 hv hv4 hT hT1 hT4 hTB hTB1 hFl hfr nx k1 k2 hb3 hb4 hrow hP htl hmk hA2 hB24 hsw hmf
      refine wpIn_range_V (gf := 127) (lb := #[.pointer (some ⟨w3.heap.size, 0, none⟩), .pointer (some ⟨w3.heap.size + 1, 0, none⟩)]) (encs := fun v : Value => #[v]) rfl rfl trivial rfl (enters_of Tryz.func127 (by kernel_rfl) rfl) hseq (fun _ _ _ => keep2_t)
       (fun W l o o' hl ho hc => ⟨by simp [World.putObj], fun k hk _ _ => World.putObj_heap_other (by omega)⟩)
       (fun p y W l o r hl ho hc hE => ?enc) (Below.refl _ _) (fun _ => rfl)
       (fun (pre : List (List UInt8)) W => (∃ v, Boxed W (w1.heap.size + 1) 22 v ∧ W.ownsRow w1.heap.size 5 1 v pre.flatten.length (pre.flatten.map eB) ∧ ∀ k, v.ownBlock = some k → k = w1.heap.size ∨ w4.heap.size ≤ k) ∧ (Keep2 w4.heap.size (w1.heap.size + 1) w1.heap.size w4 W ∧ Below w1.heap.size w1 W))
       (OwnFrom.and (Own.from (holdsRow_own w1.heap.size (w1.heap.size + 1) 22 5 1 (fun (pre : List (List UInt8)) => pre.flatten.length) (fun (pre : List (List UInt8)) => pre.flatten.map eB) (fun _ v => ∀ k, v.ownBlock = some k → k = w1.heap.size ∨ w4.heap.size ≤ k)) _)
        (OwnFrom.and (ownFrom_keep2 (Nat.le_refl _) (Nat.le_refl _)) (ownFrom_below (Nat.le_refl _) (by omega))))
       ⟨⟨_, hb3', hrow', fun k hk => .inl (by cases hk; rfl)⟩, keep2_r _ _ _ _, hBw⟩
       (fun y => { tmps := #[.slice A x.length c, undef, .slice none 0 0, .pointer (some ⟨w1.heap.size + 1, 0, none⟩), .pointer (some ⟨w1.heap.size + 1 + 1, 0, none⟩), y, .slice A x.length c, .int .i64 x.length, .int .i64 L, .int .i64 L, .slice (some ⟨w1.heap.size, 0, none⟩) 0 L, .func (.func 103) #[] #[.pointer (some ⟨w1.heap.size + 1, 0, none⟩)], .slice A x.length c, .slice A x.length c, .slice Af f.length cf, .func (.func 127) #[] #[.pointer (some ⟨w3.heap.size, 0, none⟩), .pointer (some ⟨w3.heap.size + 1, 0, none⟩)], y, undef, undef, undef, undef], defers := [] })
       ?assign ?body ?done
      case enc =>
       have hsz : (W.putObj l (.loop r)).heap.size = W.heap.size := by simp [World.putObj]
       rw [hsz]
       refine hE.of_cells fun q hq => ?_
       unfold World.cell?
       by_cases e : q.block = l
       · rw [e, ho, World.putObj_heap_same (by rw [← e]; exact hq)]
         cases o <;> first | rfl | cases hc
       · rw [World.putObj_heap_other e]
      case assign =>
       intro l y W K hK
       gi_wp2
       exact hK
      case body =>
       rintro l pre p y W ⟨⟨v, hv, hrow, hvb⟩, hK, hBW⟩ hpre hE
       have hpl := flat_le hpre
       rw [flat_word] at hpl
       have hp6 : pre.flatten.length + p.length ≤ 1000000 := by have := Hwl.out; omega
       obtain ⟨Ay, cy, rfl⟩ := hE.len
       have hput := wput_any (w1.heap.size + 1) w1.heap.size v pre.flatten _ p W hv hrow hE hp6 hBW.size
       have h4 : Boxed W (w1.heap.size + 1 + 1) 109 (.func (.func 103) #[] #[.pointer (some ⟨w1.heap.size + 1, 0, none⟩)]) := (hK.2 _ (by omega) (by omega) (by omega)).trans hb4'
       have c4 := h4.cell
       clear h4
       have hKW := hK.1
       have Hh := Lib.hid (And.intro hv (And.intro hrow (And.intro hvb (And.intro hK hBW))))
       clear hpre hpl hp6 hE hv hrow hvb hK hBW hseq hb3' hb4' hrow'
       gi_wp2_with fail
       refine ⟨trivial, ?_⟩
       refine (callsIn_wide.2 hput).mono ?_
       rintro e W' ⟨rfl, v', hv', hrow', hG⟩
       obtain ⟨hv, hrow, hvb, hK, hBW⟩ := Hh.out
       gi_wp2_with fail
       have hKK : Keep2 w4.heap.size (w1.heap.size + 1) w1.heap.size W W' := ⟨hG.1.2.2.2, fun k hk a b => hG.2.1 k (by omega) a (fun e => by rcases hvb k e.symm with h | h <;> omega)⟩
       refine ⟨keepsFrom_grow hv hrow hG, hKK, ⟨v', hv', by simpa using hrow', fun k hk => ?_⟩, keep2_t hK hKK, below_grow hG hBW hBW.size (by omega) (fun k hk => own_base hrow k hk)⟩
       rcases hG.2.2 k hk with h | h
       · exact hvb k h
       · exact .inr (by omega)
      case done =>
       rintro D W hD ⟨⟨v, hv, hrow, hvb⟩, hK, hBW⟩ hk
       rw [flat_word] at hrow
       obtain ⟨Av, lv, cv, rfl⟩ := own_shape hrow
       have hc := hv.cell
       clear hseq hb3' hb4' hrow'
       gi_wp2
       refine ⟨by simp, .inl ⟨_, _, rfl, run_takeDeferred hk, ?_⟩⟩
       refine ⟨_, results_tmp rfl _ _ _, below_trans hBw1.out (hBW.trans (belowK_b (w := w1) (Nat.le_refl _) W D _ (.deferred none) (by omega) hk rfl rfl)), .inl ⟨f, .slice Av lv cv, Hf.out, rfl, Sl.of_own (ownsRow_putObj hrow _ hk rfl), fun k hk => Nat.le_trans Hfr.out (own_base hrow k hk)⟩⟩
    · exact ⟨below_trans (below_trans hBw1.out hA2) hB3, .inr ⟨m, hm, rfl⟩⟩
end Go.Proofs.YtkibigbcdlilkaaGreatDoor
