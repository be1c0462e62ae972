/- The parts of a word, one behind the other: word.parts. -/
import Derived.Test.YtnlndaknljbhcaaDoorGHIZ
import Derived.Test.YtnlndaknljbhcaaDoorRVZ
import Derived.Test.YtnlndaknljbhcaaDoorWdEZ
namespace Go.Proofs.YtnlndaknljbhcaaDoor
open Go.RowKit Go.Shelf
attribute [local go_sem] Oper.semAt_some run_store_func

/-- All blocks ahead of N but two stay. -/
def Keep2 (N g1 g2 : Nat) (W W' : World) : Prop := W.heap.size ≤ W'.heap.size ∧ ∀ k, k < N → k ≠ g1 → k ≠ g2 → W'.heap[k]? = W.heap[k]?
theorem keep2_r (N g1 g2 : Nat) (W : World) : Keep2 N g1 g2 W W := ⟨Nat.le_refl _, fun _ _ _ _ => rfl⟩
theorem keep2_t {N g1 g2 : Nat} {X Y Z : World} (h : Keep2 N g1 g2 X Y) (k : Keep2 N g1 g2 Y Z) : Keep2 N g1 g2 X Z :=
  ⟨Nat.le_trans h.1 k.1, fun i a b c => (k.2 i a b c).trans (h.2 i a b c)⟩
theorem keep2_below {N g1 g2 : Nat} {X Y : World} (h : Below N X Y) : Keep2 N g1 g2 X Y := ⟨h.size, fun k hk _ _ => h.block k hk⟩
theorem Keep2.cell {N g1 g2 : Nat} {X Y : World} (h : Keep2 N g1 g2 X Y) {p : Addr} (hp : p.block < N) (h1 : p.block ≠ g1) (h2 : p.block ≠ g2) : Y.cell? p = X.cell? p :=
  World.cell?_of_block (h.2 _ hp h1 h2)
theorem sl_keep2 {N g1 g2 : Nat} {X Y : World} {sv : Value} {x : List UInt8} (hS : Sl eB N X sv x) (hn : ∀ k, sv.ownBlock = some k → k ≠ g1 ∧ k ≠ g2) (hN : N ≤ X.heap.size) (h : Keep2 N g1 g2 X Y) : Sl eB Y.heap.size Y sv x := by
  obtain ⟨A, c, rfl, hc, hcs⟩ := hS
  refine ⟨A, c, rfl, hc, fun h0 => ?_⟩
  obtain ⟨b, off, rfl, hb, hcell⟩ := hcs h0
  obtain ⟨n1, n2⟩ := hn b rfl
  have := h.1
  exact ⟨b, off, rfl, by omega, fun j y hy => (h.cell (p := ⟨b, off + j, none⟩) hb n1 n2).trans (hcell j y hy)⟩
theorem tab_keep2 {N g1 g2 : Nat} {X Y : World} (hT : Tab X) (h : Keep2 N g1 g2 X Y) (hN : 0 < N) (h1 : 0 ≠ g1) (h2 : 0 ≠ g2) : Tab Y := by
  obtain ⟨t, fr, hT⟩ := hT
  exact ⟨t, fr, (h.2 _ hN h1 h2).trans hT⟩
set_option maxRecDepth 100000 in
set_option maxHeartbeats 1000000 in
theorem parts_any (sx sf : Value) (hx : ∃ A l c, sx = .slice A l c) (hf : ∃ A l c, sf = .slice A l c) (w : World) :
    Calls Tryd.prog 53 #[sx, sf] w fun e w' => e = .returned (.func (.func 65) #[] #[.pointer (some ⟨w.heap.size, 0, none⟩), .pointer (some ⟨w.heap.size + 1, 0, none⟩)]) ∧ w' = (w.alloc (.cells #[sx] 22)).alloc (.cells #[sf] 22) := by
  have hmf : ∀ (fn : Fn) (first cap : Array Value) (w : World), (Instr.makeFunc fn first cap).run Tryd.prog w = .ok (.func fn first cap) w := fun _ _ _ _ => rfl
  obtain ⟨A, l, c, rfl⟩ := hx
  obtain ⟨A', l', c', rfl⟩ := hf
  go_enter Tryd.func53, Tryd.ntmps53
  go_wp2
  go_ret
  exact ⟨rfl, rfl⟩
/-- What holds at each point of the first two parts. -/
def PaS (J : List (List UInt8) → World → Prop) (N g1 g2 : Nat) (w0 : World) (x : List UInt8) (j : UInt8) (D : Nat → Bool) (g : Nat) (w : World) : Prop :=
  Keep2 N g1 g2 w0 w ∧ (D 2 = false → J [] w) ∧ (D 2 = true → D 17 = false → J [x] w) ∧ (D 17 = true → J [x, [j]] w) ∧ (D 3 = true → D 2 = true) ∧ (D 4 = true → D 3 = true) ∧ (D 16 = true → D 4 = true) ∧ (D 17 = true → D 16 = true) ∧
    (D 16 = true → D 17 = false → g < w.heap.size ∧ w.cell? ⟨g, 0, none⟩ = some (eB j))
theorem PaS.keep {J : List (List UInt8) → World → Prop} {N g1 g2 : Nat} {w0 : World} {x : List UInt8} {j : UInt8} {D : Nat → Bool} {g : Nat} {w : World} {i : Nat} (h : PaS J N g1 g2 w0 x j D g w) (h2 : i ≠ 2) (h16 : i ≠ 16) (h17 : i ≠ 17) (h3 : i = 3 → D 2 = true) (h4 : i = 4 → D 3 = true) : PaS J N g1 g2 w0 x j (upd D i) g w := by
  obtain ⟨a, b, c, d, e, f, p, q, r⟩ := h
  unfold PaS
  rw [upd_other D (Ne.symm h2), upd_other D (Ne.symm h16), upd_other D (Ne.symm h17)]
  refine ⟨a, b, c, d, fun h => ?_, fun h => ?_, fun h => ?_, q, r⟩
  · by_cases e3 : i = 3
    · exact h3 e3
    · rw [upd_other D (Ne.symm e3)] at h; exact e h
  · by_cases e4 : i = 4
    · have := h4 e4
      unfold upd
      split
      · rfl
      · exact this
    · rw [upd_other D (Ne.symm e4)] at h
      have := f h
      unfold upd
      split
      · rfl
      · exact this
  · have := p h
    unfold upd
    split
    · rfl
    · exact this
set_option maxRecDepth 100000 in
set_option maxHeartbeats 4000000 in
theorem parts_seq (N b1 b2 g1 g2 : Nat) (sx sf : Value) (x f : List UInt8) (hx0 : 0 < x.length) (hx8 : x.length ≤ 1000000) (hf0 : 0 < f.length) (w0 : World) (hN : N ≤ w0.heap.size) (h1 : b1 < N) (h2 : b2 < N) (n1 : b1 ≠ g1 ∧ b1 ≠ g2) (n2 : b2 ≠ g1 ∧ b2 ≠ g2)
    (c1 : w0.cell? ⟨b1, 0, none⟩ = some sx) (c2 : w0.cell? ⟨b2, 0, none⟩ = some sf) (hSx : Sl eB N w0 sx x) (hSf : Sl eB N w0 sf f) (nx : ∀ k, sx.ownBlock = some k → k ≠ g1 ∧ k ≠ g2) (nf : ∀ k, sf.ownBlock = some k → k ≠ g1 ∧ k ≠ g2)
    (hT : Tab w0) (hTN : 0 < N) (t1 : 0 ≠ g1) (t2 : 0 ≠ g2) :
    SeqV Fence.wide Tryd.prog 65 #[.pointer (some ⟨b1, 0, none⟩), .pointer (some ⟨b2, 0, none⟩)] (fun v : Value => #[v]) (fun (xs : List UInt8) W v => Sl eB W.heap.size W v xs) (Keep2 N g1 g2) [x, [juncL x f], f, f, f] w0 := by
  intro l J W hW hJo hY h0
  have hK0 : Keep2 N g1 g2 w0 W := keep2_below (hW.mono hN)
  have hk : ∀ W', Keep2 N g1 g2 w0 W' → W'.cell? ⟨b1, 0, none⟩ = some sx ∧ W'.cell? ⟨b2, 0, none⟩ = some sf ∧ Sl eB W'.heap.size W' sx x ∧ Sl eB W'.heap.size W' sf f ∧ Tab W' := fun W' h =>
    ⟨(h.cell (p := ⟨b1, 0, none⟩) h1 n1.1 n1.2).trans c1, (h.cell (p := ⟨b2, 0, none⟩) h2 n2.1 n2.2).trans c2, sl_keep2 hSx nx hN h, sl_keep2 hSf nf hN h, tab_keep2 hT h hTN t1 t2⟩
  obtain ⟨A', c', rfl, hxc, hxs⟩ := id hSx
  obtain ⟨bx, ox, rfl, hbx, hxcell⟩ := hxs hx0
  obtain ⟨A, c, rfl, hfc, hfs⟩ := id hSf
  obtain ⟨bf, of, rfl, hbf, hfcell⟩ := hfs hf0
  have hkc : ∀ W', Keep2 N g1 g2 w0 W' → W'.cell? ⟨bx, ox + (x.length - 1), none⟩ = some (eB (atB x (x.length - 1))) ∧ W'.cell? ⟨bf, of, none⟩ = some (eB (atB f 0)) := fun W' h =>
    ⟨(h.cell (p := ⟨bx, ox + (x.length - 1), none⟩) hbx (nx bx rfl).1 (nx bx rfl).2).trans (hxcell _ _ (atB_lt (by omega))), (h.cell (p := ⟨bf, of, none⟩) hbf (nf bf rfl).1 (nf bf rfl).2).trans (hfcell 0 _ (atB_lt hf0))⟩
  have hJu := fun (n : Nat) (w : World) (h : Tab w) => (callsIn_wide (n := n)).2 (Junction_any (atB x (x.length - 1)) (atB f 0) w h)
  have hj1 : IntKind.i64.wrap ((x.length : Int) - 1) = ((x.length - 1 : Nat) : Int) := by rw [IntWalk.i64_in _ (by omega)]; omega
  have hjx : ((x.length - 1 : Nat) : Int) < (x.length : Int) := by omega
  have hjx2 : x.length - 1 < x.length := by omega
  have hfx : (0 : Int) < (f.length : Int) := by omega
  have hpx : ∀ p q r : List UInt8, [p] ++ [q] <+: [p, q, r, r, r] := fun p q r => ⟨[r, r, r], rfl⟩
  clear hT hSx hSf c1 c2 hTN hxs hfs hxcell hfcell hxc hfc
  have Hju := Lib.hid (show juncL x f = letterOf (jN (atB x (x.length - 1)) (atB f 0) : Nat) from rfl)
  rw [← Hju.out] at hJu
  refine callsIn_of_wp Tryd.func65 rfl trivial ?_ rfl
  simp only [Tryd.ntmps65, List.size_toArray, List.length_cons, List.length_nil, Nat.reduceAdd, Nat.reduceSub, Array.replicate_succ, Array.replicate_zero, List.push_toArray, List.append_toArray, List.nil_append, List.cons_append]
  gi_wp2_with fail
  obtain ⟨j, hjd⟩ : ∃ j, juncL x f = j := ⟨_, rfl⟩
  have Hjd := Lib.hid hjd
  rw [hjd] at hY hJu
  clear hjd
  generalize atB x (x.length - 1) = lx at *
  generalize atB f 0 = lf at *
  clear Hju
  refine wpIn_region_ghost (PaS J N g1 g2 w0 x j) (fun g => [(4, .func (.yield l) #[] #[]), (5, .slice (some ⟨bx, ox, none⟩) x.length c'), (6, .bool true), (7, .bool false), (8, .bool false), (9, .func (.yield l) #[] #[]), (10, .slice (some ⟨bx, ox, none⟩) x.length c'), (11, .slice (some ⟨bx, ox, none⟩) x.length c'), (12, .int .i64 x.length),
    (13, .int .i64 (x.length - 1 : Nat)), (14, .pointer (some ⟨bx, ox + (x.length - 1), none⟩)), (15, eB lx), (16, .slice (some ⟨bf, of, none⟩) f.length c), (17, .pointer (some ⟨bf, of, none⟩)), (18, eB lf), (19, eB j), (20, .slice (some ⟨g, 0, none⟩) 1 1), (21, .bool true), (22, .bool false), (23, .bool false)]) 0
    (by kernel_rfl) (by kernel_rfl) (by kernel_rfl) (by kernel_rfl) (fun _ => by kernel_rfl) ?start ?ok ?fin
  case start =>
    intro D hD
    have e2 := hD 2 (by decide)
    have e3 := hD 3 (by decide)
    have e4 := hD 4 (by decide)
    have e16 := hD 16 (by decide)
    have e17 := hD 17 (by decide)
    have hJd : J [] W.drew := hJo _ _ _ none h0 ⟨rfl, rfl, rfl, Nat.le_refl _, fun _ _ _ => rfl⟩ (fun r e => by cases e)
    refine ⟨keep2_t hK0 ⟨Nat.le_refl _, fun _ _ _ _ => rfl⟩, fun _ => hJd, ?_, ?_, ?_, ?_, ?_, ?_, ?_⟩
    all_goals (intro h; first | (rw [e2] at h; cases h) | (rw [e3] at h; cases h) | (rw [e4] at h; cases h) | (rw [e16] at h; cases h) | (rw [e17] at h; cases h))
  case ok =>
    intro T hT
    simp only [putAll, Act.put, List.setIfInBounds_toArray, List.set_cons_zero, List.set_cons_succ] at hT
    simp only [ghAllI]
    refine ⟨?_, ?_, ?_, ?_, ?_, ?_, ?_, ?_, ?_, ?_, ?_, ?_, ?_, ?_, ?_, ?_, ?_, ?_, ?_, ?_, trivial⟩
    · refine ghI_same fun D g w' hD hdp hS => ?_
      obtain ⟨k1, k2, kSx, kSf, kT⟩ := hk _ hS.1
      obtain ⟨kx, kf⟩ := hkc _ hS.1
      rw [hT g]
      clear hT
      go_simp
      exact hS.keep (by decide) (by decide) (by decide) (fun h => by cases h) (fun h => by cases h)
    · refine ghI_same fun D g w' hD hdp hS => ?_
      obtain ⟨k1, k2, kSx, kSf, kT⟩ := hk _ hS.1
      obtain ⟨kx, kf⟩ := hkc _ hS.1
      rw [hT g]
      clear hT
      go_simp
      exact hS.keep (by decide) (by decide) (by decide) (fun h => by cases h) (fun h => by cases h)
    · refine ghI_same fun D g w' hD hdp hS => ?_
      obtain ⟨k1, k2, kSx, kSf, kT⟩ := hk _ hS.1
      obtain ⟨fn, tmps, assign, body, hy, hR⟩ := hY [] x _ w' (hS.2.1 hD) (by simp) kSx
      rw [hT g]
      clear hT
      go_simp
      refine (roundIn_room rfl hR).mono ?_
      rintro e W3 ⟨rfl, hJ3, hK3⟩
      obtain ⟨s1, s2, s3, s4, s5, s6, s7, s8, s9⟩ := hS
      have n17 : D 17 = false := by
        cases h : D 17 with
        | false => rfl
        | true => rw [s5 (s6 (s7 (s8 h)))] at hD; cases hD
      have n16 : D 16 = false := by
        cases h : D 16 with
        | false => rfl
        | true => rw [s5 (s6 (s7 h))] at hD; cases hD
      refine ⟨rfl, keep2_t s1 hK3, fun h => ?_, fun _ _ => hJ3, fun h => ?_, fun _ => by simp [upd], fun h => ?_, fun h => ?_, fun h => ?_, fun h => ?_⟩
      · simp [upd] at h
      · rw [upd_other D (by decide), n17] at h; cases h
      · rw [upd_other D (by decide)] at h ⊢; exact s6 h
      · rw [upd_other D (by decide)] at h ⊢; exact s7 h
      · rw [upd_other D (by decide)] at h ⊢; exact s8 h
      · rw [upd_other D (by decide), n16] at h; cases h
    · refine ghI_same fun D g w' hD hdp hS => ?_
      obtain ⟨k1, k2, kSx, kSf, kT⟩ := hk _ hS.1
      obtain ⟨kx, kf⟩ := hkc _ hS.1
      rw [hT g]
      clear hT
      go_simp
      exact hS.keep (by decide) (by decide) (by decide) (fun _ => by simpa [Region.binds] using hdp) (fun h => by cases h)
    · refine ghI_same fun D g w' hD hdp hS => ?_
      obtain ⟨k1, k2, kSx, kSf, kT⟩ := hk _ hS.1
      obtain ⟨kx, kf⟩ := hkc _ hS.1
      rw [hT g]
      clear hT
      go_simp
      exact hS.keep (by decide) (by decide) (by decide) (fun h => by cases h) (fun _ => by simp [Region.binds] at hdp; exact hdp.1)
    · refine ghI_same fun D g w' hD hdp hS => ?_
      obtain ⟨k1, k2, kSx, kSf, kT⟩ := hk _ hS.1
      obtain ⟨kx, kf⟩ := hkc _ hS.1
      rw [hT g]
      clear hT
      go_simp
      exact hS.keep (by decide) (by decide) (by decide) (fun h => by cases h) (fun h => by cases h)
    · refine ghI_same fun D g w' hD hdp hS => ?_
      obtain ⟨k1, k2, kSx, kSf, kT⟩ := hk _ hS.1
      obtain ⟨kx, kf⟩ := hkc _ hS.1
      rw [hT g]
      clear hT
      go_simp
      exact hS.keep (by decide) (by decide) (by decide) (fun h => by cases h) (fun h => by cases h)
    · refine ghI_same fun D g w' hD hdp hS => ?_
      obtain ⟨k1, k2, kSx, kSf, kT⟩ := hk _ hS.1
      obtain ⟨kx, kf⟩ := hkc _ hS.1
      rw [hT g]
      clear hT
      go_simp
      exact hS.keep (by decide) (by decide) (by decide) (fun h => by cases h) (fun h => by cases h)
    · refine ghI_same fun D g w' hD hdp hS => ?_
      obtain ⟨k1, k2, kSx, kSf, kT⟩ := hk _ hS.1
      obtain ⟨kx, kf⟩ := hkc _ hS.1
      rw [hT g]
      clear hT
      go_simp
      exact hS.keep (by decide) (by decide) (by decide) (fun h => by cases h) (fun h => by cases h)
    · refine ghI_same fun D g w' hD hdp hS => ?_
      obtain ⟨k1, k2, kSx, kSf, kT⟩ := hk _ hS.1
      obtain ⟨kx, kf⟩ := hkc _ hS.1
      rw [hT g]
      clear hT
      go_simp
      exact hS.keep (by decide) (by decide) (by decide) (fun h => by cases h) (fun h => by cases h)
    · refine ghI_same fun D g w' hD hdp hS => ?_
      obtain ⟨k1, k2, kSx, kSf, kT⟩ := hk _ hS.1
      obtain ⟨kx, kf⟩ := hkc _ hS.1
      rw [hT g]
      clear hT
      go_simp
      exact hS.keep (by decide) (by decide) (by decide) (fun h => by cases h) (fun h => by cases h)
    · refine ghI_same fun D g w' hD hdp hS => ?_
      obtain ⟨k1, k2, kSx, kSf, kT⟩ := hk _ hS.1
      obtain ⟨kx, kf⟩ := hkc _ hS.1
      rw [hT g]
      clear hT
      go_simp
      exact hS.keep (by decide) (by decide) (by decide) (fun h => by cases h) (fun h => by cases h)
    · refine ghI_same fun D g w' hD hdp hS => ?_
      obtain ⟨k1, k2, kSx, kSf, kT⟩ := hk _ hS.1
      obtain ⟨kx, kf⟩ := hkc _ hS.1
      rw [hT g]
      clear hT
      go_simp
      exact hS.keep (by decide) (by decide) (by decide) (fun h => by cases h) (fun h => by cases h)
    · refine ghI_same fun D g w' hD hdp hS => ?_
      obtain ⟨k1, k2, kSx, kSf, kT⟩ := hk _ hS.1
      obtain ⟨kx, kf⟩ := hkc _ hS.1
      rw [hT g]
      clear hT
      go_simp
      exact hS.keep (by decide) (by decide) (by decide) (fun h => by cases h) (fun h => by cases h)
    · refine ghI_same fun D g w' hD hdp hS => ?_
      obtain ⟨k1, k2, kSx, kSf, kT⟩ := hk _ hS.1
      obtain ⟨kx, kf⟩ := hkc _ hS.1
      rw [hT g]
      clear hT
      go_simp
      exact hS.keep (by decide) (by decide) (by decide) (fun h => by cases h) (fun h => by cases h)
    · refine ghI_same fun D g w' hD hdp hS => ?_
      obtain ⟨k1, k2, kSx, kSf, kT⟩ := hk _ hS.1
      rw [hT g]
      clear hT
      go_simp
      refine ⟨trivial, (hJu _ _ kT).mono ?_⟩
      rintro e w' ⟨rfl, rfl⟩
      exact ⟨rfl, hS.keep (by decide) (by decide) (by decide) (fun h => by cases h) (fun h => by cases h)⟩
    · intro D g w' hD hdp hS
      obtain ⟨s1, s2, s3, s4, s5, s6, s7, s8, s9⟩ := hS
      have d4 : D 4 = true := by simp [Region.binds] at hdp; simp [hdp]
      have d2 : D 2 = true := s5 (s6 d4)
      have n17 : D 17 = false := by
        cases h : D 17 with
        | false => rfl
        | true => rw [s8 h] at hD; cases hD
      have hJ3 := hJo.alloc (.cells #[eB j] 5) (s3 d2 n17)
      have hcell : (w'.alloc (.cells #[eB j] 5)).cell? ⟨w'.heap.size, 0, none⟩ = some (eB j) := by simp
      have hK3 : Keep2 N g1 g2 w0 (w'.alloc (.cells #[eB j] 5)) := keep2_t s1 ⟨by simp, fun k hk _ _ => Below.heap_alloc _ _ _ (by have := s1.1; omega)⟩
      rw [hT g]
      go_simp
      refine show GhPost _ _ _ _ _ _ _ _ _ from ⟨w'.heap.size, by rw [hT], ?_, ?_, hK3, fun h => ?_, fun _ _ => hJ3, fun h => ?_, ?_, ?_, ?_, ?_, ?_⟩
      · intro s hs
        cases hs
        rw [hT]
      · intro s hs
        rw [hT w'.heap.size, hT g]
        by_cases h20 : s = 20
        · subst h20
          have := hs 16 _ rfl rfl
          rw [hD] at this
          cases this
        · rcases s with _ | _ | _ | _ | _ | _ | _ | _ | _ | _ | _ | _ | _ | _ | _ | _ | _ | _ | _ | _ | _ | s
          all_goals first | exact absurd rfl h20 | simp
      · rw [upd_other D (by decide), d2] at h; cases h
      · rw [upd_other D (by decide), n17] at h; cases h
      · intro h; rw [upd_other D (by decide)] at h ⊢; exact s5 h
      · intro h; rw [upd_other D (by decide)] at h ⊢; exact s6 h
      · intro _; rw [upd_other D (by decide)]; exact d4
      · intro h; rw [upd_other D (by decide), n17] at h; cases h
      · intro _ _; exact ⟨by simp, hcell⟩
    · refine ghI_same fun D g w' hD hdp hS => ?_
      have d16 : D 16 = true := by simp [Region.binds] at hdp; simp_all
      obtain ⟨s1, s2, s3, s4, s5, s6, s7, s8, s9⟩ := hS
      obtain ⟨hg, hgc⟩ := s9 d16 hD
      have hone : Sl eB w'.heap.size w' (.slice (some ⟨g, 0, none⟩) 1 1) [j] := ⟨_, 1, rfl, Nat.le_refl _, fun _ => ⟨g, 0, rfl, hg, fun i y hy => by
        rcases i with _ | i
        · simp at hy; subst hy; exact hgc
        · simp at hy⟩⟩
      obtain ⟨fn, tmps, assign, body, hy, hR⟩ := hY [x] [j] _ w' (s3 (s5 (s6 (s7 d16))) hD) (hpx _ _ _) hone
      rw [hT g]
      clear hT
      go_simp
      refine (roundIn_room rfl hR).mono ?_
      rintro e W3 ⟨rfl, hJ3, hK3⟩
      have d2 := s5 (s6 (s7 d16))
      refine ⟨rfl, keep2_t s1 hK3, fun h => ?_, fun _ h => ?_, fun _ => hJ3, fun h => ?_, fun h => ?_, fun h => ?_, fun h => ?_, fun _ h => ?_⟩
      · rw [upd_other D (by decide), d2] at h; cases h
      · simp [upd] at h
      · rw [upd_other D (by decide)] at h ⊢; exact s5 h
      · rw [upd_other D (by decide)] at h ⊢; exact s6 h
      · rw [upd_other D (by decide)] at h ⊢; exact s7 h
      · rw [upd_other D (by decide)]; exact d16
      · simp [upd] at h
    · refine ghI_same fun D g w' hD hdp hS => ?_
      obtain ⟨k1, k2, kSx, kSf, kT⟩ := hk _ hS.1
      obtain ⟨kx, kf⟩ := hkc _ hS.1
      rw [hT g]
      clear hT
      go_simp
      exact hS.keep (by decide) (by decide) (by decide) (fun h => by cases h) (fun h => by cases h)
    · refine ghI_same fun D g w' hD hdp hS => ?_
      obtain ⟨k1, k2, kSx, kSf, kT⟩ := hk _ hS.1
      obtain ⟨kx, kf⟩ := hkc _ hS.1
      rw [hT g]
      clear hT
      go_simp
      exact hS.keep (by decide) (by decide) (by decide) (fun h => by cases h) (fun h => by cases h)
  case fin =>
    intro T hT D g w' hall hS
    have hTg := hT g
    simp only [putAll, Act.put, List.setIfInBounds_toArray, List.set_cons_zero, List.set_cons_succ] at hTg
    rw [hTg]
    clear hT hTg
    obtain ⟨hK, -, -, hJ, -⟩ := hS
    replace hJ := hJ (hall 17 (by decide))
    clear hkc hJu hpx hall
    gi_wp2_with fail
    have hrep : ∀ k, k < 3 → [x, [j]] ++ List.replicate k f ++ [f] <+: [x, [j], f, f, f] := fun k hk => by
      rcases (show k = 0 ∨ k = 1 ∨ k = 2 by omega) with rfl | rfl | rfl
      · exact ⟨[f, f], rfl⟩
      · exact ⟨[f], rfl⟩
      · exact ⟨[], rfl⟩
    gi_loopw [24] (fun i wr => ∃ k : Nat, k ≤ 3 ∧ i = .int .i64 k ∧ J ([x, [j]] ++ List.replicate k f) wr ∧ Keep2 N g1 g2 w0 wr) (fun i _ => 3 - (intOf i).toNat)
    case atStart => exact ⟨0, by omega, rfl, hJ, hK⟩
    case round =>
      obtain ⟨k, hk3, rfl, hJk, hKk⟩ := hrel
      by_cases hlt : k < 3
      · obtain ⟨k1, k2, kSx, kSf, kT⟩ := hk _ hKk
        obtain ⟨fn, tmps, assign, body, hy, hR⟩ := hY _ f _ wr hJk (hrep k hlt) kSf
        rw [List.append_assoc, ← List.replicate_succ'] at hR
        clear hrep hY hJk hJ hK hk
        gi_wp2_with fail
        refine (roundIn_room rfl hR).mono ?_
        clear hy hR
        rintro e W3 ⟨rfl, hJ3, hK3⟩
        gi_wp2_with fail
        refine ⟨⟨k + 1, by omega, by go_num, hJ3, keep2_t hKk hK3⟩, ?_⟩
        simp [intOf]
        omega
      · obtain rfl : k = 3 := by omega
        clear hY hk hrep
        gi_wp2_with fail
        go_end0
        exact ⟨⟨_, rfl⟩, by rw [Hjd.out]; exact hJk⟩
end Go.Proofs.YtnlndaknljbhcaaDoor
