/- Contracts of poly.Deriv and Shift. -/
import Derived.Test.YtgidhkfmelpjfaaPoG
namespace Go.Proofs.Ytgidhkfmelpjfaa
open Go.RowKit Go.Shelf
attribute [local go_sem] Oper.semAt_some run_store_func

/-- The derivative's factors. -/
def dv (f : Nat → UInt8) : Nat → UInt8 := fun k => if k % 2 = 0 then f (k + 1) else 0
/-- One factor put where it belongs. -/
def updD (g f : Nat → UInt8) (n : Nat) : Nat → UInt8 := if n % 2 = 1 then fun k => if k = n - 1 then g n else f k else f
def accD {N : Nat} (g f : Nat → UInt8) (pre : List (Fin N)) : Nat → UInt8 := pre.foldl (fun f x => updD g f x.val) f
theorem accD_snoc {N : Nat} (g f : Nat → UInt8) (pre : List (Fin N)) (x : Fin N) : accD g f (pre ++ [x]) = updD g (accD g f pre) x.val := by simp [accD]
theorem accD_nz (q : List UInt8) (k : Nat) (hk : k ≤ q.length) (j : Nat) :
    accD (C q) (fun _ => 0) (nzS q k) j = if j % 2 = 0 ∧ j + 1 < k then C q (j + 1) else 0 := by
  induction k with
  | zero => simp [nzS, accD]
  | succ k ih =>
    have hlt : k < q.length := by omega
    have ih := ih (by omega)
    have e : nzS q (k + 1) = if q[k] = 0 then nzS q k else nzS q k ++ [⟨k, hlt⟩] := by simp only [nzS, dif_pos hlt]
    have hC := C_get q k hlt
    rw [e]
    by_cases hz : q[k] = 0
    · rw [if_pos hz, ih]
      by_cases hj : j + 1 = k
      · subst hj
        rw [if_neg (by omega), hC, hz]
        split <;> rfl
      · by_cases h2 : j % 2 = 0 ∧ j + 1 < k
        · rw [if_pos h2, if_pos (by omega)]
        · rw [if_neg h2, if_neg (by omega)]
    · rw [if_neg hz, accD_snoc]
      simp only [updD]
      by_cases ho : k % 2 = 1
      · rw [if_pos ho]
        by_cases hj : j = k - 1
        · subst hj
          rw [if_pos rfl, if_pos (by omega), show k - 1 + 1 = k by omega]
        · rw [if_neg hj, ih]
          by_cases h2 : j % 2 = 0 ∧ j + 1 < k
          · rw [if_pos h2, if_pos (by omega)]
          · rw [if_neg h2, if_neg (by omega)]
      · rw [if_neg ho, ih]
        by_cases h2 : j % 2 = 0 ∧ j + 1 < k
        · rw [if_pos h2, if_pos (by omega)]
        · rw [if_neg h2, if_neg (by omega)]
theorem accD_all (p : List UInt8) : accD (C p) (fun _ => 0) (nzS p p.length) = dv (C p) := by
  funext j
  rw [accD_nz p p.length (Nat.le_refl _)]
  simp only [dv]
  by_cases h : j % 2 = 0
  · rw [if_pos h]
    by_cases h2 : j + 1 < p.length
    · rw [if_pos ⟨h, h2⟩]
    · rw [if_neg (by omega), C_big p _ (by omega)]
  · rw [if_neg h, if_neg (by omega)]
theorem dv_big (p : List UInt8) : ∀ k, p.length ≤ k → dv (C p) k = 0 := fun k hk => by
  simp only [dv]
  split
  · exact C_big p _ (by omega)
  · rfl

set_option maxRecDepth 100000 in
set_option maxHeartbeats 2000000 in
theorem Deriv_any (pv : Value) (p : List UInt8) (hp : p.length ≤ 100000) (w : World) (hP : Sl eB w.heap.size w pv p) :
    Calls Try.prog 25 #[pv] w fun e w' => ∃ v, e = .returned v ∧ Own8 w.heap.size w' v (tr (dv (C p)) p.length) ∧ Below w.heap.size w w' := by
  refine (callsIn_wide (n := 5)).1 ?_
  obtain ⟨Ap, cp, rfl⟩ := hP.len
  have hmk := fun w => make_run p.length (by omega) (p.length : Int) (by omega) w
  have hfa := fun w => factors_any Ap p.length cp w
  refine callsIn_of_wp_marks Try.func25 rfl trivial ?_ rfl
  simp only [Try.ntmps25, List.size_toArray, List.length_cons, List.length_nil, Nat.reduceAdd, Nat.reduceSub, Array.replicate_succ, Array.replicate_zero, List.push_toArray, List.append_toArray, List.nil_append, List.cons_append]
  have hA1 := below_alloc w (.cells (cellsF (fun _ => 0) p.length) 5)
  have hA2 := below_alloc (w.alloc (.cells (cellsF (fun _ => 0) p.length) 5)) (.cells #[.slice (some ⟨w.heap.size, 0, none⟩) p.length p.length] 22)
  have hA := below_trans hA1 hA2
  have hR := (Rowed.new w 5 (cellsF (fun _ => 0) p.length)).alloc (.cells #[.slice (some ⟨w.heap.size, 0, none⟩) p.length p.length] 22)
  have hb := Boxed.new (w.alloc (.cells (cellsF (fun _ => 0) p.length) 5)) 22 (.slice (some ⟨w.heap.size, 0, none⟩) p.length p.length)
  rw [World.size_alloc] at hb
  have hA3 := below_alloc ((w.alloc (.cells (cellsF (fun _ => 0) p.length) 5)).alloc (.cells #[.slice (some ⟨w.heap.size, 0, none⟩) p.length p.length] 22)) (.cells #[.slice Ap p.length cp] 22)
  have hbf := Boxed.new ((w.alloc (.cells (cellsF (fun _ => 0) p.length) 5)).alloc (.cells #[.slice (some ⟨w.heap.size, 0, none⟩) p.length p.length] 22)) 22 (.slice Ap p.length cp)
  rw [World.size_alloc, World.size_alloc] at hbf
  have hb2 := hb.alloc (.cells #[.slice Ap p.length cp] 22)
  have hR2 := hR.alloc (.cells #[.slice Ap p.length cp] 22)
  have hBw2 := below_trans hA hA3
  have hP2 := hP.below hBw2
  have hsz2 : (((w.alloc (.cells (cellsF (fun _ => 0) p.length) 5)).alloc (.cells #[.slice (some ⟨w.heap.size, 0, none⟩) p.length p.length] 22)).alloc (.cells #[.slice Ap p.length cp] 22)).heap.size = w.heap.size + 3 := by simp
  clear hA1 hA2 hA3 hA hb hR
  gi_wp2_with (refine ⟨trivial, ?_⟩; gi_at_call 33; refine (callsIn_wide.2 (hfa _)).mono ?_; rintro e w' ⟨rfl, rfl⟩)
  clear hmk hfa
  generalize ((w.alloc (.cells (cellsF (fun _ => 0) p.length) 5)).alloc (.cells #[.slice (some ⟨w.heap.size, 0, none⟩) p.length p.length] 22)).alloc (.cells #[.slice Ap p.length cp] 22) = w2 at *
  refine wpIn_rangeFunc_ownG rfl (by decide) (gf := 41) (lb := #[.pointer (some ⟨w.heap.size + 1 + 1, 0, none⟩)]) rfl trivial (enters_of Try.func41 (by kernel_rfl) rfl)
    (factors_stops 3 (w.heap.size + 1 + 1) w.heap.size w2.heap.size w.heap.size _ p (by omega) w2 (by omega) (Nat.le_refl _) (by omega) hbf.cell hP2) keep_t (keep_b (Nat.le_refl _)) (Below.refl _ _) (fun _ => rfl)
    (fun (pre : List (Fin p.length)) W => (Rowed W w.heap.size 5 (cellsF (accD (C p) (fun _ => 0) pre) p.length) ∧ Boxed W (w.heap.size + 1) 22 (.slice (some ⟨w.heap.size, 0, none⟩) p.length p.length)) ∧ Below w.heap.size w W)
    (fun _ _ _ => False)
    (OwnFrom.and (OwnFrom.and (rowed_ownFrom w.heap.size 5 (fun (pre : List (Fin p.length)) => cellsF (accD (C p) (fun _ => 0) pre) p.length) _) (Own.from (boxed_own (w.heap.size + 1) 22 (fun (_ : List (Fin p.length)) => .slice (some ⟨w.heap.size, 0, none⟩) p.length p.length)) _)) (ownFrom_below (by omega) (by omega)))
    (fun _ _ _ _ _ hs _ _ => hs)
    ⟨⟨hR2, hb2⟩, hBw2⟩
    (fun x => { tmps := #[.slice Ap p.length cp, undef, .slice none 0 0, .pointer (some ⟨w.heap.size + 1, 0, none⟩), .int .i64 (x.val : Nat), eB p[x], .slice Ap p.length cp, .int .i64 p.length, .slice (some ⟨w.heap.size, 0, none⟩) p.length p.length, .slice Ap p.length cp, .func (.func 41) #[] #[.pointer (some ⟨w.heap.size + 1 + 1, 0, none⟩)], .int .i64 (x.val : Nat), eB p[x], undef, undef, undef, undef, undef, undef, undef, undef, undef, undef], defers := [] }) ?assign ?body ?done ?stop
  case assign =>
    intro l x W K hK
    gi_wp2
    first | exact hK | simpa using hK
  case body =>
    rintro l pre x W ⟨⟨hr, hv⟩, hB⟩ hlt
    have hc := hv.cell
    have hCz := C_get p x.val x.isLt
    change C p x.val = p[x] at hCz
    generalize p[x] = z at *
    have Hz := Lib.hid hCz
    clear hCz
    have Hacc := Lib.hid (accD_snoc (C p) (fun _ => 0) pre x)
    have htm : (x.val : Int) % 2 = ((x.val % 2 : Nat) : Int) := by omega
    by_cases hodd : x.val % 2 = 1
    · have hx1 : x.val - 1 < p.length := by have := x.isLt; omega
      have cg := hr.cell (x.val - 1)
      rw [cellsF_get _ p.length _ hx1] at cg
      have fg := hr.frozen (x.val - 1)
      have hset := hr.set (x.val - 1) (eB z)
      rw [cellsF_set] at hset
      have Hu := Lib.hid (show (fun k => if k = x.val - 1 then z else accD (C p) (fun _ => 0) pre k) = accD (C p) (fun _ => 0) (pre ++ [x]) by
        rw [Hacc.out, updD, if_pos hodd]
        funext k
        rw [Hz.out])
      rw [Hu.out] at hset
      have hvk := Boxed.kept hv (grownBy_setCellAt W w.heap.size (x.val - 1) (eB z)) (by simp)
      rw [hodd] at htm
      have hone : ((x.val : Int) % 2 == 1) = true := by rw [htm]; rfl
      have hsub : IntKind.i64.wrap ((x.val : Int) - 1) = ((x.val - 1 : Nat) : Int) := by
        have := x.isLt
        rw [IntWalk.i64_in _ (by omega)]; omega
      generalize x.val - 1 = y at *
      clear htm hodd hr Hacc Hu
      gi_wp2
      exact ⟨(KeepsOthers.setCell _ _ _).from _, keep_set _ _ _ _ _, ⟨hset, hvk⟩, hB.setCell (p := ⟨w.heap.size, y, none⟩) (Nat.le_refl _) _⟩
    · have h0 : x.val % 2 = 0 := by omega
      rw [h0] at htm
      have hone : ((x.val : Int) % 2 == 1) = false := by rw [htm]; rfl
      have Ha := Lib.hid (show accD (C p) (fun _ => 0) (pre ++ [x]) = accD (C p) (fun _ => 0) pre by rw [Hacc.out, updD, if_neg hodd])
      clear htm hodd Hacc h0
      gi_wp2
      exact ⟨(KeepsOthers.refl _).from _, keep_r _ _ _, ⟨by rw [Ha.out]; exact hr, hv⟩, hB⟩
  case done =>
    rintro D ys W hD rfl ⟨⟨hr, hv⟩, hB⟩ hK
    rw [accD_all p] at hr
    have hc := hv.cell
    have hDl := (Array.getElem?_eq_some_iff.1 hK).1
    have hSr := sl_cellsF hr W.heap.size hr.lt
    have htr := fun W hS => Trim_any (.slice (some ⟨w.heap.size, 0, none⟩) p.length p.length) ((List.range p.length).map fun k => dv (C p) k) (by simp; omega) W hS
    rw [C_range _ p.length (dv_big p), List.length_map, List.length_range] at htr
    gi_wp2_with fail
    refine ⟨trivial, ?_⟩
    gi_at_call 13
    refine (callsIn_wide.2 (htr _ hSr)).mono ?_
    rintro e w4 ⟨v4, rfl, hv4, hB4⟩
    have hK4 := (hB4.block D hDl).trans hK
    gi_wp2
    refine ⟨by simp, .inl ⟨_, _, rfl, run_takeDeferred hK4, ?_⟩⟩
    have hsW := hB.size
    exact ⟨_, results_tmp rfl _ _ _, v4, rfl, (hv4.put D _ hDl).mono (by omega), (hB.trans (hB4.mono hsW)).trans (belowK_b (w := w) (Nat.le_refl _) _ D _ _ (by omega) hK4 rfl rfl)⟩
  case stop =>
    rintro D c pre W hD hpre h hK
    exact h.elim
end Go.Proofs.Ytgidhkfmelpjfaa
