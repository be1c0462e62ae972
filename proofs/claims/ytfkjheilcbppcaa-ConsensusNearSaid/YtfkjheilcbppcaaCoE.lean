/- Contract of consensus.most, of bytes. (Seat s27.) -/
import Derived.Test.YtfkjheilcbppcaaCoD
import Derived.Test.YtfkjheilcbppcaaGHI
namespace Go.Proofs.Ytfkjheilcbppcaa
open Go.RowKit Go.Shelf
attribute [local go_sem] Oper.semAt_some run_store_func

theorem run_loadVar_plain {P : Program} (w : World) (ty : TypeId) (d : TypeDesc) (v : Value) (b : Nat) (hu : P.underlying ty = some d) (hd : (match d with | .struct _ | .array _ _ => true | _ => false) = false) (hc : Boxed w b ty v) :
    (loadVar ty ⟨b, 0, none⟩).run P w = .ok v w := by
  have h := hc.cell
  have hagg : (isAgg ty).run P w = .ok false w := by
    unfold isAgg
    rw [Sem.run_bind, run_underlying hu w]
    cases d <;> simp_all
  simp [loadVar, Sem.run_bind, hagg, h]
theorem results_cell3 {P : Program} {fn : Func} {p q r : Tmp} {t1 t2 t3 : TypeId} (h : fn.results = #[.cell p t1, .cell q t2, .cell r t3]) (tmps : Array Value) (w : World) (b1 b2 b3 : Nat) (v1 v2 v3 : Value) (d1 d2 d3 : TypeDesc)
    (hp : tmps.getD p undef = .pointer (some ⟨b1, 0, none⟩)) (hq : tmps.getD q undef = .pointer (some ⟨b2, 0, none⟩)) (hr : tmps.getD r undef = .pointer (some ⟨b3, 0, none⟩)) (c1 : Boxed w b1 t1 v1) (c2 : Boxed w b2 t2 v2) (c3 : Boxed w b3 t3 v3)
    (u1 : P.underlying t1 = some d1) (u2 : P.underlying t2 = some d2) (u3 : P.underlying t3 = some d3) (e1 : (match d1 with | .struct _ | .array _ _ => true | _ => false) = false) (e2 : (match d2 with | .struct _ | .array _ _ => true | _ => false) = false) (e3 : (match d3 with | .struct _ | .array _ _ => true | _ => false) = false) :
    (results fn tmps).run P w = .ok (.tuple #[v1, v2, v3]) w := by
  have hp' : tmps[p]?.getD undef = .pointer (some ⟨b1, 0, none⟩) := by simpa using hp
  have hq' : tmps[q]?.getD undef = .pointer (some ⟨b2, 0, none⟩) := by simpa using hq
  have hr' : tmps[r]?.getD undef = .pointer (some ⟨b3, 0, none⟩) := by simpa using hr
  simp [results, h, hp', hq', hr', asAddr, run_loadVar_plain w t1 d1 v1 b1 u1 e1 c1, run_loadVar_plain w t2 d2 v2 b2 u2 e2 c2, run_loadVar_plain w t3 d3 v3 b3 u3 e3 c3, Result.andThen]
theorem keepsFrom_r (B : Nat) (W : World) : KeepsFrom B W W := ⟨Nat.le_refl _, fun _ _ _ h _ => h⟩
theorem keepsFrom_set1 {B : Nat} {X W : World} (h : KeepsFrom B X W) (b j : Nat) (v : Value) (hb : b < B) : KeepsFrom B X (W.setCell ⟨b, j, none⟩ v) :=
  ⟨Nat.le_trans h.size (KeepsWalks.setCell W _ v).size, fun k o hk ho hc => (Below.heap_setCell W ⟨b, j, none⟩ v k (show k ≠ b by omega)).trans (h.same k o hk ho hc)⟩
/-- What a round of most leaves alone: all but its own three variables, which lie at B. -/
def Kp3 (B : Nat) (X Y : World) : Prop := Below B X Y ∧ ∀ k o, B + 3 ≤ k → X.heap[k]? = some o → o.isCells = true → Y.heap[k]? = some o
theorem kp3_t {B : Nat} (X Y Z : World) (h : Kp3 B X Y) (h' : Kp3 B Y Z) : Kp3 B X Z := ⟨h.1.trans h'.1, fun k o hk ho hc => h'.2 k o hk (h.2 k o hk ho hc) hc⟩
theorem kp3_r (B : Nat) (X : World) : Kp3 B X X := ⟨Below.refl _ _, fun _ _ _ h _ => h⟩
theorem kp3_put {B D : Nat} (hD : B ≤ D) (W : World) (l : Nat) (o o' : Obj) (hl : D ≤ l) (h : W.heap[l]? = some o) (hc : o.isCells = false) : Kp3 B W (W.putObj l o') :=
  ⟨⟨rfl, rfl, rfl, by simp [World.putObj], fun k hk => World.putObj_heap_other (by omega)⟩, fun k o1 _ ho hc1 => by
    by_cases e : k = l
    · subst e
      rw [h] at ho
      cases ho
      rw [hc] at hc1
      cases hc1
    · exact (World.putObj_heap_other e).trans ho⟩
theorem kp3_set {B : Nat} {X W : World} (h : Kp3 B X W) (b j : Nat) (v : Value) (h1 : B ≤ b) (h2 : b < B + 3) : Kp3 B X (W.setCell ⟨b, j, none⟩ v) :=
  ⟨h.1.setCell (p := ⟨b, j, none⟩) h1 v, fun k o hk ho hc => (Below.heap_setCell W ⟨b, j, none⟩ v k (show k ≠ b by omega)).trans (h.2 k o hk ho hc)⟩
set_option maxRecDepth 100000 in
set_option maxHeartbeats 4000000 in
theorem MostB_any (gf : Nat) (lb : Array Value) (xs : List (Nat × Nat)) (w : World) (hen : ∀ args w, (callFunc gf args).run Try.prog w = .ok (.enter gf args) w)
    (hseq : ∀ W, Below w.heap.size w W → W.heap.size = w.heap.size + 3 → SeqI Fence.wide Try.prog gf lb letE (Kp3 w.heap.size) xs none W) :
    Calls Try.prog 21 #[.func (.func gf) #[] lb] w fun e w' => e = .returned (.tuple #[.int .u8 (mostF xs (0, 0)).1, .int .i64 (mostF xs (0, 0)).2, .bool (decide (0 < (mostF xs (0, 0)).2))]) ∧ Below w.heap.size w w' := by
  refine (callsIn_wide (n := 5)).1 ?_
  refine callsIn_of_wp_marks Try.func21 rfl trivial ?_ rfl
  simp only [Try.ntmps21, List.size_toArray, List.length_cons, List.length_nil, Nat.reduceAdd, Nat.reduceSub, Array.replicate_succ, Array.replicate_zero, List.push_toArray, List.append_toArray, List.nil_append, List.cons_append]
  have hb1 := ((Boxed.new w 5 (.int .u8 0)).alloc (.cells #[.int .i64 0] 3)).alloc (.cells #[.bool false] 4)
  have hb2 := (Boxed.new (w.alloc (.cells #[.int .u8 0] 5)) 3 (.int .i64 0)).alloc (.cells #[.bool false] 4)
  have hb3 := Boxed.new ((w.alloc (.cells #[.int .u8 0] 5)).alloc (.cells #[.int .i64 0] 3)) 4 (.bool false)
  rw [World.size_alloc] at hb2
  rw [World.size_alloc, World.size_alloc] at hb3
  have hA : Below w.heap.size w (((w.alloc (.cells #[.int .u8 0] 5)).alloc (.cells #[.int .i64 0] 3)).alloc (.cells #[.bool false] 4)) := (((Below.refl _ w).alloc (Nat.le_refl _) _).alloc (by simp) _).alloc (by simp; omega) _
  have hsz : (((w.alloc (.cells #[.int .u8 0] 5)).alloc (.cells #[.int .i64 0] 3)).alloc (.cells #[.bool false] 4)).heap.size = w.heap.size + 3 := by simp
  gi_wp2_with fail
  generalize ((w.alloc (.cells #[.int .u8 0] 5)).alloc (.cells #[.int .i64 0] 3)).alloc (.cells #[.bool false] 4) = w3 at *
  refine wpIn_range_I (gf := gf) (lb := lb) rfl rfl trivial rfl hen (hseq w3 hA hsz) kp3_t (kp3_put (by omega)) (Below.refl _ _) (fun _ => rfl)
    (fun (pre : List (Nat × Nat)) W => Boxed W w.heap.size 5 (.int .u8 (mostF pre (0, 0)).1) ∧ Boxed W (w.heap.size + 1) 3 (.int .i64 (mostF pre (0, 0)).2) ∧ Boxed W (w.heap.size + 2) 4 (.bool (decide (0 < (mostF pre (0, 0)).2))) ∧ Below w.heap.size w W)
    (fun _ _ => False)
    ?own ⟨hb1, hb2, hb3, hA⟩ (fun _ _ _ _ _ h => h.elim) ?act1 ?assign1 ?body1 ?done1 ?stop1 ?pan1
  case own =>
    rintro s X Y row ⟨h1, h2, h3, h4⟩ hgr hrow
    have hne : ∀ k, k < w3.heap.size → some k ≠ row := fun k hk e => by have := (hrow k e.symm).1; omega
    refine ⟨h1.kept hgr (hne _ (by omega)), h2.kept hgr (hne _ (by omega)), h3.kept hgr (hne _ (by omega)), ownFrom_below (β := Unit) (Nat.le_refl _) (by omega) () X Y row h4 hgr hrow⟩
  case assign1 =>
    intro l x W' K hK
    simp only [letE]
    gi_wp2
    exact hK
  case stop1 => rintro c D W' _ h _; exact h.elim
  case pan1 => rintro ch D W' hf; cases hf
  case body1 =>
    rintro l pre ⟨x, n⟩ W ⟨h1, h2, h3, h4⟩ hpre
    have c2 := h2.cell
    have f1 := h1.frozen
    have f2 := h2.frozen
    have f3 := h3.frozen
    have d1 := h1.cell
    have d3 := h3.cell
    have hm := mostF_snoc pre (x, n) (0, 0)
    by_cases hlt : (mostF pre (0, 0)).2 < n
    · have hd := decide_eq_true (show ((mostF pre (0, 0)).2 : Int) < (n : Int) by omega)
      rw [if_pos hlt] at hm
      have Hm := Lib.hid hm
      generalize mostF pre (0, 0) = M at *
      clear hm
      gi_wp2_with fail
      have hMl : 0 < M.2 ∨ ¬ 0 < M.2 := by omega
      refine ⟨keepsFrom_set1 (keepsFrom_set1 (keepsFrom_set1 (keepsFrom_r _ _) _ 0 _ (by omega)) _ 0 _ (by omega)) _ 0 _ (by omega), ?_, ?_⟩
      · exact kp3_set (kp3_set (kp3_set (kp3_r _ _) _ 0 _ (by omega) (by omega)) _ 0 _ (by omega) (by omega)) _ 0 _ (by omega) (by omega)
      · dsimp only
        rw [Hm.out]
        refine ⟨((h1.set _).other (by omega) _).other (by omega) _, ((h2.other (by omega) _).set _).other (by omega) _, ?_, ((h4.setCell (p := ⟨w.heap.size, 0, none⟩) (Nat.le_refl _) _).setCell (p := ⟨w.heap.size + 1, 0, none⟩) (by simp) _).setCell (p := ⟨w.heap.size + 2, 0, none⟩) (by simp) _⟩
        have := (((h3.other (show w.heap.size + 2 ≠ w.heap.size by omega) (.int .u8 x)).other (show w.heap.size + 2 ≠ w.heap.size + 1 by omega) (.int .i64 n)).set (.bool true))
        rw [decide_eq_true (show 0 < (x, n).2 by show 0 < n; omega)]
        exact this
    · have hd := decide_eq_false (show ¬ ((mostF pre (0, 0)).2 : Int) < (n : Int) by omega)
      rw [if_neg hlt] at hm
      have Hm := Lib.hid hm
      generalize mostF pre (0, 0) = M at *
      clear hm
      gi_wp2_with fail
      refine ⟨keepsFrom_r _ _, kp3_r _ _, ?_⟩
      dsimp only
      rw [Hm.out]
      exact ⟨h1, h2, h3, h4⟩
  case done1 =>
    rintro - D W hD ⟨h1, h2, h3, h4⟩ hk
    have d1 := h1.cell
    have d2 := h2.cell
    have d3 := h3.cell
    have f1 := h1.frozen
    have f2 := h2.frozen
    have f3 := h3.frozen
    have Hp := Lib.hid (And.intro h1 (And.intro h2 h3))
    generalize hM : mostF xs (0, 0) = M at *
    clear h1 h2 h3 d1 d2 d3 f1 f2 f3
    gi_wp2_with fail
    refine wpIn_region_ghost (G := Unit) (fun _ _ W' => Boxed W' w.heap.size 5 (.int .u8 M.1) ∧ Boxed W' (w.heap.size + 1) 3 (.int .i64 M.2) ∧ Boxed W' (w.heap.size + 2) 4 (.bool (decide (0 < M.2))) ∧ Below w.heap.size w W' ∧ W'.heap[D]? = some (.deferred (some []))) (fun _ => [(15, .int .u8 M.1), (16, .int .i64 M.2), (17, .bool (decide (0 < M.2)))]) ()
      (by kernel_rfl) (by kernel_rfl) (by kernel_rfl) (by kernel_rfl) (fun _ => by kernel_rfl) ?start ?ok ?fin
    case start =>
      intro D' hD'
      exact ⟨Hp.out.1, Hp.out.2.1, Hp.out.2.2, h4.trans ⟨rfl, rfl, rfl, Nat.le_refl _, fun _ _ => rfl⟩, hk⟩
    case ok =>
      intro T hT
      simp only [putAll, Act.put, List.setIfInBounds_toArray, List.set_cons_zero, List.set_cons_succ] at hT
      simp only [ghAllI]
      clear Hp h4 hk
      refine ⟨?_, ?_, ?_, ?_, ?_, ?_, trivial⟩
      all_goals
        refine ghI_same fun D' g w' hD' hdp hS => ?_
        obtain ⟨h1, h2, h3, h4, h5⟩ := hS
        have d1 := h1.cell
        have d2 := h2.cell
        have d3 := h3.cell
        have f1 := h1.frozen
        have f2 := h2.frozen
        have f3 := h3.frozen
        rw [hT g]
        clear hT hseq
      · go_simp
      · go_simp
      · go_simp
      · go_simp
        exact ⟨h1.set _, h2.other (by omega) _, h3.other (by omega) _, h4.setCell (p := ⟨w.heap.size, 0, none⟩) (Nat.le_refl _) _, (Below.heap_setCell w' ⟨w.heap.size, 0, none⟩ _ D (show D ≠ w.heap.size by omega)).trans h5⟩
      · go_simp
        exact ⟨h1.other (by omega) _, h2.set _, h3.other (by omega) _, h4.setCell (p := ⟨w.heap.size + 1, 0, none⟩) (by simp) _, (Below.heap_setCell w' ⟨w.heap.size + 1, 0, none⟩ _ D (show D ≠ w.heap.size + 1 by omega)).trans h5⟩
      · go_simp
        exact ⟨h1.other (by omega) _, h2.other (by omega) _, h3.set _, h4.setCell (p := ⟨w.heap.size + 2, 0, none⟩) (by simp) _, (Below.heap_setCell w' ⟨w.heap.size + 2, 0, none⟩ _ D (show D ≠ w.heap.size + 2 by omega)).trans h5⟩
    case fin =>
      rintro T hT D' g W2 hD2 ⟨h1, h2, h3, h4, h5⟩
      rw [hT g]
      simp only [putAll, Act.put, List.setIfInBounds_toArray, List.set_cons_zero, List.set_cons_succ]
      clear hT Hp hseq
      gi_wp2_with fail
      refine ⟨by simp, .inl ⟨_, _, rfl, run_takeDeferred h5, ?_⟩⟩
      have hp := fun (b : Nat) (hb : b ≠ D) => (World.putObj_heap_other hb : (W2.putObj D (.deferred none)).heap[b]? = W2.heap[b]?)
      exact ⟨_, results_cell3 rfl _ _ w.heap.size (w.heap.size + 1) (w.heap.size + 2) _ _ _ _ _ _ rfl rfl rfl ((hp _ (by omega)).trans h1) ((hp _ (by omega)).trans h2) ((hp _ (by omega)).trans h3) Try.underlying5 Try.underlying3 Try.underlying4 rfl rfl rfl, by rw [hM], h4.trans (belowK_b (w := w) (Nat.le_refl _) _ D _ _ (by omega) h5 rfl rfl)⟩
end Go.Proofs.Ytfkjheilcbppcaa
