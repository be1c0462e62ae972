/- Contracts of consensus.columns, its iterator, and of slices.AppendSeq of bytes into a row that has room. (Seat s27.) -/
import Derived.Test.YtfkjheilcbppcaaCoJ
import Derived.OwnWalkIn
namespace Go.Proofs.Ytfkjheilcbppcaa
open Go.RowKit Go.Maps
attribute [local go_sem] Oper.semAt_some run_store_func

theorem info_u8 : (Try.prog.info? 5).map (fun i => (i.zero, i.size, i.bytes)) = some (some (.int .u8 0), 1, 1) := by kernel_rfl
theorem cell_one_new (w : World) (t : TypeId) (x : Value) : ∀ j u, [x][j]? = some u → (w.alloc (.cells #[x] t)).cell? ((⟨w.heap.size, 0, none⟩ : Addr).add j) = some u := by
  intro j u hu
  have hj : j = 0 := by
    have := (List.getElem?_eq_some_iff.1 hu).1
    simpa using this
  subst hj
  simp at hu
  subst hu
  simp [Addr.add]
theorem ownsRow_at {X Y : World} {base : Nat} {e : TypeId} {size g k cap : Nat} {xs : List Value} (h : X.ownsRow base e size (.slice (some ⟨g, 0, none⟩) k cap) k xs) (hk : Y.heap[g]? = X.heap[g]?) : Y.ownsRow base e size (.slice (some ⟨g, 0, none⟩) k cap) k xs := by
  refine ⟨h.1, ?_⟩
  rcases h.2 with ⟨h1, -⟩ | ⟨g', cap', cur, h1, h2, h3, h4⟩
  · cases h1
  · cases h1
    exact .inr ⟨_, _, cur, rfl, h2, hk.trans h3, h4⟩
theorem ownsRow_lt {X : World} {base : Nat} {e : TypeId} {size g k cap : Nat} {xs : List Value} (h : X.ownsRow base e size (.slice (some ⟨g, 0, none⟩) k cap) k xs) : g < X.heap.size := by
  rcases h.2 with ⟨h1, -⟩ | ⟨g', cap', cur, h1, h2, h3, h4⟩
  · cases h1
  · cases h1
    exact (Array.getElem?_eq_some_iff.1 h3).1
set_option maxRecDepth 100000 in
set_option maxHeartbeats 4000000 in
theorem AppendSeqF_any (gf : Nat) (lb : Array Value) (xs : List UInt8) (base g cap : Nat) (hcap : xs.length ≤ cap) (w : World) (hen : ∀ args w, (callFunc gf args).run Try.prog w = .ok (.enter gf args) w)
    (hown : w.ownsRow base 5 1 (.slice (some ⟨g, 0, none⟩) 0 cap) 0 [])
    (hseq : ∀ W, Below w.heap.size w W → W.heap.size = w.heap.size + 1 → SeqI Fence.wide Try.prog gf lb (fun x : UInt8 => #[eB x]) (Keep w.heap.size g) xs none W) :
    Calls Try.prog 24 #[.slice (some ⟨g, 0, none⟩) 0 cap, .func (.func gf) #[] lb] w fun e w' => e = .returned (.slice (some ⟨g, 0, none⟩) xs.length cap) ∧ w'.ownsRow base 5 1 (.slice (some ⟨g, 0, none⟩) xs.length cap) xs.length (xs.map eB) ∧ Keep w.heap.size g w w' := by
  refine (callsIn_wide (n := 5)).1 ?_
  obtain ⟨i0, hi, hz0, hz1, hz2⟩ := info_parts info_u8
  refine callsIn_of_wp_marks Try.func24 rfl trivial ?_ rfl
  simp only [Try.ntmps24, List.size_toArray, List.length_cons, List.length_nil, Nat.reduceAdd, Nat.reduceSub, Array.replicate_succ, Array.replicate_zero, List.push_toArray, List.append_toArray, List.nil_append, List.cons_append]
  have hg := ownsRow_lt hown
  have hA := (Below.refl w.heap.size w).alloc (Nat.le_refl _) (.cells #[.slice (some ⟨g, 0, none⟩) 0 cap] 23)
  have hb0 := Boxed.new w 23 (.slice (some ⟨g, 0, none⟩) 0 cap)
  have hsz := World.size_alloc w (.cells #[.slice (some ⟨g, 0, none⟩) 0 cap] 23)
  have ho0 := ownsRow_at hown (hA.block g hg)
  gi_wp2_with fail
  generalize w.alloc (.cells #[.slice (some ⟨g, 0, none⟩) 0 cap] 23) = w0 at *
  refine wpIn_range_I (gf := gf) (lb := lb) rfl rfl trivial rfl hen (hseq w0 hA hsz) (fun _ _ _ => keep_t) (fun W l o o' h1 h2 h3 => keep_put (by omega) W l o o' h1 h2 h3) (Below.refl _ _) (fun _ => rfl)
    (fun (pre : List UInt8) W => Boxed W w.heap.size 23 (.slice (some ⟨g, 0, none⟩) pre.length cap) ∧ W.ownsRow base 5 1 (.slice (some ⟨g, 0, none⟩) pre.length cap) pre.length (pre.map eB) ∧ Keep w.heap.size g w W)
    (fun _ _ => False)
    ?own ⟨hb0, ho0, keep_of hA⟩ (fun _ _ _ _ _ h => h.elim) ?act1 ?assign1 ?body1 ?done1 ?stop1 ?pan1
  case own =>
    rintro s X Y row ⟨h1, h2, h3⟩ hgr hrow
    have hne : ∀ k, k < w0.heap.size → some k ≠ row := fun k hk e => by have := (hrow k e.symm).1; omega
    exact ⟨h1.kept hgr (hne _ (by omega)), ownsRow_at h2 (hgr.block g (ownsRow_lt h2) (hne _ (by omega))), ownFrom_keep (β := Unit) (Nat.le_refl _) (by omega) () X Y row h3 hgr hrow⟩
  case assign1 =>
    intro l x W' K hK
    gi_wp2
    exact hK
  case stop1 => rintro c D W' _ h _; exact h.elim
  case pan1 => rintro ch D W' hf; cases hf
  case body1 =>
    rintro l pre x W ⟨h1, h2, h3⟩ hpre
    have hc := h1.cell
    have hf := h1.frozen
    have hsz3 := keep_size h3
    have hpl : pre.length + 1 ≤ cap := by
      have := hpre.length_le
      rw [List.length_append, List.length_singleton] at this
      omega
    have hga := ownsRow_at h2 (Below.heap_alloc W (.cells #[eB x] 5) g (ownsRow_lt h2))
    gi_wp2_with
      (gi_at_builtin; refine wpListIn_append_fits _ rfl _ _ 23 rfl base 5 i0 1 Try.underlying23 hi hz1 g pre.length cap (pre.map eB) rfl hga ⟨W.heap.size, 0, none⟩ 1 1 [eB x] rfl rfl (cell_one_new _ _ _) (by simp [Value.oneCell']) hpl ?_
       intro w2 hown' hgrow
       have hb2 := (h1.alloc (.cells #[eB x] 5)).kept hgrow (by simp; omega)
       have hc2 := hb2.cell
       have hf2 := hb2.frozen)
    have hal : Below W.heap.size W (W.alloc (.cells #[eB x] 5)) := (Below.refl _ W).alloc (Nat.le_refl _) _
    have hsa := World.size_alloc W (.cells #[eB x] 5)
    have hk1 : Keep w.heap.size g W w2 := keep_t (keep_of (hal.mono hsz3)) ⟨⟨hgrow.os, hgrow.tape, hgrow.output, hgrow.size⟩, fun k hk hne => hgrow.block k (by omega) (by simp; omega)⟩
    have hk2 := keep_t hk1 (keep_set' (g := g) 0 (.slice (some ⟨g, 0, none⟩) (pre.length + 1) cap) (Nat.le_refl w.heap.size))
    refine ⟨⟨?_, fun k o hk ho hcs => ?_⟩, hk2, ?_, ?_, keep_t h3 hk2⟩
    · exact Nat.le_trans (Nat.le_trans (by omega) hgrow.size) (KeepsWalks.setCell w2 _ _).size
    · have hlt := (Array.getElem?_eq_some_iff.1 ho).1
      exact (Below.heap_setCell w2 ⟨w.heap.size, 0, none⟩ _ k (show k ≠ w.heap.size by omega)).trans ((hgrow.block k (by omega) (by simp; omega)).trans ((Below.heap_alloc W _ k hlt).trans ho))
    · have := hb2.set (.slice (some ⟨g, 0, none⟩) (pre.length + 1) cap)
      simpa using this
    · have := ownsRow_at hown' (Below.heap_setCell w2 ⟨w.heap.size, 0, none⟩ (.slice (some ⟨g, 0, none⟩) (pre.length + 1) cap) g (show g ≠ w.heap.size by omega))
      simpa using this
  case done1 =>
    rintro - D W hD ⟨h1, h2, h3⟩ hk
    have hc := h1.cell
    gi_wp2
    refine ⟨by simp, .inl ⟨_, _, rfl, run_takeDeferred hk, ?_⟩⟩
    exact ⟨_, results_tmp rfl _ _ _, rfl, ownsRow_at h2 (World.putObj_heap_other (by omega)), keep_t h3 (keep_put (w := w0) (by omega) _ D _ _ hD hk rfl)⟩
end Go.Proofs.Ytfkjheilcbppcaa
