/- Contract of gap.Rises. -/
import Derived.Test.YtmdpodgodhkjdaaDoorGpP
import Derived.Test.YtmdpodgodhkjdaaDoorGpE
import Derived.Deep.Onto
namespace Go.Proofs.YtmdpodgodhkjdaaDoor
open Go.RowKit Go.Shelf
attribute [local go_sem] Oper.semAt_some run_store_func

theorem Keep.less {B B0 g : Nat} {W W' : World} (h : Keep B g W W') (hB : B0 ≤ B) : Keep B0 g W W' := ⟨h.1, fun k hk hg => h.2 k (by omega) hg⟩
theorem fits_len {y : List UInt8} (h : fitsG y = none) : 1 ≤ y.length ∧ y.length ≤ 999 := by
  unfold fitsG at h
  split at h
  · cases h
  · omega
/-- The sums with c at each place. -/
def risesG (y : List UInt8) (c : UInt8) : Except Int (List Int) := match fitsG y with
  | some m => .error m
  | none => if codeOf c.toNat = -1 then .error 10 else .ok ((List.range (y.length + 1)).map (placesG y c))
theorem missing_no (y : List UInt8) (s m : Int) (hm : fitsG y = some m) (sv : Value) (w : World) (hT : Tab w) (hS : Sl eB w.heap.size w sv y) (hreach : y.length ≤ 1000000) :
    Calls Tryd.prog 35 #[sv, .int .i64 s] w fun e w' => e = .panicked (errno m) ∧ Below w.heap.size w w' :=
  (missing_any y s sv w hT hS hreach).mono (by
    rintro e w' ⟨hB, ⟨h, rfl⟩ | ⟨m', h, rfl⟩⟩
    · rw [hm] at h; cases h
    · rw [hm] at h; cases h; exact ⟨rfl, hB⟩)
theorem missing_yes (y : List UInt8) (s : Int) (hm : fitsG y = none) (sv : Value) (w : World) (hT : Tab w) (hS : Sl eB w.heap.size w sv y) (hreach : y.length ≤ 1000000) :
    Calls Tryd.prog 35 #[sv, .int .i64 s] w fun e w' => e = .returned (eB (missL y s)) ∧ Below w.heap.size w w' :=
  (missing_any y s sv w hT hS hreach).mono (by
    rintro e w' ⟨hB, ⟨h, rfl⟩ | ⟨m', h, rfl⟩⟩
    · exact ⟨rfl, hB⟩
    · rw [hm] at h; cases h)
/-- The places, of a row that the iterator holds. -/
theorem places_from (w2 : World) (s1 p1 g : Nat) (A : Option Addr) (cap : Nat) (y : List UInt8) (c : UInt8) (hn : y.length ≤ 999) (hp1 : s1 + 2 < p1) (hp2 : p1 < w2.heap.size)
    (k1 : w2.cell? ⟨p1, 0, none⟩ = some (.slice (some ⟨s1 + 2, 0, none⟩) y.length y.length)) (kr : ∀ i, i < y.length → w2.cell? ⟨s1 + 2, i, none⟩ = some (.bool (riseB y i))) (k2 : w2.cell? ⟨s1, 0, none⟩ = some (.slice A y.length cap)) (k3 : w2.cell? ⟨s1 + 1, 0, none⟩ = some (eB c))
    (hS : Sl eB w2.heap.size w2 (.slice A y.length cap) y) (hg : g < s1 ∨ w2.heap.size ≤ g) (hA : ∀ a, A = some a → a.block ≠ g) :
    SeqI Fence.wide Tryd.prog 59 #[.pointer (some ⟨p1, 0, none⟩), .pointer (some ⟨s1, 0, none⟩), .pointer (some ⟨s1 + 1, 0, none⟩)] (fun p : Nat => #[.int .i64 p, .int .i64 (placesG y c p)]) (Keep w2.heap.size g) (List.range (y.length + 1)) none w2 := by
  refine places_seq p1 s1 (s1 + 1) A cap _ y c hn w2 hp2 (by omega) (by omega) k1 ?_ k2 k3 hS g (by omega) (by omega) (by omega) ?_ hA
  · refine ⟨some ⟨s1 + 2, 0, none⟩, y.length, by simp, by simp, fun _ => ⟨s1 + 2, 0, rfl, by omega, fun i b hb => ?_⟩⟩
    have hi : i < y.length := by have := (List.getElem?_eq_some_iff.1 hb).1; simpa using this
    rw [Nat.zero_add, kr i hi]
    simp [hi] at hb
    rw [← hb]
  · rintro a n c' e
    injection e with e1 e2 e3
    cases e1
    show s1 + 2 ≠ g
    omega
theorem sl_block {B : Nat} {W : World} {A : Option Addr} {cap : Nat} {y : List UInt8} (h : Sl eB B W (.slice A y.length cap) y) (h0 : 0 < y.length) : ∀ a, A = some a → a.block < B := by
  intro a ha
  obtain ⟨A', c', e, _, hcs⟩ := h
  injection e with e1 e2 e3
  subst e1
  obtain ⟨b, off, e4, hb, _⟩ := hcs h0
  rw [e4] at ha
  cases ha
  exact hb
set_option maxRecDepth 100000 in
set_option maxHeartbeats 4000000 in
theorem Rises1_is (b1 b2 b3 B0 : Nat) (A : Option Addr) (cap : Nat) (y : List UInt8) (c : UInt8) (hreach : y.length ≤ 1000000) (W : World) (hT : Tab W) (hS : Sl eB B0 W (.slice A y.length cap) y) (hB0 : B0 ≤ b3) (l1 : b1 < W.heap.size) (l2 : b2 < W.heap.size) (h1 : W.cell? ⟨b1, 0, none⟩ = some (.slice A y.length cap)) (h2 : W.cell? ⟨b2, 0, none⟩ = some (eB c)) (h3 : Boxed W b3 27 (.slice none 0 0)) :
    gWork 39 #[.pointer (some ⟨b1, 0, none⟩), .pointer (some ⟨b2, 0, none⟩), .pointer (some ⟨b3, 0, none⟩)] b3 b3 W
      (fun w' => ∃ l, risesG y c = .ok l ∧ ∃ v, Boxed w' b3 27 v ∧ w'.ownsRow W.heap.size 3 1 v l.length (l.map eI)) (fun n w' => risesG y c = .error n ∧ Boxed w' b3 27 (.slice none 0 0)) := by
  unfold gWork
  obtain ⟨i0, hi, hz0, hz1, hz2⟩ := info_parts info_int
  have hl3 := h3.lt
  have hSW : Sl eB W.heap.size W (.slice A y.length cap) y := hS.more (by omega)
  cases hf : fitsG y with
  | some m =>
    have hM := missing_no y 0 m hf (.slice A y.length cap) W hT hSW hreach
    have Hg := Lib.hid (show risesG y c = .error m by rw [risesG, hf])
    clear hT hS hSW hf
    go_enter Tryd.func39, Tryd.ntmps39
    go_wp2_with fail
    go_at_call 35
    refine hM.mono ?_
    rintro e w1 ⟨rfl, hB⟩
    exact ⟨rfl, kp2_of hB, .inr ⟨m, rfl, Hg.out, (hB.block _ hl3).trans h3⟩⟩
  | none =>
    obtain ⟨hn1, hn9⟩ := fits_len hf
    have hM := missing_yes y 0 hf (.slice A y.length cap) W hT hSW hreach
    by_cases hk : codeOf c.toNat = -1
    · have hC := fun w hT => Code_any c w hT
      simp only [if_pos hk] at hC
      have Hg := Lib.hid (show risesG y c = .error 10 by rw [risesG, hf]; simp only [if_pos hk])
      clear hf hk hS hSW
      go_enter Tryd.func39, Tryd.ntmps39
      go_wp2_with fail
      go_at_call 35
      refine hM.mono ?_
      rintro e w1 ⟨rfl, hB⟩
      have c2 := (hB.cell (p := ⟨b2, 0, none⟩) l2).trans h2
      go_wp2_with fail
      go_at_call 40
      refine (hC _ (hT.below hB)).mono ?_
      rintro e w2 ⟨rfl, rfl⟩
      go_wp2_with fail
      exact ⟨rfl, kp2_of hB, .inr ⟨10, rfl, Hg.out, (hB.block _ hl3).trans h3⟩⟩
    · have hC := fun w hT => Code_any c w hT
      simp only [if_neg hk] at hC
      have Hg := Lib.hid (show risesG y c = .ok ((List.range (y.length + 1)).map (placesG y c)) by rw [risesG, hf]; simp only [if_neg hk])
      have hPl := fun w h => placesAt_any A cap y c hreach w h
      generalize codeOf c.toNat = kk at hC
      clear hf hk
      refine (callsIn_wide (n := 5)).1 ?_
      refine callsIn_of_wp_marks Tryd.func39 rfl trivial ?_ rfl
      simp only [Tryd.ntmps39, List.size_toArray, List.length_cons, List.length_nil, Nat.reduceAdd, Nat.reduceSub, Array.replicate_succ, Array.replicate_zero, List.push_toArray, List.append_toArray, List.nil_append, List.cons_append]
      gi_wp2_with fail
      refine ⟨trivial, ?_⟩
      gi_at_call 35
      refine (callsIn_wide.2 hM).mono ?_
      rintro e w1 ⟨rfl, hB⟩
      have c2 := (hB.cell (p := ⟨b2, 0, none⟩) l2).trans h2
      have c1 := (hB.cell (p := ⟨b1, 0, none⟩) l1).trans h1
      have hS1 := hSW.next hB
      gi_wp2_with fail
      refine ⟨trivial, ?_⟩
      gi_at_call 40
      refine (callsIn_wide.2 (hC _ (hT.below hB))).mono ?_
      rintro e w9 ⟨rfl, rfl⟩
      gi_wp2_with fail
      refine ⟨trivial, ?_⟩
      gi_at_call 41
      refine (callsIn_wide.2 (hPl _ hS1)).mono ?_
      rintro e w2 ⟨hB2, p1, rfl, g1, g2, g3, g4, g5, g6⟩
      have hs1 := hB.size
      have hs2 := hB2.size
      have hB02 := below_trans hB hB2
      have h3' : Boxed w2 b3 27 (.slice none 0 0) := (hB02.block b3 hl3).trans h3
      have hseq := places_from w2 w1.heap.size p1 b3 A cap y c hn9 g1 g2 g3 g4 g5 g6 (hS1.next hB2) (.inl (by omega)) (fun a ha => by have := sl_block hS (by omega) a ha; omega)
      clear g3 g4 g5 g6 hS hSW hS1 hM hC hPl
      gi_wp2_with fail
      refine wpIn_range_I (gf := 59) (lb := #[.pointer (some ⟨p1, 0, none⟩), .pointer (some ⟨w1.heap.size, 0, none⟩), .pointer (some ⟨w1.heap.size + 1, 0, none⟩)]) rfl rfl trivial rfl (enters_of Tryd.func59 (by kernel_rfl) rfl)
        hseq (fun _ _ _ => keep_t) (fun W' l o o' e1 e2 e3 => keep_put (Nat.le_refl _) W' l o o' e1 e2 e3) (Below.refl _ _) (fun _ => rfl)
        (fun (pre : List Nat) W' => (∃ v, Boxed W' b3 27 v ∧ W'.ownsRow w2.heap.size 3 1 v pre.length ((pre.map (placesG y c)).map eI) ∧ True) ∧ Keep w2.heap.size b3 w2 W')
        (fun _ _ => False)
        (OwnFrom.and (Own.from (holdsRow_own w2.heap.size b3 27 3 1 (fun (pre : List Nat) => pre.length) (fun (pre : List Nat) => (pre.map (placesG y c)).map eI) (fun _ _ => True)) _) (ownFrom_keep (Nat.le_refl _) (Nat.le_refl _)))
        ⟨⟨_, h3', ⟨rfl, .inl ⟨rfl, rfl⟩⟩, trivial⟩, keep_r _ _ _⟩
        (fun _ _ _ _ _ h => h.elim)
        ?act1 ?assign1 ?body1 ?done1 ?stop1 ?pan1
      case assign1 =>
        intro l x W' K hK
        gi_wp2
        exact hK
      case stop1 => rintro c D W' _ h _; exact h.elim
      case pan1 =>
        rintro ch D W' hf
        cases hf
      case body1 =>
        rintro l pre x W' ⟨⟨v, hv, hrow, -⟩, hK⟩ hpre
        have hc := hv.cell
        have hf := hv.frozen
        have hsz := keep_size hK
        have hpl : pre.length + 1 ≤ y.length + 1 := by
          have := hpre.length_le
          simpa using this
        have hm1 : pre.length + 1 ≤ maxLen := by unfold maxLen; omega
        generalize hG : placesG y c x = G at *
        gi_wp2_with
          (gi_at_builtin; refine wpListIn_append_own _ rfl _ _ 27 rfl w2.heap.size 3 i0 (.int .i64 0) 1 8 Tryd.underlying27 hi hz0 hz1 hz2 rfl (by decide) _ _ _ rfl (hrow.alloc _) ⟨W'.heap.size, 0, none⟩ 1 1 [eI G] rfl rfl (cell_one_new _ _ _) (by simp [Value.oneCell']) hm1 (by omega) (by simp; omega) ?_
           intro v' w2' hown' hgrow _
           obtain ⟨g', cap', rfl⟩ := ownsRow_succ hown'
           obtain ⟨hv1', hv2', hr2, hk2, hk3⟩ := appended_low hv (by decide) hrow hsz hown' hgrow
           have hc1 := hv1'.cell
           have hf1 := hv1'.frozen)
        exact ⟨hk2.from _, hk3, ⟨_, hv2', by simpa [hG] using hr2, trivial⟩, keep_t hK hk3⟩
      case done1 =>
        rintro - D W' hD ⟨⟨v, hv, hrow, -⟩, hK⟩ hk
        gi_wp2
        refine ⟨by simp, .inl ⟨_, _, rfl, run_takeDeferred hk, ?_⟩⟩
        have hKp := keep_put (g := b3) (Nat.le_refl _) W' D _ (.deferred none) hD hk rfl
        have hKx : Keep W.heap.size b3 W (W'.putObj D (.deferred none)) := keep_t (keep_of hB02) ((keep_t hK hKp).less hB02.size)
        refine ⟨_, results_none rfl _ _ _, kp2_keep hKx, .inl ⟨⟨_, rfl⟩, _, Hg.out, v, (World.putObj_heap_other (by omega)).trans hv, ?_⟩⟩
        simpa using (ownsRow_putObj hrow _ hk rfl).mono hB02.size
end Go.Proofs.YtmdpodgodhkjdaaDoor
