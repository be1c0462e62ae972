/- Contract of slices.Insert of one byte ahead of the last, with room. -/
import Derived.Test.YtmdpodgodhkjdaaDoorGpT
namespace Go.Proofs.YtmdpodgodhkjdaaDoor
open Go.RowKit Go.Shelf
attribute [local go_sem] Oper.semAt_some run_store_func

/-- A copy within a row, as one step of a drawing region: what lies elsewhere stays. -/
theorem step_copy_else {P : Program} {ops : Array Oper} {o : Oper} {a : Act} {w : World} {K : Act → World → Prop} {Q : Exit → Act → World → Prop} {E : Prop} (hgd : o.guard = none) (d s : Operand) (dT sT : TypeId)
    (ho : o.op = .call { callee := .builtin .copy, args := #[d, s], argTypes := #[dT, sT] }) (elem : TypeId) (hu : P.underlying dT = some (.slice elem)) (hsz : (P.info? elem).map (·.size) = some 1)
    (g off : Nat) (ad : Addr) (dLen dCap sLen sCap : Nat) (hd : a.eval d = .slice (some ⟨g, off, none⟩) dLen dCap) (hs : a.eval s = .slice (some ad) sLen sCap)
    (cur : List Value) (t : TypeId) (hg : w.heap[g]? = some (.cells cur.toArray t (0, 0))) (cs : List Value) (hn : cs.length = Nat.min sLen dLen)
    (hsrc : ∀ j v, cs[j]? = some v → w.cell? (ad.add j) = some v)
    (hfit : off + cs.length ≤ cur.length) (h1 : ∀ v ∈ cs, v.oneCell' = true) (B : Nat) (w0 : World) (hb : Below B w0 w) (hBg : B ≤ g)
    (h : ∀ w', Hid (w'.heap[g]? = some (.cells (splice cur off cs).toArray t (0, 0))) → Hid (∀ k, k ≠ g → w'.heap[k]? = w.heap[k]?) → Below B w0 w' → K (a.put o.dst (goInt cs.length)) w') :
    if Region.wanted o (yielded ops a.tmps) = true then Oper.wp P o a w K Q else E := by
  have hw : Region.wanted o (yielded ops a.tmps) = true := by simp [Region.wanted, hgd]
  rw [if_pos hw]
  have hrun := run_copy_row (P := P) w dT sT o.type elem g off dLen dCap ad sLen sCap cur.toArray t cs hu hsz hg hn hsrc (by simpa using hfit) h1
  unfold Oper.wp
  simp [execOp, ho, resolve, invoke, builtin, hd, hs, hrun, Result.andThen]
  exact h _ (Lib.hid (show _ = _ by simpa [splice] using setRow_heap w g _ _ t _ hg)) (Lib.hid fun k hk => setRow_other w g k _ hk) (Go.below_setRow hb hBg _)
set_option maxRecDepth 100000 in
set_option maxHeartbeats 4000000 in
theorem insert_shift (x : List UInt8) (i : Nat) (c : UInt8) (hi : i < x.length) (hreach : x.length ≤ 1000000) (base : Nat) (g b cap : Nat) (L : List Value) (w : World) (hbg : base ≤ g) (hg : w.heap[g]? = some (.cells L.toArray 5 (0, 0))) (hL : L.length = cap) (hcm : cap ≤ maxLen) (hroom : x.length + 1 ≤ cap) (htk : L.take x.length = x.map eB) (hbx : Boxed w b 5 (eB c)) (hgb : g ≠ b) :
    Calls Tryd.prog 60 #[.slice (some ⟨g, 0, none⟩) x.length cap, .int .i64 i, .slice (some ⟨b, 0, none⟩) 1 1] w fun e w' => ∃ v', e = .returned v' ∧ Own8 base w' v' (insW x i c) ∧ Below base w w' := by
  obtain ⟨i0, hi0, hz0, hz1, hz2⟩ := info_parts info_u8
  have hsz : (Tryd.prog.info? 5).map (·.size) = some 1 := by rw [hi0]; simp [hz1]
  have hzs : ∀ w, (Go.sizeOf 5).run Tryd.prog w = .ok 1 w := fun w => by kernel_rfl
  have hg' : Rowed w g 5 L.toArray := hg
  have hgd : w.drew.heap[g]? = some (.cells L.toArray 5 (0, 0)) := hg
  have hgl : g < w.heap.size := hg'.lt
  have hbl := hbx.lt
  have hov : ∀ lb cb, (callFunc 69 #[.slice (some ⟨b, 0, none⟩) 1 1, .slice (some ⟨g, i + 1, none⟩) lb cb]).run Tryd.prog w = .ok (.value (.bool false)) w := fun lb cb => by
    rw [run_callFunc_extern Tryd.func69 (by kernel_rfl) (by kernel_rfl) (by kernel_rfl) (e := Extern.SlicesOverlaps.overlaps #[22, 22] #[4]) (by kernel_rfl),
      Lib.run_overlaps_apart w 22 4 5 Tryd.underlying22 1 hzs ⟨b, 0, none⟩ ⟨g, i + 1, none⟩ 1 1 lb cb (fun e => hgb e.symm) 5 5 1 cap (by show w.shape? b = _; simp [World.shape?, show w.heap[b]? = _ from hbx]) (by show w.shape? g = _; simp [World.shape?, hg, hL]) (by omega) hbx.frozen (by simp [World.frozen?, show w.heap[b]? = _ from hbx])]
    rfl
  have hcell : ∀ j v, (x.map eB)[j]? = some v → w.drew.cell? ⟨g, j, none⟩ = some v := fun j v h => by
    rw [← htk, List.getElem?_take] at h
    split at h
    · show w.cell? _ = _
      rw [hg'.cell j]
      simpa using h
    · cases h
  have hn : (x.map eB).length = x.length := by simp
  have hdl : ((x.map eB).drop i).length = x.length - i := by rw [List.length_drop, hn]
  have HA1 := Lib.hid (show ((x.map eB).drop i).length = Nat.min (x.length + 1 - i) (x.length + 1 - (i + 1)) by rw [hdl]; show x.length - i = min (x.length + 1 - i) (x.length + 1 - (i + 1)); omega)
  have HA2 := Lib.hid (show i + 1 + ((x.map eB).drop i).length ≤ L.length by rw [hdl]; omega)
  have HA3 := Lib.hid (show ∀ v ∈ (x.map eB).drop i, v.oneCell' = true from fun v hv => by obtain ⟨u, _, rfl⟩ := List.mem_map.1 (List.mem_of_mem_drop hv); rfl)
  have HA4 := Lib.hid (show ∀ (j : Nat) (v : Value), ((x.map eB).drop i)[j]? = some v → w.drew.cell? ((⟨g, i, none⟩ : Addr).add j) = some v from fun j v hj => by
    rw [add_off]
    refine hcell _ v ?_
    rwa [List.getElem?_drop] at hj)
  obtain ⟨L1, hL1⟩ : ∃ L1, L1 = splice L (i + 1) ((x.map eB).drop i) := ⟨_, rfl⟩
  have hL1l : L1.length = cap := by rw [hL1, length_splice _ _ _ HA2.out, hL]
  have HB1 := Lib.hid (show ([eB c] : List Value).length = Nat.min 1 (x.length + 1 - i) by show 1 = min 1 (x.length + 1 - i); omega)
  have HB2 := Lib.hid (show i + ([eB c] : List Value).length ≤ L1.length by rw [hL1l]; simp; omega)
  have HB3 := Lib.hid (show ∀ v ∈ ([eB c] : List Value), v.oneCell' = true by intro v hv; obtain rfl := List.mem_singleton.1 hv; rfl)
  have Hgd := Lib.hid hgd
  have HL := Lib.hid (And.intro hL (And.intro htk (And.intro hL1l hL1)))
  have hBd : Below base w w.drew := ⟨rfl, rfl, rfl, Nat.le_refl _, fun _ _ => rfl⟩
  have hcap : decide ((cap : Int) < (x.length : Int) + 1) = false := decide_eq_false (by omega)
  have hne : ¬ ((i : Int) = (x.length : Int)) := by omega
  have hb1 : (0 : Int) ≤ (i : Int) + 1 := by omega
  have hb2 : (i : Int) + 1 ≤ (x.length : Int) + 1 := by omega
  have htn : ((i : Int) + 1).toNat = i + 1 := by omega
  have hGi : ¬ (cap = i + 1) := by omega
  have hin : (i : Int) ≤ (x.length : Int) + 1 := by omega
  have hni : ¬ (cap = i) := by omega
  have hin2 : (i : Int) ≤ (x.length : Int) := by omega
  have hm63 : cap ≤ 9223372036854775807 := by unfold maxLen at hcm; omega
  have hir : i ≤ 1000000 := by omega
  have hw1 := wrap64_succ i hir
  have hw2 := wrap_succ i hir
  have hw3 := wrap_succ x.length hreach
  clear hg hg' hgd hcell hn hdl htk hL hL1l hi0 hz0 hz1 hz2 hzs hL1
  go_enter Tryd.func60, Tryd.ntmps60
  go_wp2_with (simp only [hov])
  go_region_law (refine step_copy_else rfl (.tmp 73) (.tmp 76) 22 22 rfl 5 Tryd.underlying22 hsz g (i + 1) ⟨g, i, none⟩ (x.length + 1 - (i + 1)) (cap - (i + 1)) (x.length + 1 - i) (cap - i) (by simp [Act.eval, Act.put]) (by simp [Act.eval, Act.put]) L 5 Hgd.out ((x.map eB).drop i) HA1.out HA4.out HA2.out HA3.out base w hBd hbg ?_; intro w3 hg3 hk3 hB3)
  have hgw : Hid (w3.heap[g]? = some (.cells L1.toArray 5 (0, 0))) := Lib.hid (by rw [HL.out.2.2.2]; exact hg3.out)
  have hc4 : ∀ (j : Nat) (v : Value), ([eB c] : List Value)[j]? = some v → w3.cell? ((⟨b, 0, none⟩ : Addr).add j) = some v := by
    intro j v hj
    have hj0 : j = 0 := by
      have := (List.getElem?_eq_some_iff.1 hj).1
      simpa using this
    subst hj0
    simp at hj
    subst hj
    exact (show Boxed w3 b 5 (eB c) from (hk3.out b (fun e => hgb e.symm)).trans hbx).cell
  go_wp2_with (refine wpList_copy_splice rfl (.tmp 80) (.tmp 81) 22 22 rfl 5 Tryd.underlying22 hsz (some ⟨g, i, none⟩) (some ⟨b, 0, none⟩) (x.length + 1 - i) (cap - i) 1 1 rfl rfl g i L1 5 hgw.out [eB c] HB1.out (fun _ => ⟨rfl, _, rfl, hc4⟩) HB2.out HB3.out base w hB3 hbg ?_; intro w4 hg4 hB4)
  all_goals
    go_ret
    have hl := insW_length x i c (by omega)
    have ho : w4.ownsRow base 5 1 (.slice (some ⟨g, 0, none⟩) (x.length + 1) cap) (x.length + 1) ((insW x i c).map eB) := by
      refine ⟨by rw [List.length_map, hl, Nat.mul_one], .inr ⟨g, cap, _, rfl, hbg, hg4.out, hroom, hcm, ?_, ?_⟩⟩
      · rw [List.size_toArray, length_splice _ _ _ HB2.out, HL.out.2.2.1, Nat.mul_one]
      · rw [Nat.mul_one]
        have h := shift_take (eB c) HL.out.2.1 hi (by rw [HL.out.1]; exact hroom)
        rw [HL.out.2.2.2, h]
        simp [insW]
    exact ⟨_, rfl, by rw [Own8, hl]; exact ho, hB4⟩
theorem insert_any (x : List UInt8) (i : Nat) (c : UInt8) (h0 : 0 < x.length) (hi : i ≤ x.length) (hreach : x.length ≤ 1000000) : InsIs x i c := by
  by_cases he : i = x.length
  · subst he; exact insert_end x c h0 hreach
  · intro base v b w hbase hown hbx hap
    have hown' := hown
    rcases hown.2 with ⟨_, h⟩ | ⟨g, cap, cur, rfl, hbg, hg, hle, hcm, hcs, htk⟩
    · omega
    have hgb : g ≠ b := fun e => hap (by rw [e]; rfl)
    rw [Nat.mul_one] at hcs htk
    by_cases hroom : x.length + 1 ≤ cap
    · exact insert_shift x i c (by omega) hreach base g b cap cur.toList w hbg (by simpa using hg) (by simpa using hcs) hcm hroom htk hbx hgb
    · obtain rfl : cap = x.length := by omega
      exact insert_grow x i c (by omega) hreach base g b cur.toList w (by simpa using hg) (by rw [← htk, List.take_of_length_le (by simp; omega)]) hbx hbase
end Go.Proofs.YtmdpodgodhkjdaaDoor
