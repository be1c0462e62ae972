/- Contracts of crc.each, of its iterator, and of crc.Sum. -/
import Derived.Test.YtnnhijfgbdhmiaaCrB
namespace Go.Proofs.Ytnnhijfgbdhmiaa
open Go.RowKit Go.Shelf
attribute [local go_sem] Oper.semAt_some run_store_func

/-- A slice of slices of bytes. -/
def Rows2 (B : Nat) (W : World) (sv : Value) (bss : List (List UInt8)) : Prop :=
  ∃ svs : List Value, Sl (fun v => v) B W sv svs ∧ svs.length = bss.length ∧ ∀ (i : Nat) (v : Value) (bs : List UInt8), svs[i]? = some v → bss[i]? = some bs → Sl eB B W v bs
theorem Rows2.below {B : Nat} {W W' : World} {sv : Value} {bss : List (List UInt8)} (h : Rows2 B W sv bss) (hb : Below B W W') : Rows2 B W' sv bss := by
  obtain ⟨svs, hs, hl, hr⟩ := h
  exact ⟨svs, hs.below hb, hl, fun i v bs h1 h2 => (hr i v bs h1 h2).below hb⟩
theorem Rows2.len {B : Nat} {W : World} {sv : Value} {bss : List (List UInt8)} (h : Rows2 B W sv bss) : ∃ A cap, sv = .slice A bss.length cap := by
  obtain ⟨svs, hs, hl, hr⟩ := h
  obtain ⟨A, cap, e⟩ := hs.len
  exact ⟨A, cap, by rw [e, hl]⟩

set_option maxHeartbeats 400000 in
theorem each_any (A : Option Addr) (len cap : Nat) (w : World) :
    Calls Try.prog 12 #[.slice A len cap] w fun e w' => e = .returned (.func (.func 13) #[] #[.pointer (some ⟨w.heap.size, 0, none⟩)]) ∧ w' = w.alloc (.cells #[.slice A len cap] 35) := by
  go_enter Try.func12, Try.ntmps12
  go_wp2
  go_ret
  exact ⟨rfl, rfl⟩

theorem take_flat {α : Type} (bss : List (List α)) (k : Nat) (h : k < bss.length) : (bss.take (k + 1)).flatten = (bss.take k).flatten ++ bss[k] := by
  rw [List.take_succ_eq_append_getElem h, List.flatten_append]; simp
theorem flat_prefix {α : Type} (bss : List (List α)) (k : Nat) (h : k < bss.length) (j : Nat) : (bss.take k).flatten ++ bss[k].take j <+: bss.flatten := by
  have h1 : bss.flatten = (bss.take (k + 1)).flatten ++ (bss.drop (k + 1)).flatten := by rw [← List.flatten_append, List.take_append_drop]
  rw [h1, take_flat bss k h, List.append_assoc]
  refine (List.prefix_append_right_inj _).2 ?_
  exact (List.take_prefix _ _).trans (List.prefix_append _ _)

set_option maxRecDepth 100000 in
set_option maxHeartbeats 4000000 in
theorem each1_in (n : Nat) (l Bs n₀ : Nat) (sv : Value) (bss : List (List UInt8)) (hr2 : bss.length ≤ 140737488351232) (hreach : ∀ bs ∈ bss, bs.length ≤ 140737488351232) (J Jx : List UInt8 → World → Prop)
    (hY : ∀ pre x W, J pre W → pre.length < bss.flatten.length → YieldAt Fence.wide n Try.prog l #[eB x] W fun e W' =>
      (e = .returned (.bool true) ∧ J (pre ++ [x]) W' ∧ Below n₀ W W') ∨ (e = .returned (.bool false) ∧ Jx (pre ++ [x]) W'))
    (W : World) (hBs : W.cell? ⟨Bs, 0, none⟩ = some sv) (hS : Rows2 n₀ W sv bss) (h0 : J [] W) :
    CallsIn Fence.wide (n + 1) Try.prog 13 #[.func (.yield l) #[] #[], .pointer (some ⟨Bs, 0, none⟩)] W fun e W' => (∃ v, e = .returned v) ∧
      ((∃ ys, ys = bss.flatten ∧ J ys W') ∨ (∃ pre, pre <+: bss.flatten ∧ Jx pre W')) := by
  obtain ⟨A, cap, rfl⟩ := hS.len
  obtain ⟨svs, hso, hsl, hsr⟩ := hS
  obtain ⟨A', c', e', hcap, hcs⟩ := hso
  injection e' with e1 e2 e3
  subst e1 e3
  replace hcs := Lib.hid hcs
  replace hsl := Lib.hid hsl
  clear e2 hcap
  refine callsIn_of_wp Try.func13 rfl trivial ?_ rfl
  simp only [Try.ntmps13, List.size_toArray, List.length_cons, List.length_nil, Nat.reduceAdd, Nat.reduceSub, Array.replicate_succ, Array.replicate_zero, List.push_toArray, List.append_toArray, List.nil_append, List.cons_append]
  gi_wp2
  gi_loopw [9] (fun i wr => ∃ k : Nat, k ≤ bss.length ∧ i = .int .i64 k ∧ J (bss.take k).flatten wr ∧ Below n₀ W wr)
    (fun i _ => bss.length - (intOf i).toNat)
  case atStart => exact ⟨0, Nat.zero_le _, rfl, h0, Below.refl _ _⟩
  case round =>
    obtain ⟨k, hk, rfl, hJs, hnx⟩ := hrel
    by_cases hlt : k < bss.length
    · obtain ⟨b, off, rfl, hb, hcell⟩ := hcs.out (by rw [hsl.out]; omega)
      obtain ⟨v, hv⟩ : ∃ v, svs[k]? = some v := ⟨svs[k]'(by rw [hsl.out]; omega), by simp⟩
      have hvS := hsr k v bss[k] hv (by simp)
      obtain ⟨A2, c2, rfl⟩ := hvS.len
      have hcx : wr.cell? ⟨b, off + k, none⟩ = some (.slice A2 bss[k].length c2) := (hnx.cell (p := ⟨b, off + k, none⟩) hb).trans (hcell k _ hv)
      have hvs2 := hvS.below hnx
      have hreachk := hreach bss[k] (List.getElem_mem hlt)
      obtain ⟨A3, c3, e3, hcap3, hcs3⟩ := hvs2
      cases e3
      have hpre := fun j => flat_prefix bss k hlt j
      have hnext := take_flat bss k hlt
      rw [show bss[k] = bss[k] from rfl] at hpre
      clear hvS hv hcell hsr
      gi_wp2_with fail
      generalize hbk : bss[k] = bs at *
      gi_loopw [15] (fun i wq => ∃ j : Nat, j ≤ bs.length ∧ i = .int .i64 j ∧ J ((bss.take k).flatten ++ bs.take j) wq ∧ Below n₀ W wq ∧ Below n₀ wr wq)
        (fun i _ => bs.length - (intOf i).toNat)
      case atStart => exact ⟨0, Nat.zero_le _, rfl, by simpa using hJs, hnx, Below.refl _ _⟩
      case round =>
        obtain ⟨j, hj, rfl, hJq, hnq, hnr⟩ := hrel
        by_cases hltj : j < bs.length
        · obtain ⟨b2, off2, rfl, hb2, hcell2⟩ := hcs3 (by omega)
          have hcy : wr.cell? ⟨b2, off2 + j, none⟩ = some (eB bs[j]) := (hnr.cell (p := ⟨b2, off2 + j, none⟩) hb2).trans (hcell2 j _ (by simp))
          have hnx2 : (bss.take k).flatten ++ bs.take j ++ [bs[j]] = (bss.take k).flatten ++ bs.take (j + 1) := by
            rw [List.append_assoc]; congr 1; exact (List.take_succ_eq_append_getElem hltj).symm
          obtain ⟨fn, tmps, assign, body, hy, hR⟩ := hY _ bs[j] wr hJq (by
            have h1 := (hpre (j + 1)).length_le
            rw [← hnx2, List.length_append, List.length_singleton] at h1
            omega)
          rw [hnx2] at hR
          have hpj := hpre (j + 1)
          clear hnx2 hnext
          generalize bs[j] = x at *
          gi_wp2
          refine hR.mono ?_
          rintro e W3 (⟨rfl, hJ3, hk3⟩ | ⟨rfl, hJx3⟩)
          · gi_wp2
            go_roundw
            case rel => exact ⟨j + 1, by omega, by simp, hJ3, hnq.trans hk3, hnr.trans hk3⟩
            case measure => simp [intOf]; omega
          · gi_wp2
            refine bodyPost_ret (results_none rfl _ _ _) rfl ?_
            exact ⟨⟨_, rfl⟩, .inr ⟨_, hpj, hJx3⟩⟩
        · obtain rfl : j = bs.length := by omega
          rw [List.take_of_length_le (Nat.le_refl _), ← hnext] at hJq
          gi_wp2
          go_roundw
          case rel => exact ⟨k + 1, by omega, by simp, hJq, hnq⟩
          case measure => simp [intOf]; omega
    · obtain rfl : k = bss.length := by omega
      gi_wp2
      go_end0
      exact ⟨⟨_, rfl⟩, .inl ⟨_, rfl, by rwa [List.take_of_length_le (by omega)] at hJs⟩⟩

theorem w32_not (x : BitVec 32) : bits .xor .u32 IntKind.u32.max (x.toNat : Int) = ((~~~ x).toNat : Int) := by
  have h := w32_xor 4294967295#32 x
  rw [show (4294967295#32 : BitVec 32) = BitVec.allOnes 32 from rfl, BitVec.allOnes_xor] at h
  exact h

theorem each_stops (n : Nat) (Bs n₀ : Nat) (sv : Value) (bss : List (List UInt8)) (hr2 : bss.length ≤ 140737488351232) (hreach : ∀ bs ∈ bss, bs.length ≤ 140737488351232) (w : World) (hBs : Bs < w.heap.size) (hn₀ : n₀ ≤ w.heap.size)
    (hc : w.cell? ⟨Bs, 0, none⟩ = some sv) (hS : Rows2 n₀ w sv bss) :
    SeqStopsK Fence.wide (n + 1) Try.prog 13 #[.pointer (some ⟨Bs, 0, none⟩)] (fun x : UInt8 => #[eB x]) (Below n₀) (fun ys => ys = bss.flatten) (fun pre => pre <+: bss.flatten) bss.flatten.length w := fun l J Jx W hW _ _ hY h0 =>
  each1_in n l Bs n₀ sv bss hr2 hreach J Jx hY W ((hW.cell (p := ⟨Bs, 0, none⟩) hBs).trans hc) (hS.below (hW.mono hn₀)) h0

set_option maxRecDepth 100000 in
set_option maxHeartbeats 2000000 in
theorem sum1_any (x : BitVec 32) (c : UInt8) (bx : Nat) (w : World) (hcx : w.cell? ⟨bx, 0, none⟩ = some (wV x)) (hf : w.frozen? ⟨bx, 0, none⟩ = false) :
    Calls Try.prog 11 #[eB c, .pointer (some ⟨bx, 0, none⟩)] w fun e w' => (∃ v, e = .returned v) ∧ w' = w.setCell ⟨bx, 0, none⟩ (wV (stepW x c)) := by
  go_enter Try.func11, Try.ntmps11
  go_wp2_with (go_at_call 9; refine (Step_any x c _).mono ?_; rintro e w' ⟨rfl, rfl⟩)
  go_end0
  exact ⟨⟨_, rfl⟩, rfl⟩

set_option maxRecDepth 100000 in
set_option maxHeartbeats 2000000 in
theorem Sum_any (sv : Value) (bss : List (List UInt8)) (hr2 : bss.length ≤ 140737488351232) (hreach : ∀ bs ∈ bss, bs.length ≤ 140737488351232) (w : World) (hS : Rows2 w.heap.size w sv bss) :
    Calls Try.prog 6 #[sv] w fun e W' => e = .returned (wV (sumW bss.flatten)) ∧ Below w.heap.size w W' := by
  refine (callsIn_wide (n := 5)).1 ?_
  obtain ⟨A, cap, rfl⟩ := hS.len
  refine callsIn_of_wp_marks Try.func6 rfl trivial ?_ rfl
  simp only [Try.ntmps6, List.size_toArray, List.length_cons, List.length_nil, Nat.reduceAdd, Nat.reduceSub, Array.replicate_succ, Array.replicate_zero, List.push_toArray, List.append_toArray, List.nil_append, List.cons_append]
  gi_wp2_with (refine ⟨trivial, ?_⟩; gi_at_call 12; refine (callsIn_wide.2 (each_any _ _ _ _)).mono ?_; rintro e w' ⟨rfl, rfl⟩)
  obtain ⟨W0, hW0⟩ : ∃ W0, ((w.alloc (Obj.cells #[wV 4294967295#32] 24)).alloc (Obj.cells #[Value.func (Fn.func 11) #[] #[Value.pointer (some { block := w.heap.size, off := 0 })]] 36)).alloc (Obj.cells #[Value.slice A bss.length cap] 35) = W0 := ⟨_, rfl⟩
  have hs0 : W0.heap.size = w.heap.size + 3 := by rw [← hW0]; simp
  have hB10 : Below w.heap.size w W0 := by
    rw [← hW0]
    exact (((Below.refl _ w).alloc (Nat.le_refl _) _).alloc (by simp) _).alloc (by simp; omega) _
  have b1 : Boxed W0 w.heap.size 24 (wV (([] : List UInt8).foldl stepW 4294967295#32)) := by
    rw [← hW0]
    exact ((Boxed.new w 24 (wV 4294967295#32)).alloc _).alloc _
  have b2 : Boxed W0 (w.heap.size + 1) 36 (Value.func (Fn.func 11) #[] #[Value.pointer (some { block := w.heap.size, off := 0 })]) := by
    rw [← hW0]
    have := (Boxed.new (w.alloc (Obj.cells #[wV 4294967295#32] 24)) 36 (Value.func (Fn.func 11) #[] #[Value.pointer (some { block := w.heap.size, off := 0 })])).alloc (Obj.cells #[Value.slice A bss.length cap] 35)
    simpa only [World.size_alloc] using this
  have b3 : Boxed W0 (w.heap.size + 1 + 1) 35 (.slice A bss.length cap) := by
    rw [← hW0]
    have := Boxed.new ((w.alloc (Obj.cells #[wV 4294967295#32] 24)).alloc (Obj.cells #[Value.func (Fn.func 11) #[] #[Value.pointer (some { block := w.heap.size, off := 0 })]] 36)) 35 (Value.slice A bss.length cap)
    simpa only [World.size_alloc] using this
  change Code.wpIn _ _ _ _ _ _ (((w.alloc (Obj.cells #[wV 4294967295#32] 24)).alloc (Obj.cells #[Value.func (Fn.func 11) #[] #[Value.pointer (some { block := w.heap.size, off := 0 })]] 36)).alloc (Obj.cells #[Value.slice A bss.length cap] 35))
  rw [hW0]
  refine wpIn_rangeFunc_ownG rfl (by decide) (gf := 13) (lb := #[.pointer (some ⟨w.heap.size + 1 + 1, 0, none⟩)]) rfl trivial (enters_of Try.func13 (by kernel_rfl) rfl)
    (each_stops 3 (w.heap.size + 1 + 1) w.heap.size _ bss hr2 hreach W0 (by omega) (by omega) b3.cell (hS.below hB10)) belowK_t (belowK_b (by omega)) (Below.refl _ _) (fun _ => rfl)
    (fun (pre : List UInt8) W => (Boxed W w.heap.size 24 (wV (pre.foldl stepW 4294967295#32)) ∧ Boxed W (w.heap.size + 1) 36 (Value.func (Fn.func 11) #[] #[Value.pointer (some { block := w.heap.size, off := 0 })])) ∧ Below w.heap.size w W)
    (fun _ _ _ => False)
    (OwnFrom.and (OwnFrom.and (Own.from (boxed_own w.heap.size 24 (fun (pre : List UInt8) => wV (pre.foldl stepW 4294967295#32))) _) (Own.from (boxed_own (w.heap.size + 1) 36 (fun (_ : List UInt8) => Value.func (Fn.func 11) #[] #[Value.pointer (some { block := w.heap.size, off := 0 })])) _)) (ownFrom_below (Nat.le_refl _) (by omega)))
    (fun _ _ _ _ _ hs _ _ => hs)
    ⟨⟨b1, b2⟩, hB10⟩
    (fun x => { tmps := #[.slice A bss.length cap, undef, .int .u32 0, .pointer (some ⟨w.heap.size, 0, none⟩), .pointer (some ⟨w.heap.size + 1, 0, none⟩), eB x, .func (.func 11) #[] #[.pointer (some ⟨w.heap.size, 0, none⟩)], .slice A bss.length cap, .func (.func 13) #[] #[.pointer (some ⟨w.heap.size + 1 + 1, 0, none⟩)], eB x, undef, undef, undef, undef, undef], defers := [] }) ?assign ?body ?done ?stop
  case assign =>
    intro l x W K hK
    gi_wp2
    exact hK
  case body =>
    rintro l pre c W ⟨⟨hv, hf⟩, hB⟩ hlt
    have hc2 := hf.cell
    gi_wp2_with (refine ⟨trivial, ?_⟩; gi_at_call 11; refine (CallsIn.inRound l (callsIn_wide.2 (sum1_any _ c _ _ hv.cell hv.frozen))).mono ?_; rintro e w' ⟨⟨v, rfl⟩, rfl⟩)
    gi_wp2
    have hval : (pre ++ [c]).foldl stepW 4294967295#32 = stepW (pre.foldl stepW 4294967295#32) c := by
      simp [List.foldl_append]
    refine ⟨(KeepsOthers.setCell W _ _).from _, (Below.refl _ _).setCell (p := ⟨w.heap.size, 0, none⟩) (Nat.le_refl _) _, ⟨by rw [hval]; exact hv.set _, Boxed.kept hf (grownBy_setCellAt W w.heap.size 0 _) (by simp)⟩, hB.setCell (p := ⟨w.heap.size, 0, none⟩) (Nat.le_refl _) _⟩
  case done =>
    rintro D ys W hD rfl ⟨⟨hv, hf⟩, hB⟩ hK
    have hc := hv.cell
    have hsg : ¬ IntKind.u32.signed = true := by decide
    gi_wp2
    rw [w32_not]
    refine ⟨by simp, .inl ⟨_, _, rfl, run_takeDeferred hK, ?_⟩⟩
    refine ⟨_, results_tmp rfl _ _ _, rfl, hB.trans (belowK_b (w := w) (Nat.le_refl _) _ D _ _ (by omega) hK rfl rfl)⟩
  case stop =>
    rintro D c pre W hD hpre h hK
    exact h.elim
end Go.Proofs.Ytnnhijfgbdhmiaa
