/- What Divide's walk needs: regions inside a round from orders outside; rows with room behind; marks; factors of a slice made later. -/
import Derived.Test.YtgidhkfmelpjfaaPoH
import Derived.Test.YtgidhkfmelpjfaaPoDa
import Derived.Test.YtgidhkfmelpjfaaPoFs
namespace Go.Proofs.Ytgidhkfmelpjfaa
open Go.RowKit Go.Shelf
attribute [local go_sem] Oper.semAt_some run_store_func

/-! ### Orders: from the plain walk into a round -/

theorem wide_op {n : Nat} {P : Program} {o : Oper} {a : Act} {w : World} {K K' : Act → World → Prop} {Q : Exit → Act → World → Prop} (hK : ∀ a w, K a w → K' a w) (h : o.wp P a w K Q) : o.wpIn Fence.wide n P a w K' Q := by
  refine ⟨fun _ _ => trivial, ?_⟩
  unfold Oper.wp at h
  rw [show Fence.wide.round = none from rfl, Oper.semAt_none]
  generalize (execOp a.eval o).run P w = r at *
  cases r with
  | ok x w' =>
    cases x <;> simp only [Oper.upon, Oper.uponIn] at h ⊢
    case value v => exact hK _ _ h
    case skip => exact hK _ _ h
    case defer d => exact hK _ _ h
    case enter f args =>
      refine ⟨(fun h => by cases h), callsIn_wide.2 (Calls.mono h fun e w'' he => ?_)⟩
      cases e <;> first | exact hK _ _ he | exact he
    case row row args =>
      refine ⟨(fun h => by cases h), fun c cs _ => ?_⟩
      obtain ⟨v, w'', hr, hs⟩ := h c cs
      exact ⟨v, w'', hK _ _ hr, stepsIn_wide.2 hs⟩
  | halt x w' => cases x <;> simp only [Oper.upon, Oper.uponIn] at h ⊢ <;> exact h
theorem wide_any {n : Nat} {P : Program} {md : Region.Mode} {ops : Array Oper} {Q : Exit → Act → World → Prop} (hL : ¬ LetsOut Q) :
    ∀ {fuel : Nat} {listed : Array Bool} {a : Act} {w : World}, wpAny P md ops Q fuel listed a w → wpAnyIn Fence.wide n P md ops Q fuel listed a w := by
  intro fuel
  induction fuel with
  | zero => intro listed a w h; exact h
  | succ fuel ih =>
    intro listed a w h
    refine ⟨h.1, fun i hi => ?_⟩
    have h2 := h.2 i hi
    unfold wpOp at h2
    unfold wpOpIn
    cases ho : ops[i]? with
    | none => rw [ho] at h2; exact ih h2
    | some o =>
      rw [ho] at h2
      simp only [] at h2 ⊢
      split
      · rename_i hw
        rw [if_pos hw] at h2
        exact wide_op (fun _ _ h => ih h) (h2.resolve_right fun h => hL h.2)
      · rename_i hw
        rw [if_neg hw] at h2
        exact ⟨fun _ _ => trivial, ih h2⟩
/-- A drawing region without a defer inside a round, from its orders outside of one, S held. -/
theorem region_round {n l id : Nat} {P : Program} {ops : Array Oper} {Q : Exit → Act → World → Prop} {a : Act} {w : World} (S : World → Prop) (hm : P.follows .mixedOrders = true)
    (hp : (ops.toList.all fun o => match o.op with | .defer _ => false | _ => true) = true) (hL : ¬ LetsOut Q)
    (h : wpAnyH P .any ops Q S ops.size (Array.replicate ops.size false) a w.drew) : (Code.region id ops true).wpIn (Fence.wide.inRound l) n P Q a w :=
  wpIn_region_any hm (wpAnyIn_out (plain_of hp) (wide_any hL (wpAny_of_held _ _ _ _ h)))

/-! ### Rows with room behind -/

def cellsT (f : Nat → UInt8) (R : Nat) (t : Array Value) : Array Value := cellsF f R ++ t
theorem cellsT_get (f : Nat → UInt8) (R j : Nat) (t : Array Value) (h : j < R) : (cellsT f R t)[j]? = some (eB (f j)) := by
  unfold cellsT
  rw [Array.getElem?_append_left (by rw [cellsF_size]; exact h), cellsF_get f R j h]
theorem cellsT_set (f : Nat → UInt8) (R j : Nat) (t : Array Value) (x : UInt8) (h : j < R) : (cellsT f R t).setIfInBounds j (eB x) = cellsT (fun k => if k = j then x else f k) R t := by
  unfold cellsT
  rw [← cellsF_set, Array.setIfInBounds_append_left (by rw [cellsF_size]; exact h)]
/-- An own row that isn't empty: its block, whole. -/
theorem Own8.row {B : Nat} {W : World} {v : Value} {bs : List UInt8} (h : Own8 B W v bs) (h0 : 0 < bs.length) :
    ∃ g cap t, v = .slice (some ⟨g, 0, none⟩) bs.length cap ∧ B ≤ g ∧ bs.length ≤ cap ∧ cap ≤ 9223372036854775807 ∧ Rowed W g 5 (cellsT (C bs) bs.length t) := by
  rcases h.2 with ⟨rfl, h1⟩ | ⟨g, cap, cur, rfl, hb, hg, hle, hm, hs, hc⟩
  · have h2 := h.1
    simp only [List.length_map, Nat.mul_one] at h1 h2
    simp_all
  · refine ⟨g, cap, (cur.toList.drop bs.length).toArray, rfl, hb, hle, by unfold maxLen at hm; omega, ?_⟩
    have e : cellsT (C bs) bs.length (cur.toList.drop bs.length).toArray = cur := by
      have e1 : (cellsF (C bs) bs.length).toList = cur.toList.take bs.length := by
        rw [Nat.mul_one] at hc
        rw [hc]
        apply List.ext_getElem
        · simp [cellsF]
        · intro i h1 h2
          simp only [List.length_map] at h2
          simp [cellsF, C_get bs i h2]
      apply Array.toList_inj.1
      unfold cellsT
      rw [Array.toList_append, e1, List.take_append_drop]
    rw [e]
    exact hg
/-- A whole row with room behind is a slice that reads as its front. -/
theorem sl_cellsT {W : World} {g : Nat} {ty : TypeId} {f : Nat → UInt8} {R cap : Nat} {t : Array Value} (h : Rowed W g ty (cellsT f R t)) (B : Nat) (hB : g < B) (hc : R ≤ cap) : Sl eB B W (.slice (some ⟨g, 0, none⟩) R cap) ((List.range R).map f) := by
  refine ⟨some ⟨g, 0, none⟩, cap, by simp, by simpa using hc, fun _ => ⟨g, 0, rfl, hB, fun j x hx => ?_⟩⟩
  rw [Nat.zero_add, h.cell j]
  rw [List.getElem?_map] at hx
  obtain ⟨i, hi, rfl⟩ := Option.map_eq_some_iff.1 hx
  obtain ⟨hj, rfl⟩ := List.getElem?_eq_some_iff.1 hi
  simp only [List.length_range] at hj
  rw [cellsT_get f R j t hj]
  simp

/-! ### Marks -/

/-- Marks of loops that have ended, all of them still to be taken. -/
def Marks (ds : List Nat) (B : Nat) (W : World) : Prop := ds.Nodup ∧ ∀ d ∈ ds, B ≤ d ∧ W.heap[d]? = some (.deferred (some []))
def markD (d : Nat) : Deferred := { target := .collected d, args := #[] }
theorem Marks.keep {ds : List Nat} {B n g : Nat} {W W' : World} (h : Marks ds B W) (hk : Keep n g W W') (hn : W.heap.size ≤ n) (hg : g < B) : Marks ds B W' :=
  ⟨h.1, fun d hd => ⟨(h.2 d hd).1, (hk.2 d (by have := (Array.getElem?_eq_some_iff.1 (h.2 d hd).2).1; omega) (by have := (h.2 d hd).1; omega)).trans (h.2 d hd).2⟩⟩
theorem Marks.cons {ds : List Nat} {B D : Nat} {W : World} (h : Marks ds B W) (hB : B ≤ D) (hD : W.heap[D]? = some (.deferred (some []))) (hn : ∀ d ∈ ds, d < D) : Marks (D :: ds) B W :=
  ⟨List.nodup_cons.2 ⟨fun hm => Nat.lt_irrefl _ (hn D hm), h.1⟩, fun d hd => by
    rcases List.mem_cons.1 hd with rfl | hd
    · exact ⟨hB, hD⟩
    · exact h.2 d hd⟩
theorem Marks.take {F : Fence} {n : Nat} {P : Program} {fn : Func} {tmps : Array Value} {R : Ending → World → Prop} {u : FrameMode} (hu : u ≠ .run) (w : World) (rest : List Deferred) :
    ∀ (ds : List Nat) (W : World), Marks ds w.heap.size W → (∀ W', Below w.heap.size W W' → LeavesInM F n P fn tmps R rest u W') → LeavesInM F n P fn tmps R (ds.map markD ++ rest) u W := by
  intro ds
  induction ds with
  | nil => intro W _ h; exact h W (Below.refl _ _)
  | cons d ds ih =>
    intro W hm h
    obtain ⟨h1, h2⟩ := hm.2 d (by simp)
    refine ⟨hu, .inl ⟨d, _, rfl, run_takeDeferred h2, ih _ ⟨(List.nodup_cons.1 hm.1).2, fun e he => ⟨(hm.2 e (by simp [he])).1, ?_⟩⟩ fun W' hW => h W' ?_⟩⟩
    · have hne : e ≠ d := fun x => (List.nodup_cons.1 hm.1).1 (x ▸ he)
      exact (World.putObj_heap_other hne).trans (hm.2 e (by simp [he])).2
    · exact (belowK_b (w := w) (Nat.le_refl _) W d _ _ h1 h2 rfl rfl).trans hW

/-! ### The factors of a slice whose block isn't the one that is written -/

set_option maxRecDepth 100000 in
set_option maxHeartbeats 2000000 in
theorem factors1_ne (n : Nat) (l B1 B n₀ g : Nat) (A : Option Addr) (cap : Nat) (q : List UInt8) (hreach : q.length ≤ 140737488355328) (J Jx : List (Fin q.length) → World → Prop)
    (hY : ∀ pre x W, J pre W → pre.length < q.length → YieldAt Fence.wide n Try.prog l (facV q x) W fun e W' =>
      (e = .returned (.bool true) ∧ J (pre ++ [x]) W' ∧ Keep n₀ g W W') ∨ (e = .returned (.bool false) ∧ Jx (pre ++ [x]) W'))
    (W : World) (h1 : W.cell? ⟨B1, 0, none⟩ = some (.slice A q.length cap)) (hS : Sl eB B W (.slice A q.length cap) q) (hBn : B ≤ n₀) (hne : ∀ a, A = some a → a.block ≠ g) (h0 : J [] W) :
    CallsIn Fence.wide (n + 1) Try.prog 41 #[.func (.yield l) #[] #[], .pointer (some ⟨B1, 0, none⟩)] W fun e W' => (∃ v, e = .returned v) ∧
      ((∃ ys, ys = nzS q q.length ∧ J ys W') ∨ (∃ pre, pre <+: nzS q q.length ∧ Jx pre W')) := by
  obtain ⟨A', cap', e0, hcap, hcs⟩ := hS
  injection e0 with e1 e2 e3
  subst e1 e3
  clear e2
  refine callsIn_of_wp Try.func41 rfl trivial ?_ rfl
  simp only [Try.ntmps41, List.size_toArray, List.length_cons, List.length_nil, Nat.reduceAdd, Nat.reduceSub, Array.replicate_succ, Array.replicate_zero, List.push_toArray, List.append_toArray, List.nil_append, List.cons_append]
  gi_wp2
  gi_loopw [7] (fun i wr => ∃ k : Nat, k ≤ q.length ∧ i = .int .i64 k ∧ J (nzS q k) wr ∧ Keep n₀ g W wr)
    (fun i _ => q.length - (intOf i).toNat)
  case atStart => exact ⟨0, Nat.zero_le _, rfl, h0, keep_r _ _ _⟩
  case round =>
    obtain ⟨k, hk, rfl, hJs, hnx⟩ := hrel
    by_cases hlt : k < q.length
    · obtain ⟨b, off, rfl, hb, hcell⟩ := hcs (by omega)
      have hbg : b ≠ g := hne _ rfl
      have hcx : wr.cell? ⟨b, off + k, none⟩ = some (eB q[k]) := (hnx.cell (p := ⟨b, off + k, none⟩) (by show b < _; omega) hbg).trans (hcell k _ (by simp [hlt]))
      have Hsn := Lib.hid (show nzS q (k + 1) = if q[k] = 0 then nzS q k else nzS q k ++ [⟨k, hlt⟩] by simp only [nzS, dif_pos hlt])
      have hpre : nzS q (k + 1) <+: nzS q q.length := by
        have := nzS_prefix' q (q.length - (k + 1)) (k + 1)
        rwa [show k + 1 + (q.length - (k + 1)) = q.length by omega] at this
      have hlen := nzS_length q k
      have hYk := hY _ ⟨k, hlt⟩ wr hJs (by omega)
      obtain ⟨fn, tmps, assign, body, hy, hR⟩ := hYk
      change (Instr.yield l #[.int .i64 ((k : Nat) : Int), eB q[k]]).run Try.prog wr = _ at hy
      clear hcell hcs
      obtain ⟨x, hx'⟩ : ∃ x, q[k] = x := ⟨_, rfl⟩
      rw [hx'] at hcx hy Hsn
      clear hx'
      by_cases hx : x = 0
      · have hz := beq_zero x hx
        have hz' : ((x.toNat : Int) != 0) = false := by rw [bne, hz]; rfl
        have Hx := Lib.hid hx
        clear hx
        gi_wp2
        repeat (refine ⟨fun f hf => (by cases hf), ?_⟩; gi_wp2)
        go_roundw
        case rel => exact ⟨k + 1, by omega, by go_num, by rw [Hsn.out, if_pos Hx.out]; exact hJs, hnx⟩
        case measure => simp [intOf]; omega
      · have hz := beq_some x hx
        have hz' : ((x.toNat : Int) != 0) = true := by rw [bne, hz]; rfl
        have Hx := Lib.hid hx
        clear hx
        gi_wp2
        refine hR.mono ?_
        rintro e W3 (⟨rfl, hJ3, hk3⟩ | ⟨rfl, hJx3⟩)
        · gi_wp2
          go_roundw
          case rel => exact ⟨k + 1, by omega, by go_num, by rw [Hsn.out, if_neg Hx.out]; exact hJ3, keep_t hnx hk3⟩
          case measure => simp [intOf]; omega
        · gi_wp2
          refine bodyPost_ret (results_none rfl _ _ _) rfl ?_
          exact ⟨⟨_, rfl⟩, .inr ⟨_, hpre, by rw [Hsn.out, if_neg Hx.out]; exact hJx3⟩⟩
    · obtain rfl : k = q.length := by omega
      gi_wp2
      go_end0
      exact ⟨⟨_, rfl⟩, .inl ⟨_, rfl, hJs⟩⟩
theorem factors_ne (n : Nat) (B1 B n₀ g : Nat) (A : Option Addr) (cap : Nat) (q : List UInt8) (hreach : q.length ≤ 140737488355328) (w : World) (hBn : B ≤ n₀) (hne : ∀ a, A = some a → a.block ≠ g) (hB : B ≤ w.heap.size) (h1 : w.cell? ⟨B1, 0, none⟩ = some (.slice A q.length cap)) (hS : Sl eB B w (.slice A q.length cap) q) :
    SeqStopsK Fence.wide (n + 1) Try.prog 41 #[.pointer (some ⟨B1, 0, none⟩)] (fun x : Fin q.length => facV q x) (Keep n₀ g) (fun ys => ys = nzS q q.length) (fun pre => pre <+: nzS q q.length) q.length w := fun l J Jx W hW _ _ hY h0 =>
  factors1_ne n l B1 B n₀ g A cap q hreach J Jx hY W ((hW.cell (p := ⟨B1, 0, none⟩) (World.block_lt_of_cell? w _ h1)).trans h1) (hS.below (hW.mono hB)) hBn hne h0
end Go.Proofs.Ytgidhkfmelpjfaa
