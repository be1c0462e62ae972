/- Contracts of slices.AppendSeq and Collect, of edits, and of edit.Edits. -/
import Derived.Test.YtapbfjbjbcpiiaaDoorEdJ
namespace Go.Proofs.YtapbfjbjbcpiiaaDoor
open Go.RowKit Go.Shelf
attribute [local go_sem] Oper.semAt_some run_store_func

def flatG (l : List Edt) : List Value := l.flatMap fun x => [eB x.k, .int .i64 x.z, eB x.b]
theorem flatG_snoc (l : List Edt) (x : Edt) : flatG (l ++ [x]) = flatG l ++ [eB x.k, .int .i64 x.z, eB x.b] := by simp [flatG]
theorem flatG_at (l : List Edt) (i : Nat) (x : Edt) (h : l[i]? = some x) : (flatG l)[i * 3]? = some (eB x.k) ∧ (flatG l)[i * 3 + 1]? = some (.int .i64 x.z) ∧ (flatG l)[i * 3 + 2]? = some (eB x.b) := by
  induction l generalizing i with
  | nil => simp at h
  | cons a l ih =>
    have e : flatG (a :: l) = [eB a.k, .int .i64 a.z, eB a.b] ++ flatG l := rfl
    rcases i with _ | i
    · simp at h
      subst h
      simp [flatG]
    · have := ih i (by simpa using h)
      have hl : ([eB a.k, Value.int .i64 a.z, eB a.b] : List Value).length = 3 := rfl
      refine ⟨?_, ?_, ?_⟩
      · rw [e, List.getElem?_append_right (by rw [hl]; omega), hl, show (i + 1) * 3 - 3 = i * 3 by omega]
        exact this.1
      · rw [e, List.getElem?_append_right (by rw [hl]; omega), hl, show (i + 1) * 3 + 1 - 3 = i * 3 + 1 by omega]
        exact this.2.1
      · rw [e, List.getElem?_append_right (by rw [hl]; omega), hl, show (i + 1) * 3 + 2 - 3 = i * 3 + 2 by omega]
        exact this.2.2
theorem info_edt : (Tryd.prog.info? 36).map (fun i => (i.zero, i.size, i.bytes)) = some (some (.agg #[.int .u8 0, .int .i64 0, .int .u8 0]), 3, 24) := by kernel_rfl
theorem cells_edt (w : World) (a b c : Value) : ∀ j u, ([a, b, c] : List Value)[j]? = some u → (w.alloc (.cells #[a, b, c] 36)).cell? ((⟨w.heap.size, 0, none⟩ : Addr).add j) = some u := by
  intro j u h
  have := (Rowed.new w 36 #[a, b, c]).cell j
  have e : ((⟨w.heap.size, 0, none⟩ : Addr).add j) = ⟨w.heap.size, j, none⟩ := by rcases j with _ | j <;> simp [Addr.add]
  rw [e, this]
  simpa using h
theorem own_monoE {B B' : Nat} {w : World} {v : Value} {n : Nat} {xs : List Value} (h : w.ownsRow B 36 3 v n xs) (hb : B' ≤ B) : w.ownsRow B' 36 3 v n xs := by
  obtain ⟨h1, h2⟩ := h
  refine ⟨h1, ?_⟩
  rcases h2 with ⟨h3, h4⟩ | ⟨g, cap, cur, h3, h4, h5⟩
  · exact .inl ⟨h3, h4⟩
  · exact .inr ⟨g, cap, cur, h3, by omega, h5⟩
theorem below_putX {B D : Nat} (hD : B ≤ D) (W : World) (o : Obj) : Below B W (W.putObj D o) := ⟨rfl, rfl, rfl, by simp [World.putObj], fun k hk => World.putObj_heap_other (by omega)⟩
set_option maxRecDepth 100000 in
set_option maxHeartbeats 4000000 in
theorem AppendSeqE_any (gf : Nat) (lb : Array Value) (xs : List Edt) (hxs : xs.length ≤ 10000) (w : World) (hen : ∀ args w, (callFunc gf args).run Tryd.prog w = .ok (.enter gf args) w)
    (hseq : SeqX Fence.wide Tryd.prog gf lb encE (Below w.heap.size) xs none w) :
    Calls Tryd.prog 54 #[.slice none 0 0, .func (.func gf) #[] lb] w fun e w' => ∃ v, e = .returned v ∧ w'.ownsRow w.heap.size 36 3 v xs.length (flatG xs) ∧ Below w.heap.size w w' := by
  refine (callsIn_wide (n := 5)).1 ?_
  obtain ⟨i0, hi, hz0, hz1, hz2⟩ := info_parts info_edt
  refine callsIn_of_wp_marks Tryd.func54 rfl trivial ?_ rfl
  simp only [Tryd.ntmps54, List.size_toArray, List.length_cons, List.length_nil, Nat.reduceAdd, Nat.reduceSub, Array.replicate_succ, Array.replicate_zero, List.push_toArray, List.append_toArray, List.nil_append, List.cons_append]
  have hA := below_alloc w (.cells #[.slice none 0 0] 38)
  have hb0 := Boxed.new w 38 (.slice none 0 0)
  have hsz := World.size_alloc w (.cells #[.slice none 0 0] 38)
  gi_wp2_with fail
  generalize w.alloc (.cells #[.slice none 0 0] 38) = w0 at *
  obtain ⟨T, hT⟩ : ∃ T : Edt → Nat → Act, T = fun x bt => { tmps := #[.slice none 0 0, .func (.func gf) #[] lb, .pointer (some ⟨w.heap.size, 0, none⟩), undef, .slice none 0 0, .pointer (some ⟨bt, 0, none⟩), .func (.func gf) #[] lb, eE x.k x.z x.b, undef, undef, undef, undef, undef], defers := [] } := ⟨_, rfl⟩
  have HT := Lib.hid hT
  clear hT
  refine wpIn_range_X (gf := gf) (lb := lb) rfl rfl trivial rfl hen
    hseq (fun _ _ _ h k => h.trans k) (fun W' l o o' e1 e2 e3 => below_putX (Nat.le_trans hA.size e1) W' o') hA (fun _ => rfl)
    (fun (pre : List Edt) W => (∃ v, Boxed W w.heap.size 38 v ∧ W.ownsRow w.heap.size 36 3 v pre.length (flatG pre) ∧ True) ∧ Below w.heap.size w W)
    (fun _ _ => False)
    (OwnFrom.and (Own.from (holdsRow_own w.heap.size w.heap.size 38 36 3 (fun (pre : List Edt) => pre.length) (fun (pre : List Edt) => flatG pre) (fun _ _ => True)) _) (ownFrom_below (Nat.le_refl _) (by omega)))
    ⟨⟨_, hb0, ⟨rfl, .inl ⟨rfl, rfl⟩⟩, trivial⟩, hA⟩
    (fun _ _ _ _ _ hs => hs)
    (fun (x : Edt) a' W => ∃ bt, a' = T x bt ∧ Rowed W bt 36 (cE x.k x.z x.b))
    (fun x a' W l o o' ⟨bt, e1, e2⟩ hl ho => ⟨bt, e1, kc_put W l o o' hl ho bt _ e2 rfl⟩)
    (fun X Y hX h => h.mono (by omega))
    ?assign1 ?body1 ?done1 ?stop1 ?pan1
  case assign1 =>
    intro l x W K hK
    have hcx : (eE x.k x.z x.b).cells = cE x.k x.z x.b := rfl
    have hK2 := hK _ _ ⟨W.heap.size, rfl, Rowed.new W 36 (cE x.k x.z x.b)⟩ (below_alloc W _)
    rw [HT.out] at hK2
    clear hK
    unfold encE
    gi_wp2_with fail
    exact hK2
  case pan1 =>
    rintro ch D W hf
    cases hf
  case body1 =>
    rintro l pre x a' W ⟨⟨v, hv, hrow, -⟩, hB⟩ ⟨bt, rfl, hbt⟩ hpre
    rw [HT.out]
    have hlen : pre.length + 1 ≤ 10000 := by
      have := hpre.length_le
      rw [List.length_append, List.length_singleton] at this
      omega
    have hc := hv.cell
    have hf := hv.frozen
    have t0 := hbt.cell 0
    have t1 := hbt.cell 1
    have t2 := hbt.cell 2
    have hm1 : pre.length + 1 ≤ maxLen := by unfold maxLen; omega
    gi_wp2_with
      (gi_at_builtin; refine wpListIn_append_own _ rfl _ _ 38 rfl w.heap.size 36 i0 _ 3 24 Tryd.underlying38 hi hz0 hz1 hz2 (by decide) (by decide) _ _ _ rfl (hrow.alloc _) ⟨W.heap.size, 0, none⟩ 1 1 [eB x.k, .int .i64 x.z, eB x.b] rfl rfl (cells_edt _ _ _ _) (by simp [Value.oneCell']) hm1 (by omega) (by have := hB.size; simp; omega) ?_
       intro v' w2 hown' hgrow _
       obtain ⟨g', cap', rfl⟩ := ownsRow_succ hown'
       obtain ⟨hv1', hv2', hr2, hk2, hbl2⟩ := hv.appended (by decide) hrow hB.size (Nat.le_refl _) hown' hgrow
       have hc1 := hv1'.cell
       have hf1 := hv1'.frozen)
    exact ⟨hk2.from _, hbl2, ⟨_, hv2', by rw [flatG_snoc, List.length_append]; exact hr2, trivial⟩, hB.trans hbl2⟩
  case done1 =>
    rintro - D W hD ⟨⟨v, hv, hrow, -⟩, hB⟩ hK
    have hc := hv.cell
    gi_wp2
    refine ⟨by simp, .inl ⟨_, _, rfl, run_takeDeferred hK, ?_⟩⟩
    exact ⟨_, results_tmp rfl _ _ _, v, rfl, ownsRow_putObj hrow _ hK rfl, hB.trans (belowK_b (w := w) (Nat.le_refl _) _ D _ _ (by omega) hK rfl rfl)⟩
  case stop1 =>
    rintro c D W _ h _
    exact h.elim
set_option maxHeartbeats 1000000 in
theorem CollectE_any (gf : Nat) (lb : Array Value) (xs : List Edt) (hxs : xs.length ≤ 10000) (w : World) (hen : ∀ args w, (callFunc gf args).run Tryd.prog w = .ok (.enter gf args) w)
    (hseq : SeqX Fence.wide Tryd.prog gf lb encE (Below w.heap.size) xs none w) :
    Calls Tryd.prog 42 #[.func (.func gf) #[] lb] w fun e w' => ∃ v, e = .returned v ∧ w'.ownsRow w.heap.size 36 3 v xs.length (flatG xs) ∧ Below w.heap.size w w' := by
  go_enter Tryd.func42, Tryd.ntmps42
  go_wp2_with fail
  go_at_call 54
  refine (AppendSeqE_any gf lb xs hxs w hen hseq).mono ?_
  rintro e w' ⟨v, rfl, hv, hB⟩
  go_wp2
  go_ret
  exact ⟨v, rfl, hv, hB⟩
theorem each_any (A : Option Addr) (n c : Nat) (w : World) :
    Calls Tryd.prog 43 #[.slice A n c] w fun e w' => e = .returned (.func (.func 55) #[] #[.pointer (some ⟨w.heap.size, 0, none⟩)]) ∧ w' = w.alloc (.cells #[.slice A n c] 25) := by
  have hmf : ∀ (fn : Fn) (first cap : Array Value) (w : World), (Instr.makeFunc fn first cap).run Tryd.prog w = .ok (.func fn first cap) w := fun _ _ _ _ => rfl
  go_enter Tryd.func43, Tryd.ntmps43
  go_wp2_with fail
  go_ret
  exact ⟨rfl, rfl⟩
theorem edG_len (s : List UInt8) : (edG s).length ≤ 9 * s.length + 5 := by
  have h1 : ∀ k, (upS s k).length ≤ 5 * k := by
    intro k
    induction k with
    | zero => simp [upS]
    | succ k ih =>
      rw [upS_succ, List.length_append, List.length_cons]
      have : (swE (s.getD k 0) k 4).length ≤ 4 := by
        unfold swE
        rw [List.length_map]
        have := List.length_filter_le (fun i => lettE i != s.getD k 0) (List.range 4)
        simpa using this
      omega
  have h2 : ∀ k, (upM k).length = 4 * k := by
    intro k
    induction k with
    | zero => simp [upM]
    | succ k ih =>
      rw [upM_succ, List.length_append, ih]
      simp [moE]
      omega
  have := h1 s.length
  unfold edG
  rw [List.length_cons, List.length_append, h2]
  omega
set_option maxHeartbeats 1000000 in
theorem Edits_any (sv : Value) (s : List UInt8) (hl : s.length ≤ 1000) (w : World) (hS : Sl eB w.heap.size w sv s) (hT : TabE w) :
    Calls Tryd.prog 20 #[sv] w fun e w' => ∃ v, e = .returned v ∧ w'.ownsRow w.heap.size 36 3 v (edG s).length (flatG (edG s)) ∧ Below w.heap.size w w' := by
  obtain ⟨A, c, rfl⟩ := hS.len
  have hA := below_alloc w (.cells #[.slice A s.length c] 25)
  have hb := Boxed.new w 25 (.slice A s.length c)
  have hC := CollectE_any 55 #[.pointer (some ⟨w.heap.size, 0, none⟩)] (edG s) (by have := edG_len s; omega) (w.alloc (.cells #[.slice A s.length c] 25)) (enters_of Tryd.func55 (by kernel_rfl) rfl)
    (each_seq w.heap.size A c s hl _ hb.cell (hS.next hA) (hT.below hA))
  have hE := each_any A s.length c w
  clear hS hl
  go_enter Tryd.func20, Tryd.ntmps20
  go_wp2_with fail
  go_at_call 43
  refine hE.mono ?_
  rintro e w' ⟨rfl, rfl⟩
  go_wp2_with fail
  go_at_call 42
  refine hC.mono ?_
  rintro e w2 ⟨v, rfl, hv, hB⟩
  go_wp2_with fail
  go_ret
  exact ⟨v, rfl, own_monoE hv hA.size, below_trans hA hB⟩
end Go.Proofs.YtapbfjbjbcpiiaaDoor
