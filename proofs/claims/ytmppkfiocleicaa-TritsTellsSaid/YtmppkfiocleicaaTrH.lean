/- Contracts of trits.Pack, Unpack, Back, Long. -/
import Derived.Test.YtmppkfiocleicaaTrG
namespace Go.Proofs.Ytmppkfiocleicaa
open Go.RowKit Go.Shelf
attribute [local go_sem] Oper.semAt_some run_store_func

theorem wpList_load_mid {P : Program} {ops : Array Oper} {rest : List Oper} {o : Oper} {a : Act} {w : World} {Q : Exit → Act → World → Prop} (hgd : o.guard = none) (ty : TypeId) (x : Operand) (ho : o.op = .load ty x)
    (b off : Nat) (hx : a.eval x = .pointer (some ⟨b, off, none⟩)) (L : List UInt8) (d : TypeDesc) (hc : ∀ j x, L[j]? = some x → w.cell? ⟨b, off + j, none⟩ = some (eB x))
    (hu : P.underlying ty = some d) (hd : (match d with | .struct _ | .array _ _ => true | _ => false) = true) (hi : (P.info? ty).map (·.size) = some L.length)
    (h : wpList P ops Q rest (a.put o.dst (.agg (L.map eB).toArray)) w) : wpList P ops Q (o :: rest) a w := by
  refine wpList_plain hgd fun K hK => ?_
  unfold Oper.wp execOp
  simp only [ho, hx, Instr.loadAt, Instr.sureAddr, Sem.run_bind, Sem.run_pure, Result.andThen_ok, run_load_mid w b off ty L d hc hu hd hi]
  exact hK _ _ h
def packG (L : List UInt8) : Except Int (List UInt8) := .ok (trL (nb L 5))
def packL (bs : List UInt8) : Nat → List UInt8
  | 0 => []
  | j + 1 => packL bs j ++ trL (nb (partL bs 5 j) 5)
theorem packL_eq (bs : List UInt8) (k : Nat) : eachG packG bs 5 k = .ok (packL bs k) := by
  induction k with
  | zero => rfl
  | succ k ih => simp only [eachG, ih, packG, packL]
theorem packG_long (L x : List UInt8) (h : packG L = .ok x) : x.length ≤ 26 := by
  cases h; rw [trL_length]; omega
theorem backG_long (L x : List UInt8) (h : backG L = .ok x) : x.length ≤ 26 := by
  unfold backG at h
  split at h
  · cases h
  · split at h
    · cases h
    · cases h; rw [byL_length]; omega

set_option maxRecDepth 100000 in
theorem Pack_yes (sv : Value) (bs : List UInt8) (k : Nat) (hl : bs.length = k * 5) (hreach : bs.length ≤ 1000000) (w : World) (hS : Sl eB w.heap.size w sv bs) :
    Calls Try.prog 10 #[sv] w fun e w' => ∃ v, e = .returned (.tuple #[v, .int .i64 0]) ∧ w'.ownsRow w.heap.size 5 1 v (packL bs k).length ((packL bs k).map eB) ∧ Below w.heap.size w w' := by
  have hE := callsIn_inProg (each_in 5 k 20 #[] packG Pack1_in packG_long ⟨_, Try.func20⟩ (enters_of Try.func20 (by kernel_rfl) rfl) sv bs hl (by omega) (by omega) hreach w hS 0)
  rw [packL_eq] at hE
  obtain ⟨A, c, rfl⟩ := hS.len
  clear hl
  go_enter Try.func10, Try.ntmps10
  go_wp2_with fail
  go_at_call 19
  refine hE.mono ?_
  rintro e w' ⟨hB, ⟨v, r, hr, rfl, hv⟩ | ⟨m, hm, rfl⟩⟩
  · cases hr
    go_wp2
    go_ret2
    exact ⟨v, rfl, hv, hB⟩
  · cases hm
set_option maxRecDepth 100000 in
theorem Pack_no (A : Option Addr) (l c : Nat) (hbad : l % 5 ≠ 0) (hreach : l ≤ 1000000) (w : World) :
    Calls Try.prog 10 #[.slice A l c] w fun e w' => e = .returned (.tuple #[.slice none 0 0, .int .i64 2]) ∧ Below w.heap.size w w' := by
  have hE := callsIn_inProg (each_bad 5 20 #[] A l c (by omega) (by omega) hreach hbad 0 w)
  clear hbad
  go_enter Try.func10, Try.ntmps10
  go_wp2_with fail
  go_at_call 19
  refine hE.mono ?_
  rintro e w' ⟨rfl, hB⟩
  go_wp2
  go_ret2
  exact ⟨rfl, hB⟩
set_option maxRecDepth 100000 in
theorem Unpack_yes (sv : Value) (bs : List UInt8) (k : Nat) (hl : bs.length = k * 26) (hreach : bs.length ≤ 1000000) (w : World) (hS : Sl eB w.heap.size w sv bs) :
    Calls Try.prog 12 #[sv] w fun e w' => Below w.heap.size w w' ∧
      ((∃ v r, eachG backG bs 26 k = .ok r ∧ e = .returned (.tuple #[v, .int .i64 0]) ∧ w'.ownsRow w.heap.size 5 1 v r.length (r.map eB)) ∨ ∃ m, eachG backG bs 26 k = .error m ∧ e = .returned (.tuple #[.slice none 0 0, .int .i64 m])) := by
  have hE := callsIn_inProg (each_in 26 k 21 #[] backG Unpack1_in backG_long ⟨_, Try.func21⟩ (enters_of Try.func21 (by kernel_rfl) rfl) sv bs hl (by omega) (by omega) hreach w hS 0)
  obtain ⟨A, c, rfl⟩ := hS.len
  clear hl
  go_enter Try.func12, Try.ntmps12
  go_wp2_with fail
  go_at_call 19
  refine hE.mono ?_
  rintro e w' ⟨hB, ⟨v, r, hr, rfl, hv⟩ | ⟨m, hm, rfl⟩⟩
  · go_wp2
    go_ret2
    exact ⟨hB, .inl ⟨v, r, hr, rfl, hv⟩⟩
  · go_wp2
    go_ret2
    exact ⟨hB, .inr ⟨m, hm, rfl⟩⟩
set_option maxRecDepth 100000 in
theorem Unpack_no (A : Option Addr) (l c : Nat) (hbad : l % 26 ≠ 0) (hreach : l ≤ 1000000) (w : World) :
    Calls Try.prog 12 #[.slice A l c] w fun e w' => e = .returned (.tuple #[.slice none 0 0, .int .i64 2]) ∧ Below w.heap.size w w' := by
  have hE := callsIn_inProg (each_bad 26 21 #[] A l c (by omega) (by omega) hreach hbad 0 w)
  clear hbad
  go_enter Try.func12, Try.ntmps12
  go_wp2_with fail
  go_at_call 19
  refine hE.mono ?_
  rintro e w' ⟨rfl, hB⟩
  go_wp2
  go_ret2
  exact ⟨rfl, hB⟩
theorem back_one (L : List UInt8) (hl : L.length = 26) : eachG backG L 26 1 = backG L := by
  have h : partL L 26 0 = L := by unfold partL; rw [Nat.zero_mul, List.drop_zero, List.take_of_length_le (by omega)]
  simp only [eachG, h]
  cases backG L <;> simp
theorem sl_own {W : World} {base : Nat} {v : Value} {r : List UInt8} (h : W.ownsRow base 5 1 v r.length (r.map eB)) : Sl eB W.heap.size W v r := Sl.of_own h

theorem results_cell_slot {P : Program} {fn : Func} {p q : Tmp} {ty : TypeId} (h : fn.results = #[.cell p ty, .tmp q]) (tmps : Array Value) (w : World) (g : Nat) (t : TypeId) (cs : Array Value) (fr : Nat × Nat) (d : TypeDesc)
    (hp : tmps.getD p undef = .pointer (some ⟨g, 0, none⟩)) (hg : w.heap[g]? = some (.cells cs t fr)) (hu : P.underlying ty = some d) (hd : (match d with | .struct _ | .array _ _ => true | _ => false) = true) (hi : (P.info? ty).map (·.size) = some cs.size) :
    (results fn tmps).run P w = .ok (.tuple #[.agg cs, tmps.getD q undef]) w := by
  have hp' : tmps[p]?.getD undef = .pointer (some ⟨g, 0, none⟩) := by simpa using hp
  simp [results, h, hp', asAddr, run_loadVar_row w g t ty cs fr d hg hu hd hi, Result.andThen]
set_option maxRecDepth 100000 in
set_option maxHeartbeats 1000000 in
theorem Back_any (L : List UInt8) (hl : L.length = 26) (w : World) :
    Calls Try.prog 8 #[.agg (L.map eB).toArray] w fun e w' => Below w.heap.size w w' ∧
      ((∃ x, backG L = .ok x ∧ e = .returned (.tuple #[.agg (x.map eB).toArray, .int .i64 0])) ∨ ∃ m, backG L = .error m ∧ e = .returned (.tuple #[.agg z5, .int .i64 m])) := by
  obtain ⟨hz, hsz⟩ := zero_of_info info5
  have hc0 : (Value.agg z5).cells = z5 := rfl
  have hcl : (Value.agg (L.map eB).toArray).cells = (L.map eB).toArray := rfl
  have hA := ((Below.refl w.heap.size w).alloc (Nat.le_refl _) (.cells (L.map eB).toArray 23)).alloc (by simp) (.cells z5 22)
  have hr1 := (Rowed.new w 23 (L.map eB).toArray).alloc (.cells z5 22)
  have hr2 := Rowed.new (w.alloc (.cells (L.map eB).toArray 23)) 22 z5
  rw [World.size_alloc] at hr2
  have hsz1 : ((w.alloc (.cells (L.map eB).toArray 23)).alloc (.cells z5 22)).heap.size = w.heap.size + 2 := by simp
  have hsl := arr_slice (P := Try.prog) Try.underlying23 size1 w.heap.size
  have h5 : (Try.prog.info? 22).map (·.size) = some z5.size := by rw [hsz]; rfl
  go_enter Try.func8, Try.ntmps8
  go_wp2_with fail
  generalize (w.alloc (.cells (L.map eB).toArray 23)).alloc (.cells z5 22) = w1 at *
  have hS1 : Sl eB w1.heap.size w1 (.slice (some ⟨w.heap.size, 0, none⟩) 26 26) L := sl_row hr1 _ (by omega) 26 hl
  have hU := Unpack_yes (.slice (some ⟨w.heap.size, 0, none⟩) 26 26) L 1 (by omega) (by omega) w1 hS1
  rw [back_one L hl] at hU
  go_at_call 12
  refine hU.mono ?_
  rintro e w2 ⟨hB2, ⟨v, r, hr, rfl, hv⟩ | ⟨m, hm, rfl⟩⟩
  · have hlr : r.length = 5 := by
      unfold backG at hr
      split at hr
      · cases hr
      · split at hr
        · cases hr
        · cases hr; exact byL_length _
    obtain ⟨A, c, rfl, hcap, hcs⟩ := sl_own hv
    rw [hlr] at hcs ⊢
    obtain ⟨b, off, rfl, hb, hcell⟩ := hcs (by omega)
    have har := arr_run (P := Try.prog) Try.underlying22 (some ⟨b, off, none⟩) c
    have hr5 := hr2.below hB2 (by omega)
    have hsr : (Try.prog.info? 22).map (·.size) = some r.length := by rw [hlr]; exact infoz5
    have hsr2 : (Try.prog.info? 22).map (·.size) = some (r.map eB).toArray.size := by simpa using hsr
    have h1c : (r.map eB).toArray.all (·.oneCell') = true := by
      rw [Array.all_eq_true']
      intro x hx
      simp only [List.mem_toArray, List.mem_map] at hx
      obtain ⟨j, _, rfl⟩ := hx
      rfl
    have hol : z5.size = (r.map eB).toArray.size := by simp [hlr]; rfl
    have HR := Lib.hid hr
    clear hr hlr
    go_wp2_with (first
      | (refine wpList_load_mid rfl 22 (.tmp 16) rfl b off rfl r _ hcell Try.underlying22 rfl hsr ?_)
      | (refine wpList_store_row rfl 22 (.tmp 2) (.tmp 17) rfl (w.heap.size + 1) (r.map eB).toArray rfl rfl _ z5 hr5 hsr2 hol h1c ?_))
    have hrow := setRow_heap w2 (w.heap.size + 1) z5 (r.map eB).toArray _ _ hr5
    have hB3 : Below w.heap.size w (w2.setRow (w.heap.size + 1) (r.map eB).toArray) :=
      (hA.trans (hB2.mono (by omega))).trans ⟨rfl, rfl, rfl, by simp, fun k hk => setRow_other _ (w.heap.size + 1) k _ (by omega)⟩
    refine bodyPost_ret (v := .tuple #[.agg (r.map eB).toArray, .int .i64 0]) ?_ rfl ⟨hB3, .inl ⟨r, HR.out, rfl⟩⟩
    exact results_cell_slot (p := 2) (q := 3) rfl _ _ (w.heap.size + 1) _ _ _ _ rfl hrow Try.underlying22 rfl hsr2
  · have hr5 := hr2.below hB2 (by omega)
    have hmm : ((m : Int) == 0) = false := by
      unfold backG at hm
      split at hm
      · cases hm; rfl
      · split at hm
        · cases hm; rfl
        · cases hm
    have h5c : z5.all (·.oneCell') = true := by rw [← by5_zero 0]; exact by5_one 0 0
    have Hm := Lib.hid hm
    clear hm
    go_wp2_with (refine wpList_store_row rfl 22 (.tmp 2) (.tmp 13) rfl (w.heap.size + 1) z5 rfl rfl _ z5 hr5 h5 rfl h5c ?_)
    have hrow := setRow_heap w2 (w.heap.size + 1) z5 z5 _ _ hr5
    have hB3 : Below w.heap.size w (w2.setRow (w.heap.size + 1) z5) :=
      (hA.trans (hB2.mono (by omega))).trans ⟨rfl, rfl, rfl, by simp, fun k hk => setRow_other _ (w.heap.size + 1) k _ (by omega)⟩
    refine bodyPost_ret (v := .tuple #[.agg z5, .int .i64 m]) ?_ rfl ⟨hB3, .inr ⟨m, Hm.out, rfl⟩⟩
    exact results_cell_slot (p := 2) (q := 3) rfl _ _ (w.heap.size + 1) _ _ _ _ rfl hrow Try.underlying22 rfl h5
end Go.Proofs.Ytmppkfiocleicaa
