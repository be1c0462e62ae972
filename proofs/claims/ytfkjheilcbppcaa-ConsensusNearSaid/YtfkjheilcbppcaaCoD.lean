/- The iterator of consensus.letters. (Seat s27.) -/
import Derived.Test.YtfkjheilcbppcaaCoC
namespace Go.Proofs.Ytfkjheilcbppcaa
open Go.RowKit Go.Shelf
attribute [local go_sem] Oper.semAt_some run_store_func

/-- The bytes and how many have each. -/
def letL (L : List (List UInt8)) (i : Nat) : List (Nat × Nat) := (List.range 256).map fun c => (c, cntA L i c)
def letE (x : Nat × Nat) : Array Value := #[.int .u8 x.1, .int .i64 x.2]
theorem letL_pre (L : List (List UInt8)) (i c : Nat) (h : c < 256) : (letL L i).take c ++ [(c, cntA L i c)] <+: letL L i ∧ (letL L i).take (c + 1) = (letL L i).take c ++ [(c, cntA L i c)] := by
  have hl : c < (letL L i).length := by simp [letL, h]
  have e : (letL L i)[c] = (c, cntA L i c) := by simp [letL]
  have := take_snoc _ _ hl
  rw [e] at this
  exact ⟨by rw [← this]; exact List.take_prefix _ _, this⟩
/-- An int of an array by value, by its index. -/
theorem run_index_ints {P : Program} (t : TypeId) (m : Nat) (e : TypeId) (kd : IntKind) (ht : P.underlying t = some (.array m e)) (hu : P.underlying e = some (.int kd)) (he : (P.info? e).map (·.size) = some 1) (cs : Array Value) (k : Nat) (n : Int) (hl : cs.size = m) (hv : cs[k]? = some (.int .i64 n)) (w : World) :
    (Instr.index t (.agg cs) (.int .i64 (k : Nat))).run P w = .ok (.int .i64 n) w := by
  obtain ⟨hk, hv⟩ := Array.getElem?_eq_some_iff.1 hv
  subst hl
  cases hq : P.info? e with
  | none => rw [hq] at he; cases he
  | some i =>
    have hs : i.size = 1 := by rw [hq] at he; simpa using he
    unfold Instr.index
    simp [asIntOf, Sem.run_bind, run_underlying ht, run_underlying hu, isAgg, Result.andThen, hk, sizeOf, typeInfo, hq, hs, part, hv]
theorem sizeInt1 : (Try.prog.info? 3).map (fun i => i.size) = some 1 := by kernel_rfl
theorem info256 : (Try.prog.info? 60).map (fun i => i.size) = some 256 := by kernel_rfl
set_option maxRecDepth 100000 in
set_option maxHeartbeats 4000000 in
theorem letters_seq (g : Nat) (L : List (List UInt8)) (i : Nat) (w0 : World) (hg : g < w0.heap.size) (h0 : Rowed w0 g 60 (cellsC L i)) (Kp : World → World → Prop) :
    SeqI Fence.wide Try.prog 29 #[.pointer (some ⟨g, 0, none⟩)] letE Kp (letL L i) none w0 := by
  intro l J JS W hW hJo hY hJ0
  have r0 : Rowed W g 60 (cellsC L i) := h0.below hW hg
  have hsr : some 256 = some (cellsC L i).size := by rw [cellsC_size]
  have HE := Lib.hid (show (letL L i).take 256 = letL L i from List.take_of_length_le (by simp [letL]))
  have HC := Lib.hid (fun c (h : c < 256) => cellsC_at L i c h)
  have HP := Lib.hid (letL_pre L i)
  suffices key : CallsIn Fence.wide 1 Try.prog 29 (#[.func (.yield l) #[] #[]] ++ #[.pointer (some ⟨g, 0, none⟩)]) W (fun e W' => (∃ v, e = .returned v ∧ JS W') ∨ ((∃ v, e = .returned v) ∧ J (letL L i) W')) from
    key.mono fun e W' h => h.elim .inl fun h => .inr (.inl ⟨rfl, h⟩)
  generalize letL L i = X at *
  generalize hcs : cellsC L i = cs at *
  generalize cntA L i = f at *
  clear h0 hcs
  refine callsIn_of_wp Try.func29 rfl trivial ?_ rfl
  simp only [Try.ntmps29, List.size_toArray, List.length_cons, List.length_nil, Nat.reduceAdd, Nat.reduceSub, Array.replicate_succ, Array.replicate_zero, List.push_toArray, List.append_toArray, List.nil_append, List.cons_append]
  gi_wp2_with (refine wpListIn_load_row rfl 60 (.tmp 1) rfl g rfl _ cs _ _ r0 Try.underlying60 rfl (info256.trans hsr) ?_)
  gi_loopw [6] (fun i wr => ∃ j : Nat, j ≤ 256 ∧ i = .int .i64 j ∧ J (X.take j) wr) (fun i _ => 256 - (intOf i).toNat)
  case atStart => exact ⟨0, Nat.zero_le _, rfl, hJ0⟩
  case round =>
    obtain ⟨j, hj, rfl, hJ⟩ := hrel
    by_cases hlt : j < 256
    · obtain ⟨q1, q2⟩ := HP.out j hlt
      obtain ⟨fn, tmps, assign, body, hy, hR⟩ := hY _ _ wr hJ q1
      rw [← q2] at hR
      have hc := HC.out j hlt
      have hjl : (j : Int) < 256 := by omega
      have e8 : IntKind.u8.wrap (j : Int) = j := IntWalk.u8_in _ (by omega)
      have hix := run_index_ints (P := Try.prog) 60 256 3 .i64 Try.underlying60 Try.underlying3 sizeInt1 cs j _ (by simpa using hsr.symm) hc
      clear q1 q2 hY hJo
      simp only [letE] at hy
      gi_wp2_with fail
      refine roundIn_room rfl (hR.mono ?_)
      rintro e W3 (⟨rfl, hJ3, -, -⟩ | ⟨rfl, hS3⟩)
      · gi_wp2_with fail
        refine ⟨⟨j + 1, by omega, by go_num, hJ3⟩, ?_⟩
        simp [intOf]
        omega
      · gi_wp2_with fail
        refine bodyPost_ret (results_none rfl _ _ _) rfl ?_
        exact .inl ⟨_, rfl, hS3⟩
    · obtain rfl : j = 256 := by omega
      rw [HE.out] at hJ
      clear hY hJo
      gi_wp2_with fail
      go_end0
      exact .inr ⟨⟨_, rfl⟩, hJ⟩
end Go.Proofs.Ytfkjheilcbppcaa
