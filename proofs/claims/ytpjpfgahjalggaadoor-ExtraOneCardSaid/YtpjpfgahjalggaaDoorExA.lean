/- Contracts of slices.Delete of one byte, extra.Without. -/
import Derived.Test.YtpjpfgahjalggaaDoorSD
import Derived.Test.YtpjpfgahjalggaaDoorSA
import Derived.Test.YtpjpfgahjalggaaDoorMG
import Derived.Lib.SliceRun
namespace Go.Proofs.YtpjpfgahjalggaaDoor
open Go.RowKit Go.Shelf
attribute [local go_sem] Oper.semAt_some run_store_func

theorem wrap_small (z : Int) (h0 : 0 ≤ z) (h1 : z ≤ 1000001) : IntKind.i64.wrap z = z := by rw [IntKind.wrap_i64]; omega
theorem wrap64_small (z : Int) (h0 : 0 ≤ z) (h1 : z ≤ 1000001) : wrap64 z = z := by rw [wrap64]; omega
theorem wrap_succ (n : Nat) (h : n ≤ 1000000) : IntKind.i64.wrap ((n : Int) + 1) = (n : Int) + 1 := wrap_small _ (by omega) (by omega)
theorem wrap64_succ (n : Nat) (h : n ≤ 1000000) : wrap64 ((n : Int) + 1) = (n : Int) + 1 := wrap64_small _ (by omega) (by omega)
theorem add_off (g i j : Nat) : (⟨g, i, none⟩ : Addr).add j = ⟨g, i + j, none⟩ := by unfold Addr.add; split <;> simp_all
theorem below_drew_w (w : World) : Below w.heap.size w w.drew := ⟨rfl, rfl, rfl, Nat.le_refl _, fun _ _ => rfl⟩
theorem zero_u8 (w : World) : (zeroValue 5).run Tryd.prog w = .ok (.int .u8 0) w := by kernel_rfl
set_option maxRecDepth 100000 in
set_option maxHeartbeats 4000000 in
theorem delete_own (x : List UInt8) (i : Nat) (hi : i < x.length) (hreach : x.length ≤ 1000000) (base : Nat) (v : Value) (w : World) (hbase : base ≤ w.heap.size) (hown : Own8 base w v x) :
    Calls Tryd.prog 20 #[v, .int .i64 i, .int .i64 ((i : Int) + 1)] w fun e w' => ∃ v', e = .returned v' ∧ Own8 base w' v' (delW x i) ∧ Below base w w' := by
  obtain ⟨i0, hi0, hz0, hz1, hz2⟩ := info_parts info_u8
  rcases hown.2 with ⟨_, h⟩ | ⟨g, cap, cur, rfl, hbg, hg, hle, hcm, hcs, htk⟩
  · omega
  rw [Nat.mul_one] at hcs htk
  obtain ⟨L, rfl⟩ : ∃ L : List Value, cur = L.toArray := ⟨cur.toList, by simp⟩
  have hL : L.length = cap := by simpa using hcs
  have htk : L.take x.length = x.map eB := by simpa using htk
  have hg' : Rowed w g 5 L.toArray := hg
  have hgd : Rowed w.drew g 5 L.toArray := hg
  have hgl := hg'.lt
  have hn : (x.map eB).length = x.length := by simp
  have hdl : ((x.map eB).drop (i + 1)).length = x.length - (i + 1) := by rw [List.length_drop, hn]
  have hcell : ∀ j v, (x.map eB)[j]? = some v → w.drew.cell? ⟨g, j, none⟩ = some v := fun j v h => by
    rw [← htk, List.getElem?_take] at h
    split at h
    · rw [hgd.cell j]
      simpa using h
    · cases h
  obtain ⟨news, hnews⟩ : ∃ news, news = (x.map eB).drop (i + 1) := ⟨_, rfl⟩
  have hnl : news.length = x.length - (i + 1) := by rw [hnews, hdl]
  obtain ⟨A, hA, hsrc⟩ : ∃ A : Addr, (if cap = i + 1 then some (⟨g, 0, none⟩ : Addr) else some ⟨g, i + 1, none⟩) = some A ∧ Hid (∀ t u, news[t]? = some u → w.drew.cell? (A.add t) = some u) := by
    by_cases h : cap = i + 1
    · refine ⟨⟨g, 0, none⟩, by simp [h], fun t u hu => ?_⟩
      rw [List.eq_nil_of_length_eq_zero (show news.length = 0 by omega)] at hu
      simp at hu
    · refine ⟨⟨g, i + 1, none⟩, by simp [h], fun t u hu => ?_⟩
      rw [add_off]
      refine hcell _ u ?_
      rwa [hnews, List.getElem?_drop] at hu
  have s1 : Hid (news.length = (x.length - (i + 1)) * 1) := Lib.hid (by rw [Nat.mul_one]; exact hnl)
  have s2 : Hid (∀ u ∈ news, u.oneCell' = true) := Lib.hid (by
    intro u hu
    rw [hnews] at hu
    obtain ⟨y, _, rfl⟩ := List.mem_map.1 (List.mem_of_mem_drop hu)
    rfl)
  have s3 : Hid (∀ t, t < news.length → (w.drew.cell? ⟨g, 0 + i * 1 + t, none⟩).isSome = true ∧ w.drew.frozen? ⟨g, 0 + i * 1 + t, none⟩ = false) := Lib.hid (by
    intro t ht
    refine ⟨?_, hgd.frozen _⟩
    rw [hgd.cell]
    simp
    omega)
  obtain ⟨W1, hW1⟩ : ∃ W1, W1 = w.drew.setCells g (0 + i * 1) news := ⟨_, rfl⟩
  have hr1 : Rowed W1 g 5 (splice L i news).toArray := by
    rw [hW1, Nat.mul_one, Nat.zero_add]
    exact rowed_setCells news i L w.drew hgd (by omega)
  have hB1 : Below base w W1 := by
    rw [hW1]
    exact below_setCells hbg news _ ((below_drew_w w).mono hbase)
  have hsl : (splice L i news).length = cap := by rw [length_splice _ _ _ (by omega), hL]
  have hcl : ∀ ty, (Builtin.clear_ #[22] ty #[.slice (some ⟨g, i + (x.length - (i + 1)), none⟩) (x.length - (i + (x.length - (i + 1)))) (cap - (i + (x.length - (i + 1))))]).run Tryd.prog W1 = .ok (.tuple #[]) (W1.setCells g (i + (x.length - (i + 1))) (List.replicate (x.length - (i + (x.length - (i + 1)))) (eB 0))) :=
    fun ty => Lib.run_clear_slice W1 _ _ ty _ Tryd.underlying22 zero_u8 rfl rfl g (i + (x.length - (i + 1))) _ _ (by omega) (fun t ht => by rw [hr1.cell]; simp; omega) (fun t ht => hr1.frozen _)
  have hr2 := rowed_setCells (List.replicate (x.length - (i + (x.length - (i + 1)))) (eB 0)) (i + (x.length - (i + 1))) _ W1 hr1 (by simp; omega)
  have hB2 := below_setCells hbg (List.replicate (x.length - (i + (x.length - (i + 1)))) (eB 0)) (i + (x.length - (i + 1))) hB1
  have hW : Hid (W1 = w.drew.setCells g (0 + i * 1) news) := Lib.hid hW1
  have HX := Lib.hid (And.intro hr2 (And.intro hB2 (And.intro htk (And.intro hL (And.intro hnews hsl)))))
  have hne : ¬ ((i : Int) = (i : Int) + 1) := by omega
  have htn : ((i : Int) + 1).toNat = i + 1 := by omega
  have b1 : (i : Int) ≤ (i : Int) + 1 := by omega
  have b2 : (0 : Int) ≤ (i : Int) + 1 := by omega
  have b3 : (i : Int) + 1 ≤ (x.length : Int) := by omega
  have b4 : (x.length : Int) ≤ (cap : Int) := by omega
  have b5 : (i : Int) + 1 ≤ (cap : Int) := by omega
  have b6 : (i : Int) ≤ (cap : Int) := by omega
  have Hi := Lib.hid hi
  clear hW1 hr1 hB1 hr2 hB2 hnews hnl hdl hn hcell hgd hg' hg htk hL hcs hsl hz0 hz2 hown
  go_enter Tryd.func20, Tryd.ntmps20
  go_wp2_with fail
  go_region_law (refine step_append_room rfl (.tmp 22) (.tmp 25) 22 rfl 5 i0 1 Tryd.underlying22 hi0 hz1 g 0 i cap (by simp [Act.eval, Act.put]) A (x.length - (i + 1)) (cap - (i + 1)) news (by simp [Act.eval, Act.put]) s1.out hsrc.out s2.out (by omega) s3.out ?_; rw [← hW.out])
  go_wp2_with fail
  go_ret
  have hi' := Hi.out
  have e1 : i + (x.length - (i + 1)) = x.length - 1 := by omega
  have e2 : x.length - (x.length - 1) = 1 := by omega
  have hl : (delW x i).length = x.length - 1 := by have := delW_length x i hi'; omega
  obtain ⟨X1, X2, X3, X4, X5, X6⟩ := HX.out
  rw [e1, e2] at X1 X2
  rw [e1, e2]
  have ho : (W1.setCells g (x.length - 1) (List.replicate 1 (eB 0))).ownsRow base 5 1 (.slice (some ⟨g, 0, none⟩) (x.length - 1) cap) (x.length - 1) ((delW x i).map eB) := by
    refine ⟨by rw [List.length_map, hl, Nat.mul_one], .inr ⟨g, cap, _, rfl, hbg, X1, by omega, hcm, ?_, ?_⟩⟩
    · rw [List.size_toArray, length_splice _ _ _ (by rw [X6]; simp; omega), X6, Nat.mul_one]
    · rw [Nat.mul_one, X5]
      have h := del_take (eB 0) X3 hi' (by omega)
      rw [show (List.replicate 1 (eB 0)) = [eB 0] from rfl, h]
      simp [delW]
  exact ⟨_, rfl, by rw [Own8, hl]; exact ho, X2⟩
end Go.Proofs.YtpjpfgahjalggaaDoor
