/- Contract of the reference's Unpack. -/
import Derived.Test.YtmppkfiocleicaaTsB
import Derived.Laws.CopyOwn
import Derived.Deep.Onto
namespace Go.Proofs.Ytmppkfiocleicaa
open Go.RowKit Go.Shelf
attribute [local go_sem] Oper.semAt_some run_store_func

/-- copy of bytes into a row that is known whole. -/
theorem copy_run {P : Program} {w : World} (dT sT ty : TypeId) (elem : TypeId) (hu : P.underlying dT = some (.slice elem)) (hsz : (P.info? elem).map (·.size) = some 1)
    (g N cap : Nat) (sv : Value) (cur : Array Value) (t : TypeId) (hg : Rowed w g t cur) (hN : cur.size = N)
    (B : Nat) (bs : List UInt8) (hS : Sl eB B w sv bs) (hle : bs.length ≤ N) :
    ∃ w', (Builtin.copy_ #[dT, sT] ty #[.slice (some ⟨g, 0, none⟩) N cap, sv]).run P w = .ok (goInt bs.length) w' ∧ Rowed w' g t ((bs.map eB) ++ cur.toList.drop bs.length).toArray ∧ (∀ B, B ≤ g → Below B w w') ∧ (∀ k, k ≠ g → w'.heap[k]? = w.heap[k]?) ∧ w'.heap.size = w.heap.size := by
  subst hN
  obtain ⟨A, c, rfl, hc, hcells⟩ := hS
  by_cases h0 : bs.length = 0
  · obtain rfl : bs = [] := List.eq_nil_of_length_eq_zero h0
    refine ⟨w, run_copy_none (P := P) w dT sT ty elem _ _ _ _ _ _ hu hsz (by simp), ?_, fun B _ => Below.refl _ _, fun _ _ => rfl, rfl⟩
    simpa using hg
  · obtain ⟨b, off, rfl, hb, hcell⟩ := hcells (by omega)
    have hrun := run_copy_row (P := P) w dT sT ty elem g 0 cur.size cap ⟨b, off, none⟩ bs.length c cur t (bs.map eB) hu hsz hg (by rw [List.length_map]; exact (Nat.min_eq_left hle).symm)
      (fun j v hv => by
        rw [List.getElem?_map] at hv
        obtain ⟨x, hx, rfl⟩ := Option.map_eq_some_iff.1 hv
        rw [show (⟨b, off, none⟩ : Addr).add j = ⟨b, off + j, none⟩ from by unfold Addr.add; split <;> simp_all]
        exact hcell j x hx) (by simp; omega) (fun v hv => by obtain ⟨x, _, rfl⟩ := List.mem_map.1 hv; rfl)
    exact ⟨w.setRow g ((bs.map eB) ++ cur.toList.drop bs.length).toArray, by simpa using hrun, setRow_heap w g _ _ t _ hg, fun B hB => below_setRow (Below.refl _ _) _ _ hB, fun k hk => setRow_other w g k _ hk, by simp [World.setRow]⟩

theorem bdrew (B : Nat) (w : World) : Below B w w.drew := ⟨rfl, rfl, rfl, Nat.le_refl _, fun _ _ => rfl⟩
theorem back_is (L : List UInt8) : ∃ x e0, BackIs L x e0 := by
  cases hb : backG L with
  | ok x => exact ⟨x, 0, backG_len hb, .inl ⟨hb, rfl⟩⟩
  | error m => exact ⟨List.replicate 5 0, m, rfl, .inr ⟨hb, rfl⟩⟩
theorem backG_ne {L : List UInt8} {m : Int} (h : backG L = .error m) : m ≠ 0 := by
  unfold backG at h
  split at h
  · cases h; omega
  · split at h
    · cases h; omega
    · cases h
set_option maxRecDepth 100000 in
theorem RUnpack_no (A : Option Addr) (l c : Nat) (hbad : l % 26 ≠ 0) (hreach : l ≤ 1000000) (w : World) :
    Calls Try.prog 13 #[.slice A l c] w fun e w' => e = .returned (.tuple #[.slice none 0 0, .int .i64 2]) ∧ Below w.heap.size w w' := by
  have d2 : (((l : Int) % 26) != 0) = true := by
    have : (l : Int) % 26 ≠ 0 := by omega
    simpa using this
  clear hbad
  go_enter Try.func13, Try.ntmps13
  go_wp2_with fail
  go_ret2
  exact ⟨rfl, Below.refl _ _⟩

set_option maxRecDepth 100000 in
set_option maxHeartbeats 4000000 in
theorem RUnpack_yes (sv : Value) (bs : List UInt8) (k : Nat) (hl : bs.length = k * 26) (hreach : bs.length ≤ 1000000) (w : World) (hS : Sl eB w.heap.size w sv bs) :
    Calls Try.prog 13 #[sv] w fun e w' => Below w.heap.size w w' ∧
      ((∃ v r, eachG backG bs 26 k = .ok r ∧ e = .returned (.tuple #[v, .int .i64 0]) ∧ w'.ownsRow w.heap.size 5 1 v r.length (r.map eB)) ∨ ∃ m, eachG backG bs 26 k = .error m ∧ e = .returned (.tuple #[.slice none 0 0, .int .i64 m])) := by
  obtain ⟨A, c, hsv, hcap, hcells⟩ := hS
  subst hsv
  have d2 : (((bs.length : Int) % 26) != 0) = false := by
    have : (bs.length : Int) % 26 = 0 := by omega
    rw [this]; rfl
  obtain ⟨hz, hsz⟩ := zero_of_info info26
  obtain ⟨hz5, hsz5⟩ := zero_of_info info5
  rw [z26_eq] at hz
  rw [z5_eq] at hz5
  have hc1 := cells_aB (List.replicate 26 0)
  have hc5 := cells_aB (List.replicate 5 0)
  obtain ⟨Z, hZ⟩ : ∃ Z : List UInt8, List.replicate 26 (0 : UInt8) = Z := ⟨_, rfl⟩
  have hZl : Z.length = 26 := by rw [← hZ]; rfl
  rw [hZ] at hz hc1
  clear hZ
  obtain ⟨Z5, hZ5⟩ : ∃ Z5 : List UInt8, List.replicate 5 (0 : UInt8) = Z5 := ⟨_, rfl⟩
  have hZ5l : Z5.length = 5 := by rw [← hZ5]; rfl
  rw [hZ5] at hz5 hc5
  clear hZ5
  have Hl := Lib.hid hl
  clear hl
  obtain ⟨i0, hi, hz0, hz1, hz2⟩ := info_parts info_u8T
  go_enter Try.func13, Try.ntmps13
  go_wp2_with fail
  go_loopw [4, 5] (fun z i wr => ∃ (j : Nat) (r : List UInt8), j ≤ k ∧ i = .int .i64 (j * 26 : Nat) ∧ eachG backG bs 26 j = .ok r ∧ wr.ownsRow w.heap.size 5 1 z r.length (r.map eB) ∧ Below w.heap.size w wr) (fun _ i _ => bs.length - (intOf i).toNat)
  case atStart => exact ⟨0, [], Nat.zero_le _, by simp, rfl, ⟨rfl, .inl ⟨rfl, rfl⟩⟩, Below.refl _ _⟩
  case round =>
    obtain ⟨j, r, hj, rfl, hok, hrow, hB⟩ := hrel
    have hrl := eachG_long backG_long hok
    by_cases hlt : j < k
    · have hjm : (j + 1) * 26 ≤ k * 26 := Nat.mul_le_mul_right 26 hlt
      have hlen := Hl.out
      obtain ⟨b, off, rfl, hb, hcell⟩ := hcells (by omega)
      have hbig : j * 26 ≤ 1000000 := by omega
      obtain ⟨v, hv⟩ : ∃ v, v = j * 26 := ⟨_, rfl⟩
      have hpl := partL_length hlen hlt
      have hpc : ∀ i y, (partL bs 26 j)[i]? = some y → w.cell? ⟨b, off + v + i, none⟩ = some (eB y) := fun i y h => by
        rw [Nat.add_assoc, hv]
        exact hcell _ y (partL_get h)
      obtain ⟨x, e0, hbi⟩ := back_is (partL bs 26 j)
      have hBk := RBack_any (partL bs 26 j) x e0 hpl hbi
      have hx5 := hbi.1
      have Hbi := Lib.hid hbi
      rw [← hv] at hbig ⊢
      have b1 : v + 26 ≤ bs.length := by omega
      have Hv := Lib.hid hv
      have e5 : IntKind.i64.wrap ((v : Int) + 26) = ((v + 26 : Nat) : Int) := by rw [IntWalk.i64_in _ (by omega)]; omega
      have dl : decide ((v : Int) < (bs.length : Int)) = true := decide_eq_true (by omega)
      have hPs : ∀ w', Below w.heap.size w w' → Sl eB w.heap.size w' (.slice (some ⟨b, off + v, none⟩) (partL bs 26 j).length (c - v)) (partL bs 26 j) := fun w' hB' =>
        ⟨_, _, rfl, by omega, fun _ => ⟨b, off + v, rfl, hb, fun i y hy => (hB'.cell (p := ⟨b, off + v + i, none⟩) hb).trans (hpc i y hy)⟩⟩
      rw [hpl] at hPs
      have hv0 : ∃ A' l' c', u4 = .slice A' l' c' := by
        rcases hrow.2 with ⟨rfl, _⟩ | ⟨gg, cap, cur, rfl, _⟩
        · exact ⟨_, _, _, rfl⟩
        · exact ⟨_, _, _, rfl⟩
      obtain ⟨A', l', c', rfl⟩ := hv0
      have m1 : (v : Int) ≤ (c : Int) := by omega
      have m3 : ((v + 26 : Nat) : Int) ≤ (c : Int) := by omega
      have m5 : ¬ c = v := by omega
      have m7 : (v : Int) + 26 ≤ (c : Int) := by omega
      have m8 : (v : Int) ≤ (v : Int) + 26 := by omega
      have m9 : ((v : Int) + 26).toNat = v + 26 := by omega
      have m10 : v + 26 - v = 26 := by omega
      have m11 : (0 : Int) ≤ (v : Int) + 26 := by omega
      have m6 : v ≤ v + 26 := by omega
      have hw1 : Below wr.heap.size wr (wr.alloc (.cells (Z.map eB).toArray 23)) := below_alloc _ _
      have hr6 := Rowed.new wr 23 (Z.map eB).toArray
      have hBd := below_trans hB hw1
      have hsB := hB.size
      obtain ⟨wc, hcopy, hrc, hBc, hoc, hsc⟩ := copy_run (P := Try.prog) (w := (wr.alloc (.cells (Z.map eB).toArray 23)).drew) 24 24 3 5 Try.underlying24 size1 wr.heap.size 26 26 (.slice (some ⟨b, off + v, none⟩) 26 (c - v)) (Z.map eB).toArray 23 hr6 (by simp [hZl]) w.heap.size (partL bs 26 j)
        (hPs _ (hBd.trans ⟨rfl, rfl, rfl, Nat.le_refl _, fun _ _ => rfl⟩)) (by omega)
      have hre : ((partL bs 26 j).map eB ++ (Z.map eB).toArray.toList.drop (partL bs 26 j).length).toArray = ((partL bs 26 j).map eB).toArray := by
        rw [hpl, List.drop_of_length_le (by simp [hZl]), List.append_nil]
      rw [hre] at hrc
      have hsl := arr_slice (P := Try.prog) Try.underlying23 size1 wr.heap.size
      rw [hpl] at hcopy
      clear hpc hcell hlen hjm hre hr6 hcells hv hpl
      go_wp2_with fail
      go_still_tail 6, (by kernel_rfl)
      change wpList _ _ _ _ _ (wr.alloc (.cells (Z.map eB).toArray 23)).drew
      have hB3 : Below w.heap.size w wc := (hBd.trans (bdrew _ _)).trans (hBc _ hsB)
      have hW3 : Below wr.heap.size wr wc := (hw1.trans (bdrew _ _)).trans (hBc _ (Nat.le_refl _))
      have sP := size26 (partL bs 26 j) (by have := partL_length Hl.out hlt; exact this)
      have sx := size5 x hx5
      have z5x : (Z5.map eB).toArray.size = (x.map eB).toArray.size := by simp [hZ5l, hx5]
      have ox := one_map x
      have Hbk := Lib.hid (show eachG backG bs 26 (j + 1) = match backG (partL bs 26 j) with | .error e => .error e | .ok y => .ok (r ++ y) by rw [eachG, hok]; rfl)
      have Hok := Lib.hid hok
      clear hok hPs hBd hw1 hoc hsc hBc hbi
      generalize partL bs 26 j = P at *
      generalize (wr.alloc (.cells (Z.map eB).toArray 23)).drew = wd at *
      go_wp2_with (refine wpList_load_row rfl 23 (.tmp 6) rfl wr.heap.size rfl _ (P.map eB).toArray _ _ hrc Try.underlying23 rfl sP ?_)
      go_at_call 9
      refine (hBk _).mono ?_
      rintro e w4 ⟨rfl, hB4⟩
      have hr7 := Rowed.new w4 22 (Z5.map eB).toArray
      have hr8 := Row8.put hr7 x
      have hB5 := below_trans hB3 hB4
      have hW5 := below_trans hW3 hB4
      have hB6 := below_setRow (hB5.alloc hB5.size (.cells (Z5.map eB).toArray 22)) w4.heap.size (x.map eB).toArray hB5.size
      have hW6 := below_setRow (hW5.alloc hW5.size (.cells (Z5.map eB).toArray 22)) w4.heap.size (x.map eB).toArray hW5.size
      clear hBk hrc hcopy sP
      by_cases he0 : e0 = 0
      · have hb1 : ((e0 : Int) != 0) = false := by rw [he0]; rfl
        subst he0
        have hbx : backG P = .ok x := by
          rcases Hbi.out.2 with ⟨h1, _⟩ | ⟨h1, _⟩
          · exact h1
          · exact absurd rfl (backG_ne h1)
        have Hn := Lib.hid (show eachG backG bs 26 (j + 1) = .ok (r ++ x) by rw [Hbk.out, hbx])
        clear hbx
        have hsl5 := arr_slice (P := Try.prog) Try.underlying22 size1 w4.heap.size
        have hss := sl_row hr8 ((w4.alloc (.cells (Z5.map eB).toArray 22)).setRow w4.heap.size (x.map eB).toArray).heap.size hr8.lt 5 hx5
        have hrow2 : ((w4.alloc (.cells (Z5.map eB).toArray 22)).setRow w4.heap.size (x.map eB).toArray).ownsRow w.heap.size 5 1 (.slice A' l' c') r.length (r.map eB) := World.ownsRow.kept hrow (row := none) ⟨hW6.os, hW6.tape, hW6.output, hW6.size, fun k hk _ => hW6.block k hk⟩ (by
          cases hvb : (Value.slice A' l' c').ownBlock with
          | none => exact .inl rfl
          | some k => exact .inr (fun e => by cases e))
        have hsB6 := hB6.size
        have hj2 : j ≤ 40000 := by have := Hv.out; omega
        have hm63 : r.length + x.length ≤ maxLen := by unfold maxLen; omega
        have hm64 : (r.length + x.length) * 1 ≤ 140737488355328 := by omega
        clear hrow hB
        go_wp2_with (first
          | (refine wpList_store_row rfl 22 (.tmp 7) (.tmp 29) rfl w4.heap.size (x.map eB).toArray rfl rfl _ _ hr7 sx z5x ox ?_)
          | (refine wpList_append_sl _ rfl _ _ 24 rfl w.heap.size 5 i0 (.int .u8 0) 1 Try.underlying24 hi hz0 hz1 hz2 rfl _ _ _ hrow2 rfl _ _ x hss rfl (fun _ => rfl) hm63 hm64 hsB6 ?_
             intro v' w7 o1 o2 o3))
        have hBf := hB6.trans (below_grown hrow2 o2 hsB6 (Nat.le_refl _))
        have hv := Hv.out
        refine ⟨⟨j + 1, r ++ x, by omega, by rw [show ((((j + 1) * 26 : Nat) : Nat) : Int) = (v : Int) + 26 by omega], Hn.out, ?_, hBf⟩, ?_⟩
        · rw [List.length_append, List.map_append]
          exact o1
        · simp [intOf]
          omega
      · have hb1 : ((e0 : Int) != 0) = true := by simpa using he0
        have hbx : backG P = .error e0 := by
          rcases Hbi.out.2 with ⟨_, h1⟩ | ⟨h1, _⟩
          · exact absurd h1 he0
          · exact h1
        have hfin : eachG backG bs 26 k = .error e0 := eachG_err (j := j + 1) (by rw [Hbk.out, hbx]) hlt
        have Hfin := Lib.hid hfin
        clear hfin hbx
        go_wp2_with (refine wpList_store_row rfl 22 (.tmp 7) (.tmp 29) rfl w4.heap.size (x.map eB).toArray rfl rfl _ _ hr7 sx z5x ox ?_)
        go_ret2
        exact ⟨hB6, .inr ⟨e0, Hfin.out, rfl⟩⟩
    · obtain rfl : j = k := by omega
      have hlen := Hl.out
      have dl : decide (((j * 26 : Nat) : Int) < (bs.length : Int)) = false := decide_eq_false (by omega)
      have dl2 : ¬ j * 26 < bs.length := by omega
      have Hok := Lib.hid hok
      clear hlen hok
      go_wp2_with fail
      go_ret2
      exact ⟨hB, .inl ⟨_, r, Hok.out, rfl, hrow⟩⟩
end Go.Proofs.Ytmppkfiocleicaa
