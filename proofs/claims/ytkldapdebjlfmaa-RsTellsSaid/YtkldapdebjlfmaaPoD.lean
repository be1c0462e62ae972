/- Contract of poly.Add. -/
import Derived.Test.YtkldapdebjlfmaaPoC
import Derived.Laws.CopyOwn
import Derived.Deep.Onto
namespace Go.Proofs.Ytkldapdebjlfmaa
open Go.RowKit Go.Shelf
attribute [local go_sem] Oper.semAt_some run_store_func

/-- copy of bytes into a row that is known whole. -/
theorem copy_run {P : Program} {w : World} (dT sT ty : TypeId) (elem : TypeId) (hu : P.underlying dT = some (.slice elem)) (hsz : (P.info? elem).map (·.size) = some 1)
    (g N cap : Nat) (sv : Value) (cur : Array Value) (t : TypeId) (hg : Rowed w g t cur) (hN : cur.size = N)
    (B : Nat) (bs : List UInt8) (hS : Sl eB B w sv bs) (hle : bs.length ≤ N) :
    ∃ w', (Builtin.copy_ #[dT, sT] ty #[.slice (some ⟨g, 0, none⟩) N cap, sv]).run P w = .ok (goInt bs.length) w' ∧ Rowed w' g t ((bs.map eB) ++ cur.toList.drop bs.length).toArray ∧ (∀ B, B ≤ g → Below B w w') ∧ (∀ k, k ≠ g → w'.heap[k]? = w.heap[k]?) ∧ w'.heap.size = w.heap.size := by
  subst hN
  obtain ⟨A, c, rfl, hc, hcells⟩ := hS
  by_cases h0 : bs.length = 0
  · obtain rfl : bs = [] := List.eq_nil_of_length_eq_zero h0
    refine ⟨w, run_copy_none (P := P) w dT sT ty elem _ _ _ _ _ _ hu hsz (by simp), ?_, fun B _ => Below.refl _ _, fun _ _ => rfl, rfl⟩
    simpa using hg
  · obtain ⟨b, off, rfl, hb, hcell⟩ := hcells (by omega)
    have hrun := run_copy_row (P := P) w dT sT ty elem g 0 cur.size cap ⟨b, off, none⟩ bs.length c cur t (bs.map eB) hu hsz hg (by rw [List.length_map]; exact (Nat.min_eq_left hle).symm)
      (fun j v hv => by
        rw [List.getElem?_map] at hv
        obtain ⟨x, hx, rfl⟩ := Option.map_eq_some_iff.1 hv
        rw [show (⟨b, off, none⟩ : Addr).add j = ⟨b, off + j, none⟩ from by unfold Addr.add; split <;> simp_all]
        exact hcell j x hx) (by simp; omega) (fun v hv => by obtain ⟨x, _, rfl⟩ := List.mem_map.1 hv; rfl)
    exact ⟨w.setRow g ((bs.map eB) ++ cur.toList.drop bs.length).toArray, by simpa using hrun, setRow_heap w g _ _ t _ hg, fun B hB => below_setRow (Below.refl _ _) hB _, fun k hk => setRow_other w g k _ hk, by simp [World.setRow]⟩

theorem u8_size : (Try.prog.info? 5).map (·.size) = some 1 := by kernel_rfl
/-- A row of so many noughts is made. -/
theorem make_run (N : Nat) (hN : N ≤ 1000000) (z : Int) (hz : z = N) (w : World) : (Instr.makeSlice 22 (.int .i64 z) (.int .i64 z)).run Try.prog w = .ok (.slice (some ⟨w.heap.size, 0, none⟩) N N) (w.alloc (.cells (cellsF (fun _ => 0) N) 5)) := by
  subst hz
  obtain ⟨i0, hi, hz0, hz1, hz2⟩ := info_parts info_u8
  have h1 := run_make (P := Try.prog) w 22 5 i0 (.int .u8 0) Try.underlying22 hi hz0 .i64 .i64 (N : Int) (N : Int) (by omega) (by omega) (by rw [hz2]; omega) (by omega)
  have h2 : madeCells (Value.int .u8 0).cells ((N : Int).toNat * i0.size) = cellsF (fun _ => 0) N := by
    rw [hz1]
    apply Array.ext
    · simp [madeCells, cellsF, Value.cells]
    · intro j _ _
      simp [madeCells, cellsF, Value.cells, Nat.mod_one]
  rw [h2] at h1
  simpa using h1
/-- A whole row that holds the factors of f is a slice that reads as them. -/
theorem sl_cellsF {W : World} {g : Nat} {t : TypeId} {f : Nat → UInt8} {N : Nat} (h : Rowed W g t (cellsF f N)) (B : Nat) (hB : g < B) : Sl eB B W (.slice (some ⟨g, 0, none⟩) N N) ((List.range N).map f) := by
  refine ⟨some ⟨g, 0, none⟩, N, by simp, by simp, fun _ => ⟨g, 0, rfl, hB, fun j x hx => ?_⟩⟩
  rw [Nat.zero_add, h.cell j]
  rw [List.getElem?_map] at hx
  obtain ⟨i, hi, rfl⟩ := Option.map_eq_some_iff.1 hx
  obtain ⟨hj, rfl⟩ := List.getElem?_eq_some_iff.1 hi
  simp only [List.length_range] at hj
  rw [cellsF_get f N j hj]
  simp
theorem C_range (f : Nat → UInt8) (N : Nat) (h : ∀ k, N ≤ k → f k = 0) : C ((List.range N).map f) = f := by
  funext k
  by_cases hk : k < N
  · rw [C_get _ _ (by simpa using hk)]; simp
  · rw [C_big _ _ (by simpa using hk)]; exact (h k (by omega)).symm

theorem rowed_own {β : Type} (g : Nat) (t : TypeId) (f : β → Array Value) : Own (fun s W => Rowed W g t (f s)) := fun s X Y row hs hg hrow => by
  by_cases h : row = some g
  · subst h
    obtain ⟨o, ho, hc⟩ := hrow g rfl
    rw [show X.heap[g]? = _ from hs] at ho
    cases ho
    cases hc
  · exact (hg.block g hs.lt (fun e => h e.symm)).trans hs
theorem rowed_ownFrom {β : Type} (g : Nat) (t : TypeId) (f : β → Array Value) (B : Nat) : OwnFrom B (fun s W => Rowed W g t (f s)) := Own.from (rowed_own g t f) B
theorem Own8.put {B : Nat} {W : World} {v : Value} {bs : List UInt8} (h : Own8 B W v bs) (D : Nat) (o : Obj) (hD : D < B) : Own8 B (W.putObj D o) v bs :=
  World.ownsRow.kept h (grownBy_putObj' W D o) (by
    cases hv : v.ownBlock with
    | none => exact .inl rfl
    | some k => exact .inr (fun e => by have h1 := (World.ownsRow.lt h k hv).1; cases e; omega))
theorem Own8.mono {B B' : Nat} {W : World} {v : Value} {bs : List UInt8} (h : Own8 B W v bs) (hB : B' ≤ B) : Own8 B' W v bs := World.ownsRow.mono h hB
theorem sum_acc (p q : List UInt8) : acc 0 (C q) (C p) (nzS q q.length) = fun k => C p k ^^^ C q k := by
  funext k
  rw [acc_nz q 0 (C q) (C p) (fun n h hz => by rw [C_get q n h, hz]) q.length (Nat.le_refl _)]
  split
  · rfl
  · rw [C_big q k (by omega), x_zero]
theorem sum_big (p q : List UInt8) (N : Nat) (hp : p.length ≤ N) (hq : q.length ≤ N) : ∀ k, N ≤ k → C p k ^^^ C q k = 0 := fun k hk => by
  rw [C_big p k (by omega), C_big q k (by omega)]; rfl
theorem copy_cells (p : List UInt8) (N : Nat) (h : p.length ≤ N) : ((p.map eB) ++ (cellsF (fun _ => 0) N).toList.drop p.length).toArray = cellsF (C p) N := by
  apply Array.ext
  · simp [cellsF]; omega
  · intro i h1 h2
    simp only [cellsF_size] at h2
    rw [show (cellsF (C p) N)[i] = eB (C p i) by simp [cellsF]]
    by_cases hi : i < p.length
    · simp [hi, C_get p i hi]
    · rw [C_big p i (by omega)]
      simp only [List.getElem_toArray]
      rw [List.getElem_append_right (by simp; omega)]
      simp [cellsF]
end Go.Proofs.Ytkldapdebjlfmaa
