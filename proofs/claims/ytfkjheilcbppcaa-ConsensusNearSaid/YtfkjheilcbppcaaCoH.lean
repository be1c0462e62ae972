/- The sorted keys of a map of ints. (Seat s27.) -/
import Derived.Test.YtfkjheilcbppcaaCoHs
namespace Go.Proofs.Ytfkjheilcbppcaa
open Go.RowKit Go.Maps Go.Sort Go.Shelf
attribute [local go_sem] Oper.semAt_some run_store_func

theorem sortsI (m : Nat) : AnyZI.SortsIn Try.prog sortedI_ren Fence.wide m :=
  ⟨fun blk off cap ss W hH hblk hsz => callsIn_wide.2 (AnyM.slices_Sort_int sortI blk off cap ss W hH hblk hsz),
   fun p cap W => callsIn_wide.2 (AnyM.slices_Sort_int_none sortI p cap W)⟩
theorem keys_any (mb : Option Nat) (W : World) : Calls Try.prog 28 #[.map mb] W fun e w' => e = .returned (.func (.func 33) #[] #[.pointer (some ⟨W.heap.size, 0, none⟩)]) ∧ w' = W.alloc (.cells #[.map mb] 53) :=
  callsIn_wide.1 (AnyZI.keys_in keysI Fence.wide 5 trivial rfl mb W)
theorem keys_gives (b nn : Nat) (D0 : DataW Unit) (R : Value → Option (DataW Unit × List MemPlace)) (w : World) (hown : w.ownsMap Try.prog 3 R b nn D0) :
    SeqGives Fence.wide 2 Try.prog 33 #[.pointer (some ⟨w.heap.size, 0, none⟩)] encZ (fun ss => ss.Perm (intKeys D0)) (Maps.size D0) (w.alloc (.cells #[.map (some b)] 53)) := by
  have hbl := hown.lt
  exact AnyZI.keys_gives (ρ := keysI_ren) { keysI with } Fence.wide _ trivial rfl (by omega) w.heap.size b nn D0 _ (by simp) (by simp) (by
      obtain ⟨es, clock, hb, Ft, hs, hD⟩ := hown
      exact ⟨es, clock, (Below.heap_alloc _ _ b hbl).trans hb, Ft, hs, hD⟩)
theorem sorted_any (b nn : Nat) (D0 : DataW Unit) (R : Value → Option (DataW Unit × List MemPlace)) (w : World) (hown : w.ownsMap Try.prog 3 R b nn D0) (hnn : nn ≤ 1000) :
    Calls Try.prog 27 #[.func (.func 33) #[] #[.pointer (some ⟨w.heap.size, 0, none⟩)]] (w.alloc (.cells #[.map (some b)] 53)) fun e w' =>
      ∃ (v : Value) (ss : List Int), e = .returned v ∧ ss.Perm (intKeys D0) ∧ w'.ownsRow (w.heap.size + 1) 3 1 v ss.length ((ss.mergeSort leI).map encZ) ∧ Below (w.heap.size + 1) (w.alloc (.cells #[.map (some b)] 53)) w' := by
  have hs := hown.size_le
  have cS := AnyZI.sorted_in sortedI Fence.wide 5 trivial trivial trivial trivial rfl (by omega) (sortsI _) (enters_of Try.func32 (by kernel_rfl) rfl) 33 #[.pointer (some ⟨w.heap.size, 0, none⟩)] trivial (enters_of Try.func33 (by kernel_rfl) rfl) _ _ (by unfold maxLen; omega) (by omega) _ (keys_gives b nn D0 R w hown)
  refine (callsIn_wide.1 cS).mono ?_
  rintro e w' ⟨v, ss, rfl, hS, hrow, hnil, hb⟩
  rw [World.size_alloc] at hrow hb
  exact ⟨v, ss, rfl, hS, hrow, hb⟩
/-- The lengths that are there, rising. -/
def keysL (L : List (List UInt8)) : List Nat := (List.range (maxL L + 1)).filter fun n => decide (0 < cntL L n)
theorem keysL_mem (L : List (List UInt8)) (n : Nat) : n ∈ keysL L ↔ ∃ r ∈ L, r.length = n := by
  unfold keysL
  rw [List.mem_filter, List.mem_range, decide_eq_true_eq, cntL_pos]
  constructor
  · exact fun h => h.2
  · rintro ⟨r, hr, rfl⟩
    have := maxL_ge hr
    exact ⟨by omega, r, hr, rfl⟩
theorem keysL_rise (L : List (List UInt8)) : (keysL L).Pairwise (· < ·) := (range_rise _).filter _
theorem keysL_most (L : List (List UInt8)) : mostF ((keysL L).map fun n => (n, cntL L n)) (0, 0) = lenG L := lenG_keys L _ (keysL_rise L) fun r hr => (keysL_mem L _).2 ⟨r, hr, rfl⟩
theorem keys_are {L : List (List UInt8)} {D : DataW Unit} (hM : MapIs D L) {w : World} {R : Value → Option (DataW Unit × List MemPlace)} {b nn : Nat} (hown : w.ownsMap Try.prog 3 R b nn D) {ss : List Int} (hS : ss.Perm (intKeys D)) :
    ss.mergeSort leI = (keysL L).map Int.ofNat ∧ ss.length = (keysL L).length := by
  obtain ⟨es, hD, hpw, _⟩ := hown.entries keyedInt
  obtain ⟨es', hD', hko⟩ := hown.keysOf
  obtain rfl : es = es' := by rw [hD] at hD'; simpa using hD'
  subst hD
  have hp : ((keysL L).map Int.ofNat).Perm (intKeys (.map es)) := perm_intKeys hpw (fun p hp => by
      obtain ⟨v, hv⟩ := hko p hp
      obtain ⟨x, _, hx, _⟩ := Maps.keyOf_i64 Try.underlying3 hv
      exact ⟨x, hx⟩)
    (List.pairwise_map.2 ((keysL_rise L).imp fun {a b} h e => by
      have : a = b := Int.ofNat.inj e
      omega))
    (fun x => by
      rw [hM.has x, decide_eq_true_eq, List.mem_map]
      constructor
      · rintro ⟨n, hn, rfl⟩
        obtain ⟨r, hr, hl⟩ := (keysL_mem L n).1 hn
        exact ⟨r, hr, by rw [hl]; rfl⟩
      · rintro ⟨r, hr, rfl⟩
        exact ⟨r.length, (keysL_mem L _).2 ⟨r, hr, rfl⟩, rfl⟩)
  have hq := hS.trans hp.symm
  refine ⟨?_, by simpa using hq.length_eq⟩
  rw [mergeSort_of_perm_i hq]
  refine List.mergeSort_of_pairwise (List.pairwise_map.2 ((keysL_rise L).imp fun {a b} h => ?_))
  show decide ((a : Int) ≤ (b : Int)) = true
  exact decide_eq_true (by omega)
end Go.Proofs.Ytfkjheilcbppcaa
