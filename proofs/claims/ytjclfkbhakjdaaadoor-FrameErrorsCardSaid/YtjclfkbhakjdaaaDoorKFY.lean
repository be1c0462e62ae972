import Derived.ProofKit
import Derived.OpenShut
import Derived.Deep.DeepHandedRow
import Derived.Deep.Slices
import Derived.Lib.LaidTab
import Derived.ChangeMaps5
import Derived.Test.YtjclfkbhakjdaaaDoorLY
namespace Go.Proofs.YtjclfkbhakjdaaaDoor
open Go.ChangeShapes Go.WideShapes Go.ChangeAt Go.RowKit
theorem trodAll_below {H : Type} {enc : TypeId × Value → H} {P : Program} {W W' : World} (hl : laidOutB P = true) (hb : Below W.heap.size W W') :
    ∀ {ts : List TypeId} {vs : List Value} {ds : List (DataW H)} {ps : List MemPlace}, (ts.all fun t => P.readableRec t && decide (t < P.types.size)) = true →
      DataW.TrodAll enc P W 0 (fun _ => true) true ts vs ds ps → (∀ x ∈ ps, x.block < W.heap.size) → DataW.TrodAll enc P W' 0 (fun b => decide (b < W.heap.size)) true ts vs ds ps := by
  intro ts
  induction ts with
  | nil =>
    intro vs ds ps _ h _
    obtain ⟨rfl, rfl, rfl⟩ := trodAll_nil h
    exact trodAll_mk0
  | cons t ts ih =>
    intro vs ds ps hr h hlt
    obtain ⟨v, vs', d, ds', p, q, rfl, rfl, rfl, h0, h1⟩ := trodAll_cons h
    simp only [List.all_cons, Bool.and_eq_true, decide_eq_true_eq] at hr
    exact trodAll_cons_mk (Below.trod hl hr.1.1 hr.1.2 h0 hb (fun x hx => hlt x (List.mem_append_left _ hx)))
     (ih (by simpa using hr.2) h1 (fun x hx => hlt x (List.mem_append_right _ hx)))
theorem post_true {H : Type} {enc : TypeId × Value → H} {P : Program} {fn : Func} {s : ChangeSpec} {W W' : World} {args : Array Value} {ds gs : List (DataW H)} {before : List MemPlace} {tb : TypeId}
    (hl : laidOutB P = true) (hv : s.vars = []) (hr : fn.resultTypes = #[tb]) (htb : P.underlying tb = some .bool)
    (hread : (fn.params.toList.all fun t => P.readableRec t && decide (t < P.types.size)) = true)
    (hs : s.fn H (ds ++ []) = { results := [.lit (.bool true)], args := ds })
    (hW : DataW.Whole enc P fn.params.toList s.vars false W args.toList ds gs before) (hB : Below W.heap.size W W') :
    s.post enc P fn false true false false W args (.bool true) W' := by
  have hlt := hW.lt
  have hW' := hW
  rw [hv] at hW
  obtain ⟨p, q, hA, hV, rfl, hfz, hnd⟩ := hW
  obtain ⟨rfl, rfl⟩ := trodVars_none hV
  refine ⟨ds, [], _, [], p, [], hW', ?_, ?_, ?_, hB.frame _, fun h => by cases h⟩
  · rw [hs, hr]
    exact trodAll_mk1 (shut_bool htb true)
  · rw [hs]
    exact trodAll_below hl hB hread hA (fun x hx => hlt x (List.mem_append_left _ hx))
  · rw [hs, hv]; rfl
theorem open_int {H : Type} {enc : TypeId × Value → H} {P : Program} {W : World} {t : TypeId} {k : IntKind} {v : Value} {d : DataW H} {ps : List MemPlace} {r : Reach} {b0 : Nat} (ht : P.underlying t = some (.int k))
    (hval : Value.okWide P W r b0 t v) (h : DataW.Trod enc P W 0 (fun _ => true) true t v d ps) : ∃ z : Int, v = .int k z ∧ (Lit.int k z).wf = true := by
 obtain ⟨n, rfl⟩ := okWide_int ht hval
 obtain ⟨fuel, hf⟩ := h
 obtain ⟨z, h1, _, h3⟩ := DataW.trod_int ht hf
 have h4 : n = z := by simpa [Value.cells] using h1
 subst h4
 exact ⟨n, rfl, h3⟩
theorem byte_of_wf {z : Int} (h : (Lit.int .u8 z).wf = true) : ∃ c : UInt8, z = (c.toNat : Int) := by
 have h2 : 0 ≤ z ∧ z < 256 := by
  simp [Lit.wf, show IntKind.u8.min = 0 from rfl, show IntKind.u8.max = 255 from rfl] at h
  omega
 exact ⟨UInt8.ofNat z.toNat, by simp; omega⟩
end Go.Proofs.YtjclfkbhakjdaaaDoor
namespace Go.Proofs.YtjclfkbhakjdaaaDoor
open Go.ChangeShapes Go.WideShapes Go.ChangeAt Go.RowKit
theorem open_nums_cell {H : Type} {enc : TypeId × Value → H} {P : Program} {W : World} {t e : TypeId} {k : IntKind} {v : Value} {fuel : Nat} {y : DataW H × List MemPlace} (ht : P.underlying t = some (.slice e)) (he : P.underlying e = some (.int k)) (hc : P.cellsOf e = 1)
    (hf : DataW.trod enc P W 0 (fun _ => true) true fuel t [v] = some y) :
    ∃ zs : List Int, Sl (Value.int k) W.heap.size W v zs ∧ ∀ x ∈ zs, (Lit.int k x).wf = true := by
 rcases Go.Deep.open_slice1 ht hc hf with ⟨hcs, _⟩ | ⟨a, len, cap, m, n, V, D, Pl, hcs, _, hlc, _, hm, _, hel⟩
 · simp at hcs
   subst hcs
   exact ⟨[], Sl.nil _ _ _, fun x hx => by cases hx⟩
 · simp at hcs
   subst hcs
   simp only [if_true] at hm
   have hz : ∀ i, ∃ z : Int, i < len → V i = .int k z ∧ (Lit.int k z).wf = true := by
    intro i
    by_cases hi : i < len
    · obtain ⟨z, h1, _, h3⟩ := DataW.trod_int he (hel i (by omega)).2
      simp at h1
      exact ⟨z, fun _ => ⟨h1, h3⟩⟩
    · exact ⟨0, fun h => absurd h hi⟩
   obtain ⟨Z, hZ⟩ := Classical.axiomOfChoice hz
   refine ⟨(List.range len).map Z, ⟨some a, cap, by simp, by simpa using hlc, fun hn => ?_⟩, fun x hx => ?_⟩
   · have hn' : 0 < len := by simpa using hn
     have h0 := (hel 0 (by omega)).1
     obtain ⟨b, off, pth⟩ := a
     have hp : pth = none := by
      cases pth with
      | none => rfl
      | some q =>
        simp only [World.cell?, Addr.add, if_true, Option.isSome_some] at h0
        split at h0 <;> cases h0
     subst hp
     refine ⟨b, off, rfl, World.block_lt_of_cell? W _ h0, fun j x hx => ?_⟩
     have hj : j < len := by have := (List.getElem?_eq_some_iff.1 hx).1; simpa using this
     have h1 := (hel j (by omega)).1
     rw [(hZ j hj).1, show (⟨b, off, none⟩ : Addr).add j = ⟨b, off + j, none⟩ from by unfold Addr.add; split <;> simp_all] at h1
     have h2 : Z j = x := by simpa [hj] using hx
     rw [h1, h2]
   · obtain ⟨i, hi, rfl⟩ := List.mem_map.1 hx
     exact (hZ i (by simpa using hi)).2
theorem open_bytes_cell {H : Type} {enc : TypeId × Value → H} {P : Program} {W : World} {t e : TypeId} {v : Value} {fuel : Nat} {y : DataW H × List MemPlace} (ht : P.underlying t = some (.slice e)) (he : P.underlying e = some (.int .u8)) (hc : P.cellsOf e = 1)
    (hf : DataW.trod enc P W 0 (fun _ => true) true fuel t [v] = some y) : ∃ bs : List UInt8, Sl eB W.heap.size W v bs := by
 obtain ⟨zs, ⟨A, cap, rfl, hcap, hcells⟩, hwf⟩ := open_nums_cell ht he hc hf
 refine ⟨zs.map fun z => UInt8.ofNat z.toNat, A, cap, by simp, by simpa using hcap, fun hn => ?_⟩
 obtain ⟨b, off, e, hb, hcell⟩ := hcells (by simpa using hn)
 refine ⟨b, off, e, hb, fun j x hx => ?_⟩
 rw [List.getElem?_map] at hx
 obtain ⟨z, hz, rfl⟩ := Option.map_eq_some_iff.1 hx
 obtain ⟨c, rfl⟩ := byte_of_wf (hwf z (List.mem_of_getElem? hz))
 rw [hcell j _ hz]
 simp
end Go.Proofs.YtjclfkbhakjdaaaDoor
