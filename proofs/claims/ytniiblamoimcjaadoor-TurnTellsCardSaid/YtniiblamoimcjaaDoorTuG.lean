/- Contracts of turn.gathered, Turn, Back. -/
import Derived.Test.YtniiblamoimcjaaDoorTuF
namespace Go.Proofs.YtniiblamoimcjaaDoor
open Go.RowKit Go.Shelf
attribute [local go_sem] Oper.semAt_some run_store_func

theorem Boxed.set_other {W : World} {b b' : Nat} {t : TypeId} {x y : Value} (h : Boxed W b t x) (hne : b ≠ b') : Boxed (W.setCell ⟨b', 0, none⟩ y) b t x :=
  (Below.heap_setCell _ _ _ _ hne).trans h
set_option maxRecDepth 100000 in
set_option maxHeartbeats 4000000 in
theorem gathered_any (a : UInt8) (gf : Nat) (lb : Array Value) (r : List UInt8 × Option Int) (hxs : r.1.length ≤ 1000000) (hne : ∀ n, r.2 = some n → n ≠ 0) (w : World) (hen : ∀ args w, (callFunc gf args).run Tryd.prog w = .ok (.enter gf args) w) (hT : Tab w)
    (hseq : ∀ (B g : Nat) (w0 : World), Below w.heap.size w w0 → w.heap.size ≤ g → w.heap.size ≤ B → B ≤ w0.heap.size → SeqI Fence.wide Tryd.prog gf lb (fun x : UInt8 => #[eB x]) (Keep B g) r.1 (r.2.map errno) w0) :
    Calls Tryd.prog 27 #[eB a, .func (.func gf) #[] lb] w fun e w' => Below w.heap.size w w' ∧
      ((∃ v, gatG a r = .ok r.1 ∧ e = .returned (.tuple #[v, .int .i64 0]) ∧ w'.ownsRow w.heap.size 5 1 v r.1.length (r.1.map eB)) ∨ ∃ n, gatG a r = .error n ∧ e = .returned (.tuple #[.slice none 0 0, .int .i64 n])) := by
  have hmf : ∀ (fn : Fn) (first cap : Array Value) (w : World), (Instr.makeFunc fn first cap).run Tryd.prog w = .ok (.func fn first cap) w := fun _ _ _ _ => rfl
  obtain ⟨W0, hW0⟩ : ∃ W0, ((w.alloc (.cells #[eB a] 5)).alloc (.cells #[.func (.func gf) #[] lb] 43)).alloc (.cells #[.slice none 0 0] 22) = W0 := ⟨_, rfl⟩
  have hs0 : W0.heap.size = w.heap.size + 3 := by rw [← hW0]; simp
  have hA : Below w.heap.size w W0 := by rw [← hW0]; exact (((Below.refl _ w).alloc (Nat.le_refl _) _).alloc (by simp) _).alloc (by simp; omega) _
  have b1 : Boxed W0 w.heap.size 5 (eB a) := by rw [← hW0]; exact ((Boxed.new w _ _).alloc _).alloc _
  have b2 : Boxed W0 (w.heap.size + 1) 43 (.func (.func gf) #[] lb) := by
    rw [← hW0]
    have := (Boxed.new (w.alloc (.cells #[eB a] 5)) 43 (.func (.func gf) #[] lb)).alloc (.cells #[.slice none 0 0] 22)
    rw [World.size_alloc] at this
    exact this
  have b3 : Boxed W0 (w.heap.size + 1 + 1) 22 (.slice none 0 0) := by
    rw [← hW0]
    have := Boxed.new ((w.alloc (.cells #[eB a] 5)).alloc (.cells #[.func (.func gf) #[] lb] 43)) 22 (.slice none 0 0)
    rw [World.size_alloc, World.size_alloc] at this
    exact this
  have hA4 := below_alloc W0 (.cells #[.int .i64 0] 24)
  have hsz4 : (W0.alloc (.cells #[.int .i64 0] 24)).heap.size = w.heap.size + 4 := by simp [hs0]
  have hB4 := below_trans hA hA4
  have hwork := gathered1_is w.heap.size (w.heap.size + 1) (w.heap.size + 1 + 1) a gf lb r hxs (W0.alloc (.cells #[.int .i64 0] 24)) hen (hT.below hB4) (b1.alloc _) (b2.alloc _).cell (by omega) (b3.alloc _)
    (fun w0 h => hseq _ _ w0 (below_trans hB4 h) (by omega) (by omega) h.size)
  have hct := caught_any 34 _ (w.heap.size + 1 + 1) W0 (by omega) (enters_of Tryd.func34 (by kernel_rfl) rfl) _ _ hwork
  have hgn : ∀ n, gatG a r = .error n → n ≠ 0 := by
    intro n hn
    unfold gatG at hn
    split at hn
    · cases hn; omega
    · cases hr : r.2 with
      | none => rw [hr] at hn; cases hn
      | some m => rw [hr] at hn; cases hn; exact hne _ hr
  clear hwork hA4 hsz4 hB4 hseq hen
  go_enter Tryd.func27, Tryd.ntmps27
  go_wp2_with fail
  go_at_call 20
  refine hct.mono ?_
  rintro e w' ⟨w1, n, hK, rfl, rfl, hlt, hR⟩
  have hBf : Below w.heap.size w (w1.setCell ⟨W0.heap.size, 0, none⟩ (.int .i64 n)) := (below_of_keep hK hA (by omega) (by omega)).setCell (p := ⟨W0.heap.size, 0, none⟩) (by show w.heap.size ≤ W0.heap.size; omega) _
  clear hct hW0
  rcases hR with ⟨rfl, hg, v, hv, hrow⟩ | ⟨hg, v, hv⟩
  · have hv0 : ∃ A' l' c', v = .slice A' l' c' := by
      rcases hrow.2 with ⟨rfl, _⟩ | ⟨gg, cap, cur, rfl, _⟩
      · exact ⟨_, _, _, rfl⟩
      · exact ⟨_, _, _, rfl⟩
    obtain ⟨A', l', c', rfl⟩ := hv0
    have hv2 := Boxed.set_other (b' := W0.heap.size) (y := .int .i64 0) hv (by omega)
    have hc := hv2.cell
    have hrow2 : (w1.setCell ⟨W0.heap.size, 0, none⟩ (.int .i64 0)).ownsRow w.heap.size 5 1 (.slice A' l' c') r.1.length (r.1.map eB) := by
      have h1 := World.ownsRow.kept hrow (grownBy_setCell' w1 W0.heap.size (.int .i64 0)) (by
        cases hvb : (Value.slice A' l' c').ownBlock with
        | none => exact .inl rfl
        | some q => exact .inr (fun e => by have := (World.ownsRow.lt hrow q hvb).1; injection e with e; simp at this; omega))
      exact ⟨h1.1, h1.2.imp id (fun ⟨g, cap, cur, e, hb, rest⟩ => ⟨g, cap, cur, e, by simp at hb; omega, rest⟩)⟩
    have Hg := Lib.hid hg
    clear hg hgn
    generalize w1.setCell ⟨W0.heap.size, 0, none⟩ (.int .i64 0) = w2 at *
    go_wp2_with fail
    go_ret2
    exact ⟨hBf, .inl ⟨_, Hg.out, rfl, hrow2⟩⟩
  · have hn := hgn n hg
    have hb : ((n : Int) != 0) = true := by simpa using hn
    have Hg := Lib.hid hg
    clear hg hgn hn
    generalize w1.setCell ⟨W0.heap.size, 0, none⟩ (.int .i64 n) = w2 at *
    go_wp2_with fail
    go_ret2
    exact ⟨hBf, .inr ⟨n, Hg.out, rfl⟩⟩
end Go.Proofs.YtniiblamoimcjaaDoor
