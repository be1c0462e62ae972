import Derived.Deep.RegionHeld3
import Derived.Test.YtjclfkbhakjdaaaDoorShCY
namespace Go.Proofs.YtjclfkbhakjdaaaDoor.Sh
open Go.RowKit Go.Shelf
attribute [local go_sem] Oper.semAt_some run_store_func
def InBox (w : World) (b : Nat) (P D R : Int) : Prop := w.cell? ⟨b, 0, none⟩ = some (.int .i64 P) ∧ w.cell? ⟨b, 1, none⟩ = some (.int .i64 D) ∧ w.cell? ⟨b, 2, none⟩ = some (.int .i64 R)
theorem InBox.below {B b : Nat} {w w' : World} {P D R : Int} (h : InBox w b P D R) (hb : Below B w w') (hl : b < B) : InBox w' b P D R :=
 ⟨(hb.cell (p := ⟨b, 0, none⟩) hl).trans h.1, (hb.cell (p := ⟨b, 1, none⟩) hl).trans h.2.1, (hb.cell (p := ⟨b, 2, none⟩) hl).trans h.2.2⟩
theorem InBox.lt {b : Nat} {w : World} {P D R : Int} (h : InBox w b P D R) : b < w.heap.size := World.block_lt_of_cell? w ⟨b, 0, none⟩ h.1
theorem InBox.new (w : World) (P D R : Int) (t : TypeId) : InBox (w.alloc (.cells #[.int .i64 P, .int .i64 D, .int .i64 R] t)) w.heap.size P D R :=
 ⟨cells_of_alloc w P D R t 0, cells_of_alloc w P D R t 1, cells_of_alloc w P D R t 2⟩
theorem may_at {k : Nat} {D R : Int} (hk : k < 5) (hr : restOk D R) : May (pay k) D R := ⟨pay_ok k hk, hr⟩
theorem keep3 {w0 w w' : World} {b : Nat} {x y z : Value} (hl : b < w0.heap.size)
    (h : w.cell? ⟨b, 0, none⟩ = some x ∧ w.cell? ⟨b, 1, none⟩ = some y ∧ w.cell? ⟨b, 2, none⟩ = some z ∧ Below w0.heap.size w0 w) (hb : Below w.heap.size w w') :
    w'.cell? ⟨b, 0, none⟩ = some x ∧ w'.cell? ⟨b, 1, none⟩ = some y ∧ w'.cell? ⟨b, 2, none⟩ = some z ∧ Below w0.heap.size w0 w' := by
 have hs := h.2.2.2.size
 have ht := h.2.2.2.trans (hb.mono hs)
 exact ⟨(hb.cell (p := ⟨b, 0, none⟩) (by show b < _; omega)).trans h.1, (hb.cell (p := ⟨b, 1, none⟩) (by show b < _; omega)).trans h.2.1, (hb.cell (p := ⟨b, 2, none⟩) (by show b < _; omega)).trans h.2.2.1, ht⟩
theorem below_drew (w : World) : Below w.heap.size w w.drew := ⟨rfl, rfl, rfl, Nat.le_refl _, fun _ _ => rfl⟩
set_option maxRecDepth 100000 in
theorem Body1_is (k : Nat) (hk : k < 5) (D R : Int) (b : Nat) (w : World) (hb : InBox w b (pay k) D R) :
    Calls Tryd.prog 85 #[.pointer (some ⟨b, 0, none⟩)] w fun e w' => e = .returned (.int .i64 (bodyK k)) ∧ Below w.heap.size w w' := by
  obtain ⟨c0, c1, c2⟩ := hb
  have hl := fun w => TLong_is k hk w
  have p1 : 0 ≤ pay k := by unfold pay; omega
  have p2 : pay k ≤ 22 := by unfold pay; omega
  generalize pay k = P at *
  generalize bodyK k = x at *
  go_enter Tryd.func85, Tryd.ntmps85
  go_wp2_with (go_at_call 86; refine (hl _).mono ?_; rintro e w' ⟨rfl, rfl⟩)
  go_ret
  exact ⟨rfl, Below.refl _ _⟩
set_option maxRecDepth 100000 in
theorem Body_yes (k : Nat) (hk : k < 5) (D R : Int) (hr : restOk D R) (w : World) (hT : Tab w) :
    Calls Tryd.prog 62 #[shV (pay k) D R] w fun e w' => e = .returned (.int .i64 (bodyK k)) ∧ Below w.heap.size w w' := by
  have hA := below_alloc w (.cells #[.int .i64 (pay k), .int .i64 D, .int .i64 R] 23)
  have hB := InBox.new w (pay k) D R 23
  have hT1 := hT.below hA
  go_enter Tryd.func62, Tryd.ntmps62
  go_wp2_with fail
  go_at_call 60
  refine (told_yes (pay k) D R (bodyK k) 85 #[.pointer (some ⟨w.heap.size, 0, none⟩)] (may_at hk hr) _ hT1 (fun w => enters_of Tryd.func85 (by kernel_rfl) rfl _ w)
   (fun w1 hb => Body1_is k hk D R  w.heap.size w1 (hB.below hb hB.lt) )).mono ?_
  rintro e w2 ⟨rfl, hB2⟩
  go_wp2
  go_ret
  exact ⟨rfl, below_trans hA hB2⟩
set_option maxRecDepth 100000 in
theorem Index1_is (k : Nat) (hk : k < 5) (D R : Int) (hr : restOk D R) (b : Nat) (w : World) (hb : InBox w b (pay k) D R) (hT : Tab w) :
    Calls Tryd.prog 66 #[.pointer (some ⟨b, 0, none⟩)] w fun e w' => e = .returned (.int .i64 (indexK k)) ∧ Below w.heap.size w w' := by
  obtain ⟨c0, c1, c2⟩ := hb
  have h1 := Body_yes k hk D R hr w hT
  have h2 := fun w => BWidth_is k hk w
  generalize pay k = P at *
  generalize bodyK k = x at *
  generalize indexK k = y at *
  go_enter Tryd.func66, Tryd.ntmps66
  go_wp2_with fail
  go_at_call 62
  refine h1.mono ?_
  rintro e w1 ⟨rfl, hB1⟩
  go_wp2_with fail
  go_at_call 38
  refine (h2 _).mono ?_
  rintro e w2 ⟨rfl, rfl⟩
  go_wp2
  go_ret
  exact ⟨rfl, hB1⟩
set_option maxRecDepth 100000 in
theorem Index_yes (k : Nat) (hk : k < 5) (D R : Int) (hr : restOk D R) (w : World) (hT : Tab w) :
    Calls Tryd.prog 42 #[shV (pay k) D R] w fun e w' => e = .returned (.int .i64 (indexK k)) ∧ Below w.heap.size w w' := by
  have hA := below_alloc w (.cells #[.int .i64 (pay k), .int .i64 D, .int .i64 R] 23)
  have hB := InBox.new w (pay k) D R 23
  have hT1 := hT.below hA
  go_enter Tryd.func42, Tryd.ntmps42
  go_wp2_with fail
  go_at_call 60
  refine (told_yes (pay k) D R (indexK k) 66 #[.pointer (some ⟨w.heap.size, 0, none⟩)] (may_at hk hr) _ hT1 (fun w => enters_of Tryd.func66 (by kernel_rfl) rfl _ w)
   (fun w1 hb => Index1_is k hk D R hr w.heap.size w1 (hB.below hb hB.lt) (hT1.below hb))).mono ?_
  rintro e w2 ⟨rfl, hB2⟩
  go_wp2
  go_ret
  exact ⟨rfl, below_trans hA hB2⟩
set_option maxRecDepth 100000 in
set_option maxHeartbeats 1000000 in
theorem Inner1_is (k : Nat) (hk : k < 5) (D R : Int) (hr : restOk D R) (b : Nat) (w : World) (hb : InBox w b (pay k) D R) (hT : Tab w) :
    Calls Tryd.prog 61 #[.pointer (some ⟨b, 0, none⟩)] w fun e w' => e = .returned (.int .i64 (innerK k)) ∧ Below w.heap.size w w' := by
  have hbl := hb.lt
  obtain ⟨c0, c1, c2⟩ := hb
  have h1 := fun w hT => Index_yes k hk D R hr w hT
  have h2 := fun w hT => Body_yes k hk D R hr w hT
  have r1 : 0 ≤ bodyK k ∧ bodyK k ≤ 200 := by unfold bodyK; omega
  have r2 : 0 ≤ indexK k ∧ indexK k ≤ 8 := by unfold indexK; split <;> omega
  obtain ⟨r1, r1'⟩ := r1
  obtain ⟨r2, r2'⟩ := r2
  rw [show innerK k = indexK k + bodyK k from Int.add_comm _ _]
  generalize pay k = P at *
  generalize bodyK k = x at *
  generalize indexK k = y at *
  have e1 : IntKind.i64.wrap (y + x) = y + x := IntWalk.i64_in _ (by omega)
  go_enter Tryd.func61, Tryd.ntmps61
  go_wp2_with fail
  have hTs : ∀ w' : World, (w'.cell? ⟨b, 0, none⟩ = some (.int .i64 P) ∧ w'.cell? ⟨b, 1, none⟩ = some (.int .i64 D) ∧ w'.cell? ⟨b, 2, none⟩ = some (.int .i64 R) ∧ Below w.heap.size w w') → Tab w' := fun w' h => hT.below h.2.2.2
  go_region_held3 (fun w' => w'.cell? ⟨b, 0, none⟩ = some (.int .i64 P) ∧ w'.cell? ⟨b, 1, none⟩ = some (.int .i64 D) ∧ w'.cell? ⟨b, 2, none⟩ = some (.int .i64 R) ∧ Below w.heap.size w w')
   (first | exact keep3 hbl (by assumption) (by assumption) | exact keep3 hbl (by assumption) (below_drew _) | exact ⟨c0, c1, c2, below_drew _⟩ | exact ⟨c0, c1, c2, Below.refl _ _⟩)
   (first
    | (go_at_call 42; refine (h1 _ (hTs _ (by assumption))).mono ?_; rintro e w' ⟨rfl, hB⟩)
    | (go_at_call 62; refine (h2 _ (hTs _ (by assumption))).mono ?_; rintro e w' ⟨rfl, hB⟩))
  all_goals
   rename_i hH
   have hBw := hH.2.2.2
   clear hH hTs h1 h2
   go_wp2
   go_ret
   exact ⟨rfl, hBw⟩
set_option maxRecDepth 100000 in
theorem Inner_yes (k : Nat) (hk : k < 5) (D R : Int) (hr : restOk D R) (w : World) (hT : Tab w) :
    Calls Tryd.prog 40 #[shV (pay k) D R] w fun e w' => e = .returned (.int .i64 (innerK k)) ∧ Below w.heap.size w w' := by
  have hA := below_alloc w (.cells #[.int .i64 (pay k), .int .i64 D, .int .i64 R] 23)
  have hB := InBox.new w (pay k) D R 23
  have hT1 := hT.below hA
  go_enter Tryd.func40, Tryd.ntmps40
  go_wp2_with fail
  go_at_call 60
  refine (told_yes (pay k) D R (innerK k) 61 #[.pointer (some ⟨w.heap.size, 0, none⟩)] (may_at hk hr) _ hT1 (fun w => enters_of Tryd.func61 (by kernel_rfl) rfl _ w)
   (fun w1 hb => Inner1_is k hk D R hr w.heap.size w1 (hB.below hb hB.lt) (hT1.below hb))).mono ?_
  rintro e w2 ⟨rfl, hB2⟩
  go_wp2
  go_ret
  exact ⟨rfl, below_trans hA hB2⟩
end Go.Proofs.YtjclfkbhakjdaaaDoor.Sh
