/- The walk of ShapeEven: at the payload of number 1. -/
import Derived.Test.YtjfhbhidnlgabaaDoorShW
namespace Go.Proofs.YtjfhbhidnlgabaaDoor
open Go.RowKit Go.Shelf
attribute [local go_sem] Oper.semAt_some run_store_func

set_option maxRecDepth 100000 in
set_option maxHeartbeats 4000000 in
theorem Even_1 (D R : Int) (hr : restOk D R) (w : World) (hT : Tab w) :
    Calls Tryd.prog 5 #[shV 7 D R] w fun e w' => e = .returned (.bool true) ∧ Below w.heap.size w w' := by
  have cC : ∀ w, Calls Tryd.prog 8 #[shV 7 D R] w fun e w' => e = .returned (.int .i64 0) ∧ Below w.heap.size w w' := fun w => RefCheck_yes 7 D R (may_at (k := 1) (by omega) hr) w
  have cB : ∀ w, Tab w → Calls Tryd.prog 9 #[shV 7 D R] w fun e w' => e = .returned (.int .i64 52) ∧ Below w.heap.size w w' := fun w hT => Body_yes 1 (by omega) D R hr w hT
  have cX : ∀ w, Tab w → Calls Tryd.prog 11 #[shV 7 D R] w fun e w' => e = .returned (.int .i64 6) ∧ Below w.heap.size w w' := fun w hT => Index_yes 1 (by omega) D R hr w hT
  have cF : ∀ w, Tab w → Calls Tryd.prog 15 #[shV 7 D R] w fun e w' => e = .returned (.int .i64 18) ∧ Below w.heap.size w w' := fun w hT => Field_yes 1 (by omega) D R hr w hT
  have cN : ∀ w, Tab w → Calls Tryd.prog 13 #[shV 7 D R] w fun e w' => e = .returned (.int .i64 58) ∧ Below w.heap.size w w' := fun w hT => Inner_yes 1 (by omega) D R hr w hT
  have cW : ∀ w, Tab w → Calls Tryd.prog 17 #[shV 7 D R] w fun e w' => e = .returned (.int .i64 113) ∧ Below w.heap.size w w' := fun w hT => Word_yes 1 (by omega) D R hr w hT
  have cS : ∀ w, Tab w → Calls Tryd.prog 19 #[shV 7 D R] w fun e w' => e = .returned (.int .i64 145) ∧ Below w.heap.size w w' := fun w hT => Strand_yes 1 (by omega) D R hr w hT
  have hA := below_alloc w (.cells #[.int .i64 7, .int .i64 D, .int .i64 R] 23)
  have hI := InBox.new w 7 D R 23
  have hT0 := hT.below hA
  go_enter Tryd.func5, Tryd.ntmps5
  go_wp2_with fail
  go_at_call 8
  refine (cC _).mono ?_
  rintro e w1 ⟨rfl, hB1⟩
  have hA1 := below_trans hA hB1
  have hT1 := hT0.below hB1
  have hI1 := hI.below hB1 hI.lt
  have hlt := hI1.lt
  obtain ⟨x0, x1, x2⟩ := hI1
  clear hA hB1 hT0 hI cC
  go_wp2_with fail
  have hTs : ∀ w' : World, (w'.cell? ⟨w.heap.size, 0, none⟩ = some (.int .i64 7) ∧ w'.cell? ⟨w.heap.size, 1, none⟩ = some (.int .i64 D) ∧ w'.cell? ⟨w.heap.size, 2, none⟩ = some (.int .i64 R) ∧ Below w1.heap.size w1 w') → Tab w' := fun w' h => hT1.below h.2.2.2
  go_region_held3 (fun w' => w'.cell? ⟨w.heap.size, 0, none⟩ = some (.int .i64 7) ∧ w'.cell? ⟨w.heap.size, 1, none⟩ = some (.int .i64 D) ∧ w'.cell? ⟨w.heap.size, 2, none⟩ = some (.int .i64 R) ∧ Below w1.heap.size w1 w')
    (first | exact keep3 hlt (by assumption) (by assumption) | exact keep3 hlt (by assumption) (below_drew _) | exact ⟨x0, x1, x2, below_drew _⟩ | exact ⟨x0, x1, x2, Below.refl _ _⟩)
    (first
      | (go_at_call 9; refine (cB _ (hTs _ (by assumption))).mono ?_; rintro e w' ⟨rfl, hB⟩)
      | (go_at_call 11; refine (cX _ (hTs _ (by assumption))).mono ?_; rintro e w' ⟨rfl, hB⟩)
      | (go_at_call 15; refine (cF _ (hTs _ (by assumption))).mono ?_; rintro e w' ⟨rfl, hB⟩))
  rename_i hH
  have hA2 := below_trans hA1 hH.2.2.2
  have hT2 := hTs _ hH
  obtain ⟨y0, y1, y2, hBx⟩ := hH
  have hlt2 := World.block_lt_of_cell? _ _ y0
  clear hTs x0 x1 x2 hT1 hA1 hB hlt
  go_wp2_with fail
  have v0 : IntKind.i64.wrap 58 = 58 := by decide
  have v1 : IntKind.i64.wrap 59 = 59 := by decide
  have v2 : IntKind.i64.wrap 54 = 54 := by decide
  have v3 : IntKind.i64.wrap 113 = 113 := by decide
  have v4 : IntKind.i64.wrap 145 = 145 := by decide
  have v5 : IntKind.i64.wrap 10 = 10 := by decide
  have v6 : IntKind.i64.wrap 260 = 260 := by decide
  have v7 : IntKind.i64.wrap 52 = 52 := by decide
  have u0 : (260 : Int).tdiv 5 = 52 := by decide
  have hTs : ∀ w'' : World, (w''.cell? ⟨w.heap.size, 0, none⟩ = some (.int .i64 7) ∧ w''.cell? ⟨w.heap.size, 1, none⟩ = some (.int .i64 D) ∧ w''.cell? ⟨w.heap.size, 2, none⟩ = some (.int .i64 R) ∧ Below w'.heap.size w' w'') → Tab w'' := fun w'' h => hT2.below h.2.2.2
  go_region_held3 (fun w'' => w''.cell? ⟨w.heap.size, 0, none⟩ = some (.int .i64 7) ∧ w''.cell? ⟨w.heap.size, 1, none⟩ = some (.int .i64 D) ∧ w''.cell? ⟨w.heap.size, 2, none⟩ = some (.int .i64 R) ∧ Below w'.heap.size w' w'')
    (first | exact keep3 hlt2 (by assumption) (by assumption) | exact keep3 hlt2 (by assumption) (below_drew _) | exact ⟨y0, y1, y2, below_drew _⟩ | exact ⟨y0, y1, y2, Below.refl _ _⟩)
    (first
      | (go_at_call 13; refine (cN _ (hTs _ (by assumption))).mono ?_; rintro e w' ⟨rfl, hB⟩)
      | (go_at_call 17; refine (cW _ (hTs _ (by assumption))).mono ?_; rintro e w' ⟨rfl, hB⟩)
      | (go_at_call 19; refine (cS _ (hTs _ (by assumption))).mono ?_; rintro e w' ⟨rfl, hB⟩)
      | (go_at_call 27; refine (wakes_any _ (hTs _ (by assumption))).mono ?_; rintro e w' ⟨rfl, hB⟩))
  rename_i hH
  have hA3 := below_trans hA2 hH.2.2.2
  clear hH hTs cB cX cF cN cW cS y0 y1 y2
  go_wp2
  go_ret
  exact ⟨rfl, hA3⟩
end Go.Proofs.YtjfhbhidnlgabaaDoor
