/- The walk of ShapeTells. -/
import Derived.Test.YtjfhbhidnlgabaaDoorShP
namespace Go.Proofs.YtjfhbhidnlgabaaDoor
open Go.RowKit Go.Shelf
attribute [local go_sem] Oper.semAt_some run_store_func

set_option maxRecDepth 100000 in
set_option maxHeartbeats 8000000 in
theorem Tells_core (P D R L G k0 b i n f v s g q c : Int) (w : World) (hT : Tab w)
    (cCheck : ∀ w, Tab w → Calls Tryd.prog 7 #[shV P D R] w fun e w' => e = .returned (.int .i64 k0) ∧ Below w.heap.size w w')
    (dCheck : ∀ w, Calls Tryd.prog 8 #[shV P D R] w fun e w' => e = .returned (.int .i64 k0) ∧ Below w.heap.size w w')
    (cBody : ∀ w, Tab w → Calls Tryd.prog 9 #[shV P D R] w fun e w' => e = .returned (.int .i64 b) ∧ Below w.heap.size w w')
    (dBody : ∀ w, Calls Tryd.prog 10 #[shV P D R] w fun e w' => e = .returned (.int .i64 b) ∧ Below w.heap.size w w')
    (cIndex : ∀ w, Tab w → Calls Tryd.prog 11 #[shV P D R] w fun e w' => e = .returned (.int .i64 i) ∧ Below w.heap.size w w')
    (dIndex : ∀ w, Calls Tryd.prog 12 #[shV P D R] w fun e w' => e = .returned (.int .i64 i) ∧ Below w.heap.size w w')
    (cInner : ∀ w, Tab w → Calls Tryd.prog 13 #[shV P D R] w fun e w' => e = .returned (.int .i64 n) ∧ Below w.heap.size w w')
    (dInner : ∀ w, Calls Tryd.prog 14 #[shV P D R] w fun e w' => e = .returned (.int .i64 n) ∧ Below w.heap.size w w')
    (cField : ∀ w, Tab w → Calls Tryd.prog 15 #[shV P D R] w fun e w' => e = .returned (.int .i64 f) ∧ Below w.heap.size w w')
    (dField : ∀ w, Calls Tryd.prog 16 #[shV P D R] w fun e w' => e = .returned (.int .i64 f) ∧ Below w.heap.size w w')
    (cWord : ∀ w, Tab w → Calls Tryd.prog 17 #[shV P D R] w fun e w' => e = .returned (.int .i64 v) ∧ Below w.heap.size w w')
    (dWord : ∀ w, Calls Tryd.prog 18 #[shV P D R] w fun e w' => e = .returned (.int .i64 v) ∧ Below w.heap.size w w')
    (cStrand : ∀ w, Tab w → Calls Tryd.prog 19 #[shV P D R] w fun e w' => e = .returned (.int .i64 s) ∧ Below w.heap.size w w')
    (dStrand : ∀ w, Calls Tryd.prog 20 #[shV P D R] w fun e w' => e = .returned (.int .i64 s) ∧ Below w.heap.size w w')
    (cGroups : ∀ w, Tab w → Calls Tryd.prog 21 #[shV P D R, .int .i64 L] w fun e w' => e = .returned (.int .i64 g) ∧ Below w.heap.size w w')
    (dGroups : ∀ w, Calls Tryd.prog 22 #[shV P D R, .int .i64 L] w fun e w' => e = .returned (.int .i64 g) ∧ Below w.heap.size w w')
    (cPieces : ∀ w, Tab w → Calls Tryd.prog 23 #[shV P D R, .int .i64 L, .int .i64 G] w fun e w' => e = .returned (.int .i64 q) ∧ Below w.heap.size w w')
    (dPieces : ∀ w, Calls Tryd.prog 24 #[shV P D R, .int .i64 L, .int .i64 G] w fun e w' => e = .returned (.int .i64 q) ∧ Below w.heap.size w w')
    (cCount : ∀ w, Tab w → Calls Tryd.prog 25 #[shV P D R, .int .i64 L] w fun e w' => e = .returned (.int .i64 c) ∧ Below w.heap.size w w')
    (dCount : ∀ w, Calls Tryd.prog 26 #[shV P D R, .int .i64 L] w fun e w' => e = .returned (.int .i64 c) ∧ Below w.heap.size w w') :
    Calls Tryd.prog 3 #[shV P D R, .int .i64 L, .int .i64 G] w fun e w' => e = .returned (.bool true) ∧ Below w.heap.size w w' := by
  have hA := below_alloc w (.cells #[.int .i64 P, .int .i64 D, .int .i64 R] 23)
  have hI := InBox.new w P D R 23
  have hT0 := hT.below hA
  have hlt := hI.lt
  obtain ⟨x0, x1, x2⟩ := hI
  go_enter Tryd.func3, Tryd.ntmps3
  go_wp2_with fail
  generalize w.alloc (.cells #[.int .i64 P, .int .i64 D, .int .i64 R] 23) = w0 at *
  have hTs : ∀ w'' : World, (w''.cell? ⟨w.heap.size, 0, none⟩ = some (.int .i64 P) ∧ w''.cell? ⟨w.heap.size, 1, none⟩ = some (.int .i64 D) ∧ w''.cell? ⟨w.heap.size, 2, none⟩ = some (.int .i64 R) ∧ Below w0.heap.size w0 w'') → Tab w'' := fun w'' h => hT0.below h.2.2.2
  go_region_held3 (fun w'' => w''.cell? ⟨w.heap.size, 0, none⟩ = some (.int .i64 P) ∧ w''.cell? ⟨w.heap.size, 1, none⟩ = some (.int .i64 D) ∧ w''.cell? ⟨w.heap.size, 2, none⟩ = some (.int .i64 R) ∧ Below w0.heap.size w0 w'')
    (first | exact keep3 hlt (by assumption) (by assumption) | exact keep3 hlt (by assumption) (below_drew _) | exact ⟨x0, x1, x2, below_drew _⟩ | exact ⟨x0, x1, x2, Below.refl _ _⟩)
    (first
      | (go_at_call 7; (with_reducible refine (cCheck _ (hTs _ (by assumption))).mono ?_); rintro e w' ⟨rfl, hB⟩)
      | (go_at_call 8; (with_reducible refine (dCheck _).mono ?_); rintro e w' ⟨rfl, hB⟩)
      | (go_at_call 9; (with_reducible refine (cBody _ (hTs _ (by assumption))).mono ?_); rintro e w' ⟨rfl, hB⟩)
      | (go_at_call 10; (with_reducible refine (dBody _).mono ?_); rintro e w' ⟨rfl, hB⟩)
      | (go_at_call 11; (with_reducible refine (cIndex _ (hTs _ (by assumption))).mono ?_); rintro e w' ⟨rfl, hB⟩)
      | (go_at_call 12; (with_reducible refine (dIndex _).mono ?_); rintro e w' ⟨rfl, hB⟩)
      | (go_at_call 13; (with_reducible refine (cInner _ (hTs _ (by assumption))).mono ?_); rintro e w' ⟨rfl, hB⟩)
      | (go_at_call 14; (with_reducible refine (dInner _).mono ?_); rintro e w' ⟨rfl, hB⟩)
      | (go_at_call 15; (with_reducible refine (cField _ (hTs _ (by assumption))).mono ?_); rintro e w' ⟨rfl, hB⟩)
      | (go_at_call 16; (with_reducible refine (dField _).mono ?_); rintro e w' ⟨rfl, hB⟩))
  rename_i hH
  have hA1 := below_trans hA hH.2.2.2
  have hT1 := hTs _ hH
  obtain ⟨y0, y1, y2, hBx⟩ := hH
  have hlt1 := World.block_lt_of_cell? _ _ y0
  clear hTs x0 x1 x2 hB hlt hBx hT0 hA cCheck dCheck cBody dBody cIndex dIndex cInner dInner cField dField
  go_wp2_with fail
  have hTs : ∀ w'' : World, (w''.cell? ⟨w.heap.size, 0, none⟩ = some (.int .i64 P) ∧ w''.cell? ⟨w.heap.size, 1, none⟩ = some (.int .i64 D) ∧ w''.cell? ⟨w.heap.size, 2, none⟩ = some (.int .i64 R) ∧ Below w'.heap.size w' w'') → Tab w'' := fun w'' h => hT1.below h.2.2.2
  go_region_held3 (fun w'' => w''.cell? ⟨w.heap.size, 0, none⟩ = some (.int .i64 P) ∧ w''.cell? ⟨w.heap.size, 1, none⟩ = some (.int .i64 D) ∧ w''.cell? ⟨w.heap.size, 2, none⟩ = some (.int .i64 R) ∧ Below w'.heap.size w' w'')
    (first | exact keep3 hlt1 (by assumption) (by assumption) | exact keep3 hlt1 (by assumption) (below_drew _) | exact ⟨y0, y1, y2, below_drew _⟩ | exact ⟨y0, y1, y2, Below.refl _ _⟩)
    (first
      | (go_at_call 17; (with_reducible refine (cWord _ (hTs _ (by assumption))).mono ?_); rintro e w' ⟨rfl, hB⟩)
      | (go_at_call 18; (with_reducible refine (dWord _).mono ?_); rintro e w' ⟨rfl, hB⟩)
      | (go_at_call 19; (with_reducible refine (cStrand _ (hTs _ (by assumption))).mono ?_); rintro e w' ⟨rfl, hB⟩)
      | (go_at_call 20; (with_reducible refine (dStrand _).mono ?_); rintro e w' ⟨rfl, hB⟩)
      | (go_at_call 21; (with_reducible refine (cGroups _ (hTs _ (by assumption))).mono ?_); rintro e w' ⟨rfl, hB⟩)
      | (go_at_call 22; (with_reducible refine (dGroups _).mono ?_); rintro e w' ⟨rfl, hB⟩)
      | (go_at_call 23; (with_reducible refine (cPieces _ (hTs _ (by assumption))).mono ?_); rintro e w' ⟨rfl, hB⟩)
      | (go_at_call 24; (with_reducible refine (dPieces _).mono ?_); rintro e w' ⟨rfl, hB⟩)
      | (go_at_call 25; (with_reducible refine (cCount _ (hTs _ (by assumption))).mono ?_); rintro e w' ⟨rfl, hB⟩)
      | (go_at_call 26; (with_reducible refine (dCount _).mono ?_); rintro e w' ⟨rfl, hB⟩)
      | (go_at_call 27; refine (wakes_any _ (hTs _ (by assumption))).mono ?_; rintro e w' ⟨rfl, hB⟩))
  rename_i hH
  have hA2 := below_trans hA1 hH.2.2.2
  clear hH hTs cWord dWord cStrand dStrand cGroups dGroups cPieces dPieces cCount dCount y0 y1 y2
  go_wp2
  go_ret
  exact ⟨rfl, hA2⟩

theorem ShapeTells_any (P D R L G : Int) (w : World) (hT : Tab w) :
    Calls Tryd.prog 3 #[shV P D R, .int .i64 L, .int .i64 G] w fun e w' => e = .returned (.bool true) ∧ Below w.heap.size w w' := by
  by_cases h : May P D R
  case neg =>
    have hn : ¬ (May P D R ∧ 0 ≤ L ∧ L ≤ 4000) := fun x => h x.1
    exact Tells_core P D R L G 180 (-1) (-1) (-1) (-1) (-1) (-1) (-1) (-1) (-1) w hT
      (fun w hT => Check_no P D R h w hT) (fun w => RefCheck_no P D R h w) (fun w hT => Body_no P D R h w hT) (fun w => RBody_no P D R h w) (fun w hT => Index_no P D R h w hT) (fun w => RIndex_no P D R h w)
      (fun w hT => Inner_no P D R h w hT) (fun w => RInner_no P D R h w) (fun w hT => Field_no P D R h w hT) (fun w => RField_no P D R h w) (fun w hT => Word_no P D R h w hT) (fun w => RWord_no P D R h w)
      (fun w hT => Strand_no P D R h w hT) (fun w => RStrand_no P D R h w)
      (fun w hT => Groups_no P D R L h w hT) (fun w => RGroups_no P D R L hn w) (fun w hT => Pieces_no P D R L G h w hT) (fun w => RPieces_no P D R L G hn w) (fun w hT => Count_no P D R L h w hT) (fun w => RCount_no P D R L hn w)
  obtain ⟨k, hk, hP⟩ := payOk_at h.1
  have hr := h.2
  by_cases hl : 0 ≤ L ∧ L ≤ 4000
  case neg =>
    have hn : ¬ (May P D R ∧ 0 ≤ L ∧ L ≤ 4000) := fun x => hl x.2
    have hb : L < 0 ∨ 4000 < L := by omega
    subst hP
    exact Tells_core (pay k) D R L G 0 (bodyK k) (indexK k) (innerK k) (fieldK k) (wordK k) (strandK k) (-1) (-1) (-1) w hT
      (fun w hT => Check_yes _ D R h w hT) (fun w => RefCheck_yes _ D R h w) (fun w hT => Body_yes k hk D R hr w hT) (fun w => RBody_yes k hk D R hr w) (fun w hT => Index_yes k hk D R hr w hT) (fun w => RIndex_yes k hk D R hr w)
      (fun w hT => Inner_yes k hk D R hr w hT) (fun w => RInner_yes k hk D R hr w) (fun w hT => Field_yes k hk D R hr w hT) (fun w => RField_yes k hk D R hr w) (fun w hT => Word_yes k hk D R hr w hT) (fun w => RWord_yes k hk D R hr w)
      (fun w hT => Strand_yes k hk D R hr w hT) (fun w => RStrand_yes k hk D R hr w)
      (fun w hT => Groups_bad _ D R L h hb w hT) (fun w => RGroups_no _ D R L hn w) (fun w hT => Pieces_bad _ D R L G h hb w hT) (fun w => RPieces_no _ D R L G hn w) (fun w hT => Count_bad _ D R L h hb w hT) (fun w => RCount_no _ D R L hn w)
  obtain ⟨p, d, r, e1, e2, e3, p2, p22, d0, d255, r32, dr⟩ := may_nat h
  obtain ⟨n, rfl⟩ : ∃ n : Nat, L = n := ⟨L.toNat, by omega⟩
  have hm : May (p : Int) (d : Int) (r : Int) := by rw [← e1, ← e2, ← e3]; exact h
  have ml := pieces_le n p (by omega)
  have hs := sumW_all r (pieces n p) d d0 (by omega) (by omega)
  have hd := e2
  have hR := e3
  refine Tells_core P D R n G 0 (bodyK k) (indexK k) (innerK k) (fieldK k) (wordK k) (strandK k) (cntOf (pieces n p) d) (pcs (pieces n p) d G) ((pieces n p + cntOf (pieces n p) d * r : Nat) : Int) w hT
    (fun w hT => Check_yes _ D R h w hT) (fun w => RefCheck_yes _ D R h w) ?_ ?_ ?_ ?_ ?_ ?_ ?_ ?_ ?_ ?_ ?_ ?_ ?_ ?_ ?_ ?_ ?_ ?_
  · rw [hP]; exact fun w hT => Body_yes k hk D R hr w hT
  · rw [hP]; exact fun w => RBody_yes k hk D R hr w
  · rw [hP]; exact fun w hT => Index_yes k hk D R hr w hT
  · rw [hP]; exact fun w => RIndex_yes k hk D R hr w
  · rw [hP]; exact fun w hT => Inner_yes k hk D R hr w hT
  · rw [hP]; exact fun w => RInner_yes k hk D R hr w
  · rw [hP]; exact fun w hT => Field_yes k hk D R hr w hT
  · rw [hP]; exact fun w => RField_yes k hk D R hr w
  · rw [hP]; exact fun w hT => Word_yes k hk D R hr w hT
  · rw [hP]; exact fun w => RWord_yes k hk D R hr w
  · rw [hP]; exact fun w hT => Strand_yes k hk D R hr w hT
  · rw [hP]; exact fun w => RStrand_yes k hk D R hr w
  · rw [e1, hd, hR]; exact fun w hT => Groups_yes p d r n _ hm (by omega) rfl w hT
  · rw [e1, hd, hR]; exact fun w => RGroups_yes p d r n hm (by omega) w
  · rw [e1, hd, hR]; exact fun w hT => Pieces_yes p d r n _ G hm (by omega) rfl w hT
  · rw [e1, hd, hR]; exact fun w => RPieces_yes p d r n G hm (by omega) w
  · rw [e1, hd, hR, ← hs]; exact fun w hT => Count_yes p d r n _ hm (by omega) rfl w hT
  · rw [e1, hd, hR]; exact fun w => RCount_yes p d r n hm (by omega) w
end Go.Proofs.YtjfhbhidnlgabaaDoor
