/- Contracts of helixlaw27.great, same, wakes. (Seat s27.) -/
import Derived.Test.YtfkjheilcbppcaaCoP
namespace Go.Proofs.Ytfkjheilcbppcaa
open Go.RowKit Go.Shelf
attribute [local go_sem] Oper.semAt_some run_store_func

theorem beq_dec (a b : List UInt8) : (a == b) = decide (a = b) := by by_cases h : a = b <;> simp [h]
set_option maxRecDepth 100000 in
set_option maxHeartbeats 400000 in
theorem same_any (sa sb : Value) (a b : List UInt8) (B : Nat) (w : World) (ha : Sl eB B w sa a) (hb : Sl eB B w sb b) :
    Calls Try.prog 16 #[sa, sb] w fun e w' => e = .returned (.bool (decide (a = b))) ∧ w = w' := by
  have ra := run_str (P := Try.prog) ha 23 9 5 Try.underlying23 Try.underlying5 Try.underlying9
  have rb := run_str (P := Try.prog) hb 23 9 5 Try.underlying23 Try.underlying5 Try.underlying9
  obtain ⟨Aa, ca, rfl⟩ := ha.len
  obtain ⟨Ab, cb, rfl⟩ := hb.len
  clear ha hb
  go_enter Try.func16, Try.ntmps16
  go_wp2
  go_ret
  exact ⟨by rw [← beq_dec]; rfl, rfl⟩
theorem same_is (sa sb : Value) (a b : List UInt8) (r : Bool) (hr : decide (a = b) = r) (B : Nat) (w : World) (ha : Sl eB B w sa a) (hb : Sl eB B w sb b) :
    Calls Try.prog 16 #[sa, sb] w fun e w' => e = .returned (.bool r) ∧ w = w' := by subst hr; exact same_any sa sb a b B w ha hb

/-- Whether rows are too many, or one too long. -/
def grG (rows : List RowC) : Bool := decide (30 < rows.length) || rows.any fun p => decide (60 < p.bs.length)
theorem grG_no {rows : List RowC} (h : grG rows = false) : rows.length ≤ 30 ∧ ∀ p ∈ rows, p.bs.length ≤ 60 := by
  unfold grG at h
  rw [Bool.or_eq_false_iff] at h
  refine ⟨by have := of_decide_eq_false h.1; omega, fun p hp => ?_⟩
  have := List.any_eq_false.1 h.2 p hp
  simp at this
  omega
theorem grG_long {rows : List RowC} {p : RowC} (hp : p ∈ rows) (h : 60 < p.bs.length) : grG rows = true := by
  unfold grG
  rw [Bool.or_eq_true]
  exact .inr (List.any_eq_true.2 ⟨p, hp, decide_eq_true h⟩)
theorem grG_many {rows : List RowC} (h : 30 < rows.length) : grG rows = true := by
  unfold grG
  rw [Bool.or_eq_true]
  exact .inl (decide_eq_true h)
theorem grG_else {rows : List RowC} (h : ∀ p ∈ rows, p.bs.length ≤ 60) : grG rows = decide ((30 : Int) < (rows.length : Int)) := by
  have e : rows.any (fun p => decide (60 < p.bs.length)) = false := List.any_eq_false.2 fun p hp => by have := h p hp; simp; omega
  unfold grG
  rw [e, Bool.or_false]
  exact decide_eq_decide.2 (by omega)
set_option maxRecDepth 100000 in
set_option maxHeartbeats 1000000 in
theorem great_any (v : Value) (rows : List RowC) (w : World) (h : RowsIn w v rows) :
    Calls Try.prog 8 #[v] w fun e w' => e = .returned (.bool (grG rows)) ∧ w = w' := by
  obtain ⟨⟨A, c, rfl, -, hcs⟩, hR⟩ := h
  go_enter Try.func8, Try.ntmps8
  go_wp2_with fail
  go_loopw [3] (fun t wr => ∃ k : Nat, k ≤ rows.length ∧ k ≤ 31 ∧ t = .int .i64 k ∧ wr = w ∧ ∀ j (hj : j < rows.length), j < k → rows[j].bs.length ≤ 60) (fun t _ => 31 - (RowKit.intOf t).toNat)
  case atStart => exact ⟨0, Nat.zero_le _, by omega, rfl, rfl, fun j _ h => absurd h (by omega)⟩
  case round =>
    obtain ⟨k, hk, hk6, rfl, rfl, hL⟩ := hrel
    by_cases hlt : k < rows.length
    · by_cases h6 : k ≤ 30
      · obtain ⟨b, off, rfl, -, hcell⟩ := hcs (by omega)
        have hc := hcell k rows[k] (List.getElem?_eq_getElem hlt)
        have HL : Hid (rows[k].bs.length ≤ 60 → ∀ j (hj : j < rows.length), j < k + 1 → rows[j].bs.length ≤ 60) := Lib.hid fun h j hj hjk => by
          by_cases he : j = k
          · subst he; exact h
          · exact hL j hj (by omega)
        have HG : Hid (60 < rows[k].bs.length → grG rows = true) := Lib.hid fun h => grG_long (List.getElem_mem hlt) h
        generalize rows[k] = p at hc HL HG
        obtain ⟨A2, c2, bs⟩ := p
        change wr.cell? _ = some (.slice A2 bs.length c2) at hc
        have h3 : (k : Int) < (rows.length : Int) := by omega
        have h4 : (k : Int) ≤ 30 := by omega
        have hlt' := Lib.hid hlt
        clear hcell hcs hL hR hlt hk
        by_cases h5 : 60 < bs.length
        · have d5 : decide ((60 : Int) < (bs.length : Int)) = true := by simp; omega
          have hg := Lib.hid (HG.out h5)
          clear HL HG
          go_wp2_with fail
          go_ret
          exact ⟨by rw [hg.out]; rfl, rfl⟩
        · have d5 : decide ((60 : Int) < (bs.length : Int)) = false := by simp; omega
          have HM := Lib.hid (HL.out (by show bs.length ≤ 60; omega))
          clear HL HG
          go_wp2_with fail
          go_roundw
          case rel => exact ⟨k + 1, hlt'.out, by omega, by go_num, trivial, HM.out⟩
          case measure => simp [RowKit.intOf]; omega
      · have h3 : (k : Int) < (rows.length : Int) := by omega
        have h4 : ¬ (k : Int) ≤ 30 := by omega
        have d5 : decide ((30 : Int) < (rows.length : Int)) = true := by simp; omega
        have hg := Lib.hid (grG_many (rows := rows) (by omega))
        clear hcs hR hL
        go_wp2_with fail
        go_ret
        exact ⟨by rw [hg.out]; rfl, rfl⟩
    · obtain rfl : k = rows.length := by omega
      have h3 : ¬ (rows.length : Int) < (rows.length : Int) := by omega
      have h4 : ¬ rows.length < rows.length := by omega
      have hg := grG_else (rows := rows) fun p hp => by
        obtain ⟨j, hj, rfl⟩ := List.getElem_of_mem hp
        exact hL j hj hj
      have Hg := Lib.hid hg
      clear hlt hk hL hcs hR hk6 hg
      go_wp2_with fail
      go_ret
      exact ⟨by rw [Hg.out]; rfl, rfl⟩

/-- Rows of a literal. -/
def litR (s : Nat) : List (List UInt8) → List RowC
  | [] => []
  | bs :: L => ⟨some ⟨s, 0, none⟩, bs.length, bs⟩ :: litR (s + 1) L
def litB (w : World) : List (List UInt8) → World
  | [] => w
  | bs :: L => litB (w.alloc (.cells (bs.map eB).toArray 5 (bs.length, bs.length + 1))) L
def litW (w : World) (L : List (List UInt8)) : World := (litB w L).alloc (.cells ((litR w.heap.size L).map eC).toArray 23)
theorem bsL_lit (L : List (List UInt8)) : ∀ s, bsL (litR s L) = L := by
  induction L with
  | nil => intro s; rfl
  | cons b L ih => intro s; show b :: bsL (litR (s + 1) L) = _; rw [ih]
theorem litR_len (L : List (List UInt8)) : ∀ s, (litR s L).length = L.length := by
  induction L with
  | nil => intro s; rfl
  | cons b L ih => intro s; show (litR (s + 1) L).length + 1 = _; rw [ih]; rfl
theorem sl_new (w : World) (bs : List UInt8) (t : TypeId) (fr : Nat × Nat) : Sl eB (w.alloc (.cells (bs.map eB).toArray t fr)).heap.size (w.alloc (.cells (bs.map eB).toArray t fr)) (.slice (some ⟨w.heap.size, 0, none⟩) bs.length bs.length) bs := by
  refine ⟨_, bs.length, rfl, Nat.le_refl _, fun _ => ⟨w.heap.size, 0, rfl, by simp, fun j x hx => ?_⟩⟩
  rw [World.cell?]
  simp only [World.alloc_heap_new]
  simp [hx]
theorem lit_is (L : List (List UInt8)) : ∀ w, (litB w L).heap.size = w.heap.size + L.length ∧ Below w.heap.size w (litB w L) ∧ ∀ p ∈ litR w.heap.size L, Sl eB (litB w L).heap.size (litB w L) (eC p) p.bs := by
  induction L with
  | nil => intro w; exact ⟨rfl, Below.refl _ _, fun p hp => by cases hp⟩
  | cons bs L ih =>
    intro w
    obtain ⟨h1, h2, h3⟩ := ih (w.alloc (.cells (bs.map eB).toArray 5 (bs.length, bs.length + 1)))
    rw [World.size_alloc] at h1 h2 h3
    refine ⟨by show (litB _ L).heap.size = _; rw [h1, List.length_cons]; omega, ((Below.refl _ w).alloc (Nat.le_refl _) _).trans (h2.mono (by omega)), fun p hp => ?_⟩
    rcases List.mem_cons.1 hp with rfl | hp
    · exact ((sl_new w bs 5 _).below (by rw [World.size_alloc]; exact h2)).more (by have := h2.size; rw [World.size_alloc] at this ⊢; exact this)
    · exact h3 p hp
theorem lit_rows (w : World) (L : List (List UInt8)) : RowsIn (litW w L) (.slice (some ⟨w.heap.size + L.length, 0, none⟩) L.length L.length) (litR w.heap.size L) ∧ Below w.heap.size w (litW w L) := by
  obtain ⟨h1, h2, h3⟩ := lit_is L w
  have hal : Below (litB w L).heap.size (litB w L) (litW w L) := (Below.refl _ (litB w L)).alloc (Nat.le_refl _) _
  refine ⟨⟨⟨some ⟨w.heap.size + L.length, 0, none⟩, L.length, by rw [litR_len], by rw [litR_len]; exact Nat.le_refl _, fun _ => ⟨_, 0, rfl, by have : (litW w L).heap.size = (litB w L).heap.size + 1 := World.size_alloc _ _; omega, fun j x hx => ?_⟩⟩, fun p hp => (h3 p hp).next hal⟩, h2.trans (hal.mono h2.size)⟩
  rw [← h1]
  unfold litW
  rw [(Rowed.new (litB w L) 23 _).cell]
  simp [hx]
end Go.Proofs.Ytfkjheilcbppcaa
