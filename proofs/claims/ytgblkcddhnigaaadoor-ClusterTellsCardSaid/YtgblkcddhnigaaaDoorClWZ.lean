import Derived.Test.YtgblkcddhnigaaaDoorClTZ
import Derived.Test.YtgblkcddhnigaaaDoorGqBZ
namespace Go.Proofs.YtgblkcddhnigaaaDoor
open Go.RowKit Go.Shelf
attribute [local go_sem] Oper.semAt_some run_store_func
def gr6 (rows : List RowC) : Bool := decide (40 < rows.length) || rows.any fun p => decide (200 < p.bs.length)
theorem gr6_no {rows : List RowC} (h : gr6 rows = false) : rows.length ≤ 40 ∧ ∀ p ∈ rows, p.bs.length ≤ 200 := by
 unfold gr6 at h
 rw [Bool.or_eq_false_iff] at h
 refine ⟨by have := of_decide_eq_false h.1; omega, fun p hp => ?_⟩
 have := List.any_eq_false.1 h.2 p hp
 simp at this
 omega
theorem gr6_long {rows : List RowC} {p : RowC} (hp : p ∈ rows) (h : 200 < p.bs.length) : gr6 rows = true := by
 unfold gr6
 rw [Bool.or_eq_true]
 exact .inr (List.any_eq_true.2 ⟨p, hp, decide_eq_true h⟩)
theorem gr6_many {rows : List RowC} (h : 40 < rows.length) : gr6 rows = true := by
 unfold gr6
 rw [Bool.or_eq_true]
 exact .inl (decide_eq_true h)
theorem gr6_else {rows : List RowC} (h : ∀ p ∈ rows, p.bs.length ≤ 200) : gr6 rows = decide ((40 : Int) < (rows.length : Int)) := by
 have e : rows.any (fun p => decide (200 < p.bs.length)) = false := List.any_eq_false.2 fun p hp => by have := h p hp; simp; omega
 unfold gr6
 rw [e, Bool.or_false]
 exact decide_eq_decide.2 (by omega)
set_option maxRecDepth 100000 in
set_option maxHeartbeats 1000000 in
theorem great_any (v : Value) (rows : List RowC) (w : World) (h : RowsIn w v rows) :
    Calls Tryd.prog 8 #[v] w fun e w' => e = .returned (.bool (gr6 rows)) ∧ w = w' := by
  obtain ⟨⟨A, c, rfl, -, hcs⟩, hR⟩ := h
  go_enter Tryd.func8, Tryd.ntmps8
  go_wp2_with fail
  go_loopw [3] (fun t wr => ∃ k : Nat, k ≤ rows.length ∧ k ≤ 41 ∧ t = .int .i64 k ∧ wr = w ∧ ∀ j (hj : j < rows.length), j < k → rows[j].bs.length ≤ 200) (fun t _ => 41 - (RowKit.intOf t).toNat)
  case atStart => exact ⟨0, Nat.zero_le _, by omega, rfl, rfl, fun j _ h => absurd h (by omega)⟩
  case round =>
   obtain ⟨k, hk, hk6, rfl, rfl, hL⟩ := hrel
   by_cases hlt : k < rows.length
   · by_cases h6 : k ≤ 40
     · obtain ⟨b, off, rfl, -, hcell⟩ := hcs (by omega)
       have hc := hcell k rows[k] (List.getElem?_eq_getElem hlt)
       have HL : Hid (rows[k].bs.length ≤ 200 → ∀ j (hj : j < rows.length), j < k + 1 → rows[j].bs.length ≤ 200) := Lib.hid fun h j hj hjk => by
        by_cases he : j = k
        · subst he; exact h
        · exact hL j hj (by omega)
       have HG : Hid (200 < rows[k].bs.length → gr6 rows = true) := Lib.hid fun h => gr6_long (List.getElem_mem hlt) h
       generalize rows[k] = p at hc HL HG
       obtain ⟨A2, c2, bs⟩ := p
       change wr.cell? _ = some (.slice A2 bs.length c2) at hc
       have h3 : (k : Int) < (rows.length : Int) := by omega
       have h4 : (k : Int) ≤ 40 := by omega
       have hlt' := Lib.hid hlt
       clear hcell hcs hL hR hlt hk
       by_cases h5 : 200 < bs.length
       · have d5 : decide ((200 : Int) < (bs.length : Int)) = true := by simp; omega
         have hg := Lib.hid (HG.out h5)
         clear HL HG
         go_wp2_with fail
         go_ret
         exact ⟨by rw [hg.out]; rfl, rfl⟩
       · have d5 : decide ((200 : Int) < (bs.length : Int)) = false := by simp; omega
         have HM := Lib.hid (HL.out (by show bs.length ≤ 200; omega))
         clear HL HG
         go_wp2_with fail
         go_roundw
         case rel => exact ⟨k + 1, hlt'.out, by omega, by go_num, trivial, HM.out⟩
         case measure => simp [RowKit.intOf]; omega
     · have h3 : (k : Int) < (rows.length : Int) := by omega
       have h4 : ¬ (k : Int) ≤ 40 := by omega
       have d5 : decide ((40 : Int) < (rows.length : Int)) = true := by simp; omega
       have hg := Lib.hid (gr6_many (rows := rows) (by omega))
       clear hcs hR hL
       go_wp2_with fail
       go_ret
       exact ⟨by rw [hg.out]; rfl, rfl⟩
   · obtain rfl : k = rows.length := by omega
     have h3 : ¬ (rows.length : Int) < (rows.length : Int) := by omega
     have h4 : ¬ rows.length < rows.length := by omega
     have hg := gr6_else (rows := rows) fun p hp => by
      obtain ⟨j, hj, rfl⟩ := List.getElem_of_mem hp
      exact hL j hj hj
     have Hg := Lib.hid hg
     clear hlt hk hL hcs hR hk6 hg
     go_wp2_with fail
     go_ret
     exact ⟨by rw [Hg.out]; rfl, rfl⟩
def litR (s : Nat) : List (List UInt8) → List RowC
  | [] => []
  | bs :: L => ⟨some ⟨s, 0, none⟩, bs.length, bs⟩ :: litR (s + 1) L
def litB (w : World) : List (List UInt8) → World
  | [] => w
  | bs :: L => litB (w.alloc (.cells (bs.map eB).toArray 5 (bs.length, bs.length + 1))) L
def litW (w : World) (L : List (List UInt8)) : World := (litB w L).alloc (.cells ((litR w.heap.size L).map eC).toArray 34)
theorem bsL_lit (L : List (List UInt8)) : ∀ s, bsL (litR s L) = L := by
 induction L with
 | nil => intro s; rfl
 | cons b L ih => intro s; show b :: bsL (litR (s + 1) L) = _; rw [ih]
theorem litR_len (L : List (List UInt8)) : ∀ s, (litR s L).length = L.length := by
 induction L with
 | nil => intro s; rfl
 | cons b L ih => intro s; show (litR (s + 1) L).length + 1 = _; rw [ih]; rfl
theorem sl_new (w : World) (bs : List UInt8) (t : TypeId) (fr : Nat × Nat) : Sl eB (w.alloc (.cells (bs.map eB).toArray t fr)).heap.size (w.alloc (.cells (bs.map eB).toArray t fr)) (.slice (some ⟨w.heap.size, 0, none⟩) bs.length bs.length) bs := by
 refine ⟨_, bs.length, rfl, Nat.le_refl _, fun _ => ⟨w.heap.size, 0, rfl, by simp, fun j x hx => ?_⟩⟩
 rw [World.cell?]
 simp only [World.alloc_heap_new]
 simp [hx]
theorem lit_is (L : List (List UInt8)) : ∀ w, (litB w L).heap.size = w.heap.size + L.length ∧ Below w.heap.size w (litB w L) ∧ ∀ p ∈ litR w.heap.size L, Sl eB (litB w L).heap.size (litB w L) (eC p) p.bs := by
 induction L with
 | nil => intro w; exact ⟨rfl, Below.refl _ _, fun p hp => by cases hp⟩
 | cons bs L ih =>
   intro w
   obtain ⟨h1, h2, h3⟩ := ih (w.alloc (.cells (bs.map eB).toArray 5 (bs.length, bs.length + 1)))
   rw [World.size_alloc] at h1 h2 h3
   refine ⟨by show (litB _ L).heap.size = _; rw [h1, List.length_cons]; omega, ((Below.refl _ w).alloc (Nat.le_refl _) _).trans (h2.mono (by omega)), fun p hp => ?_⟩
   rcases List.mem_cons.1 hp with rfl | hp
   · exact ((sl_new w bs 5 _).below (by rw [World.size_alloc]; exact h2)).more (by have := h2.size; rw [World.size_alloc] at this ⊢; exact this)
   · exact h3 p hp
theorem lit_rows (w : World) (L : List (List UInt8)) : RowsIn (litW w L) (.slice (some ⟨w.heap.size + L.length, 0, none⟩) L.length L.length) (litR w.heap.size L) ∧ Below w.heap.size w (litW w L) := by
 obtain ⟨h1, h2, h3⟩ := lit_is L w
 have hal : Below (litB w L).heap.size (litB w L) (litW w L) := (Below.refl _ (litB w L)).alloc (Nat.le_refl _) _
 refine ⟨⟨⟨some ⟨w.heap.size + L.length, 0, none⟩, L.length, by rw [litR_len], by rw [litR_len]; exact Nat.le_refl _, fun _ => ⟨_, 0, rfl, by have : (litW w L).heap.size = (litB w L).heap.size + 1 := World.size_alloc _ _; omega, fun j x hx => ?_⟩⟩, fun p hp => (h3 p hp).next hal⟩, h2.trans (hal.mono h2.size)⟩
 rw [← h1]
 unfold litW
 rw [(Rowed.new (litB w L) 34 _).cell]
 simp [hx]
set_option maxRecDepth 100000 in
set_option maxHeartbeats 1000000 in
theorem RRows_true (v u : Value) (ra rb : List RowC) (w : World) (ha : RowsIn w v ra) (hb : RowsIn w u rb) (hs : ra.map (·.bs) = rb.map (·.bs)) (hl : ra.length ≤ 1000) :
    Calls Tryd.prog 11 #[v, u] w fun e w' => e = .returned (.bool true) ∧ ∃ n, w' = w.drewN n := by
  obtain ⟨A, c, rfl, hA⟩ := ha.some
  obtain ⟨B, d, rfl, hB⟩ := hb.some
  have hlen : ra.length = rb.length := by have := congrArg List.length hs; simpa using this
  have hne : ((ra.length : Int) != (rb.length : Int)) = false := by rw [hlen]; simp
  have HL := Lib.hid hlen
  go_enter Tryd.func11, Tryd.ntmps11
  clear hlen
  go_wp2_with fail
  go_loopw [5] (fun t wr => ∃ k : Nat, k ≤ ra.length ∧ t = .int .i64 k ∧ ∃ n, wr = w.drewN n) (fun t _ => ra.length - (intOf t).toNat)
  case atStart => exact ⟨0, Nat.zero_le _, rfl, 0, rfl⟩
  case round =>
   obtain ⟨k, hk, rfl, nd, hwr⟩ := hrel
   have hBr : Below w.heap.size w wr := by rw [hwr]; exact below_drewN' _ _ _
   have HWR := Lib.hid hwr
   clear hwr
   by_cases hlt : k < ra.length
   · obtain ⟨b1, o1, rfl, l1⟩ := hA (by omega)
     obtain ⟨b2, o2, rfl, l2⟩ := hB (by have := HL.out; omega)
     obtain ⟨q1, s1⟩ := ha.at k hlt
     obtain ⟨q2, s2⟩ := hb.at k (by have := HL.out; omega)
     have he : ra[k].bs = (rb[k]'(by have := HL.out; omega)).bs := by
      have := congrArg (·[k]?) hs
      simpa [hlt, (show k < rb.length by have := HL.out; omega)] using this
     rw [← he] at q2 s2
     have r1 := (hBr.cell (p := ⟨b1, o1 + k, none⟩) l1).trans q1
     have r2 := (hBr.cell (p := ⟨b2, o2 + k, none⟩) l2).trans q2
     have t1 := str_n s1 hBr
     have t2 := str_n s2 hBr
     generalize ra[k].bs = x at *
     generalize ra[k].A = A1 at *
     generalize ra[k].c = c1 at *
     generalize (rb[k]'(by have := HL.out; omega)).A = A2 at *
     generalize (rb[k]'(by have := HL.out; omega)).c = c2 at *
     have h3 : (k : Int) < (ra.length : Int) := by omega
     have h4 : (k : Int) < (rb.length : Int) := by have := HL.out; omega
     have h5 : k < rb.length := by have := HL.out; omega
     have hlt' := Lib.hid hlt
     have hk9 : k ≤ 1000 := by omega
     clear ha hb hA hB hs he s1 s2 q1 q2 hlt hk
     go_wp2_with fail
     go_quiet (fail)
     go_wp2_with fail
     go_roundw
     case rel => exact ⟨k + 1, hlt'.out, by go_num, _, by rw [HWR.out, World.drewN_drewN]⟩
     case measure => have := hlt'.out; simp [intOf]; omega
   · obtain rfl : k = ra.length := by omega
     have h3 : ¬ (ra.length : Int) < (ra.length : Int) := by omega
     have h4 : ¬ ra.length < ra.length := by omega
     clear hlt hk ha hb hA hB hs
     go_wp2_with fail
     go_ret
     exact ⟨rfl, nd, HWR.out⟩
def R3In (W : World) (t : Value) (cl : List ClC) : Prop := Sl eCC W.heap.size W t cl ∧ ∀ c ∈ cl, RowsIn W (eCC c) c.rows
theorem R3In.next {w w' : World} {t : Value} {cl : List ClC} (h : R3In w t cl) (hb : Below w.heap.size w w') : R3In w' t cl := ⟨h.1.next hb, fun c hc => (h.2 c hc).next hb⟩
theorem CcB.r3 {B : Nat} {W : World} {t : Value} {cl : List ClC} (h : CcB B W t cl) : R3In W t cl := ⟨Sl.of_own h.out, fun _ hc => h.row hc⟩
theorem R3In.some {W : World} {v : Value} {cl : List ClC} (h : R3In W v cl) : ∃ A c, v = .slice A cl.length c ∧ (0 < cl.length → ∃ b off, A = some ⟨b, off, none⟩ ∧ b < W.heap.size ∧ ∀ k (hk : k < cl.length), W.cell? ⟨b, off + k, none⟩ = some (eCC cl[k])) := by
 obtain ⟨⟨A, c, e, -, hcs⟩, -⟩ := h
 exact ⟨A, c, e, fun h => by obtain ⟨b, off, e', hb, hc⟩ := hcs h; exact ⟨b, off, e', hb, fun k hk => hc k _ (List.getElem?_eq_getElem hk)⟩⟩
set_option maxRecDepth 100000 in
set_option maxHeartbeats 2000000 in
theorem RSame_true (v u : Value) (ca cb : List ClC) (w : World) (ha : R3In w v ca) (hb : R3In w u cb) (hs : bs3 ca = bs3 cb) (hl : ca.length ≤ 1000) (hl2 : ∀ c ∈ ca, c.rows.length ≤ 1000) :
    Calls Tryd.prog 16 #[v, u] w fun e w' => e = .returned (.bool true) ∧ ∃ n, w' = w.drewN n := by
  obtain ⟨A, c, rfl, hA⟩ := ha.some
  obtain ⟨B, d, rfl, hB⟩ := hb.some
  have hlen : ca.length = cb.length := by have := congrArg List.length hs; simpa [bs3] using this
  have hne : ((ca.length : Int) != (cb.length : Int)) = false := by rw [hlen]; simp
  have HL := Lib.hid hlen
  have HN := Lib.hid hl
  go_enter Tryd.func16, Tryd.ntmps16
  clear hlen
  go_wp2_with fail
  go_loopw [5] (fun t wr => ∃ k : Nat, k ≤ ca.length ∧ t = .int .i64 k ∧ ∃ n, wr = w.drewN n) (fun t _ => ca.length - (RowKit.intOf t).toNat)
  case atStart => exact ⟨0, Nat.zero_le _, rfl, 0, rfl⟩
  case round =>
   obtain ⟨k, hk, rfl, nd, hwr⟩ := hrel
   have hBr : Below w.heap.size w wr := by rw [hwr]; exact below_drewN' _ _ _
   by_cases hlt : k < ca.length
   · obtain ⟨b1, o1, rfl, l1, q1⟩ := hA (by omega)
     obtain ⟨b2, o2, rfl, l2, q2⟩ := hB (by have := HL.out; omega)
     have r1 := (hBr.cell (p := ⟨b1, o1 + k, none⟩) l1).trans (q1 k hlt)
     have r2 := (hBr.cell (p := ⟨b2, o2 + k, none⟩) l2).trans (q2 k (by have := HL.out; omega))
     have he : bsL ca[k].rows = bsL (cb[k]'(by have := HL.out; omega)).rows := by
      have := congrArg (·[k]?) hs
      simpa [bs3, hlt, (show k < cb.length by have := HL.out; omega)] using this
     have hQ : ∀ n, Calls Tryd.prog 11 #[eCC ca[k], eCC (cb[k]'(by have := HL.out; omega))] (wr.drewN n) fun e w' => e = .returned (.bool true) ∧ ∃ m, w' = wr.drewN m := fun n => by
      have hb' : Below w.heap.size w (wr.drewN n) := hBr.trans (below_drewN' _ _ _)
      refine (RRows_true _ _ ca[k].rows (cb[k]'(by have := HL.out; omega)).rows _ ((ha.2 _ (List.getElem_mem hlt)).next hb') ((hb.2 _ (List.getElem_mem _)).next hb') he (hl2 _ (List.getElem_mem hlt))).mono ?_
      rintro e w' ⟨rfl, m, rfl⟩
      exact ⟨rfl, n + m, by rw [World.drewN_drewN]⟩
     have h3 : (k : Int) < (ca.length : Int) := by omega
     have h4 : (k : Int) < (cb.length : Int) := by have := HL.out; omega
     have hlt' := Lib.hid hlt
     have hk9 : k ≤ 1000 := by have := HN.out; omega
     have HWR := Lib.hid hwr
     generalize ca[k] = x at *
     generalize (cb[k]'(by have := HL.out; omega)) = y at *
     unfold eCC at r1 r2 hQ
     clear ha hb hA hB hs he q1 q2 hlt hk hwr
     go_wp2_with fail
     go_quiet ((go_at_call 11; with_reducible exact hQ _))
     go_wp2_with fail
     go_roundw
     case rel => exact ⟨k + 1, hlt'.out, by go_num, _, by rw [HWR.out, World.drewN_drewN]⟩
     case measure => have := hlt'.out; simp [RowKit.intOf]; omega
   · obtain rfl : k = ca.length := by omega
     have h3 : ¬ (ca.length : Int) < (ca.length : Int) := by omega
     have h4 : ¬ ca.length < ca.length := by omega
     have HWR := Lib.hid hwr
     clear hlt hk ha hb hA hB hs hwr
     go_wp2_with fail
     go_ret
     exact ⟨rfl, nd, HWR.out⟩
end Go.Proofs.YtgblkcddhnigaaaDoor
