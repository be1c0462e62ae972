import Derived.Laws.IdiomStrings
import Derived.Test.YtcngnjkpnmpcpaaDoorEdCZ
import Derived.Test.YtcngnjkpnmpcpaaDoorNsDZ
namespace Go.Proofs.YtcngnjkpnmpcpaaDoor
open Go.RowKit Go.Shelf
attribute [local go_sem] Oper.semAt_some run_store_func
abbrev sV (l : List UInt8) : Value := .string ⟨l.toArray⟩
theorem sV_size (l : List UInt8) : (⟨l.toArray⟩ : ByteArray).size = l.length := by simp [ByteArray.size]
abbrev errno (n : Int) : List PanicEntry := [{ v := .iface 26 (.int .i64 n), recovered := false }]
theorem to_bytes (w : World) (l : List UInt8) : ∃ c w', (convert 9 39 (sV l)).run Tryd.prog w = .ok (.slice (some ⟨w.heap.size, 0, none⟩) l.length c) w' ∧
    Sl eB w'.heap.size w' (.slice (some ⟨w.heap.size, 0, none⟩) l.length c) l ∧ Below w.heap.size w w' ∧ w'.heap.size = w.heap.size + 1 := by
  have h := run_bytes_of_string (P := Tryd.prog) w 9 39 5 ⟨l.toArray⟩ Tryd.underlying9 Tryd.underlying39 Tryd.underlying5
  have hge := grownCap_ge w (⟨l.toArray⟩ : ByteArray).size 0 5
  rw [sV_size] at h hge
  generalize grownCap w l.length 0 5 = c at h hge
  refine ⟨c, _, h, ⟨_, c, rfl, hge, fun hn => ⟨w.heap.size, 0, rfl, ?_, fun j x hx => ?_⟩⟩, ?_, ?_⟩
  · rw [World.size_alloc]
    exact Nat.lt_succ_self _
  · have hj := (List.getElem?_eq_some_iff.1 hx).1
    have e := World.alloc_heap_new w.drew (.cells (bytesRow ⟨l.toArray⟩ c) 5 ((bytesRow ⟨l.toArray⟩ c).size, (bytesRow ⟨l.toArray⟩ c).size + 1))
    rw [Nat.zero_add, World.cell?]
    have e' : (w.drew.alloc (.cells (bytesRow ⟨l.toArray⟩ c) 5 ((bytesRow ⟨l.toArray⟩ c).size, (bytesRow ⟨l.toArray⟩ c).size + 1))).heap[w.heap.size]? = _ := e
    simp only [e']
    unfold bytesRow
    have hx2 : l[j] = x := (List.getElem?_eq_some_iff.1 hx).2
    rw [Array.getElem?_append_left (by simpa using hj)]
    simp [hj, hx2]
  · exact (show Below w.heap.size w w.drew from ⟨rfl, rfl, rfl, Nat.le_refl _, fun _ _ => rfl⟩).alloc (Nat.le_refl _) _
  · rw [World.size_alloc]
    rfl
def oneG (l : List UInt8) : Bool := decide (l.length = 16) && decide ((-1 : Int) ∉ codesOf l) && decide (gcOf l = 8) && decide ((runAt l l.length).1 ≤ 2)
theorem oneG_is {l : List UInt8} : oneG l = true ↔ l.length = 16 ∧ (-1 : Int) ∉ codesOf l ∧ gcOf l = 8 ∧ (runAt l l.length).1 ≤ 2 := by
 unfold oneG
 simp only [Bool.and_eq_true, decide_eq_true_eq]
 exact ⟨fun ⟨⟨⟨a, b⟩, c⟩, d⟩ => ⟨a, b, c, d⟩, fun ⟨a, b, c, d⟩ => ⟨⟨⟨a, b⟩, c⟩, d⟩⟩
theorem pmust_yes (n : Int) (w : World) : Calls Tryd.prog 29 #[.bool true, .int .i64 n] w fun e w' => e = .returned (.tuple #[]) ∧ w = w' := by
 go_enter Tryd.func29, Tryd.ntmps29
 go_wp2
 go_end0
 exact ⟨rfl, rfl⟩
theorem pmust_no (n : Int) (w : World) : Calls Tryd.prog 29 #[.bool false, .int .i64 n] w fun e w' => e = .panicked (errno n) ∧ w = w' := by
 go_enter Tryd.func29, Tryd.ntmps29
 go_wp2
 exact ⟨rfl, rfl, rfl⟩
set_option maxRecDepth 100000 in
set_option maxHeartbeats 2000000 in
theorem One_any (l : List UInt8) (w : World) (hT : Tab w) : Calls Tryd.prog 21 #[sV l] w fun e w' => e = .returned (.bool (oneG l)) ∧ Below w.heap.size w w' := by
 obtain ⟨c, w1, hcv, hS, hB, -⟩ := to_bytes w l
 have hT1 := hT.below hB
 by_cases h16 : l.length = 16
 · have d1 : ((l.length : Int) == 16) = true := by rw [h16]; rfl
   have hV := Valid_any _ l (by omega) w1 hS hT1
   have hG := fun w2 (h : Below w1.heap.size w1 w2) => Gc_any _ l (by omega) _ w2 (hS.below h)
   have hR := fun w2 (h : Below w1.heap.size w1 w2) => Run_any _ l (by omega) _ w2 (hS.below h)
   have hgl := gcOf_le l
   by_cases hv : (-1 : Int) ∉ codesOf l
   · rw [decide_eq_true hv] at hV
     have hone : oneG l = (decide (gcOf l = 8) && decide ((runAt l l.length).1 ≤ 2)) := by unfold oneG; rw [decide_eq_true h16, decide_eq_true hv]; rfl
     rw [hone]
     generalize gcOf l = gc at *
     generalize (runAt l l.length).1 = ru at *
     have hw2 : IntKind.i64.wrap (2 * (gc : Int)) = 2 * (gc : Int) := IntWalk.i64_in _ (by omega)
     have hw3 : wrap64 (2 * (gc : Int)) = 2 * (gc : Int) := IntWalk.wrap64_in _ (by omega)
     by_cases hg : gc = 8
     · subst hg
       clear hone hv h16 hgl hw2 hw3
       go_enter Tryd.func21, Tryd.ntmps21
       go_wp2_with fail
       go_at_call 38
       refine hV.mono ?_
       rintro e w2 ⟨rfl, hB2⟩
       have hG2 := hG w2 hB2
       have hR2 := hR w2 hB2
       clear hV hG hR
       go_wp2_with fail
       go_at_call 39
       refine hG2.mono ?_
       rintro e w3 ⟨rfl, rfl⟩
       clear hG2
       go_wp2_with fail
       go_at_call 40
       refine hR2.mono ?_
       rintro e w3 ⟨rfl, rfl⟩
       clear hR2
       go_wp2_with fail
       go_ret
       exact ⟨by simp; omega, below_trans hB hB2⟩
     · have d2 : (2 * (gc : Int) == 16) = false := by rw [beq_eq_false_iff_ne]; omega
       rw [decide_eq_false hg]
       clear hone hv h16 hgl hg
       go_enter Tryd.func21, Tryd.ntmps21
       go_wp2_with fail
       go_at_call 38
       refine hV.mono ?_
       rintro e w2 ⟨rfl, hB2⟩
       have hG2 := hG w2 hB2
       clear hV hG hR
       go_wp2_with fail
       go_at_call 39
       refine hG2.mono ?_
       rintro e w3 ⟨rfl, rfl⟩
       clear hG2
       go_wp2_with fail
       go_ret
       exact ⟨rfl, below_trans hB hB2⟩
   · rw [decide_eq_false hv] at hV
     have hone : oneG l = false := by unfold oneG; rw [decide_eq_true h16, decide_eq_false hv]; rfl
     rw [hone]
     clear hone hv h16 hgl hG hR
     go_enter Tryd.func21, Tryd.ntmps21
     go_wp2_with fail
     go_at_call 38
     refine hV.mono ?_
     rintro e w2 ⟨rfl, hB2⟩
     clear hV
     go_wp2_with fail
     go_ret
     exact ⟨rfl, below_trans hB hB2⟩
 · have d1 : ((l.length : Int) == 16) = false := by rw [beq_eq_false_iff_ne]; omega
   have hone : oneG l = false := by unfold oneG; rw [decide_eq_false h16]; rfl
   rw [hone]
   clear hone h16
   go_enter Tryd.func21, Tryd.ntmps21
   go_wp2_with fail
   go_ret
   exact ⟨rfl, hB⟩
def dC (a b : List UInt8) : Nat := dist (cut a) (cut b)
set_option maxRecDepth 100000 in
set_option maxHeartbeats 1000000 in
theorem pdistance_any (a b : List UInt8) (w : World) : Calls Tryd.prog 37 #[sV a, sV b] w fun e w' => e = .returned (.int .i64 (dC a b : Nat)) ∧ Below w.heap.size w w' := by
 obtain ⟨c, w1, hcv, hS, hB, -⟩ := to_bytes w a
 obtain ⟨c2, w2, hcv2, hS2, hB2, -⟩ := to_bytes w1 b
 have hD := Distance_any _ _ a b w2 (hS.next hB2) hS2
 clear hS hS2
 go_enter Tryd.func37, Tryd.ntmps37
 go_wp2_with fail
 go_at_call 57
 refine hD.mono ?_
 rintro e w3 ⟨rfl, hB3⟩
 clear hD
 go_wp2_with fail
 go_ret
 exact ⟨rfl, below_trans (below_trans hB hB2) hB3⟩
end Go.Proofs.YtcngnjkpnmpcpaaDoor
