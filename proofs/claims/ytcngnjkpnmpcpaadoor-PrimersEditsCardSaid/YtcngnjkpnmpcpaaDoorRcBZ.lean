import Derived.Laws.IdiomStrings
import Derived.Defers
import Derived.Recover
import Derived.Laws.Externs
import Derived.Test.YtcngnjkpnmpcpaaDoorCIZ
import Derived.Test.YtcngnjkpnmpcpaaDoorClBZ
import Derived.Test.YtcngnjkpnmpcpaaDoorEdCZ
import Derived.Test.YtcngnjkpnmpcpaaDoorNsDZ
import Derived.Test.YtcngnjkpnmpcpaaDoorRXJZ
namespace Go.Proofs.YtcngnjkpnmpcpaaDoor
open Go.RowKit Go.Shelf
attribute [local go_sem] Oper.semAt_some run_store_func
abbrev sV (l : List UInt8) : Value := .string ⟨l.toArray⟩
theorem sV_size (l : List UInt8) : (⟨l.toArray⟩ : ByteArray).size = l.length := by simp [ByteArray.size]
abbrev errno (n : Int) : List PanicEntry := [{ v := .iface 26 (.int .i64 n), recovered := false }]
theorem to_bytes (w : World) (l : List UInt8) : ∃ c w', (convert 9 39 (sV l)).run Tryd.prog w = .ok (.slice (some ⟨w.heap.size, 0, none⟩) l.length c) w' ∧
    Sl eB w'.heap.size w' (.slice (some ⟨w.heap.size, 0, none⟩) l.length c) l ∧ Below w.heap.size w w' ∧ w'.heap.size = w.heap.size + 1 := by
  have h := run_bytes_of_string (P := Tryd.prog) w 9 39 5 ⟨l.toArray⟩ Tryd.underlying9 Tryd.underlying39 Tryd.underlying5
  have hge := grownCap_ge w (⟨l.toArray⟩ : ByteArray).size 0 5
  rw [sV_size] at h hge
  generalize grownCap w l.length 0 5 = c at h hge
  refine ⟨c, _, h, ⟨_, c, rfl, hge, fun hn => ⟨w.heap.size, 0, rfl, ?_, fun j x hx => ?_⟩⟩, ?_, ?_⟩
  · rw [World.size_alloc]
    exact Nat.lt_succ_self _
  · have hj := (List.getElem?_eq_some_iff.1 hx).1
    have e := World.alloc_heap_new w.drew (.cells (bytesRow ⟨l.toArray⟩ c) 5 ((bytesRow ⟨l.toArray⟩ c).size, (bytesRow ⟨l.toArray⟩ c).size + 1))
    rw [Nat.zero_add, World.cell?]
    have e' : (w.drew.alloc (.cells (bytesRow ⟨l.toArray⟩ c) 5 ((bytesRow ⟨l.toArray⟩ c).size, (bytesRow ⟨l.toArray⟩ c).size + 1))).heap[w.heap.size]? = _ := e
    simp only [e']
    unfold bytesRow
    have hx2 : l[j] = x := (List.getElem?_eq_some_iff.1 hx).2
    rw [Array.getElem?_append_left (by simpa using hj)]
    simp [hj, hx2]
  · exact (show Below w.heap.size w w.drew from ⟨rfl, rfl, rfl, Nat.le_refl _, fun _ _ => rfl⟩).alloc (Nat.le_refl _) _
  · rw [World.size_alloc]
    rfl
def oneG (l : List UInt8) : Bool := decide (l.length = 16) && decide ((-1 : Int) ∉ codesOf l) && decide (gcOf l = 8) && decide ((runAt l l.length).1 ≤ 2)
theorem oneG_is {l : List UInt8} : oneG l = true ↔ l.length = 16 ∧ (-1 : Int) ∉ codesOf l ∧ gcOf l = 8 ∧ (runAt l l.length).1 ≤ 2 := by
 unfold oneG
 simp only [Bool.and_eq_true, decide_eq_true_eq]
 exact ⟨fun ⟨⟨⟨a, b⟩, c⟩, d⟩ => ⟨a, b, c, d⟩, fun ⟨a, b, c, d⟩ => ⟨⟨⟨a, b⟩, c⟩, d⟩⟩
theorem pmust_yes (n : Int) (w : World) : Calls Tryd.prog 29 #[.bool true, .int .i64 n] w fun e w' => e = .returned (.tuple #[]) ∧ w = w' := by
 go_enter Tryd.func29, Tryd.ntmps29
 go_wp2
 go_end0
 exact ⟨rfl, rfl⟩
theorem pmust_no (n : Int) (w : World) : Calls Tryd.prog 29 #[.bool false, .int .i64 n] w fun e w' => e = .panicked (errno n) ∧ w = w' := by
 go_enter Tryd.func29, Tryd.ntmps29
 go_wp2
 exact ⟨rfl, rfl, rfl⟩
set_option maxRecDepth 100000 in
set_option maxHeartbeats 2000000 in
theorem One_any (l : List UInt8) (w : World) (hT : Tab w) : Calls Tryd.prog 21 #[sV l] w fun e w' => e = .returned (.bool (oneG l)) ∧ Below w.heap.size w w' := by
 obtain ⟨c, w1, hcv, hS, hB, -⟩ := to_bytes w l
 have hT1 := hT.below hB
 by_cases h16 : l.length = 16
 · have d1 : ((l.length : Int) == 16) = true := by rw [h16]; rfl
   have hV := Valid_any _ l (by omega) w1 hS hT1
   have hG := fun w2 (h : Below w1.heap.size w1 w2) => Gc_any _ l (by omega) _ w2 (hS.below h)
   have hR := fun w2 (h : Below w1.heap.size w1 w2) => Run_any _ l (by omega) _ w2 (hS.below h)
   have hgl := gcOf_le l
   by_cases hv : (-1 : Int) ∉ codesOf l
   · rw [decide_eq_true hv] at hV
     have hone : oneG l = (decide (gcOf l = 8) && decide ((runAt l l.length).1 ≤ 2)) := by unfold oneG; rw [decide_eq_true h16, decide_eq_true hv]; rfl
     rw [hone]
     generalize gcOf l = gc at *
     generalize (runAt l l.length).1 = ru at *
     have hw2 : IntKind.i64.wrap (2 * (gc : Int)) = 2 * (gc : Int) := IntWalk.i64_in _ (by omega)
     have hw3 : wrap64 (2 * (gc : Int)) = 2 * (gc : Int) := IntWalk.wrap64_in _ (by omega)
     by_cases hg : gc = 8
     · subst hg
       clear hone hv h16 hgl hw2 hw3
       go_enter Tryd.func21, Tryd.ntmps21
       go_wp2_with fail
       go_at_call 38
       refine hV.mono ?_
       rintro e w2 ⟨rfl, hB2⟩
       have hG2 := hG w2 hB2
       have hR2 := hR w2 hB2
       clear hV hG hR
       go_wp2_with fail
       go_at_call 39
       refine hG2.mono ?_
       rintro e w3 ⟨rfl, rfl⟩
       clear hG2
       go_wp2_with fail
       go_at_call 40
       refine hR2.mono ?_
       rintro e w3 ⟨rfl, rfl⟩
       clear hR2
       go_wp2_with fail
       go_ret
       exact ⟨by simp; omega, below_trans hB hB2⟩
     · have d2 : (2 * (gc : Int) == 16) = false := by rw [beq_eq_false_iff_ne]; omega
       rw [decide_eq_false hg]
       clear hone hv h16 hgl hg
       go_enter Tryd.func21, Tryd.ntmps21
       go_wp2_with fail
       go_at_call 38
       refine hV.mono ?_
       rintro e w2 ⟨rfl, hB2⟩
       have hG2 := hG w2 hB2
       clear hV hG hR
       go_wp2_with fail
       go_at_call 39
       refine hG2.mono ?_
       rintro e w3 ⟨rfl, rfl⟩
       clear hG2
       go_wp2_with fail
       go_ret
       exact ⟨rfl, below_trans hB hB2⟩
   · rw [decide_eq_false hv] at hV
     have hone : oneG l = false := by unfold oneG; rw [decide_eq_true h16, decide_eq_false hv]; rfl
     rw [hone]
     clear hone hv h16 hgl hG hR
     go_enter Tryd.func21, Tryd.ntmps21
     go_wp2_with fail
     go_at_call 38
     refine hV.mono ?_
     rintro e w2 ⟨rfl, hB2⟩
     clear hV
     go_wp2_with fail
     go_ret
     exact ⟨rfl, below_trans hB hB2⟩
 · have d1 : ((l.length : Int) == 16) = false := by rw [beq_eq_false_iff_ne]; omega
   have hone : oneG l = false := by unfold oneG; rw [decide_eq_false h16]; rfl
   rw [hone]
   clear hone h16
   go_enter Tryd.func21, Tryd.ntmps21
   go_wp2_with fail
   go_ret
   exact ⟨rfl, hB⟩
def dC (a b : List UInt8) : Nat := dist (cut a) (cut b)
set_option maxRecDepth 100000 in
set_option maxHeartbeats 1000000 in
theorem pdistance_any (a b : List UInt8) (w : World) : Calls Tryd.prog 37 #[sV a, sV b] w fun e w' => e = .returned (.int .i64 (dC a b : Nat)) ∧ Below w.heap.size w w' := by
 obtain ⟨c, w1, hcv, hS, hB, -⟩ := to_bytes w a
 obtain ⟨c2, w2, hcv2, hS2, hB2, -⟩ := to_bytes w1 b
 have hD := Distance_any _ _ a b w2 (hS.next hB2) hS2
 clear hS hS2
 go_enter Tryd.func37, Tryd.ntmps37
 go_wp2_with fail
 go_at_call 57
 refine hD.mono ?_
 rintro e w3 ⟨rfl, hB3⟩
 clear hD
 go_wp2_with fail
 go_ret
 exact ⟨rfl, below_trans (below_trans hB hB2) hB3⟩
end Go.Proofs.YtcngnjkpnmpcpaaDoor
namespace Go.Proofs.YtcngnjkpnmpcpaaDoor
open Go.RowKit Go.Shelf
attribute [local go_sem] Oper.semAt_some run_store_func
set_option maxRecDepth 100000 in
set_option maxHeartbeats 2000000 in
theorem catch_idle (p : Addr) (w : World) :
    CallsD Tryd.prog 49 #[.pointer (some p)] .returning w fun e u' w' => e = .returned (.tuple #[]) ∧ u' = .returning ∧ w' = w := by
  refine callsD_of_wpS Tryd.func49 rfl fun c₀ cs hu => ?_
  apply wpS_seq
  apply wpS_region
  simp [wpOpsS, go_sem, recoverD, hu, Tryd.ntmps49, Exit.thenS]
  refine wpS_of_wp ?_
  go_wp2
  cases c₀
  simp_all [bodyPostS, results, Tryd.results49]
set_option maxRecDepth 100000 in
set_option maxHeartbeats 2000000 in
theorem catch_take (b : Nat) (n : Int) (v0 : Value) (w : World) (hc : w.cell? ⟨b, 0, none⟩ = some v0) (hf : w.frozen? ⟨b, 0, none⟩ = false) :
    CallsD Tryd.prog 49 #[.pointer (some ⟨b, 0, none⟩)] (.panicking (errno n)) w fun e u' w' => e = .returned (.tuple #[]) ∧ u' = .panicking [{ v := .iface 26 (.int .i64 n), recovered := true }] ∧ w' = w.setCell ⟨b, 0, none⟩ (.int .i64 n) := by
  have hta : ∀ w, (Instr.typeAssert (.iface 26 (.int .i64 n)) 20 26 true).run Tryd.prog w = .ok (.tuple #[.int .i64 n, .bool true]) w := fun _ => by kernel_rfl
  refine callsD_of_wpS Tryd.func49 rfl fun c₀ cs hu => ?_
  apply wpS_seq
  apply wpS_region
  simp [wpOpsS, go_sem, recoverD, hu, Tryd.ntmps49, Exit.thenS]
  refine wpS_of_wp ?_
  go_wp2
  cases c₀
  simp_all [bodyPostS, results, Tryd.results49]
def WorkIs (f : Nat) (lb : Array Value) (g : Nat) (W0 : World) (R0 : World → Prop) (Rn : Int → World → Prop) : Prop :=
 Calls Tryd.prog f lb W0 fun e w' => Keep W0.heap.size g W0 w' ∧ (((∃ v, e = .returned v) ∧ R0 w') ∨ ∃ n, e = .panicked (errno n) ∧ Rn n w')
set_option maxRecDepth 100000 in
set_option maxHeartbeats 2000000 in
theorem caught_any (f : Nat) (lb : Array Value) (g : Nat) (w : World) (hg : g < w.heap.size) (hen : ∀ args w, (callFunc f args).run Tryd.prog w = .ok (.enter f args) w) (R0 : World → Prop) (Rn : Int → World → Prop)
    (hwork : WorkIs f lb g (w.alloc (.cells #[.int .i64 0] 26)) R0 Rn) :
    Calls Tryd.prog 27 #[.func (.func f) #[] lb] w fun e w' => ∃ w1 n, Keep w.heap.size g w w1 ∧ e = .returned (.int .i64 n) ∧ w' = w1.setCell ⟨w.heap.size, 0, none⟩ (.int .i64 n) ∧ w.heap.size < w1.heap.size ∧ ((n = 0 ∧ R0 w1) ∨ Rn n w1) := by
 have hmf : ∀ (fn : Fn) (first cap : Array Value) (w : World), (Instr.makeFunc fn first cap).run Tryd.prog w = .ok (.func fn first cap) w := fun _ _ _ _ => rfl
 have hA := below_alloc w (.cells #[.int .i64 0] 26)
 have hb0 := Boxed.new w 26 (.int .i64 0)
 have hs0 : (w.alloc (.cells #[.int .i64 0] 26)).heap.size = w.heap.size + 1 := by simp
 unfold WorkIs at hwork
 go_enter_defers Tryd.func27, Tryd.ntmps27
 go_wp2_with fail
 generalize w.alloc (.cells #[.int .i64 0] 26) = w0 at *
 refine hwork.mono ?_
 clear hwork
 rintro e w1 ⟨hK, ⟨⟨v, rfl⟩, hR⟩ | ⟨n, rfl, hR⟩⟩
 · have hb1 := hK.boxed hb0 (by omega) (by omega)
   have hc := hb1.cell
   have hf := hb1.frozen
   have hsz := keep_size hK
   go_wp2
   refine leaves_cons (f := 49) (args := #[.pointer (some ⟨w.heap.size, 0, none⟩)]) (by simp) (by simp [go_sem]) ?_
   refine (catch_idle ⟨w.heap.size, 0, none⟩ _).mono ?_
   rintro e u' w'' ⟨rfl, rfl, rfl⟩
   have hc5 := (hb1.set (.int .i64 0)).cell
   refine ⟨.int .i64 0, ?_, w1, 0, ⟨⟨hK.1.1.trans hA.os, hK.1.2.1.trans hA.tape, hK.1.2.2.1.trans hA.output, by omega⟩, fun k hk hkg => (hK.2 k (by omega) hkg).trans (hA.block k hk)⟩, rfl, rfl, by omega, .inl ⟨rfl, hR⟩⟩
   simp [results, Tryd.f27, go_sem, hc5]
 · have hb1 := hK.boxed hb0 (by omega) (by omega)
   have hc := hb1.cell
   have hf := hb1.frozen
   have hsz := keep_size hK
   go_wp2
   refine leaves_cons (f := 49) (args := #[.pointer (some ⟨w.heap.size, 0, none⟩)]) (by simp) (by simp [go_sem]) ?_
   refine (catch_take w.heap.size n _ w1 hc hf).mono ?_
   rintro e u' w'' ⟨rfl, rfl, rfl⟩
   have hc5 := (hb1.set (.int .i64 n)).cell
   refine ⟨.int .i64 n, ?_, w1, n, ⟨⟨hK.1.1.trans hA.os, hK.1.2.1.trans hA.tape, hK.1.2.2.1.trans hA.output, by omega⟩, fun k hk hkg => (hK.2 k (by omega) hkg).trans (hA.block k hk)⟩, rfl, rfl, by omega, .inr hR⟩
   simp [results, Tryd.f27, go_sem, hc5]
end Go.Proofs.YtcngnjkpnmpcpaaDoor
namespace Go.Proofs.YtcngnjkpnmpcpaaDoor
open Go.RowKit Go.Shelf
attribute [local go_sem] Oper.semAt_some
theorem code_four {c : UInt8} (h : codeOf c.toNat ≠ -1) : c = 65 ∨ c = 67 ∨ c = 71 ∨ c = 84 := by
 have e : ∀ k : UInt8, c.toNat = k.toNat → c = k := fun k h => UInt8.toNat_inj.1 h
 unfold codeOf at h
 by_cases h1 : c.toNat = 65
 · exact .inl (e 65 h1)
 · by_cases h2 : c.toNat = 67
   · exact .inr (.inl (e 67 h2))
   · by_cases h3 : c.toNat = 71
     · exact .inr (.inr (.inl (e 71 h3)))
     · by_cases h4 : c.toNat = 84
       · exact .inr (.inr (.inr (e 84 h4)))
       · rw [if_neg h1, if_neg h2, if_neg h3, if_neg h4] at h
         exact absurd rfl h
theorem code_none {c : UInt8} (h : codeOf c.toNat = -1) : c ≠ 65 ∧ c ≠ 67 ∧ c ≠ 71 ∧ c ≠ 84 := by
 refine ⟨?_, ?_, ?_, ?_⟩ <;> (rintro rfl; revert h; decide)
theorem byte_ne {a k : UInt8} (h : a ≠ k) : ((k.toNat : Int) == (a.toNat : Int)) = false := by
 rw [beq_eq_false_iff_ne]
 intro e
 exact h (UInt8.toNat_inj.1 (by omega))
set_option maxRecDepth 100000 in
set_option maxHeartbeats 2000000 in
theorem refCode_any (c : UInt8) (w : World) :
    Calls Tryd.prog 59 #[eB c] w fun e w' => e = .returned (.tuple #[.int .i64 (if codeOf c.toNat = -1 then 0 else codeOf c.toNat), .int .i64 (if codeOf c.toNat = -1 then 10 else 0)]) ∧ w = w' := by
  have i0 : ∀ w, (Instr.index 9 (.string ⟨#[65, 67, 71, 84]⟩) (.int .i64 0)).run Tryd.prog w = .ok (.int .u8 65) w := fun _ => by kernel_rfl
  have i1 : ∀ w, (Instr.index 9 (.string ⟨#[65, 67, 71, 84]⟩) (.int .i64 1)).run Tryd.prog w = .ok (.int .u8 67) w := fun _ => by kernel_rfl
  have i2 : ∀ w, (Instr.index 9 (.string ⟨#[65, 67, 71, 84]⟩) (.int .i64 2)).run Tryd.prog w = .ok (.int .u8 71) w := fun _ => by kernel_rfl
  have i3 : ∀ w, (Instr.index 9 (.string ⟨#[65, 67, 71, 84]⟩) (.int .i64 3)).run Tryd.prog w = .ok (.int .u8 84) w := fun _ => by kernel_rfl
  by_cases h : codeOf c.toNat = -1
  · rw [if_pos h, if_pos h]
    obtain ⟨h0, h1, h2, h3⟩ := code_none h
    have g0 : ((65 : Int) == (c.toNat : Int)) = false := byte_ne h0
    have g1 : ((67 : Int) == (c.toNat : Int)) = false := byte_ne h1
    have g2 : ((71 : Int) == (c.toNat : Int)) = false := byte_ne h2
    have g3 : ((84 : Int) == (c.toNat : Int)) = false := byte_ne h3
    clear h h0 h1 h2 h3
    go_enter Tryd.func59, Tryd.ntmps59
    go_wp2
    refine wp_loop_rounds 5 ?_
    rw [rounds_succ]
    go_wp2
    rw [rounds_succ]
    go_wp2
    rw [rounds_succ]
    go_wp2
    rw [rounds_succ]
    go_wp2
    rw [rounds_succ]
    go_wp2
    go_ret2
    exact ⟨rfl, rfl⟩
  · rcases code_four h with rfl | rfl | rfl | rfl
    all_goals
     clear h
     go_enter Tryd.func59, Tryd.ntmps59
     go_wp2
     refine wp_loop_rounds 5 ?_
     rw [rounds_succ]
     go_wp2
    · go_ret2
      exact ⟨rfl, rfl⟩
    · rw [rounds_succ]
      go_wp2
      go_ret2
      exact ⟨rfl, rfl⟩
    · rw [rounds_succ]
      go_wp2
      rw [rounds_succ]
      go_wp2
      go_ret2
      exact ⟨rfl, rfl⟩
    · rw [rounds_succ]
      go_wp2
      rw [rounds_succ]
      go_wp2
      rw [rounds_succ]
      go_wp2
      go_ret2
      exact ⟨rfl, rfl⟩
theorem letter_mod (x : Int) : (wrap64 (x.tmod 4 + 4)).tmod 4 = x % 4 := by
 have e : x.tmod 4 = x % 4 ∨ x.tmod 4 = x % 4 - 4 := by
  rw [Int.tmod_eq_emod]
  split <;> simp
 have hw : wrap64 (x.tmod 4 + 4) = x.tmod 4 + 4 := by
  unfold wrap64
  omega
 rw [hw, Int.tmod_eq_emod_of_nonneg (by omega)]
 omega
theorem run_acgt0 (n : Int) (w : World) : (Instr.index 9 (.string ⟨#[65, 67, 71, 84]⟩) (.int .i64 (n % 4))).run Tryd.prog w = .ok (eB (letterOf n)) w := by
 have hn : n % 4 = 0 ∨ n % 4 = 1 ∨ n % 4 = 2 ∨ n % 4 = 3 := by omega
 rcases hn with e | e | e | e
 · have k : (Instr.index 9 (.string ⟨#[65, 67, 71, 84]⟩) (.int .i64 0)).run Tryd.prog w = .ok (.int .u8 65) w := by kernel_rfl
   rw [e, show letterOf n = 65 by simp [letterOf, e]]
   exact k
 · have k : (Instr.index 9 (.string ⟨#[65, 67, 71, 84]⟩) (.int .i64 1)).run Tryd.prog w = .ok (.int .u8 67) w := by kernel_rfl
   rw [e, show letterOf n = 67 by simp [letterOf, e]]
   exact k
 · have k : (Instr.index 9 (.string ⟨#[65, 67, 71, 84]⟩) (.int .i64 2)).run Tryd.prog w = .ok (.int .u8 71) w := by kernel_rfl
   rw [e, show letterOf n = 71 by simp [letterOf, e]]
   exact k
 · have k : (Instr.index 9 (.string ⟨#[65, 67, 71, 84]⟩) (.int .i64 3)).run Tryd.prog w = .ok (.int .u8 84) w := by kernel_rfl
   rw [e, show letterOf n = 84 by simp [letterOf, e]]
   exact k
set_option maxRecDepth 100000 in
set_option maxHeartbeats 2000000 in
theorem rLetter_any (k : Int) (w : World) :
    Calls Tryd.prog 52 #[.int .i64 k] w fun e w' => e = .returned (eB (letterOf k)) ∧ w = w' := by
  have hm := letter_mod k
  have hidx := run_acgt0 k
  have h0 : 0 ≤ k % 4 := by omega
  have h4 : k % 4 < 4 := by omega
  go_enter Tryd.func52, Tryd.ntmps52
  go_wp2
  go_ret
  exact ⟨rfl, rfl⟩
theorem codesOf_snoc (bs : List UInt8) (k : Nat) (h : k < bs.length) : codesOf (bs.take (k + 1)) = codesOf (bs.take k) ++ [codeOf bs[k].toNat] := by
 unfold codesOf
 rw [List.take_succ_eq_append_getElem h, List.map_append]
 rfl
end Go.Proofs.YtcngnjkpnmpcpaaDoor
