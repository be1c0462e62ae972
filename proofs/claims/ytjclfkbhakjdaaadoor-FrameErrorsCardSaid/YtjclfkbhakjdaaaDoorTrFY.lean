import Derived.Test.YtjclfkbhakjdaaaDoorRQY
import Derived.Test.YtjclfkbhakjdaaaDoorTrCY
namespace Go.Proofs.YtjclfkbhakjdaaaDoor.Tr
open Go.RowKit Go.Shelf
attribute [local go_sem] Oper.semAt_some inProg_round inProg_depth
theorem Chunk_in (A : Option Addr) (l c m : Nat) (hm : 1 ≤ m) (n : Nat) (w : World) :
    CallsIn (Fence.inProg Tryd.prog) n Tryd.prog 70 #[.slice A l c, .int .i64 m] w fun e w' =>
     e = .returned (.func (.func 91) #[] #[.pointer (some ⟨w.heap.size, 0, none⟩), .pointer (some ⟨w.heap.size + 1, 0, none⟩)]) ∧
     Below w.heap.size w w' ∧ w'.heap.size = w.heap.size + 2 ∧ Boxed w' w.heap.size 24 (.slice A l c) ∧ Boxed w' (w.heap.size + 1) 3 (.int .i64 m) := by
  have d1 : decide ((m : Int) < 1) = false := decide_eq_false (by omega)
  have hmf : ∀ (fn : Fn) (first cap : Array Value) (w : World), (Instr.makeFunc fn first cap).run Tryd.prog w = .ok (.func fn first cap) w := fun _ _ _ _ => rfl
  refine callsIn_of_wp Tryd.func70 rfl ⟨_, Tryd.func70⟩ ?_ rfl
  simp only [Tryd.ntmps70, List.size_toArray, List.length_cons, List.length_nil, Nat.reduceAdd, Nat.reduceSub, Array.replicate_succ, Array.replicate_zero, List.push_toArray, List.append_toArray, List.nil_append, List.cons_append]
  have hb1 := (Boxed.new w 24 (.slice A l c)).alloc (.cells #[.int .i64 m] 3)
  have hb2 := Boxed.new (w.alloc (.cells #[.slice A l c] 24)) 3 (.int .i64 m)
  rw [World.size_alloc] at hb2
  have hB : Below w.heap.size w ((w.alloc (.cells #[.slice A l c] 24)).alloc (.cells #[.int .i64 m] 3)) := ((Below.refl _ w).alloc (Nat.le_refl _) _).alloc (by simp) _
  have hsz : ((w.alloc (.cells #[.slice A l c] 24)).alloc (.cells #[.int .i64 m] 3)).heap.size = w.heap.size + 2 := by simp
  gi_wp2_with fail
  refine bodyPost_ret (results_tmp rfl _ _ _) rfl ⟨rfl, hB, hsz, hb1, hb2⟩
set_option maxRecDepth 1000000 in
set_option maxHeartbeats 4000000 in
theorem Chunk_seq (b1 b2 B g b off c k m : Nat) (hm : 1 ≤ m) (hreach : k * m ≤ 1000000) (hc : k * m ≤ c) (A : Option Addr) (hA : 0 < k → A = some ⟨b, off, none⟩) (w0 : World) (hB : B ≤ w0.heap.size) (h1 : b1 < B) (h2 : b2 < B) (g1 : b1 ≠ g) (g2 : b2 ≠ g)
    (hc1 : w0.cell? ⟨b1, 0, none⟩ = some (.slice A (k * m : Nat) c)) (hc2 : w0.cell? ⟨b2, 0, none⟩ = some (.int .i64 m)) :
    SeqP (Fence.inProg Tryd.prog) Tryd.prog 91 #[.pointer (some ⟨b1, 0, none⟩), .pointer (some ⟨b2, 0, none⟩)] (fun j : Nat => #[.slice (some ⟨b, off + j * m, none⟩) m m]) (Keep B g) (List.range k) w0 := by
 intro l J JS JP W hW hJo hY h0
 have hc1' := (hW.cell (p := ⟨b1, 0, none⟩) (show b1 < _ by omega)).trans hc1
 have hc2' := (hW.cell (p := ⟨b2, 0, none⟩) (show b2 < _ by omega)).trans hc2
 refine callsIn_of_wp Tryd.func91 rfl ⟨_, Tryd.func91⟩ ?_ rfl
 simp only [Tryd.ntmps91, List.size_toArray, List.length_cons, List.length_nil, Nat.reduceAdd, Nat.reduceSub, Array.replicate_succ, Array.replicate_zero, List.push_toArray, List.append_toArray, List.nil_append, List.cons_append]
 gi_wp2_with fail
 gi_loopw [4] (fun i wr => ∃ j : Nat, j ≤ k ∧ i = .int .i64 (j * m : Nat) ∧ J (List.range j) wr ∧ Keep B g W wr) (fun i _ => k * m - (intOf i).toNat)
 case atStart => exact ⟨0, Nat.zero_le _, by simp, h0, keep_r _ _ _⟩
 case round =>
  obtain ⟨j, hj, rfl, hJ, hK⟩ := hrel
  have k1 := (hK.cell (p := ⟨b1, 0, none⟩) h1 g1).trans hc1'
  have k2 := (hK.cell (p := ⟨b2, 0, none⟩) h2 g2).trans hc2'
  by_cases hlt : j < k
  · have hjm : (j + 1) * m ≤ k * m := Nat.mul_le_mul_right m (by omega)
    rw [Nat.succ_mul] at hjm
    obtain rfl := hA (by omega)
    have Hjm := Lib.hid (show (j + 1) * m = j * m + m from Nat.succ_mul j m)
    clear hA h0 hc1 hc2 hc1' hc2' hW
    generalize k * m = L at *
    generalize hv : j * m = v at *
    have Hv := Lib.hid hv
    clear hv
    have e0 : decide ((v : Int) < (L : Int)) = true := decide_eq_true (by omega)
    have e1 : IntKind.i64.wrap ((v : Int) + (m : Int)) = ((v + m : Nat) : Int) := by rw [IntWalk.i64_in _ (by omega)]; omega
    have m1 : (v : Int) ≤ (L : Int) := by omega
    have m2 : (v : Int) ≤ (c : Int) := by omega
    have m3 : ((v + m : Nat) : Int) ≤ (c : Int) := by omega
    have m5 : ¬ c = v := by omega
    have mn : ¬ ((L - v : Nat) : Int) < (m : Int) := by omega
    have mn2 : ¬ (L : Int) - (v : Int) < (m : Int) := by omega
    gi_wp2_with fail
    gi_quiet_th (fail)
    have hJd : J (List.range j) (wr.drewN nq) := hJo _ _ _ none hJ ⟨rfl, rfl, rfl, Nat.le_refl _, fun _ _ _ => rfl⟩ (fun r e => by cases e)
    rw [if_neg (show ¬ L - v < m by omega)]
    obtain ⟨fn, tmps, assign, body, hy, hR⟩ := hY _ j (wr.drewN nq) hJd (range_pre j k hlt)
    rw [Hv.out] at hy
    rw [← List.range_succ] at hR
    have k1' : (wr.drewN nq).cell? ⟨b1, 0, none⟩ = some (.slice (some ⟨b, off, none⟩) L c) := k1
    have hKd : Keep B g W (wr.drewN nq) := keep_t hK ⟨⟨rfl, rfl, rfl, Nat.le_refl _⟩, fun _ _ _ => rfl⟩
    have k2' : (wr.drewN nq).cell? ⟨b2, 0, none⟩ = some (.int .i64 m) := k2
    clear hJo hY hJ hJd hK k1 k2
    generalize wr.drewN nq = wd at *
    have m6 : ¬ ((v + m : Nat) : Int) < (v : Int) := by omega
    gi_wp2_with fail
    refine (roundIn_room rfl hR).mono ?_
    clear hy hR
    rintro e W3 (⟨rfl, hJ3, hK3, hF3⟩ | ⟨rfl, hS3⟩ | ⟨ch, rfl, hP3⟩)
    · have k13 := (hK3.cell (p := ⟨b1, 0, none⟩) h1 g1).trans k1'
      have k23 := (hK3.cell (p := ⟨b2, 0, none⟩) h2 g2).trans k2'
      gi_wp2_with fail
      refine ⟨⟨j + 1, by omega, by rw [Hjm.out]; go_num, hJ3, keep_t hKd hK3⟩, ?_⟩
      simp [intOf]
      omega
    · gi_wp2_with fail
      refine bodyPost_ret (results_none rfl _ _ _) rfl ?_
      exact .inl ⟨⟨_, rfl⟩, .inr hS3⟩
    · gi_wp2_with fail
      exact ⟨rfl, .inr ⟨ch, rfl, hP3⟩⟩
  · obtain rfl : j = k := by omega
    generalize j * m = L at *
    have d0 : decide ((L : Int) < (L : Int)) = false := decide_eq_false (by omega)
    gi_wp2_with fail
    go_end0
    exact .inl ⟨⟨_, rfl⟩, .inl hJ⟩
end Go.Proofs.YtjclfkbhakjdaaaDoor.Tr
namespace Go.Proofs.YtjclfkbhakjdaaaDoor.Tr
open Go.RowKit Go.Shelf
attribute [local go_sem] Oper.semAt_some run_store_func inProg_round inProg_depth
def partL (bs : List UInt8) (many j : Nat) : List UInt8 := (bs.drop (j * many)).take many
def eachG (g : List UInt8 → Except Int (List UInt8)) (bs : List UInt8) (many : Nat) : Nat → Except Int (List UInt8)
 | 0 => .ok []
 | j + 1 => match eachG g bs many j with
   | .error e => .error e
   | .ok r => match g (partL bs many j) with
     | .error e => .error e
     | .ok x => .ok (r ++ x)
theorem eachG_err {g : List UInt8 → Except Int (List UInt8)} {bs : List UInt8} {many j k : Nat} {e : Int} (h : eachG g bs many j = .error e) (hk : j ≤ k) : eachG g bs many k = .error e := by
 induction k with
 | zero => obtain rfl : j = 0 := by omega
           exact h
 | succ k ih =>
   by_cases hj : j = k + 1
   · subst hj; exact h
   · simp only [eachG, ih (by omega)]
theorem eachG_long {g : List UInt8 → Except Int (List UInt8)} {bs : List UInt8} {many j : Nat} {r : List UInt8} (hg : ∀ L x, g L = .ok x → x.length ≤ 26) (h : eachG g bs many j = .ok r) : r.length ≤ j * 26 := by
 induction j generalizing r with
 | zero => simp only [eachG] at h; cases h; simp
 | succ j ih =>
   simp only [eachG] at h
   cases hj : eachG g bs many j with
   | error e => rw [hj] at h; cases h
   | ok r1 =>
     rw [hj] at h
     simp only at h
     cases hx : g (partL bs many j) with
     | error e => rw [hx] at h; cases h
     | ok x =>
       rw [hx] at h
       cases h
       have h1 := ih hj
       have h2 := hg _ _ hx
       rw [List.length_append]
       omega
set_option maxRecDepth 100000 in
set_option maxHeartbeats 2000000 in
theorem left_idle (n : Nat) (a b : Addr) (w : World) :
    CallsDIn (Fence.inProg Tryd.prog) n Tryd.prog 69 #[.pointer (some a), .pointer (some b)] .returning w fun e u' w' => e = .returned (.tuple #[]) ∧ u' = .returning ∧ w' = w := by
  refine callsDIn_of_wpSIn Tryd.func69 rfl ⟨_, Tryd.func69⟩ fun c₀ cs hu => ?_
  apply wpSIn_seq
  apply wpSIn_region
  simp [wpOpsSIn, go_sem, recoverD, hu, Tryd.ntmps69, Exit.thenS]
  refine wpSIn_of_wpIn rfl ?_
  gi_wp2
  cases c₀
  simp_all [bodyPostS, results, Tryd.results69]
set_option maxRecDepth 100000 in
set_option maxHeartbeats 2000000 in
theorem left_take (n : Nat) (a b : Nat) (m : Int) (v0 v1 : Value) (w : World) (hca : w.cell? ⟨a, 0, none⟩ = some v0) (hfa : w.frozen? ⟨a, 0, none⟩ = false)
    (hcb : (w.setCell ⟨a, 0, none⟩ (.slice none 0 0)).cell? ⟨b, 0, none⟩ = some v1) (hfb : (w.setCell ⟨a, 0, none⟩ (.slice none 0 0)).frozen? ⟨b, 0, none⟩ = false) :
    CallsDIn (Fence.inProg Tryd.prog) n Tryd.prog 69 #[.pointer (some ⟨a, 0, none⟩), .pointer (some ⟨b, 0, none⟩)] (.panicking (errno m)) w fun e u' w' => e = .returned (.tuple #[]) ∧ u' = .panicking [{ v := .iface 28 (.int .i64 m), recovered := true }] ∧
      w' = (w.setCell ⟨a, 0, none⟩ (.slice none 0 0)).setCell ⟨b, 0, none⟩ (.int .i64 m) := by
 have hta : ∀ w, (Instr.typeAssert (.iface 28 (.int .i64 m)) 20 28 true).run Tryd.prog w = .ok (.tuple #[.int .i64 m, .bool true]) w := fun _ => by kernel_rfl
 refine callsDIn_of_wpSIn Tryd.func69 rfl ⟨_, Tryd.func69⟩ fun c₀ cs hu => ?_
 apply wpSIn_seq
 apply wpSIn_region
 simp [wpOpsSIn, go_sem, recoverD, hu, Tryd.ntmps69, Exit.thenS]
 refine wpSIn_of_wpIn rfl ?_
 gi_wp2
 cases c₀
 simp_all [bodyPostS, results, Tryd.results69]
end Go.Proofs.YtjclfkbhakjdaaaDoor.Tr
namespace Go.Proofs.YtjclfkbhakjdaaaDoor.Tr
open Go.RowKit Go.Shelf
attribute [local go_sem] Oper.semAt_some run_store_func inProg_round inProg_depth
def BoxE (b : Nat) (x y z : Value) (W : World) : Prop := Boxed W b 51 x ∧ Boxed W (b + 1) 24 y ∧ Boxed W (b + 1 + 1) 28 z
theorem boxE_new (w : World) (x y z : Value) : BoxE w.heap.size x y z (((w.alloc (.cells #[x] 51)).alloc (.cells #[y] 24)).alloc (.cells #[z] 28)) := by
 refine ⟨((Boxed.new w _ _).alloc _).alloc _, ?_, ?_⟩
 · have h := (Boxed.new (w.alloc (.cells #[x] 51)) 24 y).alloc (.cells #[z] 28)
   rwa [World.size_alloc] at h
 · have h := Boxed.new ((w.alloc (.cells #[x] 51)).alloc (.cells #[y] 24)) 28 z
   rwa [World.size_alloc, World.size_alloc] at h
end Go.Proofs.YtjclfkbhakjdaaaDoor.Tr
namespace Go.Proofs.YtjclfkbhakjdaaaDoor
open Go.Proofs.YtjclfkbhakjdaaaDoor.Tr
open Go.RowKit Go.Shelf
attribute [local go_sem] Oper.semAt_some run_store_func inProg_round inProg_depth
theorem Boxed.set_other {W : World} {b b' : Nat} {t : TypeId} {x y : Value} (h : Boxed W b t x) (hne : b ≠ b') : Boxed (W.setCell ⟨b', 0, none⟩ y) b t x :=
 (Below.heap_setCell _ _ _ _ hne).trans h
end Go.Proofs.YtjclfkbhakjdaaaDoor
namespace Go.Proofs.YtjclfkbhakjdaaaDoor.Tr
open Go.RowKit Go.Shelf
attribute [local go_sem] Oper.semAt_some run_store_func inProg_round inProg_depth
end Go.Proofs.YtjclfkbhakjdaaaDoor.Tr
namespace Go.Proofs.YtjclfkbhakjdaaaDoor
open Go.Proofs.YtjclfkbhakjdaaaDoor.Tr
open Go.RowKit Go.Shelf
attribute [local go_sem] Oper.semAt_some run_store_func inProg_round inProg_depth
theorem Boxed.put_other {W : World} {b b' : Nat} {t : TypeId} {x : Value} {o : Obj} (h : Boxed W b t x) (hne : b ≠ b') : Boxed (W.putObj b' o) b t x := (World.putObj_heap_other hne).trans h
end Go.Proofs.YtjclfkbhakjdaaaDoor
namespace Go.Proofs.YtjclfkbhakjdaaaDoor.Tr
open Go.RowKit Go.Shelf
attribute [local go_sem] Oper.semAt_some run_store_func inProg_round inProg_depth
end Go.Proofs.YtjclfkbhakjdaaaDoor.Tr
