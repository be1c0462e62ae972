import Derived.Test.YtjclfkbhakjdaaaDoorRIY
import Derived.Test.YtjclfkbhakjdaaaDoorRQY
import Derived.Test.YtjclfkbhakjdaaaDoorTuCY
namespace Go.Proofs.YtjclfkbhakjdaaaDoor.Tu
open Go.RowKit Go.Shelf
attribute [local go_sem] Oper.semAt_some run_store_func
def walkG (f : UInt8 → UInt8 → Except Int UInt8) (nx : UInt8 → UInt8 → UInt8) : UInt8 → List UInt8 → List UInt8 × Option Int
  | _, [] => ([], none)
  | a, t :: ts => match f a t with
    | .error n => ([], some n)
    | .ok c => (c :: (walkG f nx (nx t c) ts).1, (walkG f nx (nx t c) ts).2)
end Go.Proofs.YtjclfkbhakjdaaaDoor.Tu
namespace Go.Proofs.YtjclfkbhakjdaaaDoor
open Go.Proofs.YtjclfkbhakjdaaaDoor.Tu
open Go.RowKit Go.Shelf
attribute [local go_sem] Oper.semAt_some run_store_func
theorem Sl.keep {α : Type} {enc : α → Value} {B n g : Nat} {W W' : World} {A : Option Addr} {l c : Nat} {q : List α} (h : Sl enc B W (.slice A l c) q) (hk : Keep n g W W') (hB : B ≤ n) (hne : 0 < q.length → ∀ a, A = some a → a.block ≠ g) : Sl enc B W' (.slice A l c) q := by
 obtain ⟨A', c', e, hc, hcs⟩ := h
 injection e with e1 e2 e3
 subst e1 e3
 refine ⟨A, c, by rw [e2], hc, fun h0 => ?_⟩
 obtain ⟨b, off, ea, hb, hcell⟩ := hcs h0
 refine ⟨b, off, ea, hb, fun j x hx => ?_⟩
 exact (hk.cell (p := ⟨b, off + j, none⟩) (by show b < n; omega) (show b ≠ g from hne h0 ⟨b, off, none⟩ ea)).trans (hcell j x hx)
end Go.Proofs.YtjclfkbhakjdaaaDoor
namespace Go.Proofs.YtjclfkbhakjdaaaDoor.Tu
open Go.RowKit Go.Shelf
attribute [local go_sem] Oper.semAt_some run_store_func
theorem Tab.keep {B g : Nat} {W W' : World} (h : Tab W) (hk : Keep B g W W') (hB : 3 < B) (hg : 3 ≠ g) : Tab W' := by
 have hc : ∀ n, W'.cell? ⟨3, n, none⟩ = W.cell? ⟨3, n, none⟩ := fun n => hk.cell (p := ⟨3, n, none⟩) hB hg
 exact ⟨(hc 0).trans h.1, (hc 1).trans h.2.1, (hc 2).trans h.2.2.1, (hc 3).trans h.2.2.2⟩
theorem own_below {β : Type} {B : Nat} {I : β → World → Prop} (h : OwnFrom B I) {s : β} {W W' : World} (hs : I s W) (hB : Below W.heap.size W W') : I s W' :=
 h _ _ _ none hs ⟨hB.os, hB.tape, hB.output, hB.size, fun k hk _ => hB.block k hk⟩ (fun r e => by cases e)
set_option maxRecDepth 100000 in
set_option maxHeartbeats 4000000 in
theorem letters_seq (b1 b2 B g : Nat) (a : UInt8) (tv : Value) (ts : List UInt8) (hreach : ts.length ≤ 1000000) (w0 : World) (hB : B ≤ w0.heap.size) (h1 : b1 < B) (h2 : b2 < B) (g1 : b1 ≠ g) (g2 : b2 ≠ g) (hlB : 3 < B) (hlg : 3 ≠ g)
    (hc1 : w0.cell? ⟨b1, 0, none⟩ = some (eB a)) (hc2 : w0.cell? ⟨b2, 0, none⟩ = some tv) (hS : Sl eB B w0 tv ts) (hne : 0 < ts.length → ∀ A l c, tv = .slice A l c → ∀ x, A = some x → x.block ≠ g) (hT : Tab w0) :
    SeqI Fence.wide Tryd.prog 74 #[.pointer (some ⟨b1, 0, none⟩), .pointer (some ⟨b2, 0, none⟩)] (fun x : UInt8 => #[eB x]) (Keep B g) (walkG behG (fun _ c => c) a ts).1 ((walkG behG (fun _ c => c) a ts).2.map errno) w0 := by
 intro l J JS W hW hJo hY h0
 have hKW : Keep B g w0 W := keep_of (hW.mono hB)
 have hc1' := (hKW.cell (p := ⟨b1, 0, none⟩) h1 g1).trans hc1
 have hc2' := (hKW.cell (p := ⟨b2, 0, none⟩) h2 g2).trans hc2
 obtain ⟨A, c, htv⟩ := hS.len
 subst htv
 have hneA := fun h => hne h A ts.length c rfl
 have hSW := hS.keep hKW (Nat.le_refl _) hneA
 have hTW := hT.keep hKW hlB hlg
 have hBW : B ≤ W.heap.size := Nat.le_trans hB hW.size
 clear hS hT hc1 hc2 hne hKW
 refine callsIn_of_wp Tryd.func74 rfl trivial ?_ rfl
 simp only [Tryd.ntmps74, List.size_toArray, List.length_cons, List.length_nil, Nat.reduceAdd, Nat.reduceSub, Array.replicate_succ, Array.replicate_zero, List.push_toArray, List.append_toArray, List.nil_append, List.cons_append]
 gi_wp2_with fail
 gi_loopw [4, 10] (fun z i wr => ∃ (j : Nat) (last : UInt8) (pre : List UInt8), j ≤ ts.length ∧ i = .int .i64 j ∧ z = eB last ∧
   walkG behG (fun _ c => c) a ts = (pre ++ (walkG behG (fun _ c => c) last (ts.drop j)).1, (walkG behG (fun _ c => c) last (ts.drop j)).2) ∧ J pre wr ∧ Keep B g W wr) (fun _ i _ => ts.length - (intOf i).toNat)
 case atStart => exact ⟨0, a, [], Nat.zero_le _, rfl, rfl, by simp, h0, keep_r _ _ _⟩
 case round =>
  obtain ⟨j, last, pre, hj, rfl, rfl, hwk, hJ, hK⟩ := hrel
  have hsz := keep_size hK
  by_cases hlt : j < ts.length
  · have hSr := hSW.keep hK (Nat.le_refl _) hneA
    have hTr := hTW.keep hK hlB hlg
    obtain ⟨A', c', he, _, hcs⟩ := hSr
    injection he with he1 he2 he3
    subst he1 he3
    obtain ⟨b, off, rfl, hb, hcell⟩ := hcs (by omega)
    have hck := hcell j ts[j] (by simp [hlt])
    have dl : decide ((j : Int) < (ts.length : Int)) = true := decide_eq_true (by omega)
    rw [List.drop_eq_getElem_cons hlt, walkG] at hwk
    have hbh := behind_any last ts[j] wr hTr
    clear hcell hcs
    have Hwk := Lib.hid hwk
    clear hwk
    generalize ts[j] = t at *
    gi_wp2_with fail
    refine ⟨trivial, ?_⟩
    gi_at_call 75
    refine (callsIn_wide.2 hbh).mono ?_
    rintro e w1 ⟨hB1, ⟨x, hx, rfl⟩ | ⟨n, hn, rfl⟩⟩
    · have hwk := Hwk.out
      rw [hx] at hwk
      simp only at hwk
      have hpre : pre ++ [x] <+: (walkG behG (fun _ c => c) a ts).1 := by
       rw [hwk]
       exact ⟨(walkG behG (fun _ c => c) x (ts.drop (j + 1))).1, by simp⟩
      have hJ1 := own_below (B := W.heap.size) hJo hJ hB1
      obtain ⟨fn, tmps, assign, body, hy, hR⟩ := hY pre x w1 hJ1 hpre
      have hK1 := keep_t hK (keep_of (hB1.mono (by omega)))
      have Hw2 := Lib.hid hwk
      clear hwk hpre hbh hck hx
      gi_wp2_with fail
      refine (roundIn_room rfl hR).mono ?_
      rintro e W3 (⟨rfl, hJ3, hK3, hF3⟩ | ⟨rfl, hS3⟩)
      · gi_wp2_with fail
        refine ⟨⟨j + 1, x, pre ++ [x], by omega, by go_num, rfl, ?_, hJ3, keep_t hK1 hK3⟩, ?_⟩
        · rw [Hw2.out]; simp
        · simp [intOf]; omega
      · gi_wp2_with fail
        refine bodyPost_ret (results_none rfl _ _ _) rfl ?_
        exact .inl ⟨_, rfl, hS3⟩
    · have hwk := Hwk.out
      rw [hn] at hwk
      simp only [List.append_nil] at hwk
      have hJ1 := own_below (B := W.heap.size) hJo hJ hB1
      exact ⟨rfl, .inr (.inr ⟨errno n, by rw [hwk]; rfl, rfl, by rw [hwk]; exact hJ1⟩)⟩
  · obtain rfl : j = ts.length := by omega
    rw [List.drop_length, walkG] at hwk
    simp only [List.append_nil] at hwk
    have Hwk := Lib.hid hwk
    clear hwk
    have dl : decide ((ts.length : Int) < (ts.length : Int)) = false := decide_eq_false (by omega)
    gi_wp2_with fail
    go_end0
    have hwk := Hwk.out
    exact .inr (.inl ⟨by rw [hwk]; rfl, ⟨_, rfl⟩, by rw [hwk]; exact hJ⟩)
set_option maxRecDepth 100000 in
set_option maxHeartbeats 4000000 in
theorem turned_seq (b1 b2 B g : Nat) (a : UInt8) (tv : Value) (ts : List UInt8) (hreach : ts.length ≤ 1000000) (w0 : World) (hB : B ≤ w0.heap.size) (h1 : b1 < B) (h2 : b2 < B) (g1 : b1 ≠ g) (g2 : b2 ≠ g) (hlB : 3 < B) (hlg : 3 ≠ g)
    (hc1 : w0.cell? ⟨b1, 0, none⟩ = some (eB a)) (hc2 : w0.cell? ⟨b2, 0, none⟩ = some tv) (hS : Sl eB B w0 tv ts) (hne : 0 < ts.length → ∀ A l c, tv = .slice A l c → ∀ x, A = some x → x.block ≠ g) (hT : Tab w0) :
    SeqI Fence.wide Tryd.prog 98 #[.pointer (some ⟨b1, 0, none⟩), .pointer (some ⟨b2, 0, none⟩)] (fun x : UInt8 => #[eB x]) (Keep B g) (walkG triG (fun t _ => t) a ts).1 ((walkG triG (fun t _ => t) a ts).2.map errno) w0 := by
 intro l J JS W hW hJo hY h0
 have hKW : Keep B g w0 W := keep_of (hW.mono hB)
 have hc1' := (hKW.cell (p := ⟨b1, 0, none⟩) h1 g1).trans hc1
 have hc2' := (hKW.cell (p := ⟨b2, 0, none⟩) h2 g2).trans hc2
 obtain ⟨A, c, htv⟩ := hS.len
 subst htv
 have hneA := fun h => hne h A ts.length c rfl
 have hSW := hS.keep hKW (Nat.le_refl _) hneA
 have hTW := hT.keep hKW hlB hlg
 have hBW : B ≤ W.heap.size := Nat.le_trans hB hW.size
 clear hS hT hc1 hc2 hne hKW
 refine callsIn_of_wp Tryd.func98 rfl trivial ?_ rfl
 simp only [Tryd.ntmps98, List.size_toArray, List.length_cons, List.length_nil, Nat.reduceAdd, Nat.reduceSub, Array.replicate_succ, Array.replicate_zero, List.push_toArray, List.append_toArray, List.nil_append, List.cons_append]
 gi_wp2_with fail
 gi_loopw [4, 10] (fun z i wr => ∃ (j : Nat) (last : UInt8) (pre : List UInt8), j ≤ ts.length ∧ i = .int .i64 j ∧ z = eB last ∧
   walkG triG (fun t _ => t) a ts = (pre ++ (walkG triG (fun t _ => t) last (ts.drop j)).1, (walkG triG (fun t _ => t) last (ts.drop j)).2) ∧ J pre wr ∧ Keep B g W wr) (fun _ i _ => ts.length - (intOf i).toNat)
 case atStart => exact ⟨0, a, [], Nat.zero_le _, rfl, rfl, by simp, h0, keep_r _ _ _⟩
 case round =>
  obtain ⟨j, last, pre, hj, rfl, rfl, hwk, hJ, hK⟩ := hrel
  have hsz := keep_size hK
  by_cases hlt : j < ts.length
  · have hSr := hSW.keep hK (Nat.le_refl _) hneA
    have hTr := hTW.keep hK hlB hlg
    obtain ⟨A', c', he, _, hcs⟩ := hSr
    injection he with he1 he2 he3
    subst he1 he3
    obtain ⟨b, off, rfl, hb, hcell⟩ := hcs (by omega)
    have hck := hcell j ts[j] (by simp [hlt])
    have dl : decide ((j : Int) < (ts.length : Int)) = true := decide_eq_true (by omega)
    rw [List.drop_eq_getElem_cons hlt, walkG] at hwk
    have hbh := trit_any last ts[j] wr hTr
    clear hcell hcs
    have Hwk := Lib.hid hwk
    clear hwk
    generalize ts[j] = t at *
    gi_wp2_with fail
    refine ⟨trivial, ?_⟩
    gi_at_call 99
    refine (callsIn_wide.2 hbh).mono ?_
    rintro e w1 ⟨hB1, ⟨x, hx, rfl⟩ | ⟨n, hn, rfl⟩⟩
    · have hwk := Hwk.out
      rw [hx] at hwk
      simp only at hwk
      have hpre : pre ++ [x] <+: (walkG triG (fun t _ => t) a ts).1 := by
       rw [hwk]
       exact ⟨(walkG triG (fun t _ => t) t (ts.drop (j + 1))).1, by simp⟩
      have hJ1 := own_below (B := W.heap.size) hJo hJ hB1
      obtain ⟨fn, tmps, assign, body, hy, hR⟩ := hY pre x w1 hJ1 hpre
      have hK1 := keep_t hK (keep_of (hB1.mono (by omega)))
      have Hw2 := Lib.hid hwk
      clear hwk hpre hbh hck hx
      gi_wp2_with fail
      refine (roundIn_room rfl hR).mono ?_
      rintro e W3 (⟨rfl, hJ3, hK3, hF3⟩ | ⟨rfl, hS3⟩)
      · gi_wp2_with fail
        refine ⟨⟨j + 1, t, pre ++ [x], by omega, by go_num, rfl, ?_, hJ3, keep_t hK1 hK3⟩, ?_⟩
        · rw [Hw2.out]; simp
        · simp [intOf]; omega
      · gi_wp2_with fail
        refine bodyPost_ret (results_none rfl _ _ _) rfl ?_
        exact .inl ⟨_, rfl, hS3⟩
    · have hwk := Hwk.out
      rw [hn] at hwk
      simp only [List.append_nil] at hwk
      have hJ1 := own_below (B := W.heap.size) hJo hJ hB1
      exact ⟨rfl, .inr (.inr ⟨errno n, by rw [hwk]; rfl, rfl, by rw [hwk]; exact hJ1⟩)⟩
  · obtain rfl : j = ts.length := by omega
    rw [List.drop_length, walkG] at hwk
    simp only [List.append_nil] at hwk
    have Hwk := Lib.hid hwk
    clear hwk
    have dl : decide ((ts.length : Int) < (ts.length : Int)) = false := decide_eq_false (by omega)
    gi_wp2_with fail
    go_end0
    have hwk := Hwk.out
    exact .inr (.inl ⟨by rw [hwk]; rfl, ⟨_, rfl⟩, by rw [hwk]; exact hJ⟩)
end Go.Proofs.YtjclfkbhakjdaaaDoor.Tu
