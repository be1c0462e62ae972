import Derived.Laws.Rows
import Derived.Laws.Tables
import Derived.Test.YtcngnjkpnmpcpaaDoorClBZ
import Derived.Test.YtcngnjkpnmpcpaaDoorIVZ
import Derived.Test.YtcngnjkpnmpcpaaDoorRPWZ
import Derived.Test.YtcngnjkpnmpcpaaDoorRQZ
import Derived.Test.YtcngnjkpnmpcpaaDoorRXJZ
import Derived.Test.YtcngnjkpnmpcpaaDoorRcBZ
namespace Go.Proofs.YtcngnjkpnmpcpaaDoor
open Go.RowKit Go.Shelf
attribute [local go_sem] Oper.semAt_some run_store_func
abbrev Pr := List UInt8 × List UInt8
def PrsIn (B : Nat) (W : World) (v : Value) (L : List Pr) : Prop :=
 ∃ A cap, v = .slice A L.length cap ∧ L.length ≤ cap ∧ (0 < L.length → ∃ b off, A = some ⟨b, off, none⟩ ∧ b < B ∧ ∀ i (hi : i < L.length), W.cell? ⟨b, off + i * 2, none⟩ = some (sV L[i].1) ∧ W.cell? ⟨b, off + i * 2 + 1, none⟩ = some (sV L[i].2))
theorem PrsIn.below {B : Nat} {w w' : World} {v : Value} {L : List Pr} (h : PrsIn B w v L) (hb : Below B w w') : PrsIn B w' v L := by
 obtain ⟨A, cap, e, hc, hcs⟩ := h
 refine ⟨A, cap, e, hc, fun h0 => ?_⟩
 obtain ⟨b, off, e', hb', hcell⟩ := hcs h0
 exact ⟨b, off, e', hb', fun i hi => ⟨(hb.cell (p := ⟨b, off + i * 2, none⟩) hb').trans (hcell i hi).1, (hb.cell (p := ⟨b, off + i * 2 + 1, none⟩) hb').trans (hcell i hi).2⟩⟩
theorem PrsIn.more {B B' : Nat} {w : World} {v : Value} {L : List Pr} (h : PrsIn B w v L) (hb : B ≤ B') : PrsIn B' w v L := by
 obtain ⟨A, cap, e, hc, hcs⟩ := h
 refine ⟨A, cap, e, hc, fun h0 => ?_⟩
 obtain ⟨b, off, e', hb', hcell⟩ := hcs h0
 exact ⟨b, off, e', by omega, hcell⟩
theorem PrsIn.next {w w' : World} {v : Value} {L : List Pr} (h : PrsIn w.heap.size w v L) (hb : Below w.heap.size w w') : PrsIn w'.heap.size w' v L := (h.below hb).more hb.size
theorem PrsIn.len {B : Nat} {W : World} {v : Value} {L : List Pr} (h : PrsIn B W v L) : ∃ A c, v = .slice A L.length c := by
 obtain ⟨A, c, e, -, -⟩ := h
 exact ⟨A, c, e⟩
def allP (L : List Pr) : List (List UInt8) := L.flatMap fun p => [p.1, p.2]
theorem allP_app (a b : List Pr) : allP (a ++ b) = allP a ++ allP b := by simp [allP]
theorem allP_succ (L : List Pr) (j : Nat) (h : j < L.length) : allP (L.take (j + 1)) = allP (L.take j) ++ [L[j].1] ++ [L[j].2] := by
 rw [List.take_succ_eq_append_getElem h, allP_app]
 simp [allP]
theorem allP_len (L : List Pr) : (allP L).length = 2 * L.length := by
 induction L with
 | nil => rfl
 | cons p L ih =>
   have e : allP (p :: L) = p.1 :: p.2 :: allP L := rfl
   rw [e]
   simp only [List.length_cons, ih]
   omega
theorem allP_pre (L : List Pr) (j : Nat) : allP (L.take j) <+: allP L := by
 refine ⟨allP (L.drop j), ?_⟩
 rw [← allP_app, List.take_append_drop]
theorem allP_pre1 (L : List Pr) (j : Nat) (h : j < L.length) : allP (L.take j) ++ [L[j].1] <+: allP L :=
 List.IsPrefix.trans ⟨[L[j].2], by rw [allP_succ L j h]⟩ (allP_pre L (j + 1))
theorem allP_pre2 (L : List Pr) (j : Nat) (h : j < L.length) : (allP (L.take j) ++ [L[j].1]) ++ [L[j].2] <+: allP L := by
 rw [← allP_succ L j h]
 exact allP_pre L (j + 1)
def KT (B g : Nat) (W W' : World) : Prop := Keep B g W W' ∧ ∀ (k : Nat) (cs : Array Value) (fr : Nat × Nat), W.heap[k]? = some (.cells cs 46 fr) → W'.heap[k]? = some (.cells cs 46 fr)
theorem kt_r (B g : Nat) (W : World) : KT B g W W := ⟨keep_r _ _ _, fun _ _ _ h => h⟩
theorem kt_t {B g : Nat} {X Y Z : World} (h : KT B g X Y) (k : KT B g Y Z) : KT B g X Z := ⟨keep_t h.1 k.1, fun i cs fr hi => k.2 i cs fr (h.2 i cs fr hi)⟩
theorem kt_below {B g : Nat} {W W' : World} (h : Below W.heap.size W W') (hB : B ≤ W.heap.size) : KT B g W W' :=
 ⟨⟨⟨h.os, h.tape, h.output, h.size⟩, fun k hk _ => h.block k (by omega)⟩, fun k cs fr hk => (h.block k (Array.getElem?_eq_some_iff.1 hk).1).trans hk⟩
theorem kt_alloc {B g : Nat} {W : World} (o : Obj) (hB : B ≤ W.heap.size) : KT B g W (W.alloc o) := kt_below (below_alloc W o) hB
set_option maxRecDepth 100000 in
theorem each_any (A : Option Addr) (l c : Nat) (w : World) :
    Calls Tryd.prog 33 #[.slice A l c] w fun e w' => e = .returned (.func (.func 53) #[] #[.pointer (some ⟨w.heap.size, 0, none⟩)]) ∧ w' = w.alloc (.cells #[.slice A l c] 22) := by
  have hmf : ∀ (fn : Fn) (first cap : Array Value) (w : World), (Instr.makeFunc fn first cap).run Tryd.prog w = .ok (.func fn first cap) w := fun _ _ _ _ => rfl
  go_enter Tryd.func33, Tryd.ntmps33
  go_wp2_with fail
  go_ret
  exact ⟨rfl, rfl⟩
set_option maxRecDepth 1000000 in
set_option maxHeartbeats 4000000 in
theorem each_seq (b1 B g : Nat) (A : Option Addr) (c : Nat) (L : List Pr) (hreach : L.length ≤ 1000000) (w0 : World) (hB : B ≤ w0.heap.size) (h1 : b1 < B)
    (hc1 : w0.cell? ⟨b1, 0, none⟩ = some (.slice A L.length c)) (hS : PrsIn B w0 (.slice A L.length c) L) (hne : 0 < L.length → ∀ a, A = some a → a.block ≠ g) :
    SeqP Fence.wide Tryd.prog 53 #[.pointer (some ⟨b1, 0, none⟩)] (fun l : List UInt8 => #[sV l]) (KT B g) (allP L) w0 := by
 intro l J JS JP W hW hJo hY h0
 have hc1' := (hW.cell (p := ⟨b1, 0, none⟩) (show b1 < _ by omega)).trans hc1
 have hSW := hS.below (hW.mono hB)
 refine callsIn_of_wp Tryd.func53 rfl trivial ?_ rfl
 simp only [Tryd.ntmps53, List.size_toArray, List.length_cons, List.length_nil, Nat.reduceAdd, Nat.reduceSub, Array.replicate_succ, Array.replicate_zero, List.push_toArray, List.append_toArray, List.nil_append, List.cons_append]
 gi_wp2_with fail
 gi_loopw [7] (fun i wr => ∃ j : Nat, j ≤ L.length ∧ i = .int .i64 j ∧ J (allP (L.take j)) wr ∧ KT B g W wr) (fun i _ => L.length - (intOf i).toNat)
 case atStart => exact ⟨0, Nat.zero_le _, rfl, h0, kt_r _ _ _⟩
 case round =>
  obtain ⟨j, hj, rfl, hJ, hK⟩ := hrel
  by_cases hlt : j < L.length
  · obtain ⟨A', c', he, _, hcs⟩ := id hSW
    injection he with e1 e2 e3
    subst e1 e3
    obtain ⟨b, off, rfl, hb, hcell⟩ := hcs (by omega)
    have hbg : b ≠ g := hne (by omega) _ rfl
    have cx1 := (hK.1.cell (p := ⟨b, off + j * 2, none⟩) hb hbg).trans (hcell j hlt).1
    have cx2 := (hK.1.cell (p := ⟨b, off + j * 2 + 1, none⟩) hb hbg).trans (hcell j hlt).2
    have hxl : (j : Int) < (L.length : Int) := by omega
    have hsz := keep_size hK.1
    have hsW := hW.size
    have hJ1 : J (allP (L.take j)) (wr.alloc (.cells #[sV L[j].1, sV L[j].2] 46)) := hJo.alloc _ hJ
    have hK1 : KT B g W (wr.alloc (.cells #[sV L[j].1, sV L[j].2] 46)) := kt_t hK (kt_alloc _ (by omega))
    have hr1 := Rowed.new wr 46 #[sV L[j].1, sV L[j].2]
    obtain ⟨fn, tmps, assign, body, hy, hR⟩ := hY _ L[j].1 _ hJ1 (allP_pre1 L j hlt)
    have HY := Lib.hid (fun W2 (h : J (allP (L.take j) ++ [L[j].1]) W2) => hY _ L[j].2 W2 h (allP_pre2 L j hlt))
    have HSU := Lib.hid (allP_succ L j hlt)
    have Hlt := Lib.hid hlt
    clear hY hJo hJ hcs hcell hSW hS hc1 hc1' h0 hW hne
    generalize L[j] = P at *
    generalize allP (L.take j) = pre at *
    gi_wp2_with fail
    refine (roundIn_room rfl hR).mono ?_
    clear hy hR
    rintro e W3 (⟨rfl, hJ3, hK3, -⟩ | ⟨rfl, hS3⟩ | ⟨ch, rfl, hP3⟩)
    · have hr3 : Rowed W3 wr.heap.size 46 #[sV P.1, sV P.2] := hK3.2 _ _ _ hr1
      have c1 := hr3.cell 1
      simp at c1
      obtain ⟨fn2, tmps2, assign2, body2, hy2, hR2⟩ := HY.out W3 hJ3
      clear HY hJ1 hJ3 hr3 hr1 cx1 cx2
      gi_wp2_with fail
      refine (roundIn_room rfl hR2).mono ?_
      clear hy2 hR2
      rintro e W4 (⟨rfl, hJ4, hK4, -⟩ | ⟨rfl, hS4⟩ | ⟨ch, rfl, hP4⟩)
      · gi_wp2_with fail
        refine ⟨⟨j + 1, Hlt.out, by go_num, by rw [HSU.out]; exact hJ4, kt_t hK1 (kt_t hK3 hK4)⟩, ?_⟩
        have := Hlt.out
        simp [intOf]
        omega
      · gi_wp2_with fail
        refine bodyPost_ret (results_none rfl _ _ _) rfl ?_
        exact .inl ⟨⟨_, rfl⟩, .inr hS4⟩
      · gi_wp2_with fail
        exact ⟨rfl, .inr ⟨ch, rfl, hP4⟩⟩
    · gi_wp2_with fail
      repeat (refine ⟨fun f hf => (by cases hf), ?_⟩; gi_wp2_with fail)
      refine bodyPost_ret (results_none rfl _ _ _) rfl ?_
      exact .inl ⟨⟨_, rfl⟩, .inr hS3⟩
    · gi_wp2_with fail
      exact ⟨rfl, .inr ⟨ch, rfl, hP3⟩⟩
  · obtain rfl : j = L.length := by omega
    rw [List.take_length] at hJ
    clear hSW hS hY hJo
    gi_wp2_with fail
    go_end0
    exact .inl ⟨⟨_, rfl⟩, .inl hJ⟩
end Go.Proofs.YtcngnjkpnmpcpaaDoor
namespace Go.Proofs.YtcngnjkpnmpcpaaDoor
open Go.RowKit Go.Shelf
attribute [local go_sem] Oper.semAt_some run_store_func
theorem info_str : (Tryd.prog.info? 9).map (fun i => (i.zero, i.size, i.bytes)) = some (some (sV []), 1, 16) := by kernel_rfl
theorem own_keepT {W W' : World} {B : Nat} {e : TypeId} {v : Value} {n : Nat} {xs : List Value} (h : W.ownsRow B e 1 v n xs) (hk : ∀ k cs, B ≤ k → W.heap[k]? = some (.cells cs e (0, 0)) → v.ownBlock = some k → W'.heap[k]? = some (.cells cs e (0, 0))) : W'.ownsRow B e 1 v n xs := by
 refine ⟨h.1, ?_⟩
 rcases h.2 with h1 | ⟨g, cap, cur, e1, hB, hg, hr⟩
 · exact .inl h1
 · exact .inr ⟨g, cap, cur, e1, hB, hk g _ hB hg (by rw [e1]; rfl), hr⟩
theorem own_tag {W : World} {B : Nat} {e : TypeId} {v : Value} {n : Nat} {xs : List Value} (h : W.ownsRow B e 1 v n xs) {k : Nat} (hk : v.ownBlock = some k) : B ≤ k ∧ ∃ cs, W.heap[k]? = some (.cells cs e (0, 0)) := by
 rcases h.2 with ⟨h1, -⟩ | ⟨g, cap, cur, e1, hB, hg, hr⟩
 · rw [h1] at hk; cases hk
 · rw [e1] at hk
   obtain rfl : g = k := by simpa [Value.ownBlock] using hk
   exact ⟨hB, _, hg⟩
theorem own_baseV {X : World} {base base' : Nat} {e : TypeId} {size k : Nat} {v : Value} {xs : List Value} (h : X.ownsRow base e size v k xs) (hb : base' ≤ base) : X.ownsRow base' e size v k xs := by
 refine ⟨h.1, ?_⟩
 rcases h.2 with ⟨h1, h2⟩ | ⟨g', cap', cur, h1, h2, h3, h4⟩
 · exact .inl ⟨h1, h2⟩
 · exact .inr ⟨_, _, cur, h1, Nat.le_trans hb h2, h3, h4⟩
theorem own_below {X Y : World} {base : Nat} {e : TypeId} {k : Nat} {v : Value} {xs : List Value} (h : X.ownsRow base e 1 v k xs) (hb : Below X.heap.size X Y) : Y.ownsRow base e 1 v k xs :=
 own_keepT h fun g _ _ ho _ => (hb.block g (Array.getElem?_eq_some_iff.1 ho).1).trans ho
theorem grown_of {W w2 w3 : World} {o : Obj} {row : Option Nat} (hB : Below W.heap.size W w2) (hg : (w2.alloc o).grownBy w3 row) : W.grownBy w3 row := by
 have hA := hB.trans ((below_alloc w2 o).mono hB.size)
 exact ⟨hg.os.trans hA.os, hg.tape.trans hA.tape, hg.output.trans hA.output, Nat.le_trans hA.size hg.size, fun k hk hr => (hg.block k (Nat.lt_of_lt_of_le hk hA.size) hr).trans (hA.block k hk)⟩
def takeB (xs : List (List UInt8)) (p : List UInt8) : Bool := oneG p && xs.all fun o => decide (5 ≤ dC p o)
set_option maxRecDepth 100000 in
set_option maxHeartbeats 4000000 in
theorem take_any (v : Value) (xs : List (List UInt8)) (p : List UInt8) (base : Nat) (W : World) (hown : W.ownsRow base 9 1 v xs.length (xs.map sV)) (hn : xs.length ≤ 1000) (hT : Tab W) (hbase : base ≤ W.heap.size) :
    Calls Tryd.prog 36 #[v, sV p] W fun e w' => (takeB xs p = true ∧ W.grownBy w' v.ownBlock ∧ ∃ u, e = .returned u ∧ w'.ownsRow base 9 1 u (xs.length + 1) ((xs ++ [p]).map sV)) ∨ (takeB xs p = false ∧ e = .panicked (errno 200) ∧ Below W.heap.size W w') := by
  obtain ⟨i0, hi, hz0, hz1, hz2⟩ := info_parts info_str
  have hO := One_any p W hT
  obtain ⟨A, c, rfl, hc, hcs⟩ := Sl.of_own hown
  cases ho : oneG p with
  | false =>
    have htb : takeB xs p = false := by unfold takeB; rw [ho]; rfl
    rw [ho] at hO
    clear ho hown hcs
    go_enter Tryd.func36, Tryd.ntmps36
    go_wp2_with fail
    go_at_call 21
    refine hO.mono ?_
    rintro e w1 ⟨rfl, hB1⟩
    clear hO
    go_wp2_with fail
    go_at_call 29
    refine (pmust_no _ _).mono ?_
    rintro e w2 ⟨rfl, rfl⟩
    go_wp2_with fail
    exact ⟨rfl, .inr ⟨htb, rfl, hB1⟩⟩
  | true =>
    have HTB := Lib.hid (show takeB xs p = xs.all fun o => decide (5 ≤ dC p o) from by unfold takeB; rw [ho]; rfl)
    rw [ho] at hO
    have HC := Lib.hid hcs
    have HO := Lib.hid hown
    clear ho hown hcs
    go_enter Tryd.func36, Tryd.ntmps36
    go_wp2_with fail
    go_at_call 21
    refine hO.mono ?_
    rintro e w1 ⟨rfl, hB1⟩
    clear hO
    go_wp2_with fail
    go_at_call 29
    refine (pmust_yes _ _).mono ?_
    rintro e w2 ⟨rfl, rfl⟩
    go_wp2_with fail
    go_loopw [12] (fun t wr => ∃ k : Nat, k ≤ xs.length ∧ t = .int .i64 k ∧ (∀ j (hj : j < xs.length), j < k → 5 ≤ dC p xs[j]) ∧ Below W.heap.size W wr) (fun t _ => xs.length - (RowKit.intOf t).toNat)
    case atStart => exact ⟨0, Nat.zero_le _, rfl, fun j _ h => absurd h (by omega), hB1⟩
    case round =>
     obtain ⟨k, hk, rfl, hall, hB⟩ := hrel
     by_cases hlt : k < xs.length
     · obtain ⟨b, off, rfl, hb, hcell⟩ := HC.out (by omega)
       have hcx := (hB.cell (p := ⟨b, off + k, none⟩) hb).trans (hcell k xs[k] (List.getElem?_eq_getElem hlt))
       have hd := pdistance_any p xs[k] wr
       have hkl : (k : Int) < (xs.length : Int) := by omega
       have HY := Lib.hid (show 5 ≤ dC p xs[k] → ∀ j (hj : j < xs.length), j < k + 1 → 5 ≤ dC p xs[j] from fun h j hj hjk => by
        by_cases e : j = k
        · subst e; exact h
        · exact hall j hj (by omega))
       have HN := Lib.hid (show ¬ 5 ≤ dC p xs[k] → takeB xs p = false from fun h => by
        rw [HTB.out]
        exact List.all_eq_false.2 ⟨xs[k], List.getElem_mem hlt, by simpa using h⟩)
       have Hk := Lib.hid hlt
       generalize xs[k] = y at *
       clear hcell hall hlt hk
       by_cases h5 : 5 ≤ dC p y
       · have d5 : decide ((5 : Int) ≤ (dC p y : Int)) = true := decide_eq_true (by omega)
         have HY2 := Lib.hid (HY.out h5)
         clear HY HN h5
         generalize dC p y = d at *
         go_wp2_with fail
         go_at_call 37
         refine hd.mono ?_
         rintro e w2 ⟨rfl, hB2⟩
         clear hd
         go_wp2_with fail
         go_at_call 29
         refine (pmust_yes _ _).mono ?_
         rintro e w3 ⟨rfl, rfl⟩
         go_wp2_with fail
         go_roundw
         case rel => exact ⟨k + 1, Hk.out, by go_num, HY2.out, below_trans hB hB2⟩
         case measure => have := Hk.out; simp [RowKit.intOf]; omega
       · have d5 : decide ((5 : Int) ≤ (dC p y : Int)) = false := decide_eq_false (by omega)
         have HN2 := Lib.hid (HN.out h5)
         clear HY HN h5
         generalize dC p y = d at *
         go_wp2_with fail
         go_at_call 37
         refine hd.mono ?_
         rintro e w2 ⟨rfl, hB2⟩
         clear hd
         go_wp2_with fail
         go_at_call 29
         refine (pmust_no _ _).mono ?_
         rintro e w3 ⟨rfl, rfl⟩
         go_wp2_with fail
         exact ⟨rfl, .inr ⟨HN2.out, rfl, below_trans hB hB2⟩⟩
     · obtain rfl : k = xs.length := by omega
       have htb : takeB xs p = true := by
        rw [HTB.out]
        refine List.all_eq_true.2 fun y hy => ?_
        obtain ⟨j, hj, rfl⟩ := List.getElem_of_mem hy
        exact decide_eq_true (hall j hj hj)
       have hown2 := own_below HO.out hB
       have hsz := hB.size
       clear hall hlt hk
       go_wp2_with (at_builtin; refine wpList_append_own _ rfl _ _ 31 rfl base 9 i0 _ 1 16 Tryd.underlying31 hi hz0 hz1 hz2 (by decide) (by decide) _ _ _ rfl (hown2.alloc _) ⟨wr.heap.size, 0, none⟩ 1 1 [sV p] rfl rfl (cell_one_new _ _ _) (by simp [Value.oneCell']) (by unfold maxLen; omega) (by omega) (by simp; omega) ?_; intro v' w3 hown' hgrow _)
       go_ret
       exact .inl ⟨htb, grown_of hB hgrow, _, rfl, by rw [List.map_append]; exact hown'⟩
end Go.Proofs.YtcngnjkpnmpcpaaDoor
