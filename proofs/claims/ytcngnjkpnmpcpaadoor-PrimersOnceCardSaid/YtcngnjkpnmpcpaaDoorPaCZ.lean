import Derived.Test.YtcngnjkpnmpcpaaDoorClBZ
import Derived.Test.YtcngnjkpnmpcpaaDoorPaBZ
namespace Go.Proofs.YtcngnjkpnmpcpaaDoor
open Go.RowKit Go.Shelf
attribute [local go_sem] Oper.semAt_some run_store_func
theorem info_str : (Tryd.prog.info? 9).map (fun i => (i.zero, i.size, i.bytes)) = some (some (sV []), 1, 16) := by kernel_rfl
theorem own_keepT {W W' : World} {B : Nat} {e : TypeId} {v : Value} {n : Nat} {xs : List Value} (h : W.ownsRow B e 1 v n xs) (hk : ∀ k cs, B ≤ k → W.heap[k]? = some (.cells cs e (0, 0)) → v.ownBlock = some k → W'.heap[k]? = some (.cells cs e (0, 0))) : W'.ownsRow B e 1 v n xs := by
 refine ⟨h.1, ?_⟩
 rcases h.2 with h1 | ⟨g, cap, cur, e1, hB, hg, hr⟩
 · exact .inl h1
 · exact .inr ⟨g, cap, cur, e1, hB, hk g _ hB hg (by rw [e1]; rfl), hr⟩
theorem own_tag {W : World} {B : Nat} {e : TypeId} {v : Value} {n : Nat} {xs : List Value} (h : W.ownsRow B e 1 v n xs) {k : Nat} (hk : v.ownBlock = some k) : B ≤ k ∧ ∃ cs, W.heap[k]? = some (.cells cs e (0, 0)) := by
 rcases h.2 with ⟨h1, -⟩ | ⟨g, cap, cur, e1, hB, hg, hr⟩
 · rw [h1] at hk; cases hk
 · rw [e1] at hk
   obtain rfl : g = k := by simpa [Value.ownBlock] using hk
   exact ⟨hB, _, hg⟩
theorem own_baseV {X : World} {base base' : Nat} {e : TypeId} {size k : Nat} {v : Value} {xs : List Value} (h : X.ownsRow base e size v k xs) (hb : base' ≤ base) : X.ownsRow base' e size v k xs := by
 refine ⟨h.1, ?_⟩
 rcases h.2 with ⟨h1, h2⟩ | ⟨g', cap', cur, h1, h2, h3, h4⟩
 · exact .inl ⟨h1, h2⟩
 · exact .inr ⟨_, _, cur, h1, Nat.le_trans hb h2, h3, h4⟩
theorem own_below {X Y : World} {base : Nat} {e : TypeId} {k : Nat} {v : Value} {xs : List Value} (h : X.ownsRow base e 1 v k xs) (hb : Below X.heap.size X Y) : Y.ownsRow base e 1 v k xs :=
 own_keepT h fun g _ _ ho _ => (hb.block g (Array.getElem?_eq_some_iff.1 ho).1).trans ho
theorem grown_of {W w2 w3 : World} {o : Obj} {row : Option Nat} (hB : Below W.heap.size W w2) (hg : (w2.alloc o).grownBy w3 row) : W.grownBy w3 row := by
 have hA := hB.trans ((below_alloc w2 o).mono hB.size)
 exact ⟨hg.os.trans hA.os, hg.tape.trans hA.tape, hg.output.trans hA.output, Nat.le_trans hA.size hg.size, fun k hk hr => (hg.block k (Nat.lt_of_lt_of_le hk hA.size) hr).trans (hA.block k hk)⟩
def takeB (xs : List (List UInt8)) (p : List UInt8) : Bool := oneG p && xs.all fun o => decide (5 ≤ dC p o)
set_option maxRecDepth 100000 in
set_option maxHeartbeats 4000000 in
theorem take_any (v : Value) (xs : List (List UInt8)) (p : List UInt8) (base : Nat) (W : World) (hown : W.ownsRow base 9 1 v xs.length (xs.map sV)) (hn : xs.length ≤ 1000) (hT : Tab W) (hbase : base ≤ W.heap.size) :
    Calls Tryd.prog 36 #[v, sV p] W fun e w' => (takeB xs p = true ∧ W.grownBy w' v.ownBlock ∧ ∃ u, e = .returned u ∧ w'.ownsRow base 9 1 u (xs.length + 1) ((xs ++ [p]).map sV)) ∨ (takeB xs p = false ∧ e = .panicked (errno 200) ∧ Below W.heap.size W w') := by
  obtain ⟨i0, hi, hz0, hz1, hz2⟩ := info_parts info_str
  have hO := One_any p W hT
  obtain ⟨A, c, rfl, hc, hcs⟩ := Sl.of_own hown
  cases ho : oneG p with
  | false =>
    have htb : takeB xs p = false := by unfold takeB; rw [ho]; rfl
    rw [ho] at hO
    clear ho hown hcs
    go_enter Tryd.func36, Tryd.ntmps36
    go_wp2_with fail
    go_at_call 21
    refine hO.mono ?_
    rintro e w1 ⟨rfl, hB1⟩
    clear hO
    go_wp2_with fail
    go_at_call 29
    refine (pmust_no _ _).mono ?_
    rintro e w2 ⟨rfl, rfl⟩
    go_wp2_with fail
    exact ⟨rfl, .inr ⟨htb, rfl, hB1⟩⟩
  | true =>
    have HTB := Lib.hid (show takeB xs p = xs.all fun o => decide (5 ≤ dC p o) from by unfold takeB; rw [ho]; rfl)
    rw [ho] at hO
    have HC := Lib.hid hcs
    have HO := Lib.hid hown
    clear ho hown hcs
    go_enter Tryd.func36, Tryd.ntmps36
    go_wp2_with fail
    go_at_call 21
    refine hO.mono ?_
    rintro e w1 ⟨rfl, hB1⟩
    clear hO
    go_wp2_with fail
    go_at_call 29
    refine (pmust_yes _ _).mono ?_
    rintro e w2 ⟨rfl, rfl⟩
    go_wp2_with fail
    go_loopw [12] (fun t wr => ∃ k : Nat, k ≤ xs.length ∧ t = .int .i64 k ∧ (∀ j (hj : j < xs.length), j < k → 5 ≤ dC p xs[j]) ∧ Below W.heap.size W wr) (fun t _ => xs.length - (RowKit.intOf t).toNat)
    case atStart => exact ⟨0, Nat.zero_le _, rfl, fun j _ h => absurd h (by omega), hB1⟩
    case round =>
     obtain ⟨k, hk, rfl, hall, hB⟩ := hrel
     by_cases hlt : k < xs.length
     · obtain ⟨b, off, rfl, hb, hcell⟩ := HC.out (by omega)
       have hcx := (hB.cell (p := ⟨b, off + k, none⟩) hb).trans (hcell k xs[k] (List.getElem?_eq_getElem hlt))
       have hd := pdistance_any p xs[k] wr
       have hkl : (k : Int) < (xs.length : Int) := by omega
       have HY := Lib.hid (show 5 ≤ dC p xs[k] → ∀ j (hj : j < xs.length), j < k + 1 → 5 ≤ dC p xs[j] from fun h j hj hjk => by
        by_cases e : j = k
        · subst e; exact h
        · exact hall j hj (by omega))
       have HN := Lib.hid (show ¬ 5 ≤ dC p xs[k] → takeB xs p = false from fun h => by
        rw [HTB.out]
        exact List.all_eq_false.2 ⟨xs[k], List.getElem_mem hlt, by simpa using h⟩)
       have Hk := Lib.hid hlt
       generalize xs[k] = y at *
       clear hcell hall hlt hk
       by_cases h5 : 5 ≤ dC p y
       · have d5 : decide ((5 : Int) ≤ (dC p y : Int)) = true := decide_eq_true (by omega)
         have HY2 := Lib.hid (HY.out h5)
         clear HY HN h5
         generalize dC p y = d at *
         go_wp2_with fail
         go_at_call 37
         refine hd.mono ?_
         rintro e w2 ⟨rfl, hB2⟩
         clear hd
         go_wp2_with fail
         go_at_call 29
         refine (pmust_yes _ _).mono ?_
         rintro e w3 ⟨rfl, rfl⟩
         go_wp2_with fail
         go_roundw
         case rel => exact ⟨k + 1, Hk.out, by go_num, HY2.out, below_trans hB hB2⟩
         case measure => have := Hk.out; simp [RowKit.intOf]; omega
       · have d5 : decide ((5 : Int) ≤ (dC p y : Int)) = false := decide_eq_false (by omega)
         have HN2 := Lib.hid (HN.out h5)
         clear HY HN h5
         generalize dC p y = d at *
         go_wp2_with fail
         go_at_call 37
         refine hd.mono ?_
         rintro e w2 ⟨rfl, hB2⟩
         clear hd
         go_wp2_with fail
         go_at_call 29
         refine (pmust_no _ _).mono ?_
         rintro e w3 ⟨rfl, rfl⟩
         go_wp2_with fail
         exact ⟨rfl, .inr ⟨HN2.out, rfl, below_trans hB hB2⟩⟩
     · obtain rfl : k = xs.length := by omega
       have htb : takeB xs p = true := by
        rw [HTB.out]
        refine List.all_eq_true.2 fun y hy => ?_
        obtain ⟨j, hj, rfl⟩ := List.getElem_of_mem hy
        exact decide_eq_true (hall j hj hj)
       have hown2 := own_below HO.out hB
       have hsz := hB.size
       clear hall hlt hk
       go_wp2_with (at_builtin; refine wpList_append_own _ rfl _ _ 31 rfl base 9 i0 _ 1 16 Tryd.underlying31 hi hz0 hz1 hz2 (by decide) (by decide) _ _ _ rfl (hown2.alloc _) ⟨wr.heap.size, 0, none⟩ 1 1 [sV p] rfl rfl (cell_one_new _ _ _) (by simp [Value.oneCell']) (by unfold maxLen; omega) (by omega) (by simp; omega) ?_; intro v' w3 hown' hgrow _)
       go_ret
       exact .inl ⟨htb, grown_of hB hgrow, _, rfl, by rw [List.map_append]; exact hown'⟩
end Go.Proofs.YtcngnjkpnmpcpaaDoor
