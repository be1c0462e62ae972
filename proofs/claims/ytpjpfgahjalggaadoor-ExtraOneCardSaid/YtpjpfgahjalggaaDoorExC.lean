/- Contract of extra.places' iterator. -/
import Derived.Test.YtpjpfgahjalggaaDoorExB
import Derived.Test.YtpjpfgahjalggaaDoorRW
import Derived.Test.YtpjpfgahjalggaaDoorDTS
import Derived.Test.YtpjpfgahjalggaaDoorSuE
import Derived.Test.YtpjpfgahjalggaaDoorCdA
import Derived.Test.YtpjpfgahjalggaaDoorRI
namespace Go.Proofs.YtpjpfgahjalggaaDoor
open Go.RowKit Go.Shelf
attribute [local go_sem] Oper.semAt_some run_store_func

theorem Of_yes (x : List UInt8) (a b c : Int) (h : sumsG x = .ok (a, b, c)) (hreach : x.length ≤ 1000000) (sv : Value) (w : World) (hT : Tab w) (hS : Sl eB w.heap.size w sv x) :
    Calls Tryd.prog 30 #[sv] w fun e w' => e = .returned (.tuple #[v3 a b c, .int .i64 0]) ∧ Below w.heap.size w w' :=
  (Of_any sv x hreach w hT hS).mono (by
    rintro e w' ⟨hB, ⟨a', b', c', hy, rfl⟩ | ⟨m, hm, rfl⟩⟩
    · rw [h] at hy; cases hy; exact ⟨rfl, hB⟩
    · rw [h] at hm; cases hm)
/-- A row's first cells hold x. -/
def RowL (W : World) (g : Nat) (x : List UInt8) : Prop := ∃ L : List Value, Rowed W g 5 L.toArray ∧ x.length ≤ L.length ∧ L.take x.length = x.map eB
theorem RowL.lt {W : World} {g : Nat} {x : List UInt8} (h : RowL W g x) : g < W.heap.size := by obtain ⟨L, h1, _⟩ := h; exact h1.lt
theorem RowL.same {W W' : World} {g : Nat} {x : List UInt8} (h : RowL W g x) (e : W'.heap[g]? = W.heap[g]?) : RowL W' g x := by
  obtain ⟨L, h1, h2, h3⟩ := h
  exact ⟨L, e.trans h1, h2, h3⟩
theorem RowL.kc {W W' : World} {g : Nat} {x : List UInt8} (h : RowL W g x) (hk : KC W W') : RowL W' g x := by
  obtain ⟨L, h1, h2, h3⟩ := h
  exact ⟨L, hk g _ h1 rfl, h2, h3⟩
theorem RowL.cell {W : World} {g : Nat} {x : List UInt8} (h : RowL W g x) {p : Nat} (hp : p < x.length) : W.cell? ⟨g, p, none⟩ = some (eB (atB x p)) := by
  obtain ⟨L, h1, h2, h3⟩ := h
  have e : (L.take x.length)[p]? = (x.map eB)[p]? := by rw [h3]
  rw [List.getElem?_take, if_pos hp] at e
  rw [h1.cell p, List.getElem?_toArray, e]
  simp [atB, hp]
theorem RowL.frozen {W : World} {g : Nat} {x : List UInt8} (h : RowL W g x) (p : Nat) : W.frozen? ⟨g, p, none⟩ = false := by obtain ⟨L, h1, _⟩ := h; exact h1.frozen p
theorem RowL.set {W : World} {g : Nat} {x : List UInt8} (h : RowL W g x) (p : Nat) (c : UInt8) : RowL (W.setCell ⟨g, p, none⟩ (eB c)) g (x.set p c) := by
  obtain ⟨L, h1, h2, h3⟩ := h
  refine ⟨L.set p (eB c), ?_, by simpa using h2, ?_⟩
  · have := h1.set p (eB c)
    rwa [show L.toArray.setIfInBounds p (eB c) = (L.set p (eB c)).toArray by simp] at this
  · rw [List.length_set, List.take_set, h3, List.map_set]
theorem RowL.sl {W : World} {g : Nat} {x : List UInt8} (h : RowL W g x) {cx : Nat} (hc : x.length ≤ cx) : Sl eB W.heap.size W (.slice (some ⟨g, 0, none⟩) x.length cx) x :=
  ⟨_, cx, rfl, hc, fun _ => ⟨g, 0, rfl, h.lt, fun j u hu => by
    have hj : j < x.length := (List.getElem?_eq_some_iff.1 hu).1
    rw [Nat.zero_add, h.cell hj]
    have := (List.getElem?_eq_some_iff.1 hu).2
    simp [atB, hj, this]⟩⟩
theorem rowL_own {B : Nat} {W : World} {v : Value} {x : List UInt8} (h : Own8 B W v x) (h0 : 0 < x.length) : ∃ g cx, v = .slice (some ⟨g, 0, none⟩) x.length cx ∧ B ≤ g ∧ x.length ≤ cx ∧ RowL W g x := by
  rcases h.2 with ⟨_, h1⟩ | ⟨g, cap, cur, e, hb, hg, hle, hcm, hcs, htk⟩
  · omega
  · rw [Nat.mul_one] at hcs htk
    exact ⟨g, cap, e, hb, hle, cur.toList, by simpa [Rowed] using hg, by simpa [hcs] using hle, htk⟩
/-- The sums of y without its letter p. -/
def s1G (y : List UInt8) (p : Nat) : Int := sT (delW y p) (y.length - 1) % ((y.length - 1 : Nat) : Int)
def s2G (y : List UInt8) (p : Nat) : Int := sS (delW y p) (y.length - 1) % 4
def s3G (y : List UInt8) (p : Nat) : Int := sW (delW y p) (y.length - 1) % (6 * ((y.length - 1 : Nat) : Int) + 1)
def FourL (y : List UInt8) : Prop := ∀ k, k < y.length → codeOf (atB y k).toNat ≠ -1
theorem four_delL (x : List UInt8) (p : Nat) (hp : p < x.length) (h4 : FourL x) : FourL (delW x p) := by
  intro k hk
  have := delW_length x p hp
  rw [atB_del x p k hp]
  split
  · exact h4 k (by omega)
  · exact h4 (k + 1) (by omega)
theorem del_sums (y : List UInt8) (p : Nat) (hp : p < y.length) (h3 : 3 ≤ y.length) (h9 : y.length ≤ 1001) (h4 : FourL y) : sumsG (delW y p) = .ok (s1G y p, s2G y p, s3G y p) := by
  have hl := delW_length y p hp
  have e : (delW y p).length = y.length - 1 := by omega
  rw [four_sums (delW y p) (by omega) (by omega) (four_delL y p hp h4), e]
  rfl
theorem wrap64_mid (z : Int) (h0 : -1000000 ≤ z) (h1 : z ≤ 1000000) : wrap64 z = z := by rw [wrap64]; omega
theorem wrap_mid (z : Int) (h0 : -1000000 ≤ z) (h1 : z ≤ 1000000) : IntKind.i64.wrap z = z := by rw [IntKind.wrap_i64]; omega
/-- The same world, but for what was drawn. -/
def Sd (W W' : World) : Prop := ∃ k, W' = W.drewN k
theorem mul_boundE (d q : Int) (h0 : -3 ≤ d) (h1 : d ≤ 3) (q0 : 0 ≤ q) (q1 : q ≤ 1001) : -3003 ≤ d * q ∧ d * q ≤ 3003 := by
  have : d = -3 ∨ d = -2 ∨ d = -1 ∨ d = 0 ∨ d = 1 ∨ d = 2 ∨ d = 3 := by omega
  rcases this with rfl | rfl | rfl | rfl | rfl | rfl | rfl <;> omega
/-- What isn't turned by going round. -/
abbrev NoW (z : Int) : Prop := wrap64 z = z ∧ IntKind.i64.wrap z = z
theorem noW (z : Int) (h0 : -1000000 ≤ z) (h1 : z ≤ 1000000) : NoW z := ⟨wrap64_mid z h0 h1, wrap_mid z h0 h1⟩
theorem sd_k (W : World) (k : Nat) : Sd W (W.drewN k) := ⟨k, rfl⟩
theorem sd_two (W : World) (k j : Nat) : Sd W ((W.drewN k).drewN j) := ⟨k + j, by simp [World.drewN, Nat.add_assoc]⟩
theorem range_preE (p n : Nat) (h : p < n) : List.range p ++ [p] <+: List.range n := by
  rw [← List.range_succ]
  exact ⟨(List.range n).drop (p + 1), by
    have h1 : List.range (p + 1) = (List.range n).take (p + 1) := by
      rw [List.take_range, Nat.min_eq_left h]
    rw [h1, List.take_append_drop]⟩
set_option maxRecDepth 1000000 in
set_option maxHeartbeats 8000000 in
theorem eplaces_seq (b1 b2 : Nat) (A : Option Addr) (cap : Nat) (v2 : Value) (y : List UInt8) (h3 : 3 ≤ y.length) (h9 : y.length ≤ 1000) (h4 : FourL y) (w0 : World) (l1 : b1 < w0.heap.size)
    (k1 : w0.cell? ⟨b1, 0, none⟩ = some (.slice A y.length cap)) (hSl : Sl eB w0.heap.size w0 (.slice A y.length cap) y) (k2 : w0.cell? ⟨b2, 0, none⟩ = some v2) (hCl : Sl eI w0.heap.size w0 v2 (codesOf y)) (hT : Tab w0) :
    SeqW Fence.wide Tryd.prog 29 #[.pointer (some ⟨b1, 0, none⟩), .pointer (some ⟨b2, 0, none⟩)] (fun p : Nat => #[.int .i64 p, v3 (s1G y p) (s2G y p) (s3G y p)]) KC (List.range y.length) none w0 := by
  intro l J JS W hW hJo hJw hY h0
  have hTW := hT.below hW
  have hSW := hSl.next hW
  have hWo := Without_any (.slice A y.length cap) y 0 (by omega) W hSW
  rw [show withG y 0 = delW y 0 by rw [withG, if_pos (by omega)]; rfl] at hWo
  have hl0 := delW_length y 0 (by omega)
  have hOf := fun v w hT hS => Of_yes (delW y 0) _ _ _ (del_sums y 0 (by omega) h3 (by omega) h4) (by omega) v w hT hS
  have c1 := (hW.cell (p := ⟨b1, 0, none⟩) l1).trans k1
  have hRC := rc_of hW
  have hlc : (codesOf y).length = y.length := by simp [codesOf]
  obtain ⟨bc, oc, cc, rfl, hcells⟩ : ∃ bc oc cc, v2 = .slice (some ⟨bc, oc, none⟩) y.length cc ∧ ∀ p, p < y.length → w0.cell? ⟨bc, oc + p, none⟩ = some (.int .i64 (codeOf (atB y p).toNat)) := by
    obtain ⟨A', c', e, hc, hcs⟩ := hCl
    obtain ⟨bc, oc, rfl, _, hcell⟩ := hcs (by omega)
    refine ⟨bc, oc, c', by rw [e, hlc], fun p hp => hcell p _ ?_⟩
    simp [codesOf, atB, hp]
  obtain ⟨by_, oy, cy, e, hcy, hby, hycells⟩ := sl_at hSl (by omega)
  injection e with e1 e2 e3
  subst e1 e3
  clear hSl hCl hlc
  refine callsIn_of_wp Tryd.func29 rfl trivial ?_ rfl
  simp only [Tryd.ntmps29, List.size_toArray, List.length_cons, List.length_nil, Nat.reduceAdd, Nat.reduceSub, Array.replicate_succ, Array.replicate_zero, List.push_toArray, List.append_toArray, List.nil_append, List.cons_append]
  gi_wp2_with fail
  refine ⟨trivial, ?_⟩
  gi_at_call 12
  refine (callsIn_wide.2 hWo).mono ?_
  rintro e w1 ⟨vx, rfl, hx, hB1⟩
  obtain ⟨gx, cx, rfl, hgx, hcx, hrow⟩ := rowL_own hx (by omega)
  have hJ1 := hJw [] W w1 h0 (Nat.le_refl _) hB1
  have hT1 := hTW.below hB1
  have hRC1 := rc_below hRC hW.size hB1
  clear hWo hx
  obtain ⟨n, hn⟩ : ∃ n, (delW y 0).length = n := ⟨_, rfl⟩
  have hnl : n + 1 = y.length := by omega
  have hsx := hrow.sl hcx
  rw [hn] at hsx hcx ⊢
  clear hl0
  gi_wp2_with fail
  refine ⟨trivial, ?_⟩
  gi_at_call 30
  refine (callsIn_wide.2 (hOf _ _ hT1 hsx)).mono ?_
  rintro e w2 ⟨rfl, hB2⟩
  have hJ2 := hJw [] w1 w2 hJ1 hB1.size (hB2.mono hB1.size)
  have hRC2 := rc_below hRC1 (Nat.le_trans hW.size hB1.size) hB2
  have hrow2 := hrow.same (hB2.block gx hrow.lt)
  have hs2 := hB2.size
  have hs1 := hB1.size
  have hcl : (v3 (s1G y 0) (s2G y 0) (s3G y 0)).cells = c3 (s1G y 0) (s2G y 0) (s3G y 0) := rfl
  have hA3 := below_alloc w2 (.cells (c3 (s1G y 0) (s2G y 0) (s3G y 0)) 24)
  have hr3 := Rowed.new w2 24 (c3 (s1G y 0) (s2G y 0) (s3G y 0))
  have hgw := hrow2.lt
  have hJ3 := hJw [] w2 _ hJ2 (Nat.le_trans hs1 hs2) (hA3.mono (Nat.le_trans hs1 hs2))
  have hRC3 := rc_below hRC2 (Nat.le_trans hW.size (Nat.le_trans hs1 hs2)) hA3
  have hrow3 := hrow2.same (hA3.block gx hgw)
  have c3' := rc_cell hRC3 k1
  clear hOf hsx hB1 hB2 hJ1 hJ2 hT1 hRC1 hRC2 hrow hrow2 hA3 hRC hTW hSW c1 h0
  gi_wp2_with fail
  have hWb := Nat.le_trans hs1 hs2
  generalize w2.alloc (.cells (c3 (s1G y 0) (s2G y 0) (s3G y 0)) 24) = wz at *
  generalize w2.heap.size = bs at *
  have Hn := Lib.hid hn
  clear hn hcl c3'
  gi_loopw [22] (fun i wr => ∃ p : Nat, p < y.length ∧ i = .int .i64 p ∧ J (List.range p) wr ∧ RowL wr gx (delW y p) ∧ Rowed wr bs 24 (c3 (s1G y p) (s2G y p) (s3G y p)) ∧ RC w0 wr) (fun i _ => y.length - (intOf i).toNat)
  case atStart => exact ⟨0, by omega, rfl, hJ3, hrow3, hr3, hRC3⟩
  case round =>
    obtain ⟨p, hp, rfl, hJ, hrow, hr, hRC⟩ := hrel
    have hpi : (p : Int) < (y.length : Int) := by omega
    have hpd : decide ((p : Int) < (y.length : Int)) = true := decide_eq_true hpi
    have hpre := range_preE p y.length hp
    obtain ⟨fn, tmps, assign, body, hyy, hR⟩ := hY (List.range p) p wr hJ hpre
    have q0 := hr.cell 0
    have q1 := hr.cell 1
    have q2 := hr.cell 2
    have Hp := Lib.hid hp
    clear hp hpre
    gi_wp2_with fail
    refine (roundIn_room rfl hR).mono ?_
    rintro e W3 (⟨rfl, hJ3, hK3, hF3⟩ | ⟨rfl, hS3⟩)
    · by_cases hend : p = n
      · subst hend
        have hJe : J (List.range y.length) W3 := by
          rw [← hnl, List.range_succ]; exact hJ3
        clear hR hyy q0 q1 q2 hY hpi hpd hJ hrow hr hRC
        gi_wp2_with fail
        refine bodyPost_ret (results_none rfl _ _ _) rfl ?_
        exact .inr (.inl ⟨trivial, ⟨_, rfl⟩, hJe⟩)
      · have hpn : p < n := by have := Hp.out; omega
        have hrow := hrow.kc hK3
        have hr : Rowed W3 bs 24 (c3 (s1G y p) (s2G y p) (s3G y p)) := hK3 bs _ hr rfl
        have hRC := rc_kc hRC hK3
        have hJ := hJ3
        rw [← List.range_succ] at hJ
        have kc2 := rc_cell hRC k2
        have ky1 := rc_cell hRC k1
        have kp := rc_cell hRC (hcells p (by omega))
        have kq := rc_cell hRC (hcells (p + 1) (by omega))
        have kyp := rc_cell hRC (hycells p (by omega))
        have hne : ((p : Int) == (n : Int)) = false := by rw [beq_eq_false_iff_ne]; omega
        have hp9 : p ≤ 1000000 := by omega
        have tn : ((p : Int) + 1).toNat = p + 1 := by omega
        have b0 : (0 : Int) ≤ (p : Int) + 1 := by omega
        have b1' : (p : Int) + 1 < (y.length : Int) := by omega
        have cb1 := code_bound (h4 p (by omega))
        have cb2 := code_bound (h4 (p + 1) (by omega))
        have hdel := delW_length y p (by omega)
        have hdl : (delW y p).length = n := by omega
        have har := arG_bound (delW y p) p (by omega)
        have hs1b : 0 ≤ s1G y p ∧ s1G y p ≤ 1000 := by
          have e : y.length - 1 = n := by omega
          rw [s1G, e]
          exact ⟨Int.emod_nonneg _ (by omega), by have := Int.emod_lt_of_pos (sT (delW y p) n) (b := (n : Int)) (by omega); omega⟩
        have o1 : p < (delW y p).length := by omega
        have o2 : p + 1 < y.length := by omega
        have o3 : (p : Int) < (n : Int) := by omega
        have o4 : bs ≠ gx := by omega
        have o5 : W.heap.size ≤ W3.heap.size := by have := hr.lt; omega
        have es : y.length - 1 = n := by omega
        have hdl2 : (delW y (p + 1)).length = n := by have := delW_length y (p + 1) o2; omega
        have e1 : (s1G y p - arG (delW y p) p + arG (delW y (p + 1)) p) % (n : Int) = s1G y (p + 1) := by rw [s1G, s1G, es]; exact step_T y p n hnl o2
        have e2 : (s2G y p + (codeOf (atB y p).toNat - codeOf (atB y (p + 1)).toNat)) % 4 = s2G y (p + 1) := by rw [s2G, s2G, es]; exact step_S y p n hnl o2
        have e3 : (s3G y p + (codeOf (atB y p).toNat - codeOf (atB y (p + 1)).toNat) * ((p : Int) + 1)) % (6 * (n : Int) + 1) = s3G y (p + 1) := by rw [s3G, s3G, es]; exact step_W y p n hnl o2
        have bA := arG_bound (delW y (p + 1)) p (by omega)
        have hs2b : 0 ≤ s2G y p ∧ s2G y p ≤ 3 := by rw [s2G]; omega
        have hs3b : 0 ≤ s3G y p ∧ s3G y p ≤ 6000 := by
          rw [s3G, es]
          exact ⟨Int.emod_nonneg _ (by omega), by have := Int.emod_lt_of_pos (sW (delW y p) n) (b := 6 * (n : Int) + 1) (by omega); omega⟩
        have bm := mul_boundE (codeOf (atB y p).toNat - codeOf (atB y (p + 1)).toNat) ((p : Int) + 1) (by omega) (by omega) (by omega) (by omega)
        have HW := Lib.hid (And.intro (noW (s1G y p - arG (delW y p) p + arG (delW y (p + 1)) p) (by omega) (by omega)) (And.intro (noW (s2G y p + (codeOf (atB y p).toNat - codeOf (atB y (p + 1)).toNat)) (by omega) (by omega)) (And.intro (noW ((codeOf (atB y p).toNat - codeOf (atB y (p + 1)).toNat) * ((p : Int) + 1)) (by omega) (by omega)) (And.intro (noW (s3G y p + (codeOf (atB y p).toNat - codeOf (atB y (p + 1)).toNat) * ((p : Int) + 1)) (by omega) (by omega)) (And.intro (noW (6 * (n : Int)) (by omega) (by omega)) (noW (6 * (n : Int) + 1) (by omega) (by omega)))))))
        have HR : Hid ((∀ w, Calls Tryd.prog 32 #[.int .i64 (s1G y p - arG (delW y p) p + arG (delW y (p + 1)) p), .int .i64 n] w fun e w' => e = .returned (.int .i64 (s1G y (p + 1))) ∧ w = w') ∧
            (∀ w, Calls Tryd.prog 32 #[.int .i64 (s2G y p + (codeOf (atB y p).toNat - codeOf (atB y (p + 1)).toNat)), .int .i64 4] w fun e w' => e = .returned (.int .i64 (s2G y (p + 1))) ∧ w = w') ∧
            ∀ w, Calls Tryd.prog 32 #[.int .i64 (s3G y p + (codeOf (atB y p).toNat - codeOf (atB y (p + 1)).toNat) * ((p : Int) + 1)), .int .i64 (6 * (n : Int) + 1)] w fun e w' => e = .returned (.int .i64 (s3G y (p + 1))) ∧ w = w') := by
          refine Lib.hid ⟨fun w => ?_, fun w => ?_, fun w => ?_⟩
          · have := rest_any (s1G y p - arG (delW y p) p + arG (delW y (p + 1)) p) n (by omega) (by omega) w
            rwa [e1] at this
          · have := rest_any (s2G y p + (codeOf (atB y p).toNat - codeOf (atB y (p + 1)).toNat)) 4 (by omega) (by omega) w
            rwa [e2] at this
          · have := rest_any (s3G y p + (codeOf (atB y p).toNat - codeOf (atB y (p + 1)).toNat) * ((p : Int) + 1)) (6 * (n : Int) + 1) (by omega) (by omega) w
            rwa [e3] at this
        have o8 : p < (delW y (p + 1)).length := by omega
        have o9 : (delW y (p + 1)).length ≤ cx := by omega
        have o10 : (delW y (p + 1)).length ≤ 1000 := by omega
        clear e1 e2 e3 bA hs2b hs3b bm
        have hdiff := wrap64_mid (codeOf (atB y p).toNat - codeOf (atB y (p + 1)).toNat) (by omega) (by omega)
        have hdiff2 := wrap64_mid (s1G y p - arG (delW y p) p) (by omega) (by omega)
        have hdiff3 := wrap_mid (s1G y p - arG (delW y p) p) (by omega) (by omega)
        have o6 : (delW y p).length ≤ cx := by omega
        have o7 : (delW y p).length ≤ 1000 := by omega
        have hARd : ∀ k, Calls Tryd.prog 31 #[.slice (some ⟨gx, 0, none⟩) n cx, .int .i64 p] (W3.drewN k) fun e w' => e = .returned (.int .i64 (arG (delW y p) p)) ∧ ∃ j, w' = (W3.drewN k).drewN j := fun k => by
          have hsl := (hrow.same (W' := W3.drewN k) rfl).sl (cx := cx) o6
          have := around_any _ (delW y p) p o1 o7 (W3.drewN k) hsl
          rwa [hdl] at this
        have hw1 := wrap64_succ p hp9
        have hw2 := wrap_succ p hp9
        have Hne := Lib.hid hend
        clear hR hyy q0 q1 q2 hY hpd hK3 hF3 hJ3 hend hcells hycells
        gi_wp2_with fail
        refine wpIn_wide.2 ?_
        go_quiet (fail)
        gi_wp2_with fail
        have Hb := Lib.hid (And.intro cb1 (And.intro cb2 (And.intro har hs1b)))
        clear cb1 cb2 har hs1b
        refine wpIn_region_detS (Sd W3) 6 [(45, .pointer (some ⟨bs, 0, none⟩)), (46, .int .i64 (s1G y p)), (47, .slice (some ⟨gx, 0, none⟩) n cx), (48, .int .i64 p), (49, .int .i64 (arG (delW y p) p)), (50, .int .i64 (s1G y p - arG (delW y p) p))]
          (by kernel_rfl) (by decide) (by kernel_rfl) (by kernel_rfl) (by kernel_rfl) (by kernel_rfl) (by kernel_rfl) ⟨nq + 1, rfl⟩ ?ok8 ?tail8
        case ok8 =>
          intro A' hA'
          simp only [putAll, Act.put, List.setIfInBounds_toArray, List.set_cons_zero, List.set_cons_succ] at hA'
          subst hA'
          have q0 := hr.cell 0
          refine ⟨?_, ?_, ?_, ?_, ?_, ?_, trivial⟩
          all_goals
            rintro w' ⟨k, rfl⟩
            have q0 : (W3.drewN k).cell? ⟨bs, 0, none⟩ = some (.int .i64 (s1G y p)) := q0
            go_simp
          all_goals first
            | exact ⟨k, rfl⟩
            | (refine ⟨trivial, (callsIn_wide.2 (hARd k)).mono ?_⟩
               rintro e w' ⟨rfl, j, rfl⟩
               exact ⟨rfl, sd_two _ _ _⟩)
        case tail8 =>
          intro A' hA' w' hw'
          simp only [putAll, Act.put, List.setIfInBounds_toArray, List.set_cons_zero, List.set_cons_succ] at hA'
          subst hA'
          simp only [List.drop_succ_cons, List.drop_zero]
          obtain ⟨k, rfl⟩ := hw'
          have y1 : (W3.drewN k).cell? ⟨b1, 0, none⟩ = some (.slice (some ⟨by_, oy, none⟩) y.length cap) := ky1
          have y2 : (W3.drewN k).cell? ⟨by_, oy + p, none⟩ = some (eB (atB y p)) := kyp
          have hrowd : RowL (W3.drewN k) gx (delW y p) := hrow.same rfl
          have x1 := hrowd.cell (p := p) o1
          have xf := hrowd.frozen p
          have hset := hrowd.set p (atB y p)
          rw [← del_set y p o2] at hset
          have Hset := Lib.hid hset
          have hltg := hrowd.lt
          have hrd : Rowed (W3.drewN k) bs 24 (c3 (s1G y p) (s2G y p) (s3G y p)) := hr
          have hr5 := hrd.other gx p (eB (atB y p)) o4
          have hB5 : Below W.heap.size W3 ((W3.drewN k).setCell ⟨gx, p, none⟩ (eB (atB y p))) := (show Below W.heap.size W3 (W3.drewN k) from ⟨rfl, rfl, rfl, Nat.le_refl _, fun _ _ => rfl⟩).setCell (p := ⟨gx, p, none⟩) hgx _
          have hJ5 := hJw _ _ _ hJ o5 hB5
          have hRC5 := rc_below hRC hW.size hB5
          clear hset hrowd hrow hrd hr hJ hRC ky1 kyp kp kq kc2 hARd
          gi_wp2_with fail
          generalize (W3.drewN k).setCell ⟨gx, p, none⟩ (eB (atB y p)) = w5 at *
          clear y1 y2 x1 xf
          have hARd : ∀ k, Calls Tryd.prog 31 #[.slice (some ⟨gx, 0, none⟩) n cx, .int .i64 p] (w5.drewN k) fun e w' => e = .returned (.int .i64 (arG (delW y (p + 1)) p)) ∧ ∃ j, w' = (w5.drewN k).drewN j := fun k => by
            have hsl := (Hset.out.same (W' := w5.drewN k) rfl).sl (cx := cx) o9
            have := around_any _ (delW y (p + 1)) p o8 o10 (w5.drewN k) hsl
            rwa [hdl2] at this
          obtain ⟨⟨wa1, wb1⟩, ⟨wa2, wb2⟩, ⟨wa3, wb3⟩, ⟨wa4, wb4⟩, ⟨wa5, wb5⟩, wa6, wb6⟩ := HW.out
          obtain ⟨hr1, hr2, hr3'⟩ := HR.out
          generalize codeOf (atB y p).toNat - codeOf (atB y (p + 1)).toNat = d at *
          generalize s1G y p - arG (delW y p) p = g1 at *
          generalize arG (delW y (p + 1)) p = A1 at *
          clear HW HR
          refine wpIn_region_detS (Sd w5) 24 [(58, .int .i64 g1), (59, .slice (some ⟨gx, 0, none⟩) n cx), (60, .int .i64 p), (61, .int .i64 A1), (62, .int .i64 (g1 + A1)), (63, .int .i64 n), (64, .int .i64 (s1G y (p + 1))), (65, .pointer (some ⟨bs, 1, none⟩)), (66, .int .i64 (s2G y p)), (67, .int .i64 d), (68, .int .i64 (s2G y p + d)), (69, .int .i64 (s2G y (p + 1))), (70, .pointer (some ⟨bs, 2, none⟩)), (71, .int .i64 (s3G y p)), (72, .int .i64 d), (73, .int .i64 p), (74, .int .i64 ((p : Int) + 1)), (75, .int .i64 (d * ((p : Int) + 1))), (76, .int .i64 (s3G y p + d * ((p : Int) + 1))), (77, .int .i64 n), (78, .int .i64 (6 * (n : Int))), (79, .int .i64 (6 * (n : Int) + 1)), (80, .int .i64 (s3G y (p + 1))), (81, v3 (s1G y (p + 1)) (s2G y (p + 1)) (s3G y (p + 1)))]
            (by kernel_rfl) (by decide) (by kernel_rfl) (by kernel_rfl) (by kernel_rfl) (by kernel_rfl) (by kernel_rfl) ⟨1, rfl⟩ ?okT ?tailT
          case okT =>
            intro A' hA'
            simp only [putAll, Act.put, List.setIfInBounds_toArray, List.set_cons_zero, List.set_cons_succ] at hA'
            subst hA'
            have q1 := hr5.cell 1
            have q2 := hr5.cell 2
            refine ⟨?_, ?_, ?_, ?_, ?_, ?_, ?_, ?_, ?_, ?_, ?_, ?_, ?_, ?_, ?_, ?_, ?_, ?_, ?_, ?_, ?_, ?_, ?_, ?_, trivial⟩
            all_goals
              rintro w' ⟨k, rfl⟩
              have q1 : (w5.drewN k).cell? ⟨bs, 1, none⟩ = some (.int .i64 (s2G y p)) := q1
              have q2 : (w5.drewN k).cell? ⟨bs, 2, none⟩ = some (.int .i64 (s3G y p)) := q2
              go_simp
            all_goals first
              | exact sd_k _ _
              | refine ⟨trivial, ?_⟩
            · with_reducible refine (callsIn_wide.2 (hARd k)).mono ?_
              rintro e w' ⟨rfl, j, rfl⟩
              exact ⟨rfl, sd_two _ _ _⟩
            · with_reducible refine (callsIn_wide.2 (hr1 _)).mono ?_
              rintro e w' ⟨rfl, rfl⟩
              exact ⟨rfl, k, rfl⟩
            · with_reducible refine (callsIn_wide.2 (hr2 _)).mono ?_
              rintro e w' ⟨rfl, rfl⟩
              exact ⟨rfl, k, rfl⟩
            · with_reducible refine (callsIn_wide.2 (hr3' _)).mono ?_
              rintro e w' ⟨rfl, rfl⟩
              exact ⟨rfl, k, rfl⟩
          case tailT =>
            intro A' hA' w' hw'
            simp only [putAll, Act.put, List.setIfInBounds_toArray, List.set_cons_zero, List.set_cons_succ] at hA'
            subst hA'
            simp only [List.drop_succ_cons, List.drop_zero]
            obtain ⟨k', rfl⟩ := hw'
            have hrd5 : Rowed (w5.drewN k') bs 24 (c3 (s1G y p) (s2G y p) (s3G y p)) := hr5
            have hsr : (Tryd.prog.info? 24).map (·.size) = some (#[Value.int .i64 (s1G y (p + 1)), Value.int .i64 (s2G y (p + 1)), Value.int .i64 (s3G y (p + 1))] : Array Value).size := by rw [(zero_of_info infoS).2]; rfl
            refine wpListIn_store_row rfl 24 (.tmp 6) (.tmp 81) rfl bs #[.int .i64 (s1G y (p + 1)), .int .i64 (s2G y (p + 1)), .int .i64 (s3G y (p + 1))] rfl rfl _ _ hrd5 hsr rfl (by simp [Value.oneCell']) ?_
            have hr6 := setRow_heap (w5.drewN k') bs _ #[.int .i64 (s1G y (p + 1)), .int .i64 (s2G y (p + 1)), .int .i64 (s3G y (p + 1))] _ _ hrd5
            have hrow6 := Hset.out.same (setRow_other (w5.drewN k') bs gx #[.int .i64 (s1G y (p + 1)), .int .i64 (s2G y (p + 1)), .int .i64 (s3G y (p + 1))] (fun e => o4 e.symm))
            have hB6 : Below W.heap.size w5 ((w5.drewN k').setRow bs #[.int .i64 (s1G y (p + 1)), .int .i64 (s2G y (p + 1)), .int .i64 (s3G y (p + 1))]) := below_setRow (show Below W.heap.size w5 (w5.drewN k') from ⟨rfl, rfl, rfl, Nat.le_refl _, fun _ _ => rfl⟩) bs _ hWb
            have hJ6 := hJw _ _ _ hJ5 (Nat.le_of_lt (Nat.lt_of_le_of_lt hWb hr5.lt)) hB6
            have hRC6 := rc_below hRC5 hW.size hB6
            clear hr1 hr2 hr3' hARd hrd5 hr5 hJ5 hRC5 hB5 wa2 wb2 wa3 wb3 wa4 wb4 wa5 wb5 wa6 wb6 wa1 wb1 hB6
            generalize (w5.drewN k').setRow bs #[.int .i64 (s1G y (p + 1)), .int .i64 (s2G y (p + 1)), .int .i64 (s3G y (p + 1))] = w6 at *
            gi_wp2_with fail
            clear hw1 hw2 hdiff hdiff2 hdiff3
            refine ⟨⟨p + 1, o2, by go_num, hJ6, hrow6, hr6, hRC6⟩, ?_⟩
            have := Hp.out
            simp [intOf]
            omega
    · clear hR hyy q0 q1 q2 hY hpd
      gi_wp2_with fail
      refine bodyPost_ret (results_none rfl _ _ _) rfl ?_
      exact .inl ⟨_, rfl, hS3⟩
end Go.Proofs.YtpjpfgahjalggaaDoor
