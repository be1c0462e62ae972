/- The law's own put, and the mathematics of three sums. -/
import Derived.Test.YtnnhijfgbdhmiaaCrX
import Derived.Deep.RegionLaw
namespace Go.Proofs.Ytnnhijfgbdhmiaa
open Go.RowKit Go.Shelf
attribute [local go_sem] Oper.semAt_some run_store_func

theorem Sl.cell_ {α : Type} {enc : α → Value} {B : Nat} {W : World} {A : Option Addr} {len cap : Nat} {xs : List α} (h : Sl enc B W (.slice A len cap) xs) {j : Nat} {x : α} (hx : xs[j]? = some x) :
    ∃ b off, A = some ⟨b, off, none⟩ ∧ b < B ∧ W.cell? ⟨b, off + j, none⟩ = some (enc x) := by
  obtain ⟨A', c', e, _, hcells⟩ := h
  cases e
  have hj := (List.getElem?_eq_some_iff.1 hx).1
  obtain ⟨b, off, e, hb, hcell⟩ := hcells (by omega)
  exact ⟨b, off, e, hb, hcell j x hx⟩
theorem step_append_sl {α : Type} {enc : α → Value} {P : Program} (w : World) {ops : Array Oper} {o : Oper} {a : Act} {K : Act → World → Prop} {Q : Exit → Act → World → Prop} {E : Prop} (hgd : o.guard = none) (s x : Operand) (t : TypeId)
    (ho : o.op = .call { callee := .builtin .append, args := #[s, x], argTypes := #[t, t] })
    (base : Nat) (e : TypeId) (i : TypeInfo) (z : Value) (bytes : Nat) (ht : P.underlying t = some (.slice e)) (hi : P.info? e = some i) (hz : i.zero = some z)
    (hsize : i.size = 1) (hby : i.bytes = bytes) (hzs : z.cells.size = 1) (v : Value) (n : Nat) (ys : List Value) (hown : w.ownsRow base e 1 v n ys) (hv : a.eval s = v)
    (B : Nat) (sv : Value) (xs : List α) (hs : Sl enc B w sv xs) (hx : a.eval x = sv) (h1 : ∀ x, (enc x).oneCell' = true)
    (h63 : n + xs.length ≤ maxLen) (hbytes : (n + xs.length) * bytes ≤ 140737488355328) (hbase : base ≤ w.heap.size)
    (h : ∀ v' w', w'.ownsRow base e 1 v' (n + xs.length) (ys ++ xs.map enc) → w.grownBy w' v.ownBlock → (v'.ownBlock = v.ownBlock ∨ v'.ownBlock = some w.heap.size) → K (a.put o.dst v') w') :
    if Region.wanted o (yielded ops a.tmps) = true then Oper.wp P o a w K Q else E := by
  have hw : Region.wanted o (yielded ops a.tmps) = true := by simp [Region.wanted, hgd]
  rw [if_pos hw]
  obtain ⟨v', w', hrun, r1, r2, r3⟩ := run_append_sl (P := P) w base t o.type e i z bytes ht hi hz hsize hby hzs v n ys hown B sv xs hs h1 h63 hbytes hbase
  unfold Oper.wp execOp
  simp only [ho, resolve, invoke, builtin, Sem.run_bind, Sem.run_pure, Result.andThen_ok, List.map_toArray, List.map_cons, List.map_nil, hv, hx, hrun]
  exact h v' w' r1 r2 r3

theorem info_u8 : (Try.prog.info? 5).map (fun i => (i.zero, i.size, i.bytes)) = some (some (.int .u8 0), 1, 1) := by kernel_rfl
/-- Two rows, put together byte by byte. -/
def putOf (a b : List UInt8) : List UInt8 := a.zipWith (· ^^^ ·) b
theorem putOf_length (a b : List UInt8) : (putOf a b).length = min a.length b.length := by simp [putOf]
theorem putOf_snoc (a b : List UInt8) (k : Nat) (ha : k < a.length) (hb : k < b.length) : (putOf a b).take (k + 1) = (putOf a b).take k ++ [a[k] ^^^ b[k]] := by
  rw [List.take_succ_eq_append_getElem (by rw [putOf_length]; omega)]
  congr 2
  simp [putOf]
theorem b8_xor (x y : UInt8) : Value.int .u8 (bits .xor .u8 (x.toNat : Int) (y.toNat : Int)) = eB (x ^^^ y) := by
  have h : (BitVec.ofInt IntKind.u8.bits (x.toNat : Int) ^^^ BitVec.ofInt IntKind.u8.bits (y.toNat : Int)).toNat = (x ^^^ y).toNat := by
    rw [BitVec.toNat_xor, BitVec.toNat_ofInt, BitVec.toNat_ofInt, UInt8.toNat_xor]
    have e : ∀ z : UInt8, ((z.toNat : Int) % ((2 ^ IntKind.u8.bits : Nat) : Int)).toNat = z.toNat := by
      intro z
      have := z.toNat_lt
      show ((z.toNat : Int) % ((256 : Nat) : Int)).toNat = _
      omega
    rw [e x, e y]
  have := (x ^^^ y).toNat_lt
  unfold bits
  simp only [h]
  rw [IntWalk.u8_in _ (by omega)]

set_option maxRecDepth 100000 in
set_option maxHeartbeats 2000000 in
theorem put_any (sa sb : Value) (a b : List UInt8) (hra : a.length ≤ 17592186044416) (w : World) (ha : Sl eB w.heap.size w sa a) (hb : Sl eB w.heap.size w sb b) :
    Calls Try.prog 7 #[sa, sb] w fun e w' => ∃ v, e = .returned v ∧ Sl eB w'.heap.size w' v (putOf a b) ∧ Below w.heap.size w w' := by
  obtain ⟨i0, hi, hz0, hz1, hz2⟩ := info_parts info_u8
  obtain ⟨Aa, ca, rfl⟩ := ha.len
  obtain ⟨Ab, cb, rfl⟩ := hb.len
  have hpl := Lib.hid (putOf_length a b)
  go_enter Try.func7, Try.ntmps7
  go_wp2
  go_loopw [5, 6] (fun v i wr => ∃ k : Nat, k ≤ a.length ∧ k ≤ b.length ∧ i = .int .i64 k ∧ wr.ownsRow w.heap.size 5 1 v k (((putOf a b).take k).map eB) ∧ Below w.heap.size w wr) (fun _ i _ => a.length - (intOf i).toNat)
  case atStart => exact ⟨0, Nat.zero_le _, Nat.zero_le _, rfl, World.ownsRow_nil _ _ _ _, Below.refl _ _⟩
  case round =>
    obtain ⟨k, hka, hkb, rfl, hrow, hB⟩ := hrel
    by_cases hlt : k < a.length ∧ k < b.length
    · obtain ⟨hla, hlb⟩ := hlt
      have d1 : decide ((k : Int) < a.length) = true := decide_eq_true (by omega)
      have d2 : decide ((k : Int) < b.length) = true := decide_eq_true (by omega)
      obtain ⟨b1, o1, rfl, hb1, hc1⟩ := ha.cell_ (List.getElem?_eq_getElem hla)
      obtain ⟨b2, o2, rfl, hb2, hc2⟩ := hb.cell_ (List.getElem?_eq_getElem hlb)
      have hx1 : wr.cell? ⟨b1, o1 + k, none⟩ = some (eB a[k]) := (hB.cell (p := ⟨b1, o1 + k, none⟩) hb1).trans hc1
      have hx2 : wr.cell? ⟨b2, o2 + k, none⟩ = some (eB b[k]) := (hB.cell (p := ⟨b2, o2 + k, none⟩) hb2).trans hc2
      have H := Lib.hid (putOf_snoc a b k hla hlb)
      have hxor := b8_xor a[k] b[k]
      clear hc1 hc2
      generalize a[k] = x at *
      generalize b[k] = y at *
      have hm : k + 1 ≤ maxLen := by unfold maxLen; omega
      have hrow' : (wr.alloc (.cells #[eB (x ^^^ y)] 5)).drew.ownsRow w.heap.size 5 1 u5 k (((putOf a b).take k).map eB) := hrow.alloc _
      have hB1 : Below w.heap.size w (wr.alloc (.cells #[eB (x ^^^ y)] 5)).drew := (hB.alloc hB.size _).drew
      have hone : Sl eB (wr.alloc (.cells #[eB (x ^^^ y)] 5)).drew.heap.size (wr.alloc (.cells #[eB (x ^^^ y)] 5)).drew (.slice (some ⟨wr.heap.size, 0, none⟩) 1 1) [x ^^^ y] :=
        Sl.new eB wr [x ^^^ y] #[eB (x ^^^ y)] 5 (0, 0) 1 1 rfl (Nat.le_refl _) (by simp)
      have q1 : k + [x ^^^ y].length ≤ maxLen := hm
      have q2 : (k + [x ^^^ y].length) * 1 ≤ 140737488355328 := by simp; omega
      go_wp2_with fail
      go_region_law (refine step_append_sl _ rfl (.tmp 19) (.tmp 29) _ rfl w.heap.size 5 i0 (.int .u8 0) 1 Try.underlying22 hi hz0 hz1 hz2 rfl _ k _ hrow' rfl _ _ [x ^^^ y] hone rfl (fun _ => rfl) q1 q2 hB1.size ?_
                     intro v' w1 hown' hgrow _)
      all_goals
        have hB' : Below w.heap.size w w1 := hB1.trans (below_grown hrow' hgrow hB1.size (Nat.le_refl _))
        go_wp2
        exact ⟨⟨k + 1, by omega, by omega, by go_num, by rw [H.out]; simpa using hown', hB'⟩, by simp [intOf]; omega⟩
    · have hkk : k = (putOf a b).length := by rw [hpl.out]; omega
      have hsl : Sl eB wr.heap.size wr u5 (putOf a b) := by
        rw [List.take_of_length_le (by omega)] at hrow
        exact Sl.of_own hrow
      by_cases h1 : k < a.length
      · have d1 : decide ((k : Int) < a.length) = true := decide_eq_true (by omega)
        have d2 : decide ((k : Int) < b.length) = false := decide_eq_false (by omega)
        clear hkk
        go_wp2
        go_ret
        exact ⟨_, rfl, hsl, hB⟩
      · have d1 : decide ((k : Int) < a.length) = false := decide_eq_false (by omega)
        clear hkk
        go_wp2
        go_ret
        exact ⟨_, rfl, hsl, hB⟩
end Go.Proofs.Ytnnhijfgbdhmiaa
