import Derived.RangeFuncNested
import Derived.RangeFuncBound
import Derived.RangeFuncCalls
import Derived.RangeFuncLeaves
import Derived.Shelf.Abstract
import Derived.Shelf.RegionOpen
import Derived.WalkKit
import Derived.WalkSpells
import Derived.WalkLawsBesides
import Derived.OwnWalkIn
import Derived.TacticsInMore
import Derived.LoopNIn
import Derived.LoopIn
import Derived.Lib.Hide
import Derived.IntWalk
import Derived.BigQuiet
import Derived.Deep.QuietTactic
import Derived.WalkMore
import Derived.Maps.AppendAt
import Derived.OwnWalk
import Derived.Laws.IdiomStrings
import Derived.Laws.BytesArg
import Derived.Laws.Externs
import Derived.Lib.Bytealg
import Derived.Lib.SlBytesConst
namespace Go.Proofs.YtcngnjkpnmpcpaaDoor
open Go.RowKit
def Sl {α : Type} (enc : α → Value) (B : Nat) (W : World) (sv : Value) (xs : List α) : Prop :=
 ∃ A cap, sv = .slice A xs.length cap ∧ xs.length ≤ cap ∧
   (0 < xs.length → ∃ b off, A = some ⟨b, off, none⟩ ∧ b < B ∧ ∀ j x, xs[j]? = some x → W.cell? ⟨b, off + j, none⟩ = some (enc x))
abbrev eB (b : UInt8) : Value := .int .u8 (b.toNat : Int)
abbrev eI (n : Int) : Value := .int .i64 n
section
variable {α : Type} {enc : α → Value} {B B' : Nat} {W W' : World} {sv : Value} {xs : List α}
theorem Sl.below (h : Sl enc B W sv xs) (hb : Below B W W') : Sl enc B W' sv xs := by
 obtain ⟨A, cap, e, hc, h⟩ := h
 refine ⟨A, cap, e, hc, fun hn => ?_⟩
 obtain ⟨b, off, e, hlt, hcell⟩ := h hn
 exact ⟨b, off, e, hlt, fun j x hx => (hb.cell (p := ⟨b, off + j, none⟩) hlt).trans (hcell j x hx)⟩
theorem Sl.more (h : Sl enc B W sv xs) (hB : B ≤ B') : Sl enc B' W sv xs := by
 obtain ⟨A, cap, e, hc, h⟩ := h
 refine ⟨A, cap, e, hc, fun hn => ?_⟩
 obtain ⟨b, off, e, hlt, hcell⟩ := h hn
 exact ⟨b, off, e, by omega, hcell⟩
theorem Sl.next (h : Sl enc W.heap.size W sv xs) (hb : Below W.heap.size W W') : Sl enc W'.heap.size W' sv xs := (h.below hb).more hb.size
theorem Sl.of_own {base : Nat} {e : TypeId} {v : Value} {n : Nat} (h : W.ownsRow base e 1 v n (xs.map enc)) : Sl enc W.heap.size W v xs := by
 have hl : xs.length = n := by have := h.1; simpa using this
 subst hl
 rcases h.2 with ⟨rfl, h0⟩ | ⟨g, cap, cur, rfl, hb, hg, hn, hcm, hsz, htk⟩
 · exact ⟨none, 0, by rw [h0], by omega, fun hn => absurd hn (by omega)⟩
 · refine ⟨_, cap, rfl, hn, fun _ => ⟨g, 0, rfl, (Array.getElem?_eq_some_iff.1 hg).1, fun j x hx => ?_⟩⟩
   have := World.ownsRow.cells h (g := g) rfl j (enc x) (by simp [hx])
   rw [show (⟨g, 0, none⟩ : Addr).add j = ⟨g, 0 + j, none⟩ from by unfold Addr.add; split <;> simp_all] at this
   exact this
theorem Sl.len (h : Sl enc B W sv xs) : ∃ A cap, sv = .slice A xs.length cap := ⟨_, _, h.choose_spec.choose_spec.1⟩
end
theorem below_trans {w w1 w2 : World} (h : Below w.heap.size w w1) (h' : Below w1.heap.size w1 w2) : Below w.heap.size w w2 := h.trans (h'.mono h.size)
theorem bits_and3 (n : Int) : bits .and .i64 n 3 = n % 4 := by
 have h : (BitVec.ofInt IntKind.i64.bits n &&& BitVec.ofInt IntKind.i64.bits 3).toNat = (n % 4).toNat := by
  have e : (BitVec.ofInt IntKind.i64.bits 3).toNat = 2 ^ 2 - 1 := by decide
  rw [BitVec.toNat_and, e, Nat.and_two_pow_sub_one_eq_mod, BitVec.toNat_ofInt]
  show (n % (2 ^ 64 : Nat)).toNat % 4 = _
  omega
 unfold bits
 simp only [h]
 rw [IntWalk.i64_in _ (by omega)]
 omega
section
variable {F : Fence} {n : Nat} {P : Program} {b : Frame} {a : Act} {k : List Item} {cs : List Frame} {w : World} {Q : Exit → Act → World → Prop}
end
section
variable {α : Type} {enc : α → Value} {P : Program}
theorem run_append_sl (w : World) (base : Nat) (t ty e : TypeId) (i : TypeInfo) (z : Value) (bytes : Nat) (ht : P.underlying t = some (.slice e)) (hi : P.info? e = some i) (hz : i.zero = some z)
    (hsize : i.size = 1) (hby : i.bytes = bytes) (hzs : z.cells.size = 1) (v : Value) (n : Nat) (ys : List Value) (hown : w.ownsRow base e 1 v n ys)
    (B : Nat) (sv : Value) (xs : List α) (hs : Sl enc B w sv xs) (h1 : ∀ x, (enc x).oneCell' = true)
    (h63 : n + xs.length ≤ maxLen) (hbytes : (n + xs.length) * bytes ≤ 140737488355328) (hbase : base ≤ w.heap.size) :
    ∃ v' w', (Builtin.append_ #[t, t] ty #[v, sv]).run P w = .ok v' w' ∧ w'.ownsRow base e 1 v' (n + xs.length) (ys ++ xs.map enc) ∧ w.grownBy w' v.ownBlock ∧
      (v'.ownBlock = v.ownBlock ∨ v'.ownBlock = some w.heap.size) := by
 obtain ⟨A, c, rfl, hc, hcells⟩ := hs
 cases A with
 | none =>
   have hx : xs = [] := by
    cases xs with
    | nil => rfl
    | cons x xs => obtain ⟨_, _, h, _⟩ := hcells (by simp); cases h
   subst hx
   refine ⟨v, w, ?_, by simpa using hown, ⟨rfl, rfl, rfl, Nat.le_refl _, fun _ _ _ => rfl⟩, .inl rfl⟩
   rcases hown.2 with ⟨rfl, rfl⟩ | ⟨g, cap, cur, rfl, _, _, hnc, _⟩
   · simp [Builtin.append_, run_underlying ht, sizeOf, typeInfo, hi, Builtin.lenOf, Builtin.firstCells]
   · simp [Builtin.append_, run_underlying ht, sizeOf, typeInfo, hi, Builtin.lenOf, Builtin.firstCells, hnc, storeCells]
 | some ad =>
   have hnews : ∀ j u, (xs.map enc)[j]? = some u → w.cell? (ad.add j) = some u := by
    intro j u hu
    have hj : j < xs.length := by
     have := (List.getElem?_eq_some_iff.1 hu).1
     simpa using this
    obtain ⟨b, off, e', _, hcell⟩ := hcells (by omega)
    cases e'
    have h2 := hcell j xs[j] (by simp [hj])
    rw [show (⟨b, off, none⟩ : Addr).add j = ⟨b, off + j, none⟩ from by unfold Addr.add; split <;> simp_all, h2]
    simp [hj] at hu
    rw [hu]
   obtain ⟨v', w', h, h2, h3, _, h5⟩ := run_append_own_at (P := P) w base t ty e i z 1 bytes ht hi hz hsize hby hzs (by omega) v n ys hown ad xs.length c (xs.map enc) (by simp) hnews
     (fun u hu => by obtain ⟨x, _, rfl⟩ := List.mem_map.1 hu; exact h1 x) h63 hbytes hbase
   exact ⟨v', w', h, h2, h3, h5⟩
theorem wpList_append_sl (w : World) {ops : Array Oper} {rest : List Oper} {o : Oper} {a : Act} {Q : Exit → Act → World → Prop} (hgd : o.guard = none) (s x : Operand) (t : TypeId)
    (ho : o.op = .call { callee := .builtin .append, args := #[s, x], argTypes := #[t, t] })
    (base : Nat) (e : TypeId) (i : TypeInfo) (z : Value) (bytes : Nat) (ht : P.underlying t = some (.slice e)) (hi : P.info? e = some i) (hz : i.zero = some z)
    (hsize : i.size = 1) (hby : i.bytes = bytes) (hzs : z.cells.size = 1) (v : Value) (n : Nat) (ys : List Value) (hown : w.ownsRow base e 1 v n ys) (hv : a.eval s = v)
    (B : Nat) (sv : Value) (xs : List α) (hs : Sl enc B w sv xs) (hx : a.eval x = sv) (h1 : ∀ x, (enc x).oneCell' = true)
    (h63 : n + xs.length ≤ maxLen) (hbytes : (n + xs.length) * bytes ≤ 140737488355328) (hbase : base ≤ w.heap.size)
    (h : ∀ v' w', w'.ownsRow base e 1 v' (n + xs.length) (ys ++ xs.map enc) → w.grownBy w' v.ownBlock → (v'.ownBlock = v.ownBlock ∨ v'.ownBlock = some w.heap.size) → wpList P ops Q rest (a.put o.dst v') w') :
    wpList P ops Q (o :: rest) a w := by
 refine wpList_plain hgd fun K hK' => ?_
 obtain ⟨v', w', hrun, r1, r2, r3⟩ := run_append_sl (P := P) w base t o.type e i z bytes ht hi hz hsize hby hzs v n ys hown B sv xs hs h1 h63 hbytes hbase
 unfold Oper.wp execOp
 simp only [ho, resolve, invoke, builtin, Sem.run_bind, Sem.run_pure, Result.andThen_ok, List.map_toArray, List.map_cons, List.map_nil, hv, hx, hrun]
 exact hK' _ _ (h v' w' r1 r2 r3)
theorem own_base {W : World} {base : Nat} {e : TypeId} {v : Value} {n : Nat} {xs : List Value} (h : W.ownsRow base e 1 v n xs) : ∀ k, v.ownBlock = some k → base ≤ k := fun k hk => (h.lt k hk).1
theorem below_grown {B : Nat} {W W1 : World} {v : Value} {base : Nat} {e : TypeId} {n : Nat} {xs : List Value} (hown : W.ownsRow base e 1 v n xs) (hg : W.grownBy W1 v.ownBlock) (hB : B ≤ W.heap.size) (hb : B ≤ base) : Below B W W1 :=
 (Below.refl B W).grown hg hB fun k hk => Nat.le_trans hb (own_base hown k hk)
end
theorem run_str {P : Program} {B : Nat} {w : World} {sv : Value} {bs : List UInt8} (h : Sl eB B w sv bs) (src dst e : TypeId) (hs : P.underlying src = some (.slice e)) (he : P.underlying e = some (.int .u8)) (hd : P.underlying dst = some .string) :
    (convert src dst sv).run P w = .ok (.string ⟨bs.toArray⟩) w := by
  obtain ⟨A, c, rfl, hc, hcells⟩ := h
  cases A with
  | none =>
    have hx : bs = [] := by
     cases bs with
     | nil => rfl
     | cons x xs => obtain ⟨_, _, h, _⟩ := hcells (by simp); cases h
    subst hx
    exact run_convert_bytes_nil (P := P) w src e hs he 0 c dst hd
  | some ad =>
    refine run_convert_bytes_back w src dst e ad c bs hs he hd fun j hj => ?_
    obtain ⟨b, off, e', _, hcell⟩ := hcells (by omega)
    cases e'
    have h2 := hcell j bs[j] (by simp [hj])
    rw [show (⟨b, off, none⟩ : Addr).add j = ⟨b, off + j, none⟩ from by unfold Addr.add; split <;> simp_all, h2]
section
variable {F : Fence} {n : Nat} {P : Program} {Q : Exit → Act → World → Prop}
def pick (l : List Oper) : List Nat → List Oper
  | [] => []
  | i :: p => (l[i]?).toList ++ pick l p
end
theorem Sl.new {α : Type} (enc : α → Value) (w : World) (xs : List α) (cs : Array Value) (t : TypeId) (fz : Nat × Nat) (n c : Nat) (hn : n = xs.length) (hc : n ≤ c) (he : cs = (xs.map enc).toArray) :
    Sl enc (w.alloc (.cells cs t fz)).heap.size (w.alloc (.cells cs t fz)) (.slice (some ⟨w.heap.size, 0, none⟩) n c) xs := by
  subst hn
  refine ⟨_, c, rfl, hc, fun _ => ⟨w.heap.size, 0, rfl, by simp, fun j x hx => ?_⟩⟩
  have h := World.alloc_heap_new w (.cells cs t fz)
  simp only [World.cell?, h]
  subst he
  simp [hx]
theorem below_drewN {B : Nat} (w : World) (n : Nat) : Below B w (w.drewN n) := ⟨rfl, rfl, rfl, Nat.le_refl _, fun _ _ => rfl⟩
theorem Sl.upto {α : Type} {enc : α → Value} {B : Nat} {W : World} {A : Option Addr} {len cap : Nat} {xs : List α} (h : Sl enc B W (.slice A len cap) xs) {p : Nat} (hp : p ≤ xs.length) : Sl enc B W (.slice A p cap) (xs.take p) := by
 obtain ⟨A', c', e, hc, hcells⟩ := h
 cases e
 have hl : (xs.take p).length = p := by simp [hp]
 refine ⟨A, cap, by rw [hl], by omega, fun hn => ?_⟩
 obtain ⟨b, off, e, hb, hcell⟩ := hcells (by omega)
 refine ⟨b, off, e, hb, fun j x hx => hcell j x ?_⟩
 rw [List.getElem?_take] at hx
 split at hx
 · exact hx
 · cases hx
theorem Sl.from_ {α : Type} {enc : α → Value} {B : Nat} {W : World} {A : Option Addr} {len cap : Nat} {xs : List α} (h : Sl enc B W (.slice A len cap) xs) {p : Nat} (hp : p ≤ xs.length) (A2 : Option Addr) (hA : cap ≠ p → A2 = A.map (·.add p)) : Sl enc B W (.slice A2 (len - p) (cap - p)) (xs.drop p) := by
 obtain ⟨A', c', e, hc, hcells⟩ := h
 cases e
 refine ⟨A2, cap - p, by rw [List.length_drop], by rw [List.length_drop]; omega, fun hn => ?_⟩
 rw [List.length_drop] at hn
 obtain ⟨b, off, rfl, hb, hcell⟩ := hcells (by omega)
 refine ⟨b, off + p, ?_, hb, fun j x hx => ?_⟩
 · rw [hA (by omega)]
   simp only [Option.map_some, Addr.add]
   split <;> simp_all
 · have := hcell (p + j) x (by simpa using hx)
   rwa [Nat.add_assoc]
end Go.Proofs.YtcngnjkpnmpcpaaDoor
