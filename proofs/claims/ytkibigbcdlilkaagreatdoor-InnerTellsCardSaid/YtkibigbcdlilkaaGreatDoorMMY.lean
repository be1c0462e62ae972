import Derived.RangeFuncNested
import Derived.RangeFuncBound
import Derived.RangeFuncCalls
import Derived.RangeFuncLeaves
import Derived.Shelf.Abstract
import Derived.Shelf.RegionOpen
import Derived.WalkKit
import Derived.WalkSpells
import Derived.WalkLawsBesides
import Derived.OwnWalkIn
import Derived.TacticsInMore
import Derived.LoopNIn
import Derived.LoopIn
import Derived.Lib.Hide
import Derived.IntWalk
import Derived.BigQuiet
import Derived.Deep.QuietTactic
import Derived.WalkMore
import Derived.Maps.AppendAt
import Derived.OwnWalk
import Derived.Laws.IdiomStrings
import Derived.Laws.BytesArg
import Derived.Laws.Externs
import Derived.Lib.Bytealg
import Derived.Lib.SlBytesConst
import Derived.Orders
import Derived.Laws.StructEq
import Derived.Laws.Rows
import Derived.Still
namespace Go.Proofs.YtkibigbcdlilkaaGreatDoor
open Go.RowKit
def Sl {α : Type} (enc : α → Value) (B : Nat) (W : World) (sv : Value) (xs : List α) : Prop :=
 ∃ A cap, sv = .slice A xs.length cap ∧ xs.length ≤ cap ∧
   (0 < xs.length → ∃ b off, A = some ⟨b, off, none⟩ ∧ b < B ∧ ∀ j x, xs[j]? = some x → W.cell? ⟨b, off + j, none⟩ = some (enc x))
abbrev eB (b : UInt8) : Value := .int .u8 (b.toNat : Int)
abbrev eI (n : Int) : Value := .int .i64 n
section
variable {α : Type} {enc : α → Value} {B B' : Nat} {W W' : World} {sv : Value} {xs : List α}
theorem Sl.nil (enc : α → Value) (B : Nat) (W : World) : Sl enc B W (.slice none 0 0) [] := ⟨none, 0, rfl, Nat.le_refl _, fun h => absurd h (by simp)⟩
theorem Sl.below (h : Sl enc B W sv xs) (hb : Below B W W') : Sl enc B W' sv xs := by
 obtain ⟨A, cap, e, hc, h⟩ := h
 refine ⟨A, cap, e, hc, fun hn => ?_⟩
 obtain ⟨b, off, e, hlt, hcell⟩ := h hn
 exact ⟨b, off, e, hlt, fun j x hx => (hb.cell (p := ⟨b, off + j, none⟩) hlt).trans (hcell j x hx)⟩
theorem Sl.more (h : Sl enc B W sv xs) (hB : B ≤ B') : Sl enc B' W sv xs := by
 obtain ⟨A, cap, e, hc, h⟩ := h
 refine ⟨A, cap, e, hc, fun hn => ?_⟩
 obtain ⟨b, off, e, hlt, hcell⟩ := h hn
 exact ⟨b, off, e, by omega, hcell⟩
theorem Sl.next (h : Sl enc W.heap.size W sv xs) (hb : Below W.heap.size W W') : Sl enc W'.heap.size W' sv xs := (h.below hb).more hb.size
theorem Sl.of_cells (h : Sl enc B W sv xs) (hc : ∀ p : Addr, p.block < B → W'.cell? p = W.cell? p) : Sl enc B W' sv xs := by
 obtain ⟨A, cap, e, hcap, h⟩ := h
 refine ⟨A, cap, e, hcap, fun hn => ?_⟩
 obtain ⟨b, off, e, hlt, hcell⟩ := h hn
 exact ⟨b, off, e, hlt, fun j x hx => (hc ⟨b, off + j, none⟩ hlt).trans (hcell j x hx)⟩
theorem Sl.of_own {base : Nat} {e : TypeId} {v : Value} {n : Nat} (h : W.ownsRow base e 1 v n (xs.map enc)) : Sl enc W.heap.size W v xs := by
 have hl : xs.length = n := by have := h.1; simpa using this
 subst hl
 rcases h.2 with ⟨rfl, h0⟩ | ⟨g, cap, cur, rfl, hb, hg, hn, hcm, hsz, htk⟩
 · exact ⟨none, 0, by rw [h0], by omega, fun hn => absurd hn (by omega)⟩
 · refine ⟨_, cap, rfl, hn, fun _ => ⟨g, 0, rfl, (Array.getElem?_eq_some_iff.1 hg).1, fun j x hx => ?_⟩⟩
   have := World.ownsRow.cells h (g := g) rfl j (enc x) (by simp [hx])
   rw [show (⟨g, 0, none⟩ : Addr).add j = ⟨g, 0 + j, none⟩ from by unfold Addr.add; split <;> simp_all] at this
   exact this
theorem Sl.len (h : Sl enc B W sv xs) : ∃ A cap, sv = .slice A xs.length cap := ⟨_, _, h.choose_spec.choose_spec.1⟩
end
theorem below_trans {w w1 w2 : World} (h : Below w.heap.size w w1) (h' : Below w1.heap.size w1 w2) : Below w.heap.size w w2 := h.trans (h'.mono h.size)
theorem bits_and3 (n : Int) : bits .and .i64 n 3 = n % 4 := by
 have h : (BitVec.ofInt IntKind.i64.bits n &&& BitVec.ofInt IntKind.i64.bits 3).toNat = (n % 4).toNat := by
  have e : (BitVec.ofInt IntKind.i64.bits 3).toNat = 2 ^ 2 - 1 := by decide
  rw [BitVec.toNat_and, e, Nat.and_two_pow_sub_one_eq_mod, BitVec.toNat_ofInt]
  show (n % (2 ^ 64 : Nat)).toNat % 4 = _
  omega
 unfold bits
 simp only [h]
 rw [IntWalk.i64_in _ (by omega)]
 omega
theorem bits_and1 (n : Int) : bits .and .i64 n 1 = n % 2 := by
 have h : (BitVec.ofInt IntKind.i64.bits n &&& BitVec.ofInt IntKind.i64.bits 1).toNat = (n % 2).toNat := by
  have e : (BitVec.ofInt IntKind.i64.bits 1).toNat = 2 ^ 1 - 1 := by decide
  rw [BitVec.toNat_and, e, Nat.and_two_pow_sub_one_eq_mod, BitVec.toNat_ofInt]
  show (n % (2 ^ 64 : Nat)).toNat % 2 = _
  omega
 unfold bits
 simp only [h]
 rw [IntWalk.i64_in _ (by omega)]
 omega
section
variable {F : Fence} {n : Nat} {P : Program} {b : Frame} {a : Act} {k : List Item} {cs : List Frame} {w : World} {Q : Exit → Act → World → Prop}
theorem stepR_scope {c : Code} : step P (lone (b.atR a (.code (.scope c) :: k)) cs w) = .next (lone (b.atR a (.code c :: .inScope c :: k)) cs w) :=
 step_lone_go (by simp [stepG, stepG.exec, Frame.atR])
theorem stepR_inScope {c : Code} : step P (lone (b.atR a (.inScope c :: k)) cs w) = .next (lone (b.atR a k) cs w) :=
 step_lone_go (by simp [stepG, stepG.exec, Frame.atR])
theorem wpIn_scope_straight {c : Code} (h : c.wpIn F n P (Exit.noGoto Q) a w) : (Code.scope c).wpIn F n P Q a w := by
 intro b k cs hro hb hr
 have h0 : (lone (b.atR a (.code (.scope c) :: k)) cs w).fenced P F := fenced_calm hb hr rfl
 obtain ⟨e, a₁, w₁, hq, harr⟩ := h b (.inScope c :: k) cs hro hb hr
 cases e with
 | normal => exact ⟨.normal, a₁, w₁, hq, .head h0 stepR_scope (StepsIn.trans harr (.one (fenced_calm hb hr rfl) stepR_inScope))⟩
 | exit id =>
   have hx : exitTo id (.inScope c :: k) = exitTo id k := by simp [exitTo]
   exact ⟨.exit id, a₁, w₁, hq, fun k' hk => .head h0 stepR_scope (harr.1 k' (by rw [hx]; exact hk)),
    fun hr' hk => let ⟨k₁, h1, h2⟩ := harr.2 hr' (by rw [hx]; exact hk); ⟨k₁, h1, .head h0 stepR_scope h2⟩⟩
 | goto l => exact hq.elim
 | ret => exact ⟨_, a₁, w₁, hq, .of_steps (.one h0 stepR_scope) harr⟩
 | panic ch => exact ⟨_, a₁, w₁, hq, .of_steps (.one h0 stepR_scope) harr⟩
 | outgrown => exact ⟨_, a₁, w₁, hq, .of_steps (.one h0 stepR_scope) harr⟩
end
section
variable {α : Type} {enc : α → Value} {P : Program}
theorem run_append_sl (w : World) (base : Nat) (t ty e : TypeId) (i : TypeInfo) (z : Value) (bytes : Nat) (ht : P.underlying t = some (.slice e)) (hi : P.info? e = some i) (hz : i.zero = some z)
    (hsize : i.size = 1) (hby : i.bytes = bytes) (hzs : z.cells.size = 1) (v : Value) (n : Nat) (ys : List Value) (hown : w.ownsRow base e 1 v n ys)
    (B : Nat) (sv : Value) (xs : List α) (hs : Sl enc B w sv xs) (h1 : ∀ x, (enc x).oneCell' = true)
    (h63 : n + xs.length ≤ maxLen) (hbytes : (n + xs.length) * bytes ≤ 140737488355328) (hbase : base ≤ w.heap.size) :
    ∃ v' w', (Builtin.append_ #[t, t] ty #[v, sv]).run P w = .ok v' w' ∧ w'.ownsRow base e 1 v' (n + xs.length) (ys ++ xs.map enc) ∧ w.grownBy w' v.ownBlock ∧
      (v'.ownBlock = v.ownBlock ∨ v'.ownBlock = some w.heap.size) := by
 obtain ⟨A, c, rfl, hc, hcells⟩ := hs
 cases A with
 | none =>
   have hx : xs = [] := by
    cases xs with
    | nil => rfl
    | cons x xs => obtain ⟨_, _, h, _⟩ := hcells (by simp); cases h
   subst hx
   refine ⟨v, w, ?_, by simpa using hown, ⟨rfl, rfl, rfl, Nat.le_refl _, fun _ _ _ => rfl⟩, .inl rfl⟩
   rcases hown.2 with ⟨rfl, rfl⟩ | ⟨g, cap, cur, rfl, _, _, hnc, _⟩
   · simp [Builtin.append_, run_underlying ht, sizeOf, typeInfo, hi, Builtin.lenOf, Builtin.firstCells]
   · simp [Builtin.append_, run_underlying ht, sizeOf, typeInfo, hi, Builtin.lenOf, Builtin.firstCells, hnc, storeCells]
 | some ad =>
   have hnews : ∀ j u, (xs.map enc)[j]? = some u → w.cell? (ad.add j) = some u := by
    intro j u hu
    have hj : j < xs.length := by
     have := (List.getElem?_eq_some_iff.1 hu).1
     simpa using this
    obtain ⟨b, off, e', _, hcell⟩ := hcells (by omega)
    cases e'
    have h2 := hcell j xs[j] (by simp [hj])
    rw [show (⟨b, off, none⟩ : Addr).add j = ⟨b, off + j, none⟩ from by unfold Addr.add; split <;> simp_all, h2]
    simp [hj] at hu
    rw [hu]
   obtain ⟨v', w', h, h2, h3, _, h5⟩ := run_append_own_at (P := P) w base t ty e i z 1 bytes ht hi hz hsize hby hzs (by omega) v n ys hown ad xs.length c (xs.map enc) (by simp) hnews
     (fun u hu => by obtain ⟨x, _, rfl⟩ := List.mem_map.1 hu; exact h1 x) h63 hbytes hbase
   exact ⟨v', w', h, h2, h3, h5⟩
theorem wpList_append_sl (w : World) {ops : Array Oper} {rest : List Oper} {o : Oper} {a : Act} {Q : Exit → Act → World → Prop} (hgd : o.guard = none) (s x : Operand) (t : TypeId)
    (ho : o.op = .call { callee := .builtin .append, args := #[s, x], argTypes := #[t, t] })
    (base : Nat) (e : TypeId) (i : TypeInfo) (z : Value) (bytes : Nat) (ht : P.underlying t = some (.slice e)) (hi : P.info? e = some i) (hz : i.zero = some z)
    (hsize : i.size = 1) (hby : i.bytes = bytes) (hzs : z.cells.size = 1) (v : Value) (n : Nat) (ys : List Value) (hown : w.ownsRow base e 1 v n ys) (hv : a.eval s = v)
    (B : Nat) (sv : Value) (xs : List α) (hs : Sl enc B w sv xs) (hx : a.eval x = sv) (h1 : ∀ x, (enc x).oneCell' = true)
    (h63 : n + xs.length ≤ maxLen) (hbytes : (n + xs.length) * bytes ≤ 140737488355328) (hbase : base ≤ w.heap.size)
    (h : ∀ v' w', w'.ownsRow base e 1 v' (n + xs.length) (ys ++ xs.map enc) → w.grownBy w' v.ownBlock → (v'.ownBlock = v.ownBlock ∨ v'.ownBlock = some w.heap.size) → wpList P ops Q rest (a.put o.dst v') w') :
    wpList P ops Q (o :: rest) a w := by
 refine wpList_plain hgd fun K hK' => ?_
 obtain ⟨v', w', hrun, r1, r2, r3⟩ := run_append_sl (P := P) w base t o.type e i z bytes ht hi hz hsize hby hzs v n ys hown B sv xs hs h1 h63 hbytes hbase
 unfold Oper.wp execOp
 simp only [ho, resolve, invoke, builtin, Sem.run_bind, Sem.run_pure, Result.andThen_ok, List.map_toArray, List.map_cons, List.map_nil, hv, hx, hrun]
 exact hK' _ _ (h v' w' r1 r2 r3)
theorem own_base {W : World} {base : Nat} {e : TypeId} {v : Value} {n : Nat} {xs : List Value} (h : W.ownsRow base e 1 v n xs) : ∀ k, v.ownBlock = some k → base ≤ k := fun k hk => (h.lt k hk).1
theorem below_grown {B : Nat} {W W1 : World} {v : Value} {base : Nat} {e : TypeId} {n : Nat} {xs : List Value} (hown : W.ownsRow base e 1 v n xs) (hg : W.grownBy W1 v.ownBlock) (hB : B ≤ W.heap.size) (hb : B ≤ base) : Below B W W1 :=
 (Below.refl B W).grown hg hB fun k hk => Nat.le_trans hb (own_base hown k hk)
end
theorem str_eq (a b : List UInt8) : ((⟨a.toArray⟩ : ByteArray) == ⟨b.toArray⟩) = decide (a = b) := by
 have h : ∀ x y : ByteArray, (x == y) = (x.data == y.data) := fun x y => by cases x; cases y; rfl
 rw [h, Bool.eq_iff_iff]
 simp
theorem run_str {P : Program} {B : Nat} {w : World} {sv : Value} {bs : List UInt8} (h : Sl eB B w sv bs) (src dst e : TypeId) (hs : P.underlying src = some (.slice e)) (he : P.underlying e = some (.int .u8)) (hd : P.underlying dst = some .string) :
    (convert src dst sv).run P w = .ok (.string ⟨bs.toArray⟩) w := by
  obtain ⟨A, c, rfl, hc, hcells⟩ := h
  cases A with
  | none =>
    have hx : bs = [] := by
     cases bs with
     | nil => rfl
     | cons x xs => obtain ⟨_, _, h, _⟩ := hcells (by simp); cases h
    subst hx
    exact run_convert_bytes_nil (P := P) w src e hs he 0 c dst hd
  | some ad =>
    refine run_convert_bytes_back w src dst e ad c bs hs he hd fun j hj => ?_
    obtain ⟨b, off, e', _, hcell⟩ := hcells (by omega)
    cases e'
    have h2 := hcell j bs[j] (by simp [hj])
    rw [show (⟨b, off, none⟩ : Addr).add j = ⟨b, off + j, none⟩ from by unfold Addr.add; split <;> simp_all, h2]
def lins (md : Region.Mode) (ops : Array Oper) : Nat → Array Bool → List (List Nat)
 | 0, _ => [[]]
 | f + 1, listed => match Region.ready md ops listed with
   | [] => [[]]
   | r => r.flatMap fun i => (lins md ops f (listed.setIfInBounds i true)).map (i :: ·)
theorem mem_lins (md : Region.Mode) (ops : Array Oper) : ∀ (f t : Nat) (listed : Array Bool), Region.linearise.go md ops f t listed [] ∈ lins md ops f listed := by
 intro f
 induction f with
 | zero => intro t listed; simp [Region.linearise.go, lins]
 | succ f ih =>
   intro t listed
   simp only [Region.linearise.go, lins]
   change (match (Region.ready md ops listed)[t % (Region.ready md ops listed).length]? with
    | some i => Region.linearise.go md ops f (t / (Region.ready md ops listed).length) (listed.setIfInBounds i true) [i]
    | none => [].reverse) ∈ _
   cases hr : Region.ready md ops listed with
   | nil => simp
   | cons x xs =>
     have hlt : t % (x :: xs).length < (x :: xs).length := Nat.mod_lt _ (by simp)
     rw [List.getElem?_eq_getElem hlt]
     simp only []
     rw [linearise_go_acc, List.reverse_singleton, List.singleton_append]
     exact List.mem_flatMap.2 ⟨_, List.getElem_mem hlt, List.mem_map.2 ⟨_, ih _ _, rfl⟩⟩
section
variable {F : Fence} {n : Nat} {P : Program} {Q : Exit → Act → World → Prop}
def pick (l : List Oper) : List Nat → List Oper
  | [] => []
  | i :: p => (l[i]?).toList ++ pick l p
theorem pick_cons (l : List Oper) (i : Nat) (p : List Nat) : pick l (i :: p) = (l[i]?).toList ++ pick l p := rfl
theorem pick_nil (l : List Oper) : pick l [] = [] := rfl
theorem wpOpsIn_path {l : List Oper} : ∀ (p : List Nat) (a : Act) (w : World), wpListIn F n P l.toArray Q (pick l p) a w → wpOpsIn F n P l.toArray Q p a w
  | [], a, w, h => h
  | i :: p, a, w, h => by
    have hget : l.toArray[i]? = l[i]? := by simp
    rw [wpOpsIn_cons, wpOpIn, hget]
    rw [pick_cons] at h
    cases hi : l[i]? with
    | none =>
      rw [hi] at h
      exact wpOpsIn_path p a w h
    | some o =>
      rw [hi] at h
      simp only [Option.toList_some, List.singleton_append, wpListIn] at h ⊢
      split at h
      · rename_i hw
        simp only [hw, if_true]
        exact Oper.wpIn_mono (wpOpsIn_path p) h
      · rename_i hw
        simp only [hw]
        exact ⟨h.1, wpOpsIn_path p _ _ h.2⟩
def EachPath (C : List Nat → Prop) : List (List Nat) → Prop
  | [] => True
  | p :: r => C p ∧ EachPath C r
theorem EachPath.of {C : List Nat → Prop} : ∀ {L : List (List Nat)}, EachPath C L → ∀ p ∈ L, C p
  | p :: r, h, q, hq => by
    rcases List.mem_cons.1 hq with rfl | hq
    · exact h.1
    · exact EachPath.of h.2 q hq
theorem wpIn_region_paths {id : Nat} {l : List Oper} {a : Act} {w : World} (hm : P.follows .mixedOrders = true) (L : List (List Nat)) (hL : lins .any l.toArray l.toArray.size (Array.replicate l.toArray.size false) = L)
    (h : EachPath (fun p => wpListIn F n P l.toArray Q (pick l p) a w.drew) L) : (Code.region id l.toArray true).wpIn F n P Q a w :=
 wpIn_region_draw fun t => by
  simp only [Region.schedule, hm, Bool.true_or, if_true]
  exact wpOpsIn_path _ _ _ (EachPath.of h _ (by rw [← hL]; exact mem_lins _ _ _ _ _))
end
theorem Sl.new {α : Type} (enc : α → Value) (w : World) (xs : List α) (cs : Array Value) (t : TypeId) (fz : Nat × Nat) (n c : Nat) (hn : n = xs.length) (hc : n ≤ c) (he : cs = (xs.map enc).toArray) :
    Sl enc (w.alloc (.cells cs t fz)).heap.size (w.alloc (.cells cs t fz)) (.slice (some ⟨w.heap.size, 0, none⟩) n c) xs := by
  subst hn
  refine ⟨_, c, rfl, hc, fun _ => ⟨w.heap.size, 0, rfl, by simp, fun j x hx => ?_⟩⟩
  have h := World.alloc_heap_new w (.cells cs t fz)
  simp only [World.cell?, h]
  subst he
  simp [hx]
theorem Sl.upto {α : Type} {enc : α → Value} {B : Nat} {W : World} {A : Option Addr} {len cap : Nat} {xs : List α} (h : Sl enc B W (.slice A len cap) xs) {p : Nat} (hp : p ≤ xs.length) : Sl enc B W (.slice A p cap) (xs.take p) := by
 obtain ⟨A', c', e, hc, hcells⟩ := h
 cases e
 have hl : (xs.take p).length = p := by simp [hp]
 refine ⟨A, cap, by rw [hl], by omega, fun hn => ?_⟩
 obtain ⟨b, off, e, hb, hcell⟩ := hcells (by omega)
 refine ⟨b, off, e, hb, fun j x hx => hcell j x ?_⟩
 rw [List.getElem?_take] at hx
 split at hx
 · exact hx
 · cases hx
theorem Sl.from_ {α : Type} {enc : α → Value} {B : Nat} {W : World} {A : Option Addr} {len cap : Nat} {xs : List α} (h : Sl enc B W (.slice A len cap) xs) {p : Nat} (hp : p ≤ xs.length) (A2 : Option Addr) (hA : cap ≠ p → A2 = A.map (·.add p)) : Sl enc B W (.slice A2 (len - p) (cap - p)) (xs.drop p) := by
 obtain ⟨A', c', e, hc, hcells⟩ := h
 cases e
 refine ⟨A2, cap - p, by rw [List.length_drop], by rw [List.length_drop]; omega, fun hn => ?_⟩
 rw [List.length_drop] at hn
 obtain ⟨b, off, rfl, hb, hcell⟩ := hcells (by omega)
 refine ⟨b, off + p, ?_, hb, fun j x hx => ?_⟩
 · rw [hA (by omega)]
   simp only [Option.map_some, Addr.add]
   split <;> simp_all
 · have := hcell (p + j) x (by simpa using hx)
   rwa [Nat.add_assoc]
end Go.Proofs.YtkibigbcdlilkaaGreatDoor
namespace Go.Proofs.YtkibigbcdlilkaaGreatDoor
open Go.RowKit
def upd (D : Nat → Bool) (i : Nat) : Nat → Bool := fun j => if j = i then true else D j
theorem upd_same (D : Nat → Bool) (i : Nat) : upd D i i = true := by simp [upd]
theorem upd_other (D : Nat → Bool) {i j : Nat} (h : j ≠ i) : upd D i j = D j := by simp [upd, h]
theorem wpAny_inv {P : Program} {md : Region.Mode} {ops : Array Oper} {Q : Exit → Act → World → Prop} (I : (Nat → Bool) → Act → World → Prop)
    (hB : (ops.toList.zipIdx.all fun (o, i) => o.after.all fun e => decide (e.on < i)) = true)
    (hstep : ∀ (D : Nat → Bool) (a : Act) (w : World) (i : Nat) (o : Oper), ops[i]? = some o → D i = false → (o.after.all fun e => !Region.binds md e || D e.on) = true → I D a w →
      ∀ K : Act → World → Prop, (∀ a w, I (upd D i) a w → K a w) → if Region.wanted o (yielded ops a.tmps) = true then o.wp P a w K Q else K (a.put o.dst undef) w)
    (hend : ∀ D a w, (∀ i, i < ops.size → D i = true) → I D a w → Q .normal a w) :
    ∀ (fuel : Nat) (listed : Array Bool) (a : Act) (w : World), listed.size = ops.size → (listed.toList.filter (!·)).length = fuel → I (fun j => listed.getD j true) a w → wpAny P md ops Q fuel listed a w := by
 have hbe : ∀ (i : Nat) (o : Oper), ops[i]? = some o → ∀ e ∈ o.after, e.on < i := by
  intro i o ho e he
  have h1 := List.all_eq_true.1 hB (o, i) (by rw [List.mem_zipIdx_iff_getElem?]; simpa using ho)
  have h2 := Array.all_eq_true'.1 h1 e he
  simpa using h2
 intro fuel
 induction fuel with
 | zero =>
   intro listed a w hs hf hI
   have hall : ∀ i, i < ops.size → listed.getD i true = true := by
    intro i hi
    rw [List.length_eq_zero_iff, List.filter_eq_nil_iff] at hf
    have h1 := hf (listed[i]'(by omega)) (by simp)
    simp only [Array.getD_eq_getD_getElem?, Array.getElem?_eq_getElem (show i < listed.size by omega), Option.getD_some]
    simpa using h1
   refine ⟨?_, hend _ a w hall hI⟩
   rw [Region.ready, List.filter_eq_nil_iff]
   intro i hi
   rw [List.mem_range] at hi
   simp [hall i hi]
 | succ fuel ih =>
   intro listed a w hs hf hI
   refine ⟨fun hr => ?_, fun i hi => ?_⟩
   · exfalso
     have hne : ∃ i, i < ops.size ∧ listed.getD i true = false := by
      apply Classical.byContradiction
      intro hno
      have : (listed.toList.filter (!·)) = [] := by
       rw [List.filter_eq_nil_iff]
       intro b hb
       obtain ⟨i, hi, rfl⟩ := List.mem_iff_getElem.1 hb
       cases hbi : listed.toList[i] with
       | true => simp
       | false =>
         exfalso
         refine hno ⟨i, by simpa [hs] using hi, ?_⟩
         have hi2 : i < listed.size := by simpa using hi
         simp only [Array.getD_eq_getD_getElem?, Array.getElem?_eq_getElem hi2, Option.getD_some]
         simpa using hbi
      rw [this] at hf
      simp at hf
     have hmin : ∃ i, i < ops.size ∧ listed.getD i true = false ∧ ∀ j, j < i → listed.getD j true = true := by
      obtain ⟨i, h1, h2⟩ := hne
      induction i using Nat.strongRecOn with
      | ind i ihi =>
        by_cases hj : ∃ j, j < i ∧ listed.getD j true = false
        · obtain ⟨j, hj1, hj2⟩ := hj
          exact ihi j hj1 (by omega) hj2
        · refine ⟨i, h1, h2, fun j hj1 => ?_⟩
          cases hb : listed.getD j true with
          | true => rfl
          | false => exact absurd ⟨j, hj1, hb⟩ hj
     obtain ⟨i, h1, h2, h3⟩ := hmin
     rw [Region.ready, List.filter_eq_nil_iff] at hr
     have h4 := hr i (by rw [List.mem_range]; exact h1)
     apply h4
     have ho : ops[i]? = some ops[i] := Array.getElem?_eq_getElem h1
     simp only [h2, ho, Bool.not_false, Bool.true_and, Option.map_some, Option.getD_some]
     rw [Array.all_eq_true']
     intro e he
     have h5 := hbe i _ ho e he
     have h6 := h3 e.on h5
     have h7 : listed.getD e.on false = true := by
      have hlt : e.on < listed.size := by omega
      simp only [Array.getD_eq_getD_getElem?, Array.getElem?_eq_getElem hlt, Option.getD_some] at h6 ⊢
      exact h6
     rw [h7, Bool.or_true]
   · rw [Region.ready, List.mem_filter, List.mem_range] at hi
     obtain ⟨hlt, hcond⟩ := hi
     have ho : ops[i]? = some ops[i] := Array.getElem?_eq_getElem hlt
     simp only [ho, Option.map_some, Option.getD_some, Bool.and_eq_true, Bool.not_eq_true'] at hcond
     have hdep : (ops[i].after.all fun e => !Region.binds md e || (fun j => listed.getD j true) e.on) = true := by
      rw [Array.all_eq_true']
      intro e he
      have h5 := hbe i _ ho e he
      have h6 := Array.all_eq_true'.1 hcond.2 e he
      have hlt2 : e.on < listed.size := by omega
      simp only [Array.getD_eq_getD_getElem?, Array.getElem?_eq_getElem hlt2, Option.getD_some] at h6 ⊢
      exact h6
     have hst := hstep _ a w i _ ho hcond.1 hdep hI
     refine wpOp_step ho fun K hK => hst K fun a' w' hI' => hK a' w' ?_
     refine ih _ a' w' (by simp [hs]) ?_ ?_
     · have hil : i < listed.size := by omega
       have hli : listed[i] = false := by
        have := hcond.1
        simpa only [Array.getD_eq_getD_getElem?, Array.getElem?_eq_getElem hil, Option.getD_some] using this
       rw [Array.toList_setIfInBounds]
       have hcnt : ∀ (l : List Bool) (i : Nat), l[i]? = some false → ((l.set i true).filter (!·)).length + 1 = (l.filter (!·)).length := by
        intro l
        induction l with
        | nil => intro i h; simp at h
        | cons b l ihl =>
          intro i h
          cases i with
          | zero =>
            simp only [List.getElem?_cons_zero, Option.some.injEq] at h
            subst h
            simp
          | succ i =>
            simp only [List.getElem?_cons_succ] at h
            have := ihl i h
            cases b <;> simp [List.set_cons_succ] <;> omega
       have := hcnt listed.toList i (by simp [hil, hli])
       omega
     · have e : (fun j => (listed.setIfInBounds i true).getD j true) = upd (fun j => listed.getD j true) i := by
         funext j
         have hil : i < listed.size := by omega
         by_cases hj : j = i
         · subst hj
           simp [upd, Array.getD_eq_getD_getElem?, hil]
         · simp only [upd, if_neg hj, Array.getD_eq_getD_getElem?]
           rw [Array.getElem?_setIfInBounds_ne (by omega)]
       rw [e]
       exact hI'
end Go.Proofs.YtkibigbcdlilkaaGreatDoor
namespace Go.Proofs.YtkibigbcdlilkaaGreatDoor
open Go.RowKit
theorem below_alloc (w : World) (o : Obj) : Below w.heap.size w (w.alloc o) := (Below.refl _ w).alloc (Nat.le_refl _) o
theorem wpList_wanted {P : Program} {ops : Array Oper} {Q : Exit → Act → World → Prop} {a : Act} {w : World} {rest : List Oper} {o : Oper} (hw : Region.wanted o (yielded ops a.tmps) = true)
    (h : ∀ K : Act → World → Prop, (∀ a w, wpList P ops Q rest a w → K a w) → o.wp P a w K Q) : wpList P ops Q (o :: rest) a w :=
 wpList_step fun K hK => by rw [if_pos hw]; exact h K hK
theorem wpList_load_rowg {P : Program} {ops : Array Oper} {rest : List Oper} {o : Oper} {a : Act} {w : World} {Q : Exit → Act → World → Prop} (hw : Region.wanted o (yielded ops a.tmps) = true) (ty : TypeId) (x : Operand) (ho : o.op = .load ty x)
    (g : Nat) (hx : a.eval x = .pointer (some ⟨g, 0, none⟩)) (t : TypeId) (cs : Array Value) (fr : Nat × Nat) (d : TypeDesc) (hg : w.heap[g]? = some (.cells cs t fr))
    (hu : P.underlying ty = some d) (hd : (match d with | .struct _ | .array _ _ => true | _ => false) = true) (hi : (P.info? ty).map (·.size) = some cs.size)
    (h : wpList P ops Q rest (a.put o.dst (.agg cs)) w) : wpList P ops Q (o :: rest) a w :=
 wpList_wanted hw fun _ hK => wp_load_row ty x ho g hx t cs fr d hg hu hd hi (hK _ _ h)
end Go.Proofs.YtkibigbcdlilkaaGreatDoor
namespace Go.Proofs.YtkibigbcdlilkaaGreatDoor
def nextR (c : Nat → Bool) (prev : Nat → Nat) (i : Nat) : Nat → Nat
  | 0 => i + 1
  | j + 1 => min (min (prev (j + 1) + 1) (nextR c prev i j + 1)) (prev j + if c j then 0 else 1)
def lev (e : Nat → Nat → Bool) : Nat → Nat → Nat
  | 0 => fun j => j
  | i + 1 => nextR (e i) (lev e i) i
section
variable (e : Nat → Nat → Bool)
theorem lev_zero (j : Nat) : lev e 0 j = j := rfl
theorem lev_left (i : Nat) : lev e i 0 = i := by cases i <;> rfl
theorem lev_step (i j : Nat) : lev e (i + 1) (j + 1) = min (min (lev e i (j + 1) + 1) (lev e (i + 1) j + 1)) (lev e i j + if e i j then 0 else 1) := rfl
theorem lev_up (i j : Nat) : lev e (i + 1) j ≤ lev e i j + 1 := by
 cases j with
 | zero => rw [lev_left, lev_left]; omega
 | succ j => rw [lev_step]; omega
theorem lev_on (i j : Nat) : lev e i (j + 1) ≤ lev e i j + 1 := by
 cases i with
 | zero => rw [lev_zero, lev_zero]; omega
 | succ i => rw [lev_step]; omega
theorem lev_down (i : Nat) : ∀ j, lev e i j ≤ lev e (i + 1) j + 1
  | 0 => by rw [lev_left, lev_left]; omega
  | j + 1 => by
    have h := lev_down i j
    have h2 := lev_on e i j
    rw [lev_step]
    omega
theorem lev_back (j : Nat) : ∀ i, lev e i j ≤ lev e i (j + 1) + 1
  | 0 => by rw [lev_zero, lev_zero]; omega
  | i + 1 => by
    have h := lev_back j i
    have h2 := lev_up e i j
    rw [lev_step]
    omega
theorem lev_diag (i j : Nat) : lev e i j ≤ lev e (i + 1) (j + 1) := by
 have h1 := lev_down e i j
 have h2 := lev_back e j i
 rw [lev_step]
 omega
theorem lev_diag_le (i j t : Nat) : lev e i j ≤ lev e (i + t) (j + t) := by
 induction t with
 | zero => exact Nat.le_refl _
 | succ t ih => exact Nat.le_trans ih (lev_diag e _ _)
theorem lev_keep (i j : Nat) (h : e i j = true) : lev e (i + 1) (j + 1) = lev e i j := by
 have h1 := lev_diag e i j
 rw [lev_step, if_pos h] at *
 omega
theorem lev_swap (i j : Nat) : lev e (i + 1) (j + 1) ≤ lev e i j + 1 := by
 rw [lev_step]; split <;> omega
theorem lev_apart : ∀ i j, i ≤ lev e i j + j ∧ j ≤ lev e i j + i
  | 0, j => by rw [lev_zero]; omega
  | i + 1, 0 => by rw [lev_left]; omega
  | i + 1, j + 1 => by
    have h1 := lev_apart i (j + 1)
    have h2 := lev_apart (i + 1) j
    have h3 := lev_apart i j
    rw [lev_step]
    split <;> omega
theorem lev_most : ∀ i j, lev e i j ≤ max i j
  | 0, j => by rw [lev_zero]; omega
  | i + 1, 0 => by rw [lev_left]; omega
  | i + 1, j + 1 => by
    have h3 := lev_most i j
    have := lev_swap e i j
    omega
end
theorem lev_congr {e f : Nat → Nat → Bool} : ∀ i j, (∀ p q, p < i → q < j → e p q = f p q) → lev e i j = lev f i j
  | 0, j, _ => rfl
  | i + 1, 0, _ => rfl
  | i + 1, j + 1, h => by
    rw [lev_step, lev_step, lev_congr i (j + 1) (fun p q hp hq => h p q (by omega) hq), lev_congr (i + 1) j (fun p q hp hq => h p q hp (by omega)), lev_congr i j (fun p q hp hq => h p q (by omega) (by omega)), h i j (by omega) (by omega)]
def sameAt (a b : List UInt8) (i j : Nat) : Bool := decide (a[i]? = b[j]?)
def dist (a b : List UInt8) : Nat := lev (sameAt a b) a.length b.length
inductive Way : Nat → List UInt8 → List UInt8 → Prop
  | nil : Way 0 [] []
  | keep {n a b} (x : UInt8) (h : Way n a b) : Way n (x :: a) (x :: b)
  | swap {n a b} (x y : UInt8) (h : Way n a b) : Way (n + 1) (x :: a) (y :: b)
  | gap {n a b} (x : UInt8) (h : Way n a b) : Way (n + 1) (x :: a) b
  | more {n a b} (y : UInt8) (h : Way n a b) : Way (n + 1) a (y :: b)
namespace Way
theorem refl : ∀ a, Way 0 a a
  | [] => .nil
  | x :: a => .keep x (refl a)
theorem symm {n a b} (h : Way n a b) : Way n b a := by
 induction h with
 | nil => exact .nil
 | keep x _ ih => exact .keep x ih
 | swap x y _ ih => exact .swap y x ih
 | gap x _ ih => exact .more x ih
 | more y _ ih => exact .gap y ih
theorem append {n a b m c d} (h : Way n a b) (k : Way m c d) : Way (n + m) (a ++ c) (b ++ d) := by
 induction h with
 | nil => simpa using k
 | keep x _ ih => exact .keep x ih
 | swap x y _ ih => rw [Nat.add_right_comm]; exact .swap x y ih
 | gap x _ ih => rw [Nat.add_right_comm]; exact .gap x ih
 | more y _ ih => rw [Nat.add_right_comm]; exact .more y ih
theorem zero {n a b} (h : Way n a b) : n = 0 → a = b := by
 induction h with
 | nil => exact fun _ => rfl
 | keep x _ ih => exact fun e => by rw [ih e]
 | swap x y _ ih => exact fun e => by omega
 | gap x _ ih => exact fun e => by omega
 | more y _ ih => exact fun e => by omega
theorem trans {n a b} (h : Way n a b) : ∀ {m c}, Way m b c → ∃ p, p ≤ n + m ∧ Way p a c := by
 induction h with
 | nil => exact fun {m c} k => ⟨m, by omega, k⟩
 | @gap n a b x h ih =>
   intro m c k
   obtain ⟨p, h1, h2⟩ := ih k
   exact ⟨p + 1, by omega, .gap x h2⟩
 | @keep n a b x h ih =>
   intro m c k
   generalize hb : x :: b = b' at k
   induction k with
   | nil => cases hb
   | keep y k _ =>
     injection hb with e1 e2
     subst e1 e2
     obtain ⟨p, h1, h2⟩ := ih k
     exact ⟨p, by omega, .keep _ h2⟩
   | swap y z k _ =>
     injection hb with e1 e2
     subst e1 e2
     obtain ⟨p, h1, h2⟩ := ih k
     exact ⟨p + 1, by omega, .swap _ z h2⟩
   | gap y k _ =>
     injection hb with e1 e2
     subst e1 e2
     obtain ⟨p, h1, h2⟩ := ih k
     exact ⟨p + 1, by omega, .gap _ h2⟩
   | more z k ih2 =>
     obtain ⟨p, h1, h2⟩ := ih2 hb
     exact ⟨p + 1, by omega, .more z h2⟩
 | @swap n a b x y h ih =>
   intro m c k
   generalize hb : y :: b = b' at k
   induction k with
   | nil => cases hb
   | keep z k _ =>
     injection hb with e1 e2
     subst e1 e2
     obtain ⟨p, h1, h2⟩ := ih k
     exact ⟨p + 1, by omega, .swap _ _ h2⟩
   | swap z u k _ =>
     injection hb with e1 e2
     subst e1 e2
     obtain ⟨p, h1, h2⟩ := ih k
     exact ⟨p + 1, by omega, .swap _ u h2⟩
   | gap z k _ =>
     injection hb with e1 e2
     subst e1 e2
     obtain ⟨p, h1, h2⟩ := ih k
     exact ⟨p + 1, by omega, .gap _ h2⟩
   | more z k ih2 =>
     obtain ⟨p, h1, h2⟩ := ih2 hb
     exact ⟨p + 1, by omega, .more z h2⟩
 | @more n a b y h ih =>
   intro m c k
   generalize hb : y :: b = b' at k
   induction k with
   | nil => cases hb
   | keep z k _ =>
     injection hb with e1 e2
     subst e1 e2
     obtain ⟨p, h1, h2⟩ := ih k
     exact ⟨p + 1, by omega, .more _ h2⟩
   | swap z u k _ =>
     injection hb with e1 e2
     subst e1 e2
     obtain ⟨p, h1, h2⟩ := ih k
     exact ⟨p + 1, by omega, .more u h2⟩
   | gap z k _ =>
     injection hb with e1 e2
     subst e1 e2
     obtain ⟨p, h1, h2⟩ := ih k
     exact ⟨p, by omega, h2⟩
   | more z k ih2 =>
     obtain ⟨p, h1, h2⟩ := ih2 hb
     exact ⟨p + 1, by omega, .more z h2⟩
end Way
theorem lev_way (e : Nat → Nat → Bool) {n : Nat} {x y : List UInt8} (h : Way n x y) : ∀ i j, (∀ p q, p < x.length → q < y.length → x[p]? = y[q]? → e (i + p) (j + q) = true) → lev e (i + x.length) (j + y.length) ≤ lev e i j + n := by
 induction h with
 | nil => intro i j _; simp
 | @keep n a b x _ ih =>
   intro i j hs
   have h0 := hs 0 0 (by simp) (by simp) (by simp)
   have h1 := ih (i + 1) (j + 1) fun p q hp hq he => by
    have := hs (p + 1) (q + 1) (by simpa using hp) (by simpa using hq) (by simpa using he)
    rwa [show i + (p + 1) = i + 1 + p by omega, show j + (q + 1) = j + 1 + q by omega] at this
   rw [lev_keep e i j h0] at h1
   simp only [List.length_cons]
   rw [show i + (a.length + 1) = i + 1 + a.length by omega, show j + (b.length + 1) = j + 1 + b.length by omega]
   exact h1
 | @swap n a b x y _ ih =>
   intro i j hs
   have h1 := ih (i + 1) (j + 1) fun p q hp hq he => by
    have := hs (p + 1) (q + 1) (by simpa using hp) (by simpa using hq) (by simpa using he)
    rwa [show i + (p + 1) = i + 1 + p by omega, show j + (q + 1) = j + 1 + q by omega] at this
   have h2 := lev_swap e i j
   simp only [List.length_cons]
   rw [show i + (a.length + 1) = i + 1 + a.length by omega, show j + (b.length + 1) = j + 1 + b.length by omega]
   omega
 | @gap n a b x _ ih =>
   intro i j hs
   have h1 := ih (i + 1) j fun p q hp hq he => by
    have := hs (p + 1) q (by simpa using hp) hq (by simpa using he)
    rwa [show i + (p + 1) = i + 1 + p by omega] at this
   have h2 := lev_up e i j
   simp only [List.length_cons]
   rw [show i + (a.length + 1) = i + 1 + a.length by omega]
   omega
 | @more n a b y _ ih =>
   intro i j hs
   have h1 := ih i (j + 1) fun p q hp hq he => by
    have := hs p (q + 1) hp (by simpa using hq) (by simpa using he)
    rwa [show j + (q + 1) = j + 1 + q by omega] at this
   have h2 := lev_on e i j
   simp only [List.length_cons]
   rw [show j + (b.length + 1) = j + 1 + b.length by omega]
   omega
theorem dist_way {n : Nat} {a b : List UInt8} (h : Way n a b) : dist a b ≤ n := by
 have := lev_way (sameAt a b) h 0 0 fun p q _ _ he => by simpa [sameAt] using he
 simpa [dist, lev_zero] using this
theorem take_succ' (a : List UInt8) (i : Nat) (h : i < a.length) : a.take (i + 1) = a.take i ++ [a[i]] := by
 rw [List.take_add_one, List.getElem?_eq_getElem h]; rfl
theorem way_lev (a b : List UInt8) : ∀ i j, i ≤ a.length → j ≤ b.length → ∃ n, n ≤ lev (sameAt a b) i j ∧ Way n (a.take i) (b.take j)
 | 0, 0, _, _ => ⟨0, by simp, by simpa using Way.nil⟩
 | 0, j + 1, h1, h2 => by
   obtain ⟨n, h3, h4⟩ := way_lev a b 0 j h1 (by omega)
   refine ⟨n + 1, by rw [lev_zero] at *; omega, ?_⟩
   rw [take_succ' b j (by omega)]
   have := h4.append (Way.more b[j] .nil)
   simpa using this
 | i + 1, 0, h1, h2 => by
   obtain ⟨n, h3, h4⟩ := way_lev a b i 0 (by omega) h2
   refine ⟨n + 1, by rw [lev_left] at *; omega, ?_⟩
   rw [take_succ' a i (by omega)]
   have := h4.append (Way.gap a[i] .nil)
   simpa using this
 | i + 1, j + 1, h1, h2 => by
   obtain ⟨n1, h3, h4⟩ := way_lev a b i (j + 1) (by omega) h2
   obtain ⟨n2, h5, h6⟩ := way_lev a b (i + 1) j h1 (by omega)
   obtain ⟨n3, h7, h8⟩ := way_lev a b i j (by omega) (by omega)
   have ea := take_succ' a i (by omega)
   have eb := take_succ' b j (by omega)
   have k1 : Way (n1 + 1) (a.take (i + 1)) (b.take (j + 1)) := by
    rw [ea]
    have := h4.append (Way.gap a[i] .nil)
    simpa using this
   have k2 : Way (n2 + 1) (a.take (i + 1)) (b.take (j + 1)) := by
    rw [eb]
    have := h6.append (Way.more b[j] .nil)
    simpa using this
   have k3 : ∃ m, m ≤ lev (sameAt a b) i j + (if sameAt a b i j then 0 else 1) ∧ Way m (a.take (i + 1)) (b.take (j + 1)) := by
    rw [ea, eb]
    by_cases hs : sameAt a b i j = true
    · have e2 : a[i] = b[j] := by
        unfold sameAt at hs
        have := of_decide_eq_true hs
        rw [List.getElem?_eq_getElem (by omega), List.getElem?_eq_getElem (by omega)] at this
        exact Option.some.inj this
      rw [if_pos hs, e2]
      exact ⟨n3 + 0, by omega, h8.append (Way.keep b[j] .nil)⟩
    · rw [if_neg hs]
      exact ⟨n3 + 1, by omega, h8.append (Way.swap a[i] b[j] .nil)⟩
   obtain ⟨n4, h9, k3⟩ := k3
   rw [lev_step]
   generalize (if sameAt a b i j then 0 else 1) = z at *
   generalize lev (sameAt a b) i j = L3 at *
   generalize lev (sameAt a b) (i + 1) j = L2 at *
   generalize lev (sameAt a b) i (j + 1) = L1 at *
   by_cases c1 : L1 + 1 ≤ L2 + 1 ∧ L1 + 1 ≤ L3 + z
   · exact ⟨n1 + 1, by omega, k1⟩
   · by_cases c2 : L2 + 1 ≤ L3 + z
     · exact ⟨n2 + 1, by omega, k2⟩
     · exact ⟨n4, by omega, k3⟩
theorem way_dist (a b : List UInt8) : ∃ n, n ≤ dist a b ∧ Way n a b := by
 obtain ⟨n, h1, h2⟩ := way_lev a b a.length b.length (Nat.le_refl _) (Nat.le_refl _)
 rw [List.take_length, List.take_length] at h2
 exact ⟨n, h1, h2⟩
theorem dist_le_iff (a b : List UInt8) (n : Nat) : dist a b ≤ n ↔ ∃ m, m ≤ n ∧ Way m a b := by
 constructor
 · intro h
   obtain ⟨m, h1, h2⟩ := way_dist a b
   exact ⟨m, by omega, h2⟩
 · rintro ⟨m, h1, h2⟩
   have := dist_way h2
   omega
theorem dist_self (a : List UInt8) : dist a a = 0 := by have := dist_way (Way.refl a); omega
theorem dist_comm_le (a b : List UInt8) : dist a b ≤ dist b a := by
 obtain ⟨n, h1, h2⟩ := way_dist b a
 have := dist_way h2.symm
 omega
theorem dist_comm (a b : List UInt8) : dist a b = dist b a := Nat.le_antisymm (dist_comm_le a b) (dist_comm_le b a)
theorem dist_tri (a b c : List UInt8) : dist a c ≤ dist a b + dist b c := by
 obtain ⟨n, h1, h2⟩ := way_dist a b
 obtain ⟨m, h3, h4⟩ := way_dist b c
 obtain ⟨p, h5, h6⟩ := h2.trans h4
 have := dist_way h6
 omega
theorem dist_apart (a b : List UInt8) : a.length ≤ dist a b + b.length ∧ b.length ≤ dist a b + a.length := lev_apart _ _ _
theorem dist_most (a b : List UInt8) : dist a b ≤ max a.length b.length := lev_most _ _ _
end Go.Proofs.YtkibigbcdlilkaaGreatDoor
namespace Go.Proofs.YtkibigbcdlilkaaGreatDoor
open Go.RowKit
theorem run_max_i {P : Program} (ts : Array TypeId) (t : TypeId) (x y : Int) (w : World) : (Builtin.max_ ts t #[.int .i64 x, .int .i64 y]).run P w = .ok (.int .i64 (max x y)) w := by
 rw [run_max_int2]
 congr 2
 split <;> omega
theorem run_min_i {P : Program} (ts : Array TypeId) (t : TypeId) (x y : Int) (w : World) : (Builtin.min_ ts t #[.int .i64 x, .int .i64 y]).run P w = .ok (.int .i64 (min x y)) w := by
 rw [run_min_int2]
 congr 2
 split <;> omega
theorem run_max3_i {P : Program} (ts : Array TypeId) (t : TypeId) (x y z : Int) (w : World) : (Builtin.max_ ts t #[.int .i64 x, .int .i64 y, .int .i64 z]).run P w = .ok (.int .i64 (max (max x y) z)) w := by
 have h : (if y > x then y else x) = max x y := by split <;> omega
 have h2 : (if z > max x y then z else max x y) = max (max x y) z := by split <;> omega
 simp only [Builtin.max_, List.foldlM, Builtin.max2, pure_bind, h, h2, bind_pure]
 simp
theorem run_min3_i {P : Program} (ts : Array TypeId) (t : TypeId) (x y z : Int) (w : World) : (Builtin.min_ ts t #[.int .i64 x, .int .i64 y, .int .i64 z]).run P w = .ok (.int .i64 (min (min x y) z)) w := by
 have h : (if y < x then y else x) = min x y := by split <;> omega
 have h2 : (if z < min x y then z else min x y) = min (min x y) z := by split <;> omega
 simp only [Builtin.min_, List.foldlM, Builtin.min2, pure_bind, h, h2, bind_pure]
 simp
theorem wpList_max_v {P : Program} {w : World} {ops : Array Oper} {rest : List Oper} {o : Oper} {a : Act} {Q : Exit → Act → World → Prop} (hgd : o.guard = none) (x y : Operand) (ts : Array TypeId)
    (ho : o.op = .call { callee := .builtin .max, args := #[x, y], argTypes := ts }) (vx vy : Int) (hx : a.eval x = .int .i64 vx) (hy : a.eval y = .int .i64 vy) (m : Int) (hm : max vx vy = m) (h : wpList P ops Q rest (a.put o.dst (.int .i64 m)) w) : wpList P ops Q (o :: rest) a w := by
 refine wpList_plain hgd fun K hK => ?_
 have hrun := run_max_i (P := P) ts o.type vx vy w
 rw [hm] at hrun
 unfold Oper.wp execOp
 simp only [ho, resolve, invoke, builtin, Sem.run_bind, Sem.run_pure, Result.andThen_ok, List.map_toArray, List.map_cons, List.map_nil, hx, hy, hrun]
 exact hK _ _ h
theorem wpList_min_v {P : Program} {w : World} {ops : Array Oper} {rest : List Oper} {o : Oper} {a : Act} {Q : Exit → Act → World → Prop} (hgd : o.guard = none) (x y : Operand) (ts : Array TypeId)
    (ho : o.op = .call { callee := .builtin .min, args := #[x, y], argTypes := ts }) (vx vy : Int) (hx : a.eval x = .int .i64 vx) (hy : a.eval y = .int .i64 vy) (m : Int) (hm : min vx vy = m) (h : wpList P ops Q rest (a.put o.dst (.int .i64 m)) w) : wpList P ops Q (o :: rest) a w := by
 refine wpList_plain hgd fun K hK => ?_
 have hrun := run_min_i (P := P) ts o.type vx vy w
 rw [hm] at hrun
 unfold Oper.wp execOp
 simp only [ho, resolve, invoke, builtin, Sem.run_bind, Sem.run_pure, Result.andThen_ok, List.map_toArray, List.map_cons, List.map_nil, hx, hy, hrun]
 exact hK _ _ h
theorem wpList_max3_v {P : Program} {w : World} {ops : Array Oper} {rest : List Oper} {o : Oper} {a : Act} {Q : Exit → Act → World → Prop} (hgd : o.guard = none) (x y z : Operand) (ts : Array TypeId)
    (ho : o.op = .call { callee := .builtin .max, args := #[x, y, z], argTypes := ts }) (vx vy vz : Int) (hx : a.eval x = .int .i64 vx) (hy : a.eval y = .int .i64 vy) (hz : a.eval z = .int .i64 vz) (m : Int) (hm : max (max vx vy) vz = m) (h : wpList P ops Q rest (a.put o.dst (.int .i64 m)) w) : wpList P ops Q (o :: rest) a w := by
 refine wpList_plain hgd fun K hK => ?_
 have hrun := run_max3_i (P := P) ts o.type vx vy vz w
 rw [hm] at hrun
 unfold Oper.wp execOp
 simp only [ho, resolve, invoke, builtin, Sem.run_bind, Sem.run_pure, Result.andThen_ok, List.map_toArray, List.map_cons, List.map_nil, hx, hy, hz, hrun]
 exact hK _ _ h
theorem wpList_min3_v {P : Program} {w : World} {ops : Array Oper} {rest : List Oper} {o : Oper} {a : Act} {Q : Exit → Act → World → Prop} (hgd : o.guard = none) (x y z : Operand) (ts : Array TypeId)
    (ho : o.op = .call { callee := .builtin .min, args := #[x, y, z], argTypes := ts }) (vx vy vz : Int) (hx : a.eval x = .int .i64 vx) (hy : a.eval y = .int .i64 vy) (hz : a.eval z = .int .i64 vz) (m : Int) (hm : min (min vx vy) vz = m) (h : wpList P ops Q rest (a.put o.dst (.int .i64 m)) w) : wpList P ops Q (o :: rest) a w := by
 refine wpList_plain hgd fun K hK => ?_
 have hrun := run_min3_i (P := P) ts o.type vx vy vz w
 rw [hm] at hrun
 unfold Oper.wp execOp
 simp only [ho, resolve, invoke, builtin, Sem.run_bind, Sem.run_pure, Result.andThen_ok, List.map_toArray, List.map_cons, List.map_nil, hx, hy, hz, hrun]
 exact hK _ _ h
end Go.Proofs.YtkibigbcdlilkaaGreatDoor
