import Derived.RangeFuncNested
import Derived.RangeFuncBound
import Derived.RangeFuncCalls
import Derived.RangeFuncLeaves
import Derived.Shelf.Abstract
import Derived.Shelf.RegionOpen
import Derived.WalkKit
import Derived.WalkSpells
import Derived.WalkLawsBesides
import Derived.OwnWalkIn
import Derived.TacticsInMore
import Derived.LoopNIn
import Derived.LoopIn
import Derived.Lib.Hide
import Derived.IntWalk
import Derived.BigQuiet
import Derived.Deep.QuietTactic
import Derived.WalkMore
import Derived.Maps.AppendAt
import Derived.OwnWalk
import Derived.Laws.IdiomStrings
import Derived.Laws.BytesArg
import Derived.Laws.Externs
import Derived.Lib.Bytealg
import Derived.Lib.SlBytesConst
namespace Go.Proofs.YtjclfkbhakjdaaaDoor
open Go.RowKit
def Sl {α : Type} (enc : α → Value) (B : Nat) (W : World) (sv : Value) (xs : List α) : Prop :=
 ∃ A cap, sv = .slice A xs.length cap ∧ xs.length ≤ cap ∧
   (0 < xs.length → ∃ b off, A = some ⟨b, off, none⟩ ∧ b < B ∧ ∀ j x, xs[j]? = some x → W.cell? ⟨b, off + j, none⟩ = some (enc x))
abbrev eB (b : UInt8) : Value := .int .u8 (b.toNat : Int)
section
variable {α : Type} {enc : α → Value} {B B' : Nat} {W W' : World} {sv : Value} {xs : List α}
theorem Sl.nil (enc : α → Value) (B : Nat) (W : World) : Sl enc B W (.slice none 0 0) [] := ⟨none, 0, rfl, Nat.le_refl _, fun h => absurd h (by simp)⟩
theorem Sl.below (h : Sl enc B W sv xs) (hb : Below B W W') : Sl enc B W' sv xs := by
 obtain ⟨A, cap, e, hc, h⟩ := h
 refine ⟨A, cap, e, hc, fun hn => ?_⟩
 obtain ⟨b, off, e, hlt, hcell⟩ := h hn
 exact ⟨b, off, e, hlt, fun j x hx => (hb.cell (p := ⟨b, off + j, none⟩) hlt).trans (hcell j x hx)⟩
theorem Sl.more (h : Sl enc B W sv xs) (hB : B ≤ B') : Sl enc B' W sv xs := by
 obtain ⟨A, cap, e, hc, h⟩ := h
 refine ⟨A, cap, e, hc, fun hn => ?_⟩
 obtain ⟨b, off, e, hlt, hcell⟩ := h hn
 exact ⟨b, off, e, by omega, hcell⟩
theorem Sl.next (h : Sl enc W.heap.size W sv xs) (hb : Below W.heap.size W W') : Sl enc W'.heap.size W' sv xs := (h.below hb).more hb.size
theorem Sl.of_cells (h : Sl enc B W sv xs) (hc : ∀ p : Addr, p.block < B → W'.cell? p = W.cell? p) : Sl enc B W' sv xs := by
 obtain ⟨A, cap, e, hcap, h⟩ := h
 refine ⟨A, cap, e, hcap, fun hn => ?_⟩
 obtain ⟨b, off, e, hlt, hcell⟩ := h hn
 exact ⟨b, off, e, hlt, fun j x hx => (hc ⟨b, off + j, none⟩ hlt).trans (hcell j x hx)⟩
theorem Sl.of_own {base : Nat} {e : TypeId} {v : Value} {n : Nat} (h : W.ownsRow base e 1 v n (xs.map enc)) : Sl enc W.heap.size W v xs := by
 have hl : xs.length = n := by have := h.1; simpa using this
 subst hl
 rcases h.2 with ⟨rfl, h0⟩ | ⟨g, cap, cur, rfl, hb, hg, hn, hcm, hsz, htk⟩
 · exact ⟨none, 0, by rw [h0], by omega, fun hn => absurd hn (by omega)⟩
 · refine ⟨_, cap, rfl, hn, fun _ => ⟨g, 0, rfl, (Array.getElem?_eq_some_iff.1 hg).1, fun j x hx => ?_⟩⟩
   have := World.ownsRow.cells h (g := g) rfl j (enc x) (by simp [hx])
   rw [show (⟨g, 0, none⟩ : Addr).add j = ⟨g, 0 + j, none⟩ from by unfold Addr.add; split <;> simp_all] at this
   exact this
theorem Sl.len (h : Sl enc B W sv xs) : ∃ A cap, sv = .slice A xs.length cap := ⟨_, _, h.choose_spec.choose_spec.1⟩
end
theorem below_trans {w w1 w2 : World} (h : Below w.heap.size w w1) (h' : Below w1.heap.size w1 w2) : Below w.heap.size w w2 := h.trans (h'.mono h.size)
theorem bits_and3 (n : Int) : bits .and .i64 n 3 = n % 4 := by
 have h : (BitVec.ofInt IntKind.i64.bits n &&& BitVec.ofInt IntKind.i64.bits 3).toNat = (n % 4).toNat := by
  have e : (BitVec.ofInt IntKind.i64.bits 3).toNat = 2 ^ 2 - 1 := by decide
  rw [BitVec.toNat_and, e, Nat.and_two_pow_sub_one_eq_mod, BitVec.toNat_ofInt]
  show (n % (2 ^ 64 : Nat)).toNat % 4 = _
  omega
 unfold bits
 simp only [h]
 rw [IntWalk.i64_in _ (by omega)]
 omega
section
variable {F : Fence} {n : Nat} {P : Program} {b : Frame} {a : Act} {k : List Item} {cs : List Frame} {w : World} {Q : Exit → Act → World → Prop}
theorem stepR_scope {c : Code} : step P (lone (b.atR a (.code (.scope c) :: k)) cs w) = .next (lone (b.atR a (.code c :: .inScope c :: k)) cs w) :=
 step_lone_go (by simp [stepG, stepG.exec, Frame.atR])
theorem stepR_inScope {c : Code} : step P (lone (b.atR a (.inScope c :: k)) cs w) = .next (lone (b.atR a k) cs w) :=
 step_lone_go (by simp [stepG, stepG.exec, Frame.atR])
theorem wpIn_scope_straight {c : Code} (h : c.wpIn F n P (Exit.noGoto Q) a w) : (Code.scope c).wpIn F n P Q a w := by
 intro b k cs hro hb hr
 have h0 : (lone (b.atR a (.code (.scope c) :: k)) cs w).fenced P F := fenced_calm hb hr rfl
 obtain ⟨e, a₁, w₁, hq, harr⟩ := h b (.inScope c :: k) cs hro hb hr
 cases e with
 | normal => exact ⟨.normal, a₁, w₁, hq, .head h0 stepR_scope (StepsIn.trans harr (.one (fenced_calm hb hr rfl) stepR_inScope))⟩
 | exit id =>
   have hx : exitTo id (.inScope c :: k) = exitTo id k := by simp [exitTo]
   exact ⟨.exit id, a₁, w₁, hq, fun k' hk => .head h0 stepR_scope (harr.1 k' (by rw [hx]; exact hk)),
    fun hr' hk => let ⟨k₁, h1, h2⟩ := harr.2 hr' (by rw [hx]; exact hk); ⟨k₁, h1, .head h0 stepR_scope h2⟩⟩
 | goto l => exact hq.elim
 | ret => exact ⟨_, a₁, w₁, hq, .of_steps (.one h0 stepR_scope) harr⟩
 | panic ch => exact ⟨_, a₁, w₁, hq, .of_steps (.one h0 stepR_scope) harr⟩
 | outgrown => exact ⟨_, a₁, w₁, hq, .of_steps (.one h0 stepR_scope) harr⟩
end
section
variable {α : Type} {enc : α → Value} {P : Program}
theorem run_append_sl (w : World) (base : Nat) (t ty e : TypeId) (i : TypeInfo) (z : Value) (bytes : Nat) (ht : P.underlying t = some (.slice e)) (hi : P.info? e = some i) (hz : i.zero = some z)
    (hsize : i.size = 1) (hby : i.bytes = bytes) (hzs : z.cells.size = 1) (v : Value) (n : Nat) (ys : List Value) (hown : w.ownsRow base e 1 v n ys)
    (B : Nat) (sv : Value) (xs : List α) (hs : Sl enc B w sv xs) (h1 : ∀ x, (enc x).oneCell' = true)
    (h63 : n + xs.length ≤ maxLen) (hbytes : (n + xs.length) * bytes ≤ 140737488355328) (hbase : base ≤ w.heap.size) :
    ∃ v' w', (Builtin.append_ #[t, t] ty #[v, sv]).run P w = .ok v' w' ∧ w'.ownsRow base e 1 v' (n + xs.length) (ys ++ xs.map enc) ∧ w.grownBy w' v.ownBlock ∧
      (v'.ownBlock = v.ownBlock ∨ v'.ownBlock = some w.heap.size) := by
 obtain ⟨A, c, rfl, hc, hcells⟩ := hs
 cases A with
 | none =>
   have hx : xs = [] := by
    cases xs with
    | nil => rfl
    | cons x xs => obtain ⟨_, _, h, _⟩ := hcells (by simp); cases h
   subst hx
   refine ⟨v, w, ?_, by simpa using hown, ⟨rfl, rfl, rfl, Nat.le_refl _, fun _ _ _ => rfl⟩, .inl rfl⟩
   rcases hown.2 with ⟨rfl, rfl⟩ | ⟨g, cap, cur, rfl, _, _, hnc, _⟩
   · simp [Builtin.append_, run_underlying ht, sizeOf, typeInfo, hi, Builtin.lenOf, Builtin.firstCells]
   · simp [Builtin.append_, run_underlying ht, sizeOf, typeInfo, hi, Builtin.lenOf, Builtin.firstCells, hnc, storeCells]
 | some ad =>
   have hnews : ∀ j u, (xs.map enc)[j]? = some u → w.cell? (ad.add j) = some u := by
    intro j u hu
    have hj : j < xs.length := by
     have := (List.getElem?_eq_some_iff.1 hu).1
     simpa using this
    obtain ⟨b, off, e', _, hcell⟩ := hcells (by omega)
    cases e'
    have h2 := hcell j xs[j] (by simp [hj])
    rw [show (⟨b, off, none⟩ : Addr).add j = ⟨b, off + j, none⟩ from by unfold Addr.add; split <;> simp_all, h2]
    simp [hj] at hu
    rw [hu]
   obtain ⟨v', w', h, h2, h3, _, h5⟩ := run_append_own_at (P := P) w base t ty e i z 1 bytes ht hi hz hsize hby hzs (by omega) v n ys hown ad xs.length c (xs.map enc) (by simp) hnews
     (fun u hu => by obtain ⟨x, _, rfl⟩ := List.mem_map.1 hu; exact h1 x) h63 hbytes hbase
   exact ⟨v', w', h, h2, h3, h5⟩
theorem wpList_append_sl (w : World) {ops : Array Oper} {rest : List Oper} {o : Oper} {a : Act} {Q : Exit → Act → World → Prop} (hgd : o.guard = none) (s x : Operand) (t : TypeId)
    (ho : o.op = .call { callee := .builtin .append, args := #[s, x], argTypes := #[t, t] })
    (base : Nat) (e : TypeId) (i : TypeInfo) (z : Value) (bytes : Nat) (ht : P.underlying t = some (.slice e)) (hi : P.info? e = some i) (hz : i.zero = some z)
    (hsize : i.size = 1) (hby : i.bytes = bytes) (hzs : z.cells.size = 1) (v : Value) (n : Nat) (ys : List Value) (hown : w.ownsRow base e 1 v n ys) (hv : a.eval s = v)
    (B : Nat) (sv : Value) (xs : List α) (hs : Sl enc B w sv xs) (hx : a.eval x = sv) (h1 : ∀ x, (enc x).oneCell' = true)
    (h63 : n + xs.length ≤ maxLen) (hbytes : (n + xs.length) * bytes ≤ 140737488355328) (hbase : base ≤ w.heap.size)
    (h : ∀ v' w', w'.ownsRow base e 1 v' (n + xs.length) (ys ++ xs.map enc) → w.grownBy w' v.ownBlock → (v'.ownBlock = v.ownBlock ∨ v'.ownBlock = some w.heap.size) → wpList P ops Q rest (a.put o.dst v') w') :
    wpList P ops Q (o :: rest) a w := by
 refine wpList_plain hgd fun K hK' => ?_
 obtain ⟨v', w', hrun, r1, r2, r3⟩ := run_append_sl (P := P) w base t o.type e i z bytes ht hi hz hsize hby hzs v n ys hown B sv xs hs h1 h63 hbytes hbase
 unfold Oper.wp execOp
 simp only [ho, resolve, invoke, builtin, Sem.run_bind, Sem.run_pure, Result.andThen_ok, List.map_toArray, List.map_cons, List.map_nil, hv, hx, hrun]
 exact hK' _ _ (h v' w' r1 r2 r3)
theorem own_base {W : World} {base : Nat} {e : TypeId} {v : Value} {n : Nat} {xs : List Value} (h : W.ownsRow base e 1 v n xs) : ∀ k, v.ownBlock = some k → base ≤ k := fun k hk => (h.lt k hk).1
theorem below_grown {B : Nat} {W W1 : World} {v : Value} {base : Nat} {e : TypeId} {n : Nat} {xs : List Value} (hown : W.ownsRow base e 1 v n xs) (hg : W.grownBy W1 v.ownBlock) (hB : B ≤ W.heap.size) (hb : B ≤ base) : Below B W W1 :=
 (Below.refl B W).grown hg hB fun k hk => Nat.le_trans hb (own_base hown k hk)
end
theorem run_str {P : Program} {B : Nat} {w : World} {sv : Value} {bs : List UInt8} (h : Sl eB B w sv bs) (src dst e : TypeId) (hs : P.underlying src = some (.slice e)) (he : P.underlying e = some (.int .u8)) (hd : P.underlying dst = some .string) :
    (convert src dst sv).run P w = .ok (.string ⟨bs.toArray⟩) w := by
  obtain ⟨A, c, rfl, hc, hcells⟩ := h
  cases A with
  | none =>
    have hx : bs = [] := by
     cases bs with
     | nil => rfl
     | cons x xs => obtain ⟨_, _, h, _⟩ := hcells (by simp); cases h
    subst hx
    exact run_convert_bytes_nil (P := P) w src e hs he 0 c dst hd
  | some ad =>
    refine run_convert_bytes_back w src dst e ad c bs hs he hd fun j hj => ?_
    obtain ⟨b, off, e', _, hcell⟩ := hcells (by omega)
    cases e'
    have h2 := hcell j bs[j] (by simp [hj])
    rw [show (⟨b, off, none⟩ : Addr).add j = ⟨b, off + j, none⟩ from by unfold Addr.add; split <;> simp_all, h2]
def lins (md : Region.Mode) (ops : Array Oper) : Nat → Array Bool → List (List Nat)
 | 0, _ => [[]]
 | f + 1, listed => match Region.ready md ops listed with
   | [] => [[]]
   | r => r.flatMap fun i => (lins md ops f (listed.setIfInBounds i true)).map (i :: ·)
theorem mem_lins (md : Region.Mode) (ops : Array Oper) : ∀ (f t : Nat) (listed : Array Bool), Region.linearise.go md ops f t listed [] ∈ lins md ops f listed := by
 intro f
 induction f with
 | zero => intro t listed; simp [Region.linearise.go, lins]
 | succ f ih =>
   intro t listed
   simp only [Region.linearise.go, lins]
   change (match (Region.ready md ops listed)[t % (Region.ready md ops listed).length]? with
    | some i => Region.linearise.go md ops f (t / (Region.ready md ops listed).length) (listed.setIfInBounds i true) [i]
    | none => [].reverse) ∈ _
   cases hr : Region.ready md ops listed with
   | nil => simp
   | cons x xs =>
     have hlt : t % (x :: xs).length < (x :: xs).length := Nat.mod_lt _ (by simp)
     rw [List.getElem?_eq_getElem hlt]
     simp only []
     rw [linearise_go_acc, List.reverse_singleton, List.singleton_append]
     exact List.mem_flatMap.2 ⟨_, List.getElem_mem hlt, List.mem_map.2 ⟨_, ih _ _, rfl⟩⟩
section
variable {F : Fence} {n : Nat} {P : Program} {Q : Exit → Act → World → Prop}
def pick (l : List Oper) : List Nat → List Oper
  | [] => []
  | i :: p => (l[i]?).toList ++ pick l p
theorem pick_cons (l : List Oper) (i : Nat) (p : List Nat) : pick l (i :: p) = (l[i]?).toList ++ pick l p := rfl
theorem pick_nil (l : List Oper) : pick l [] = [] := rfl
theorem wpOpsIn_path {l : List Oper} : ∀ (p : List Nat) (a : Act) (w : World), wpListIn F n P l.toArray Q (pick l p) a w → wpOpsIn F n P l.toArray Q p a w
  | [], a, w, h => h
  | i :: p, a, w, h => by
    have hget : l.toArray[i]? = l[i]? := by simp
    rw [wpOpsIn_cons, wpOpIn, hget]
    rw [pick_cons] at h
    cases hi : l[i]? with
    | none =>
      rw [hi] at h
      exact wpOpsIn_path p a w h
    | some o =>
      rw [hi] at h
      simp only [Option.toList_some, List.singleton_append, wpListIn] at h ⊢
      split at h
      · rename_i hw
        simp only [hw, if_true]
        exact Oper.wpIn_mono (wpOpsIn_path p) h
      · rename_i hw
        simp only [hw]
        exact ⟨h.1, wpOpsIn_path p _ _ h.2⟩
def EachPath (C : List Nat → Prop) : List (List Nat) → Prop
  | [] => True
  | p :: r => C p ∧ EachPath C r
theorem EachPath.of {C : List Nat → Prop} : ∀ {L : List (List Nat)}, EachPath C L → ∀ p ∈ L, C p
  | p :: r, h, q, hq => by
    rcases List.mem_cons.1 hq with rfl | hq
    · exact h.1
    · exact EachPath.of h.2 q hq
theorem wpIn_region_paths {id : Nat} {l : List Oper} {a : Act} {w : World} (hm : P.follows .mixedOrders = true) (L : List (List Nat)) (hL : lins .any l.toArray l.toArray.size (Array.replicate l.toArray.size false) = L)
    (h : EachPath (fun p => wpListIn F n P l.toArray Q (pick l p) a w.drew) L) : (Code.region id l.toArray true).wpIn F n P Q a w :=
 wpIn_region_draw fun t => by
  simp only [Region.schedule, hm, Bool.true_or, if_true]
  exact wpOpsIn_path _ _ _ (EachPath.of h _ (by rw [← hL]; exact mem_lins _ _ _ _ _))
end
theorem Sl.new {α : Type} (enc : α → Value) (w : World) (xs : List α) (cs : Array Value) (t : TypeId) (fz : Nat × Nat) (n c : Nat) (hn : n = xs.length) (hc : n ≤ c) (he : cs = (xs.map enc).toArray) :
    Sl enc (w.alloc (.cells cs t fz)).heap.size (w.alloc (.cells cs t fz)) (.slice (some ⟨w.heap.size, 0, none⟩) n c) xs := by
  subst hn
  refine ⟨_, c, rfl, hc, fun _ => ⟨w.heap.size, 0, rfl, by simp, fun j x hx => ?_⟩⟩
  have h := World.alloc_heap_new w (.cells cs t fz)
  simp only [World.cell?, h]
  subst he
  simp [hx]
theorem below_drewN {B : Nat} (w : World) (n : Nat) : Below B w (w.drewN n) := ⟨rfl, rfl, rfl, Nat.le_refl _, fun _ _ => rfl⟩
theorem Sl.upto {α : Type} {enc : α → Value} {B : Nat} {W : World} {A : Option Addr} {len cap : Nat} {xs : List α} (h : Sl enc B W (.slice A len cap) xs) {p : Nat} (hp : p ≤ xs.length) : Sl enc B W (.slice A p cap) (xs.take p) := by
 obtain ⟨A', c', e, hc, hcells⟩ := h
 cases e
 have hl : (xs.take p).length = p := by simp [hp]
 refine ⟨A, cap, by rw [hl], by omega, fun hn => ?_⟩
 obtain ⟨b, off, e, hb, hcell⟩ := hcells (by omega)
 refine ⟨b, off, e, hb, fun j x hx => hcell j x ?_⟩
 rw [List.getElem?_take] at hx
 split at hx
 · exact hx
 · cases hx
theorem Sl.from_ {α : Type} {enc : α → Value} {B : Nat} {W : World} {A : Option Addr} {len cap : Nat} {xs : List α} (h : Sl enc B W (.slice A len cap) xs) {p : Nat} (hp : p ≤ xs.length) (A2 : Option Addr) (hA : cap ≠ p → A2 = A.map (·.add p)) : Sl enc B W (.slice A2 (len - p) (cap - p)) (xs.drop p) := by
 obtain ⟨A', c', e, hc, hcells⟩ := h
 cases e
 refine ⟨A2, cap - p, by rw [List.length_drop], by rw [List.length_drop]; omega, fun hn => ?_⟩
 rw [List.length_drop] at hn
 obtain ⟨b, off, rfl, hb, hcell⟩ := hcells (by omega)
 refine ⟨b, off + p, ?_, hb, fun j x hx => ?_⟩
 · rw [hA (by omega)]
   simp only [Option.map_some, Addr.add]
   split <;> simp_all
 · have := hcell (p + j) x (by simpa using hx)
   rwa [Nat.add_assoc]
end Go.Proofs.YtjclfkbhakjdaaaDoor
