import Derived.Test.YtjclfkbhakjdaaaDoorBtGY
namespace Go.Proofs.YtjclfkbhakjdaaaDoor.Bt
open Go.RowKit Go.Shelf
attribute [local go_sem] Oper.semAt_some
theorem run_store_func (P : Program) (w : World) (a : Addr) (m : Mode) (fn : Fn) (first cap : Array Value) : (store a (.func fn first cap) m).run P w = stored P w a (.func fn first cap) m := run_store P w a _ m rfl
attribute [local go_sem] run_store_func
def vstep (x : Int) (c : UInt8) : Int := bits .or .u64 (IntKind.u64.wrap (x * 2)) (IntKind.u64.wrap c.toNat)
def valI (bs : List UInt8) : Int := bs.foldl vstep 0
set_option maxRecDepth 100000 in
set_option maxHeartbeats 2000000 in
theorem vput_any (x : Int) (c : UInt8) (bx : Nat) (w : World) (hcx : w.cell? ⟨bx, 0, none⟩ = some (.int .u64 x)) (hf : w.frozen? ⟨bx, 0, none⟩ = false) :
    Calls Tryd.prog 87 #[eB c, .pointer (some ⟨bx, 0, none⟩)] w fun e w' => (∃ v, e = .returned v) ∧ w' = w.setCell ⟨bx, 0, none⟩ (.int .u64 (vstep x c)) := by
  go_enter Tryd.func87, Tryd.ntmps87
  go_wp2
  go_end0
  exact ⟨⟨_, rfl⟩, rfl⟩
set_option maxRecDepth 100000 in
set_option maxHeartbeats 2000000 in
theorem Value_any (sv : Value) (bs : List UInt8) (hlen : bs.length ≤ 64) (hbits : ∀ b ∈ bs, b.toNat ≤ 1) (w : World) (hS : Sl eB w.heap.size w sv bs) (hT : Tab w) :
    Calls Tryd.prog 65 #[sv] w fun e W' => e = .returned (.tuple #[.int .u64 (valI bs), .int .i64 0]) ∧ Below w.heap.size w W' := by
  refine (callsIn_wide (n := 5)).1 ?_
  obtain ⟨A, cap, rfl⟩ := hS.len
  have hd : decide ((64 : Int) < bs.length) = false := decide_eq_false (by omega)
  have hall : decide (∀ b ∈ bs, b.toNat ≤ 1) = true := decide_eq_true hbits
  refine callsIn_of_wp_marks Tryd.func65 rfl trivial ?_ rfl
  simp only [Tryd.ntmps65, List.size_toArray, List.length_cons, List.length_nil, Nat.reduceAdd, Nat.reduceSub, Array.replicate_succ, Array.replicate_zero, List.push_toArray, List.append_toArray, List.nil_append, List.cons_append]
  gi_wp2_with fail
  refine ⟨trivial, ?_⟩
  gi_at_call 58
  refine (callsIn_wide.2 (areBits_any _ bs (by omega) _ hS hT)).mono ?_
  rintro e w1 ⟨rfl, hB1⟩
  rw [hall]
  have hT1 : Tab w1 := hT.below hB1
  have hS1 := hS.next hB1
  have hsz1 : w.heap.size ≤ w1.heap.size := hB1.size
  gi_wp2_with (refine ⟨trivial, ?_⟩; gi_at_call 59; refine (callsIn_wide.2 (places_any _ _ _ _)).mono ?_; rintro e w' ⟨rfl, rfl⟩)
  obtain ⟨W0, hW0⟩ : ∃ W0, ((w1.alloc (Obj.cells #[Value.int IntKind.u64 0] 65)).alloc (Obj.cells #[Value.func (Fn.func 87) #[] #[Value.pointer (some { block := w1.heap.size, off := 0 })]] 100)).alloc (Obj.cells #[Value.slice A bs.length cap] 24) = W0 := ⟨_, rfl⟩
  have hs0 : W0.heap.size = w1.heap.size + 3 := by rw [← hW0]; simp
  have hB10 : Below w1.heap.size w1 W0 := by
   rw [← hW0]
   exact (((Below.refl _ w1).alloc (Nat.le_refl _) _).alloc (by simp) _).alloc (by simp; omega) _
  have b1 : Boxed W0 w1.heap.size 65 (.int .u64 (valI [])) := by
   rw [← hW0]
   exact ((Boxed.new w1 65 (.int .u64 0)).alloc _).alloc _
  have b2 : Boxed W0 (w1.heap.size + 1) 100 (Value.func (Fn.func 87) #[] #[Value.pointer (some { block := w1.heap.size, off := 0 })]) := by
   rw [← hW0]
   have := (Boxed.new (w1.alloc (Obj.cells #[Value.int IntKind.u64 0] 65)) 100 (Value.func (Fn.func 87) #[] #[Value.pointer (some { block := w1.heap.size, off := 0 })])).alloc (Obj.cells #[Value.slice A bs.length cap] 24)
   simpa only [World.size_alloc] using this
  have b3 : Boxed W0 (w1.heap.size + 1 + 1) 24 (.slice A bs.length cap) := by
   rw [← hW0]
   have := Boxed.new ((w1.alloc (Obj.cells #[Value.int IntKind.u64 0] 65)).alloc (Obj.cells #[Value.func (Fn.func 87) #[] #[Value.pointer (some { block := w1.heap.size, off := 0 })]] 100)) 24 (Value.slice A bs.length cap)
   simpa only [World.size_alloc] using this
  have hT0 : Tab W0 := hT1.below hB10
  rw [hW0]
  refine wpIn_rangeFunc_ownG rfl (by decide) (gf := 83) (lb := #[.pointer (some ⟨w1.heap.size + 1 + 1, 0, none⟩)]) rfl trivial (enters_of Tryd.func83 (by kernel_rfl) rfl)
   (places_stops id bs.zipIdx 3 (w1.heap.size + 1 + 1) w1.heap.size _ bs (by simp) (by omega) W0 (by omega) (by omega) hT1.lt b3.cell (hS1.below hB10) hT0) belowK_t (belowK_b (by omega)) (Below.refl _ _) (fun _ => rfl)
   (fun (pre : List (UInt8 × Nat)) W => (Boxed W w1.heap.size 65 (.int .u64 (valI (pre.map Prod.fst))) ∧ Boxed W (w1.heap.size + 1) 100 (Value.func (Fn.func 87) #[] #[Value.pointer (some { block := w1.heap.size, off := 0 })])) ∧ Below w1.heap.size w1 W)
   (fun _ _ _ => False)
   (OwnFrom.and (OwnFrom.and (Own.from (boxed_own w1.heap.size 65 (fun (pre : List (UInt8 × Nat)) => .int .u64 (valI (pre.map Prod.fst)))) _) (Own.from (boxed_own (w1.heap.size + 1) 100 (fun (_ : List (UInt8 × Nat)) => Value.func (Fn.func 87) #[] #[Value.pointer (some { block := w1.heap.size, off := 0 })])) _)) (ownFrom_below (Nat.le_refl _) (by omega)))
   (fun _ _ _ _ _ hs _ _ => hs)
   ⟨⟨b1, b2⟩, hB10⟩
   (fun x => { tmps := #[.slice A bs.length cap, undef, .int .u64 0, .int .i64 0, .pointer (some ⟨w1.heap.size, 0, none⟩), .pointer (some ⟨w1.heap.size + 1, 0, none⟩), eB x.1, .slice A bs.length cap, .int .i64 bs.length, .bool false, .bool false, .slice A bs.length cap, .bool true, .bool false, .bool false, .func (.func 87) #[] #[.pointer (some ⟨w1.heap.size, 0, none⟩)], .slice A bs.length cap, .func (.func 83) #[] #[.pointer (some ⟨w1.heap.size + 1 + 1, 0, none⟩)], eB x.1, clsV x.2, undef, undef, undef, undef], defers := [] }) ?assign ?body ?done ?stop
  case assign =>
   intro l x W K hK
   gi_wp2
   exact hK
  case body =>
   rintro l pre ⟨c, at_⟩ W ⟨⟨hv, hf⟩, hB⟩ hlt
   have hc2 := hf.cell
   gi_wp2_with (refine ⟨trivial, ?_⟩; gi_at_call 87; refine (CallsIn.inRound l (callsIn_wide.2 (vput_any _ c _ _ hv.cell hv.frozen))).mono ?_; rintro e w' ⟨⟨v, rfl⟩, rfl⟩)
   gi_wp2
   have hval : valI ((pre ++ [(c, at_)]).map Prod.fst) = vstep (valI (pre.map Prod.fst)) c := by
    simp [valI, List.foldl_append]
   refine ⟨(KeepsOthers.setCell W _ _).from _, (Below.refl _ _).setCell (p := ⟨w1.heap.size, 0, none⟩) (Nat.le_refl _) _, ⟨by rw [hval]; exact hv.set _, Boxed.kept hf (grownBy_setCellAt W w1.heap.size 0 _) (by simp)⟩, hB.setCell (p := ⟨w1.heap.size, 0, none⟩) (Nat.le_refl _) _⟩
  case done =>
   rintro D ys W hD rfl ⟨⟨hv, hf⟩, hB⟩ hK
   have hc := hv.cell
   gi_wp2
   refine ⟨by simp, .inl ⟨_, _, rfl, run_takeDeferred hK, ?_⟩⟩
   refine ⟨_, results_tmp2 rfl _ _ _, rfl, below_trans hB1 (hB.trans (belowK_b (w := w1) (Nat.le_refl _) _ D _ _ (by omega) hK rfl rfl))⟩
  case stop =>
   rintro D c pre W hD hpre h hK
   exact h.elim
end Go.Proofs.YtjclfkbhakjdaaaDoor.Bt
namespace Go.Proofs.YtjclfkbhakjdaaaDoor.Bt
open Go.RowKit Go.Shelf
attribute [local go_sem] Oper.semAt_some
theorem below_alloc (w : World) (o : Obj) : Below w.heap.size w (w.alloc o) := (Below.refl _ w).alloc (Nat.le_refl _) o
end Go.Proofs.YtjclfkbhakjdaaaDoor.Bt
namespace Go.Proofs.YtjclfkbhakjdaaaDoor.Bt
open Go.RowKit Go.Shelf
attribute [local go_sem] Oper.semAt_some
def gcOf (bs : List UInt8) : Nat := bs.countP fun b => b == 67 || b == 71
theorem gcOf_le (bs : List UInt8) : gcOf bs ≤ bs.length := List.countP_le_length
theorem gcOf_snoc (bs : List UInt8) (k : Nat) (h : k < bs.length) : gcOf (bs.take (k + 1)) = gcOf (bs.take k) + if bs[k] == 67 || bs[k] == 71 then 1 else 0 := by
 rw [List.take_succ_eq_append_getElem h, gcOf, gcOf, List.countP_append]
 simp [List.countP_cons]
set_option maxRecDepth 100000 in
set_option maxHeartbeats 400000 in
theorem Gc_any (sv : Value) (bs : List UInt8) (hreach : bs.length ≤ 140737488351232) (B : Nat) (w : World) (hS : Sl eB B w sv bs) :
    Calls Tryd.prog 12 #[sv] w fun e w' => e = .returned (.int .i64 (gcOf bs)) ∧ w = w' := by
  obtain ⟨A, cap, rfl, hcap, hcs⟩ := hS
  go_enter Tryd.func12, Tryd.ntmps12
  go_wp2
  go_loop [3, 4] (fun g i => ∃ k : Nat, k ≤ bs.length ∧ i = .int .i64 k ∧ g = .int .i64 (gcOf (bs.take k))) (fun _ i => bs.length - (intOf i).toNat)
  case atStart => exact ⟨0, Nat.zero_le _, rfl, rfl⟩
  case round =>
   obtain ⟨k, hk, rfl, rfl⟩ := hrel
   by_cases hlt : k < bs.length
   · obtain ⟨b, off, rfl, hb, hcell⟩ := hcs (by omega)
     have hcx : w.cell? ⟨b, off + k, none⟩ = some (eB bs[k]) := hcell k _ (by simp [hlt])
     have hg := gcOf_le (bs.take k)
     have hg2 : gcOf (bs.take k) ≤ k := by rw [List.length_take] at hg; omega
     have H := Lib.hid (gcOf_snoc bs k hlt)
     clear hcell hcs hg
     generalize hx : bs[k] = x at *
     have Hx := Lib.hid hx
     clear hx
     by_cases h1 : x = 67
     · have e1 : ((x.toNat : Int) == 67) = true := by subst h1; rfl
       have Hh := Lib.hid h1
       clear h1
       go_wp2
       go_round
       case rel => exact ⟨k + 1, by omega, by go_num, by rw [H.out, Hh.out]; go_num⟩
       case measure => simp [intOf]; omega
     · have e1 : ((x.toNat : Int) == 67) = false := by
         rw [beq_eq_false_iff_ne]; intro e; apply h1; apply UInt8.toNat_inj.1; simp; omega
       by_cases h2 : x = 71
       · have e2 : ((x.toNat : Int) == 71) = true := by subst h2; rfl
         have Hh := Lib.hid h2
         clear h1 h2
         go_wp2
         go_round
         case rel => exact ⟨k + 1, by omega, by go_num, by rw [H.out, Hh.out]; go_num⟩
         case measure => simp [intOf]; omega
       · have e2 : ((x.toNat : Int) == 71) = false := by
           rw [beq_eq_false_iff_ne]; intro e; apply h2; apply UInt8.toNat_inj.1; simp; omega
         have Hh1 := Lib.hid h1
         have Hh2 := Lib.hid h2
         clear h1 h2
         go_wp2
         go_round
         case rel => exact ⟨k + 1, by omega, by go_num, by rw [H.out]; simp [Hh1.out, Hh2.out]⟩
         case measure => simp [intOf]; omega
   · obtain rfl : k = bs.length := by omega
     go_wp2
     go_ret
     exact ⟨rfl, rfl⟩
end Go.Proofs.YtjclfkbhakjdaaaDoor.Bt
namespace Go.Proofs.YtjclfkbhakjdaaaDoor.Bt
open Go.RowKit Go.Shelf
attribute [local go_sem] Oper.semAt_some
end Go.Proofs.YtjclfkbhakjdaaaDoor.Bt
namespace Go.Proofs.YtjclfkbhakjdaaaDoor
open Go.Proofs.YtjclfkbhakjdaaaDoor.Bt
open Go.RowKit Go.Shelf
attribute [local go_sem] Oper.semAt_some
end Go.Proofs.YtjclfkbhakjdaaaDoor
namespace Go.Proofs.YtjclfkbhakjdaaaDoor.Bt
open Go.RowKit Go.Shelf
attribute [local go_sem] Oper.semAt_some
end Go.Proofs.YtjclfkbhakjdaaaDoor.Bt
namespace Go.Proofs.YtjclfkbhakjdaaaDoor
open Go.Proofs.YtjclfkbhakjdaaaDoor.Bt
open Go.RowKit Go.Shelf
attribute [local go_sem] Oper.semAt_some
theorem Sl.cell2 {α : Type} {enc : α → Value} {B : Nat} {W : World} {A : Option Addr} {len cap : Nat} {xs : List α} (h : Sl enc B W (.slice A len cap) xs) (hn : 0 < xs.length) :
    ∃ b off, A = some ⟨b, off, none⟩ ∧ ∀ j x, xs[j]? = some x → W.cell? ⟨b, off + j, none⟩ = some (enc x) := by
  obtain ⟨A', c', e, _, hcells⟩ := h
  cases e
  obtain ⟨b, off, e, hb, hcell⟩ := hcells hn
  exact ⟨b, off, e, hcell⟩
end Go.Proofs.YtjclfkbhakjdaaaDoor
namespace Go.Proofs.YtjclfkbhakjdaaaDoor.Bt
open Go.RowKit Go.Shelf
attribute [local go_sem] Oper.semAt_some
theorem fieldOf_get (b : List UInt8) (i : Nat) (h : i < b.length) : (fieldOf b)[i]'(by rw [fieldOf_length]; exact h) = clsOf i b[i].toNat := by simp [fieldOf]
theorem clsOf_bit (i : Nat) (c : UInt8) (h : c.toNat ≤ 1) : (c = 0 ∧ clsOf i c.toNat = clsOf i 0) ∨ (c = 1 ∧ clsOf i c.toNat = clsOf i 1) := by
 rcases (show c.toNat = 0 ∨ c.toNat = 1 by omega) with h | h
 · exact .inl ⟨UInt8.toNat_inj.1 h, by rw [h]⟩
 · exact .inr ⟨UInt8.toNat_inj.1 h, by rw [h]⟩
theorem field_at (b : List UInt8) (hb : ∀ c ∈ b, c.toNat ≤ 1) : ∀ y ∈ (fieldOf b).zipIdx, LetterAt y := by
 intro y hy
 obtain ⟨i, hi, rfl⟩ := List.mem_iff_getElem.1 hy
 rw [List.length_zipIdx, fieldOf_length] at hi
 simp only [List.getElem_zipIdx, Nat.zero_add, LetterAt]
 rw [fieldOf_get b i hi]
 rcases clsOf_bit i b[i] (hb _ (List.getElem_mem hi)) with ⟨_, e⟩ | ⟨_, e⟩
 · exact .inl e
 · exact .inr e
theorem back_field (b : List UInt8) (hb : ∀ c ∈ b, c.toNat ≤ 1) : (fieldOf b).zipIdx.map bitB = b := by
 apply List.ext_getElem
 · simp [fieldOf_length]
 · intro i h1 h2
   simp only [List.getElem_map, List.getElem_zipIdx, Nat.zero_add, bitB]
   rw [fieldOf_get b i h2]
   rcases clsOf_bit i b[i] (hb _ (List.getElem_mem h2)) with ⟨e0, e⟩ | ⟨e0, e⟩
   · rw [if_pos e, e0]
   · rw [if_neg (by rw [e]; exact (clsOf_ne i).symm), e0]
theorem clsOf_strong (i k : Nat) : (clsOf i k == 67 || clsOf i k == 71) = decide (i % 2 = 1) := by
 unfold clsOf
 rcases Nat.mod_two_eq_zero_or_one i with e | e
 · rw [if_pos e, e]
   split <;> decide
 · rw [if_neg (by omega), e]
   split <;> decide
theorem gc_field (b : List UInt8) : gcOf (fieldOf b) = b.length / 2 := by
 have h : ∀ k, k ≤ b.length → gcOf ((fieldOf b).take k) = k / 2 := by
  intro k
  induction k with
  | zero => intro _; simp [gcOf]
  | succ k ih =>
    intro hk
    rw [gcOf_snoc _ k (by rw [fieldOf_length]; exact hk), ih (by omega), fieldOf_get b k hk, clsOf_strong]
    simp only [decide_eq_true_eq]
    split <;> omega
 have := h b.length (Nat.le_refl _)
 rwa [List.take_of_length_le (by rw [fieldOf_length]; exact Nat.le_refl _)] at this
end Go.Proofs.YtjclfkbhakjdaaaDoor.Bt
namespace Go.Proofs.YtjclfkbhakjdaaaDoor.Bt
open Go.RowKit Go.Shelf
attribute [local go_sem] Oper.semAt_some
theorem bits_oru (n c : Nat) (h : 2 * n + 1 < 2 ^ 64) (hc : c ≤ 1) : bits .or .u64 ((2 * n : Nat) : Int) (c : Int) = ((2 * n + c : Nat) : Int) := by
 have h1 : (BitVec.ofInt IntKind.u64.bits ((2 * n : Nat) : Int) ||| BitVec.ofInt IntKind.u64.bits (c : Int)).toNat = 2 * n + c := by
  rw [BitVec.toNat_or, BitVec.toNat_ofInt, BitVec.toNat_ofInt]
  have e1 : (((2 * n : Nat) : Int) % ((2 ^ IntKind.u64.bits : Nat) : Int)).toNat = 2 * n := by
   show (((2 * n : Nat) : Int) % ((2 ^ 64 : Nat) : Int)).toNat = _
   omega
  have e2 : ((c : Int) % ((2 ^ IntKind.u64.bits : Nat) : Int)).toNat = c := by
   show ((c : Int) % ((2 ^ 64 : Nat) : Int)).toNat = _
   omega
  rw [e1, e2]
  exact (Nat.two_pow_add_eq_or_of_lt (i := 1) (b := c) (by omega) n).symm
 unfold bits
 simp only [h1]
 exact IntWalk.u64_in _ (by omega)
theorem vstep_nat (n : Nat) (c : UInt8) (h : 2 * n + 1 < 2 ^ 64) (hc : c.toNat ≤ 1) : vstep (n : Int) c = ((2 * n + c.toNat : Nat) : Int) := by
 unfold vstep
 rw [IntWalk.u64_in _ (by omega), IntWalk.u64_in _ (by omega), show (n : Int) * 2 = ((2 * n : Nat) : Int) by omega]
 exact bits_oru n c.toNat h hc
theorem vfold_nat : ∀ (bs : List UInt8) (n : Nat), (n + 1) * 2 ^ bs.length ≤ 2 ^ 64 → (∀ b ∈ bs, b.toNat ≤ 1) → bs.foldl vstep (n : Int) = ((bs.foldl (fun y c => 2 * y + c.toNat) n : Nat) : Int) := by
 intro bs
 induction bs with
 | nil => intros; rfl
 | cons c bs ih =>
   intro n hn hb
   have hc : c.toNat ≤ 1 := hb c (by simp)
   have hp : 1 ≤ 2 ^ bs.length := Nat.one_le_two_pow
   have h2 : (n + 1) * 2 * 2 ^ bs.length ≤ 2 ^ 64 := by
    have : (n + 1) * 2 ^ (c :: bs).length = (n + 1) * 2 * 2 ^ bs.length := by rw [List.length_cons, Nat.pow_succ]; simp only [Nat.mul_assoc, Nat.mul_comm]
    omega
   have h3 : (n + 1) * 2 ≤ (n + 1) * 2 * 2 ^ bs.length := Nat.le_mul_of_pos_right _ (by omega)
   rw [List.foldl_cons, vstep_nat n c (by omega) hc, List.foldl_cons]
   refine ih _ (Nat.le_trans (Nat.mul_le_mul_right _ (by omega)) h2) (fun b hb' => hb b (by simp [hb']))
theorem bitAt_toNat (x k : Nat) : (bitAt x k).toNat = x / 2 ^ k % 2 := by
 have : x / 2 ^ k % 2 < 2 := Nat.mod_lt _ (by omega)
 simp only [bitAt]
 generalize x / 2 ^ k % 2 = z at *
 simp; omega
theorem numOf_succ (x m : Nat) : numOf x (m + 1) = bitAt x m :: numOf x m := by
 simp only [numOf, List.range_succ_eq_map, List.map_cons, List.map_map]
 congr 1
 apply List.map_congr_left
 intro j _
 simp only [Function.comp]
 congr 1
 omega
theorem numOf_fold (x : Nat) : ∀ (m y : Nat), (numOf x m).foldl (fun y c => 2 * y + c.toNat) y = y * 2 ^ m + x % 2 ^ m := by
 intro m
 induction m with
 | zero => intro y; simp [numOf, Nat.mod_one]
 | succ m ih =>
   intro y
   rw [numOf_succ, List.foldl_cons, ih, bitAt_toNat, Nat.mod_pow_succ, Nat.pow_succ]
   generalize 2 ^ m = p
   generalize x / p % 2 = z
   generalize x % p = q
   rw [Nat.add_mul, show 2 * y * p = y * (p * 2) by rw [Nat.mul_comm 2 y, Nat.mul_assoc, Nat.mul_comm 2 p], Nat.mul_comm z p]
   omega
theorem numOf_length (x m : Nat) : (numOf x m).length = m := by simp [numOf]
theorem numOf_bits (x m : Nat) : ∀ b ∈ numOf x m, b.toNat ≤ 1 := by
 intro b hb
 simp only [numOf, List.mem_map] at hb
 obtain ⟨j, _, rfl⟩ := hb
 rw [bitAt_toNat]
 have : x / 2 ^ (m - 1 - j) % 2 < 2 := Nat.mod_lt _ (by omega)
 omega
theorem valI_num (x m : Nat) (hm : m ≤ 64) (hx : x < 2 ^ m) : valI (numOf x m) = (x : Int) := by
 have h := vfold_nat (numOf x m) 0 (by rw [numOf_length, Nat.zero_add, Nat.one_mul]; exact Nat.pow_le_pow_right (by omega) hm) (numOf_bits x m)
 unfold valI
 rw [show (0 : Int) = ((0 : Nat) : Int) from rfl, h, numOf_fold, Nat.zero_mul, Nat.zero_add, Nat.mod_eq_of_lt hx]
theorem bitLen_lt (x : Nat) (hx : x < 2 ^ 64) : x < 2 ^ Lib.bitLen x := by
 rcases Nat.lt_or_ge x (2 ^ Lib.bitLen x) with h | h
 · exact h
 exfalso
 have h1 := Lib.bitLen_shift _ x h hx
 have h2 : 0 < x / 2 ^ Lib.bitLen x := Nat.div_pos h (Nat.two_pow_pos _)
 have h3 := Lib.bitLen_half (x / 2 ^ Lib.bitLen x) (by omega) (Nat.lt_of_le_of_lt (Nat.div_le_self _ _) hx)
 omega
theorem bitLen_ge (x : Nat) (hx : x < 2 ^ 64) (h0 : 0 < Lib.bitLen x) : 2 ^ (Lib.bitLen x - 1) ≤ x := by
 rcases Nat.lt_or_ge x (2 ^ (Lib.bitLen x - 1)) with h | h
 · have h64 := Lib.bitLen_le x 64 (by omega) hx
   have := Lib.bitLen_le x _ (by omega) h
   omega
 · exact h
end Go.Proofs.YtjclfkbhakjdaaaDoor.Bt
