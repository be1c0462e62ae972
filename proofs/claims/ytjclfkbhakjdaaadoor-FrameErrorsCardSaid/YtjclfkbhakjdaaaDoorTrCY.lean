import Derived.Test.YtjclfkbhakjdaaaDoorTrBY
namespace Go.Proofs.YtjclfkbhakjdaaaDoor.Tr
open Go.RowKit Go.Shelf
attribute [local go_sem] Oper.semAt_some inProg_round inProg_depth
def trL (x : Nat) : List UInt8 := (List.range 26).map fun j => UInt8.ofNat (x / 3 ^ (25 - j) % 3)
theorem trL_length (x : Nat) : (trL x).length = 26 := by simp [trL]
theorem tr3_eq (x : Nat) : tr3 x 26 = ((trL x).map eB).toArray := by
 unfold tr3 trL
 congr 1
 rw [List.map_map]
 apply List.map_congr_left
 intro j _
 have h : x / 3 ^ (25 - j) % 3 < 3 := Nat.mod_lt _ (by omega)
 rw [if_pos (by omega)]
 simp only [Function.comp, eB]
 congr 2
 simp
 omega
def byL (x : Nat) : List UInt8 := (List.range 5).map fun j => UInt8.ofNat (x / 256 ^ (4 - j) % 256)
theorem byL_length (x : Nat) : (byL x).length = 5 := by simp [byL]
theorem by5_eq (x : Nat) : by5 x 5 = ((byL x).map eB).toArray := by
 unfold by5 byL
 congr 1
 rw [List.map_map]
 apply List.map_congr_left
 intro j _
 have h : x / 256 ^ (4 - j) % 256 < 256 := Nat.mod_lt _ (by omega)
 rw [if_pos (by omega)]
 simp only [Function.comp, eB]
 congr 2
 simp
theorem run_load_mid {P : Program} (w : World) (b off : Nat) (ty : TypeId) (L : List UInt8) (d : TypeDesc) (hc : ∀ j x, L[j]? = some x → w.cell? ⟨b, off + j, none⟩ = some (eB x))
    (hu : P.underlying ty = some d) (hd : (match d with | .struct _ | .array _ _ => true | _ => false) = true) (hi : (P.info? ty).map (·.size) = some L.length) :
    (loadVar ty ⟨b, off, none⟩).run P w = .ok (.agg (L.map eB).toArray) w := by
 have hl : (loadCells ⟨b, off, none⟩ (L.map eB).length).run P w = .ok (L.map eB).toArray w :=
  run_loadCells_list (P := P) w ⟨b, off, none⟩ (L.map eB) (fun j v hv => by
   have hadd : (⟨b, off, none⟩ : Addr).add j = ⟨b, off + j, none⟩ := by unfold Addr.add; split <;> simp_all
   rw [hadd]
   rw [List.getElem?_map, Option.map_eq_some_iff] at hv
   obtain ⟨x, hx, rfl⟩ := hv
   exact hc j x hx)
 cases hq : P.info? ty with
 | none => simp [hq] at hi
 | some i =>
   have hs : i.size = L.length := by simpa [hq] using hi
   have hagg : (isAgg ty).run P w = .ok true w := by
    unfold isAgg
    rw [Sem.run_bind, run_underlying hu w]
    cases d <;> simp_all
   rw [List.length_map] at hl
   simp [loadVar, Sem.run_bind, hagg, sizeOf, typeInfo, hq, hs, hl]
theorem wpListIn_load_mid {F : Fence} {nn : Nat} {P : Program} {ops : Array Oper} {rest : List Oper} {o : Oper} {a : Act} {w : World} {Q : Exit → Act → World → Prop} (hgd : o.guard = none) (ty : TypeId) (x : Operand) (ho : o.op = .load ty x)
    (b off : Nat) (hx : a.eval x = .pointer (some ⟨b, off, none⟩)) (L : List UInt8) (d : TypeDesc) (hc : ∀ j x, L[j]? = some x → w.cell? ⟨b, off + j, none⟩ = some (eB x))
    (hu : P.underlying ty = some d) (hd : (match d with | .struct _ | .array _ _ => true | _ => false) = true) (hi : (P.info? ty).map (·.size) = some L.length)
    (h : wpListIn F nn P ops Q rest (a.put o.dst (.agg (L.map eB).toArray)) w) : wpListIn F nn P ops Q (o :: rest) a w := by
 refine wpListIn_plain hgd fun K hK => ?_
 unfold Oper.wpIn
 refine ⟨by simp [Oper.about, ho], ?_⟩
 have e : (o.semAt F.round a.eval).run P w = .ok (.value (.agg (L.map eB).toArray)) w := by
  have h0 : o.semAt F.round a.eval = o.semAt none a.eval := by simp [Oper.semAt, ho]
  rw [h0]
  simp only [Oper.semAt, execOp, ho, hx, Instr.loadAt, Instr.sureAddr, Sem.run_bind, Sem.run_pure, Result.andThen_ok, run_load_mid w b off ty L d hc hu hd hi]
 rw [e]
 exact hK _ _ h
theorem arr_run {P : Program} {t : TypeId} {m : Nat} {e : TypeId} (ht : P.underlying t = some (.array m e)) (a : Option Addr) (c : Nat) (w : World) : (Instr.arrayAt t (.slice a m c)).run P w = .ok (.pointer a) w := by
 simp [Instr.arrayAt, Sem.run_bind, run_underlying ht, Result.andThen]
theorem arr_slice {P : Program} {t : TypeId} {m : Nat} {e : TypeId} (ht : P.underlying t = some (.array m e)) (he : (P.info? e).map (·.size) = some 1) (g : Nat) (w : World) :
    (Instr.sliceAt t (.pointer (some ⟨g, 0, none⟩)) none none none).run P w = .ok (.slice (some ⟨g, 0, none⟩) m m) w := by
  cases hq : P.info? e with
  | none => rw [hq] at he; cases he
  | some i => simp [Instr.sliceAt, Sem.run_bind, run_underlying ht, Result.andThen, Instr.sureAddr, Instr.sliceBounds, sizeOf, typeInfo, hq, Addr.add]
theorem sl_row {W : World} {g : Nat} {t : TypeId} {L : List UInt8} {fr : Nat × Nat} (h : W.heap[g]? = some (.cells (L.map eB).toArray t fr)) (B : Nat) (hB : g < B) (m : Nat) (hm : L.length = m) : Sl eB B W (.slice (some ⟨g, 0, none⟩) m m) L := by
 subst hm
 refine ⟨_, _, rfl, Nat.le_refl _, fun _ => ⟨g, 0, rfl, hB, fun j x hx => ?_⟩⟩
 simp [World.cell?, h, hx]
theorem of5 (L : List UInt8) (h : L.length = 5) : ∃ b0 b1 b2 b3 b4, L = [b0, b1, b2, b3, b4] := by
 match L, h with
 | [b0, b1, b2, b3, b4], _ => exact ⟨_, _, _, _, _, rfl⟩
def BlockOk (many : Nat) (bf : Nat) (lb : Array Value) (g : List UInt8 → Except Int (List UInt8)) : Prop :=
 ∀ (n : Nat) (w : World) (b off : Nat) (L : List UInt8), L.length = many → (∀ j x, L[j]? = some x → w.cell? ⟨b, off + j, none⟩ = some (eB x)) →
   CallsIn (Fence.inProg Tryd.prog) n Tryd.prog bf (#[.slice (some ⟨b, off, none⟩) many many] ++ lb) w fun e w' => Below w.heap.size w w' ∧
     ((∃ v r, g L = .ok r ∧ e = .returned v ∧ Sl eB w'.heap.size w' v r ∧ r.length ≤ 26) ∨ ∃ k, g L = .error k ∧ e = .panicked (errno k))
theorem infoz26 : (Tryd.prog.info? 70).map (·.size) = some 26 := by kernel_rfl
theorem infoz5 : (Tryd.prog.info? 72).map (·.size) = some 5 := by kernel_rfl
set_option maxRecDepth 1000000 in
set_option maxHeartbeats 4000000 in
theorem Pack1_in : BlockOk 5 49 #[] (fun L => .ok (trL (nb L 5))) := by
 intro n w b off L hl hc
 obtain ⟨hz, hsz⟩ := zero_of_info info26
 have hc0 : (Value.agg z26).cells = z26 := rfl
 have hsr : (Tryd.prog.info? 72).map (·.size) = some L.length := by rw [hl]; exact infoz5
 obtain ⟨b0, b1, b2, b3, b4, rfl⟩ := of5 L hl
 refine callsIn_of_wp Tryd.func49 rfl ⟨_, Tryd.func49⟩ ?_ rfl
 simp only [Tryd.ntmps49, List.size_toArray, List.length_cons, List.length_nil, Nat.reduceAdd, Nat.reduceSub, Array.replicate_succ, Array.replicate_zero, List.push_toArray, List.append_toArray, List.nil_append, List.cons_append]
 have har := arr_run (P := Tryd.prog) Tryd.underlying72 (some ⟨b, off, none⟩) 5
 gi_wp2_with (refine wpListIn_load_mid rfl 72 (.tmp 5) rfl b off rfl [b0, b1, b2, b3, b4] _ hc Tryd.underlying72 rfl hsr ?_)
 refine ⟨⟨_, Tryd.func50⟩, ?_⟩
 gi_at_call 50
 refine (Five_in b0 b1 b2 b3 b4 _ w).mono ?_
 rintro e w1 ⟨rfl, hB1⟩
 have hB2 := hB1.alloc (hB1.size) (.cells z26 70)
 have hr2 := Rowed.new w1 70 z26
 have hsl := arr_slice (P := Tryd.prog) Tryd.underlying70 size1 w1.heap.size
 obtain ⟨x, hx⟩ : ∃ x, nb [b0, b1, b2, b3, b4] 5 = x := ⟨_, rfl⟩
 have hs2 : (Tryd.prog.info? 70).map (·.size) = some (tr3 x 26).size := by rw [hsz, tr3_size]
 rw [hx]
 gi_wp2_with (refine wpListIn_store_row rfl 70 (.tmp 3) (.tmp 7) rfl w1.heap.size (tr3 x 26) rfl rfl _ z26 hr2 hs2 (by rw [tr3_size]; rfl) (tr3_one x 26) ?_)
 have hrow := setRow_heap (w1.alloc (.cells z26 70)) w1.heap.size z26 (tr3 x 26) _ _ hr2
 have hB3 : Below w.heap.size w ((w1.alloc (.cells z26 70)).setRow w1.heap.size (tr3 x 26)) :=
  hB2.trans ⟨rfl, rfl, rfl, by simp, fun k hk => setRow_other _ w1.heap.size k _ (by have := hB1.size; omega)⟩
 rw [tr3_eq] at hrow hB3 ⊢
 refine bodyPost_ret (results_tmp rfl _ _ _) rfl ⟨hB3, .inl ⟨_, trL x, by rw [hx], rfl, sl_row hrow _ (by simp) 26 (trL_length x), by rw [trL_length]; omega⟩⟩
def backG (L : List UInt8) : Except Int (List UInt8) :=
 if (L.any fun c => decide (2 < c.toNat)) then .error 2 else if 1099511627776 ≤ nt3 L 26 then .error 80 else .ok (byL (nt3 L 26))
theorem any_of (L : List UInt8) (hl : L.length = 26) : (L.any fun c => decide (2 < c.toNat)) = true ↔ ∃ j, j < 26 ∧ 2 < (nb.C8 L j).toNat := by
 rw [List.any_eq_true]
 constructor
 · rintro ⟨c, hc, h⟩
   obtain ⟨j, hj, rfl⟩ := List.mem_iff_getElem.1 hc
   exact ⟨j, by omega, by simpa [nb.C8, hj] using h⟩
 · rintro ⟨j, hj, h⟩
   have hj' : j < L.length := by omega
   exact ⟨L[j], List.getElem_mem _, by simpa [nb.C8, hj'] using h⟩
set_option maxRecDepth 1000000 in
set_option maxHeartbeats 4000000 in
theorem Unpack1_in : BlockOk 26 89 #[] backG := by
 intro n w b off L hl hc
 obtain ⟨hz, hsz⟩ := zero_of_info info5
 have hc0 : (Value.agg z5).cells = z5 := rfl
 have hsr : (Tryd.prog.info? 70).map (·.size) = some L.length := by rw [hl]; exact infoz26
 have hbk := fun n w => back_in L hl n w
 have hany := any_of L hl
 refine callsIn_of_wp Tryd.func89 rfl ⟨_, Tryd.func89⟩ ?_ rfl
 simp only [Tryd.ntmps89, List.size_toArray, List.length_cons, List.length_nil, Nat.reduceAdd, Nat.reduceSub, Array.replicate_succ, Array.replicate_zero, List.push_toArray, List.append_toArray, List.nil_append, List.cons_append]
 have har := arr_run (P := Tryd.prog) Tryd.underlying70 (some ⟨b, off, none⟩) 26
 have Hl := Lib.hid hl
 clear hl
 gi_wp2_with (refine wpListIn_load_mid rfl 70 (.tmp 5) rfl b off rfl L _ hc Tryd.underlying70 rfl hsr ?_)
 refine ⟨⟨_, Tryd.func90⟩, ?_⟩
 gi_at_call 90
 refine (hbk _ w).mono ?_
 rintro e w1 ⟨hB1, ⟨hj, rfl⟩ | ⟨hno, ⟨hbig, rfl⟩ | ⟨hsm, rfl⟩⟩⟩
 · exact ⟨rfl, hB1, .inr ⟨2, by rw [backG, if_pos (hany.2 hj)], rfl⟩⟩
 · exact ⟨rfl, hB1, .inr ⟨80, by rw [backG, if_neg (fun h => by obtain ⟨j, h1, h2⟩ := hany.1 h; have := hno j h1; omega), if_pos hbig], rfl⟩⟩
 · have hg : backG L = .ok (byL (nt3 L 26)) := by rw [backG, if_neg (fun h => by obtain ⟨j, h1, h2⟩ := hany.1 h; have := hno j h1; omega), if_neg (by omega)]
   have Hg := Lib.hid hg
   clear hg hno hsm hany
   generalize nt3 L 26 = x at *
   have hB2 := hB1.alloc (hB1.size) (.cells z5 72)
   have hr2 := Rowed.new w1 72 z5
   have hsl := arr_slice (P := Tryd.prog) Tryd.underlying72 size1 w1.heap.size
   have hs2 : (Tryd.prog.info? 72).map (·.size) = some (by5 x 5).size := by rw [hsz, by5_size]
   gi_wp2_with (refine wpListIn_store_row rfl 72 (.tmp 3) (.tmp 7) rfl w1.heap.size (by5 x 5) rfl rfl _ z5 hr2 hs2 (by rw [by5_size]; rfl) (by5_one x 5) ?_)
   have hrow := setRow_heap (w1.alloc (.cells z5 72)) w1.heap.size z5 (by5 x 5) _ _ hr2
   have hB3 : Below w.heap.size w ((w1.alloc (.cells z5 72)).setRow w1.heap.size (by5 x 5)) :=
    hB2.trans ⟨rfl, rfl, rfl, by simp, fun k hk => setRow_other _ w1.heap.size k _ (by have := hB1.size; omega)⟩
   rw [by5_eq] at hrow hB3 ⊢
   refine bodyPost_ret (results_tmp rfl _ _ _) rfl ⟨hB3, .inl ⟨_, byL x, Hg.out, rfl, sl_row hrow _ (by simp) 5 (byL_length x), by rw [byL_length]; omega⟩⟩
end Go.Proofs.YtjclfkbhakjdaaaDoor.Tr
