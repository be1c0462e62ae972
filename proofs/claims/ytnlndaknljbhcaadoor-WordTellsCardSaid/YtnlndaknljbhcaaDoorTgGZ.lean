/- A contract of helixref02.Edits: whatever its rows, each is of a kind of the four and by a letter where it has one. -/
import Derived.BigQuiet
import Derived.Test.YtnlndaknljbhcaaDoorTgCZ
namespace Go.Proofs.YtnlndaknljbhcaaDoor
open Go.RowKit Go.Shelf
attribute [local go_sem] Oper.semAt_some run_store_func

/-- An edit's three fields; what is known of one. -/
structure Ed where
  k : Int
  z : Int
  b : UInt8
def Ed.Ok (d : Ed) : Prop := (d.k = 0 ∨ d.k = 1 ∨ d.k = 2 ∨ d.k = 3) ∧ (d.k = 0 ∨ d.k = 1 ∨ codeOf d.b.toNat ≠ -1)
def flatE (l : List Ed) : List Value := l.flatMap fun d => [.int .u8 d.k, .int .i64 d.z, eB d.b]
theorem flatE_snoc (l : List Ed) (d : Ed) : flatE (l ++ [d]) = flatE l ++ [.int .u8 d.k, .int .i64 d.z, eB d.b] := by simp [flatE]
theorem flatE_at (l : List Ed) (i : Nat) (d : Ed) (h : l[i]? = some d) : (flatE l)[3 * i]? = some (.int .u8 d.k) ∧ (flatE l)[3 * i + 1]? = some (.int .i64 d.z) ∧ (flatE l)[3 * i + 2]? = some (eB d.b) := by
  induction l generalizing i with
  | nil => simp at h
  | cons a l ih =>
    rcases i with _ | i
    · simp at h
      subst h
      simp [flatE]
    · have := ih i (by simpa using h)
      have e : flatE (a :: l) = [.int .u8 a.k, .int .i64 a.z, eB a.b] ++ flatE l := rfl
      refine ⟨?_, ?_, ?_⟩
      · rw [e, List.getElem?_append_right (by simp; omega), show 3 * (i + 1) - [Value.int .u8 a.k, .int .i64 a.z, eB a.b].length = 3 * i by simp; omega]
        exact this.1
      · rw [e, List.getElem?_append_right (by simp; omega), show 3 * (i + 1) + 1 - [Value.int .u8 a.k, .int .i64 a.z, eB a.b].length = 3 * i + 1 by simp; omega]
        exact this.2.1
      · rw [e, List.getElem?_append_right (by simp; omega), show 3 * (i + 1) + 2 - [Value.int .u8 a.k, .int .i64 a.z, eB a.b].length = 3 * i + 2 by simp; omega]
        exact this.2.2
/-- A row of edits of one's own, at most m of them. -/
def RowE (B : Nat) (W : World) (v : Value) (m : Nat) : Prop := ∃ l : List Ed, l.length ≤ m ∧ ((∀ d ∈ l, d.Ok) ∧ 1 ≤ l.length) ∧ W.ownsRow B 38 3 v l.length (flatE l)
theorem below_grownE {B : Nat} {W W1 : World} {v : Value} {base : Nat} {n : Nat} {xs : List Value} (hown : W.ownsRow base 38 3 v n xs) (hg : W.grownBy W1 v.ownBlock) (hB : B ≤ W.heap.size) (hb : B ≤ base) : Below B W W1 :=
  (Below.refl B W).grown hg hB fun k hk => Nat.le_trans hb (hown.lt k hk).1
theorem info_ed : (Tryd.prog.info? 38).map (fun i => (i.zero, i.size, i.bytes)) = some (some (.agg #[.int .u8 0, .int .i64 0, .int .u8 0]), 3, 24) := by kernel_rfl
theorem cells_three (w : World) (a b c : Value) : ∀ j u, ([a, b, c] : List Value)[j]? = some u → (w.alloc (.cells #[a, b, c] 38)).cell? ((⟨w.heap.size, 0, none⟩ : Addr).add j) = some u := by
  intro j u h
  have := (Rowed.new w 38 #[a, b, c]).cell j
  have e : ((⟨w.heap.size, 0, none⟩ : Addr).add j) = ⟨w.heap.size, j, none⟩ := by rcases j with _ | j <;> simp [Addr.add]
  rw [e, this]
  simpa using h
theorem codes_letters (k : Nat) (hk : k < 4) : codeOf (lett k).toNat ≠ -1 := by
  rcases (show k = 0 ∨ k = 1 ∨ k = 2 ∨ k = 3 by omega) with rfl | rfl | rfl | rfl <;> decide
theorem run_acgt (k : Nat) (hk : k < 4) (w : World) : (Instr.index 9 (.string ⟨#[65, 67, 71, 84]⟩) (.int .i64 k)).run Tryd.prog w = .ok (eB (lett k)) w := by
  rcases (show k = 0 ∨ k = 1 ∨ k = 2 ∨ k = 3 by omega) with rfl | rfl | rfl | rfl
  · have h : (Instr.index 9 (.string ⟨#[65, 67, 71, 84]⟩) (.int .i64 0)).run Tryd.prog w = .ok (.int .u8 65) w := by kernel_rfl
    exact h
  · have h : (Instr.index 9 (.string ⟨#[65, 67, 71, 84]⟩) (.int .i64 1)).run Tryd.prog w = .ok (.int .u8 67) w := by kernel_rfl
    exact h
  · have h : (Instr.index 9 (.string ⟨#[65, 67, 71, 84]⟩) (.int .i64 2)).run Tryd.prog w = .ok (.int .u8 71) w := by kernel_rfl
    exact h
  · have h : (Instr.index 9 (.string ⟨#[65, 67, 71, 84]⟩) (.int .i64 3)).run Tryd.prog w = .ok (.int .u8 84) w := by kernel_rfl
    exact h
theorem row_first (w : World) : (w.alloc (.cells #[.int .u8 0, .int .i64 0, .int .u8 0] 38)).ownsRow w.heap.size 38 3 (.slice (some ⟨w.heap.size, 0, none⟩) 1 1) 1 [.int .u8 0, .int .i64 0, .int .u8 0] :=
  ⟨rfl, .inr ⟨w.heap.size, 1, #[.int .u8 0, .int .i64 0, .int .u8 0], rfl, Nat.le_refl _, Rowed.new w 38 _, Nat.le_refl _, by unfold maxLen; omega, rfl, rfl⟩⟩

theorem RowE.alloc {B : Nat} {W : World} {v : Value} {m : Nat} (h : RowE B W v m) (o : Obj) : RowE B (W.alloc o) v m := by
  obtain ⟨l, h1, h2, h3⟩ := h
  exact ⟨l, h1, h2, h3.alloc o⟩
theorem RowE.mono {B : Nat} {W : World} {v : Value} {m n : Nat} (h : RowE B W v m) (hn : m ≤ n) : RowE B W v n := by
  obtain ⟨l, h1, h2, h3⟩ := h
  exact ⟨l, by omega, h2, h3⟩
theorem wpList_push {ops : Array Oper} {rest : List Oper} {o : Oper} {a : Act} {w : World} {Q : Exit → Act → World → Prop} (hgd : o.guard = none) (s x : Operand)
    (ho : o.op = .call { callee := .builtin .append, args := #[s, x], argTypes := #[43, 43] }) (v : Value) (B m g : Nat) (d : Ed) (hrow : RowE B w v m) (hm : m ≤ 300) (hd : d.Ok)
    (hs : a.eval s = v) (hx : a.eval x = .slice (some ⟨g, 0, none⟩) 1 1) (hnews : ∀ j u, ([.int .u8 d.k, .int .i64 d.z, eB d.b] : List Value)[j]? = some u → w.cell? ((⟨g, 0, none⟩ : Addr).add j) = some u) (hB : B ≤ w.heap.size)
    (h : ∀ v' w', RowE B w' v' (m + 1) → Below B w w' → wpList Tryd.prog ops Q rest (a.put o.dst v') w') : wpList Tryd.prog ops Q (o :: rest) a w := by
  obtain ⟨i0, hi, hz0, hz1, hz2⟩ := info_parts info_ed
  obtain ⟨l, h1, h2, h3⟩ := hrow
  refine wpList_append_own w hgd s x 43 ho B 38 i0 _ 3 24 Tryd.underlying43 hi hz0 hz1 hz2 (by decide) (by decide) v l.length (flatE l) hs h3 ⟨g, 0, none⟩ 1 1 _ hx rfl hnews (by simp [Value.oneCell']) (by unfold maxLen; omega) (by omega) hB ?_
  intro v' w' hown hg _
  refine h v' w' ⟨l ++ [d], by simp; omega, ⟨?_, by simp⟩, ?_⟩ (below_grownE h3 hg hB (Nat.le_refl _))
  · intro e he
    rcases List.mem_append.1 he with he | he
    · exact h2.1 e he
    · rw [List.mem_singleton.1 he]; exact hd
  · rw [flatE_snoc, List.length_append]
    exact hown
set_option maxRecDepth 100000 in
set_option maxHeartbeats 4000000 in
theorem Edits_any (sv : Value) (s : List UInt8) (hl : s.length ≤ 20) (w : World) (hS : Sl eB w.heap.size w sv s) :
    Calls Tryd.prog 27 #[sv] w fun e w' => ∃ v, e = .returned v ∧ RowE w.heap.size w' v 200 ∧ Below w.heap.size w w' := by
  obtain ⟨i0, hi, hz0, hz1, hz2⟩ := info_parts info_ed
  obtain ⟨A, cap, rfl⟩ := hS.len
  have hidx := fun (k : Nat) (hk : k < 4) w => run_acgt k hk w
  have hbd0 : ∀ w, (Instr.build 38 #[]).run Tryd.prog w = .ok (.agg #[.int .u8 0, .int .i64 0, .int .u8 0]) w := fun _ => by kernel_rfl
  have hbd1 : ∀ (z : Int) w, (Instr.build 38 #[(0, .int .u8 1), (1, .int .i64 z)]).run Tryd.prog w = .ok (eD 1 z 0) w := fun _ _ => by kernel_rfl
  have hbd2 : ∀ (z : Int) (b : UInt8) w, (Instr.build 38 #[(0, .int .u8 2), (1, .int .i64 z), (2, eB b)]).run Tryd.prog w = .ok (eD 2 z b) w := fun _ _ _ => by kernel_rfl
  have hbd3 : ∀ (z : Int) (b : UInt8) w, (Instr.build 38 #[(0, .int .u8 3), (1, .int .i64 z), (2, eB b)]).run Tryd.prog w = .ok (eD 3 z b) w := fun _ _ _ => by kernel_rfl
  have Hl := Lib.hid hl
  clear hl
  go_enter Tryd.func27, Tryd.ntmps27
  go_wp2_with fail
  go_loopw [4, 5] (fun v i wr => ∃ k : Nat, k ≤ s.length ∧ i = .int .i64 k ∧ RowE w.heap.size wr v (1 + 5 * k) ∧ Below w.heap.size w wr) (fun _ i _ => s.length - (intOf i).toNat)
  case atStart =>
    refine ⟨0, Nat.zero_le _, rfl, ⟨[⟨0, 0, 0⟩], by simp, by simp [Ed.Ok], ?_⟩, below_alloc w _⟩
    exact row_first w
  case round =>
    obtain ⟨k, hk, rfl, hrow, hB⟩ := hrel
    by_cases hlt : k < s.length
    · have hcx : ∀ W, Below w.heap.size w W → ∃ bk off, A = some ⟨bk, off, none⟩ ∧ W.cell? ⟨bk, off + k, none⟩ = some (eB (atB s k)) := by
        intro W hW
        obtain ⟨A', c', e, hc, hcs⟩ := hS
        injection e with e1 e2 e3
        subst e1 e3
        obtain ⟨bk, off, e4, hb, hcell⟩ := hcs (by omega)
        exact ⟨bk, off, e4, (hW.cell (p := ⟨bk, off + k, none⟩) hb).trans (hcell k _ (atB_lt hlt))⟩
      have Hlt := Lib.hid hlt
      have hk20 : k ≤ 20 := by have := Hl.out; omega
      go_wp2_with (at_builtin; refine wpList_push rfl _ _ rfl _ w.heap.size _ wr.heap.size ⟨1, k, 0⟩ (hrow.alloc _) (by have := Hl.out; omega) (by simp [Ed.Ok]) rfl rfl (cells_three _ _ _ _) (by have := hB.size; simp; omega) ?_; intro v1 w1 hr1 hB1)
      have hB2 := (hB.alloc hB.size _).trans hB1
      clear hrow hB1
      go_loopw [4, 6] (fun v i wr => ∃ j : Nat, j ≤ 4 ∧ i = .int .i64 j ∧ RowE w.heap.size wr v (1 + 5 * k + 1 + j) ∧ Below w.heap.size w wr) (fun _ i _ => 4 - (intOf i).toNat)
      case atStart => exact ⟨0, by omega, rfl, hr1, hB2⟩
      case round =>
        obtain ⟨j, hj, rfl, hrow, hB⟩ := hrel
        by_cases hj4 : j < 4
        · have hix := fun W => hidx j hj4 W
          clear hidx
          have Hc := Lib.hid (codes_letters j hj4)
          obtain ⟨bk, off, rfl, hcell⟩ := hcx _ hB
          clear hcx hS
          have hkl : (k : Int) < s.length := by omega
          by_cases hne : atB s k = lett j
          · have hq : (((atB s k).toNat : Int) != ((lett j).toNat : Int)) = false := by rw [hne]; simp
            clear hne
            generalize atB s k = c at *
            generalize lett j = d at *
            go_wp2_with fail
            go_quiet (fail)
            have hrd : RowE w.heap.size (wr.drewN nq) u4 (1 + 5 * k + 1 + j) := hrow
            have hBd : Below w.heap.size w (wr.drewN nq) := hB.trans ⟨rfl, rfl, rfl, Nat.le_refl _, fun _ _ => rfl⟩
            clear hrow hB
            generalize wr.drewN nq = wd at *
            go_wp2_with fail
            go_roundw
            case rel => exact ⟨j + 1, by omega, by go_num, hrd.mono (by omega), hBd⟩
            case measure => simp [intOf]; omega
          · have hq : (((atB s k).toNat : Int) != ((lett j).toNat : Int)) = true := byte_neq hne
            clear hne
            generalize atB s k = c at *
            generalize lett j = d at *
            go_wp2_with fail
            go_quiet (fail)
            have hrd : RowE w.heap.size (wr.drewN nq) u4 (1 + 5 * k + 1 + j) := hrow
            have hBd : Below w.heap.size w (wr.drewN nq) := hB.trans ⟨rfl, rfl, rfl, Nat.le_refl _, fun _ _ => rfl⟩
            clear hrow hB
            generalize wr.drewN nq = wd at *
            go_wp2_with (at_builtin; refine wpList_push rfl _ _ rfl _ w.heap.size _ wd.heap.size ⟨3, k, d⟩ (hrd.alloc _) (by have := Hl.out; omega) ⟨.inr (.inr (.inr rfl)), .inr (.inr Hc.out)⟩ rfl rfl (cells_three _ _ _ _) (by have := hBd.size; simp; omega) ?_; intro v1 w1 hr1 hB1)
            have hB2 := (hBd.alloc hBd.size _).trans hB1
            go_roundw
            case rel => exact ⟨j + 1, by omega, by go_num, hr1, hB2⟩
            case measure => simp [intOf]; omega
        · obtain rfl : j = 4 := by omega
          go_wp2_with fail
          go_roundw
          case rel => exact ⟨k + 1, by omega, by go_num, hrow.mono (by omega), hB⟩
          case measure => simp [intOf]; omega
    · obtain rfl : k = s.length := by omega
      go_wp2_with fail
      go_loopw [4, 7] (fun v i wr => ∃ k : Nat, k ≤ s.length + 1 ∧ i = .int .i64 k ∧ RowE w.heap.size wr v (101 + 4 * k) ∧ Below w.heap.size w wr) (fun _ i _ => s.length + 1 - (intOf i).toNat)
      case atStart => exact ⟨0, Nat.zero_le _, rfl, hrow.mono (by have := Hl.out; omega), hB⟩
      case round =>
        obtain ⟨k, hk, rfl, hrow, hB⟩ := hrel
        by_cases hlt : k ≤ s.length
        · have hkl : (k : Int) ≤ s.length := by omega
          have Hlt := Lib.hid hlt
          have hk20 : k ≤ 20 := by have := Hl.out; omega
          go_wp2_with fail
          go_loopw [4, 8] (fun v i wr => ∃ j : Nat, j ≤ 4 ∧ i = .int .i64 j ∧ RowE w.heap.size wr v (101 + 4 * k + j) ∧ Below w.heap.size w wr) (fun _ i _ => 4 - (intOf i).toNat)
          case atStart => exact ⟨0, by omega, rfl, hrow, hB⟩
          case round =>
            obtain ⟨j, hj, rfl, hrow, hB⟩ := hrel
            by_cases hj4 : j < 4
            · have hix := fun W => hidx j hj4 W
              clear hidx
              have Hc := Lib.hid (codes_letters j hj4)
              generalize lett j = d at *
              go_wp2_with (at_builtin; refine wpList_push rfl _ _ rfl _ w.heap.size _ wr.heap.size ⟨2, k, d⟩ (hrow.alloc _) (by have := Hl.out; omega) ⟨.inr (.inr (.inl rfl)), .inr (.inr Hc.out)⟩ rfl rfl (cells_three _ _ _ _) (by have := hB.size; simp; omega) ?_; intro v1 w1 hr1 hB1)
              have hB2 := (hB.alloc hB.size _).trans hB1
              go_roundw
              case rel => exact ⟨j + 1, by omega, by go_num, hr1, hB2⟩
              case measure => simp [intOf]; omega
            · obtain rfl : j = 4 := by omega
              go_wp2_with fail
              go_roundw
              case rel => exact ⟨k + 1, by omega, by go_num, hrow.mono (by omega), hB⟩
              case measure => simp [intOf]; omega
        · obtain rfl : k = s.length + 1 := by omega
          go_wp2_with fail
          go_ret
          exact ⟨_, rfl, hrow.mono (by have := Hl.out; omega), hB⟩
end Go.Proofs.YtnlndaknljbhcaaDoor
/- A contract of helixref02.Apply by any edit of a row; the words that are two edits from a word and as long. -/
namespace Go.Proofs.YtnlndaknljbhcaaDoor
open Go.RowKit Go.Shelf
attribute [local go_sem] Oper.semAt_some run_store_func

set_option maxRecDepth 100000 in
set_option maxHeartbeats 4000000 in
theorem Apply_none (sv : Value) (s : List UInt8) (z : Int) (b : UInt8) (h0 : 0 < s.length) (hl : s.length ≤ 1000) (w : World) (hS : Sl eB w.heap.size w sv s) :
    Calls Tryd.prog 25 #[sv, eD 0 z b] w fun e w' => ∃ v, e = .returned v ∧ Sl eB w'.heap.size w' v s ∧ Below w.heap.size w w' := by
  obtain ⟨i0, hi, hz0, hz1, hz2⟩ := info_parts info_u8
  obtain ⟨A, c, rfl⟩ := hS.len
  have hcl : (eD 0 z b).cells = cD 0 z b := rfl
  have hr := Rowed.new w 38 (cD 0 z b)
  have hA := below_alloc w (.cells (cD 0 z b) 38)
  have hS0 := hS.below hA
  have hlt := hr.lt
  have hne0 : ((s.length : Int) == 0) = false := by rw [beq_eq_false_iff_ne]; omega
  have Hl := Lib.hid hl
  clear hl h0
  go_enter Tryd.func25, Tryd.ntmps25
  go_upto_region 1 with fail
  generalize w.alloc (.cells (cD 0 z b) 38) = w0 at *
  have hrow := row_made w0
  have hA1 := hA.alloc hA.size (.cells #[] 5)
  have hS1 : Sl eB w.heap.size (w0.alloc (.cells #[] 5)) (.slice A s.length c) s := hS0.below ((Below.refl _ w0).alloc hA.size _)
  have hr1 := hr.alloc (.cells #[] 5)
  have hlt1 := hr1.lt
  go_wp2_with
    (at_builtin
     refine wpList_append_sl _ rfl (.tmp 8) (.tmp 9) _ rfl w0.heap.size 5 i0 (.int .u8 0) 1 Tryd.underlying22 hi hz0 hz1 hz2 rfl _ 0 [] hrow rfl w.heap.size _ s hS1 rfl (fun _ => rfl) (by have := Hl.out; unfold maxLen; omega) (by have := Hl.out; omega) (by simp) ?_
     intro v1 w1 hown1 hg1 hat1
     have hr2 : Rowed w1 w.heap.size 38 (cD 0 z b) := (hg1.block _ hlt1 (by simp [Value.ownBlock]; omega)).trans hr1
     have k0 := hr2.cell 0
     have k1 := hr2.cell 1)
  go_ret
  exact ⟨_, rfl, Sl.of_own (n := s.length) (by simpa using hown1), hA1.trans (below_grown hrow hg1 hA1.size (by have := hA.size; omega))⟩

/-- One edit from a word. -/
def OneE (s y : List UInt8) : Prop :=
  y = s ∨ (∃ p b, p < s.length ∧ codeOf b.toNat ≠ -1 ∧ y = s.set p b) ∨ (∃ p, p < s.length ∧ y = delW s p) ∨ ∃ p b, p ≤ s.length ∧ codeOf b.toNat ≠ -1 ∧ y = insW s p b
theorem Apply_ed (s : List UInt8) (d : Ed) (hd : d.Ok) (h0 : 0 < s.length) (hl : s.length ≤ 100) :
    ∃ y, OneE s y ∧ ∀ sv w, Sl eB w.heap.size w sv s → Calls Tryd.prog 25 #[sv, eD d.k d.z d.b] w fun e w' => ∃ v, e = .returned v ∧ Sl eB w'.heap.size w' v y ∧ Below w.heap.size w w' := by
  obtain ⟨k, z, b⟩ := d
  obtain ⟨hk, hb⟩ := hd
  simp only at hk hb
  rcases hk with rfl | rfl | rfl | rfl
  · exact ⟨s, .inl rfl, fun sv w h => Apply_none sv s z b h0 (by omega) w h⟩
  · obtain ⟨p, hp, hat⟩ := at_is z s.length h0 (by omega)
    exact ⟨delW s p, .inr (.inr (.inl ⟨p, hp, rfl⟩)), fun sv w h => Apply_gap sv s z b p h0 (by omega) hp hat w h⟩
  · obtain ⟨p, hp, hat⟩ := at_is z (s.length + 1) (by omega) (by omega)
    exact ⟨insW s p b, .inr (.inr (.inr ⟨p, b, by omega, by omega, rfl⟩)), fun sv w h => Apply_more sv s z b p h0 (by omega) (by omega) hat w h⟩
  · obtain ⟨p, hp, hat⟩ := at_is z s.length h0 (by omega)
    exact ⟨s.set p b, .inr (.inl ⟨p, b, hp, by omega, rfl⟩), fun sv w h => Apply_swap sv s z b p h0 (by omega) hp hat w h⟩
end Go.Proofs.YtnlndaknljbhcaaDoor
/- Mathematics: of the words two edits from a word and as long none has its sums. -/
namespace Go.Proofs.YtnlndaknljbhcaaDoor
open Go.RowKit Go.Shelf

theorem ext_atB {x y : List UInt8} (hl : x.length = y.length) (h : ∀ k, k < x.length → atB x k = atB y k) : x = y := by
  apply List.ext_getElem hl
  intro k h1 h2
  have := h k h1
  simp only [atB, List.getElem?_eq_getElem h1, List.getElem?_eq_getElem h2, Option.getD_some] at this
  exact this
theorem ins_del_same (x : List UInt8) (p : Nat) (b : UInt8) (hp : p ≤ x.length) : delW (insW x p b) p = x := by
  have hl := insW_length x p b hp
  have hd := delW_length (insW x p b) p (by omega)
  refine ext_atB (by omega) fun k hk => ?_
  rw [atB_del _ _ _ (by omega), atB_ins _ _ _ _ hp, atB_ins _ _ _ _ hp]
  by_cases h : k < p
  · rw [if_pos h, if_pos h]
  · rw [if_neg h, if_neg (by omega), if_neg (by omega), Nat.add_sub_cancel]
theorem ins_del_low (x : List UInt8) (p q : Nat) (b : UInt8) (hp : p ≤ x.length) (hq : q < p) : delW (insW x p b) q = insW (delW x q) (p - 1) b := by
  have hl := insW_length x p b hp
  have hd := delW_length (insW x p b) q (by omega)
  have hdx := delW_length x q (by omega)
  have hix := insW_length (delW x q) (p - 1) b (by omega)
  refine ext_atB (by omega) fun k hk => ?_
  rw [atB_del _ _ _ (by omega), atB_ins _ _ _ _ hp, atB_ins _ _ _ _ hp, atB_ins _ _ _ _ (by omega), atB_del _ _ _ (by omega), atB_del _ _ _ (by omega)]
  by_cases h1 : k < q
  · rw [if_pos h1, if_pos (by omega), if_pos (by omega), if_pos h1]
  · rw [if_neg h1]
    by_cases h2 : k + 1 < p
    · rw [if_pos h2, if_pos (by omega), if_neg h1]
    · rw [if_neg h2]
      by_cases h3 : k + 1 = p
      · rw [if_pos h3, if_neg (by omega), if_pos (by omega)]
      · rw [if_neg h3, if_neg (by omega), if_neg (by omega), if_neg (by omega), Nat.add_sub_cancel, Nat.sub_add_cancel (by omega)]
theorem ins_del_high (x : List UInt8) (p q : Nat) (b : UInt8) (hp : p < q) (hq : q ≤ x.length) : delW (insW x p b) q = insW (delW x (q - 1)) p b := by
  have hl := insW_length x p b (by omega)
  have hd := delW_length (insW x p b) q (by omega)
  have hdx := delW_length x (q - 1) (by omega)
  have hix := insW_length (delW x (q - 1)) p b (by omega)
  refine ext_atB (by omega) fun k hk => ?_
  rw [atB_del _ _ _ (by omega), atB_ins _ _ _ _ (by omega), atB_ins _ _ _ _ (by omega), atB_ins _ _ _ _ (by omega), atB_del _ _ _ (by omega), atB_del _ _ _ (by omega)]
  by_cases h1 : k < p
  · rw [if_pos (by omega), if_pos h1, if_pos h1, if_pos (by omega)]
  · by_cases h2 : k = p
    · rw [if_pos (by omega), if_neg h1, if_pos h2, if_neg h1, if_pos h2]
    · rw [if_neg h1, if_neg h2, if_neg (show ¬ k + 1 < p by omega), if_neg (show ¬ k + 1 = p by omega), Nat.add_sub_cancel, if_neg h1, if_neg h2]
      by_cases h3 : k < q
      · rw [if_pos h3, if_pos (by omega)]
      · rw [if_neg h3, if_neg (by omega), Nat.sub_add_cancel (by omega)]

/-- All letters are of the four. -/
def Four (s : List UInt8) : Prop := ∀ k, k < s.length → codeOf (atB s k).toNat ≠ -1
theorem Four.one {s y : List UInt8} (h : Four s) (ho : OneE s y) : Four y := by
  rcases ho with rfl | ⟨p, b, hp, hb, rfl⟩ | ⟨p, hp, rfl⟩ | ⟨p, b, hp, hb, rfl⟩
  · exact h
  · intro k hk
    rw [List.length_set] at hk
    by_cases e : p = k
    · subst e
      rw [atB_set _ _ _ hp]
      exact hb
    · rw [atB_set_other _ _ e]
      exact h k hk
  · intro k hk
    have := delW_length s p hp
    rw [atB_del _ _ _ hp]
    split
    · exact h k (by omega)
    · exact h (k + 1) (by omega)
  · intro k hk
    have := insW_length s p b hp
    rw [atB_ins _ _ _ _ hp]
    split
    · exact h k (by omega)
    · split
      · exact hb
      · exact h (k - 1) (by omega)
theorem OneE.length {s y : List UInt8} (ho : OneE s y) : y.length ≤ s.length + 1 ∧ s.length ≤ y.length + 1 := by
  rcases ho with rfl | ⟨p, b, hp, hb, rfl⟩ | ⟨p, hp, rfl⟩ | ⟨p, b, hp, hb, rfl⟩
  · omega
  · rw [List.length_set]; omega
  · have := delW_length s p hp
    omega
  · rw [insW_length _ _ _ hp]; omega
theorem two_edits {x y z : List UInt8} (hn : 2 ≤ x.length) (hx : Four x) (h1 : OneE x y) (h2 : OneE y z) (hl : z.length = x.length)
    (eT : sT z x.length % x.length = sT x x.length % x.length) (eS : sS z x.length % 4 = sS x x.length % 4) (eW : sW z x.length % (6 * x.length + 1) = sW x x.length % (6 * x.length + 1)) : z = x := by
  have hz : ∀ k, k < x.length → codeOf (atB z k).toNat ≠ -1 := fun k hk => (hx.one h1).one h2 k (by omega)
  rcases h1 with rfl | ⟨p, b, hp, hb, rfl⟩ | ⟨p, hp, rfl⟩ | ⟨p, b, hp, hb, rfl⟩
  · rcases h2 with rfl | ⟨q, c, hq, hc, rfl⟩ | ⟨q, hq, rfl⟩ | ⟨q, c, hq, hc, rfl⟩
    · rfl
    · have e : (y.set q c).set q c = y.set q c := by rw [List.set_set]
      rw [← e] at eS eW hz ⊢
      exact swap_same y q q c c hn hq hq hx hz eS eW
    · have := delW_length y q hq
      omega
    · have := insW_length y q c hq
      omega
  · rcases h2 with rfl | ⟨q, c, hq, hc, rfl⟩ | ⟨q, hq, rfl⟩ | ⟨q, c, hq, hc, rfl⟩
    · have e : (x.set p b).set p b = x.set p b := by rw [List.set_set]
      rw [← e] at eS eW hz ⊢
      exact swap_same x p p b b hn hp hp hx hz eS eW
    · rw [List.length_set] at hq
      exact swap_same x p q b c hn hp hq hx hz eS eW
    · have := delW_length (x.set p b) q hq
      rw [List.length_set] at this
      omega
    · have := insW_length (x.set p b) q c hq
      rw [List.length_set] at this
      omega
  · have hd := delW_length x p hp
    rcases h2 with rfl | ⟨q, c, hq, hc, rfl⟩ | ⟨q, hq, rfl⟩ | ⟨q, c, hq, hc, rfl⟩
    · omega
    · rw [List.length_set] at hl
      omega
    · have := delW_length _ q hq
      omega
    · exact gap_same x p q c hp (by omega) hx hz eT eS
  · have hd := insW_length x p b hp
    rcases h2 with rfl | ⟨q, c, hq, hc, rfl⟩ | ⟨q, hq, rfl⟩ | ⟨q, c, hq, hc, rfl⟩
    · omega
    · rw [List.length_set] at hl
      omega
    · rcases Nat.lt_trichotomy q p with h | h | h
      · rw [ins_del_low x p q b hp h] at eT eS hz ⊢
        exact gap_same x q (p - 1) b (by omega) (by omega) hx hz eT eS
      · subst h
        exact ins_del_same x q b hp
      · rw [ins_del_high x p q b h (by omega)] at eT eS hz ⊢
        exact gap_same x (q - 1) p b (by omega) (by omega) hx hz eT eS
    · have := insW_length _ q c hq
      omega
end Go.Proofs.YtnlndaknljbhcaaDoor
