/- Contract of rs.rest. -/
import Derived.Test.YtkldapdebjlfmaaRsF
namespace Go.Proofs.Ytkldapdebjlfmaa
open Go.RowKit Go.Shelf
attribute [local go_sem] Oper.semAt_some run_store_func

/-- The generator, the highest power first. -/
def gen (p : Nat) : List UInt8 := (RT (pows2 p)).reverse
theorem gen_length (p : Nat) : (gen p).length = p + 1 := by rw [gen, List.length_reverse, (RT_monic _).1, pows2_length]
/-- One byte shifted in. -/
def rstep (p : Nat) (f : Nat → UInt8) (b : UInt8) : Nat → UInt8 := put p f (f 0 ^^^ b) (C (gen p)) p
def rfold (p : Nat) (data : List UInt8) : Nat → UInt8 := data.foldl (rstep p) (fun _ => 0)
theorem rfold_snoc (p : Nat) (data : List UInt8) (b : UInt8) : rfold p (data ++ [b]) = rstep p (rfold p data) b := by simp [rfold]
def restL (p : Nat) (data : List UInt8) : List UInt8 := (List.range p).map (rfold p data)
theorem restL_length (p : Nat) (data : List UInt8) : (restL p data).length = p := by simp [restL]
theorem own_block {B : Nat} {w : World} {A : Option Addr} {l c : Nat} {xs : List UInt8} (h : Own8 B w (.slice A l c) xs) : ∀ ad, A = some ad → B ≤ ad.block := by
  rintro ad rfl
  rcases h.2 with ⟨e, _⟩ | ⟨g, cap, cur, e, hB, _⟩
  · cases e
  · cases e; exact hB

set_option maxRecDepth 100000 in
set_option maxHeartbeats 4000000 in
theorem rsRest_any (p : Nat) (hp : p ≤ 255) (dv : Value) (data : List UInt8) (hd : data.length ≤ 1000) (w : World) (hS : Sl eB w.heap.size w dv data) :
    Calls Try.prog 29 #[dv, .int .i64 p] w fun e w' => ∃ v, e = .returned v ∧ Sl eB w'.heap.size w' v (restL p data) ∧ Below w.heap.size w w' := by
  obtain ⟨Ad, cd, rfl⟩ := hS.len
  have hmk := fun w => make_run p (by omega) (p : Int) rfl w
  have hA1 := below_alloc w (.cells #[.int .i64 p] 3)
  have bp0 := Boxed.new w 3 (.int .i64 p)
  have z1 := World.size_alloc w (.cells #[.int .i64 p] 3)
  obtain ⟨w1, hw1⟩ : ∃ w1, w.alloc (.cells #[.int .i64 p] 3) = w1 := ⟨_, rfl⟩
  rw [hw1] at hA1 bp0 z1
  have hA2 := below_alloc w1 (.cells (cellsF (fun _ => 0) p) 5)
  have bp1 := bp0.alloc (.cells (cellsF (fun _ => 0) p) 5)
  have r1 := Rowed.new w1 5 (cellsF (fun _ => 0) p)
  have z2 := World.size_alloc w1 (.cells (cellsF (fun _ => 0) p) 5)
  obtain ⟨w2, hw2⟩ : ∃ w2, w1.alloc (.cells (cellsF (fun _ => 0) p) 5) = w2 := ⟨_, rfl⟩
  rw [hw2] at hA2 bp1 r1 z2
  have hA3 := below_alloc w2 (.cells #[.slice none 0 0] 22)
  have bp2 := bp1.alloc (.cells #[.slice none 0 0] 22)
  have r2 := r1.alloc (.cells #[.slice none 0 0] 22)
  have bl2 := Boxed.new w2 22 (.slice none 0 0)
  have z3 := World.size_alloc w2 (.cells #[.slice none 0 0] 22)
  obtain ⟨w3, hw3⟩ : ∃ w3, w2.alloc (.cells #[.slice none 0 0] 22) = w3 := ⟨_, rfl⟩
  rw [hw3] at hA3 bp2 r2 bl2 z3
  have hA4 : Below w2.heap.size w2 (w3.setCell ⟨w2.heap.size, 0, none⟩ (.slice (some ⟨w1.heap.size, 0, none⟩) p p)) := hA3.setCell (p := ⟨w2.heap.size, 0, none⟩) (Nat.le_refl _) _
  have bp3 := boxed_setOther bp2 (show w.heap.size ≠ w2.heap.size by omega) 0 (.slice (some ⟨w1.heap.size, 0, none⟩) p p)
  have bl3 := bl2.set (.slice (some ⟨w1.heap.size, 0, none⟩) p p)
  have r3 : Rowed (w3.setCell ⟨w2.heap.size, 0, none⟩ (.slice (some ⟨w1.heap.size, 0, none⟩) p p)) w1.heap.size 5 (cellsF (fun _ => 0) p) := (Below.heap_setCell _ _ _ _ (by show w1.heap.size ≠ w2.heap.size; omega)).trans r2
  have z4 : (w3.setCell ⟨w2.heap.size, 0, none⟩ (.slice (some ⟨w1.heap.size, 0, none⟩) p p)).heap.size = w.heap.size + 3 := by simp [z3, z2, z1]
  have hA : Below w.heap.size w (w3.setCell ⟨w2.heap.size, 0, none⟩ (.slice (some ⟨w1.heap.size, 0, none⟩) p p)) := below_trans (below_trans hA1 hA2) hA4
  have c1 := bp0.cell
  have c2 := bl2.cell
  have f2 := bl2.frozen
  obtain ⟨w4, hw4⟩ : ∃ w4, w3.setCell ⟨w2.heap.size, 0, none⟩ (.slice (some ⟨w1.heap.size, 0, none⟩) p p) = w4 := ⟨_, rfl⟩
  rw [hw4] at hA bp3 bl3 r3 z4
  have c3 := bp3.cell
  have c4 := bl3.cell
  have y1 : w1.heap.size = w.heap.size + 1 := z1
  have y2 : w2.heap.size = w.heap.size + 2 := by omega
  have Y := Lib.hid (And.intro y1 (And.intro y2 z4))
  clear y1 y2 z4
  clear hA1 hA2 hA3 hA4 bp1 bp2 r1 r2 bl2 z1 z2 z3
  by_cases h0 : p = 0
  · have hq : ((p : Int) == 0) = true := by rw [beq_iff_eq]; omega
    have hdone : Sl eB w4.heap.size w4 (.slice (some ⟨w1.heap.size, 0, none⟩) p p) (restL p data) := ⟨_, p, by rw [restL_length], by rw [restL_length]; exact Nat.le_refl _, fun h => by rw [restL_length] at h; omega⟩
    clear h0
    go_enter Try.func29, Try.ntmps29
    go_wp2
    go_ret
    exact ⟨_, rfl, hdone, hA⟩
  · have hq : ((p : Int) == 0) = false := by rw [beq_eq_false_iff_ne]; omega
    have hpow := pows_collect p hp w4
    have hR := fun v w h => Roots_own v (pows2 p) (by rw [pows2_length]; omega) w h
    go_enter Try.func29, Try.ntmps29
    go_wp2_with fail
    clear hw1 hw2 hw3 hw4 hmk c1 c2 f2 c3 c4 hq
    go_at_call 25
    refine (powers_any p w4).mono ?_
    rintro e w' ⟨rfl, rfl⟩
    have hAp := below_alloc w4 (.cells #[.int .i64 p] 3)
    go_wp2_with fail
    go_at_call 24
    refine hpow.mono ?_
    rintro e wc ⟨vc, rfl, hvc, hBc⟩
    go_wp2_with fail
    go_at_call 23
    refine (hR vc wc hvc.sl).mono ?_
    rintro e wr ⟨vr, rfl, hvr, hBr⟩
    have hlr : (RT (pows2 p)).length = p + 1 := by rw [(RT_monic _).1, pows2_length]
    obtain ⟨Ar, cr, rfl⟩ := hvr.sl.len
    rw [hlr] at hvr
    have hB4 := below_trans (below_trans hAp hBc) hBr
    have hB4c := below_trans hAp hBc
    have bg0 := Boxed.new wr 22 (.slice none 0 0)
    have zr := World.size_alloc wr (.cells #[.slice none 0 0] 22)
    have hAr := below_alloc wr (.cells #[.slice none 0 0] 22)
    have hvr1 : Own8 wc.heap.size (wr.alloc (.cells #[.slice none 0 0] 22)) (.slice Ar (p + 1) cr) (RT (pows2 p)) := World.ownsRow.alloc hvr _
    obtain ⟨wx, hwx⟩ : ∃ wx, wr.alloc (.cells #[.slice none 0 0] 22) = wx := ⟨_, rfl⟩
    rw [hwx] at bg0 zr hAr hvr1
    have hvr2 : Own8 wc.heap.size (wx.setCell ⟨wr.heap.size, 0, none⟩ (.slice Ar (p + 1) cr)) (.slice Ar (p + 1) cr) (RT (pows2 p)) := hvr1.kept (grownBy_setCell' wx wr.heap.size _) (.inr (bg0.not_row (by decide) hvr1).symm)
    have bg1 := bg0.set (.slice Ar (p + 1) cr)
    have hBx : Below wr.heap.size wr (wx.setCell ⟨wr.heap.size, 0, none⟩ (.slice Ar (p + 1) cr)) := hAr.setCell (p := ⟨wr.heap.size, 0, none⟩) (Nat.le_refl _) _
    have hB4x := below_trans hB4 hBx
    have kx := bg0.cell
    have fx := bg0.frozen
    obtain ⟨wy, hwy⟩ : ∃ wy, wx.setCell ⟨wr.heap.size, 0, none⟩ (.slice Ar (p + 1) cr) = wy := ⟨_, rfl⟩
    rw [hwy] at hvr2 bg1 hB4x hBx
    have ky := bg1.cell
    have hcy : wc.heap.size ≤ wy.heap.size := by have := hBr.size; have := hBx.size; omega
    have hRev := Reverse_own (.slice Ar (p + 1) cr) (RT (pows2 p)) (by omega) wc.heap.size wy hcy hvr2
    rw [hlr]
    clear zr
    go_wp2_with fail
    go_at_call 47
    refine hRev.mono ?_
    rintro e wz ⟨rfl, hvz, hBz, hbz⟩
    have bgz := hbz _ _ _ (by decide) bg1
    have hB4z : Below w4.heap.size w4 wz := hB4x.trans (hBz.mono hB4c.size)
    have hSg : Sl eB wz.heap.size wz (.slice Ar (p + 1) cr) (gen p) := hvz.sl
    have hblk := own_block hvz
    obtain ⟨y1, y2, z4⟩ := Y.out
    have hcs := hB4c.size
    have rz : Rowed wz w1.heap.size 5 (cellsF (rfold p []) p) := r3.below hB4z r3.lt
    have blz : Boxed wz w2.heap.size 22 (.slice (some ⟨w1.heap.size, 0, none⟩) p p) := (hB4z.block _ bl3.lt).trans bl3
    have bpz : Boxed wz w.heap.size 3 (.int .i64 p) := (hB4z.block _ bp3.lt).trans bp3
    have n1 : w2.heap.size ≠ w1.heap.size := by omega
    have n2 : w.heap.size ≠ w1.heap.size := by omega
    have n3 : wr.heap.size ≠ w1.heap.size := by have := hBr.size; omega
    have n4 : ∀ ad, Ar = some ad → ad.block ≠ w1.heap.size := fun ad h => by have := hblk ad h; omega
    have hAz : Below w.heap.size w wz := below_trans hA hB4z
    have hdr : ∀ k, (hk : k < data.length) → ∃ b off, Ad = some ⟨b, off, none⟩ ∧ b < w.heap.size ∧ w.cell? ⟨b, off + k, none⟩ = some (eB data[k]) := by
      intro k hk
      obtain ⟨_, _, e, _, hcs⟩ := hS
      cases e
      obtain ⟨b, off, e, hb, hcell⟩ := hcs (by omega)
      exact ⟨b, off, e, hb, hcell k _ (by simp [hk])⟩
    have hgl : w.heap.size ≤ w1.heap.size := by omega
    have hglz : w1.heap.size < wz.heap.size := rz.lt
    have hmf : ∀ (fn : Fn) (first cap : Array Value) (w : World), (Instr.makeFunc fn first cap).run Try.prog w = .ok (.func fn first cap) w := fun _ _ _ _ => rfl
    clear hvc hBc hBr hAp hpow hR hvr hvr1 hvr2 hRev hB4 hB4x hAr hBx hBz hbz hvz hblk hwx hwy kx fx ky bg0 bg1 r3 bl3 bp3 y1 z4 hcy hB4c hcs Y hS y2 hlr hA hB4z
    go_wp2_with fail
    generalize w1.heap.size = gl at *
    generalize w2.heap.size = bl at *
    generalize wr.heap.size = bg at *
    have hp0 : 0 < p := by omega
    clear h0
    go_loopw [24] (fun i wq => ∃ k : Nat, k ≤ data.length ∧ i = .int .i64 k ∧ Rowed wq gl 5 (cellsF (rfold p (data.take k)) p) ∧ Keep wz.heap.size gl wz wq) (fun i _ => data.length - (intOf i).toNat)
    case atStart => exact ⟨0, by omega, rfl, rz, keep_r _ _ _⟩
    case round =>
      obtain ⟨k, hk, rfl, hr, hkr⟩ := hrel
      by_cases hlt : k < data.length
      · have hdd : decide ((k : Int) < (data.length : Int)) = true := decide_eq_true (by omega)
        have hki : (k : Int) < (data.length : Int) := by omega
        obtain ⟨bd, od, rfl, hbd, hcd⟩ := hdr k hlt
        have hzs := hAz.size
        have hcx := (hkr.cell (p := ⟨bd, od + k, none⟩) (by show bd < _; omega) (by show bd ≠ _; omega)).trans ((hAz.cell (p := ⟨bd, od + k, none⟩) hbd).trans hcd)
        have e : data.take (k + 1) = data.take k ++ [data[k]] := List.take_succ_eq_append_getElem (by omega)
        have hsh := shift_any p hp0 hp (rfold p (data.take k)) data[k] (gen p) (gen_length p) bl w.heap.size bg gl Ar cr wr (Keep.boxed hkr blz blz.lt n1) (Keep.boxed hkr bpz bpz.lt n2) (Keep.boxed hkr bgz bgz.lt n3) hr (hSg.keep n4 hkr) n1 n2 n3 n4
        rw [show put p (rfold p (data.take k)) (rfold p (data.take k) 0 ^^^ data[k]) (C (gen p)) p = rfold p (data.take (k + 1)) by rw [e, rfold_snoc]; rfl] at hsh
        clear e hdr hcd
        generalize data[k] = x at *
        go_wp2_with fail
        go_at_call 48
        refine hsh.mono ?_
        rintro e w5 ⟨rfl, hr5, hk5⟩
        have hk6 : Keep wz.heap.size gl wz w5 := keep_t hkr ⟨hk5.1, fun i hi hg => hk5.2 i (by have := keep_size hkr; omega) hg⟩
        clear hsh hr hkr hk5 hcx
        go_wp2
        go_roundw
        case rel => exact ⟨k + 1, by omega, by go_num, hr5, hk6⟩
        case measure => simp [intOf]; omega
      · obtain rfl : k = data.length := by omega
        have hdd : decide ((data.length : Int) < (data.length : Int)) = false := decide_eq_false (by omega)
        rw [List.take_length] at hr
        have hbx := (Keep.boxed hkr blz blz.lt n1).cell
        have hBe := below_of_keep hkr hAz hAz.size hgl
        have hSe := sl_cellsF hr wr.heap.size hr.lt
        clear hdr rz hmf
        go_wp2
        go_ret
        exact ⟨_, rfl, hSe, hBe⟩
end Go.Proofs.Ytkldapdebjlfmaa
