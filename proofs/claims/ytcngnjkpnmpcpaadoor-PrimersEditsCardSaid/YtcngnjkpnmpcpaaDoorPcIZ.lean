import Derived.Test.YtcngnjkpnmpcpaaDoorPaIZ
import Derived.Test.YtcngnjkpnmpcpaaDoorPaNZ
import Derived.Test.YtcngnjkpnmpcpaaDoorPcGZ
namespace Go.Proofs.YtcngnjkpnmpcpaaDoor
open Go.RowKit Go.Shelf
attribute [local go_sem] Oper.semAt_some run_store_func
theorem let_cases (n : Int) : letterOf n = 65 ∨ letterOf n = 67 ∨ letterOf n = 71 ∨ letterOf n = 84 := by
 have h : n % 4 = 0 ∨ n % 4 = 1 ∨ n % 4 = 2 ∨ n % 4 = 3 := by omega
 rcases h with e | e | e | e
 · exact .inl (by simp [letterOf, e])
 · exact .inr (.inl (by simp [letterOf, e]))
 · exact .inr (.inr (.inl (by simp [letterOf, e])))
 · exact .inr (.inr (.inr (by simp [letterOf, e])))
theorem i32_byteP (b : UInt8) : IntKind.i32.wrap (b.toNat : Int) = (b.toNat : Int) := by
 have h : ∀ n : Fin 256, IntKind.i32.wrap ((n.val : Nat) : Int) = ((n.val : Nat) : Int) := by decide +kernel
 exact h ⟨b.toNat, b.toNat_lt⟩
theorem let_enc (n : Int) : Utf8.encode ((letterOf n).toNat : Int) = ⟨[letterOf n].toArray⟩ := by
 rcases let_cases n with e | e | e | e <;> rw [e] <;> kernel_rfl
def wordK (a k : Nat) : List UInt8 := (List.range k).map fun i => letG (lcgN a (i + 1))
theorem wordK_succ (a k : Nat) : wordK a (k + 1) = wordK a k ++ [letG (lcgN a (k + 1))] := by
 unfold wordK
 rw [List.range_succ, List.map_append]
 rfl
theorem str_appP (a b : List UInt8) : (⟨a.toArray⟩ : ByteArray) ++ ⟨b.toArray⟩ = ⟨(a ++ b).toArray⟩ := by
 apply ByteArray.ext
 simp
set_option maxRecDepth 100000 in
set_option maxHeartbeats 4000000 in
theorem RWordP_any (a : Nat) (ha : a < 18446744073709551616) (w : World) :
    Calls Tryd.prog 31 #[.int .u64 a] w fun e w' => e = .returned (.tuple #[sV (wordG a), .int .u64 (lcgN a 16 : Nat)]) ∧ w = w' := by
  have HG := Lib.hid (show wordK a 16 = wordG a from rfl)
  have HS := Lib.hid (wordK_succ a)
  have H0 := Lib.hid (show wordK a 0 = [] from rfl)
  have HLt := Lib.hid (fun k => lcgN_lt a k ha)
  obtain ⟨z16, hz16⟩ : ∃ z, Hid (lcgN a 16 = z) := ⟨_, Lib.hid rfl⟩
  have HE := Lib.hid (show ∀ k, k = 16 → wordK a k = wordG a ∧ lcgN a k = z16 from fun k h => by rw [h, hz16.out]; exact ⟨HG.out, rfl⟩)
  rw [hz16.out]
  generalize wordG a = wg at *
  clear HG hz16
  go_enter Tryd.func31, Tryd.ntmps31
  go_wp2_with fail
  go_loopw [0, 4, 5] (fun s t i wr => ∃ k : Nat, k ≤ 16 ∧ i = .int .i64 k ∧ s = .int .u64 (lcgN a k : Nat) ∧ t = sV (wordK a k) ∧ w = wr) (fun _ _ i _ => 16 - (RowKit.intOf i).toNat)
  case atStart => exact ⟨0, Nat.zero_le _, rfl, rfl, by rw [H0.out], rfl⟩
  case round =>
   obtain ⟨k, hk, rfl, rfl, rfl, rfl⟩ := hrel
   by_cases hlt : k < 16
   · have hlt1 := HLt.out (k + 1)
     have hlc := lcg_walk (lcgN a k)
     have hsuc := HS.out k
     have HN := Lib.hid (show lcgN a (k + 1) = lcg (lcgN a k) from rfl)
     rw [show lcgN a (k + 1) = lcg (lcgN a k) from rfl] at hlt1 hsuc
     generalize lcgN a k = s at *
     generalize lcg s = s1 at *
     have hshr := shr_walk s1 hlt1
     have hlet := rLetter_any ((s1 / 4611686018427387904 : Nat) : Int) w
     have hen := let_enc ((s1 / 4611686018427387904 : Nat) : Int)
     rw [show letG s1 = letterOf ((s1 / 4611686018427387904 : Nat) : Int) from rfl] at hsuc
     generalize letterOf ((s1 / 4611686018427387904 : Nat) : Int) = b at *
     generalize s1 / 4611686018427387904 = z at *
     have hxl : (wordK a k).length ≤ 16 := by simp [wordK]; omega
     generalize wordK a k = x at *
     have hce : ∀ w, (convert 5 21 (eB b)).run Tryd.prog w = .ok (.int .i32 (b.toNat : Int)) w := fun w => by
      have h1 := run_convert_int (P := Tryd.prog) (w := w) 5 21 .u8 (b.toNat : Int) (by kernel_rfl) (by kernel_rfl)
      have hk : Tryd.prog.intKind 21 = .i32 := by kernel_rfl
      rw [hk, i32_byteP] at h1
      exact h1
     have hcs : ∀ w, (convert 21 9 (.int .i32 (b.toNat : Int))).run Tryd.prog w = .ok (sV [b]) w := fun w => by
      rw [show sV [b] = .string (Utf8.encode (b.toNat : Int)) from by rw [hen]]
      exact run_convert_int_string w _ _ _ _ (by kernel_rfl) Tryd.underlying9
     have HSU := Lib.hid hsuc
     have hk16 : (k : Int) < 16 := by omega
     have HK := Lib.hid hlt
     clear hen hlt hsuc hlt1
     have hap := str_appP x [b]
     have hsv : ∀ l, sV l = .string ⟨l.toArray⟩ := fun _ => rfl
     have hEs : (⟨[b].toArray⟩ : ByteArray).size ≤ 4 := by rw [sV_size]; simp
     rw [hsv [b]] at hcs
     generalize (⟨[b].toArray⟩ : ByteArray) = E at hcs hap hEs
     obtain ⟨X, hX⟩ : ∃ X : ByteArray, X = ⟨x.toArray⟩ := ⟨_, rfl⟩
     rw [← hX] at hap
     rw [hsv x, ← hX]
     have hXs : X.size ≤ 16 := by rw [hX, sV_size]; exact hxl
     have HAP := Lib.hid hap
     clear hX hsv hap hxl
     go_wp2_with fail
     go_at_call 52
     refine hlet.mono ?_
     rintro e w' ⟨rfl, rfl⟩
     clear hlet hlc hshr
     generalize eB b = vb at *
     generalize (b.toNat : Int) = bz at *
     go_wp2_with fail
     go_roundw
     case rel => exact ⟨k + 1, HK.out, by go_num, by rw [HN.out], by rw [HSU.out]; exact congrArg Value.string HAP.out, by trivial⟩
     case measure => have := HK.out; simp [RowKit.intOf]; omega
   · obtain ⟨e1, e2⟩ := HE.out k (by omega)
     rw [e1, e2]
     have h3 : ¬ (k : Int) < 16 := by omega
     clear hk hlt e1 e2
     go_wp2_with fail
     go_ret2
     exact ⟨rfl, rfl⟩
end Go.Proofs.YtcngnjkpnmpcpaaDoor
namespace Go.Proofs.YtcngnjkpnmpcpaaDoor
open Go.RowKit Go.Shelf
attribute [local go_sem] Oper.semAt_some run_store_func
def AlP (N0 N : World) (v : Value) (n : Nat) (cs : List Value) (x y : Value) (D : Nat → Bool) (g : Nat → Value) (w : World) : Prop :=
 (Below N0.heap.size N w ∧ N0.heap.size ≤ N.heap.size) ∧ (D 14 = false → w.ownsRow N0.heap.size 46 2 v n cs) ∧ (D 13 = true → D 14 = false → ∃ q, g 13 = .slice (some ⟨q, 0, none⟩) 1 1 ∧ Rowed w q 46 #[x, y]) ∧
   (D 14 = true → w.ownsRow N0.heap.size 46 2 (g 14) (n + 1) (cs ++ [x, y])) ∧ (D 15 = false → g 15 = v) ∧ (D 15 = true → g 15 = g 14) ∧ (D 14 = true → D 13 = true ∧ D 0 = true) ∧ (D 15 = true → D 14 = true)
section
variable {N0 N : World} {v : Value} {n : Nat} {cs : List Value} {x y : Value} {D : Nat → Bool} {g : Nat → Value} {w w' : World}
theorem AlP.same {i : Nat} (h : AlP N0 N v n cs x y D g w) (h0 : i ≠ 0) (h13 : i ≠ 13) (h14 : i ≠ 14) (h15 : i ≠ 15) : AlP N0 N v n cs x y (upd D i) g w := by
 unfold AlP
 rw [upd_other D (Ne.symm h0), upd_other D (Ne.symm h13), upd_other D (Ne.symm h14), upd_other D (Ne.symm h15)]
 exact h
theorem AlP.at0 (h : AlP N0 N v n cs x y D g w) (hD : D 0 = false) : g 15 = v := by
 obtain ⟨a, b, c, d, e, f, p, q⟩ := h
 refine e (bool_noL fun h => ?_)
 rw [(p (q h)).2] at hD
 cases hD
theorem AlP.op0 (h : AlP N0 N v n cs x y D g w) : AlP N0 N v n cs x y (upd D 0) g w := by
 obtain ⟨a, b, c, d, e, f, p, q⟩ := h
 unfold AlP
 rw [upd_same, upd_other D (show 13 ≠ 0 by decide), upd_other D (show 14 ≠ 0 by decide), upd_other D (show 15 ≠ 0 by decide)]
 exact ⟨a, b, c, d, e, f, fun h => ⟨(p h).1, rfl⟩, q⟩
theorem AlP.opX (h : AlP N0 N v n cs x y D g w) (hD : D 13 = false) : AlP N0 N v n cs x y (upd D 13) (fun j => if j = 13 then .slice (some ⟨w.heap.size, 0, none⟩) 1 1 else g j) (w.alloc (.cells #[x, y] 46)) := by
 obtain ⟨a, b, c, d, e, f, p, q⟩ := h
 have n14 : D 14 = false := bool_noL fun h => by rw [(p h).1] at hD; cases hD
 have n15 : D 15 = false := bool_noL fun h => by rw [q h] at n14; cases n14
 have hs := a.1.size
 have hs2 := a.2
 unfold AlP
 rw [upd_same, upd_other D (show 0 ≠ 13 by decide), upd_other D (show 14 ≠ 13 by decide), upd_other D (show 15 ≠ 13 by decide), n14, n15]
 refine ⟨⟨a.1.alloc (by omega) _, a.2⟩, fun _ => (b n14).alloc _, fun _ _ => ⟨w.heap.size, rfl, Rowed.new w 46 #[x, y]⟩, ?_, fun _ => e n15, ?_, ?_, ?_⟩
 all_goals (intro h; cases h)
theorem AlP.opY (h : AlP N0 N v n cs x y D g w) (hD : D 14 = false) (h13 : D 13 = true) (h0 : D 0 = true) {v' : Value} (hown : w'.ownsRow N0.heap.size 46 2 v' (n + 1) (cs ++ [x, y])) (hg : w.grownBy w' v.ownBlock) : AlP N0 N v n cs x y (upd D 14) (fun j => if j = 14 then v' else g j) w' := by
 obtain ⟨a, b, c, d, e, f, p, q⟩ := h
 have n15 : D 15 = false := bool_noL fun h => by rw [q h] at hD; cases hD
 have hb := b hD
 unfold AlP
 rw [upd_same, upd_other D (show 0 ≠ 14 by decide), upd_other D (show 13 ≠ 14 by decide), upd_other D (show 15 ≠ 14 by decide), n15, h13, h0]
 refine ⟨⟨a.1.grown hg (Nat.le_trans a.2 a.1.size) (fun k e => (hb.lt k e).1), a.2⟩, ?_, ?_, fun _ => hown, fun _ => e n15, ?_, fun _ => ⟨rfl, rfl⟩, fun _ => rfl⟩
 · intro h; cases h
 · intro _ h; cases h
 · intro h; cases h
theorem AlP.opZ (h : AlP N0 N v n cs x y D g w) (h14 : D 14 = true) : AlP N0 N v n cs x y (upd D 15) (fun j => if j = 15 then g 14 else g j) w := by
 obtain ⟨a, b, c, d, e, f, p, q⟩ := h
 have hp := p h14
 unfold AlP
 rw [upd_same, upd_other D (show 0 ≠ 15 by decide), upd_other D (show 13 ≠ 15 by decide), upd_other D (show 14 ≠ 15 by decide), h14, hp.1, hp.2]
 refine ⟨a, ?_, ?_, fun _ => d h14, ?_, fun _ => rfl, fun _ => ⟨rfl, rfl⟩, fun _ => rfl⟩
 · intro h; cases h
 · intro _ h; cases h
 · intro h; cases h
end
end Go.Proofs.YtcngnjkpnmpcpaaDoor
