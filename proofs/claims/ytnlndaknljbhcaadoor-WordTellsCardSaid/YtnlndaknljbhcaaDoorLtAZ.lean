/- Letters by numbers; contract of nt.Code, wide. -/
import Derived.Test.YtnlndaknljbhcaaDoorMSZ
namespace Go.Proofs.YtnlndaknljbhcaaDoor
open Go.RowKit Go.Shelf
attribute [local go_sem] Oper.semAt_some run_store_func

/-- The letter of a number. -/
def letterOf (n : Int) : UInt8 := lett (n % 4).toNat
theorem letterOf_code (n : Int) : codeOf (letterOf n).toNat = n % 4 := by
  rw [letterOf, lett_code _ (by omega)]
  omega
theorem letterOf_ok (n : Int) : codeOf (letterOf n).toNat ≠ -1 := by rw [letterOf_code]; omega
theorem code_letter {c : UInt8} (h : codeOf c.toNat ≠ -1) : letterOf (codeOf c.toNat) = c := by
  rcases code_four h with rfl | rfl | rfl | rfl <;> rfl
theorem Code_any (c : UInt8) (w : World) (hT : Tab w) :
    Calls Tryd.prog 80 #[eB c] w fun e w' => e = .returned (.tuple #[.int .i64 (if codeOf c.toNat = -1 then 0 else codeOf c.toNat), .int .i64 (if codeOf c.toNat = -1 then 10 else 0)]) ∧ w = w' := callsIn_inProg (Code_in c 0 w hT)
end Go.Proofs.YtnlndaknljbhcaaDoor
/- Contract of nt.Letter, wide. -/
namespace Go.Proofs.YtnlndaknljbhcaaDoor
open Go.RowKit Go.Shelf
attribute [local go_sem] Oper.semAt_some run_store_func

theorem letterOf_cell {w : World} (hT : Tab w) (n : Int) : w.cell? ⟨0, (n % 4).toNat, none⟩ = some (eB (letterOf n)) := by
  obtain ⟨t, fr, h⟩ := hT
  unfold letterOf
  have hn : n % 4 = 0 ∨ n % 4 = 1 ∨ n % 4 = 2 ∨ n % 4 = 3 := by omega
  rcases hn with e | e | e | e <;> rw [e] <;> simp [World.cell?, h, lett, eB]
set_option maxRecDepth 100000 in
set_option maxHeartbeats 400000 in
theorem Letter_any (n : Int) (w : World) (hT : Tab w) :
    Calls Tryd.prog 42 #[.int .i64 n] w fun e w' => e = .returned (eB (letterOf n)) ∧ w = w' := by
  have hc := letterOf_cell hT n
  have hb := bits_and3 n
  have h0 : 0 ≤ n % 4 := by omega
  have h4 : n % 4 < 4 := by omega
  clear hT
  go_enter Tryd.func42, Tryd.ntmps42
  go_wp2
  go_ret
  exact ⟨rfl, rfl⟩
end Go.Proofs.YtnlndaknljbhcaaDoor
