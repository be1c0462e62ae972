/- Letters by numbers; contract of nt.Code, wide. -/
import Derived.Test.YtpjpfgahjalggaaDoorMS
namespace Go.Proofs.YtpjpfgahjalggaaDoor
open Go.RowKit Go.Shelf
attribute [local go_sem] Oper.semAt_some run_store_func

/-- The letter of a number. -/
def letterOf (n : Int) : UInt8 := lett (n % 4).toNat
theorem letterOf_code (n : Int) : codeOf (letterOf n).toNat = n % 4 := by
  rw [letterOf, lett_code _ (by omega)]
  omega
theorem letterOf_ok (n : Int) : codeOf (letterOf n).toNat ≠ -1 := by rw [letterOf_code]; omega
theorem code_letter {c : UInt8} (h : codeOf c.toNat ≠ -1) : letterOf (codeOf c.toNat) = c := by
  rcases code_four h with rfl | rfl | rfl | rfl <;> rfl
theorem Code_any (c : UInt8) (w : World) (hT : Tab w) :
    Calls Tryd.prog 41 #[eB c] w fun e w' => e = .returned (.tuple #[.int .i64 (if codeOf c.toNat = -1 then 0 else codeOf c.toNat), .int .i64 (if codeOf c.toNat = -1 then 10 else 0)]) ∧ w = w' := callsIn_inProg (Code_in c 0 w hT)
end Go.Proofs.YtpjpfgahjalggaaDoor
