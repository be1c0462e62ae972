/- Mathematics for PolyLaws. -/
import Derived.Test.YtgidhkfmelpjfaaPoQ
import Derived.Test.YtgidhkfmelpjfaaPoU
namespace Go.Proofs.Ytgidhkfmelpjfaa

/-- The rows that the program makes. -/
def rM (p q : List UInt8) : List UInt8 := tr (PM p (C q)) (p.length + q.length)
def rA (p q : List UInt8) : List UInt8 := tr (fun k => C p k ^^^ C q k) (max p.length q.length)
theorem C_rM (p q : List UInt8) : C (rM p q) = PM p (C q) := C_tr _ _ (fun k hk => PM_big' p q k hk)
theorem C_rA (p q : List UInt8) : C (rA p q) = fun k => C p k ^^^ C q k := C_tr _ _ (sum_big p q _ (by omega) (by omega))
theorem rM_trd (p q : List UInt8) : Trd (rM p q) := tr_trd _ _
theorem rA_trd (p q : List UInt8) : Trd (rA p q) := tr_trd _ _
theorem dl_trd (p : List UInt8) : Trd (dl p) := tr_trd _ _
theorem rM_len (p q : List UInt8) : (rM p q).length ≤ p.length + q.length := by rw [rM, tr_length]; exact tl_le _ _
theorem rA_len (p q : List UInt8) : (rA p q).length ≤ max p.length q.length := by rw [rA, tr_length]; exact tl_le _ _
theorem dl_len (p : List UInt8) : (dl p).length ≤ p.length := by rw [dl, tr_length]; exact tl_le _ _
theorem rM_comm (p q : List UInt8) : rM q p = rM p q := eq_of_C (rM_trd _ _) (rM_trd _ _) (by rw [C_rM, C_rM, PM_comm])
theorem rM_assoc (p q r : List UInt8) : rM (rM p q) r = rM p (rM q r) := eq_of_C (rM_trd _ _) (rM_trd _ _) (by rw [C_rM, C_rM, C_rM q r, PM_assoc (C_rM p q)])
theorem rM_sum (p q r : List UInt8) : rM p (rA q r) = rA (rM p q) (rM p r) := eq_of_C (rM_trd _ _) (rA_trd _ _) (by rw [C_rM, C_rA, PM_xor, C_rA, C_rM, C_rM])
theorem C_long (p : List UInt8) (n : Nat) : C (p ++ List.replicate n 0) = C p := by
  funext k
  simp only [C]
  by_cases h : k < p.length
  · rw [List.getElem?_append_left h]
  · rw [List.getElem?_append_right (by omega), List.getElem?_replicate, List.getElem?_eq_none (by omega)]
    split <;> rfl
theorem rM_long (p q : List UInt8) (n : Nat) : rM (p ++ List.replicate n 0) q = rM p q := eq_of_C (rM_trd _ _) (rM_trd _ _) (by rw [C_rM, C_rM, PM_congr (C_long p n)])
theorem rA_long (p q : List UInt8) (n : Nat) : rA (p ++ List.replicate n 0) q = rA p q := eq_of_C (rA_trd _ _) (rA_trd _ _) (by rw [C_rA, C_rA, C_long])
theorem dl_rM (p q : List UInt8) : dl (rM p q) = rA (rM (dl p) q) (rM p (dl q)) := eq_of_C (dl_trd _) (rA_trd _ _) (by rw [C_dl, C_rM, dv_prod, C_rA, C_rM, C_rM])
theorem rA_self (p : List UInt8) : rA p p = [] := eq_of_C (rA_trd _ _) (.inl rfl) (by rw [C_rA]; funext k; rw [x_self, C_nil])
end Go.Proofs.Ytgidhkfmelpjfaa
