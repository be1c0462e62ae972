/- Words of 32 bits, and the step of the sum of bytes: plain mathematics. Of no program. -/
import Derived.Test.YtnnhijfgbdhmiaaL
namespace Go.Proofs.Ytnnhijfgbdhmiaa
open Go.RowKit

/-- A word of 32 bits as a value. -/
abbrev wV (x : BitVec 32) : Value := .int .u32 (x.toNat : Int)
theorem w32_ofInt (x : BitVec 32) : BitVec.ofInt IntKind.u32.bits (x.toNat : Int) = x := by
  show BitVec.ofInt 32 (x.toNat : Int) = x
  rw [BitVec.ofInt_natCast, BitVec.ofNat_toNat, BitVec.setWidth_eq]
theorem w32_wrap (x : BitVec 32) : IntKind.u32.wrap (x.toNat : Int) = (x.toNat : Int) := IntWalk.u32_in _ (by have := x.isLt; omega)
theorem w32_xor (x y : BitVec 32) : bits .xor .u32 (x.toNat : Int) (y.toNat : Int) = ((x ^^^ y).toNat : Int) := by
  unfold bits
  rw [w32_ofInt, w32_ofInt]
  exact w32_wrap (x ^^^ y)
theorem w32_or (x y : BitVec 32) : bits .or .u32 (x.toNat : Int) (y.toNat : Int) = ((x ||| y).toNat : Int) := by
  unfold bits
  rw [w32_ofInt, w32_ofInt]
  exact w32_wrap (x ||| y)
theorem w32_and (x y : BitVec 32) : bits .and .u32 (x.toNat : Int) (y.toNat : Int) = ((x &&& y).toNat : Int) := by
  unfold bits
  rw [w32_ofInt, w32_ofInt]
  exact w32_wrap (x &&& y)

/-- What is put to it where a bit falls out. -/
def Kw : BitVec 32 := 3988292384#32
/-- One bit's step. -/
def half (x : BitVec 32) : BitVec 32 := (x >>> 1) ^^^ (if x.getLsbD 0 then Kw else 0#32)
/-- So many bits' steps. -/
def halves : Nat → BitVec 32 → BitVec 32
  | 0, x => x
  | n + 1, x => half (halves n x)
/-- A byte as a word. -/
def byteW (b : UInt8) : BitVec 32 := BitVec.ofNat 32 b.toNat
/-- One byte's step. -/
def stepW (c : BitVec 32) (b : UInt8) : BitVec 32 := halves 8 (c ^^^ byteW b)
/-- The sum of bytes. -/
def sumW (bs : List UInt8) : BitVec 32 := ~~~ (bs.foldl stepW 4294967295#32)

theorem half_xor (x y : BitVec 32) : half (x ^^^ y) = half x ^^^ half y := by
  unfold half
  ext i hi
  simp only [BitVec.getElem_xor, BitVec.getElem_ushiftRight, BitVec.getLsbD_xor]
  have hif : ∀ p : Bool, (if p = true then Kw else 0#32)[i] = (p && Kw[i]) := by intro p; cases p <;> simp
  rw [hif, hif, hif]
  generalize x.getLsbD (1 + i) = a
  generalize y.getLsbD (1 + i) = b
  generalize x.getLsbD 0 = c
  generalize y.getLsbD 0 = d
  generalize Kw[i] = e
  revert a b c d e
  decide
theorem half_zero (z : BitVec 32) (h : half z = 0#32) : z = 0#32 := by
  have h31 : (half z).getLsbD 31 = z.getLsbD 0 := by
    unfold half
    rw [BitVec.getLsbD_xor, BitVec.getLsbD_ushiftRight, BitVec.getLsbD_of_ge z (1 + 31) (by omega)]
    cases z.getLsbD 0 <;> decide
  have h0 : z.getLsbD 0 = false := by rw [← h31, h]; decide
  have hs : z >>> 1 = 0#32 := by
    have := h
    unfold half at this
    rw [h0] at this
    simpa using this
  ext i hi
  rcases i with _ | i
  · rw [← BitVec.getLsbD_eq_getElem, h0]; simp
  · have h1 : (z >>> 1).getLsbD i = false := by rw [hs]; simp
    rw [BitVec.getLsbD_ushiftRight, Nat.add_comm] at h1
    rw [← BitVec.getLsbD_eq_getElem, h1]; simp
theorem xor_zero_iff (x y : BitVec 32) : x ^^^ y = 0#32 ↔ x = y := by
  constructor
  · intro h
    have : x ^^^ y ^^^ y = 0#32 ^^^ y := by rw [h]
    rwa [BitVec.xor_assoc, BitVec.xor_self, BitVec.xor_zero, BitVec.zero_xor] at this
  · rintro rfl; exact BitVec.xor_self
theorem halves_xor (n : Nat) (x y : BitVec 32) : halves n (x ^^^ y) = halves n x ^^^ halves n y := by
  induction n with
  | zero => rfl
  | succ n ih => rw [halves, ih, half_xor]; rfl
theorem halves_zero (n : Nat) (z : BitVec 32) (h : halves n z = 0#32) : z = 0#32 := by
  induction n with
  | zero => exact h
  | succ n ih => exact ih (half_zero _ h)
theorem halves_inj (n : Nat) (x y : BitVec 32) : halves n x = halves n y ↔ x = y := by
  constructor
  · intro h
    exact (xor_zero_iff x y).1 (halves_zero n _ (by rw [halves_xor]; exact (xor_zero_iff _ _).2 h))
  · rintro rfl; rfl
theorem byteW_inj (a b : UInt8) : byteW a = byteW b ↔ a = b := by
  constructor
  · intro h
    have := congrArg BitVec.toNat h
    simp only [byteW, BitVec.toNat_ofNat] at this
    have ha := a.toNat_lt
    have hb := b.toNat_lt
    apply UInt8.toNat_inj.1
    omega
  · rintro rfl; rfl
theorem stepW_byte (c : BitVec 32) (a b : UInt8) : stepW c a = stepW c b ↔ a = b := by
  unfold stepW
  rw [halves_inj]
  constructor
  · intro h
    have h2 : c ^^^ (c ^^^ byteW a) = c ^^^ (c ^^^ byteW b) := by rw [h]
    rw [← BitVec.xor_assoc, ← BitVec.xor_assoc, BitVec.xor_self, BitVec.zero_xor, BitVec.zero_xor] at h2
    exact (byteW_inj a b).1 h2
  · rintro rfl; rfl
theorem stepW_word (c d : BitVec 32) (a : UInt8) : stepW c a = stepW d a ↔ c = d := by
  unfold stepW
  rw [halves_inj]
  constructor
  · intro h
    have h2 : c ^^^ byteW a ^^^ byteW a = d ^^^ byteW a ^^^ byteW a := by rw [h]
    rwa [BitVec.xor_assoc, BitVec.xor_assoc, BitVec.xor_self, BitVec.xor_zero, BitVec.xor_zero] at h2
  · rintro rfl; rfl
theorem stepW_xor (c d : BitVec 32) (a b : UInt8) : stepW c a ^^^ stepW d b = stepW (c ^^^ d) (a ^^^ b) := by
  unfold stepW
  rw [← halves_xor]
  congr 1
  have : byteW (a ^^^ b) = byteW a ^^^ byteW b := by
    apply BitVec.eq_of_toNat_eq
    simp only [byteW, BitVec.toNat_ofNat, BitVec.toNat_xor, UInt8.toNat_xor]
    have ha := a.toNat_lt
    have hb := b.toNat_lt
    have hx : a.toNat ^^^ b.toNat < 2 ^ 8 := Nat.xor_lt_two_pow (by omega) (by omega)
    rw [Nat.mod_eq_of_lt (by omega), Nat.mod_eq_of_lt (by omega), Nat.mod_eq_of_lt (by omega)]
  rw [this]
  ac_rfl
end Go.Proofs.Ytnnhijfgbdhmiaa
