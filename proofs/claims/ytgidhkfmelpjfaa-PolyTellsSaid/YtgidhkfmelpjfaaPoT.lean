/- Contract of poly.Divide as one. -/
import Derived.Test.YtgidhkfmelpjfaaPoN
import Derived.Test.YtgidhkfmelpjfaaPoS
namespace Go.Proofs.Ytgidhkfmelpjfaa
open Go.RowKit Go.Shelf

theorem tr_id (p : List UInt8) (h : p.length = 0 ∨ C p (p.length - 1) ≠ 0) : tr (C p) p.length = p := by
  rw [← take_tr]
  have hl := tl_le (C p) p.length
  rcases h with h | h
  · have : p = [] := List.eq_nil_of_length_eq_zero h
    subst this; rfl
  · by_cases h0 : p.length = 0
    · have : p = [] := List.eq_nil_of_length_eq_zero h0
      subst this; rfl
    · have := tl_pos (C p) p.length (p.length - 1) (by omega) h
      rw [show tl (C p) p.length = p.length by omega, List.take_length]
/-- A trimmed row. -/
def Trd (p : List UInt8) : Prop := p.length = 0 ∨ C p (p.length - 1) ≠ 0
theorem tr_trd (f : Nat → UInt8) (n : Nat) : Trd (tr f n) := by
  unfold Trd
  rw [tr_length]
  by_cases h : tl f n = 0
  · exact .inl h
  · have hl := tl_last f n (by omega)
    refine .inr ?_
    rw [C_get _ _ (by rw [tr_length]; omega)]
    simpa [tr] using hl
/-- What the division by something tells: a quotient and a rest, both trimmed, the rest the shorter, and they make the dividend. -/
def DivOk (p q Q R : List UInt8) : Prop := (C p = fun x => PM Q (C q) x ^^^ C R x) ∧ R.length < (tr (C q) q.length).length ∧ Trd Q ∧ Trd R
theorem Divide_yes (pv qv : Value) (p q : List UInt8) (hp : p.length ≤ 100000) (hq : q.length ≤ 100000) (hm : 0 < tl (C q) q.length) (w : World) (hP : Sl eB w.heap.size w pv p) (hQ : Sl eB w.heap.size w qv q) :
    Calls Try.prog 10 #[pv, qv] w fun e w' => ∃ vq vr Q R, DivOk p q Q R ∧ Q.length ≤ p.length + 1 ∧ e = .returned (.tuple #[vq, vr, .int .i64 0]) ∧ Sl eB w'.heap.size w' vq Q ∧ Sl eB w'.heap.size w' vr R ∧ Below w.heap.size w w' := by
  have eq1 : C (tr (C q) q.length) = C q := C_tr _ _ (fun k hk => C_big q k hk)
  have ep1 : C (tr (C p) p.length) = C p := C_tr _ _ (fun k hk => C_big p k hk)
  have lq := tr_length (C q) q.length
  have lp := tr_length (C p) p.length
  have bq := tl_le (C q) q.length
  have bp := tl_le (C p) p.length
  have hlead : C (tr (C q) q.length) ((tr (C q) q.length).length - 1) ≠ 0 := by rw [eq1, lq]; exact tl_last _ _ hm
  have key : ∀ d N Q R, ma (C (tr (C q) q.length) ((tr (C q) q.length).length - 1)) d = 1 → N = (tr (C p) p.length).length + 1 - (tr (C q) q.length).length →
      Q = tr (dst (tr (C q) q.length) d N (C (tr (C p) p.length)) N).1 N → R = tr (dst (tr (C q) q.length) d N (C (tr (C p) p.length)) N).2 (tr (C p) p.length).length → DivOk p q Q R ∧ Q.length ≤ p.length + 1 := by
    intro d N Q R hd hN h1 h2
    obtain ⟨a, b⟩ := div_is _ _ Q R d N (by omega) hd hN h1 h2
    rw [ep1, eq1] at a
    refine ⟨⟨a, b, by rw [h1]; exact tr_trd _ _, by rw [h2]; exact tr_trd _ _⟩, ?_⟩
    rw [h1, tr_length]
    have := tl_le (dst (tr (C q) q.length) d N (C (tr (C p) p.length)) N).1 N
    omega
  by_cases hle : (tr (C q) q.length).length ≤ (tr (C p) p.length).length
  · refine (Divide_long pv qv p q _ _ hp hq rfl rfl (by omega) (by omega) (by omega) hlead ((tr (C p) p.length).length - (tr (C q) q.length).length) (by omega) w hP hQ).mono ?_
    rintro e w' ⟨vq, vr, d, hd, rfl, h1, h2, h3⟩
    obtain ⟨k1, k2⟩ := key d ((tr (C p) p.length).length - (tr (C q) q.length).length + 1) _ _ hd (by omega) rfl rfl
    exact ⟨vq, vr, _, _, k1, k2, rfl, h1, h2, h3⟩
  · have hc : Calls Try.prog 10 #[pv, qv] w fun e w' => ∃ vq vr d, ma (C (tr (C q) q.length) ((tr (C q) q.length).length - 1)) d = 1 ∧ e = .returned (.tuple #[vq, vr, .int .i64 0]) ∧
        Sl eB w'.heap.size w' vq [] ∧ Sl eB w'.heap.size w' vr (tr (C (tr (C p) p.length)) (tr (C p) p.length).length) ∧ Below w.heap.size w w' := by
      by_cases hL : (tr (C q) q.length).length = (tr (C p) p.length).length + 1
      · exact Divide_shortB pv qv p q _ _ hp hq rfl rfl (by omega) (by omega) (by omega) hlead hL w hP hQ
      · exact Divide_shortA pv qv p q _ _ hp hq rfl rfl (by omega) (by omega) (by omega) hlead ((tr (C q) q.length).length - (tr (C p) p.length).length - 1) (by omega) (by omega) w hP hQ
    refine hc.mono ?_
    rintro e w' ⟨vq, vr, d, hd, rfl, h1, h2, h3⟩
    obtain ⟨k1, k2⟩ := key d 0 [] _ hd (by omega) rfl rfl
    exact ⟨vq, vr, _, _, k1, k2, rfl, h1, h2, h3⟩
end Go.Proofs.Ytgidhkfmelpjfaa
