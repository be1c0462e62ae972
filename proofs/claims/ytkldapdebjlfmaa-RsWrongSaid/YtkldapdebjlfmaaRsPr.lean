/- Rows of pairs of numbers among the arguments; words of which few bytes are other ones. -/
import Derived.Test.YtkldapdebjlfmaaRsQ
import Derived.Test.YtkldapdebjlfmaaK
namespace Go.Proofs.Ytkldapdebjlfmaa
open Go.ChangeShapes Go.WideShapes Go.ChangeAt Go.RowKit Go.Shelf

/-- A row of pairs of numbers. -/
def Prs (B : Nat) (W : World) (v : Value) (n : Nat) (F G : Nat → Int) : Prop :=
  ∃ A cap, v = .slice A n cap ∧ (0 < n → ∃ b off, A = some ⟨b, off, none⟩ ∧ b < B ∧ ∀ i, i < n → W.cell? ⟨b, off + i * 2, none⟩ = some (eI (F i)) ∧ W.cell? ⟨b, off + i * 2 + 1, none⟩ = some (eI (G i)))
theorem open_pairs {H : Type} {enc : TypeId × Value → H} {P : Program} {W : World} {t e q : TypeId} {v : Value} {d : DataW H} {ps : List MemPlace} {r : Reach} {b0 : Nat} (ht : P.underlying t = some (.slice e)) (he : P.underlying e = some (.array 2 q)) (hq : P.underlying q = some (.int .i64)) (hc : P.cellsOf e = 2) (hc1 : P.cellsOf q = 1)
    (hval : Value.okWide P W r b0 t v) (h : DataW.Trod enc P W 0 (fun _ => true) true t v d ps) :
    ∃ (n : Nat) (F G : Nat → Int), Prs W.heap.size W v n F G := by
  obtain ⟨a0, n0, c0, rfl⟩ := okWide_slice ht hval
  obtain ⟨fuel, hf⟩ := h
  rcases Go.Deep.open_slice ht hf with ⟨hcs, _⟩ | ⟨a, len, cap, m, n, D, Pl, hcs, _, hlc, _, hm, _, hel⟩
  · simp [Value.cells] at hcs
    obtain ⟨rfl, rfl, rfl⟩ := hcs
    exact ⟨0, fun _ => 0, fun _ => 0, none, 0, rfl, fun h => absurd h (by omega)⟩
  · simp [Value.cells] at hcs
    obtain ⟨rfl, rfl, rfl⟩ := hcs
    simp only [if_true] at hm
    have hz : ∀ i, ∃ z : Int × Int, i < n0 → W.cell? (a.add (i * 2)) = some (eI z.1) ∧ W.cell? (a.add (i * 2 + 1)) = some (eI z.2) := by
      intro i
      by_cases hi : i < n0
      · obtain ⟨cs', h1, h2⟩ := hel i (by omega)
        rw [hc] at h1
        obtain ⟨_, hlen, hcell⟩ := World.cells?_some h1
        match cs', hlen with
        | [x0, x1], _ =>
        cases n with
        | zero => simp [DataW.trod] at h2
        | succ n =>
        rw [DataW.trod_step] at h2
        unfold DataW.trodStep at h2
        simp only [he] at h2
        rw [if_pos (by rw [hc]; rfl)] at h2
        simp only [Option.map_eq_some_iff] at h2
        obtain ⟨xs, hx, e1⟩ := h2
        rw [show List.range 2 = [0, 1] from rfl, List.mapM_cons, List.mapM_cons, List.mapM_nil] at hx
        simp only [bind, Option.bind_eq_some_iff, pure, Option.some.injEq, hc1] at hx
        obtain ⟨y0, h0, _, ⟨y1, h1', _, rfl, rfl⟩, rfl⟩ := hx
        obtain ⟨z0, ea, _, _⟩ := DataW.trod_int hq h0
        obtain ⟨z1, eb, _, _⟩ := DataW.trod_int hq h1'
        simp at ea eb
        subst ea
        subst eb
        have e0 := hcell 0 (by omega)
        have e1' := hcell 1 (by omega)
        rw [Go.Deep.add_add] at e0 e1'
        exact ⟨(z0, z1), fun _ => ⟨by simpa using e0, by simpa using e1'⟩⟩
      · exact ⟨(0, 0), fun h => absurd h hi⟩
    obtain ⟨Z, hZ⟩ := Classical.axiomOfChoice hz
    refine ⟨n0, fun i => (Z i).1, fun i => (Z i).2, some a, c0, rfl, fun hn => ?_⟩
    have h0 := (hZ 0 hn).1
    obtain ⟨b, off, pth⟩ := a
    have hp : pth = none := by
      cases pth with
      | none => rfl
      | some q =>
        simp only [World.cell?, Addr.add, if_true, Option.isSome_some] at h0
        split at h0 <;> cases h0
    subst hp
    have hadd : ∀ j, (⟨b, off, none⟩ : Addr).add j = ⟨b, off + j, none⟩ := fun j => by unfold Addr.add; split <;> simp_all
    refine ⟨b, off, rfl, World.block_lt_of_cell? W _ h0, fun j hj => ?_⟩
    have h1 := hZ j hj
    rw [hadd, hadd] at h1
    exact ⟨h1.1, by rw [Nat.add_assoc]; exact h1.2⟩
theorem unlike_set (f g g' : Nat → UInt8) (m : Nat) (h : ∀ j, j ≠ m → g' j = g j) (N : Nat) : unlike f g' N ≤ unlike f g N + (if m < N then 1 else 0) := by
  induction N with
  | zero => simp [unlike]
  | succ n ih =>
    rw [unlike_succ, unlike_succ]
    by_cases e : n = m
    · subst e
      rw [if_neg (Nat.lt_irrefl _)] at ih
      rw [if_pos (Nat.lt_succ_self _)]
      split <;> split <;> omega
    · rw [h n e]
      have h1 : (m < n + 1) = (m < n) := by rw [eq_iff_iff]; omega
      simp only [h1]
      omega
theorem C_set (L : List UInt8) (m : Nat) (u : UInt8) (j : Nat) (h : j ≠ m) : C (L.set m u) j = C L j := by
  simp [C, List.getElem?_set_ne (fun e => h e.symm)]
theorem unlike_put (f : Nat → UInt8) (L : List UInt8) (m : Nat) (u : UInt8) (N k : Nat) (h : unlike f (C L) N ≤ k) : unlike f (C (L.set m u)) N ≤ k + 1 := by
  have h1 := unlike_set f (C L) (C (L.set m u)) m (fun j hj => C_set L m u j hj) N
  split at h1 <;> omega
/-- Of a right word with few other bytes: right if it is the same. -/
theorem right_unlike (a L : List UInt8) (N p : Nat) (la : a.length = N) (lL : L.length = N) (hN : N ≤ 255) (hr : Rig (C a) N p) (hu : unlike (C a) (C L) N ≤ p) : (synL L.reverse p).all (· = 0) = decide (L = a) := by
  by_cases h : L = a
  · subst h
    rw [decide_eq_true rfl, right_iff, lL]
    exact hr
  · rw [decide_eq_false h, Bool.eq_false_iff]
    intro hc
    rw [right_iff, lL] at hc
    have h1 := rig_few hN hr hc (by unfold unlike at hu; exact hu)
    refine h (List.ext_getElem (by omega) fun i h2 h3 => ?_)
    have h4 := h1 i (by omega)
    rw [C_get a i h3, C_get L i h2] at h4
    exact h4.symm
theorem place_in (at_ : Int) (n : Nat) (h : 0 < n) (hn : n ≤ 9000000000000000) : ∃ p : Nat, p < n ∧ (wrap64 (at_.tmod (n : Int) + n)).tmod (n : Int) = p := by
  have h1 : at_.tmod (n : Int) < (n : Int) := Int.tmod_lt_of_pos _ (by omega)
  have h2 : -(n : Int) < at_.tmod (n : Int) := Int.lt_tmod_of_pos _ (by omega)
  generalize at_.tmod (n : Int) = t at *
  rw [IntWalk.wrap64_in (t + n) (by omega), Int.tmod_eq_emod_of_nonneg (by omega)]
  have h3 := Int.emod_nonneg (t + n) (b := (n : Int)) (by omega)
  have h4 := Int.emod_lt_of_pos (t + n) (b := (n : Int)) (by omega)
  exact ⟨((t + n) % (n : Int)).toNat, by omega, by omega⟩
theorem byte_ex (z : Int) : ∃ u : UInt8, IntKind.u8.wrap z = (u.toNat : Int) := by
  have h1 := Int.emod_nonneg z (b := 256) (by omega)
  have h2 := Int.emod_lt_of_pos z (b := 256) (by omega)
  refine ⟨UInt8.ofNat (z % 256).toNat, ?_⟩
  rw [IntKind.wrap_u8]
  simp
  omega
end Go.Proofs.Ytkldapdebjlfmaa
