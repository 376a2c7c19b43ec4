/-
  The stable sort: rows sorted by blocks (mathematics), and symMerge_func for any parts.
-/
import Derived.Test.YtkcikdggfbjedaaGreatDoorCH06
import Derived.Shelf.GgSortMore.Stable
namespace Go.Proofs.YtkcikdggfbjedaaGreatDoor.S
open Go.Shelf Go.RowKit Go.Lib Go.Sort
section
variable {α : Type} [Inhabited α] {rk : α → Nat}

/-- sorted by blocks of so many -/
def All (rk : α → Nat) (bs n : Nat) (d : Array α) : Prop := ∀ q, Srt rk (q * bs) (min (q * bs + bs) n) d
/-- the blocks up to a are sorted -/
def UpTo (rk : α → Nat) (bs a : Nat) (d : Array α) : Prop := ∀ q, q * bs + bs ≤ a → Srt rk (q * bs) (q * bs + bs) d
theorem mul_lt_blk {bs p q : Nat} (h : p < q) : p * bs + bs ≤ q * bs := by
  have := Nat.mul_le_mul_right bs (show p + 1 ≤ q from h)
  rwa [Nat.add_mul, Nat.one_mul] at this
theorem srt_empty {a b : Nat} (d : Array α) (h : b ≤ a) : Srt rk a b d := fun i j h1 h2 h3 => by omega
/-- one block more -/
theorem UpTo.step {bs p : Nat} {d d' : Array α} (h : UpTo rk bs (p * bs) d) (hs : Stb rk (p * bs) (p * bs + bs) d d') (ho : Srt rk (p * bs) (p * bs + bs) d') (hb : 0 < bs) : UpTo rk bs (p * bs + bs) d' := fun q hq => by
  rcases Nat.lt_trichotomy q p with c | c | c
  · have e := mul_lt_blk (bs := bs) c
    exact (h q e).same fun t _ ht => hs.out t (by omega)
  · rw [c]; exact ho
  · have e := mul_lt_blk (bs := bs) c
    omega
/-- the last one -/
theorem UpTo.last {bs p n : Nat} {d d' : Array α} (h : UpTo rk bs (p * bs) d) (hn : n < p * bs + bs) (hs : Stb rk (p * bs) n d d') (ho : Srt rk (p * bs) n d') : All rk bs n d' := fun q => by
  rcases Nat.lt_trichotomy q p with c | c | c
  · have e := mul_lt_blk (bs := bs) c
    exact ((h q e).same fun t _ ht => hs.out t (by omega)).sub (Nat.le_refl _) (by omega)
  · rw [c]; exact ho.sub (Nat.le_refl _) (by omega)
  · have e := mul_lt_blk (bs := bs) c
    exact srt_empty _ (by omega)
/-- in the midst of doubling the blocks -/
structure Half (rk : α → Nat) (bs n p : Nat) (d : Array α) : Prop where
  up : UpTo rk (2 * bs) (p * (2 * bs)) d
  rest : ∀ q, p * (2 * bs) ≤ q * bs → Srt rk (q * bs) (min (q * bs + bs) n) d
theorem two_mul_blk (p bs : Nat) : (2 * p) * bs = p * (2 * bs) ∧ (2 * p + 1) * bs = p * (2 * bs) + bs := by
  have e : (2 * p) * bs = p * (2 * bs) := by rw [Nat.mul_comm 2 p, Nat.mul_assoc]
  exact ⟨e, by rw [Nat.add_mul, Nat.one_mul, e]⟩
theorem Half.left {bs n p : Nat} {d : Array α} (h : Half rk bs n p d) (hn : p * (2 * bs) + bs ≤ n) : Srt rk (p * (2 * bs)) (p * (2 * bs) + bs) d := by
  have e := two_mul_blk p bs
  have := h.rest (2 * p) (by omega)
  rw [e.1] at this
  exact this.sub (Nat.le_refl _) (by omega)
theorem Half.right {bs n p b : Nat} {d : Array α} (h : Half rk bs n p d) (hb1 : b ≤ p * (2 * bs) + 2 * bs) (hb : b ≤ n) : Srt rk (p * (2 * bs) + bs) b d := by
  have e := two_mul_blk p bs
  have := h.rest (2 * p + 1) (by omega)
  rw [e.2] at this
  exact this.sub (Nat.le_refl _) (by omega)
theorem Half.step {bs n p : Nat} {d d' : Array α} (h : Half rk bs n p d) (hb : 0 < bs) (hs : Stb rk (p * (2 * bs)) (p * (2 * bs) + 2 * bs) d d') (ho : Srt rk (p * (2 * bs)) (p * (2 * bs) + 2 * bs) d') : Half rk bs n (p + 1) d' := by
  have e : (p + 1) * (2 * bs) = p * (2 * bs) + 2 * bs := by rw [Nat.add_mul, Nat.one_mul]
  refine ⟨by rw [e]; exact h.up.step hs ho (by omega), fun q hq => ?_⟩
  rw [e] at hq
  exact (h.rest q (by omega)).same fun t ht _ => hs.out t (by omega)
theorem Half.last {bs n p : Nat} {d d' : Array α} (h : Half rk bs n p d) (hn : n < p * (2 * bs) + 2 * bs) (hs : Stb rk (p * (2 * bs)) n d d') (ho : Srt rk (p * (2 * bs)) n d') : All rk (2 * bs) n d' :=
  h.up.last hn hs ho
end

variable {P : Program} {ρ : Ren} {α : Type} [Inhabited α]
end Go.Proofs.YtkcikdggfbjedaaGreatDoor.S
/-
  sort.SliceStable: stable_func.
-/
namespace Go.Proofs.YtkcikdggfbjedaaGreatDoor.S
open Go.Shelf Go.RowKit Go.Lib Go.Sort
variable {P : Program} {ρ : Ren} {α : Type} [Inhabited α]

end Go.Proofs.YtkcikdggfbjedaaGreatDoor.S
