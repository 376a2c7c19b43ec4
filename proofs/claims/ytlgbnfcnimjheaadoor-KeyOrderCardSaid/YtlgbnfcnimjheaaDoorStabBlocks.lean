/-
  The stable sort: rows sorted by blocks (mathematics), and symMerge_func for any parts.
-/
import Derived.Test.YtlgbnfcnimjheaaDoorStabMerge3
namespace Go.Proofs.YtlgbnfcnimjheaaDoor.S
open Go.Shelf Go.RowKit Go.Lib Go.Sort
section
variable {α : Type} [Inhabited α] {rk : α → Nat}

/-- sorted by blocks of so many -/
def All (rk : α → Nat) (bs n : Nat) (d : Array α) : Prop := ∀ q, Srt rk (q * bs) (min (q * bs + bs) n) d
/-- the blocks up to a are sorted -/
def UpTo (rk : α → Nat) (bs a : Nat) (d : Array α) : Prop := ∀ q, q * bs + bs ≤ a → Srt rk (q * bs) (q * bs + bs) d
theorem upto_zero (bs : Nat) (d : Array α) (h : 0 < bs) : UpTo rk bs 0 d := fun q hq => by omega
theorem mul_lt_blk {bs p q : Nat} (h : p < q) : p * bs + bs ≤ q * bs := by
  have := Nat.mul_le_mul_right bs (show p + 1 ≤ q from h)
  rwa [Nat.add_mul, Nat.one_mul] at this
theorem srt_empty {a b : Nat} (d : Array α) (h : b ≤ a) : Srt rk a b d := fun i j h1 h2 h3 => by omega
/-- one block more -/
theorem UpTo.step {bs p : Nat} {d d' : Array α} (h : UpTo rk bs (p * bs) d) (hs : Stb rk (p * bs) (p * bs + bs) d d') (ho : Srt rk (p * bs) (p * bs + bs) d') (hb : 0 < bs) : UpTo rk bs (p * bs + bs) d' := fun q hq => by
  rcases Nat.lt_trichotomy q p with c | c | c
  · have e := mul_lt_blk (bs := bs) c
    exact (h q e).same fun t _ ht => hs.out t (by omega)
  · rw [c]; exact ho
  · have e := mul_lt_blk (bs := bs) c
    omega
/-- the last one -/
theorem UpTo.last {bs p n : Nat} {d d' : Array α} (h : UpTo rk bs (p * bs) d) (hn : n < p * bs + bs) (hs : Stb rk (p * bs) n d d') (ho : Srt rk (p * bs) n d') : All rk bs n d' := fun q => by
  rcases Nat.lt_trichotomy q p with c | c | c
  · have e := mul_lt_blk (bs := bs) c
    exact ((h q e).same fun t _ ht => hs.out t (by omega)).sub (Nat.le_refl _) (by omega)
  · rw [c]; exact ho.sub (Nat.le_refl _) (by omega)
  · have e := mul_lt_blk (bs := bs) c
    exact srt_empty _ (by omega)
/-- in the midst of doubling the blocks -/
structure Half (rk : α → Nat) (bs n p : Nat) (d : Array α) : Prop where
  up : UpTo rk (2 * bs) (p * (2 * bs)) d
  rest : ∀ q, p * (2 * bs) ≤ q * bs → Srt rk (q * bs) (min (q * bs + bs) n) d
theorem half_start {bs n : Nat} {d : Array α} (h : All rk bs n d) (hb : 0 < bs) : Half rk bs n 0 d := ⟨by rw [Nat.zero_mul]; exact upto_zero _ _ (by omega), fun q _ => h q⟩
theorem two_mul_blk (p bs : Nat) : (2 * p) * bs = p * (2 * bs) ∧ (2 * p + 1) * bs = p * (2 * bs) + bs := by
  have e : (2 * p) * bs = p * (2 * bs) := by rw [Nat.mul_comm 2 p, Nat.mul_assoc]
  exact ⟨e, by rw [Nat.add_mul, Nat.one_mul, e]⟩
theorem Half.left {bs n p : Nat} {d : Array α} (h : Half rk bs n p d) (hn : p * (2 * bs) + bs ≤ n) : Srt rk (p * (2 * bs)) (p * (2 * bs) + bs) d := by
  have e := two_mul_blk p bs
  have := h.rest (2 * p) (by omega)
  rw [e.1] at this
  exact this.sub (Nat.le_refl _) (by omega)
theorem Half.right {bs n p b : Nat} {d : Array α} (h : Half rk bs n p d) (hb1 : b ≤ p * (2 * bs) + 2 * bs) (hb : b ≤ n) : Srt rk (p * (2 * bs) + bs) b d := by
  have e := two_mul_blk p bs
  have := h.rest (2 * p + 1) (by omega)
  rw [e.2] at this
  exact this.sub (Nat.le_refl _) (by omega)
theorem Half.step {bs n p : Nat} {d d' : Array α} (h : Half rk bs n p d) (hb : 0 < bs) (hs : Stb rk (p * (2 * bs)) (p * (2 * bs) + 2 * bs) d d') (ho : Srt rk (p * (2 * bs)) (p * (2 * bs) + 2 * bs) d') : Half rk bs n (p + 1) d' := by
  have e : (p + 1) * (2 * bs) = p * (2 * bs) + 2 * bs := by rw [Nat.add_mul, Nat.one_mul]
  refine ⟨by rw [e]; exact h.up.step hs ho (by omega), fun q hq => ?_⟩
  rw [e] at hq
  exact (h.rest q (by omega)).same fun t ht _ => hs.out t (by omega)
theorem Half.last {bs n p : Nat} {d d' : Array α} (h : Half rk bs n p d) (hn : n < p * (2 * bs) + 2 * bs) (hs : Stb rk (p * (2 * bs)) n d d') (ho : Srt rk (p * (2 * bs)) n d') : All rk (2 * bs) n d' :=
  h.up.last hn hs ho
theorem Half.idle {bs n p : Nat} {d : Array α} (h : Half rk bs n p d) (hn : n ≤ p * (2 * bs) + bs) : All rk (2 * bs) n d := by
  by_cases hb : bs = 0
  · subst hb
    intro q
    exact srt_empty _ (by simp only [Nat.mul_zero]; omega)
  · refine h.last (by omega) (Stb.refl _ _ _) ?_
    have e := two_mul_blk p bs
    have := h.rest (2 * p) (by omega)
    rw [e.1] at this
    exact this.sub (Nat.le_refl _) (by omega)
theorem All.srt {bs n : Nat} {d : Array α} (h : All rk bs n d) (hn : n ≤ bs) : Srt rk 0 n d := by
  have := h 0
  rw [Nat.zero_mul, Nat.zero_add, Nat.min_eq_right hn] at this
  exact this
end

variable {P : Program} {ρ : Ren} {α : Type} [Inhabited α]
theorem Any.symMerge_cells (L : LaysGt.n30 P ρ) {enc : α → List Value} {k g sf blk off size : Nat} {lb sb : Array Value} {rk : α → Nat} {w0 : World} (F : Fam P enc k g lb sf sb blk off size rk w0) :
    ∀ (N a m b : Nat) (d : Array α) (w : World), b - a ≤ N → d.size = size → SWK enc k w0 blk off d w → a < m → m < b → b ≤ size → Srt rk a m d → Srt rk m b d → Calls P (ρ.f 30) #[dat g lb sf sb, .int .i64 a, .int .i64 m, .int .i64 b] w (Merged rk enc k g lb sf sb blk off w0 w a b d) := by
  intro N
  induction N using Nat.strongRecOn with
  | _ N ih =>
    intro a m b d w hN hd hW h1 h2 h3 hl hr
    by_cases c1 : m = a + 1
    · exact Any.merge_left L F a m b d hd w hW c1 h2 h3 hr
    · by_cases c2 : b = m + 1
      · exact Any.merge_right L F a m b d hd w hW (by omega) c2 h3 hl
      · have IH : ∀ (a' m' b' : Nat) (d : Array α) (w : World), b' - a' < b - a → d.size = size → SWK enc k w0 blk off d w → a' < m' → m' < b' → b' ≤ size → Srt rk a' m' d → Srt rk m' b' d → Calls P (ρ.f 30) #[dat g lb sf sb, .int .i64 a', .int .i64 m', .int .i64 b'] w (Merged rk enc k g lb sf sb blk off w0 w a' b' d) :=
          fun a' m' b' d w hb => ih (b' - a') (by omega) a' m' b' d w (Nat.le_refl _)
        have hM : ((a : Int) + (b : Int)) / 2 = (((a + b) / 2 : Nat) : Int) := by omega
        by_cases c3 : (a + b) / 2 < m
        · exact Any.merge_low L F (b - a) IH a m b d hd w hW rfl (by omega) (by omega) h3 hl hr _ hM c3
        · exact Any.merge_high L F (b - a) IH a m b d hd w hW rfl (by omega) (by omega) h3 hl hr _ hM (by omega)
end Go.Proofs.YtlgbnfcnimjheaaDoor.S
