/-
  The stable sort: rows sorted by blocks (mathematics), and symMerge_func for any parts.
-/
import Derived.Test.YtlfbflclefndjaaGreatDoorKE06
import Derived.Shelf.GgSortMore.Stable
namespace Go.Proofs.YtlfbflclefndjaaGreatDoor.S
open Go.Shelf Go.RowKit Go.Lib Go.Sort
section
variable {α : Type} [Inhabited α] {rk : α → Nat}

/-- sorted by blocks of so many -/
def All (rk : α → Nat) (bs n : Nat) (d : Array α) : Prop := ∀ q, Srt rk (q * bs) (min (q * bs + bs) n) d
/-- the blocks up to a are sorted -/
def UpTo (rk : α → Nat) (bs a : Nat) (d : Array α) : Prop := ∀ q, q * bs + bs ≤ a → Srt rk (q * bs) (q * bs + bs) d
theorem upto_zero (bs : Nat) (d : Array α) (h : 0 < bs) : UpTo rk bs 0 d := fun q hq => by omega
theorem mul_lt_blk {bs p q : Nat} (h : p < q) : p * bs + bs ≤ q * bs := by
  have := Nat.mul_le_mul_right bs (show p + 1 ≤ q from h)
  rwa [Nat.add_mul, Nat.one_mul] at this
theorem srt_empty {a b : Nat} (d : Array α) (h : b ≤ a) : Srt rk a b d := fun i j h1 h2 h3 => by omega
/-- one block more -/
theorem UpTo.step {bs p : Nat} {d d' : Array α} (h : UpTo rk bs (p * bs) d) (hs : Stb rk (p * bs) (p * bs + bs) d d') (ho : Srt rk (p * bs) (p * bs + bs) d') (hb : 0 < bs) : UpTo rk bs (p * bs + bs) d' := fun q hq => by
  rcases Nat.lt_trichotomy q p with c | c | c
  · have e := mul_lt_blk (bs := bs) c
    exact (h q e).same fun t _ ht => hs.out t (by omega)
  · rw [c]; exact ho
  · have e := mul_lt_blk (bs := bs) c
    omega
/-- the last one -/
theorem UpTo.last {bs p n : Nat} {d d' : Array α} (h : UpTo rk bs (p * bs) d) (hn : n < p * bs + bs) (hs : Stb rk (p * bs) n d d') (ho : Srt rk (p * bs) n d') : All rk bs n d' := fun q => by
  rcases Nat.lt_trichotomy q p with c | c | c
  · have e := mul_lt_blk (bs := bs) c
    exact ((h q e).same fun t _ ht => hs.out t (by omega)).sub (Nat.le_refl _) (by omega)
  · rw [c]; exact ho.sub (Nat.le_refl _) (by omega)
  · have e := mul_lt_blk (bs := bs) c
    exact srt_empty _ (by omega)
/-- in the midst of doubling the blocks -/
structure Half (rk : α → Nat) (bs n p : Nat) (d : Array α) : Prop where
  up : UpTo rk (2 * bs) (p * (2 * bs)) d
  rest : ∀ q, p * (2 * bs) ≤ q * bs → Srt rk (q * bs) (min (q * bs + bs) n) d
theorem half_start {bs n : Nat} {d : Array α} (h : All rk bs n d) (hb : 0 < bs) : Half rk bs n 0 d := ⟨by rw [Nat.zero_mul]; exact upto_zero _ _ (by omega), fun q _ => h q⟩
theorem two_mul_blk (p bs : Nat) : (2 * p) * bs = p * (2 * bs) ∧ (2 * p + 1) * bs = p * (2 * bs) + bs := by
  have e : (2 * p) * bs = p * (2 * bs) := by rw [Nat.mul_comm 2 p, Nat.mul_assoc]
  exact ⟨e, by rw [Nat.add_mul, Nat.one_mul, e]⟩
theorem Half.left {bs n p : Nat} {d : Array α} (h : Half rk bs n p d) (hn : p * (2 * bs) + bs ≤ n) : Srt rk (p * (2 * bs)) (p * (2 * bs) + bs) d := by
  have e := two_mul_blk p bs
  have := h.rest (2 * p) (by omega)
  rw [e.1] at this
  exact this.sub (Nat.le_refl _) (by omega)
theorem Half.right {bs n p b : Nat} {d : Array α} (h : Half rk bs n p d) (hb1 : b ≤ p * (2 * bs) + 2 * bs) (hb : b ≤ n) : Srt rk (p * (2 * bs) + bs) b d := by
  have e := two_mul_blk p bs
  have := h.rest (2 * p + 1) (by omega)
  rw [e.2] at this
  exact this.sub (Nat.le_refl _) (by omega)
theorem Half.step {bs n p : Nat} {d d' : Array α} (h : Half rk bs n p d) (hb : 0 < bs) (hs : Stb rk (p * (2 * bs)) (p * (2 * bs) + 2 * bs) d d') (ho : Srt rk (p * (2 * bs)) (p * (2 * bs) + 2 * bs) d') : Half rk bs n (p + 1) d' := by
  have e : (p + 1) * (2 * bs) = p * (2 * bs) + 2 * bs := by rw [Nat.add_mul, Nat.one_mul]
  refine ⟨by rw [e]; exact h.up.step hs ho (by omega), fun q hq => ?_⟩
  rw [e] at hq
  exact (h.rest q (by omega)).same fun t ht _ => hs.out t (by omega)
theorem Half.last {bs n p : Nat} {d d' : Array α} (h : Half rk bs n p d) (hn : n < p * (2 * bs) + 2 * bs) (hs : Stb rk (p * (2 * bs)) n d d') (ho : Srt rk (p * (2 * bs)) n d') : All rk (2 * bs) n d' :=
  h.up.last hn hs ho
theorem Half.idle {bs n p : Nat} {d : Array α} (h : Half rk bs n p d) (hn : n ≤ p * (2 * bs) + bs) : All rk (2 * bs) n d := by
  by_cases hb : bs = 0
  · subst hb
    intro q
    exact srt_empty _ (by simp only [Nat.mul_zero]; omega)
  · refine h.last (by omega) (Stb.refl _ _ _) ?_
    have e := two_mul_blk p bs
    have := h.rest (2 * p) (by omega)
    rw [e.1] at this
    exact this.sub (Nat.le_refl _) (by omega)
theorem All.srt {bs n : Nat} {d : Array α} (h : All rk bs n d) (hn : n ≤ bs) : Srt rk 0 n d := by
  have := h 0
  rw [Nat.zero_mul, Nat.zero_add, Nat.min_eq_right hn] at this
  exact this
end

variable {P : Program} {ρ : Ren} {α : Type} [Inhabited α]
theorem Any.symMerge_cells (L : LaysGt.n30 P ρ) {enc : α → List Value} {k g sf blk off size : Nat} {lb sb : Array Value} {rk : α → Nat} {w0 : World} (F : Fam P enc k g lb sf sb blk off size rk w0) :
    ∀ (N a m b : Nat) (d : Array α) (w : World), b - a ≤ N → d.size = size → SWK enc k w0 blk off d w → a < m → m < b → b ≤ size → Srt rk a m d → Srt rk m b d → Calls P (ρ.f 30) #[dat g lb sf sb, .int .i64 a, .int .i64 m, .int .i64 b] w (Merged rk enc k g lb sf sb blk off w0 w a b d) := by
  intro N
  induction N using Nat.strongRecOn with
  | _ N ih =>
    intro a m b d w hN hd hW h1 h2 h3 hl hr
    by_cases c1 : m = a + 1
    · exact Any.merge_left L F a m b d hd w hW c1 h2 h3 hr
    · by_cases c2 : b = m + 1
      · exact Any.merge_right L F a m b d hd w hW (by omega) c2 h3 hl
      · have IH : ∀ (a' m' b' : Nat) (d : Array α) (w : World), b' - a' < b - a → d.size = size → SWK enc k w0 blk off d w → a' < m' → m' < b' → b' ≤ size → Srt rk a' m' d → Srt rk m' b' d → Calls P (ρ.f 30) #[dat g lb sf sb, .int .i64 a', .int .i64 m', .int .i64 b'] w (Merged rk enc k g lb sf sb blk off w0 w a' b' d) :=
          fun a' m' b' d w hb => ih (b' - a') (by omega) a' m' b' d w (Nat.le_refl _)
        have hM : ((a : Int) + (b : Int)) / 2 = (((a + b) / 2 : Nat) : Int) := by omega
        by_cases c3 : (a + b) / 2 < m
        · exact Any.merge_low L F (b - a) IH a m b d hd w hW rfl (by omega) (by omega) h3 hl hr _ hM c3
        · exact Any.merge_high L F (b - a) IH a m b d hd w hW rfl (by omega) (by omega) h3 hl hr _ hM (by omega)
end Go.Proofs.YtlfbflclefndjaaGreatDoor.S
/-
  sort.SliceStable: stable_func.
-/
namespace Go.Proofs.YtlfbflclefndjaaGreatDoor.S
open Go.Shelf Go.RowKit Go.Lib Go.Sort
variable {P : Program} {ρ : Ren} {α : Type} [Inhabited α]

theorem Any.insertion_cells (L : LaysGt.n29 P ρ) {enc : α → List Value} {k g sf blk off size : Nat} {lb sb : Array Value} {rk : α → Nat} {w0 : World} (F : Fam P enc k g lb sf sb blk off size rk w0)
    (a b : Nat) (d : Array α) (hd : d.size = size) (w : World) (hW : SWK enc k w0 blk off d w) (h1 : a ≤ b) (h2 : b ≤ size) :
    Calls P (ρ.f 29) #[dat g lb sf sb, .int .i64 a, .int .i64 b] w (Merged rk enc k g lb sf sb blk off w0 w a b d) := by
  have h := Any.insertionSort_func_cells_w L.elder enc k F.hk (ltR rk) g lb sf sb blk off a b d w F.eg (by rw [hd]; exact hW.lessReads F.less F.blk hd) (by rw [hd]; exact F.swap) (F.holdsAt hW hd) (hW.lt F.blk) h1 (by rw [hd]; exact h2) (by rw [hd]; exact F.sz)
  refine h.mono ?_
  rintro e w' ⟨rfl, n, os, rfl⟩
  have S := insertion_stb (rk := rk) a b d h1 (by rw [hd]; exact h2)
  exact ⟨rfl, _, S.1, S.2, hW.on F.blk n _ os S.1.size, fun x hx hx2 hB => ⟨by rw [cell?_sortWorldK_other enc k w blk off n _ os _ hx2 hx]; exact hB.1, by rw [cell?_sortWorldK_other enc k w blk off n _ os _ hx2 hx]; exact hB.2.1,
    Nat.lt_of_lt_of_le hx (SWK.le (⟨n, os, rfl⟩ : SWK enc k w blk off _ _))⟩⟩

set_option maxHeartbeats 4000000 in
set_option maxRecDepth 1000000 in
theorem Any.stable_cells (L : LaysGt.n15 P ρ) {enc : α → List Value} {k g sf blk off size : Nat} {lb sb : Array Value} {rk : α → Nat} {w0 : World} (F : Fam P enc k g lb sf sb blk off size rk w0)
    (d : Array α) (hd : d.size = size) (w : World) (hW : SWK enc k w0 blk off d w) (hsz2 : size < 1000000000000000000) :
    Calls P (ρ.f 15) #[dat g lb sf sb, .int .i64 size] w (Merged rk enc k g lb sf sb blk off w0 w 0 size d) := by
  have mixed := L.mixed; have t0 := L.t0; have a0 := L.a0; have z0 := L.z0; have v0 := L.v0; have t3 := L.t3; have a3 := L.a3; have z3 := L.z3; have v3 := L.v3; have t4 := L.t4; have a4 := L.a4; have z4 := L.z4; have v4 := L.v4; have t26 := L.t26; have a26 := L.a26; have z26 := L.z26; have v26 := L.v26; have t38 := L.t38; have a38 := L.a38; have z38 := L.z38; have v38 := L.v38; have t42 := L.t42; have a42 := L.a42; have z42 := L.z42; have v42 := L.v42; have t47 := L.t47; have a47 := L.a47; have z47 := L.z47; have v47 := L.v47
  have u42 := run_underlying L.t42
  have e29 : ∀ args w, (callFunc (ρ.f 29) args).run P w = .ok (.enter (ρ.f 29) args) w := enters_of L.f29 (by kernel_rfl) rfl
  have e30 : ∀ args w, (callFunc (ρ.f 30) args).run P w = .ok (.enter (ρ.f 30) args) w := enters_of L.f30 (by kernel_rfl) rfl
  have hne : w.heap.size ≠ blk := by have := hW.lt F.blk; omega
  go_enter L.f15, BodyGt.n15_ntmps ρ
  go_wp2
  go_loopg [5, 6] (size + 1) (fun kx s5 s6 wr => ∃ (a : Nat), s5 = .int .i64 a ∧ s6 = .int .i64 ((a : Int) + 20) ∧ a ≤ size ∧ size + 1 ≤ a + kx ∧ Aside (∃ p dk, a = p * 20 ∧ Stb rk 0 size d dk ∧ UpTo rk 20 (p * 20) dk ∧ Mid enc k g lb sf sb blk off w0 w dk wr) ∧
      wr.cell? ⟨w.heap.size, 0, none⟩ = some (.func (.func g) #[] lb) ∧ wr.cell? ⟨w.heap.size, 1, none⟩ = some (.func (.func sf) #[] sb) ∧ w.heap.size < wr.heap.size)
  case atStart => exact ⟨0, rfl, rfl, Nat.zero_le _, by omega, ⟨0, d, by omega, Stb.refl _ _ _, by rw [Nat.zero_mul]; exact upto_zero _ _ (by omega), hW.alloc _, fun x hx _ hB => hB.alloc hx _, box_new _ _ _ _ _ _⟩, by simp, by simp, by simp⟩
  case round =>
    obtain ⟨a, rfl, rfl, ha, hk, A, c0, c1, hs1⟩ := hrel
    by_cases hlt : a + 20 ≤ size
    · have hl : Calls P (ρ.f 29) #[dat g lb sf sb, .int .i64 a, .int .i64 ((a : Int) + 20)] wr fun e w' => e = .returned (.tuple #[]) ∧ Aside ((∃ p dk, a + 20 = p * 20 ∧ Stb rk 0 size d dk ∧ UpTo rk 20 (p * 20) dk ∧ Mid enc k g lb sf sb blk off w0 w dk w') ∧ Box w' w.heap.size g lb sf sb) := by
        obtain ⟨p, dk, hp, s1, s2, s3⟩ := A.out
        rw [show ((a : Int) + 20) = ((a + 20 : Nat) : Int) by omega]
        refine (Any.insertion_cells (P := P) (ρ := ρ) { L with } F a (a + 20) dk (by rw [s1.size, hd]) wr s3.sw (by omega) hlt).mono ?_
        rintro e w' ⟨rfl, d2, r1, r2, r3, r4⟩
        have own := r4 _ s3.own.2.2 hne s3.own
        refine ⟨rfl, ⟨p + 1, d2, by omega, s1.trans (r1.wide (Nat.zero_le _) (by omega) hlt), ?_, r3, fun x hx hx2 hB => r4 x (s3.bx x hx hx2 hB).2.2 hx2 (s3.bx x hx hx2 hB), own⟩, own⟩
        rw [show (p + 1) * 20 = p * 20 + 20 by omega]
        subst hp
        exact s2.step r1 r2 (by omega)
      clear A F hW
      go_wp2_with (go_at_fn (ρ.f 29); refine hl.mono ?_; rintro e w' ⟨rfl, A2⟩)
      go_roundg (gk - 20)
      case measure => omega
      case rel => exact ⟨a + 20, by congr 1, by congr 1, hlt, by omega, A2.out.1, A2.out.2.1, A2.out.2.2.1, A2.out.2.2.2⟩
    · have hl : Calls P (ρ.f 29) #[dat g lb sf sb, .int .i64 a, .int .i64 size] wr fun e w' => e = .returned (.tuple #[]) ∧ Aside ((∃ dk, Stb rk 0 size d dk ∧ All rk 20 size dk ∧ Mid enc k g lb sf sb blk off w0 w dk w') ∧ Box w' w.heap.size g lb sf sb) := by
        obtain ⟨p, dk, hp, s1, s2, s3⟩ := A.out
        refine (Any.insertion_cells (P := P) (ρ := ρ) { L with } F a size dk (by rw [s1.size, hd]) wr s3.sw ha (Nat.le_refl _)).mono ?_
        rintro e w' ⟨rfl, d2, r1, r2, r3, r4⟩
        have own := r4 _ s3.own.2.2 hne s3.own
        refine ⟨rfl, ⟨d2, s1.trans (r1.wide (Nat.zero_le _) ha (Nat.le_refl _)), ?_, r3, fun x hx hx2 hB => r4 x (s3.bx x hx hx2 hB).2.2 hx2 (s3.bx x hx hx2 hB), own⟩, own⟩
        subst hp
        exact s2.last (by omega) r1 r2
      have hge : decide ((a : Int) + 20 ≤ (size : Int)) = false := by simp; omega
      clear A
      go_wp2_with (go_at_fn (ρ.f 29); refine hl.mono ?_; rintro e w1 ⟨rfl, A⟩; clear c0 c1 hs1; have c0 := A.out.2.1; have c1 := A.out.2.2.1; have hs1 := A.out.2.2.2)
      clear hl ha hk hlt hge
      go_loopg [4] size (fun kx s4 wr2 => ∃ (bs : Nat), s4 = .int .i64 bs ∧ 1 ≤ bs ∧ bs ≤ 2 * size + 20 ∧ size < bs + kx ∧ Aside (∃ dk, Stb rk 0 size d dk ∧ All rk bs size dk ∧ Mid enc k g lb sf sb blk off w0 w dk wr2) ∧
        wr2.cell? ⟨w.heap.size, 0, none⟩ = some (.func (.func g) #[] lb) ∧ wr2.cell? ⟨w.heap.size, 1, none⟩ = some (.func (.func sf) #[] sb) ∧ w.heap.size < wr2.heap.size)
      case atStart => exact ⟨20, rfl, by omega, by omega, by omega, A.out.1, c0, c1, hs1⟩
      case round =>
        clear A c0 c1 hs1
        obtain ⟨bs, rfl, hb1, hb2, hk, A, c0, c1, hs1⟩ := hrel
        obtain ⟨K0, hK0⟩ : ∃ K0, K0 = gk := ⟨gk, rfl⟩
        subst hK0
        by_cases hbs : bs < size
        · have hbz : (2 : Int) * (bs : Int) = ((2 * bs : Nat) : Int) := by omega
          obtain ⟨B, hB⟩ : ∃ B, B = 2 * bs := ⟨_, rfl⟩
          have hB2 : (2 : Int) * (bs : Int) = (B : Int) := by omega
          have hB3 : (bs : Int) * 2 = (B : Int) := by omega
          have hB4 : B < 4000000000000000000 := by omega
          have HB : Aside (B = 2 * bs) := hB
          clear hB hbz
          go_wp2
          go_loopg [5, 6] (size + 1) (fun kx s5 s6 wr3 => ∃ (a : Nat), s5 = .int .i64 a ∧ s6 = .int .i64 ((a : Int) + (B : Int)) ∧ a ≤ size ∧ size + 1 ≤ a + kx ∧ Aside (∃ p dk, a = p * (2 * bs) ∧ Stb rk 0 size d dk ∧ Half rk bs size p dk ∧ Mid enc k g lb sf sb blk off w0 w dk wr3) ∧
            wr3.cell? ⟨w.heap.size, 0, none⟩ = some (.func (.func g) #[] lb) ∧ wr3.cell? ⟨w.heap.size, 1, none⟩ = some (.func (.func sf) #[] sb) ∧ w.heap.size < wr3.heap.size)
          case atStart =>
            obtain ⟨dk, q1, q2, q3⟩ := A.out
            exact ⟨0, rfl, by simp, Nat.zero_le _, by omega, ⟨0, dk, by omega, q1, half_start q2 hb1, q3⟩, c0, c1, hs1⟩
          case round =>
            clear A c0 c1 hs1
            obtain ⟨a, rfl, rfl, ha, hk2, A, c0, c1, hs1⟩ := hrel
            by_cases hlt : a + B ≤ size
            · have hl : Calls P (ρ.f 30) #[dat g lb sf sb, .int .i64 a, .int .i64 ((a : Int) + (bs : Int)), .int .i64 ((a : Int) + (B : Int))] wr fun e w' => e = .returned (.tuple #[]) ∧ Aside ((∃ p dk, a + B = p * (2 * bs) ∧ Stb rk 0 size d dk ∧ Half rk bs size p dk ∧ Mid enc k g lb sf sb blk off w0 w dk w') ∧ Box w' w.heap.size g lb sf sb) := by
                obtain ⟨p, dk, hp, s1, s2, s3⟩ := A.out
                have HB := HB.out
                subst HB
                rw [show ((a : Int) + ((2 * bs : Nat) : Int)) = ((a + 2 * bs : Nat) : Int) by omega, show ((a : Int) + (bs : Int)) = ((a + bs : Nat) : Int) by omega]
                refine (Any.symMerge_cells (P := P) (ρ := ρ) { L with } F _ a (a + bs) (a + 2 * bs) dk wr (Nat.le_refl _) (by rw [s1.size, hd]) s3.sw (by omega) (by omega) hlt (by subst hp; exact s2.left (by omega)) (by subst hp; exact s2.right (Nat.le_refl _) hlt)).mono ?_
                rintro e w' ⟨rfl, d2, r1, r2, r3, r4⟩
                have own := r4 _ s3.own.2.2 hne s3.own
                refine ⟨rfl, ⟨p + 1, d2, ?_, s1.trans (r1.wide (Nat.zero_le _) (by omega) hlt), ?_, r3, fun x hx hx2 hB => r4 x (s3.bx x hx hx2 hB).2.2 hx2 (s3.bx x hx hx2 hB), own⟩, own⟩
                · rw [Nat.add_mul, Nat.one_mul, ← hp]
                · subst hp
                  exact s2.step hb1 r1 r2
              have hge : decide ((a : Int) + (B : Int) ≤ (size : Int)) = true := by simp; omega
              clear A F hW
              go_wp2_with (go_at_fn (ρ.f 30); refine hl.mono ?_; rintro e w' ⟨rfl, A2⟩)
              go_roundg (gk - B)
              case measure => have := HB.out; omega
              case rel => exact ⟨a + B, by congr 1, by congr 1, hlt, by have := HB.out; omega, A2.out.1, A2.out.2.1, A2.out.2.2.1, A2.out.2.2.2⟩
            · have hge : decide ((a : Int) + (B : Int) ≤ (size : Int)) = false := by simp; omega
              by_cases hm : a + bs < size
              · have hl : Calls P (ρ.f 30) #[dat g lb sf sb, .int .i64 a, .int .i64 ((a : Int) + (bs : Int)), .int .i64 size] wr fun e w' => e = .returned (.tuple #[]) ∧ Aside ((∃ dk, Stb rk 0 size d dk ∧ All rk B size dk ∧ Mid enc k g lb sf sb blk off w0 w dk w') ∧ Box w' w.heap.size g lb sf sb) := by
                  obtain ⟨p, dk, hp, s1, s2, s3⟩ := A.out
                  have HB := HB.out
                  subst HB
                  rw [show ((a : Int) + (bs : Int)) = ((a + bs : Nat) : Int) by omega]
                  refine (Any.symMerge_cells (P := P) (ρ := ρ) { L with } F _ a (a + bs) size dk wr (Nat.le_refl _) (by rw [s1.size, hd]) s3.sw (by omega) hm (Nat.le_refl _) (by subst hp; exact s2.left (by omega)) (by subst hp; exact s2.right (by omega) (Nat.le_refl _))).mono ?_
                  rintro e w' ⟨rfl, d2, r1, r2, r3, r4⟩
                  have own := r4 _ s3.own.2.2 hne s3.own
                  refine ⟨rfl, ⟨d2, s1.trans (r1.wide (Nat.zero_le _) ha (Nat.le_refl _)), ?_, r3, fun x hx hx2 hB => r4 x (s3.bx x hx hx2 hB).2.2 hx2 (s3.bx x hx hx2 hB), own⟩, own⟩
                  subst hp
                  exact s2.last (by omega) r1 r2
                have hmz : decide ((a : Int) + (bs : Int) < (size : Int)) = true := by simp; omega
                clear A F hW
                go_wp2_with (go_at_fn (ρ.f 30); refine hl.mono ?_; rintro e w' ⟨rfl, A2⟩)
                go_roundg (K0 - bs)
                case measure => omega
                case rel => exact ⟨B, by congr 1, by have := HB.out; omega, by have := HB.out; omega, by have := HB.out; omega, A2.out.1, A2.out.2.1, A2.out.2.2.1, A2.out.2.2.2⟩
              · have hmz : decide ((a : Int) + (bs : Int) < (size : Int)) = false := by simp; omega
                have A2 : Aside (∃ dk, Stb rk 0 size d dk ∧ All rk B size dk ∧ Mid enc k g lb sf sb blk off w0 w dk wr) := by
                  obtain ⟨p, dk, hp, s1, s2, s3⟩ := A.out
                  have HB := HB.out
                  subst HB
                  subst hp
                  exact ⟨dk, s1, s2.idle (by omega), s3⟩
                clear A F hW
                go_wp2
                go_roundg (K0 - bs)
                case measure => omega
                case rel => exact ⟨B, by congr 1, by have := HB.out; omega, by have := HB.out; omega, by have := HB.out; omega, A2, c0, c1, hs1⟩
        · clear F hW
          go_wp2
          go_end0
          obtain ⟨dk, q1, q2, q3⟩ := A.out
          exact ⟨rfl, dk, q1, q2.srt (by omega), q3.sw, q3.bx⟩
end Go.Proofs.YtlfbflclefndjaaGreatDoor.S
