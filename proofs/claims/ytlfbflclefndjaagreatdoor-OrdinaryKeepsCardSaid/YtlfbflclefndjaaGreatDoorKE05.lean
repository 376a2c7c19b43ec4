/-
  The stable sort by ranks: mathematics of swaps, rotations and merges of a row.
-/
import Derived.Sort.LotA
namespace Go.Proofs.YtlfbflclefndjaaGreatDoor.S
open Go.Sort
section
variable {α : Type} [Inhabited α]

/-- the elements from a up to b -/
def seg (d : Array α) (a b : Nat) : List α := (List.range' a (b - a)).map (fun t => d[t]!)
theorem seg_len (d : Array α) (a b : Nat) : (seg d a b).length = b - a := by simp [seg]
theorem seg_get (d : Array α) (a b i : Nat) (h : i < (seg d a b).length) : (seg d a b)[i] = d[a + i]! := by simp [seg]
theorem seg_app (d : Array α) {a m b : Nat} (h1 : a ≤ m) (h2 : m ≤ b) : seg d a b = seg d a m ++ seg d m b := by
  unfold seg
  rw [← List.map_append, show b - a = (m - a) + (b - m) by omega, ← List.range'_append_1, show a + (m - a) = m by omega]
theorem seg_shift (d d' : Array α) (a b a' b' : Nat) (hn : b' - a' = b - a) (h : ∀ i, i < b - a → d'[a' + i]! = d[a + i]!) : seg d' a' b' = seg d a b := by
  refine List.ext_getElem (by rw [seg_len, seg_len, hn]) fun i h1 h2 => ?_
  rw [seg_get, seg_get, h i (by rw [seg_len] at h2; exact h2)]
theorem seg_same (d d' : Array α) (a b : Nat) (h : ∀ t, a ≤ t → t < b → d'[t]! = d[t]!) : seg d' a b = seg d a b :=
  seg_shift d d' a b a b rfl fun i hi => h _ (by omega) (by omega)
theorem mem_seg {d : Array α} {a b : Nat} {x : α} : x ∈ seg d a b ↔ ∃ t, a ≤ t ∧ t < b ∧ d[t]! = x := by
  unfold seg
  rw [List.mem_map]
  constructor
  · rintro ⟨t, ht, rfl⟩
    rw [List.mem_range'_1] at ht
    exact ⟨t, ht.1, by omega, rfl⟩
  · rintro ⟨t, h1, h2, rfl⟩
    exact ⟨t, by rw [List.mem_range'_1]; omega, rfl⟩

variable (rk : α → Nat)
/-- d' is d, but for the order of what lies from a up to b, where those of one rank stand as they stood -/
structure Stb (a b : Nat) (d d' : Array α) : Prop where
  size : d'.size = d.size
  out : ∀ t, t < a ∨ b ≤ t → d'[t]! = d[t]!
  fil : ∀ r, (seg d' a b).filter (fun x => rk x == r) = (seg d a b).filter (fun x => rk x == r)
/-- sorted from a up to b -/
def Srt (a b : Nat) (d : Array α) : Prop := ∀ i j, a ≤ i → i ≤ j → j < b → rk d[i]! ≤ rk d[j]!

variable {rk}
theorem Stb.refl (a b : Nat) (d : Array α) : Stb rk a b d d := ⟨rfl, fun _ _ => rfl, fun _ => rfl⟩
theorem Stb.trans {a b : Nat} {d e f : Array α} (h : Stb rk a b d e) (g : Stb rk a b e f) : Stb rk a b d f :=
  ⟨g.size.trans h.size, fun t ht => (g.out t ht).trans (h.out t ht), fun r => (g.fil r).trans (h.fil r)⟩
theorem Stb.wide {a b a' b' : Nat} {d e : Array α} (h : Stb rk a b d e) (h1 : a' ≤ a) (h2 : a ≤ b) (h3 : b ≤ b') : Stb rk a' b' d e := by
  refine ⟨h.size, fun t ht => h.out t (by omega), fun r => ?_⟩
  rw [seg_app e h1 (Nat.le_trans h2 h3), seg_app e h2 h3, seg_app d h1 (Nat.le_trans h2 h3), seg_app d h2 h3,
    seg_same d e a' a (fun t _ h' => h.out t (by omega)), seg_same d e b b' (fun t h' _ => h.out t (by omega)),
    List.filter_append, List.filter_append, List.filter_append, List.filter_append, h.fil r]
theorem Stb.mem {a b : Nat} {d e : Array α} (h : Stb rk a b d e) {x : α} (hx : x ∈ seg e a b) : x ∈ seg d a b := by
  have h1 : x ∈ (seg e a b).filter (fun y => rk y == rk x) := List.mem_filter.2 ⟨hx, by simp⟩
  rw [h.fil (rk x)] at h1
  exact (List.mem_filter.1 h1).1

/-- what goes where, if what lies from s up to m, and from m up to e, change places -/
def rotI (s m e t : Nat) : Nat := if t < s ∨ e ≤ t then t else if t < s + (e - m) then t + (m - s) else t - (e - m)
structure Rot (s m e : Nat) (d d' : Array α) : Prop where
  size : d'.size = d.size
  at' : ∀ t, d'[t]! = d[rotI s m e t]!
/-- what goes where, if n from a on, and n from b on, change places -/
def swI (a b n t : Nat) : Nat := if a ≤ t ∧ t < a + n then t - a + b else if b ≤ t ∧ t < b + n then t - b + a else t
structure Swd (a b n : Nat) (d d' : Array α) : Prop where
  size : d'.size = d.size
  at' : ∀ t, d'[t]! = d[swI a b n t]!

theorem rot_idle (s m e : Nat) (d : Array α) (h : s = m ∨ e = m) (hs : s ≤ m) (he : m ≤ e) : Rot s m e d d := by
  refine ⟨rfl, fun t => ?_⟩
  rw [show rotI s m e t = t by unfold rotI; split; rfl; (split <;> omega)]
theorem rot_stb {s m e : Nat} {d d' : Array α} (hs : s ≤ m) (he : m ≤ e) (h : Rot s m e d d') (hl : ∀ x y, s ≤ x → x < m → m ≤ y → y < e → rk d[y]! < rk d[x]!) : Stb rk s e d d' := by
  refine ⟨h.size, fun t ht => ?_, fun r => ?_⟩
  · rw [h.at', show rotI s m e t = t by unfold rotI; rw [if_pos ht]]
  · rw [seg_app d' (a := s) (m := s + (e - m)) (b := e) (by omega) (by omega), seg_app d hs he,
      seg_shift d d' m e s (s + (e - m)) (by omega) (fun i hi => by
        rw [h.at', show rotI s m e (s + i) = m + i by unfold rotI; rw [if_neg (by omega), if_pos (by omega)]; omega]),
      seg_shift d d' s m (s + (e - m)) e (by omega) (fun i hi => by
        rw [h.at', show rotI s m e (s + (e - m) + i) = s + i by unfold rotI; rw [if_neg (by omega), if_neg (by omega)]; omega]),
      List.filter_append, List.filter_append]
    by_cases hr : (seg d s m).filter (fun x => rk x == r) = []
    · rw [hr, List.append_nil, List.nil_append]
    · have h2 : (seg d m e).filter (fun x => rk x == r) = [] := by
        obtain ⟨x, hx⟩ := List.exists_mem_of_ne_nil _ hr
        rw [List.mem_filter, mem_seg] at hx
        obtain ⟨⟨tx, hx1, hx2, rfl⟩, hx3⟩ := hx
        rw [List.filter_eq_nil_iff]
        intro y hy
        rw [mem_seg] at hy
        obtain ⟨ty, hy1, hy2, rfl⟩ := hy
        have := hl tx ty hx1 hx2 hy1 hy2
        have h3 : rk d[tx]! = r := by simpa using hx3
        simp; omega
      rw [h2, List.append_nil, List.nil_append]

theorem Srt.sub {a b a' b' : Nat} {d : Array α} (h : Srt rk a b d) (h1 : a ≤ a') (h2 : b' ≤ b) : Srt rk a' b' d := fun i j hi hij hj => h i j (by omega) hij (by omega)
theorem Srt.same {a b : Nat} {d d' : Array α} (h : Srt rk a b d) (he : ∀ t, a ≤ t → t < b → d'[t]! = d[t]!) : Srt rk a b d' := fun i j hi hij hj => by
  rw [he i hi (by omega), he j (by omega) hj]; exact h i j hi hij hj

/-- the cut: what lies from s up to m is greater than what lies from m up to e, and what lies ahead of s is not greater than what lies from e on -/
structure Cut (rk : α → Nat) (a s m e b : Nat) (d : Array α) : Prop where
  as : a ≤ s
  sm : s ≤ m
  me : m ≤ e
  eb : e ≤ b
  left : Srt rk a m d
  right : Srt rk m b d
  gt : s < m → m < e → rk d[e - 1]! < rk d[s]!
  le : a < s → e < b → rk d[s - 1]! ≤ rk d[e]!
theorem Cut.gts {a s m e b : Nat} {d : Array α} (C : Cut rk a s m e b d) (x y : Nat) (h1 : s ≤ x) (h2 : x < m) (h3 : m ≤ y) (h4 : y < e) : rk d[y]! < rk d[x]! := by
  have g := C.gt (by omega) (by omega)
  have l := C.left s x C.as h1 h2
  have r := C.right y (e - 1) h3 (by omega) (by have := C.eb; omega)
  omega
theorem Cut.les {a s m e b : Nat} {d : Array α} (C : Cut rk a s m e b d) (x y : Nat) (h1 : a ≤ x) (h2 : x < s) (h3 : e ≤ y) (h4 : y < b) : rk d[x]! ≤ rk d[y]! := by
  have g := C.le (by omega) (by omega)
  have l := C.left x (s - 1) h1 (by omega) (by have := C.sm; omega)
  have r := C.right e y C.me h3 h4
  omega
theorem Cut.stb {a s m e b : Nat} {d d1 : Array α} (C : Cut rk a s m e b d) (R : Rot s m e d d1) : Stb rk a b d d1 :=
  (rot_stb C.sm C.me R C.gts).wide C.as (Nat.le_trans C.sm C.me) C.eb
theorem Rot.at_out {s m e : Nat} {d d1 : Array α} (R : Rot s m e d d1) (t : Nat) (h : t < s ∨ e ≤ t) : d1[t]! = d[t]! := by
  rw [R.at', show rotI s m e t = t by unfold rotI; rw [if_pos h]]
theorem Rot.at_lo {s m e : Nat} {d d1 : Array α} (R : Rot s m e d d1) (_hs : s ≤ m) (_he : m ≤ e) (t : Nat) (h1 : s ≤ t) (h2 : t < s + (e - m)) : d1[t]! = d[t + (m - s)]! := by
  rw [R.at', show rotI s m e t = t + (m - s) by unfold rotI; rw [if_neg (by omega), if_pos h2]]
theorem Rot.at_hi {s m e : Nat} {d d1 : Array α} (R : Rot s m e d d1) (_hs : s ≤ m) (t : Nat) (h1 : s + (e - m) ≤ t) (h2 : t < e) : d1[t]! = d[t - (e - m)]! := by
  rw [R.at', show rotI s m e t = t - (e - m) by unfold rotI; rw [if_neg (by omega), if_neg (by omega)]]
theorem Cut.parts {a s m e b : Nat} {d d1 : Array α} (C : Cut rk a s m e b d) (R : Rot s m e d d1) :
    Srt rk a s d1 ∧ Srt rk s (s + (e - m)) d1 ∧ Srt rk (s + (e - m)) e d1 ∧ Srt rk e b d1 ∧ ∀ x y, a ≤ x → x < s + (e - m) → s + (e - m) ≤ y → y < b → rk d1[x]! ≤ rk d1[y]! := by
  obtain ⟨as, sm, me, eb, hl, hr, _, _⟩ := id C
  refine ⟨fun i j h1 h2 h3 => ?_, fun i j h1 h2 h3 => ?_, fun i j h1 h2 h3 => ?_, fun i j h1 h2 h3 => ?_, fun x y h1 h2 h3 h4 => ?_⟩
  · rw [R.at_out i (by omega), R.at_out j (by omega)]; exact hl i j h1 h2 (by omega)
  · rw [R.at_lo sm me i h1 (by omega), R.at_lo sm me j (by omega) h3]; exact hr _ _ (by omega) (by omega) (by omega)
  · rw [R.at_hi sm i h1 (by omega), R.at_hi sm j (by omega) h3]; exact hl _ _ (by omega) (by omega) (by omega)
  · rw [R.at_out i (by omega), R.at_out j (by omega)]; exact hr i j (by omega) h2 h3
  · by_cases hx : x < s
    · rw [R.at_out x (by omega)]
      by_cases hy : y < e
      · rw [R.at_hi sm y h3 hy]; exact hl _ _ h1 (by omega) (by omega)
      · rw [R.at_out y (by omega)]; exact C.les x y h1 hx (by omega) h4
    · rw [R.at_lo sm me x (by omega) h2]
      by_cases hy : y < e
      · rw [R.at_hi sm y h3 hy]; exact Nat.le_of_lt (C.gts _ _ (by omega) (by omega) (by omega) (by omega))
      · rw [R.at_out y (by omega)]; exact hr _ _ (by omega) (by omega) h4

/-- two halves, each set in order, none of the left greater than one of the right -/
theorem halves {a q b : Nat} {d1 d2 d3 : Array α} (h1 : a ≤ q) (h2 : q ≤ b) (hd : ∀ x y, a ≤ x → x < q → q ≤ y → y < b → rk d1[x]! ≤ rk d1[y]!)
    (s2 : Stb rk a q d1 d2) (o2 : Srt rk a q d2) (s3 : Stb rk q b d2 d3) (o3 : Srt rk q b d3) : Stb rk a b d1 d3 ∧ Srt rk a b d3 := by
  refine ⟨(s2.wide (Nat.le_refl _) h1 h2).trans (s3.wide h1 h2 (Nat.le_refl _)), fun i j hi hij hj => ?_⟩
  by_cases hjq : j < q
  · rw [s3.out i (by omega), s3.out j (by omega)]; exact o2 i j hi hij hjq
  · by_cases hiq : i < q
    · rw [s3.out i (by omega)]
      have m1 : d2[i]! ∈ seg d1 a q := s2.mem (mem_seg.2 ⟨i, hi, hiq, rfl⟩)
      have m2 : d3[j]! ∈ seg d2 q b := s3.mem (mem_seg.2 ⟨j, by omega, hj, rfl⟩)
      rw [mem_seg] at m1 m2
      obtain ⟨x, x1, x2, ex⟩ := m1
      obtain ⟨y, y1, y2, ey⟩ := m2
      rw [← ex, ← ey, s2.out y (by omega)]
      exact hd x y x1 x2 y1 y2
    · exact o3 i j (by omega) hij hj

/-- one element, put among those behind it -/
theorem one_left {a b i : Nat} {d d1 : Array α} (h1 : a + 1 ≤ i) (h2 : i ≤ b) (hr : Srt rk (a + 1) b d) (lo : a + 1 < i → rk d[i - 1]! < rk d[a]!) (hi : i < b → rk d[a]! ≤ rk d[i]!) (R : Rot a (a + 1) i d d1) : Stb rk a b d d1 ∧ Srt rk a b d1 := by
  have C : Cut rk a a (a + 1) i b d := ⟨Nat.le_refl _, by omega, h1, h2, fun x y _ _ _ => by rw [show x = y by omega]; exact Nat.le_refl _, hr, fun _ g => lo g, fun g => absurd g (Nat.lt_irrefl _)⟩
  obtain ⟨p1, p2, p3, p4, p5⟩ := C.parts R
  have st := C.stb R
  have o3 : Srt rk (a + (i - (a + 1))) b d1 := fun x y hx hxy hy => by
    by_cases g : i ≤ x
    · exact p4 x y g hxy hy
    · obtain rfl : x = i - 1 := by omega
      by_cases g2 : y < i
      · rw [show y = i - 1 by omega]; exact Nat.le_refl _
      · rw [R.at_hi (by omega) (i - 1) (by omega) (by omega), R.at_out y (by omega), show i - 1 - (i - (a + 1)) = a by omega]
        have := hi (by omega)
        have := hr i y h1 (by omega) hy
        omega
  have := halves (by omega) (by omega) p5 (Stb.refl a _ d1) p2 (Stb.refl _ b d1) o3
  exact ⟨st.trans this.1, this.2⟩
/-- one element, put among those ahead of it -/
theorem one_right {a m i : Nat} {d d1 : Array α} (h1 : a ≤ i) (h2 : i ≤ m) (hl : Srt rk a m d) (lo : a < i → rk d[i - 1]! ≤ rk d[m]!) (hi : i < m → rk d[m]! < rk d[i]!) (R : Rot i m (m + 1) d d1) : Stb rk a (m + 1) d d1 ∧ Srt rk a (m + 1) d1 := by
  have C : Cut rk a i m (m + 1) (m + 1) d := ⟨h1, h2, by omega, Nat.le_refl _, hl, fun x y _ _ _ => by rw [show x = y by omega]; exact Nat.le_refl _, fun g _ => by rw [Nat.add_sub_cancel]; exact hi g, fun _ g => absurd g (Nat.lt_irrefl _)⟩
  obtain ⟨p1, p2, p3, p4, p5⟩ := C.parts R
  have st := C.stb R
  have o2 : Srt rk a (i + (m + 1 - m)) d1 := fun x y hx hxy hy => by
    by_cases g : y < i
    · exact p1 x y hx hxy g
    · obtain rfl : y = i := by omega
      by_cases g2 : x < y
      · rw [R.at_out x (by omega), R.at_lo h2 (by omega) y (by omega) (by omega), show y + (m - y) = m by omega]
        have := lo (by omega)
        have := hl x (y - 1) hx (by omega) (by omega)
        omega
      · rw [show x = y by omega]; exact Nat.le_refl _
  have := halves (by omega) (by omega) p5 (Stb.refl a _ d1) o2 (Stb.refl _ _ d1) p3
  exact ⟨st.trans this.1, this.2⟩

theorem swd_zero (a b : Nat) (d : Array α) : Swd a b 0 d d := ⟨rfl, fun t => by rw [show swI a b 0 t = t by unfold swI; rw [if_neg (by omega), if_neg (by omega)]]⟩
theorem swd_succ {a b n : Nat} {d d' : Array α} (h : Swd a b n d d') (h1 : a + n < b) (h2 : b + n < d.size) : Swd a b (n + 1) d (swp d' (a + n) (b + n)) := by
  refine ⟨by rw [size_swp, h.size], fun t => ?_⟩
  rw [swp_get d' (by rw [h.size]; omega) (by rw [h.size]; omega), h.at', h.at', h.at']
  unfold swI
  by_cases e1 : t = b + n
  · rw [if_pos e1, if_neg (by omega), if_neg (by omega), if_neg (by omega), if_pos (by omega)]; congr 1; omega
  · rw [if_neg e1]
    by_cases e2 : t = a + n
    · rw [if_pos e2, if_neg (by omega), if_neg (by omega), if_pos (by omega)]; congr 1; omega
    · rw [if_neg e2]
      by_cases g1 : a ≤ t ∧ t < a + n
      · rw [if_pos g1, if_pos (by omega)]
      · rw [if_neg g1]
        by_cases g2 : b ≤ t ∧ t < b + n
        · rw [if_pos g2, if_neg (by omega), if_pos (by omega)]
        · rw [if_neg g2, if_neg (by omega), if_neg (by omega)]

theorem rotI_swI (m i t : Nat) (h : i ≤ m) : rotI (m - i) m (m + i) t = swI (m - i) m i t := by
  unfold rotI swI
  by_cases h1 : t < m - i ∨ m + i ≤ t
  · rw [if_pos h1, if_neg (by omega), if_neg (by omega)]
  · rw [if_neg h1]
    by_cases h2 : t < m
    · rw [if_pos (by omega), if_pos (by omega)]; omega
    · rw [if_neg (by omega), if_neg (by omega), if_pos (by omega)]; omega
theorem rotI_left (m i j t : Nat) (h : i ≤ m) (hj : j < i) : rotI (m - i) m (m + j) t = swI (m - i) m j (rotI (m - (i - j)) m (m + j) t) := by
  unfold rotI
  by_cases h1 : t < m - i ∨ m + j ≤ t
  · rw [if_pos h1, if_pos (by omega)]; unfold swI; rw [if_neg (by omega), if_neg (by omega)]
  · rw [if_neg h1]
    by_cases h2 : t < m - i + j
    · rw [if_pos (by omega), if_pos (by omega)]; unfold swI; rw [if_pos (by omega)]; omega
    · rw [if_neg (by omega), if_neg (by omega)]
      by_cases h3 : t < m - (i - j) + (m + j - m)
      · rw [if_pos h3]; unfold swI; rw [if_neg (by omega), if_pos (by omega)]; omega
      · rw [if_neg h3]; unfold swI; rw [if_neg (by omega), if_neg (by omega)]
theorem rotI_right (m i j t : Nat) (h : i ≤ m) (hj : i < j) : rotI (m - i) m (m + j) t = swI (m - i) (m + j - i) i (rotI (m - i) m (m + (j - i)) t) := by
  unfold rotI
  by_cases h1 : t < m - i ∨ m + j ≤ t
  · rw [if_pos h1, if_pos (by omega)]; unfold swI; rw [if_neg (by omega), if_neg (by omega)]
  · rw [if_neg h1]
    by_cases h2 : t < m - i + (m + j - m)
    · rw [if_pos h2]
      by_cases h3 : m + (j - i) ≤ t
      · rw [if_pos (by omega)]; unfold swI; rw [if_neg (by omega), if_pos (by omega)]; omega
      · rw [if_neg (by omega)]
        by_cases h4 : t < m - i + (m + (j - i) - m)
        · rw [if_pos h4]; unfold swI; rw [if_neg (by omega), if_neg (by omega)]
        · rw [if_neg h4]; unfold swI; rw [if_pos (by omega)]; omega
    · rw [if_neg h2, if_pos (by omega)]; unfold swI; rw [if_neg (by omega), if_pos (by omega)]; omega

theorem rot_end {m i : Nat} {d e : Array α} (h : i ≤ m) (S : Swd (m - i) m i d e) : Rot (m - i) m (m + i) d e := ⟨S.size, fun t => by rw [S.at', rotI_swI m i t h]⟩
theorem rot_left {m i j : Nat} {d e f : Array α} (h : i ≤ m) (hj : j < i) (S : Swd (m - i) m j d e) (R : Rot (m - (i - j)) m (m + j) e f) : Rot (m - i) m (m + j) d f :=
  ⟨R.size.trans S.size, fun t => by rw [R.at', S.at', rotI_left m i j t h hj]⟩
theorem rot_right {m i j : Nat} {d e f : Array α} (h : i ≤ m) (hj : i < j) (S : Swd (m - i) (m + j - i) i d e) (R : Rot (m - i) m (m + (j - i)) e f) : Rot (m - i) m (m + j) d f :=
  ⟨R.size.trans S.size, fun t => by rw [R.at', S.at', rotI_right m i j t h hj]⟩

/-- up by one more -/
theorem rot_up {a k : Nat} {d e : Array α} (R : Rot a (a + 1) (k + 1) d e) (h : a ≤ k) (hk : k + 1 < d.size) : Rot a (a + 1) (k + 2) d (swp e k (k + 1)) := by
  refine ⟨by rw [size_swp, R.size], fun t => ?_⟩
  rw [swp_get e (by rw [R.size]; omega) (by rw [R.size]; omega), R.at', R.at', R.at']
  unfold rotI
  by_cases e1 : t = k + 1
  · subst e1; rw [if_pos rfl, if_neg (by omega), if_neg (by omega), if_neg (by omega), if_neg (by omega)]; congr 1; omega
  · rw [if_neg e1]
    by_cases e2 : t = k
    · subst e2; rw [if_pos rfl, if_pos (by omega), if_neg (by omega), if_pos (by omega)]; congr 1; omega
    · rw [if_neg e2]
      by_cases g1 : t < a ∨ k + 1 ≤ t
      · rw [if_pos g1, if_pos (by omega)]
      · rw [if_neg g1, if_pos (by omega), if_neg (by omega), if_pos (by omega)]
/-- down by one more -/
theorem rot_down {k m : Nat} {d e : Array α} (R : Rot (k + 1) m (m + 1) d e) (h : k < m) (hm : m < d.size) : Rot k m (m + 1) d (swp e (k + 1) k) := by
  refine ⟨by rw [size_swp, R.size], fun t => ?_⟩
  rw [swp_get e (by rw [R.size]; omega) (by rw [R.size]; omega), R.at', R.at', R.at']
  unfold rotI
  by_cases e1 : t = k
  · subst e1; rw [if_pos rfl, if_neg (by omega), if_pos (by omega), if_neg (by omega), if_pos (by omega)]; congr 1; omega
  · rw [if_neg e1]
    by_cases e2 : t = k + 1
    · subst e2; rw [if_pos rfl, if_pos (by omega), if_neg (by omega), if_neg (by omega)]; congr 1; omega
    · rw [if_neg e2]
      by_cases g1 : t < k + 1 ∨ m + 1 ≤ t
      · rw [if_pos g1, if_pos (by omega)]
      · rw [if_neg g1, if_neg (by omega), if_neg (by omega), if_neg (by omega)]
theorem rot_one (a : Nat) (d : Array α) : Rot a (a + 1) (a + 1) d d := rot_idle a (a + 1) (a + 1) d (Or.inr rfl) (by omega) (Nat.le_refl _)
theorem rot_none (m : Nat) (d : Array α) : Rot m m (m + 1) d d := rot_idle m m (m + 1) d (Or.inl rfl) (Nat.le_refl _) (by omega)

/-! the insertion sort -/
variable (rk) in
def ltR (x y : α) : Bool := decide (rk x < rk y)
theorem swo_ltR {β : Type} {rk : β → Nat} : SWO (ltR rk) := ⟨fun x => by simp [ltR], fun x y z h1 h2 => by simp [ltR] at h1 h2 ⊢; omega, fun x y z h1 h2 => by simp [ltR] at h1 h2 ⊢; omega⟩
theorem insInner_stb (a b : Nat) : ∀ (j : Nat) (d : Array α), a ≤ j → j < b → b ≤ d.size → Stb rk a b d (insInner (ltR rk) a j d)
  | 0, d, _, _, _ => Stb.refl _ _ _
  | j + 1, d, h1, h2, h3 => by
    unfold insInner
    split
    · rename_i h
      simp only [ltR, gt_iff_lt, Bool.and_eq_true, decide_eq_true_eq] at h
      have R : Rot j (j + 1) (j + 2) d (swp d (j + 1) j) := rot_down (rot_none (j + 1) d) (by omega) (by omega)
      have S : Stb rk j (j + 2) d (swp d (j + 1) j) := rot_stb (by omega) (by omega) R fun x y _ _ _ _ => by
        rw [show x = j by omega, show y = j + 1 by omega]; exact h.2
      exact (S.wide (by omega) (by omega) (by omega)).trans (insInner_stb a b j _ (by omega) (by omega) (by rw [size_swp]; exact h3))
    · exact Stb.refl _ _ _
theorem insOuter_stb (a b : Nat) : ∀ (n i : Nat) (d : Array α), b - i ≤ n → a ≤ i → b ≤ d.size → Stb rk a b d (insOuter (ltR rk) a b i d)
  | 0, i, d, hn, _, _ => by unfold insOuter; rw [if_neg (by omega)]; exact Stb.refl _ _ _
  | n + 1, i, d, hn, h1, h2 => by
    unfold insOuter
    split
    · have S := insInner_stb (rk := rk) a b i d h1 (by assumption) h2
      exact S.trans (insOuter_stb a b n (i + 1) _ (by omega) (by omega) (by rw [S.size]; exact h2))
    · exact Stb.refl _ _ _
theorem insertion_stb (a b : Nat) (d : Array α) (h : a ≤ b) (hb : b ≤ d.size) : Stb rk a b d (insertionSort (ltR rk) d a b) ∧ Srt rk a b (insertionSort (ltR rk) d a b) := by
  refine ⟨insOuter_stb a b _ (a + 1) d (Nat.le_refl _) (by omega) hb, fun i j h1 h2 h3 => ?_⟩
  by_cases e : i = j
  · rw [e]; exact Nat.le_refl _
  · have := (insertionSort_holds (swo_ltR (rk := rk)) d a b h hb).2 i j h1 (by omega) h3
    simpa [ltR] using this
end
end Go.Proofs.YtlfbflclefndjaaGreatDoor.S
