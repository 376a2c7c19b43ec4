/-
  The stable sort by ranks: mathematics of swaps, rotations and merges of a row.
-/
import Derived.Sort.LotA
namespace Go.Proofs.YtkcikdggfbjedaaGreatDoor.S
open Go.Sort
section
variable {α : Type} [Inhabited α]

/-- the elements from a up to b -/
def seg (d : Array α) (a b : Nat) : List α := (List.range' a (b - a)).map (fun t => d[t]!)
theorem seg_len (d : Array α) (a b : Nat) : (seg d a b).length = b - a := by simp [seg]
theorem seg_get (d : Array α) (a b i : Nat) (h : i < (seg d a b).length) : (seg d a b)[i] = d[a + i]! := by simp [seg]
theorem seg_app (d : Array α) {a m b : Nat} (h1 : a ≤ m) (h2 : m ≤ b) : seg d a b = seg d a m ++ seg d m b := by
  unfold seg
  rw [← List.map_append, show b - a = (m - a) + (b - m) by omega, ← List.range'_append_1, show a + (m - a) = m by omega]
theorem seg_shift (d d' : Array α) (a b a' b' : Nat) (hn : b' - a' = b - a) (h : ∀ i, i < b - a → d'[a' + i]! = d[a + i]!) : seg d' a' b' = seg d a b := by
  refine List.ext_getElem (by rw [seg_len, seg_len, hn]) fun i h1 h2 => ?_
  rw [seg_get, seg_get, h i (by rw [seg_len] at h2; exact h2)]
theorem seg_same (d d' : Array α) (a b : Nat) (h : ∀ t, a ≤ t → t < b → d'[t]! = d[t]!) : seg d' a b = seg d a b :=
  seg_shift d d' a b a b rfl fun i hi => h _ (by omega) (by omega)
variable (rk : α → Nat)
/-- d' is d, but for the order of what lies from a up to b, where those of one rank stand as they stood -/
structure Stb (a b : Nat) (d d' : Array α) : Prop where
  size : d'.size = d.size
  out : ∀ t, t < a ∨ b ≤ t → d'[t]! = d[t]!
  fil : ∀ r, (seg d' a b).filter (fun x => rk x == r) = (seg d a b).filter (fun x => rk x == r)
/-- sorted from a up to b -/
def Srt (a b : Nat) (d : Array α) : Prop := ∀ i j, a ≤ i → i ≤ j → j < b → rk d[i]! ≤ rk d[j]!

variable {rk}
theorem Stb.refl (a b : Nat) (d : Array α) : Stb rk a b d d := ⟨rfl, fun _ _ => rfl, fun _ => rfl⟩
theorem Stb.trans {a b : Nat} {d e f : Array α} (h : Stb rk a b d e) (g : Stb rk a b e f) : Stb rk a b d f :=
  ⟨g.size.trans h.size, fun t ht => (g.out t ht).trans (h.out t ht), fun r => (g.fil r).trans (h.fil r)⟩
theorem Stb.wide {a b a' b' : Nat} {d e : Array α} (h : Stb rk a b d e) (h1 : a' ≤ a) (h2 : a ≤ b) (h3 : b ≤ b') : Stb rk a' b' d e := by
  refine ⟨h.size, fun t ht => h.out t (by omega), fun r => ?_⟩
  rw [seg_app e h1 (Nat.le_trans h2 h3), seg_app e h2 h3, seg_app d h1 (Nat.le_trans h2 h3), seg_app d h2 h3,
    seg_same d e a' a (fun t _ h' => h.out t (by omega)), seg_same d e b b' (fun t h' _ => h.out t (by omega)),
    List.filter_append, List.filter_append, List.filter_append, List.filter_append, h.fil r]
theorem Stb.mem {a b : Nat} {d e : Array α} (h : Stb rk a b d e) {x : α} (hx : x ∈ seg e a b) : x ∈ seg d a b := by
  have h1 : x ∈ (seg e a b).filter (fun y => rk y == rk x) := List.mem_filter.2 ⟨hx, by simp⟩
  rw [h.fil (rk x)] at h1
  exact (List.mem_filter.1 h1).1

/-- what goes where, if what lies from s up to m, and from m up to e, change places -/
def rotI (s m e t : Nat) : Nat := if t < s ∨ e ≤ t then t else if t < s + (e - m) then t + (m - s) else t - (e - m)
structure Rot (s m e : Nat) (d d' : Array α) : Prop where
  size : d'.size = d.size
  at' : ∀ t, d'[t]! = d[rotI s m e t]!
/-- what goes where, if n from a on, and n from b on, change places -/
def swI (a b n t : Nat) : Nat := if a ≤ t ∧ t < a + n then t - a + b else if b ≤ t ∧ t < b + n then t - b + a else t
structure Swd (a b n : Nat) (d d' : Array α) : Prop where
  size : d'.size = d.size
  at' : ∀ t, d'[t]! = d[swI a b n t]!

theorem Srt.sub {a b a' b' : Nat} {d : Array α} (h : Srt rk a b d) (h1 : a ≤ a') (h2 : b' ≤ b) : Srt rk a' b' d := fun i j hi hij hj => h i j (by omega) hij (by omega)
theorem Srt.same {a b : Nat} {d d' : Array α} (h : Srt rk a b d) (he : ∀ t, a ≤ t → t < b → d'[t]! = d[t]!) : Srt rk a b d' := fun i j hi hij hj => by
  rw [he i hi (by omega), he j (by omega) hj]; exact h i j hi hij hj

/-- the cut: what lies from s up to m is greater than what lies from m up to e, and what lies ahead of s is not greater than what lies from e on -/
structure Cut (rk : α → Nat) (a s m e b : Nat) (d : Array α) : Prop where
  as : a ≤ s
  sm : s ≤ m
  me : m ≤ e
  eb : e ≤ b
  left : Srt rk a m d
  right : Srt rk m b d
  gt : s < m → m < e → rk d[e - 1]! < rk d[s]!
  le : a < s → e < b → rk d[s - 1]! ≤ rk d[e]!
theorem Cut.gts {a s m e b : Nat} {d : Array α} (C : Cut rk a s m e b d) (x y : Nat) (h1 : s ≤ x) (h2 : x < m) (h3 : m ≤ y) (h4 : y < e) : rk d[y]! < rk d[x]! := by
  have g := C.gt (by omega) (by omega)
  have l := C.left s x C.as h1 h2
  have r := C.right y (e - 1) h3 (by omega) (by have := C.eb; omega)
  omega
theorem Cut.les {a s m e b : Nat} {d : Array α} (C : Cut rk a s m e b d) (x y : Nat) (h1 : a ≤ x) (h2 : x < s) (h3 : e ≤ y) (h4 : y < b) : rk d[x]! ≤ rk d[y]! := by
  have g := C.le (by omega) (by omega)
  have l := C.left x (s - 1) h1 (by omega) (by have := C.sm; omega)
  have r := C.right e y C.me h3 h4
  omega
theorem Rot.at_out {s m e : Nat} {d d1 : Array α} (R : Rot s m e d d1) (t : Nat) (h : t < s ∨ e ≤ t) : d1[t]! = d[t]! := by
  rw [R.at', show rotI s m e t = t by unfold rotI; rw [if_pos h]]
theorem Rot.at_lo {s m e : Nat} {d d1 : Array α} (R : Rot s m e d d1) (_hs : s ≤ m) (_he : m ≤ e) (t : Nat) (h1 : s ≤ t) (h2 : t < s + (e - m)) : d1[t]! = d[t + (m - s)]! := by
  rw [R.at', show rotI s m e t = t + (m - s) by unfold rotI; rw [if_neg (by omega), if_pos h2]]
theorem Rot.at_hi {s m e : Nat} {d d1 : Array α} (R : Rot s m e d d1) (_hs : s ≤ m) (t : Nat) (h1 : s + (e - m) ≤ t) (h2 : t < e) : d1[t]! = d[t - (e - m)]! := by
  rw [R.at', show rotI s m e t = t - (e - m) by unfold rotI; rw [if_neg (by omega), if_neg (by omega)]]
theorem Cut.parts {a s m e b : Nat} {d d1 : Array α} (C : Cut rk a s m e b d) (R : Rot s m e d d1) :
    Srt rk a s d1 ∧ Srt rk s (s + (e - m)) d1 ∧ Srt rk (s + (e - m)) e d1 ∧ Srt rk e b d1 ∧ ∀ x y, a ≤ x → x < s + (e - m) → s + (e - m) ≤ y → y < b → rk d1[x]! ≤ rk d1[y]! := by
  obtain ⟨as, sm, me, eb, hl, hr, _, _⟩ := id C
  refine ⟨fun i j h1 h2 h3 => ?_, fun i j h1 h2 h3 => ?_, fun i j h1 h2 h3 => ?_, fun i j h1 h2 h3 => ?_, fun x y h1 h2 h3 h4 => ?_⟩
  · rw [R.at_out i (by omega), R.at_out j (by omega)]; exact hl i j h1 h2 (by omega)
  · rw [R.at_lo sm me i h1 (by omega), R.at_lo sm me j (by omega) h3]; exact hr _ _ (by omega) (by omega) (by omega)
  · rw [R.at_hi sm i h1 (by omega), R.at_hi sm j (by omega) h3]; exact hl _ _ (by omega) (by omega) (by omega)
  · rw [R.at_out i (by omega), R.at_out j (by omega)]; exact hr i j (by omega) h2 h3
  · by_cases hx : x < s
    · rw [R.at_out x (by omega)]
      by_cases hy : y < e
      · rw [R.at_hi sm y h3 hy]; exact hl _ _ h1 (by omega) (by omega)
      · rw [R.at_out y (by omega)]; exact C.les x y h1 hx (by omega) h4
    · rw [R.at_lo sm me x (by omega) h2]
      by_cases hy : y < e
      · rw [R.at_hi sm y h3 hy]; exact Nat.le_of_lt (C.gts _ _ (by omega) (by omega) (by omega) (by omega))
      · rw [R.at_out y (by omega)]; exact hr _ _ (by omega) (by omega) h4

/-! the insertion sort -/
variable (rk) in
def ltR (x y : α) : Bool := decide (rk x < rk y)
end
end Go.Proofs.YtkcikdggfbjedaaGreatDoor.S
