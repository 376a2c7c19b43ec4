/-
  Values: what they are, and when they are the same: mathematics.
-/
import Derived.Test.YtlgbnfcnimjheaaTextLaws
import Derived.Test.YtlgbnfcnimjheaaStrQuote
namespace Go.Proofs.Ytlgbnfcnimjheaa.S
open Go.RowKit Fl

def feq (x y : Nat) : Bool := FloatKind.f64.format.order x y == some .eq
/-- what a float is worth: no number, or a whole number (a minus nought is 0) -/
def NV (x : Nat) (o : Option Int) : Prop := x < 2 ^ 64 ∧ ((IsNaN x ∧ o = none) ∨ (x = 2 ^ 63 ∧ o = some 0) ∨ ∃ n, SafeN n ∧ x = F n ∧ o = some n)
theorem cmp_eq (a b : Int) : (some (compare a b) == some Ordering.eq) = (some a == some b) := by
  rcases Int.lt_trichotomy a b with c | c | c
  · rw [Int.compare_eq_lt.2 c, Bool.eq_iff_iff]; simp; omega
  · subst c; simp
  · rw [Int.compare_eq_gt.2 c, Bool.eq_iff_iff]; simp; omega
theorem feq_nv {x y : Nat} {o p : Option Int} (h : NV x o) (g : NV y p) : feq x y = (o.isSome && o == p) := by
  obtain ⟨_, h⟩ := h
  obtain ⟨_, g⟩ := g
  rcases h with ⟨h, rfl⟩ | ⟨rfl, rfl⟩ | ⟨n, hn, rfl, rfl⟩
  · have e : FloatKind.f64.format.order x y = none := order_nan_l y h
    unfold feq; rw [e]; rfl
  · rcases g with ⟨g, rfl⟩ | ⟨rfl, rfl⟩ | ⟨m, hm, rfl, rfl⟩
    · have e : FloatKind.f64.format.order (2 ^ 63) y = none := order_nan_r _ g
      unfold feq; rw [e]; rfl
    · have e : FloatKind.f64.format.order (2 ^ 63) (2 ^ 63) = some .eq := order_m0_self
      unfold feq; rw [e]; rfl
    · have e : FloatKind.f64.format.order (2 ^ 63) (F m) = some (compare 0 m) := (order_m0 m hm.abs).1
      unfold feq; rw [e, cmp_eq]; rfl
  · rcases g with ⟨g, rfl⟩ | ⟨rfl, rfl⟩ | ⟨m, hm, rfl, rfl⟩
    · have e : FloatKind.f64.format.order (F n) y = none := order_nan_r _ g
      unfold feq; rw [e]; rfl
    · have e : FloatKind.f64.format.order (F n) (2 ^ 63) = some (compare n 0) := (order_m0 n hn.abs).2
      unfold feq; rw [e, cmp_eq]; rfl
    · have e : FloatKind.f64.format.order (F n) (F m) = some (compare n m) := order_F n m hn.abs hm.abs
      unfold feq; rw [e, cmp_eq]; rfl
theorem nv_cls {c : Cl} {x : Nat} (h : Is c x) (hm : mayC c = true) : ∃ o, NV x o ∧ ((c = .nan ∧ o = none) ∨ ∃ n, c = .ours n ∧ o = some n) := by
  cases c with
  | nan => exact ⟨none, ⟨h.1, Or.inl ⟨h.2, rfl⟩⟩, Or.inl ⟨rfl, rfl⟩⟩
  | other => cases hm
  | ours n => exact ⟨some n, ⟨h.lt, Or.inr (Or.inr ⟨n, h.2, h.1, rfl⟩)⟩, Or.inr ⟨n, rfl, rfl⟩⟩

/-! ### values that may be -/
inductive Vl where
  | und | nul | boo (x : Nat) | num (x : Nat) | str (s : ByteArray) | sym (r : Int) | obj (k : Nat) (r : Int)
namespace Vl
def kd : Vl → Nat
  | .und => 0 | .nul => 1 | .boo _ => 2 | .num _ => 3 | .str _ => 4 | .sym _ => 5 | .obj k _ => k
def fl : Vl → Nat
  | .boo x => x | .num x => x | _ => 0
def st : Vl → ByteArray
  | .str s => s | _ => ⟨#[]⟩
def rf : Vl → Int
  | .sym r => r | .obj _ r => r | _ => 0
def val (v : Vl) : Value := .agg #[.int .u8 (v.kd : Int), .float .f64 v.fl, .string v.st, .int .i64 v.rf]
def ok : Vl → Prop
  | .und => True
  | .nul => True
  | .boo x => x = 0 ∨ x = 2 ^ 63 ∨ x = 4607182418800017408
  | .num x => ∃ c, Is c x ∧ mayC c = true
  | .str s => s.size ≤ 4096
  | .sym r => 0 ≤ r ∧ r < 2 ^ 63
  | .obj k r => (k = 6 ∨ k = 7 ∨ k = 8) ∧ 0 ≤ r ∧ r < 2 ^ 63
end Vl

def objB (k : Nat) : Bool := k == 6 || k == 7 || k == 8
def calB (k : Nat) : Bool := k == 7 || k == 8
/-- same, of any values -/
def sameG (k x : Nat) (s : ByteArray) (r : Int) (k' x' : Nat) (s' : ByteArray) (r' : Int) : Bool :=
  if objB k && objB k' then r == r' else if k ≠ k' then false else if k = 0 ∨ k = 1 then true else if k = 2 then feq x x' else if k = 3 then feq x x' || (!feq x x && !feq x' x')
  else if k = 4 then s.data.toList == s'.data.toList else if k = 5 then r == r' else false
def sameV (a b : Vl) : Bool := sameG a.kd a.fl a.st a.rf b.kd b.fl b.st b.rf
def noneV (v : Vl) : Bool := v.kd == 3 && !feq v.fl v.fl
def truthV (v : Vl) : Bool := match v with
  | .und => false
  | .nul => false
  | .boo x => !feq x 0 && feq x x
  | .num x => !feq x 0 && feq x x
  | .str s => !s.data.toList.isEmpty
  | _ => true
def typeV (v : Vl) : List UInt8 := match v with
  | .und => [117, 110, 100, 101, 102, 105, 110, 101, 100]
  | .nul => [111, 98, 106, 101, 99, 116]
  | .boo _ => [98, 111, 111, 108, 101, 97, 110]
  | .num _ => [110, 117, 109, 98, 101, 114]
  | .str _ => [115, 116, 114, 105, 110, 103]
  | .sym _ => [115, 121, 109, 98, 111, 108]
  | .obj k _ => if k = 6 then [111, 98, 106, 101, 99, 116] else [102, 117, 110, 99, 116, 105, 111, 110]
/-- the text of a value -/
def TextV (v : Vl) (l : List UInt8) : Prop := match v with
  | .und => l = [117, 110, 100, 101, 102, 105, 110, 101, 100]
  | .nul => l = [110, 117, 108, 108]
  | .boo x => l = if feq x 0 then [102, 97, 108, 115, 101] else [116, 114, 117, 101]
  | .num x => ∃ c, Is c x ∧ mayC c = true ∧ l = textL c
  | .str s => l = quoteL s.data.toList
  | .sym r => l = [115, 121, 109, 98, 111, 108, 32] ++ Lib.itoa r
  | .obj _ r => l = [111, 98, 106, 101, 99, 116, 32] ++ Lib.itoa r

theorem boo_nv {x : Nat} (h : (Vl.boo x).ok) : ∃ o, NV x o ∧ (o = some 0 ∨ o = some 1) := by
  rcases h with rfl | rfl | rfl
  · exact ⟨some 0, ⟨by decide, Or.inr (Or.inr ⟨0, by unfold SafeN; omega, F_zero.symm, rfl⟩)⟩, Or.inl rfl⟩
  · exact ⟨some 0, ⟨by decide, Or.inr (Or.inl ⟨rfl, rfl⟩)⟩, Or.inl rfl⟩
  · exact ⟨some 1, ⟨by decide, Or.inr (Or.inr ⟨1, by unfold SafeN; omega, by decide, rfl⟩)⟩, Or.inr rfl⟩
theorem num_nv {x : Nat} (h : (Vl.num x).ok) : ∃ o, NV x o := by
  obtain ⟨c, hc, hm⟩ := h
  obtain ⟨o, ho, _⟩ := nv_cls hc hm
  exact ⟨o, ho⟩
theorem nv_zero : NV 0 (some 0) := ⟨by decide, Or.inr (Or.inr ⟨0, by unfold SafeN; omega, F_zero.symm, rfl⟩)⟩
theorem beq_opt (o p : Option Int) : (o == p) = (p == o) := by
  rw [Bool.eq_iff_iff]; simp only [beq_iff_eq]; exact eq_comm

/-- the same, in one form: of one kind, or two objects -/
theorem obj_kd {k : Nat} (h : k = 6 ∨ k = 7 ∨ k = 8) : objB k = true := by rcases h with rfl | rfl | rfl <;> rfl
theorem sameV_refl {a : Vl} (h : a.ok) : sameV a a = true := by
  cases a with
  | und => rfl
  | nul => rfl
  | boo x =>
    obtain ⟨o, ho, h1⟩ := boo_nv h
    show feq x x = true
    rw [feq_nv ho ho]
    rcases h1 with rfl | rfl <;> rfl
  | num x =>
    obtain ⟨o, ho⟩ := num_nv h
    show (feq x x || (!feq x x && !feq x x)) = true
    cases feq x x <;> rfl
  | str s => show (s.data.toList == s.data.toList) = true; exact beq_self_eq_true _
  | sym r => show (r == r) = true; exact beq_self_eq_true _
  | obj k r =>
    unfold sameV sameG
    have : objB k = true := obj_kd h.1
    simp only [Vl.kd, this, Bool.and_self, if_true, Vl.rf, beq_self_eq_true]
/-- which values are the same -/
def Sm (a b : Vl) : Prop := match a, b with
  | .und, .und => True
  | .nul, .nul => True
  | .boo x, .boo y => ∃ o, NV x o ∧ NV y o
  | .num x, .num y => ∃ o, NV x o ∧ NV y o
  | .str s, .str t => s.data.toList = t.data.toList
  | .sym r, .sym q => r = q
  | .obj _ r, .obj _ q => r = q
  | _, _ => False
theorem nv_fun {x : Nat} {o p : Option Int} (h : NV x o) (g : NV x p) : o = p := by
  have e := feq_nv h g
  have e1 := feq_nv h h
  have e2 := feq_nv g g
  rw [e1] at e
  cases o with
  | none =>
    cases p with
    | none => rfl
    | some p => rw [e1] at e2; simp at e2
  | some o => simpa using e
theorem diffV {a b : Vl} (h1 : objB a.kd = false ∨ objB b.kd = false) (h2 : a.kd ≠ b.kd) : sameV a b = false := by
  have h : (objB a.kd && objB b.kd) = false := by rcases h1 with h | h <;> simp [h]
  unfold sameV sameG
  rw [if_neg (by rw [h]; decide), if_pos h2]
theorem same_sm {a b : Vl} (ha : a.ok) (hb : b.ok) : sameV a b = true ↔ Sm a b := by
  cases a <;> cases b
  case und.und => exact ⟨fun _ => trivial, fun _ => rfl⟩
  case nul.nul => exact ⟨fun _ => trivial, fun _ => rfl⟩
  case boo.boo x y =>
    obtain ⟨o, ho, h1⟩ := boo_nv ha
    obtain ⟨p, hp, h2⟩ := boo_nv hb
    show feq x y = true ↔ _
    rw [feq_nv ho hp]
    constructor
    · intro h
      have h : o = p := by rw [Bool.and_eq_true] at h; exact beq_iff_eq.1 h.2
      exact ⟨o, ho, h ▸ hp⟩
    · rintro ⟨q, h3, h4⟩
      rw [nv_fun ho h3, nv_fun hp h4] at *
      rcases h1 with rfl | rfl <;> rfl
  case num.num x y =>
    obtain ⟨o, ho⟩ := num_nv ha
    obtain ⟨p, hp⟩ := num_nv hb
    show (feq x y || (!feq x x && !feq y y)) = true ↔ _
    rw [feq_nv ho hp, feq_nv ho ho, feq_nv hp hp]
    constructor
    · intro h
      have h : o = p := by cases o <;> cases p <;> simp at h ⊢; exact h
      exact ⟨o, ho, h ▸ hp⟩
    · rintro ⟨q, h3, h4⟩
      rw [nv_fun ho h3, nv_fun hp h4] at *
      cases q <;> simp
  case str.str s t => exact beq_iff_eq
  case sym.sym r q => exact beq_iff_eq
  case obj.obj k r j q =>
    unfold sameV sameG
    have h1 : objB k = true := obj_kd ha.1
    have h2 : objB j = true := obj_kd hb.1
    simp only [Vl.kd, h1, h2, Bool.and_self, if_true, Vl.rf]
    exact beq_iff_eq
  all_goals
    refine ⟨fun h => ?_, fun h => h.elim⟩
    exfalso
    revert h
    rw [diffV]
    · exact fun h => by cases h
    · first | exact .inl rfl | exact .inr rfl
    · first
        | (simp only [Vl.kd]; omega)
        | (have h := ha.1; simp only [Vl.kd]; omega)
        | (have h := hb.1; simp only [Vl.kd]; omega)
theorem sm_symm {a b : Vl} (h : Sm a b) : Sm b a := by
  cases a <;> cases b <;> first | exact h.elim | exact h.symm | trivial | (obtain ⟨o, h1, h2⟩ := h; exact ⟨o, h2, h1⟩)
theorem sm_trans {a b c : Vl} (h : Sm a b) (g : Sm b c) : Sm a c := by
  cases a <;> cases b <;> first
    | exact h.elim
    | (cases c <;> first
        | exact g.elim
        | trivial
        | exact Eq.trans h g
        | (obtain ⟨o, h1, h2⟩ := h; obtain ⟨p, g1, g2⟩ := g; have e := nv_fun h2 g1; subst e; exact ⟨o, h1, g2⟩))
theorem sameV_symm {a b : Vl} (ha : a.ok) (hb : b.ok) : sameV a b = sameV b a := by
  rw [Bool.eq_iff_iff, same_sm ha hb, same_sm hb ha]; exact ⟨sm_symm, sm_symm⟩
theorem sameV_trans {a b c : Vl} (ha : a.ok) (hb : b.ok) (hc : c.ok) (h : sameV a b = true) (g : sameV b c = true) : sameV a c = true :=
  (same_sm ha hc).2 (sm_trans ((same_sm ha hb).1 h) ((same_sm hb hc).1 g))
theorem same_truth {a b : Vl} (ha : a.ok) (hb : b.ok) (h : sameV a b = true) : truthV a = truthV b := by
  have h := (same_sm ha hb).1 h
  cases a <;> cases b <;> first
    | exact h.elim
    | rfl
    | (obtain ⟨o, h1, h2⟩ := h; unfold truthV; dsimp only; rw [feq_nv h1 nv_zero, feq_nv h2 nv_zero, feq_nv h1 h1, feq_nv h2 h2])
    | (have h : _ = _ := h; unfold truthV; dsimp only; rw [h])
theorem same_type {a b : Vl} (ha : a.ok) (hb : b.ok) (h : sameV a b = true) (hc : calB a.kd = calB b.kd) : typeV a = typeV b := by
  have h := (same_sm ha hb).1 h
  cases a <;> cases b <;> first
    | exact h.elim
    | rfl
    | (have h1 := ha.1; have h2 := hb.1; revert hc; rcases h1 with rfl | rfl | rfl <;> rcases h2 with rfl | rfl | rfl <;> first | exact fun _ => rfl | (intro h; simp [Vl.kd, calB] at h))
theorem same_text {a b : Vl} {l m : List UInt8} (ha : a.ok) (hb : b.ok) (h0 : sameV a b = true) (hl : TextV a l) (hm : TextV b m) : l = m := by
  have h := (same_sm ha hb).1 h0
  clear h0
  cases a <;> cases b <;> first
    | exact h.elim
    | exact hl.trans hm.symm
    | skip
  case boo.boo x y =>
    obtain ⟨o, h1, h2⟩ := h
    have hl : l = _ := hl
    have hm : m = _ := hm
    rw [hl, hm, feq_nv h1 nv_zero, feq_nv h2 nv_zero]
  case num.num x y =>
    obtain ⟨o, h1, h2⟩ := h
    obtain ⟨c, hc, hcm, rfl⟩ := hl
    obtain ⟨d, hd, hdm, rfl⟩ := hm
    obtain ⟨p, p1, p2⟩ := nv_cls hc hcm
    obtain ⟨q, q1, q2⟩ := nv_cls hd hdm
    obtain rfl := nv_fun h1 p1
    obtain rfl := nv_fun h2 q1
    rcases p2 with ⟨rfl, rfl⟩ | ⟨n, rfl, rfl⟩ <;> rcases q2 with ⟨rfl, e⟩ | ⟨k, rfl, e⟩
    · rfl
    · cases e
    · cases e
    · cases e; rfl
  case str.str s t =>
    have hl : l = _ := hl
    have hm : m = _ := hm
    have h : s.data.toList = t.data.toList := h
    rw [hl, hm, h]
  case sym.sym r q =>
    have hl : l = _ := hl
    have hm : m = _ := hm
    have h : r = q := h
    rw [hl, hm, h]
  case obj.obj k r j q =>
    have hl : l = _ := hl
    have hm : m = _ := hm
    have h : r = q := h
    rw [hl, hm, h]
end Go.Proofs.Ytlgbnfcnimjheaa.S
