/-
  Tokens that agree up to a place: what is read of the one is read of the other, but for places. Plain mathematics. Generated: gen_sim.py.
-/
import Derived.Test.YtablckajobefeaaGreatDoorPN07
namespace Go.Proofs.YtablckajobefeaaGreatDoor.S
open Go.RowKit Fl

theorem Rs.bind_inv {α β : Type} {r : Rs α} {f : α → Ps → Rs β} {b : β} {s : Ps} (h : r.bind f = .ok b s) : ∃ a s1, r = .ok a s1 ∧ f a s1 = .ok b s := by
  cases r with
  | ok a s1 => exact ⟨a, s1, rfl, h⟩
  | bad p k => cases h
  | out => cases h
theorem Rs.ok_inj {α : Type} {a b : α} {s s1 : Ps} (h : Rs.ok a s = .ok b s1) : b = a ∧ s1 = s := by injection h with h1 h2; exact ⟨h1.symm, h2.symm⟩
theorem take1_inv {T : List Tk} {c : ByteArray} {s s1 : Ps} {u : Unit} (h : take1 T c s = .ok u s1) : (sd T s == c) = true ∧ s1 = s.on := by
  unfold take1 at h
  by_cases q : (sd T s == c) = true
  · rw [if_pos q] at h; injection h with _ h2; exact ⟨q, h2.symm⟩
  · rw [if_neg q] at h; cases h
theorem name_inv {T : List Tk} {s s1 : Ps} {n : ByteArray} (h : nameR T s = .ok n s1) : (tok T s).kind = 1 ∧ n = (tok T s).text ∧ s1 = s.on := by
  unfold nameR at h
  by_cases q : (tok T s).kind = 1
  · rw [if_pos q] at h; injection h with h1 h2; exact ⟨q, h1.symm, h2.symm⟩
  · rw [if_neg q] at h; cases h
theorem word_inv {T : List Tk} {s s1 : Ps} {n : ByteArray} (h : wordR T s = .ok n s1) : (tok T s).kind ≠ 0 ∧ n = (tok T s).text ∧ s1 = s.on := by
  unfold wordR at h
  by_cases q : (tok T s).kind = 2
  · rw [if_pos q] at h; injection h with h1 h2; exact ⟨by omega, h1.symm, h2.symm⟩
  · rw [if_neg q] at h
    obtain ⟨h1, h2, h3⟩ := name_inv h
    exact ⟨by omega, h2, h3⟩
theorem mk_inv {k : Nat} {p : Int} {t : ByteArray} {x : Nat} {l : List Tr} {s s1 : Ps} {z : Tr} (h : mkP k p t x l s = .ok z s1) : z = .mk k p t x l ∧ s1.next = s.next ∧ s1.level = s.level := by
  unfold mkP at h
  injection h with h1 h2
  subst h1 h2
  exact ⟨rfl, rfl, rfl⟩
mutual
/-- a tree without places -/
def Tr.np : Tr → Tr
  | .mk k _ t x l => .mk k 0 t x (Tr.nps l)
def Tr.nps : List Tr → List Tr
  | [] => []
  | t :: l => t.np :: Tr.nps l
end
/-- no sign that goes on with a value -/
def EN (y : ByteArray) : Prop := levelOf y = 0 ∧ (y == (⟨#[46]⟩ : ByteArray)) = false ∧ (y == (⟨#[91]⟩ : ByteArray)) = false ∧ (y == (⟨#[40]⟩ : ByteArray)) = false ∧ (y == (⟨#[63]⟩ : ByteArray)) = false ∧ putsB y = false
/-- no word that goes on with a statement -/
def SN (y : ByteArray) : Prop := (y == (⟨#[101, 108, 115, 101]⟩ : ByteArray)) = false ∧ (y == (⟨#[99, 97, 116, 99, 104]⟩ : ByteArray)) = false ∧ (y == (⟨#[102, 105, 110, 97, 108, 108, 121]⟩ : ByteArray)) = false
/-- two rows of tokens: from a and from b on they agree in e of them; the levels differ by d -/
structure Two (T U : List Tk) (a b e : Nat) (d : Int) : Prop where
  same : ∀ i, i < e → (tkAt T (a + i)).kind = (tkAt U (b + i)).kind ∧ (tkAt T (a + i)).text = (tkAt U (b + i)).text ∧ (tkAt T (a + i)).num = (tkAt U (b + i)).num
  len : e ≤ U.length
  word : SN (saidT (tkAt U (b + e)))
structure SimS (a b : Nat) (d l : Int) (s u : Ps) : Prop where
  nx : ∃ i, s.next = a + i ∧ u.next = b + i
  lv : s.level = l + d
  lu : u.level = l
section
variable {T U : List Tk} {a b e : Nat} {d : Int}
theorem SimS.on {l : Int} {s u : Ps} (R : SimS a b d l s u) : SimS a b d l s.on u.on := by
  obtain ⟨⟨i, h1, h2⟩, h3, h4⟩ := R
  exact ⟨⟨i + 1, by show s.next + 1 = _; omega, by show u.next + 1 = _; omega⟩, h3, h4⟩
theorem SimS.to {l : Int} {s u s1 u1 : Ps} (R : SimS a b d l s u) (h1 : s1.next = s.next) (h2 : s1.level = s.level) (h3 : u1.next = u.next) (h4 : u1.level = u.level) : SimS a b d l s1 u1 := by
  obtain ⟨⟨i, k1, k2⟩, k3, k4⟩ := R
  exact ⟨⟨i, by omega, by omega⟩, by rw [h2]; exact k3, by rw [h4]; exact k4⟩
def exprM : Mth → Bool
  | .assign | .assigned | .cond | .unary | .led | .head | .newIn | .primary | .nested | .pair | .key => true
  | .sides _ => true
  | .chain _ => true
  | .accessor _ => true
  | _ => false
inductive MthL : Mth → Mth → Prop
  | refl (m : Mth) : MthL m m
  | fn (k : Nat) (p q : Int) (n : ByteArray) : MthL (.function k p n) (.function k q n)
/-- what is asked of all methods -/
def AllSim (T U : List Tk) (a b e : Nat) (d : Int) (r r' : Mth → Ps → Rs Tr) : Prop :=
  ∀ (m m' : Mth) (l : Int) (s u : Ps) (t : Tr) (s1 : Ps), MthL m m' → 0 ≤ l → 0 ≤ d → l + d ≤ 200 → SimS a b d l s u → preM T m s → s.next < T.length → r m s = .ok t s1 → s1.next ≤ a + e →
    (s1.next < a + e ∨ (exprM m = true → EN (saidT (tkAt U (b + e))))) → ∃ t' u1, r' m' u = .ok t' u1 ∧ t.np = t'.np ∧ SimS a b d l s1 u1
def ProgA (T : List Tk) (r : Mth → Ps → Rs Tr) : Prop := ∀ m s t s1, preM T m s → s.next < T.length → r m s = .ok t s1 → s.next < s1.next ∧ s1.next < T.length
/-- a reader that goes on by a token at least -/
def ProgN (T : List Tk) (f : Ps → Rs Tr) : Prop := ∀ s t s1, s.next < T.length → f s = .ok t s1 → s.next < s1.next ∧ s1.next < T.length
def SimF (T : List Tk) (a b e : Nat) (d l : Int) (f f' : Ps → Rs Tr) : Prop := ∀ s u t s1, SimS a b d l s u → s.next < T.length → f s = .ok t s1 → s1.next < a + e → ∃ t' u1, f' u = .ok t' u1 ∧ t.np = t'.np ∧ SimS a b d l s1 u1
theorem deeper_inv {f : Ps → Rs Tr} {s s1 : Ps} {t : Tr} (h : deeperR T f s = .ok t s1) : s.level ≠ 200 ∧ ∃ s2, f { s with level := w64 (s.level + 1) } = .ok t s2 ∧ s1 = { s2 with level := w64 (s2.level - 1) } := by
  unfold deeperR at h
  by_cases q : s.level = 200
  · rw [if_pos q] at h; cases h
  · rw [if_neg q] at h
    obtain ⟨x, s2, h1, h2⟩ := Rs.bind_inv h
    obtain ⟨rfl, rfl⟩ := Rs.ok_inj h2
    exact ⟨q, s2, h1, rfl⟩
theorem prog_listedN (hm : MayP T) {f : Ps → Rs Tr} (P : ProgN T f) {c : ByteArray} (hc : c ≠ ⟨#[]⟩) (M : Nat) : ∀ (n : Nat) (L : List Tr) (s : Ps) (t : List Tr) (s1 : Ps), s.next < T.length → listedR T c M f n L s = .ok t s1 → s.next < s1.next ∧ s1.next < T.length
  | 0, _, _, _, _, _, h => by unfold listedR at h; cases h
  | n + 1, L, s, t, s1, hs, h => by
    unfold listedR at h
    by_cases q : L.length = M
    · rw [if_pos q] at h; cases h
    rw [if_neg q] at h
    obtain ⟨x, s2, h1, h⟩ := Rs.bind_inv h
    obtain ⟨p1, p2⟩ := P s x s2 hs h1
    have on2 : s2.on.next = s2.next + 1 := rfl
    by_cases q2 : (sd T s2 == c) = true
    · rw [if_pos q2] at h
      obtain ⟨rfl, rfl⟩ := Rs.ok_inj h
      have := tok_end hm p2 (kind_of_sd hm p2 q2 hc)
      omega
    · rw [if_neg q2] at h
      obtain ⟨y, s3, h2, h⟩ := Rs.bind_inv h
      obtain ⟨q3, rfl⟩ := take1_inv h2
      have := prog_listedN hm P hc M n _ _ _ _ (tok_end hm p2 (kind_of_sd hm p2 q3 (by decide))) h
      omega
theorem prog_listN (hm : MayP T) {f : Ps → Rs Tr} (P : ProgN T f) {c : ByteArray} (hc : c ≠ ⟨#[]⟩) (M : Nat) {s s1 : Ps} {t : List Tr} (hs : s.next < T.length) (h : listR T c M f s = .ok t s1) : s.next < s1.next ∧ s1.next < T.length := by
  unfold listR at h
  by_cases q : (sd T s == c) = true
  · rw [if_pos q] at h
    obtain ⟨rfl, rfl⟩ := Rs.ok_inj h
    exact ⟨Nat.lt_succ_self _, tok_end hm hs (kind_of_sd hm hs q hc)⟩
  · rw [if_neg q] at h
    exact prog_listedN hm P hc M _ _ _ _ _ hs h
theorem prog_blockN (hm : MayP T) {f : Ps → Rs Tr} (P : ProgN T f) : ∀ (n : Nat) (L : List Tr) (s : Ps) (t : List Tr) (s1 : Ps), s.next < T.length → blockL T f n L s = .ok t s1 → s.next < s1.next ∧ s1.next < T.length
  | 0, _, _, _, _, _, h => by unfold blockL at h; cases h
  | n + 1, L, s, t, s1, hs, h => by
    unfold blockL at h
    by_cases q : (sd T s == (⟨#[125]⟩ : ByteArray)) = true
    · rw [if_pos q] at h
      obtain ⟨rfl, rfl⟩ := Rs.ok_inj h
      exact ⟨Nat.lt_succ_self _, tok_end hm hs (kind_of_sd hm hs q (by decide))⟩
    · rw [if_neg q] at h
      obtain ⟨x, s2, h1, h⟩ := Rs.bind_inv h
      obtain ⟨p1, p2⟩ := P s x s2 hs h1
      have := prog_blockN hm P n _ _ _ _ p2 h
      omega
theorem args_progN (hm : MayP T) {r : Mth → Ps → Rs Tr} (P : ProgN T (r .assign)) {x : Tr} {s s1 : Ps} {t : List Tr} (hs : s.next < T.length) (h : argsR T r x s = .ok t s1) : s.next < s1.next ∧ s1.next < T.length := by
  unfold argsR at h
  obtain ⟨y, s2, h1, h⟩ := Rs.bind_inv h
  obtain ⟨q1, rfl⟩ := take1_inv h1
  obtain ⟨m, s3, h2, h⟩ := Rs.bind_inv h
  obtain ⟨rfl, rfl⟩ := Rs.ok_inj h
  have on1 : s.on.next = s.next + 1 := rfl
  have := prog_listN hm P (c := (⟨#[41]⟩ : ByteArray)) (by decide) 64 (tok_end hm hs (kind_of_sd hm hs q1 (by decide))) h2
  omega
theorem prog_declN (hm : MayP T) {s s1 : Ps} {t : Tr} (hs : s.next < T.length) (h : declR T s = .ok t s1) : s.next < s1.next ∧ s1.next < T.length := by
  have on1 : s.on.next = s.next + 1 := rfl
  have on2 : s.on.on.next = s.next + 2 := rfl
  unfold declR at h
  by_cases q : (sd T s == (⟨#[99, 111, 110, 115, 116]⟩ : ByteArray)) = true
  · rw [if_pos q] at h
    obtain ⟨w1, z1, k1, h⟩ := Rs.bind_inv h
    obtain ⟨q1, rfl, rfl⟩ := name_inv k1
    obtain ⟨_, e1, e2⟩ := mk_inv h
    have := tok_end hm (tok_end hm hs (kind_of_sd hm hs q (by decide))) (s := s.on) (by omega)
    omega
  · rw [if_neg q] at h
    obtain ⟨w0, z0, k0, h⟩ := Rs.bind_inv h
    obtain ⟨q0, rfl⟩ := take1_inv k0
    obtain ⟨w1, z1, k1, h⟩ := Rs.bind_inv h
    obtain ⟨q1, rfl, rfl⟩ := name_inv k1
    obtain ⟨_, e1, e2⟩ := mk_inv h
    have := tok_end hm (tok_end hm hs (kind_of_sd hm hs q0 (by decide))) (s := s.on) (by omega)
    omega
theorem prog_paramN (hm : MayP T) : ProgN T (paramR T) := fun s t s1 hs h => by
  unfold paramR at h
  obtain ⟨w1, z1, k1, h⟩ := Rs.bind_inv h
  obtain ⟨q1, rfl, rfl⟩ := name_inv k1
  obtain ⟨_, e1, e2⟩ := mk_inv h
  have on1 : s.on.next = s.next + 1 := rfl
  have := tok_end hm hs (by omega)
  omega
theorem takes2_inv {c f : ByteArray} {s s1 : Ps} {w : Unit} (h : takes T [c, f] s = .ok w s1) : (sd T s == c) = true ∧ (sd T s.on == f) = true ∧ s1 = s.on.on := by
  unfold takes takes takes at h
  obtain ⟨w2, z2, k2, k3⟩ := Rs.bind_inv h
  obtain ⟨q1, rfl⟩ := take1_inv k2
  obtain ⟨w4, z4, k4, k5⟩ := Rs.bind_inv k3
  obtain ⟨q2, rfl⟩ := take1_inv k4
  obtain ⟨_, rfl⟩ := Rs.ok_inj k5
  exact ⟨q1, q2, rfl⟩
theorem prog_run (hm : MayP T) (n : Nat) : ProgA T (run T n) := fun m s t s1 hp hs h => by
  have h1 : run T (n + (20 * T.length + 20)) m s = run T n m s := run_more (by omega) (by rw [h]; intro e; cases e)
  have h2 := run_gd (n := n + (20 * T.length + 20)) hm hp hs (by omega)
  rw [h1, h] at h2
  exact ⟨h2.1, h2.2⟩
end
end Go.Proofs.YtablckajobefeaaGreatDoor.S
