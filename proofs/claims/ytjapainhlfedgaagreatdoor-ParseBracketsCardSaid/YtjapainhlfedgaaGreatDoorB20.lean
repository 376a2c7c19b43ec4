/-
  Tokens that agree up to a place: what is read of the one is read of the other, but for places. Plain mathematics. Generated: gen_sim.py.
-/
import Derived.Test.YtjapainhlfedgaaGreatDoorB19
namespace Go.Proofs.YtjapainhlfedgaaGreatDoor.S
open Go.RowKit Fl

theorem Rs.bind_inv {α β : Type} {r : Rs α} {f : α → Ps → Rs β} {b : β} {s : Ps} (h : r.bind f = .ok b s) : ∃ a s1, r = .ok a s1 ∧ f a s1 = .ok b s := by
  cases r with
  | ok a s1 => exact ⟨a, s1, rfl, h⟩
  | bad p k => cases h
  | out => cases h
theorem Rs.ok_inj {α : Type} {a b : α} {s s1 : Ps} (h : Rs.ok a s = .ok b s1) : b = a ∧ s1 = s := by injection h with h1 h2; exact ⟨h1.symm, h2.symm⟩
theorem take1_inv {T : List Tk} {c : ByteArray} {s s1 : Ps} {u : Unit} (h : take1 T c s = .ok u s1) : (sd T s == c) = true ∧ s1 = s.on := by
  unfold take1 at h
  by_cases q : (sd T s == c) = true
  · rw [if_pos q] at h; injection h with _ h2; exact ⟨q, h2.symm⟩
  · rw [if_neg q] at h; cases h
theorem name_inv {T : List Tk} {s s1 : Ps} {n : ByteArray} (h : nameR T s = .ok n s1) : (tok T s).kind = 1 ∧ n = (tok T s).text ∧ s1 = s.on := by
  unfold nameR at h
  by_cases q : (tok T s).kind = 1
  · rw [if_pos q] at h; injection h with h1 h2; exact ⟨q, h1.symm, h2.symm⟩
  · rw [if_neg q] at h; cases h
theorem word_inv {T : List Tk} {s s1 : Ps} {n : ByteArray} (h : wordR T s = .ok n s1) : (tok T s).kind ≠ 0 ∧ n = (tok T s).text ∧ s1 = s.on := by
  unfold wordR at h
  by_cases q : (tok T s).kind = 2
  · rw [if_pos q] at h; injection h with h1 h2; exact ⟨by omega, h1.symm, h2.symm⟩
  · rw [if_neg q] at h
    obtain ⟨h1, h2, h3⟩ := name_inv h
    exact ⟨by omega, h2, h3⟩
theorem mk_inv {k : Nat} {p : Int} {t : ByteArray} {x : Nat} {l : List Tr} {s s1 : Ps} {z : Tr} (h : mkP k p t x l s = .ok z s1) : z = .mk k p t x l ∧ s1.next = s.next ∧ s1.level = s.level := by
  unfold mkP at h
  injection h with h1 h2
  subst h1 h2
  exact ⟨rfl, rfl, rfl⟩
mutual
/-- a tree without places -/
def Tr.np : Tr → Tr
  | .mk k _ t x l => .mk k 0 t x (Tr.nps l)
def Tr.nps : List Tr → List Tr
  | [] => []
  | t :: l => t.np :: Tr.nps l
end
theorem nps_append (l m : List Tr) : Tr.nps (l ++ m) = Tr.nps l ++ Tr.nps m := by
  induction l with
  | nil => simp [Tr.nps]
  | cons t l ih => simp [Tr.nps, ih]
theorem nps_len : ∀ {l m : List Tr}, Tr.nps l = Tr.nps m → l.length = m.length
  | [], [], _ => rfl
  | [], _ :: _, h => by unfold Tr.nps at h; cases h
  | _ :: _, [], h => by unfold Tr.nps at h; cases h
  | _ :: l, _ :: m, h => by
    unfold Tr.nps at h
    injection h with _ h2
    simp [nps_len h2]
theorem nps_snoc {l m : List Tr} {t u : Tr} (h : Tr.nps l = Tr.nps m) (k : t.np = u.np) : Tr.nps (l ++ [t]) = Tr.nps (m ++ [u]) := by
  rw [nps_append, nps_append, h]
  simp [Tr.nps, k]
theorem nps_cons {l m : List Tr} {t u : Tr} (k : t.np = u.np) (h : Tr.nps l = Tr.nps m) : Tr.nps (t :: l) = Tr.nps (u :: m) := by simp [Tr.nps, h, k]
theorem np_kind : ∀ {t u : Tr}, t.np = u.np → t.kind = u.kind
  | .mk _ _ _ _ _, .mk _ _ _ _ _, h => by unfold Tr.np at h; injection h
theorem np_mk {k : Nat} {p q : Int} {t t' : ByteArray} {x x' : Nat} {l m : List Tr} (ht : t = t') (hx : x = x') (h : Tr.nps l = Tr.nps m) : (Tr.mk k p t x l).np = (Tr.mk k q t' x' m).np := by subst ht hx; simp [Tr.np, h]

/-- no sign that goes on with a value -/
def EN (y : ByteArray) : Prop := levelOf y = 0 ∧ (y == (⟨#[46]⟩ : ByteArray)) = false ∧ (y == (⟨#[91]⟩ : ByteArray)) = false ∧ (y == (⟨#[40]⟩ : ByteArray)) = false ∧ (y == (⟨#[63]⟩ : ByteArray)) = false ∧ putsB y = false
/-- no word that goes on with a statement -/
def SN (y : ByteArray) : Prop := (y == (⟨#[101, 108, 115, 101]⟩ : ByteArray)) = false ∧ (y == (⟨#[99, 97, 116, 99, 104]⟩ : ByteArray)) = false ∧ (y == (⟨#[102, 105, 110, 97, 108, 108, 121]⟩ : ByteArray)) = false
/-- two rows of tokens: from a and from b on they agree in e of them; the levels differ by d -/
structure Two (T U : List Tk) (a b e : Nat) (d : Int) : Prop where
  same : ∀ i, i < e → (tkAt T (a + i)).kind = (tkAt U (b + i)).kind ∧ (tkAt T (a + i)).text = (tkAt U (b + i)).text ∧ (tkAt T (a + i)).num = (tkAt U (b + i)).num
  len : e ≤ U.length
  word : SN (saidT (tkAt U (b + e)))
structure SimS (a b : Nat) (d l : Int) (s u : Ps) : Prop where
  nx : ∃ i, s.next = a + i ∧ u.next = b + i
  lv : s.level = l + d
  lu : u.level = l
section
variable {T U : List Tk} {a b e : Nat} {d : Int}
theorem SimS.on {l : Int} {s u : Ps} (R : SimS a b d l s u) : SimS a b d l s.on u.on := by
  obtain ⟨⟨i, h1, h2⟩, h3, h4⟩ := R
  exact ⟨⟨i + 1, by show s.next + 1 = _; omega, by show u.next + 1 = _; omega⟩, h3, h4⟩
theorem SimS.to {l : Int} {s u s1 u1 : Ps} (R : SimS a b d l s u) (h1 : s1.next = s.next) (h2 : s1.level = s.level) (h3 : u1.next = u.next) (h4 : u1.level = u.level) : SimS a b d l s1 u1 := by
  obtain ⟨⟨i, k1, k2⟩, k3, k4⟩ := R
  exact ⟨⟨i, by omega, by omega⟩, by rw [h2]; exact k3, by rw [h4]; exact k4⟩
theorem sim_tok (W : Two T U a b e d) {l : Int} {s u : Ps} (R : SimS a b d l s u) (h : s.next < a + e) : (tok U u).kind = (tok T s).kind ∧ (tok U u).text = (tok T s).text ∧ (tok U u).num = (tok T s).num := by
  obtain ⟨⟨i, k1, k2⟩, _, _⟩ := R
  obtain ⟨h1, h2, h3⟩ := W.same i (by omega)
  unfold tok
  rw [k1, k2]
  exact ⟨h1.symm, h2.symm, h3.symm⟩
theorem sim_sd (W : Two T U a b e d) {l : Int} {s u : Ps} (R : SimS a b d l s u) (h : s.next < a + e) : sd U u = sd T s := by
  obtain ⟨h1, h2, _⟩ := sim_tok W R h
  unfold sd saidT
  rw [h1, h2]
theorem sim_sd1 (W : Two T U a b e d) {l : Int} {s u : Ps} (R : SimS a b d l s u) (h : s.next + 1 < a + e) : saidT (tkAt U (u.next + 1)) = saidT (tkAt T (s.next + 1)) := by
  obtain ⟨⟨i, k1, k2⟩, _, _⟩ := R
  obtain ⟨h1, h2, h3⟩ := W.same (i + 1) (by omega)
  unfold saidT
  rw [k1, k2, Nat.add_assoc, Nat.add_assoc, h1, h2]
theorem sim_end {l : Int} {s u : Ps} (R : SimS a b d l s u) (h : s.next = a + e) : sd U u = saidT (tkAt U (b + e)) := by
  obtain ⟨⟨i, k1, k2⟩, _, _⟩ := R
  unfold sd tok
  rw [k2, show i = e by omega]
theorem sim_take (W : Two T U a b e d) {l : Int} {s u : Ps} (R : SimS a b d l s u) (h : s.next < a + e) {c : ByteArray} (q : (sd T s == c) = true) : take1 U c u = .ok () u.on := by
  unfold take1
  rw [sim_sd W R h, if_pos q]
theorem sim_name (W : Two T U a b e d) {l : Int} {s u : Ps} (R : SimS a b d l s u) (h : s.next < a + e) (q : (tok T s).kind = 1) : nameR U u = .ok (tok T s).text u.on := by
  obtain ⟨h1, h2, _⟩ := sim_tok W R h
  unfold nameR
  rw [h1, if_pos q, h2]
theorem sim_word (W : Two T U a b e d) {l : Int} {s u s1 : Ps} {n : ByteArray} (R : SimS a b d l s u) (h : s.next < a + e) (q : wordR T s = .ok n s1) : wordR U u = .ok n u.on := by
  obtain ⟨h1, h2, _⟩ := sim_tok W R h
  unfold wordR nameR at q ⊢
  rw [h1, h2]
  by_cases q2 : (tok T s).kind = 2
  · rw [if_pos q2] at q ⊢; injection q with q3 _; rw [q3]
  · rw [if_neg q2] at q ⊢
    by_cases q1 : (tok T s).kind = 1
    · rw [if_pos q1] at q ⊢; injection q with q3 _; rw [q3]
    · rw [if_neg q1] at q; cases q

def exprM : Mth → Bool
  | .assign | .assigned | .cond | .unary | .led | .head | .newIn | .primary | .nested | .pair | .key => true
  | .sides _ => true
  | .chain _ => true
  | .accessor _ => true
  | _ => false
inductive MthL : Mth → Mth → Prop
  | refl (m : Mth) : MthL m m
  | fn (k : Nat) (p q : Int) (n : ByteArray) : MthL (.function k p n) (.function k q n)
/-- what is asked of all methods -/
def AllSim (T U : List Tk) (a b e : Nat) (d : Int) (r r' : Mth → Ps → Rs Tr) : Prop :=
  ∀ (m m' : Mth) (l : Int) (s u : Ps) (t : Tr) (s1 : Ps), MthL m m' → 0 ≤ l → 0 ≤ d → l + d ≤ 200 → SimS a b d l s u → preM T m s → s.next < T.length → r m s = .ok t s1 → s1.next ≤ a + e →
    (s1.next < a + e ∨ (exprM m = true → EN (saidT (tkAt U (b + e))))) → ∃ t' u1, r' m' u = .ok t' u1 ∧ t.np = t'.np ∧ SimS a b d l s1 u1
def ProgA (T : List Tk) (r : Mth → Ps → Rs Tr) : Prop := ∀ m s t s1, preM T m s → s.next < T.length → r m s = .ok t s1 → s.next < s1.next ∧ s1.next < T.length
/-- a reader that goes on by a token at least -/
def ProgN (T : List Tk) (f : Ps → Rs Tr) : Prop := ∀ s t s1, s.next < T.length → f s = .ok t s1 → s.next < s1.next ∧ s1.next < T.length
def SimF (T : List Tk) (a b e : Nat) (d l : Int) (f f' : Ps → Rs Tr) : Prop := ∀ s u t s1, SimS a b d l s u → s.next < T.length → f s = .ok t s1 → s1.next < a + e → ∃ t' u1, f' u = .ok t' u1 ∧ t.np = t'.np ∧ SimS a b d l s1 u1
theorem deeper_inv {f : Ps → Rs Tr} {s s1 : Ps} {t : Tr} (h : deeperR T f s = .ok t s1) : s.level ≠ 200 ∧ ∃ s2, f { s with level := w64 (s.level + 1) } = .ok t s2 ∧ s1 = { s2 with level := w64 (s2.level - 1) } := by
  unfold deeperR at h
  by_cases q : s.level = 200
  · rw [if_pos q] at h; cases h
  · rw [if_neg q] at h
    obtain ⟨x, s2, h1, h2⟩ := Rs.bind_inv h
    obtain ⟨rfl, rfl⟩ := Rs.ok_inj h2
    exact ⟨q, s2, h1, rfl⟩
theorem w64_mid {n : Int} (h1 : -1000 ≤ n) (h2 : n ≤ 1000) : w64 n = n := by
  unfold w64 wrap64
  omega
theorem sim_deeper {f f' : Ps → Rs Tr} {l : Int} {s u s1 : Ps} {t : Tr} (R : SimS a b d l s u) (h0 : 0 ≤ l) (h1 : 0 ≤ d) (h2 : l + d ≤ 200) (h : deeperR T f s = .ok t s1)
    (k : ∀ s3 u3 s2, s3.next = s.next → SimS a b d (l + 1) s3 u3 → 0 ≤ l + 1 → l + 1 + d ≤ 200 → f s3 = .ok t s2 → s2.next = s1.next → ∃ t' u2, f' u3 = .ok t' u2 ∧ t.np = t'.np ∧ SimS a b d (l + 1) s2 u2) :
    ∃ t' u1, deeperR U f' u = .ok t' u1 ∧ t.np = t'.np ∧ SimS a b d l s1 u1 := by
  obtain ⟨hn, s2, e1, e2⟩ := deeper_inv h
  have hl := R.lv
  have hu := R.lu
  obtain ⟨i, i1, i2⟩ := R.nx
  rw [w64_mid (by omega) (by omega)] at e1
  obtain ⟨t', u2, g1, g2, g3⟩ := k { s with level := s.level + 1 } { u with level := u.level + 1 } s2 rfl ⟨⟨i, i1, i2⟩, by show s.level + 1 = _; omega, by show u.level + 1 = _; omega⟩ (by omega) (by omega) e1 (by rw [e2])
  refine ⟨t', { u2 with level := w64 (u2.level - 1) }, ?_, g2, ?_⟩
  · unfold deeperR
    rw [if_neg (by omega), w64_mid (by omega) (by omega), g1]
    rfl
  · have k1 := g3.lv
    have k2 := g3.lu
    obtain ⟨j, j1, j2⟩ := g3.nx
    refine ⟨⟨j, by rw [e2]; exact j1, j2⟩, ?_, ?_⟩
    · rw [e2]; show w64 (s2.level - 1) = _; rw [w64_mid (by omega) (by omega)]; omega
    · show w64 (u2.level - 1) = _; rw [w64_mid (by omega) (by omega)]; omega
theorem prog_listedN (hm : MayP T) {f : Ps → Rs Tr} (P : ProgN T f) {c : ByteArray} (hc : c ≠ ⟨#[]⟩) (M : Nat) : ∀ (n : Nat) (L : List Tr) (s : Ps) (t : List Tr) (s1 : Ps), s.next < T.length → listedR T c M f n L s = .ok t s1 → s.next < s1.next ∧ s1.next < T.length
  | 0, _, _, _, _, _, h => by unfold listedR at h; cases h
  | n + 1, L, s, t, s1, hs, h => by
    unfold listedR at h
    by_cases q : L.length = M
    · rw [if_pos q] at h; cases h
    rw [if_neg q] at h
    obtain ⟨x, s2, h1, h⟩ := Rs.bind_inv h
    obtain ⟨p1, p2⟩ := P s x s2 hs h1
    have on2 : s2.on.next = s2.next + 1 := rfl
    by_cases q2 : (sd T s2 == c) = true
    · rw [if_pos q2] at h
      obtain ⟨rfl, rfl⟩ := Rs.ok_inj h
      have := tok_end hm p2 (kind_of_sd hm p2 q2 hc)
      omega
    · rw [if_neg q2] at h
      obtain ⟨y, s3, h2, h⟩ := Rs.bind_inv h
      obtain ⟨q3, rfl⟩ := take1_inv h2
      have := prog_listedN hm P hc M n _ _ _ _ (tok_end hm p2 (kind_of_sd hm p2 q3 (by decide))) h
      omega
theorem prog_listN (hm : MayP T) {f : Ps → Rs Tr} (P : ProgN T f) {c : ByteArray} (hc : c ≠ ⟨#[]⟩) (M : Nat) {s s1 : Ps} {t : List Tr} (hs : s.next < T.length) (h : listR T c M f s = .ok t s1) : s.next < s1.next ∧ s1.next < T.length := by
  unfold listR at h
  by_cases q : (sd T s == c) = true
  · rw [if_pos q] at h
    obtain ⟨rfl, rfl⟩ := Rs.ok_inj h
    exact ⟨Nat.lt_succ_self _, tok_end hm hs (kind_of_sd hm hs q hc)⟩
  · rw [if_neg q] at h
    exact prog_listedN hm P hc M _ _ _ _ _ hs h
theorem sim_listed (hm : MayP T) (W : Two T U a b e d) {f f' : Ps → Rs Tr} {l : Int} (P : ProgN T f) (F : SimF T a b e d l f f') {c : ByteArray} (hc : c ≠ ⟨#[]⟩) (M : Nat) : ∀ (n n' : Nat) (L L' : List Tr) (s u : Ps) (t : List Tr) (s1 : Ps), Tr.nps L = Tr.nps L' → SimS a b d l s u → s.next < T.length →
    listedR T c M f n L s = .ok t s1 → s1.next ≤ a + e → a + e < n' + s.next → ∃ t' u1, listedR U c M f' n' L' u = .ok t' u1 ∧ Tr.nps t = Tr.nps t' ∧ SimS a b d l s1 u1
  | 0, _, _, _, _, _, _, _, _, _, _, h, _, _ => by unfold listedR at h; cases h
  | n + 1, n', L, L', s, u, t, s1, hL, R, hs, h, hle, hf => by
    unfold listedR at h
    by_cases q : L.length = M
    · rw [if_pos q] at h; cases h
    rw [if_neg q] at h
    obtain ⟨x, s2, h1, h⟩ := Rs.bind_inv h
    obtain ⟨p1, p2⟩ := P s x s2 hs h1
    have on2 : s2.on.next = s2.next + 1 := rfl
    by_cases q2 : (sd T s2 == c) = true
    · rw [if_pos q2] at h
      obtain ⟨rfl, rfl⟩ := Rs.ok_inj h
      obtain ⟨x', u2, g1, g2, g3⟩ := F s u x s2 R hs h1 (by omega)
      obtain ⟨m, rfl⟩ : ∃ m, n' = m + 1 := ⟨n' - 1, by omega⟩
      refine ⟨L' ++ [x'], u2.on, ?_, nps_snoc hL g2, g3.on⟩
      unfold listedR
      rw [if_neg (by rw [← nps_len hL]; exact q), g1]
      exact if_pos (by rw [sim_sd W g3 (by omega)]; exact q2)
    · rw [if_neg q2] at h
      obtain ⟨y, s3, h2, h⟩ := Rs.bind_inv h
      obtain ⟨q3, rfl⟩ := take1_inv h2
      have l2 : s2.on.next < T.length := tok_end hm p2 (kind_of_sd hm p2 q3 (by decide))
      have p3 := prog_listedN hm P hc M n _ _ _ _ l2 h
      obtain ⟨x', u2, g1, g2, g3⟩ := F s u x s2 R hs h1 (by omega)
      obtain ⟨m, rfl⟩ : ∃ m, n' = m + 1 := ⟨n' - 1, by omega⟩
      obtain ⟨t', u4, k1, k2, k3⟩ := sim_listed hm W P F hc M n m (L ++ [x]) (L' ++ [x']) s2.on u2.on t s1 (nps_snoc hL g2) g3.on l2 h hle (by omega)
      refine ⟨t', u4, ?_, k2, k3⟩
      conv => lhs; unfold listedR
      rw [if_neg (by rw [← nps_len hL]; exact q), g1]
      refine (if_neg (by rw [sim_sd W g3 (by omega)]; exact q2)).trans ((Rs.bind_ok (sim_take W g3 (by omega) q3) _).trans k1)
theorem sim_list (hm : MayP T) (W : Two T U a b e d) {f f' : Ps → Rs Tr} {l : Int} (P : ProgN T f) (F : SimF T a b e d l f f') {c : ByteArray} (hc : c ≠ ⟨#[]⟩) (M : Nat) {s u : Ps} {t : List Tr} {s1 : Ps} (R : SimS a b d l s u) (hs : s.next < T.length)
    (h : listR T c M f s = .ok t s1) (hle : s1.next ≤ a + e) : ∃ t' u1, listR U c M f' u = .ok t' u1 ∧ Tr.nps t = Tr.nps t' ∧ SimS a b d l s1 u1 := by
  have p := prog_listN hm P hc M hs h
  have hlen := W.len
  obtain ⟨i, i1, i2⟩ := R.nx
  unfold listR at h ⊢
  by_cases q : (sd T s == c) = true
  · rw [if_pos q] at h
    obtain ⟨rfl, rfl⟩ := Rs.ok_inj h
    exact ⟨[], u.on, if_pos (by rw [sim_sd W R (by omega)]; exact q), rfl, R.on⟩
  · rw [if_neg q] at h
    obtain ⟨t', u1, g1, g2, g3⟩ := sim_listed hm W P F hc M _ (U.length + 1) _ [] _ _ _ _ rfl R hs h hle (by omega)
    exact ⟨t', u1, (if_neg (by rw [sim_sd W R (by omega)]; exact q)).trans g1, g2, g3⟩
theorem prog_blockN (hm : MayP T) {f : Ps → Rs Tr} (P : ProgN T f) : ∀ (n : Nat) (L : List Tr) (s : Ps) (t : List Tr) (s1 : Ps), s.next < T.length → blockL T f n L s = .ok t s1 → s.next < s1.next ∧ s1.next < T.length
  | 0, _, _, _, _, _, h => by unfold blockL at h; cases h
  | n + 1, L, s, t, s1, hs, h => by
    unfold blockL at h
    by_cases q : (sd T s == (⟨#[125]⟩ : ByteArray)) = true
    · rw [if_pos q] at h
      obtain ⟨rfl, rfl⟩ := Rs.ok_inj h
      exact ⟨Nat.lt_succ_self _, tok_end hm hs (kind_of_sd hm hs q (by decide))⟩
    · rw [if_neg q] at h
      obtain ⟨x, s2, h1, h⟩ := Rs.bind_inv h
      obtain ⟨p1, p2⟩ := P s x s2 hs h1
      have := prog_blockN hm P n _ _ _ _ p2 h
      omega
theorem sim_block (hm : MayP T) (W : Two T U a b e d) {f f' : Ps → Rs Tr} {l : Int} (P : ProgN T f) (F : SimF T a b e d l f f') : ∀ (n n' : Nat) (L L' : List Tr) (s u : Ps) (t : List Tr) (s1 : Ps), Tr.nps L = Tr.nps L' → SimS a b d l s u → s.next < T.length →
    blockL T f n L s = .ok t s1 → s1.next ≤ a + e → a + e < n' + s.next → ∃ t' u1, blockL U f' n' L' u = .ok t' u1 ∧ Tr.nps t = Tr.nps t' ∧ SimS a b d l s1 u1
  | 0, _, _, _, _, _, _, _, _, _, _, h, _, _ => by unfold blockL at h; cases h
  | n + 1, n', L, L', s, u, t, s1, hL, R, hs, h, hle, hf => by
    have p := prog_blockN hm P _ _ _ _ _ hs h
    unfold blockL at h
    by_cases q : (sd T s == (⟨#[125]⟩ : ByteArray)) = true
    · rw [if_pos q] at h
      obtain ⟨rfl, rfl⟩ := Rs.ok_inj h
      obtain ⟨m, rfl⟩ : ∃ m, n' = m + 1 := ⟨n' - 1, by omega⟩
      refine ⟨L', u.on, ?_, hL, R.on⟩
      unfold blockL
      exact if_pos (by rw [sim_sd W R (by omega)]; exact q)
    · rw [if_neg q] at h
      obtain ⟨x, s2, h1, h⟩ := Rs.bind_inv h
      obtain ⟨p1, p2⟩ := P s x s2 hs h1
      have p3 := prog_blockN hm P n _ _ _ _ p2 h
      obtain ⟨x', u2, g1, g2, g3⟩ := F s u x s2 R hs h1 (by omega)
      obtain ⟨m, rfl⟩ : ∃ m, n' = m + 1 := ⟨n' - 1, by omega⟩
      obtain ⟨t', u4, k1, k2, k3⟩ := sim_block hm W P F n m (L ++ [x]) (L' ++ [x']) s2 u2 t s1 (nps_snoc hL g2) g3 p2 h hle (by omega)
      refine ⟨t', u4, ?_, k2, k3⟩
      conv => lhs; unfold blockL
      exact (if_neg (by rw [sim_sd W R (by omega)]; exact q)).trans ((Rs.bind_ok g1 _).trans k1)
theorem args_progN (hm : MayP T) {r : Mth → Ps → Rs Tr} (P : ProgN T (r .assign)) {x : Tr} {s s1 : Ps} {t : List Tr} (hs : s.next < T.length) (h : argsR T r x s = .ok t s1) : s.next < s1.next ∧ s1.next < T.length := by
  unfold argsR at h
  obtain ⟨y, s2, h1, h⟩ := Rs.bind_inv h
  obtain ⟨q1, rfl⟩ := take1_inv h1
  obtain ⟨m, s3, h2, h⟩ := Rs.bind_inv h
  obtain ⟨rfl, rfl⟩ := Rs.ok_inj h
  have on1 : s.on.next = s.next + 1 := rfl
  have := prog_listN hm P (c := (⟨#[41]⟩ : ByteArray)) (by decide) 64 (tok_end hm hs (kind_of_sd hm hs q1 (by decide))) h2
  omega
theorem sim_args (hm : MayP T) (W : Two T U a b e d) {r r' : Mth → Ps → Rs Tr} {l : Int} (P : ProgN T (r .assign)) (F : SimF T a b e d l (r .assign) (r' .assign)) {x x' : Tr} (hx : x.np = x'.np) {s u : Ps} {t : List Tr} {s1 : Ps} (R : SimS a b d l s u) (hs : s.next < T.length)
    (h : argsR T r x s = .ok t s1) (hle : s1.next ≤ a + e) : ∃ t' u1, argsR U r' x' u = .ok t' u1 ∧ Tr.nps t = Tr.nps t' ∧ SimS a b d l s1 u1 := by
  have p := args_progN hm P hs h
  unfold argsR at h
  obtain ⟨y, s2, h1, h⟩ := Rs.bind_inv h
  obtain ⟨q1, rfl⟩ := take1_inv h1
  obtain ⟨m, s3, h2, h⟩ := Rs.bind_inv h
  obtain ⟨rfl, rfl⟩ := Rs.ok_inj h
  have l1 : s.on.next < T.length := tok_end hm hs (kind_of_sd hm hs q1 (by decide))
  have on1 : s.on.next = s.next + 1 := rfl
  obtain ⟨t', u1, g1, g2, g3⟩ := sim_list hm W P F (c := (⟨#[41]⟩ : ByteArray)) (by decide) 64 R.on l1 h2 hle
  exact ⟨x' :: t', u1, (Rs.bind_ok (sim_take W R (by omega) q1) _).trans (Rs.bind_ok g1 _), nps_cons hx g2, g3⟩
theorem prog_sidesN (hm : MayP T) {r : Mth → Ps → Rs Tr} (P : ∀ k, 1 ≤ k → ProgN T (r (.sides k))) (p : Int) {k : Nat} (hk : 1 ≤ k) : ∀ (n : Nat) (x : Tr) (s : Ps) (t : Tr) (s1 : Ps), s.next < T.length → sidesL T r p k n x s = .ok t s1 → s.next ≤ s1.next ∧ s1.next < T.length
  | 0, _, _, _, _, _, h => by unfold sidesL at h; cases h
  | n + 1, x, s, t, s1, hs, h => by
    unfold sidesL at h
    by_cases q : levelOf (sd T s) < k
    · rw [if_pos q] at h
      obtain ⟨rfl, rfl⟩ := Rs.ok_inj h
      exact ⟨Nat.le_refl _, hs⟩
    · rw [if_neg q] at h
      obtain ⟨y, s2, h1, h⟩ := Rs.bind_inv h
      have on1 : s.on.next = s.next + 1 := rfl
      obtain ⟨p1, p2⟩ := P _ (Nat.le_add_left 1 _) s.on y s2 (tok_end hm hs (kind_of_level hm hs (by omega))) h1
      obtain ⟨z, s3, h2, h⟩ := Rs.bind_inv h
      obtain ⟨rfl, e1, e2⟩ := mk_inv h2
      have := prog_sidesN hm P p hk n _ _ _ _ (by omega) h
      omega
theorem sim_sides (hm : MayP T) (W : Two T U a b e d) {r r' : Mth → Ps → Rs Tr} {l : Int} (P : ∀ k, 1 ≤ k → ProgN T (r (.sides k))) {k : Nat} (hk : 1 ≤ k)
    (F : ∀ k, 1 ≤ k → ∀ s u t s1, SimS a b d l s u → s.next < T.length → r (.sides k) s = .ok t s1 → s1.next ≤ a + e → (s1.next < a + e ∨ EN (saidT (tkAt U (b + e)))) → ∃ t' u1, r' (.sides k) u = .ok t' u1 ∧ t.np = t'.np ∧ SimS a b d l s1 u1) (p p' : Int) : ∀ (n n' : Nat) (x x' : Tr) (s u : Ps) (t : Tr) (s1 : Ps), x.np = x'.np → SimS a b d l s u → s.next < T.length →
    sidesL T r p k n x s = .ok t s1 → s1.next ≤ a + e → (s1.next < a + e ∨ EN (saidT (tkAt U (b + e)))) → a + e < n' + s.next → ∃ t' u1, sidesL U r' p' k n' x' u = .ok t' u1 ∧ t.np = t'.np ∧ SimS a b d l s1 u1
  | 0, _, _, _, _, _, _, _, _, _, _, h, _, _, _ => by unfold sidesL at h; cases h
  | n + 1, n', x, x', s, u, t, s1, hx, R, hs, h, hle, hy, hf => by
    have pr := prog_sidesN hm P p hk _ _ _ _ _ hs h
    obtain ⟨m, rfl⟩ : ∃ m, n' = m + 1 := ⟨n' - 1, by omega⟩
    unfold sidesL at h
    by_cases q : levelOf (sd T s) < k
    · rw [if_pos q] at h
      obtain ⟨rfl, rfl⟩ := Rs.ok_inj h
      refine ⟨x', u, ?_, hx, R⟩
      unfold sidesL
      refine if_pos ?_
      by_cases hlt : s1.next < a + e
      · rw [sim_sd W R hlt]; exact q
      · rcases hy with hy | hy
        · omega
        · rw [sim_end (e := e) R (by omega), hy.1]; omega
    · rw [if_neg q] at h
      obtain ⟨y, s2, h1, h⟩ := Rs.bind_inv h
      have on1 : s.on.next = s.next + 1 := rfl
      have l1 : s.on.next < T.length := tok_end hm hs (kind_of_level hm hs (by omega))
      obtain ⟨p1, p2⟩ := P _ (Nat.le_add_left 1 _) s.on y s2 l1 h1
      obtain ⟨z, s3, h2, h⟩ := Rs.bind_inv h
      obtain ⟨rfl, e1, e2⟩ := mk_inv h2
      have p3 := prog_sidesN hm P p hk n _ _ _ _ (by omega) h
      obtain ⟨y', u2, g1, g2, g3⟩ := F _ (Nat.le_add_left 1 _) s.on u.on y s2 R.on l1 h1 (by omega) (by rcases hy with hy | hy; exact Or.inl (by omega); exact Or.inr hy)
      have hsd := sim_sd W R (by omega)
      obtain ⟨t', u4, k1, k2, k3⟩ := sim_sides hm W P hk F p p' n m _ (.mk (if levelOf (sd T s) = 1 then 41 else if levelOf (sd T s) = 2 then 40 else 39) p' (if levelOf (sd T s) = 1 ∨ levelOf (sd T s) = 2 then ⟨#[]⟩ else sd T s) 0 [x', y']) s3 { u2 with parts := w64 (u2.parts + 1) } t s1 (np_mk rfl rfl (nps_cons hx (nps_cons g2 rfl))) (g3.to e1 e2 rfl rfl) (by omega) h hle hy (by omega)
      refine ⟨t', u4, ?_, k2, k3⟩
      conv => lhs; unfold sidesL
      rw [hsd, if_neg q]
      exact (Rs.bind_ok g1 _).trans k1
theorem prog_chainN (hm : MayP T) {r : Mth → Ps → Rs Tr} (P : ProgN T (r .assign)) (p : Int) (c : Bool) : ∀ (n : Nat) (x : Tr) (s : Ps) (t : Tr) (s1 : Ps), s.next < T.length → chainL T r p c n x s = .ok t s1 → s.next ≤ s1.next ∧ s1.next < T.length
  | 0, _, _, _, _, _, h => by unfold chainL at h; cases h
  | n + 1, x, s, t, s1, hs, h => by
    have on1 : s.on.next = s.next + 1 := rfl
    unfold chainL at h
    by_cases q : (sd T s == (⟨#[46]⟩ : ByteArray)) = true
    · rw [if_pos q] at h
      have l1 : s.on.next < T.length := tok_end hm hs (kind_of_sd hm hs q (by decide))
      obtain ⟨y, s2, h1, h⟩ := Rs.bind_inv h
      obtain ⟨k1, k2, rfl⟩ := word_inv h1
      have on2 : s.on.on.next = s.next + 2 := rfl
      have l2 : s.on.on.next < T.length := tok_end hm l1 k1
      obtain ⟨z, s3, h2, h⟩ := Rs.bind_inv h
      obtain ⟨rfl, e1, e2⟩ := mk_inv h2
      have := prog_chainN hm P p c n _ _ _ _ (by omega) h
      omega
    rw [if_neg q] at h
    by_cases q2 : (sd T s == (⟨#[91]⟩ : ByteArray)) = true
    · rw [if_pos q2] at h
      have l1 : s.on.next < T.length := tok_end hm hs (kind_of_sd hm hs q2 (by decide))
      obtain ⟨y, s2, h1, h⟩ := Rs.bind_inv h
      obtain ⟨p1, p2⟩ := P _ _ _ l1 h1
      obtain ⟨v, s3, h2, h⟩ := Rs.bind_inv h
      obtain ⟨q3, rfl⟩ := take1_inv h2
      have on2 : s2.on.next = s2.next + 1 := rfl
      have l2 : s2.on.next < T.length := tok_end hm p2 (kind_of_sd hm p2 q3 (by decide))
      obtain ⟨z, s4, h3, h⟩ := Rs.bind_inv h
      obtain ⟨rfl, e1, e2⟩ := mk_inv h3
      have := prog_chainN hm P p c n _ _ _ _ (by omega) h
      omega
    rw [if_neg q2] at h
    by_cases q3 : (c && (sd T s == (⟨#[40]⟩ : ByteArray))) = true
    · rw [if_pos q3] at h
      obtain ⟨y, s2, h1, h⟩ := Rs.bind_inv h
      obtain ⟨p1, p2⟩ := args_progN hm P hs h1
      obtain ⟨z, s4, h3, h⟩ := Rs.bind_inv h
      obtain ⟨rfl, e1, e2⟩ := mk_inv h3
      have := prog_chainN hm P p c n _ _ _ _ (by omega) h
      omega
    · rw [if_neg q3] at h
      obtain ⟨rfl, rfl⟩ := Rs.ok_inj h
      exact ⟨Nat.le_refl _, hs⟩
theorem sim_chain (hm : MayP T) (W : Two T U a b e d) {r r' : Mth → Ps → Rs Tr} {l : Int} (P : ProgN T (r .assign)) (F : SimF T a b e d l (r .assign) (r' .assign)) (p p' : Int) (c : Bool) : ∀ (n n' : Nat) (x x' : Tr) (s u : Ps) (t : Tr) (s1 : Ps), x.np = x'.np → SimS a b d l s u → s.next < T.length →
    chainL T r p c n x s = .ok t s1 → s1.next ≤ a + e → (s1.next < a + e ∨ EN (saidT (tkAt U (b + e)))) → a + e < n' + s.next → ∃ t' u1, chainL U r' p' c n' x' u = .ok t' u1 ∧ t.np = t'.np ∧ SimS a b d l s1 u1
  | 0, _, _, _, _, _, _, _, _, _, _, h, _, _, _ => by unfold chainL at h; cases h
  | n + 1, n', x, x', s, u, t, s1, hx, R, hs, h, hle, hy, hf => by
    have pr := prog_chainN hm P p c _ _ _ _ _ hs h
    have on1 : s.on.next = s.next + 1 := rfl
    obtain ⟨m, rfl⟩ : ∃ m, n' = m + 1 := ⟨n' - 1, by omega⟩
    unfold chainL at h
    by_cases q : (sd T s == (⟨#[46]⟩ : ByteArray)) = true
    · rw [if_pos q] at h
      have l1 : s.on.next < T.length := tok_end hm hs (kind_of_sd hm hs q (by decide))
      obtain ⟨y, s2, h1, h⟩ := Rs.bind_inv h
      obtain ⟨k1, k2, rfl⟩ := word_inv h1
      have on2 : s.on.on.next = s.next + 2 := rfl
      have l2 : s.on.on.next < T.length := tok_end hm l1 k1
      obtain ⟨z, s3, h2, h⟩ := Rs.bind_inv h
      obtain ⟨rfl, e1, e2⟩ := mk_inv h2
      have p3 := prog_chainN hm P p c n _ _ _ _ (by omega) h
      have g1 := sim_word W R.on (by omega) h1
      obtain ⟨t', u4, j1, j2, j3⟩ := sim_chain hm W P F p p' c n m _ (.mk 34 p' y 0 [x']) s3 { u.on.on with parts := w64 (u.on.on.parts + 1) } t s1 (np_mk rfl rfl (nps_cons hx rfl)) (R.on.on.to e1 e2 rfl rfl) (by omega) h hle hy (by omega)
      refine ⟨t', u4, ?_, j2, j3⟩
      conv => lhs; unfold chainL
      exact (if_pos (by rw [sim_sd W R (by omega)]; exact q)).trans ((Rs.bind_ok g1 _).trans j1)
    rw [if_neg q] at h
    by_cases q2 : (sd T s == (⟨#[91]⟩ : ByteArray)) = true
    · rw [if_pos q2] at h
      have l1 : s.on.next < T.length := tok_end hm hs (kind_of_sd hm hs q2 (by decide))
      obtain ⟨y, s2, h1, h⟩ := Rs.bind_inv h
      obtain ⟨p1, p2⟩ := P _ _ _ l1 h1
      obtain ⟨v, s3, h2, h⟩ := Rs.bind_inv h
      obtain ⟨q3, rfl⟩ := take1_inv h2
      have on2 : s2.on.next = s2.next + 1 := rfl
      have l2 : s2.on.next < T.length := tok_end hm p2 (kind_of_sd hm p2 q3 (by decide))
      obtain ⟨z, s4, h3, h⟩ := Rs.bind_inv h
      obtain ⟨rfl, e1, e2⟩ := mk_inv h3
      have p3 := prog_chainN hm P p c n _ _ _ _ (by omega) h
      obtain ⟨y', u2, g1, g2, g3⟩ := F s.on u.on y s2 R.on l1 h1 (by omega)
      obtain ⟨t', u4, j1, j2, j3⟩ := sim_chain hm W P F p p' c n m _ (.mk 35 p' ⟨#[]⟩ 0 [x', y']) s4 { u2.on with parts := w64 (u2.on.parts + 1) } t s1 (np_mk rfl rfl (nps_cons hx (nps_cons g2 rfl))) (g3.on.to e1 e2 rfl rfl) (by omega) h hle hy (by omega)
      refine ⟨t', u4, ?_, j2, j3⟩
      conv => lhs; unfold chainL
      exact (if_neg (by rw [sim_sd W R (by omega)]; exact q)).trans ((if_pos (by rw [sim_sd W R (by omega)]; exact q2)).trans ((Rs.bind_ok g1 _).trans ((Rs.bind_ok (sim_take W g3 (by omega) q3) _).trans j1)))
    rw [if_neg q2] at h
    by_cases q3 : (c && (sd T s == (⟨#[40]⟩ : ByteArray))) = true
    · rw [if_pos q3] at h
      obtain ⟨y, s2, h1, h⟩ := Rs.bind_inv h
      obtain ⟨p1, p2⟩ := args_progN hm P hs h1
      obtain ⟨z, s4, h3, h⟩ := Rs.bind_inv h
      obtain ⟨rfl, e1, e2⟩ := mk_inv h3
      have p3 := prog_chainN hm P p c n _ _ _ _ (by omega) h
      obtain ⟨y', u2, g1, g2, g3⟩ := sim_args hm W P F hx R hs h1 (by omega)
      obtain ⟨t', u4, j1, j2, j3⟩ := sim_chain hm W P F p p' c n m _ (.mk 36 p' ⟨#[]⟩ 0 y') s4 { u2 with parts := w64 (u2.parts + 1) } t s1 (np_mk rfl rfl g2) (g3.to e1 e2 rfl rfl) (by omega) h hle hy (by omega)
      refine ⟨t', u4, ?_, j2, j3⟩
      conv => lhs; unfold chainL
      exact (if_neg (by rw [sim_sd W R (by omega)]; exact q)).trans ((if_neg (by rw [sim_sd W R (by omega)]; exact q2)).trans ((if_pos (by rw [sim_sd W R (by omega)]; exact q3)).trans ((Rs.bind_ok g1 _).trans j1)))
    · rw [if_neg q3] at h
      obtain ⟨rfl, rfl⟩ := Rs.ok_inj h
      refine ⟨x', u, ?_, hx, R⟩
      unfold chainL
      by_cases hlt : s1.next < a + e
      · exact (if_neg (by rw [sim_sd W R hlt]; exact q)).trans ((if_neg (by rw [sim_sd W R hlt]; exact q2)).trans (if_neg (by rw [sim_sd W R hlt]; exact q3)))
      · rcases hy with hy | hy
        · omega
        · have hz := sim_end (U := U) (e := e) R (by omega)
          exact (if_neg (by rw [hz, hy.2.1]; decide)).trans ((if_neg (by rw [hz, hy.2.2.1]; decide)).trans (if_neg (by rw [hz, hy.2.2.2.1, Bool.and_false]; decide)))
theorem prog_declN (hm : MayP T) {s s1 : Ps} {t : Tr} (hs : s.next < T.length) (h : declR T s = .ok t s1) : s.next < s1.next ∧ s1.next < T.length := by
  have on1 : s.on.next = s.next + 1 := rfl
  have on2 : s.on.on.next = s.next + 2 := rfl
  unfold declR at h
  by_cases q : (sd T s == (⟨#[99, 111, 110, 115, 116]⟩ : ByteArray)) = true
  · rw [if_pos q] at h
    obtain ⟨w1, z1, k1, h⟩ := Rs.bind_inv h
    obtain ⟨q1, rfl, rfl⟩ := name_inv k1
    obtain ⟨_, e1, e2⟩ := mk_inv h
    have := tok_end hm (tok_end hm hs (kind_of_sd hm hs q (by decide))) (s := s.on) (by omega)
    omega
  · rw [if_neg q] at h
    obtain ⟨w0, z0, k0, h⟩ := Rs.bind_inv h
    obtain ⟨q0, rfl⟩ := take1_inv k0
    obtain ⟨w1, z1, k1, h⟩ := Rs.bind_inv h
    obtain ⟨q1, rfl, rfl⟩ := name_inv k1
    obtain ⟨_, e1, e2⟩ := mk_inv h
    have := tok_end hm (tok_end hm hs (kind_of_sd hm hs q0 (by decide))) (s := s.on) (by omega)
    omega
theorem sim_decl (hm : MayP T) (W : Two T U a b e d) {l : Int} {s u s1 : Ps} {t : Tr} (R : SimS a b d l s u) (hs : s.next < T.length) (h : declR T s = .ok t s1) (hle : s1.next ≤ a + e) : ∃ t' u1, declR U u = .ok t' u1 ∧ t.np = t'.np ∧ SimS a b d l s1 u1 := by
  have pr := prog_declN hm hs h
  have on1 : s.on.next = s.next + 1 := rfl
  have on2 : s.on.on.next = s.next + 2 := rfl
  unfold declR at h ⊢
  by_cases q : (sd T s == (⟨#[99, 111, 110, 115, 116]⟩ : ByteArray)) = true
  · rw [if_pos q] at h
    obtain ⟨w1, z1, k1, h⟩ := Rs.bind_inv h
    obtain ⟨q1, rfl, rfl⟩ := name_inv k1
    obtain ⟨rfl, e1, e2⟩ := mk_inv h
    exact ⟨.mk 4 (here U u) (tok T s.on).text 0 [], { u.on.on with parts := w64 (u.on.on.parts + 1) }, (if_pos (by rw [sim_sd W R (by omega)]; exact q)).trans (Rs.bind_ok (sim_name W R.on (by omega) q1) _), np_mk rfl rfl rfl, R.on.on.to e1 e2 rfl rfl⟩
  · rw [if_neg q] at h
    obtain ⟨w0, z0, k0, h⟩ := Rs.bind_inv h
    obtain ⟨q0, rfl⟩ := take1_inv k0
    obtain ⟨w1, z1, k1, h⟩ := Rs.bind_inv h
    obtain ⟨q1, rfl, rfl⟩ := name_inv k1
    obtain ⟨rfl, e1, e2⟩ := mk_inv h
    exact ⟨.mk 3 (here U u) (tok T s.on).text 0 [], { u.on.on with parts := w64 (u.on.on.parts + 1) }, (if_neg (by rw [sim_sd W R (by omega)]; exact q)).trans ((Rs.bind_ok (sim_take W R (by omega) q0) _).trans (Rs.bind_ok (sim_name W R.on (by omega) q1) _)), np_mk rfl rfl rfl, R.on.on.to e1 e2 rfl rfl⟩
theorem sx_statement (_hm : MayP T) (_W : Two T U a b e d) {r r' : Mth → Ps → Rs Tr} (_P : ProgA T r) (ih : AllSim T U a b e d r r') {l : Int} {s u s1 : Ps} {t : Tr} (h0 : 0 ≤ l) (hd : 0 ≤ d) (hl : l + d ≤ 200) (R : SimS a b d l s u) (hs : s.next < T.length)
    (h : step T r .statement s = .ok t s1) (hle : s1.next ≤ a + e) (hy : s1.next < a + e ∨ (exprM .statement = true → EN (saidT (tkAt U (b + e))))) : ∃ t' u1, step U r' .statement u = .ok t' u1 ∧ t.np = t'.np ∧ SimS a b d l s1 u1 := by
  dsimp only [step] at h ⊢
  exact sim_deeper R h0 hd hl h fun s3 u3 s2 e3 R3 k0 kl h3 e2 => ih .stated .stated (l + 1) _ _ _ _ (.refl _) k0 hd kl R3 trivial (by omega) h3 (by omega) (by rw [e2]; exact hy.imp_right fun k h => Bool.noConfusion (show false = true from h))
theorem sx_body (_hm : MayP T) (_W : Two T U a b e d) {r r' : Mth → Ps → Rs Tr} (_P : ProgA T r) (ih : AllSim T U a b e d r r') {l : Int} {s u s1 : Ps} {t : Tr} (h0 : 0 ≤ l) (hd : 0 ≤ d) (hl : l + d ≤ 200) (R : SimS a b d l s u) (hs : s.next < T.length)
    (h : step T r .body s = .ok t s1) (hle : s1.next ≤ a + e) (hy : s1.next < a + e ∨ (exprM .body = true → EN (saidT (tkAt U (b + e))))) : ∃ t' u1, step U r' .body u = .ok t' u1 ∧ t.np = t'.np ∧ SimS a b d l s1 u1 := by
  dsimp only [step] at h ⊢
  exact sim_deeper R h0 hd hl h fun s3 u3 s2 e3 R3 k0 kl h3 e2 => ih .bodyIn .bodyIn (l + 1) _ _ _ _ (.refl _) k0 hd kl R3 trivial (by omega) h3 (by omega) (by rw [e2]; exact hy.imp_right fun k h => Bool.noConfusion (show false = true from h))
theorem sx_assign (_hm : MayP T) (_W : Two T U a b e d) {r r' : Mth → Ps → Rs Tr} (_P : ProgA T r) (ih : AllSim T U a b e d r r') {l : Int} {s u s1 : Ps} {t : Tr} (h0 : 0 ≤ l) (hd : 0 ≤ d) (hl : l + d ≤ 200) (R : SimS a b d l s u) (hs : s.next < T.length)
    (h : step T r .assign s = .ok t s1) (hle : s1.next ≤ a + e) (hy : s1.next < a + e ∨ (exprM .assign = true → EN (saidT (tkAt U (b + e))))) : ∃ t' u1, step U r' .assign u = .ok t' u1 ∧ t.np = t'.np ∧ SimS a b d l s1 u1 := by
  dsimp only [step] at h ⊢
  exact sim_deeper R h0 hd hl h fun s3 u3 s2 e3 R3 k0 kl h3 e2 => ih .assigned .assigned (l + 1) _ _ _ _ (.refl _) k0 hd kl R3 trivial (by omega) h3 (by omega) (by rw [e2]; exact hy.imp_right fun k _ => k rfl)
theorem sx_bodyIn (_hm : MayP T) (W : Two T U a b e d) {r r' : Mth → Ps → Rs Tr} (P : ProgA T r) (ih : AllSim T U a b e d r r') {l : Int} {s u s1 : Ps} {t : Tr} (h0 : 0 ≤ l) (hd : 0 ≤ d) (hl : l + d ≤ 200) (R : SimS a b d l s u) (hs : s.next < T.length)
    (h : step T r .bodyIn s = .ok t s1) (hle : s1.next ≤ a + e) (hy : s1.next < a + e ∨ (exprM .bodyIn = true → EN (saidT (tkAt U (b + e))))) : ∃ t' u1, step U r' .bodyIn u = .ok t' u1 ∧ t.np = t'.np ∧ SimS a b d l s1 u1 := by
  dsimp only [step] at h ⊢
  by_cases q : (sd T s == (⟨#[108, 101, 116]⟩ : ByteArray) || sd T s == (⟨#[99, 111, 110, 115, 116]⟩ : ByteArray) || sd T s == (⟨#[102, 117, 110, 99, 116, 105, 111, 110]⟩ : ByteArray)) = true
  · rw [if_pos q] at h; cases h
  · rw [if_neg q] at h
    have p := P .stated _ _ _ trivial hs h
    obtain ⟨y, v, g, L, R1⟩ := ih .stated .stated l _ _ _ _ (.refl _) h0 hd hl R trivial hs h (by omega) (hy.imp_right fun k h => Bool.noConfusion (show false = true from h))
    exact ⟨y, v, (if_neg (by rw [sim_sd W R (by omega)]; exact q)).trans g, L, R1⟩
theorem sx_ended (hm : MayP T) (W : Two T U a b e d) {r r' : Mth → Ps → Rs Tr} (P : ProgA T r) (ih : AllSim T U a b e d r r') {l : Int} {s u s1 : Ps} {t : Tr} (h0 : 0 ≤ l) (hd : 0 ≤ d) (hl : l + d ≤ 200) (R : SimS a b d l s u) (hs : s.next < T.length)
    (h : step T r .ended s = .ok t s1) (hle : s1.next ≤ a + e) (_hy : s1.next < a + e ∨ (exprM .ended = true → EN (saidT (tkAt U (b + e))))) : ∃ t' u1, step U r' .ended u = .ok t' u1 ∧ t.np = t'.np ∧ SimS a b d l s1 u1 := by
  dsimp only [step] at h ⊢
  obtain ⟨x11, s11, h1, h⟩ := Rs.bind_inv h
  have p1 := P (.assign) _ _ _ trivial hs h1
  obtain ⟨w2, z2, k2, h⟩ := Rs.bind_inv h
  obtain ⟨q2, rfl⟩ := take1_inv k2
  have l2 : s11.on.next < T.length := tok_end hm p1.2 (kind_of_sd hm p1.2 q2 (by decide))
  have n2 : s11.on.next = s11.next + 1 := rfl
  obtain ⟨et, es⟩ := Rs.ok_inj h
  have en : s1.next = s11.on.next := by rw [es]
  obtain ⟨y1, u11, g1, L1, R1⟩ := ih (.assign) (.assign) l _ _ _ _ (.refl _) h0 hd hl R trivial hs h1 (by omega) (by first | exact Or.inl (by omega) | exact Or.inr (fun h => Bool.noConfusion (show false = true from h)))
  exact ⟨y1, u11.on, (Rs.bind_ok g1 _).trans ((Rs.bind_ok (sim_take W R1 (by omega) q2) _).trans (rfl)), by rw [et]; exact L1, by rw [es]; exact R1.on⟩
theorem sx_test (hm : MayP T) (W : Two T U a b e d) {r r' : Mth → Ps → Rs Tr} (P : ProgA T r) (ih : AllSim T U a b e d r r') {l : Int} {s u s1 : Ps} {t : Tr} (h0 : 0 ≤ l) (hd : 0 ≤ d) (hl : l + d ≤ 200) (R : SimS a b d l s u) (hs : s.next < T.length)
    (h : step T r .test s = .ok t s1) (hle : s1.next ≤ a + e) (_hy : s1.next < a + e ∨ (exprM .test = true → EN (saidT (tkAt U (b + e))))) : ∃ t' u1, step U r' .test u = .ok t' u1 ∧ t.np = t'.np ∧ SimS a b d l s1 u1 := by
  dsimp only [step] at h ⊢
  obtain ⟨w1, z1, k1, h⟩ := Rs.bind_inv h
  obtain ⟨q1, rfl⟩ := take1_inv k1
  have l1 : s.on.next < T.length := tok_end hm hs (kind_of_sd hm hs q1 (by decide))
  have n1 : s.on.next = s.next + 1 := rfl
  obtain ⟨x12, s12, h2, h⟩ := Rs.bind_inv h
  have p2 := P (.assign) _ _ _ trivial l1 h2
  obtain ⟨w3, z3, k3, h⟩ := Rs.bind_inv h
  obtain ⟨q3, rfl⟩ := take1_inv k3
  have l3 : s12.on.next < T.length := tok_end hm p2.2 (kind_of_sd hm p2.2 q3 (by decide))
  have n3 : s12.on.next = s12.next + 1 := rfl
  obtain ⟨et, es⟩ := Rs.ok_inj h
  have en : s1.next = s12.on.next := by rw [es]
  obtain ⟨y2, u12, g2, L2, R2⟩ := ih (.assign) (.assign) l _ _ _ _ (.refl _) h0 hd hl R.on trivial l1 h2 (by omega) (by first | exact Or.inl (by omega) | exact Or.inr (fun h => Bool.noConfusion (show false = true from h)))
  exact ⟨y2, u12.on, (Rs.bind_ok (sim_take W R (by omega) q1) _).trans ((Rs.bind_ok g2 _).trans ((Rs.bind_ok (sim_take W R2 (by omega) q3) _).trans (rfl))), by rw [et]; exact L2, by rw [es]; exact R2.on⟩
theorem sx_block (hm : MayP T) (W : Two T U a b e d) {r r' : Mth → Ps → Rs Tr} (P : ProgA T r) (ih : AllSim T U a b e d r r') {l : Int} {s u s1 : Ps} {t : Tr} (h0 : 0 ≤ l) (hd : 0 ≤ d) (hl : l + d ≤ 200) (R : SimS a b d l s u) (hs : s.next < T.length)
    (h : step T r .block s = .ok t s1) (hle : s1.next ≤ a + e) (_hy : s1.next < a + e ∨ (exprM .block = true → EN (saidT (tkAt U (b + e))))) : ∃ t' u1, step U r' .block u = .ok t' u1 ∧ t.np = t'.np ∧ SimS a b d l s1 u1 := by
  dsimp only [step] at h ⊢
  obtain ⟨w1, z1, k1, h⟩ := Rs.bind_inv h
  obtain ⟨q1, rfl⟩ := take1_inv k1
  have l1 : s.on.next < T.length := tok_end hm hs (kind_of_sd hm hs q1 (by decide))
  have n1 : s.on.next = s.next + 1 := rfl
  obtain ⟨x12, s12, h2, h⟩ := Rs.bind_inv h
  have p2 := prog_blockN hm (fun _ _ _ hs h => P .statement _ _ _ trivial hs h) _ _ _ _ _ l1 h2
  obtain ⟨rfl, e1, e2⟩ := mk_inv h
  have hlen := W.len
  obtain ⟨i, i1, i2⟩ := R.nx
  obtain ⟨y2, u12, g2, L2, R2⟩ := sim_block hm W (fun _ _ _ hs h => P .statement _ _ _ trivial hs h) (fun _ _ _ _ R hs h hlt => ih .statement .statement l _ _ _ _ (.refl _) h0 hd hl R trivial hs h (by omega) (Or.inl hlt)) _ (U.length + 1) _ [] _ _ _ _ rfl R.on l1 h2 (by omega) (by omega)
  exact ⟨.mk 2 (here U u) ⟨#[]⟩ 0 y2, { u12 with parts := w64 (u12.parts + 1) }, (Rs.bind_ok (sim_take W R (by omega) q1) _).trans ((Rs.bind_ok g2 _).trans (rfl)), np_mk rfl rfl L2, R2.to e1 e2 rfl rfl⟩
theorem bare_inv {k : Nat} {c : ByteArray} {s s1 : Ps} {t : Tr} (h : bareR T k [c] s = .ok t s1) : (sd T s == c) = true ∧ t = .mk k (here T s) ⟨#[]⟩ 0 [] ∧ s1.next = s.next + 1 ∧ s1.level = s.level := by
  unfold bareR takes takes at h
  obtain ⟨w1, z1, k1, h⟩ := Rs.bind_inv h
  obtain ⟨w2, z2, k2, k3⟩ := Rs.bind_inv k1
  obtain ⟨q1, rfl⟩ := take1_inv k2
  obtain ⟨_, rfl⟩ := Rs.ok_inj k3
  obtain ⟨h1, h2, h3⟩ := mk_inv h
  exact ⟨q1, h1, h2, h3⟩
theorem bare2_inv {k : Nat} {c f : ByteArray} {s s1 : Ps} {t : Tr} (h : bareR T k [c, f] s = .ok t s1) : (sd T s == c) = true ∧ (sd T s.on == f) = true ∧ t = .mk k (here T s) ⟨#[]⟩ 0 [] ∧ s1.next = s.next + 2 ∧ s1.level = s.level := by
  unfold bareR takes takes takes at h
  obtain ⟨w1, z1, k1, h⟩ := Rs.bind_inv h
  obtain ⟨w2, z2, k2, k3⟩ := Rs.bind_inv k1
  obtain ⟨q1, rfl⟩ := take1_inv k2
  obtain ⟨w4, z4, k4, k5⟩ := Rs.bind_inv k3
  obtain ⟨q2, rfl⟩ := take1_inv k4
  obtain ⟨_, rfl⟩ := Rs.ok_inj k5
  obtain ⟨h1, h2, h3⟩ := mk_inv h
  exact ⟨q1, q2, h1, h2, h3⟩
theorem sim_bare (W : Two T U a b e d) {l : Int} {k : Nat} {c : ByteArray} {s u s1 : Ps} {t : Tr} (R : SimS a b d l s u) (h : bareR T k [c] s = .ok t s1) (hle : s1.next ≤ a + e) : ∃ t' u1, bareR U k [c] u = .ok t' u1 ∧ t.np = t'.np ∧ SimS a b d l s1 u1 := by
  obtain ⟨q, rfl, e1, e2⟩ := bare_inv h
  refine ⟨.mk k (here U u) ⟨#[]⟩ 0 [], { u.on with parts := w64 (u.on.parts + 1) }, ?_, np_mk rfl rfl rfl, R.on.to e1 e2 rfl rfl⟩
  unfold bareR takes takes
  rw [sim_take W R (by omega) q]
  rfl
theorem sim_bare2 (W : Two T U a b e d) {l : Int} {k : Nat} {c f : ByteArray} {s u s1 : Ps} {t : Tr} (R : SimS a b d l s u) (h : bareR T k [c, f] s = .ok t s1) (hle : s1.next ≤ a + e) : ∃ t' u1, bareR U k [c, f] u = .ok t' u1 ∧ t.np = t'.np ∧ SimS a b d l s1 u1 := by
  obtain ⟨q, q2, rfl, e1, e2⟩ := bare2_inv h
  have on1 : s.on.next = s.next + 1 := rfl
  refine ⟨.mk k (here U u) ⟨#[]⟩ 0 [], { u.on.on with parts := w64 (u.on.on.parts + 1) }, ?_, np_mk rfl rfl rfl, R.on.on.to e1 e2 rfl rfl⟩
  unfold bareR takes takes takes
  rw [sim_take W R (by omega) q]
  show (Rs.bind (take1 U f u.on) _).bind _ = _
  rw [sim_take W R.on (by omega) q2]
  rfl
set_option maxHeartbeats 1000000 in
theorem sx_stated (hm : MayP T) (W : Two T U a b e d) {r r' : Mth → Ps → Rs Tr} (P : ProgA T r) (ih : AllSim T U a b e d r r') {l : Int} {s u s1 : Ps} {t : Tr} (h0 : 0 ≤ l) (hd : 0 ≤ d) (hl : l + d ≤ 200) (R : SimS a b d l s u) (hs : s.next < T.length)
    (h : step T r .stated s = .ok t s1) (hle : s1.next ≤ a + e) (_hy : s1.next < a + e ∨ (exprM .stated = true → EN (saidT (tkAt U (b + e))))) : ∃ t' u1, step U r' .stated u = .ok t' u1 ∧ t.np = t'.np ∧ SimS a b d l s1 u1 := by
  dsimp only [step] at h ⊢
  by_cases q1 : ((sd T s) == (⟨#[123]⟩ : ByteArray)) = true
  · rw [if_pos q1] at h
    have p2 := P (.block) _ _ _ trivial hs h
    obtain ⟨y2, u12, g2, L2, R2⟩ := ih (.block) (.block) l _ _ _ _ (.refl _) h0 hd hl R trivial hs h (by omega) (by first | exact Or.inl (by omega) | exact Or.inr (fun h => Bool.noConfusion (show false = true from h)))
    exact ⟨y2, u12, (if_pos (by rw [sim_sd W R (by omega)]; exact q1)).trans (g2), L2, R2⟩
  · rw [if_neg q1] at h
    by_cases q2 : ((sd T s) == (⟨#[59]⟩ : ByteArray)) = true
    · rw [if_pos q2] at h
      have en := (bare_inv h).2.2.1
      obtain ⟨y, v, g, L, Z⟩ := sim_bare W R h hle
      exact ⟨y, v, (if_neg (by rw [sim_sd W R (by omega)]; exact q1)).trans ((if_pos (by rw [sim_sd W R (by omega)]; exact q2)).trans (g)), L, Z⟩
    · rw [if_neg q2] at h
      by_cases q3 : ((sd T s) == (⟨#[108, 101, 116]⟩ : ByteArray) || (sd T s) == (⟨#[99, 111, 110, 115, 116]⟩ : ByteArray)) = true
      · rw [if_pos q3] at h
        have p4 := P (.declaration) _ _ _ trivial hs h
        obtain ⟨y4, u14, g4, L4, R4⟩ := ih (.declaration) (.declaration) l _ _ _ _ (.refl _) h0 hd hl R trivial hs h (by omega) (by first | exact Or.inl (by omega) | exact Or.inr (fun h => Bool.noConfusion (show false = true from h)))
        exact ⟨y4, u14, (if_neg (by rw [sim_sd W R (by omega)]; exact q1)).trans ((if_neg (by rw [sim_sd W R (by omega)]; exact q2)).trans ((if_pos (by rw [sim_sd W R (by omega)]; exact q3)).trans (g4))), L4, R4⟩
      · rw [if_neg q3] at h
        by_cases q4 : ((sd T s) == (⟨#[102, 117, 110, 99, 116, 105, 111, 110]⟩ : ByteArray)) = true
        · rw [if_pos q4] at h
          obtain ⟨w5, z5, k5, h⟩ := Rs.bind_inv h
          obtain ⟨q5, rfl⟩ := take1_inv k5
          have l5 : s.on.next < T.length := tok_end hm hs (kind_of_sd hm hs q5 (by decide))
          have n5 : s.on.next = s.next + 1 := rfl
          obtain ⟨w6, z6, k6, h⟩ := Rs.bind_inv h
          obtain ⟨q6, rfl, rfl⟩ := name_inv k6
          have l6 : s.on.on.next < T.length := tok_end hm l5 (by omega)
          have n6 : s.on.on.next = s.on.next + 1 := rfl
          have p7 := P (.function 5 (here T s) (tok T s.on).text) _ _ _ trivial l6 h
          obtain ⟨y7, u17, g7, L7, R7⟩ := ih (.function 5 (here T s) (tok T s.on).text) (.function 5 (here U u) (tok T s.on).text) l _ _ _ _ (.fn _ _ _ _) h0 hd hl R.on.on trivial l6 h (by omega) (by first | exact Or.inl (by omega) | exact Or.inr (fun h => Bool.noConfusion (show false = true from h)))
          exact ⟨y7, u17, (if_neg (by rw [sim_sd W R (by omega)]; exact q1)).trans ((if_neg (by rw [sim_sd W R (by omega)]; exact q2)).trans ((if_neg (by rw [sim_sd W R (by omega)]; exact q3)).trans ((if_pos (by rw [sim_sd W R (by omega)]; exact q4)).trans ((Rs.bind_ok (sim_take W R (by omega) q5) _).trans ((Rs.bind_ok (sim_name W R.on (by omega) q6) _).trans (g7)))))), L7, R7⟩
        · rw [if_neg q4] at h
          by_cases q5 : ((sd T s) == (⟨#[105, 102]⟩ : ByteArray)) = true
          · rw [if_pos q5] at h
            have p6 := P (.branch) _ _ _ trivial hs h
            obtain ⟨y6, u16, g6, L6, R6⟩ := ih (.branch) (.branch) l _ _ _ _ (.refl _) h0 hd hl R trivial hs h (by omega) (by first | exact Or.inl (by omega) | exact Or.inr (fun h => Bool.noConfusion (show false = true from h)))
            exact ⟨y6, u16, (if_neg (by rw [sim_sd W R (by omega)]; exact q1)).trans ((if_neg (by rw [sim_sd W R (by omega)]; exact q2)).trans ((if_neg (by rw [sim_sd W R (by omega)]; exact q3)).trans ((if_neg (by rw [sim_sd W R (by omega)]; exact q4)).trans ((if_pos (by rw [sim_sd W R (by omega)]; exact q5)).trans (g6))))), L6, R6⟩
          · rw [if_neg q5] at h
            by_cases q6 : ((sd T s) == (⟨#[119, 104, 105, 108, 101]⟩ : ByteArray)) = true
            · rw [if_pos q6] at h
              obtain ⟨w7, z7, k7, h⟩ := Rs.bind_inv h
              obtain ⟨q7, rfl⟩ := take1_inv k7
              have l7 : s.on.next < T.length := tok_end hm hs (kind_of_sd hm hs q7 (by decide))
              have n7 : s.on.next = s.next + 1 := rfl
              obtain ⟨x18, s18, h8, h⟩ := Rs.bind_inv h
              have p8 := P (.test) _ _ _ trivial l7 h8
              obtain ⟨x19, s19, h9, h⟩ := Rs.bind_inv h
              have p9 := P (.body) _ _ _ trivial p8.2 h9
              obtain ⟨rfl, e1, e2⟩ := mk_inv h
              obtain ⟨y8, u18, g8, L8, R8⟩ := ih (.test) (.test) l _ _ _ _ (.refl _) h0 hd hl R.on trivial l7 h8 (by omega) (by first | exact Or.inl (by omega) | exact Or.inr (fun h => Bool.noConfusion (show false = true from h)))
              obtain ⟨y9, u19, g9, L9, R9⟩ := ih (.body) (.body) l _ _ _ _ (.refl _) h0 hd hl R8 trivial p8.2 h9 (by omega) (by first | exact Or.inl (by omega) | exact Or.inr (fun h => Bool.noConfusion (show false = true from h)))
              exact ⟨.mk 8 (here U u) ⟨#[]⟩ 0 [y8, y9], { u19 with parts := w64 (u19.parts + 1) }, (if_neg (by rw [sim_sd W R (by omega)]; exact q1)).trans ((if_neg (by rw [sim_sd W R (by omega)]; exact q2)).trans ((if_neg (by rw [sim_sd W R (by omega)]; exact q3)).trans ((if_neg (by rw [sim_sd W R (by omega)]; exact q4)).trans ((if_neg (by rw [sim_sd W R (by omega)]; exact q5)).trans ((if_pos (by rw [sim_sd W R (by omega)]; exact q6)).trans ((Rs.bind_ok (sim_take W R (by omega) q7) _).trans ((Rs.bind_ok g8 _).trans ((Rs.bind_ok g9 _).trans (rfl))))))))), np_mk rfl rfl (nps_cons L8 (nps_cons L9 rfl)), R9.to e1 e2 rfl rfl⟩
            · rw [if_neg q6] at h
              by_cases q7 : ((sd T s) == (⟨#[102, 111, 114]⟩ : ByteArray)) = true
              · rw [if_pos q7] at h
                have p8 := P (.loop) _ _ _ trivial hs h
                obtain ⟨y8, u18, g8, L8, R8⟩ := ih (.loop) (.loop) l _ _ _ _ (.refl _) h0 hd hl R trivial hs h (by omega) (by first | exact Or.inl (by omega) | exact Or.inr (fun h => Bool.noConfusion (show false = true from h)))
                exact ⟨y8, u18, (if_neg (by rw [sim_sd W R (by omega)]; exact q1)).trans ((if_neg (by rw [sim_sd W R (by omega)]; exact q2)).trans ((if_neg (by rw [sim_sd W R (by omega)]; exact q3)).trans ((if_neg (by rw [sim_sd W R (by omega)]; exact q4)).trans ((if_neg (by rw [sim_sd W R (by omega)]; exact q5)).trans ((if_neg (by rw [sim_sd W R (by omega)]; exact q6)).trans ((if_pos (by rw [sim_sd W R (by omega)]; exact q7)).trans (g8))))))), L8, R8⟩
              · rw [if_neg q7] at h
                by_cases q8 : ((sd T s) == (⟨#[114, 101, 116, 117, 114, 110]⟩ : ByteArray)) = true
                · rw [if_pos q8] at h
                  have p9 := P (.answer) _ _ _ trivial hs h
                  obtain ⟨y9, u19, g9, L9, R9⟩ := ih (.answer) (.answer) l _ _ _ _ (.refl _) h0 hd hl R trivial hs h (by omega) (by first | exact Or.inl (by omega) | exact Or.inr (fun h => Bool.noConfusion (show false = true from h)))
                  exact ⟨y9, u19, (if_neg (by rw [sim_sd W R (by omega)]; exact q1)).trans ((if_neg (by rw [sim_sd W R (by omega)]; exact q2)).trans ((if_neg (by rw [sim_sd W R (by omega)]; exact q3)).trans ((if_neg (by rw [sim_sd W R (by omega)]; exact q4)).trans ((if_neg (by rw [sim_sd W R (by omega)]; exact q5)).trans ((if_neg (by rw [sim_sd W R (by omega)]; exact q6)).trans ((if_neg (by rw [sim_sd W R (by omega)]; exact q7)).trans ((if_pos (by rw [sim_sd W R (by omega)]; exact q8)).trans (g9)))))))), L9, R9⟩
                · rw [if_neg q8] at h
                  by_cases q9 : ((sd T s) == (⟨#[116, 104, 114, 111, 119]⟩ : ByteArray)) = true
                  · rw [if_pos q9] at h
                    obtain ⟨w10, z10, k10, h⟩ := Rs.bind_inv h
                    obtain ⟨q10, rfl⟩ := take1_inv k10
                    have l10 : s.on.next < T.length := tok_end hm hs (kind_of_sd hm hs q10 (by decide))
                    have n10 : s.on.next = s.next + 1 := rfl
                    obtain ⟨x21, s21, h11, h⟩ := Rs.bind_inv h
                    have p11 := P (.ended) _ _ _ trivial l10 h11
                    obtain ⟨rfl, e1, e2⟩ := mk_inv h
                    obtain ⟨y11, u21, g11, L11, R11⟩ := ih (.ended) (.ended) l _ _ _ _ (.refl _) h0 hd hl R.on trivial l10 h11 (by omega) (by first | exact Or.inl (by omega) | exact Or.inr (fun h => Bool.noConfusion (show false = true from h)))
                    exact ⟨.mk 12 (here U u) ⟨#[]⟩ 0 [y11], { u21 with parts := w64 (u21.parts + 1) }, (if_neg (by rw [sim_sd W R (by omega)]; exact q1)).trans ((if_neg (by rw [sim_sd W R (by omega)]; exact q2)).trans ((if_neg (by rw [sim_sd W R (by omega)]; exact q3)).trans ((if_neg (by rw [sim_sd W R (by omega)]; exact q4)).trans ((if_neg (by rw [sim_sd W R (by omega)]; exact q5)).trans ((if_neg (by rw [sim_sd W R (by omega)]; exact q6)).trans ((if_neg (by rw [sim_sd W R (by omega)]; exact q7)).trans ((if_neg (by rw [sim_sd W R (by omega)]; exact q8)).trans ((if_pos (by rw [sim_sd W R (by omega)]; exact q9)).trans ((Rs.bind_ok (sim_take W R (by omega) q10) _).trans ((Rs.bind_ok g11 _).trans (rfl))))))))))), np_mk rfl rfl (nps_cons L11 rfl), R11.to e1 e2 rfl rfl⟩
                  · rw [if_neg q9] at h
                    by_cases q10 : ((sd T s) == (⟨#[98, 114, 101, 97, 107]⟩ : ByteArray)) = true
                    · rw [if_pos q10] at h
                      have en := (bare2_inv h).2.2.2.1
                      obtain ⟨y, v, g, L, Z⟩ := sim_bare2 W R h hle
                      exact ⟨y, v, (if_neg (by rw [sim_sd W R (by omega)]; exact q1)).trans ((if_neg (by rw [sim_sd W R (by omega)]; exact q2)).trans ((if_neg (by rw [sim_sd W R (by omega)]; exact q3)).trans ((if_neg (by rw [sim_sd W R (by omega)]; exact q4)).trans ((if_neg (by rw [sim_sd W R (by omega)]; exact q5)).trans ((if_neg (by rw [sim_sd W R (by omega)]; exact q6)).trans ((if_neg (by rw [sim_sd W R (by omega)]; exact q7)).trans ((if_neg (by rw [sim_sd W R (by omega)]; exact q8)).trans ((if_neg (by rw [sim_sd W R (by omega)]; exact q9)).trans ((if_pos (by rw [sim_sd W R (by omega)]; exact q10)).trans (g)))))))))), L, Z⟩
                    · rw [if_neg q10] at h
                      by_cases q11 : ((sd T s) == (⟨#[99, 111, 110, 116, 105, 110, 117, 101]⟩ : ByteArray)) = true
                      · rw [if_pos q11] at h
                        have en := (bare2_inv h).2.2.2.1
                        obtain ⟨y, v, g, L, Z⟩ := sim_bare2 W R h hle
                        exact ⟨y, v, (if_neg (by rw [sim_sd W R (by omega)]; exact q1)).trans ((if_neg (by rw [sim_sd W R (by omega)]; exact q2)).trans ((if_neg (by rw [sim_sd W R (by omega)]; exact q3)).trans ((if_neg (by rw [sim_sd W R (by omega)]; exact q4)).trans ((if_neg (by rw [sim_sd W R (by omega)]; exact q5)).trans ((if_neg (by rw [sim_sd W R (by omega)]; exact q6)).trans ((if_neg (by rw [sim_sd W R (by omega)]; exact q7)).trans ((if_neg (by rw [sim_sd W R (by omega)]; exact q8)).trans ((if_neg (by rw [sim_sd W R (by omega)]; exact q9)).trans ((if_neg (by rw [sim_sd W R (by omega)]; exact q10)).trans ((if_pos (by rw [sim_sd W R (by omega)]; exact q11)).trans (g))))))))))), L, Z⟩
                      · rw [if_neg q11] at h
                        by_cases q12 : ((sd T s) == (⟨#[116, 114, 121]⟩ : ByteArray)) = true
                        · rw [if_pos q12] at h
                          have p13 := P (.guarded) _ _ _ trivial hs h
                          obtain ⟨y13, u23, g13, L13, R13⟩ := ih (.guarded) (.guarded) l _ _ _ _ (.refl _) h0 hd hl R trivial hs h (by omega) (by first | exact Or.inl (by omega) | exact Or.inr (fun h => Bool.noConfusion (show false = true from h)))
                          exact ⟨y13, u23, (if_neg (by rw [sim_sd W R (by omega)]; exact q1)).trans ((if_neg (by rw [sim_sd W R (by omega)]; exact q2)).trans ((if_neg (by rw [sim_sd W R (by omega)]; exact q3)).trans ((if_neg (by rw [sim_sd W R (by omega)]; exact q4)).trans ((if_neg (by rw [sim_sd W R (by omega)]; exact q5)).trans ((if_neg (by rw [sim_sd W R (by omega)]; exact q6)).trans ((if_neg (by rw [sim_sd W R (by omega)]; exact q7)).trans ((if_neg (by rw [sim_sd W R (by omega)]; exact q8)).trans ((if_neg (by rw [sim_sd W R (by omega)]; exact q9)).trans ((if_neg (by rw [sim_sd W R (by omega)]; exact q10)).trans ((if_neg (by rw [sim_sd W R (by omega)]; exact q11)).trans ((if_pos (by rw [sim_sd W R (by omega)]; exact q12)).trans (g13)))))))))))), L13, R13⟩
                        · rw [if_neg q12] at h
                          obtain ⟨x23, s23, h13, h⟩ := Rs.bind_inv h
                          have p13 := P (.ended) _ _ _ trivial hs h13
                          obtain ⟨rfl, e1, e2⟩ := mk_inv h
                          obtain ⟨y13, u23, g13, L13, R13⟩ := ih (.ended) (.ended) l _ _ _ _ (.refl _) h0 hd hl R trivial hs h13 (by omega) (by first | exact Or.inl (by omega) | exact Or.inr (fun h => Bool.noConfusion (show false = true from h)))
                          exact ⟨.mk 6 (here U u) ⟨#[]⟩ 0 [y13], { u23 with parts := w64 (u23.parts + 1) }, (if_neg (by rw [sim_sd W R (by omega)]; exact q1)).trans ((if_neg (by rw [sim_sd W R (by omega)]; exact q2)).trans ((if_neg (by rw [sim_sd W R (by omega)]; exact q3)).trans ((if_neg (by rw [sim_sd W R (by omega)]; exact q4)).trans ((if_neg (by rw [sim_sd W R (by omega)]; exact q5)).trans ((if_neg (by rw [sim_sd W R (by omega)]; exact q6)).trans ((if_neg (by rw [sim_sd W R (by omega)]; exact q7)).trans ((if_neg (by rw [sim_sd W R (by omega)]; exact q8)).trans ((if_neg (by rw [sim_sd W R (by omega)]; exact q9)).trans ((if_neg (by rw [sim_sd W R (by omega)]; exact q10)).trans ((if_neg (by rw [sim_sd W R (by omega)]; exact q11)).trans ((if_neg (by rw [sim_sd W R (by omega)]; exact q12)).trans ((Rs.bind_ok g13 _).trans (rfl))))))))))))), np_mk rfl rfl (nps_cons L13 rfl), R13.to e1 e2 rfl rfl⟩
theorem sx_declaration (hm : MayP T) (W : Two T U a b e d) {r r' : Mth → Ps → Rs Tr} (P : ProgA T r) (ih : AllSim T U a b e d r r') {l : Int} {s u s1 : Ps} {t : Tr} (h0 : 0 ≤ l) (hd : 0 ≤ d) (hl : l + d ≤ 200) (R : SimS a b d l s u) (hs : s.next < T.length)
    (h : step T r .declaration s = .ok t s1) (hle : s1.next ≤ a + e) (_hy : s1.next < a + e ∨ (exprM .declaration = true → EN (saidT (tkAt U (b + e))))) : ∃ t' u1, step U r' .declaration u = .ok t' u1 ∧ t.np = t'.np ∧ SimS a b d l s1 u1 := by
  dsimp only [step] at h ⊢
  obtain ⟨x, s2, h1, h⟩ := Rs.bind_inv h
  have p1 := prog_declN hm hs h1
  obtain ⟨k, p, n, m, z⟩ := x
  dsimp only at h
  by_cases q : k = 3 ∧ (sd T s2 == (⟨#[59]⟩ : ByteArray)) = true
  · rw [if_pos q] at h
    obtain ⟨rfl, rfl⟩ := Rs.ok_inj h
    have on2 : s2.on.next = s2.next + 1 := rfl
    obtain ⟨y, u2, g1, L1, R1⟩ := sim_decl hm W R hs h1 (by omega)
    obtain ⟨k', p', n', m', z'⟩ := y
    have hk : k = k' := np_kind L1
    subst hk
    exact ⟨_, u2.on, (Rs.bind_ok g1 _).trans (if_pos (by rw [sim_sd W R1 (by omega)]; exact q)), L1, R1.on⟩
  · rw [if_neg q] at h
    obtain ⟨w3, z3, k3, h⟩ := Rs.bind_inv h
    obtain ⟨q3, rfl⟩ := take1_inv k3
    have l3 : s2.on.next < T.length := tok_end hm p1.2 (kind_of_sd hm p1.2 q3 (by decide))
    have on2 : s2.on.next = s2.next + 1 := rfl
    obtain ⟨x4, s4, h4, h⟩ := Rs.bind_inv h
    have p4 := P .ended _ _ _ trivial l3 h4
    obtain ⟨rfl, rfl⟩ := Rs.ok_inj h
    obtain ⟨y, u2, g1, L1, R1⟩ := sim_decl hm W R hs h1 (by omega)
    obtain ⟨y4, u4, g4, L4, R4⟩ := ih .ended .ended l _ _ _ _ (.refl _) h0 hd hl R1.on trivial l3 h4 (by omega) (Or.inr fun h => Bool.noConfusion (show false = true from h))
    obtain ⟨k', p', n', m', z'⟩ := y
    have hk : k = k' := np_kind L1
    subst hk
    refine ⟨.mk k p' n' m' [y4], u4, (Rs.bind_ok g1 _).trans ((if_neg (by rw [sim_sd W R1 (by omega)]; exact q)).trans ((Rs.bind_ok (sim_take W R1 (by omega) q3) _).trans (Rs.bind_ok g4 _))), ?_, R4⟩
    simp only [Tr.np, Tr.mk.injEq] at L1
    exact np_mk L1.2.2.1 L1.2.2.2.1 (nps_cons L4 rfl)
theorem prog_paramN (hm : MayP T) : ProgN T (paramR T) := fun s t s1 hs h => by
  unfold paramR at h
  obtain ⟨w1, z1, k1, h⟩ := Rs.bind_inv h
  obtain ⟨q1, rfl, rfl⟩ := name_inv k1
  obtain ⟨_, e1, e2⟩ := mk_inv h
  have on1 : s.on.next = s.next + 1 := rfl
  have := tok_end hm hs (by omega)
  omega
theorem sim_param (W : Two T U a b e d) (l : Int) : SimF T a b e d l (paramR T) (paramR U) := fun s u t s1 R hs h hlt => by
  unfold paramR at h ⊢
  obtain ⟨w1, z1, k1, h⟩ := Rs.bind_inv h
  obtain ⟨q1, rfl, rfl⟩ := name_inv k1
  obtain ⟨rfl, e1, e2⟩ := mk_inv h
  have on1 : s.on.next = s.next + 1 := rfl
  exact ⟨.mk 26 (here U u) (tok T s).text 0 [], { u.on with parts := w64 (u.on.parts + 1) }, Rs.bind_ok (sim_name W R (by omega) q1) _, np_mk rfl rfl rfl, R.on.to e1 e2 rfl rfl⟩
theorem sx_function (hm : MayP T) (W : Two T U a b e d) {r r' : Mth → Ps → Rs Tr} (P : ProgA T r) (ih : AllSim T U a b e d r r') {l : Int} {s u s1 : Ps} {t : Tr} {k : Nat} {p p' : Int} {n : ByteArray} (h0 : 0 ≤ l) (hd : 0 ≤ d) (hl : l + d ≤ 200) (R : SimS a b d l s u) (hs : s.next < T.length)
    (h : step T r (.function k p n) s = .ok t s1) (hle : s1.next ≤ a + e) : ∃ t' u1, step U r' (.function k p' n) u = .ok t' u1 ∧ t.np = t'.np ∧ SimS a b d l s1 u1 := by
  dsimp only [step] at h ⊢
  obtain ⟨w1, z1, k1, h⟩ := Rs.bind_inv h
  obtain ⟨q1, rfl⟩ := take1_inv k1
  have l1 : s.on.next < T.length := tok_end hm hs (kind_of_sd hm hs q1 (by decide))
  have n1 : s.on.next = s.next + 1 := rfl
  obtain ⟨x12, s12, h2, h⟩ := Rs.bind_inv h
  have p2 := prog_listN hm (prog_paramN hm) (c := (⟨#[41]⟩ : ByteArray)) (by decide) 64 l1 h2
  obtain ⟨x13, s13, h3, h⟩ := Rs.bind_inv h
  have p3 := P (.block) _ _ _ trivial p2.2 h3
  obtain ⟨rfl, e1, e2⟩ := mk_inv h
  obtain ⟨y2, u12, g2, L2, R2⟩ := sim_list hm W (prog_paramN hm) (sim_param W l) (c := (⟨#[41]⟩ : ByteArray)) (by decide) 64 R.on l1 h2 (by omega)
  obtain ⟨y3, u13, g3, L3, R3⟩ := ih (.block) (.block) l _ _ _ _ (.refl _) h0 hd hl R2 trivial p2.2 h3 (by omega) (by first | exact Or.inl (by omega) | exact Or.inr (fun h => Bool.noConfusion (show false = true from h)) | exact Or.inr (fun h => Bool.noConfusion (show false = true from h)))
  exact ⟨.mk k p' n 0 (y2 ++ [y3]), { u13 with parts := w64 (u13.parts + 1) }, (Rs.bind_ok (sim_take W R (by omega) q1) _).trans ((Rs.bind_ok g2 _).trans ((Rs.bind_ok g3 _).trans (rfl))), np_mk rfl rfl (nps_snoc L2 L3), R3.to e1 e2 rfl rfl⟩
theorem sx_branch (hm : MayP T) (W : Two T U a b e d) {r r' : Mth → Ps → Rs Tr} (P : ProgA T r) (ih : AllSim T U a b e d r r') {l : Int} {s u s1 : Ps} {t : Tr} (h0 : 0 ≤ l) (hd : 0 ≤ d) (hl : l + d ≤ 200) (R : SimS a b d l s u) (hs : s.next < T.length)
    (h : step T r .branch s = .ok t s1) (hle : s1.next ≤ a + e) (_hy : s1.next < a + e ∨ (exprM .branch = true → EN (saidT (tkAt U (b + e))))) : ∃ t' u1, step U r' .branch u = .ok t' u1 ∧ t.np = t'.np ∧ SimS a b d l s1 u1 := by
  dsimp only [step] at h ⊢
  obtain ⟨w1, z1, k1, h⟩ := Rs.bind_inv h
  obtain ⟨q1, rfl⟩ := take1_inv k1
  have l1 : s.on.next < T.length := tok_end hm hs (kind_of_sd hm hs q1 (by decide))
  have n1 : s.on.next = s.next + 1 := rfl
  obtain ⟨x12, s12, h2, h⟩ := Rs.bind_inv h
  have p2 := P (.test) _ _ _ trivial l1 h2
  obtain ⟨x13, s13, h3, h⟩ := Rs.bind_inv h
  have p3 := P (.body) _ _ _ trivial p2.2 h3
  by_cases q4 : ((sd T s13) == (⟨#[101, 108, 115, 101]⟩ : ByteArray)) = true
  · rw [if_pos q4] at h
    have l5 : s13.on.next < T.length := tok_end hm p3.2 (kind_of_sd hm p3.2 q4 (by decide))
    have n5 : s13.on.next = s13.next + 1 := rfl
    obtain ⟨x16, s16, h6, h⟩ := Rs.bind_inv h
    have p6 := P (.body) _ _ _ trivial l5 h6
    obtain ⟨rfl, e1, e2⟩ := mk_inv h
    obtain ⟨y2, u12, g2, L2, R2⟩ := ih (.test) (.test) l _ _ _ _ (.refl _) h0 hd hl R.on trivial l1 h2 (by omega) (by first | exact Or.inl (by omega) | exact Or.inr (fun h => Bool.noConfusion (show false = true from h)))
    obtain ⟨y3, u13, g3, L3, R3⟩ := ih (.body) (.body) l _ _ _ _ (.refl _) h0 hd hl R2 trivial p2.2 h3 (by omega) (by first | exact Or.inl (by omega) | exact Or.inr (fun h => Bool.noConfusion (show false = true from h)))
    obtain ⟨y6, u16, g6, L6, R6⟩ := ih (.body) (.body) l _ _ _ _ (.refl _) h0 hd hl R3.on trivial l5 h6 (by omega) (by first | exact Or.inl (by omega) | exact Or.inr (fun h => Bool.noConfusion (show false = true from h)))
    exact ⟨.mk 7 (here U u) ⟨#[]⟩ 0 [y2, y3, y6], { u16 with parts := w64 (u16.parts + 1) }, (Rs.bind_ok (sim_take W R (by omega) q1) _).trans ((Rs.bind_ok g2 _).trans ((Rs.bind_ok g3 _).trans ((if_pos (by rw [sim_sd W R3 (by omega)]; exact q4)).trans ((Rs.bind_ok g6 _).trans (rfl))))), np_mk rfl rfl (nps_cons L2 (nps_cons L3 (nps_cons L6 rfl))), R6.to e1 e2 rfl rfl⟩
  · rw [if_neg q4] at h
    obtain ⟨rfl, e1, e2⟩ := mk_inv h
    obtain ⟨y2, u12, g2, L2, R2⟩ := ih (.test) (.test) l _ _ _ _ (.refl _) h0 hd hl R.on trivial l1 h2 (by omega) (by first | exact Or.inl (by omega) | exact Or.inr (fun h => Bool.noConfusion (show false = true from h)))
    obtain ⟨y3, u13, g3, L3, R3⟩ := ih (.body) (.body) l _ _ _ _ (.refl _) h0 hd hl R2 trivial p2.2 h3 (by omega) (by first | exact Or.inl (by omega) | exact Or.inr (fun h => Bool.noConfusion (show false = true from h)))
    exact ⟨.mk 7 (here U u) ⟨#[]⟩ 0 [y2, y3], { u13 with parts := w64 (u13.parts + 1) }, (Rs.bind_ok (sim_take W R (by omega) q1) _).trans ((Rs.bind_ok g2 _).trans ((Rs.bind_ok g3 _).trans ((if_neg (by by_cases hlt : s13.next < a + e; (rw [sim_sd W R3 hlt]; exact q4); (rw [sim_end (e := e) R3 (by omega), W.word.1]; decide))).trans (rfl)))), np_mk rfl rfl (nps_cons L2 (nps_cons L3 rfl)), R3.to e1 e2 rfl rfl⟩
theorem takes2_inv {c f : ByteArray} {s s1 : Ps} {w : Unit} (h : takes T [c, f] s = .ok w s1) : (sd T s == c) = true ∧ (sd T s.on == f) = true ∧ s1 = s.on.on := by
  unfold takes takes takes at h
  obtain ⟨w2, z2, k2, k3⟩ := Rs.bind_inv h
  obtain ⟨q1, rfl⟩ := take1_inv k2
  obtain ⟨w4, z4, k4, k5⟩ := Rs.bind_inv k3
  obtain ⟨q2, rfl⟩ := take1_inv k4
  obtain ⟨_, rfl⟩ := Rs.ok_inj k5
  exact ⟨q1, q2, rfl⟩
theorem sim_takes2 (W : Two T U a b e d) {l : Int} {c f : ByteArray} {s u : Ps} (R : SimS a b d l s u) (q1 : (sd T s == c) = true) (q2 : (sd T s.on == f) = true) (hle : s.next + 1 < a + e) : takes U [c, f] u = .ok () u.on.on := by
  have on1 : s.on.next = s.next + 1 := rfl
  unfold takes takes takes
  rw [sim_take W R (by omega) q1]
  show Rs.bind (take1 U f u.on) _ = _
  rw [sim_take W R.on (by omega) q2]
  rfl
theorem sx_loop (hm : MayP T) (W : Two T U a b e d) {r r' : Mth → Ps → Rs Tr} (P : ProgA T r) (ih : AllSim T U a b e d r r') {l : Int} {s u s1 : Ps} {t : Tr} (h0 : 0 ≤ l) (hd : 0 ≤ d) (hl : l + d ≤ 200) (R : SimS a b d l s u) (hs : s.next < T.length)
    (h : step T r .loop s = .ok t s1) (hle : s1.next ≤ a + e) (_hy : s1.next < a + e ∨ (exprM .loop = true → EN (saidT (tkAt U (b + e))))) : ∃ t' u1, step U r' .loop u = .ok t' u1 ∧ t.np = t'.np ∧ SimS a b d l s1 u1 := by
  dsimp only [step] at h ⊢
  obtain ⟨w1, z1, k1, h⟩ := Rs.bind_inv h
  obtain ⟨q1, f1, rfl⟩ := takes2_inv k1
  have m1 : s.on.next < T.length := tok_end hm hs (kind_of_sd hm hs q1 (by decide))
  have l1 : s.on.on.next < T.length := tok_end hm m1 (kind_of_sd hm m1 f1 (by decide))
  have n1 : s.on.on.next = s.next + 2 := rfl
  obtain ⟨x12, s12, h2, h⟩ := Rs.bind_inv h
  have p2 := prog_declN hm l1 h2
  by_cases q3 : ((sd T s12) == (⟨#[105, 110]⟩ : ByteArray)) = true
  · rw [if_pos q3] at h
    have l4 : s12.on.next < T.length := tok_end hm p2.2 (kind_of_sd hm p2.2 q3 (by decide))
    have n4 : s12.on.next = s12.next + 1 := rfl
    obtain ⟨x15, s15, h5, h⟩ := Rs.bind_inv h
    have p5 := P (.assign) _ _ _ trivial l4 h5
    obtain ⟨w6, z6, k6, h⟩ := Rs.bind_inv h
    obtain ⟨q6, rfl⟩ := take1_inv k6
    have l6 : s15.on.next < T.length := tok_end hm p5.2 (kind_of_sd hm p5.2 q6 (by decide))
    have n6 : s15.on.next = s15.next + 1 := rfl
    obtain ⟨x17, s17, h7, h⟩ := Rs.bind_inv h
    have p7 := P (.body) _ _ _ trivial l6 h7
    obtain ⟨rfl, e1, e2⟩ := mk_inv h
    obtain ⟨y2, u12, g2, L2, R2⟩ := sim_decl hm W R.on.on l1 h2 (by omega)
    obtain ⟨y5, u15, g5, L5, R5⟩ := ih (.assign) (.assign) l _ _ _ _ (.refl _) h0 hd hl R2.on trivial l4 h5 (by omega) (by first | exact Or.inl (by omega) | exact Or.inr (fun h => Bool.noConfusion (show false = true from h)))
    obtain ⟨y7, u17, g7, L7, R7⟩ := ih (.body) (.body) l _ _ _ _ (.refl _) h0 hd hl R5.on trivial l6 h7 (by omega) (by first | exact Or.inl (by omega) | exact Or.inr (fun h => Bool.noConfusion (show false = true from h)))
    exact ⟨.mk 9 (here U u) ⟨#[]⟩ 0 [y2, y5, y7], { u17 with parts := w64 (u17.parts + 1) }, (Rs.bind_ok (sim_takes2 W R q1 f1 (by omega)) _).trans ((Rs.bind_ok g2 _).trans ((if_pos (by rw [sim_sd W R2 (by omega)]; exact q3)).trans ((Rs.bind_ok g5 _).trans ((Rs.bind_ok (sim_take W R5 (by omega) q6) _).trans ((Rs.bind_ok g7 _).trans (rfl)))))), np_mk rfl rfl (nps_cons L2 (nps_cons L5 (nps_cons L7 rfl))), R7.to e1 e2 rfl rfl⟩
  · rw [if_neg q3] at h
    obtain ⟨w4, z4, k4, h⟩ := Rs.bind_inv h
    obtain ⟨q4, rfl⟩ := take1_inv k4
    have l4 : s12.on.next < T.length := tok_end hm p2.2 (kind_of_sd hm p2.2 q4 (by decide))
    have n4 : s12.on.next = s12.next + 1 := rfl
    obtain ⟨x15, s15, h5, h⟩ := Rs.bind_inv h
    have p5 := P (.assign) _ _ _ trivial l4 h5
    obtain ⟨w6, z6, k6, h⟩ := Rs.bind_inv h
    obtain ⟨q6, rfl⟩ := take1_inv k6
    have l6 : s15.on.next < T.length := tok_end hm p5.2 (kind_of_sd hm p5.2 q6 (by decide))
    have n6 : s15.on.next = s15.next + 1 := rfl
    obtain ⟨x17, s17, h7, h⟩ := Rs.bind_inv h
    have p7 := P (.body) _ _ _ trivial l6 h7
    obtain ⟨rfl, e1, e2⟩ := mk_inv h
    obtain ⟨y2, u12, g2, L2, R2⟩ := sim_decl hm W R.on.on l1 h2 (by omega)
    obtain ⟨y5, u15, g5, L5, R5⟩ := ih (.assign) (.assign) l _ _ _ _ (.refl _) h0 hd hl R2.on trivial l4 h5 (by omega) (by first | exact Or.inl (by omega) | exact Or.inr (fun h => Bool.noConfusion (show false = true from h)))
    obtain ⟨y7, u17, g7, L7, R7⟩ := ih (.body) (.body) l _ _ _ _ (.refl _) h0 hd hl R5.on trivial l6 h7 (by omega) (by first | exact Or.inl (by omega) | exact Or.inr (fun h => Bool.noConfusion (show false = true from h)))
    exact ⟨.mk 10 (here U u) ⟨#[]⟩ 0 [y2, y5, y7], { u17 with parts := w64 (u17.parts + 1) }, (Rs.bind_ok (sim_takes2 W R q1 f1 (by omega)) _).trans ((Rs.bind_ok g2 _).trans ((if_neg (by rw [sim_sd W R2 (by omega)]; exact q3)).trans ((Rs.bind_ok (sim_take W R2 (by omega) q4) _).trans ((Rs.bind_ok g5 _).trans ((Rs.bind_ok (sim_take W R5 (by omega) q6) _).trans ((Rs.bind_ok g7 _).trans (rfl))))))), np_mk rfl rfl (nps_cons L2 (nps_cons L5 (nps_cons L7 rfl))), R7.to e1 e2 rfl rfl⟩
theorem sx_answer (hm : MayP T) (W : Two T U a b e d) {r r' : Mth → Ps → Rs Tr} (P : ProgA T r) (ih : AllSim T U a b e d r r') {l : Int} {s u s1 : Ps} {t : Tr} (h0 : 0 ≤ l) (hd : 0 ≤ d) (hl : l + d ≤ 200) (R : SimS a b d l s u) (hs : s.next < T.length)
    (h : step T r .answer s = .ok t s1) (hle : s1.next ≤ a + e) (_hy : s1.next < a + e ∨ (exprM .answer = true → EN (saidT (tkAt U (b + e))))) : ∃ t' u1, step U r' .answer u = .ok t' u1 ∧ t.np = t'.np ∧ SimS a b d l s1 u1 := by
  dsimp only [step] at h ⊢
  obtain ⟨w1, z1, k1, h⟩ := Rs.bind_inv h
  obtain ⟨q1, rfl⟩ := take1_inv k1
  have l1 : s.on.next < T.length := tok_end hm hs (kind_of_sd hm hs q1 (by decide))
  have n1 : s.on.next = s.next + 1 := rfl
  by_cases q2 : ((sd T s.on) == (⟨#[59]⟩ : ByteArray)) = true
  · rw [if_pos q2] at h
    have l3 : s.on.on.next < T.length := tok_end hm l1 (kind_of_sd hm l1 q2 (by decide))
    have n3 : s.on.on.next = s.on.next + 1 := rfl
    obtain ⟨rfl, e1, e2⟩ := mk_inv h
    exact ⟨.mk 11 (here U u) ⟨#[]⟩ 0 [], { u.on.on with parts := w64 (u.on.on.parts + 1) }, (Rs.bind_ok (sim_take W R (by omega) q1) _).trans ((if_pos (by rw [sim_sd W R.on (by omega)]; exact q2)).trans (rfl)), np_mk rfl rfl rfl, R.on.on.to e1 e2 rfl rfl⟩
  · rw [if_neg q2] at h
    obtain ⟨x13, s13, h3, h⟩ := Rs.bind_inv h
    have p3 := P (.ended) _ _ _ trivial l1 h3
    obtain ⟨rfl, e1, e2⟩ := mk_inv h
    obtain ⟨y3, u13, g3, L3, R3⟩ := ih (.ended) (.ended) l _ _ _ _ (.refl _) h0 hd hl R.on trivial l1 h3 (by omega) (by first | exact Or.inl (by omega) | exact Or.inr (fun h => Bool.noConfusion (show false = true from h)))
    exact ⟨.mk 11 (here U u) ⟨#[]⟩ 0 [y3], { u13 with parts := w64 (u13.parts + 1) }, (Rs.bind_ok (sim_take W R (by omega) q1) _).trans ((if_neg (by rw [sim_sd W R.on (by omega)]; exact q2)).trans ((Rs.bind_ok g3 _).trans (rfl))), np_mk rfl rfl (nps_cons L3 rfl), R3.to e1 e2 rfl rfl⟩
theorem sx_guarded (hm : MayP T) (W : Two T U a b e d) {r r' : Mth → Ps → Rs Tr} (P : ProgA T r) (ih : AllSim T U a b e d r r') {l : Int} {s u s1 : Ps} {t : Tr} (h0 : 0 ≤ l) (hd : 0 ≤ d) (hl : l + d ≤ 200) (R : SimS a b d l s u) (hs : s.next < T.length)
    (h : step T r .guarded s = .ok t s1) (hle : s1.next ≤ a + e) (_hy : s1.next < a + e ∨ (exprM .guarded = true → EN (saidT (tkAt U (b + e))))) : ∃ t' u1, step U r' .guarded u = .ok t' u1 ∧ t.np = t'.np ∧ SimS a b d l s1 u1 := by
  dsimp only [step] at h ⊢
  have SB : ∀ {s u s1 : Ps} {t : Tr}, SimS a b d l s u → s.next < T.length → r .block s = .ok t s1 → s1.next ≤ a + e → ∃ t' u1, r' .block u = .ok t' u1 ∧ t.np = t'.np ∧ SimS a b d l s1 u1 :=
    fun R hs h hle => ih .block .block l _ _ _ _ (.refl _) h0 hd hl R trivial hs h hle (Or.inr fun h => Bool.noConfusion (show false = true from h))
  obtain ⟨w1, z1, k1, h⟩ := Rs.bind_inv h
  obtain ⟨q1, rfl⟩ := take1_inv k1
  have l1 : s.on.next < T.length := tok_end hm hs (kind_of_sd hm hs q1 (by decide))
  have n1 : s.on.next = s.next + 1 := rfl
  obtain ⟨x2, s2, h2, h⟩ := Rs.bind_inv h
  have p2 := P .block _ _ _ trivial l1 h2
  obtain ⟨X, s8, hX, h⟩ := Rs.bind_inv h
  obtain ⟨Y, s11, hY, h⟩ := Rs.bind_inv h
  -- what stands behind the block
  have hC : s2.next ≤ s8.next ∧ s8.next < T.length ∧ (s8.next ≤ a + e → (s8.next = s2.next → s2.next < a + e ∨ True) → ∀ {u2 : Ps} {y2 : Tr}, x2.np = y2.np → SimS a b d l s2 u2 → ∃ X' u8, (if sd U u2 == (⟨#[99, 97, 116, 99, 104]⟩ : ByteArray) then (take1 U (⟨#[40]⟩ : ByteArray) u2.on).bind fun _ s3 => (nameR U s3).bind fun n s4 => (take1 U (⟨#[41]⟩ : ByteArray) s4).bind fun _ s5 => (r' .block s5).bind fun y s6 => (mkP 17 (here U u2) n 0 [y] s6).bind fun c s7 => .ok [y2, c] s7
       else .ok [y2] u2) = .ok X' u8 ∧ Tr.nps X = Tr.nps X' ∧ SimS a b d l s8 u8) := by
    by_cases q : (sd T s2 == (⟨#[99, 97, 116, 99, 104]⟩ : ByteArray)) = true
    · rw [if_pos q] at hX
      have l2 : s2.on.next < T.length := tok_end hm p2.2 (kind_of_sd hm p2.2 q (by decide))
      have n2 : s2.on.next = s2.next + 1 := rfl
      obtain ⟨w3, z3, k3, hX⟩ := Rs.bind_inv hX
      obtain ⟨q3, rfl⟩ := take1_inv k3
      have l3 : s2.on.on.next < T.length := tok_end hm l2 (kind_of_sd hm l2 q3 (by decide))
      have n3 : s2.on.on.next = s2.next + 2 := rfl
      obtain ⟨w4, z4, k4, hX⟩ := Rs.bind_inv hX
      obtain ⟨q4, rfl, rfl⟩ := name_inv k4
      have l4 : s2.on.on.on.next < T.length := tok_end hm l3 (by omega)
      have n4 : s2.on.on.on.next = s2.next + 3 := rfl
      obtain ⟨w5, z5, k5, hX⟩ := Rs.bind_inv hX
      obtain ⟨q5, rfl⟩ := take1_inv k5
      have l5 : s2.on.on.on.on.next < T.length := tok_end hm l4 (kind_of_sd hm l4 q5 (by decide))
      have n5 : s2.on.on.on.on.next = s2.next + 4 := rfl
      obtain ⟨x6, s6, h6, hX⟩ := Rs.bind_inv hX
      have p6 := P .block _ _ _ trivial l5 h6
      obtain ⟨x7, s7, h7, hX⟩ := Rs.bind_inv hX
      obtain ⟨rfl, e1, e2⟩ := mk_inv h7
      obtain ⟨eX, e8⟩ := Rs.ok_inj hX
      subst e8
      refine ⟨by omega, by omega, fun hle8 _ u2 y2 L2 R2 => ?_⟩
      obtain ⟨y6, u6, g6, L6, R6⟩ := SB R2.on.on.on.on l5 h6 (by omega)
      refine ⟨[y2, .mk 17 (here U u2) (tok T s2.on.on).text 0 [y6]], { u6 with parts := w64 (u6.parts + 1) }, (if_pos (by rw [sim_sd W R2 (by omega)]; exact q)).trans ((Rs.bind_ok (sim_take W R2.on (by omega) q3) _).trans ((Rs.bind_ok (sim_name W R2.on.on (by omega) q4) _).trans ((Rs.bind_ok (sim_take W R2.on.on.on (by omega) q5) _).trans (Rs.bind_ok g6 _)))), ?_, R6.to e1 e2 rfl rfl⟩
      rw [eX]
      exact nps_cons L2 (nps_cons (np_mk rfl rfl (nps_cons L6 rfl)) rfl)
    · rw [if_neg q] at hX
      obtain ⟨eX, e8⟩ := Rs.ok_inj hX
      subst e8
      refine ⟨Nat.le_refl _, p2.2, fun hle8 _ u2 y2 L2 R2 => ⟨[y2], u2, if_neg ?_, by rw [eX]; exact nps_cons L2 rfl, R2⟩⟩
      by_cases hlt : s8.next < a + e
      · rw [sim_sd W R2 hlt]; exact q
      · rw [sim_end (e := e) R2 (by omega), W.word.2.1]; decide
  have hF : s8.next ≤ s11.next ∧ s11.next < T.length ∧ (s11.next ≤ a + e → ∀ {u8 : Ps} {X' : List Tr}, Tr.nps X = Tr.nps X' → SimS a b d l s8 u8 → ∃ Y' u11, (if sd U u8 == (⟨#[102, 105, 110, 97, 108, 108, 121]⟩ : ByteArray) then (r' .block u8.on).bind fun y s9 => (mkP 18 (here U u8) ⟨#[]⟩ 0 [y] s9).bind fun c s10 => .ok (X' ++ [c]) s10
       else .ok X' u8) = .ok Y' u11 ∧ Tr.nps Y = Tr.nps Y' ∧ SimS a b d l s11 u11) := by
    by_cases q : (sd T s8 == (⟨#[102, 105, 110, 97, 108, 108, 121]⟩ : ByteArray)) = true
    · rw [if_pos q] at hY
      have l8 : s8.on.next < T.length := tok_end hm hC.2.1 (kind_of_sd hm hC.2.1 q (by decide))
      have n8 : s8.on.next = s8.next + 1 := rfl
      obtain ⟨x9, s9, h9, hY⟩ := Rs.bind_inv hY
      have p9 := P .block _ _ _ trivial l8 h9
      obtain ⟨x10, s10, h10, hY⟩ := Rs.bind_inv hY
      obtain ⟨rfl, e1, e2⟩ := mk_inv h10
      obtain ⟨eY, e11⟩ := Rs.ok_inj hY
      subst e11
      refine ⟨by omega, by omega, fun hle8 u8 X' LX R8 => ?_⟩
      obtain ⟨y9, u9, g9, L9, R9⟩ := SB R8.on l8 h9 (by omega)
      refine ⟨X' ++ [.mk 18 (here U u8) ⟨#[]⟩ 0 [y9]], { u9 with parts := w64 (u9.parts + 1) }, (if_pos (by rw [sim_sd W R8 (by omega)]; exact q)).trans (Rs.bind_ok g9 _), ?_, R9.to e1 e2 rfl rfl⟩
      rw [eY]
      exact nps_snoc LX (np_mk rfl rfl (nps_cons L9 rfl))
    · rw [if_neg q] at hY
      obtain ⟨eY, e11⟩ := Rs.ok_inj hY
      subst e11
      refine ⟨Nat.le_refl _, hC.2.1, fun hle8 u8 X' LX R8 => ⟨X', u8, if_neg ?_, by rw [eY]; exact LX, R8⟩⟩
      by_cases hlt : s11.next < a + e
      · rw [sim_sd W R8 hlt]; exact q
      · rw [sim_end (e := e) R8 (by omega), W.word.2.2]; decide
  by_cases q : Y.length = 1
  · rw [if_pos q] at h; cases h
  · rw [if_neg q] at h
    obtain ⟨rfl, e1, e2⟩ := mk_inv h
    obtain ⟨hC1, hC2, hC3⟩ := hC
    obtain ⟨hF1, hF2, hF3⟩ := hF
    obtain ⟨y2, u2, g2, L2, R2⟩ := SB R.on l1 h2 (by omega)
    obtain ⟨X', u8, g8, LX, R8⟩ := hC3 (by omega) (fun _ => Or.inr trivial) L2 R2
    obtain ⟨Y', u11, g11, LY, R11⟩ := hF3 (by omega) LX R8
    exact ⟨.mk 16 (here U u) ⟨#[]⟩ 0 Y', { u11 with parts := w64 (u11.parts + 1) }, (Rs.bind_ok (sim_take W R (by omega) q1) _).trans ((Rs.bind_ok g2 _).trans ((Rs.bind_ok g8 _).trans ((Rs.bind_ok g11 _).trans (if_neg (by rw [← nps_len LY]; exact q))))), np_mk rfl rfl LY, R11.to e1 e2 rfl rfl⟩
theorem sx_assigned (hm : MayP T) (W : Two T U a b e d) {r r' : Mth → Ps → Rs Tr} (P : ProgA T r) (ih : AllSim T U a b e d r r') {l : Int} {s u s1 : Ps} {t : Tr} (h0 : 0 ≤ l) (hd : 0 ≤ d) (hl : l + d ≤ 200) (R : SimS a b d l s u) (hs : s.next < T.length)
    (h : step T r .assigned s = .ok t s1) (hle : s1.next ≤ a + e) (hy : s1.next < a + e ∨ (exprM .assigned = true → EN (saidT (tkAt U (b + e))))) : ∃ t' u1, step U r' .assigned u = .ok t' u1 ∧ t.np = t'.np ∧ SimS a b d l s1 u1 := by
  dsimp only [step] at h ⊢
  obtain ⟨x11, s11, h1, h⟩ := Rs.bind_inv h
  have p1 := P (.cond) _ _ _ trivial hs h1
  by_cases q2 : (putsB (sd T s11)) = true
  · rw [if_pos q2] at h
    by_cases q3 : targetB x11.kind = true
    · rw [if_pos q3] at h
      obtain ⟨w4, z4, k4, h⟩ := Rs.bind_inv h
      obtain ⟨q4, rfl⟩ := take1_inv k4
      have l4 : s11.on.next < T.length := tok_end hm p1.2 (kind_of_sd hm p1.2 q4 (by intro hz; rw [hz] at q2; exact absurd q2 (by decide)))
      have n4 : s11.on.next = s11.next + 1 := rfl
      obtain ⟨x15, s15, h5, h⟩ := Rs.bind_inv h
      have p5 := P (.assign) _ _ _ trivial l4 h5
      obtain ⟨rfl, e1, e2⟩ := mk_inv h
      obtain ⟨y1, u11, g1, L1, R1⟩ := ih (.cond) (.cond) l _ _ _ _ (.refl _) h0 hd hl R trivial hs h1 (by omega) (by first | exact Or.inl (by omega) | exact Or.inr (fun h => Bool.noConfusion (show false = true from h)) | exact hy.elim (fun h => Or.inl (by omega)) (fun h => Or.inr (fun _ => h rfl)))
      obtain ⟨y5, u15, g5, L5, R5⟩ := ih (.assign) (.assign) l _ _ _ _ (.refl _) h0 hd hl R1.on trivial l4 h5 (by omega) (by first | exact Or.inl (by omega) | exact Or.inr (fun h => Bool.noConfusion (show false = true from h)) | exact hy.elim (fun h => Or.inl (by omega)) (fun h => Or.inr (fun _ => h rfl)))
      exact ⟨.mk 43 (here U u) (sd U u11) 0 [y1, y5], { u15 with parts := w64 (u15.parts + 1) }, (Rs.bind_ok g1 _).trans ((if_pos (by rw [sim_sd W R1 (by omega)]; exact q2)).trans ((if_pos (by rw [← np_kind L1]; exact q3)).trans ((Rs.bind_ok (by rw [sim_sd W R1 (by omega)]; exact sim_take W R1 (by omega) q4) _).trans ((Rs.bind_ok g5 _).trans (rfl))))), np_mk (sim_sd W R1 (by omega)).symm rfl (nps_cons L1 (nps_cons L5 rfl)), R5.to e1 e2 rfl rfl⟩
    · rw [if_neg q3] at h
      cases h
  · rw [if_neg q2] at h
    obtain ⟨et, es⟩ := Rs.ok_inj h
    have en : s1.next = s11.next := by rw [es]
    obtain ⟨y1, u11, g1, L1, R1⟩ := ih (.cond) (.cond) l _ _ _ _ (.refl _) h0 hd hl R trivial hs h1 (by omega) (by first | exact Or.inl (by omega) | exact Or.inr (fun h => Bool.noConfusion (show false = true from h)) | exact hy.elim (fun h => Or.inl (by omega)) (fun h => Or.inr (fun _ => h rfl)))
    exact ⟨y1, u11, (Rs.bind_ok g1 _).trans ((if_neg (by by_cases hlt : s11.next < a + e; (rw [sim_sd W R1 hlt]; exact q2); (have hy := hy.resolve_left (by omega) rfl; rw [sim_end (e := e) R1 (by omega), hy.2.2.2.2.2]; decide))).trans (rfl)), by rw [et]; exact L1, by rw [es]; exact R1⟩
theorem sx_cond (hm : MayP T) (W : Two T U a b e d) {r r' : Mth → Ps → Rs Tr} (P : ProgA T r) (ih : AllSim T U a b e d r r') {l : Int} {s u s1 : Ps} {t : Tr} (h0 : 0 ≤ l) (hd : 0 ≤ d) (hl : l + d ≤ 200) (R : SimS a b d l s u) (hs : s.next < T.length)
    (h : step T r .cond s = .ok t s1) (hle : s1.next ≤ a + e) (hy : s1.next < a + e ∨ (exprM .cond = true → EN (saidT (tkAt U (b + e))))) : ∃ t' u1, step U r' .cond u = .ok t' u1 ∧ t.np = t'.np ∧ SimS a b d l s1 u1 := by
  dsimp only [step] at h ⊢
  obtain ⟨x11, s11, h1, h⟩ := Rs.bind_inv h
  have p1 := P (.sides 1) _ _ _ (Nat.le_refl 1) hs h1
  by_cases q2 : ((sd T s11) == (⟨#[63]⟩ : ByteArray)) = true
  · rw [if_pos q2] at h
    have l3 : s11.on.next < T.length := tok_end hm p1.2 (kind_of_sd hm p1.2 q2 (by decide))
    have n3 : s11.on.next = s11.next + 1 := rfl
    obtain ⟨x14, s14, h4, h⟩ := Rs.bind_inv h
    have p4 := P (.assign) _ _ _ trivial l3 h4
    obtain ⟨w5, z5, k5, h⟩ := Rs.bind_inv h
    obtain ⟨q5, rfl⟩ := take1_inv k5
    have l5 : s14.on.next < T.length := tok_end hm p4.2 (kind_of_sd hm p4.2 q5 (by decide))
    have n5 : s14.on.next = s14.next + 1 := rfl
    obtain ⟨x16, s16, h6, h⟩ := Rs.bind_inv h
    have p6 := P (.assign) _ _ _ trivial l5 h6
    obtain ⟨rfl, e1, e2⟩ := mk_inv h
    obtain ⟨y1, u11, g1, L1, R1⟩ := ih (.sides 1) (.sides 1) l _ _ _ _ (.refl _) h0 hd hl R (Nat.le_refl 1) hs h1 (by omega) (by first | exact Or.inl (by omega) | exact Or.inr (fun h => Bool.noConfusion (show false = true from h)) | exact hy.elim (fun h => Or.inl (by omega)) (fun h => Or.inr (fun _ => h rfl)))
    obtain ⟨y4, u14, g4, L4, R4⟩ := ih (.assign) (.assign) l _ _ _ _ (.refl _) h0 hd hl R1.on trivial l3 h4 (by omega) (by first | exact Or.inl (by omega) | exact Or.inr (fun h => Bool.noConfusion (show false = true from h)) | exact hy.elim (fun h => Or.inl (by omega)) (fun h => Or.inr (fun _ => h rfl)))
    obtain ⟨y6, u16, g6, L6, R6⟩ := ih (.assign) (.assign) l _ _ _ _ (.refl _) h0 hd hl R4.on trivial l5 h6 (by omega) (by first | exact Or.inl (by omega) | exact Or.inr (fun h => Bool.noConfusion (show false = true from h)) | exact hy.elim (fun h => Or.inl (by omega)) (fun h => Or.inr (fun _ => h rfl)))
    exact ⟨.mk 42 (here U u) ⟨#[]⟩ 0 [y1, y4, y6], { u16 with parts := w64 (u16.parts + 1) }, (Rs.bind_ok g1 _).trans ((if_pos (by rw [sim_sd W R1 (by omega)]; exact q2)).trans ((Rs.bind_ok g4 _).trans ((Rs.bind_ok (sim_take W R4 (by omega) q5) _).trans ((Rs.bind_ok g6 _).trans (rfl))))), np_mk rfl rfl (nps_cons L1 (nps_cons L4 (nps_cons L6 rfl))), R6.to e1 e2 rfl rfl⟩
  · rw [if_neg q2] at h
    obtain ⟨et, es⟩ := Rs.ok_inj h
    have en : s1.next = s11.next := by rw [es]
    obtain ⟨y1, u11, g1, L1, R1⟩ := ih (.sides 1) (.sides 1) l _ _ _ _ (.refl _) h0 hd hl R (Nat.le_refl 1) hs h1 (by omega) (by first | exact Or.inl (by omega) | exact Or.inr (fun h => Bool.noConfusion (show false = true from h)) | exact hy.elim (fun h => Or.inl (by omega)) (fun h => Or.inr (fun _ => h rfl)))
    exact ⟨y1, u11, (Rs.bind_ok g1 _).trans ((if_neg (by by_cases hlt : s11.next < a + e; (rw [sim_sd W R1 hlt]; exact q2); (have hy := hy.resolve_left (by omega) rfl; rw [sim_end (e := e) R1 (by omega), hy.2.2.2.2.1]; decide))).trans (rfl)), by rw [et]; exact L1, by rw [es]; exact R1⟩
theorem sx_sides (hm : MayP T) (W : Two T U a b e d) {r r' : Mth → Ps → Rs Tr} (P : ProgA T r) (ih : AllSim T U a b e d r r') {l : Int} {s u s1 : Ps} {t : Tr} {k : Nat} (hk : 1 ≤ k) (h0 : 0 ≤ l) (hd : 0 ≤ d) (hl : l + d ≤ 200) (R : SimS a b d l s u) (hs : s.next < T.length)
    (h : step T r (.sides k) s = .ok t s1) (hle : s1.next ≤ a + e) (hy : s1.next < a + e ∨ (exprM (.sides k) = true → EN (saidT (tkAt U (b + e))))) : ∃ t' u1, step U r' (.sides k) u = .ok t' u1 ∧ t.np = t'.np ∧ SimS a b d l s1 u1 := by
  dsimp only [step] at h ⊢
  obtain ⟨x2, s2, h2, h⟩ := Rs.bind_inv h
  have p2 := P .unary _ _ _ trivial hs h2
  have p3 := prog_sidesN hm (fun k hk s t s1 hs h => P (.sides k) s t s1 hk hs h) _ hk _ _ _ _ _ p2.2 h
  have hlen := W.len
  obtain ⟨i, i1, i2⟩ := R.nx
  have hy2 : s1.next < a + e ∨ EN (saidT (tkAt U (b + e))) := hy.imp_right fun k => k rfl
  obtain ⟨y2, u2, g2, L2, R2⟩ := ih .unary .unary l _ _ _ _ (.refl _) h0 hd hl R trivial hs h2 (by omega) (hy2.elim (fun h => Or.inl (by omega)) (fun h => Or.inr fun _ => h))
  obtain ⟨t', u4, k1, k2, k3⟩ := sim_sides hm W (fun k hk s t s1 hs h => P (.sides k) s t s1 hk hs h) hk (fun k hk s u t s1 R hs h hle hy => ih (.sides k) (.sides k) l _ _ _ _ (.refl _) h0 hd hl R hk hs h hle (hy.imp_right fun k _ => k)) (here T s) (here U u) (T.length + 1) (U.length + 1) _ y2 s2 u2 t s1 L2 R2 p2.2 h hle hy2 (by omega)
  exact ⟨t', u4, (Rs.bind_ok g2 _).trans k1, k2, k3⟩
theorem sx_chain (hm : MayP T) (W : Two T U a b e d) {r r' : Mth → Ps → Rs Tr} (P : ProgA T r) (ih : AllSim T U a b e d r r') {l : Int} {s u s1 : Ps} {t : Tr} {c : Bool} (h0 : 0 ≤ l) (hd : 0 ≤ d) (hl : l + d ≤ 200) (R : SimS a b d l s u) (hs : s.next < T.length)
    (h : step T r (.chain c) s = .ok t s1) (hle : s1.next ≤ a + e) (hy : s1.next < a + e ∨ (exprM (.chain c) = true → EN (saidT (tkAt U (b + e))))) : ∃ t' u1, step U r' (.chain c) u = .ok t' u1 ∧ t.np = t'.np ∧ SimS a b d l s1 u1 := by
  dsimp only [step] at h ⊢
  obtain ⟨x2, s2, h2, h⟩ := Rs.bind_inv h
  have p2 := P .head _ _ _ trivial hs h2
  have p3 := prog_chainN hm (fun s t s1 hs h => P .assign s t s1 trivial hs h) _ c _ _ _ _ _ p2.2 h
  have hlen := W.len
  obtain ⟨i, i1, i2⟩ := R.nx
  have hy2 : s1.next < a + e ∨ EN (saidT (tkAt U (b + e))) := hy.imp_right fun k => k rfl
  obtain ⟨y2, u2, g2, L2, R2⟩ := ih .head .head l _ _ _ _ (.refl _) h0 hd hl R trivial hs h2 (by omega) (hy2.elim (fun h => Or.inl (by omega)) (fun h => Or.inr fun _ => h))
  obtain ⟨t', u4, k1, k2, k3⟩ := sim_chain hm W (fun s t s1 hs h => P .assign s t s1 trivial hs h) (fun _ _ _ _ R hs h hlt => ih .assign .assign l _ _ _ _ (.refl _) h0 hd hl R trivial hs h (by omega) (Or.inl hlt)) (here T s) (here U u) c (T.length + 1) (U.length + 1) _ y2 s2 u2 t s1 L2 R2 p2.2 h hle hy2 (by omega)
  exact ⟨t', u4, (Rs.bind_ok g2 _).trans k1, k2, k3⟩
theorem sx_unary (hm : MayP T) (W : Two T U a b e d) {r r' : Mth → Ps → Rs Tr} (P : ProgA T r) (ih : AllSim T U a b e d r r') {l : Int} {s u s1 : Ps} {t : Tr} (h0 : 0 ≤ l) (hd : 0 ≤ d) (hl : l + d ≤ 200) (R : SimS a b d l s u) (hs : s.next < T.length)
    (h : step T r .unary s = .ok t s1) (hle : s1.next ≤ a + e) (hy : s1.next < a + e ∨ (exprM .unary = true → EN (saidT (tkAt U (b + e))))) : ∃ t' u1, step U r' .unary u = .ok t' u1 ∧ t.np = t'.np ∧ SimS a b d l s1 u1 := by
  dsimp only [step] at h ⊢
  by_cases q : leadsB (sd T s) = true
  · rw [if_pos q] at h
    have hk := kind_of_leads hm hs q
    have hlt : s.next < s1.next := by
      obtain ⟨_, s2, e1, e2⟩ := deeper_inv h
      have := P .led { s with level := w64 (s.level + 1) } _ _ hk hs e1
      rw [e2]
      exact this.1
    obtain ⟨t', u1, g, L, R1⟩ := sim_deeper (f' := r' .led) R h0 hd hl h fun s3 u3 s2 e3 R3 k0 kl h3 e2 => ih .led .led (l + 1) _ _ _ _ (.refl _) k0 hd kl R3 (by show (tok T s3).kind ≠ 0; unfold tok; rw [e3]; exact hk) (by omega) h3 (by omega) (by rw [e2]; exact hy.imp_right fun k _ => k rfl)
    exact ⟨t', u1, (if_pos (by rw [sim_sd W R (by omega)]; exact q)).trans g, L, R1⟩
  · rw [if_neg q] at h
    have p := P (.chain true) _ _ _ trivial hs h
    obtain ⟨t', u1, g, L, R1⟩ := ih (.chain true) (.chain true) l _ _ _ _ (.refl _) h0 hd hl R trivial hs h hle (hy.imp_right fun k _ => k rfl)
    exact ⟨t', u1, (if_neg (by rw [sim_sd W R (by omega)]; exact q)).trans g, L, R1⟩
theorem sx_led (hm : MayP T) (W : Two T U a b e d) {r r' : Mth → Ps → Rs Tr} (P : ProgA T r) (ih : AllSim T U a b e d r r') {l : Int} {s u s1 : Ps} {t : Tr} (hp : (tok T s).kind ≠ 0) (h0 : 0 ≤ l) (hd : 0 ≤ d) (hl : l + d ≤ 200) (R : SimS a b d l s u) (hs : s.next < T.length)
    (h : step T r .led s = .ok t s1) (hle : s1.next ≤ a + e) (hy : s1.next < a + e ∨ (exprM .led = true → EN (saidT (tkAt U (b + e))))) : ∃ t' u1, step U r' .led u = .ok t' u1 ∧ t.np = t'.np ∧ SimS a b d l s1 u1 := by
  dsimp only [step] at h ⊢
  have l1 : s.on.next < T.length := tok_end hm hs (hp)
  have n1 : s.on.next = s.next + 1 := rfl
  obtain ⟨x12, s12, h2, h⟩ := Rs.bind_inv h
  have p2 := P (.unary) _ _ _ trivial l1 h2
  obtain ⟨rfl, e1, e2⟩ := mk_inv h
  obtain ⟨y2, u12, g2, L2, R2⟩ := ih (.unary) (.unary) l _ _ _ _ (.refl _) h0 hd hl R.on trivial l1 h2 (by omega) (by first | exact Or.inl (by omega) | exact Or.inr (fun h => Bool.noConfusion (show false = true from h)) | exact hy.elim (fun h => Or.inl (by omega)) (fun h => Or.inr (fun _ => h rfl)))
  exact ⟨.mk 38 (here U u) (tok U u).text 0 [y2], { u12 with parts := w64 (u12.parts + 1) }, (Rs.bind_ok g2 _).trans (rfl), np_mk (sim_tok W R (by omega)).2.1.symm rfl (nps_cons L2 rfl), R2.to e1 e2 rfl rfl⟩
theorem sx_head (hm : MayP T) (W : Two T U a b e d) {r r' : Mth → Ps → Rs Tr} (P : ProgA T r) (ih : AllSim T U a b e d r r') {l : Int} {s u s1 : Ps} {t : Tr} (h0 : 0 ≤ l) (hd : 0 ≤ d) (hl : l + d ≤ 200) (R : SimS a b d l s u) (hs : s.next < T.length)
    (h : step T r .head s = .ok t s1) (hle : s1.next ≤ a + e) (hy : s1.next < a + e ∨ (exprM .head = true → EN (saidT (tkAt U (b + e))))) : ∃ t' u1, step U r' .head u = .ok t' u1 ∧ t.np = t'.np ∧ SimS a b d l s1 u1 := by
  dsimp only [step] at h ⊢
  by_cases q : (sd T s == (⟨#[110, 101, 119]⟩ : ByteArray)) = true
  · rw [if_pos q] at h
    obtain ⟨x2, s2, h2, h⟩ := Rs.bind_inv h
    have p2 : s.next < s2.next ∧ s2.next < T.length := by
      obtain ⟨_, s3, e1, e2⟩ := deeper_inv h2
      have := P .newIn { s with level := w64 (s.level + 1) } _ _ trivial hs e1
      rw [e2]
      exact this
    obtain ⟨x3, s3, h3, h⟩ := Rs.bind_inv h
    have PA : ProgN T (r .assign) := fun _ _ _ hs h => P .assign _ _ _ trivial hs h
    have p3 := args_progN hm PA p2.2 h3
    obtain ⟨rfl, e1, e2⟩ := mk_inv h
    obtain ⟨y2, u2, g2, L2, R2⟩ := sim_deeper (f' := r' .newIn) R h0 hd hl h2 fun s3 u3 s2 e3 R3 k0 kl h3 e2 => ih .newIn .newIn (l + 1) _ _ _ _ (.refl _) k0 hd kl R3 trivial (by omega) h3 (by omega) (Or.inl (by omega))
    obtain ⟨y3, u3, g3, L3, R3⟩ := sim_args hm W PA (fun _ _ _ _ R hs h hlt => ih .assign .assign l _ _ _ _ (.refl _) h0 hd hl R trivial hs h (by omega) (Or.inl hlt)) L2 R2 p2.2 h3 (by omega)
    exact ⟨.mk 37 (here U u) ⟨#[]⟩ 0 y3, { u3 with parts := w64 (u3.parts + 1) }, (if_pos (by rw [sim_sd W R (by omega)]; exact q)).trans ((Rs.bind_ok g2 _).trans (Rs.bind_ok g3 _)), np_mk rfl rfl L3, R3.to e1 e2 rfl rfl⟩
  · rw [if_neg q] at h
    have p := P .primary _ _ _ trivial hs h
    obtain ⟨t', u1, g, L, R1⟩ := ih .primary .primary l _ _ _ _ (.refl _) h0 hd hl R trivial hs h hle (hy.imp_right fun k _ => k rfl)
    exact ⟨t', u1, (if_neg (by rw [sim_sd W R (by omega)]; exact q)).trans g, L, R1⟩
theorem sx_newIn (hm : MayP T) (W : Two T U a b e d) {r r' : Mth → Ps → Rs Tr} (P : ProgA T r) (ih : AllSim T U a b e d r r') {l : Int} {s u s1 : Ps} {t : Tr} (h0 : 0 ≤ l) (hd : 0 ≤ d) (hl : l + d ≤ 200) (R : SimS a b d l s u) (hs : s.next < T.length)
    (h : step T r .newIn s = .ok t s1) (hle : s1.next ≤ a + e) (hy : s1.next < a + e ∨ (exprM .newIn = true → EN (saidT (tkAt U (b + e))))) : ∃ t' u1, step U r' .newIn u = .ok t' u1 ∧ t.np = t'.np ∧ SimS a b d l s1 u1 := by
  dsimp only [step] at h ⊢
  obtain ⟨w1, z1, k1, h⟩ := Rs.bind_inv h
  obtain ⟨q1, rfl⟩ := take1_inv k1
  have l1 : s.on.next < T.length := tok_end hm hs (kind_of_sd hm hs q1 (by decide))
  have n1 : s.on.next = s.next + 1 := rfl
  have p2 := P (.chain false) _ _ _ trivial l1 h
  obtain ⟨y2, u12, g2, L2, R2⟩ := ih (.chain false) (.chain false) l _ _ _ _ (.refl _) h0 hd hl R.on trivial l1 h (by omega) (by first | exact Or.inl (by omega) | exact Or.inr (fun h => Bool.noConfusion (show false = true from h)) | exact hy.elim (fun h => Or.inl (by omega)) (fun h => Or.inr (fun _ => h rfl)))
  exact ⟨y2, u12, (Rs.bind_ok (sim_take W R (by omega) q1) _).trans (g2), L2, R2⟩
set_option maxHeartbeats 1000000 in
theorem sx_primary (hm : MayP T) (W : Two T U a b e d) {r r' : Mth → Ps → Rs Tr} (P : ProgA T r) (ih : AllSim T U a b e d r r') {l : Int} {s u s1 : Ps} {t : Tr} (h0 : 0 ≤ l) (hd : 0 ≤ d) (hl : l + d ≤ 200) (R : SimS a b d l s u) (hs : s.next < T.length)
    (h : step T r .primary s = .ok t s1) (hle : s1.next ≤ a + e) (hy : s1.next < a + e ∨ (exprM .primary = true → EN (saidT (tkAt U (b + e))))) : ∃ t' u1, step U r' .primary u = .ok t' u1 ∧ t.np = t'.np ∧ SimS a b d l s1 u1 := by
  dsimp only [step] at h ⊢
  by_cases q1 : (tok T s).kind = 3
  · rw [if_pos q1] at h
    unfold numR at h
    have l3 : s.on.next < T.length := tok_end hm hs (by omega)
    have n3 : s.on.next = s.next + 1 := rfl
    obtain ⟨rfl, e1, e2⟩ := mk_inv h
    exact ⟨.mk 20 (here U u) ⟨#[]⟩ (tok U u).num [], { u.on with parts := w64 (u.on.parts + 1) }, (if_pos (by rw [(sim_tok W R (by omega)).1]; exact q1)).trans (rfl), np_mk rfl (sim_tok W R (by omega)).2.2.symm rfl, R.on.to e1 e2 rfl rfl⟩
  · rw [if_neg q1] at h
    by_cases q2 : (tok T s).kind = 4
    · rw [if_pos q2] at h
      have l3 : s.on.next < T.length := tok_end hm hs (by omega)
      have n3 : s.on.next = s.next + 1 := rfl
      obtain ⟨rfl, e1, e2⟩ := mk_inv h
      exact ⟨.mk 21 (here U u) (tok U u).text 0 [], { u.on with parts := w64 (u.on.parts + 1) }, (if_neg (by rw [(sim_tok W R (by omega)).1]; exact q1)).trans ((if_pos (by rw [(sim_tok W R (by omega)).1]; exact q2)).trans (rfl)), np_mk (sim_tok W R (by omega)).2.1.symm rfl rfl, R.on.to e1 e2 rfl rfl⟩
    · rw [if_neg q2] at h
      by_cases q3 : (tok T s).kind = 1
      · rw [if_pos q3] at h
        have l4 : s.on.next < T.length := tok_end hm hs (by omega)
        have n4 : s.on.next = s.next + 1 := rfl
        obtain ⟨rfl, e1, e2⟩ := mk_inv h
        exact ⟨.mk 26 (here U u) (tok U u).text 0 [], { u.on with parts := w64 (u.on.parts + 1) }, (if_neg (by rw [(sim_tok W R (by omega)).1]; exact q1)).trans ((if_neg (by rw [(sim_tok W R (by omega)).1]; exact q2)).trans ((if_pos (by rw [(sim_tok W R (by omega)).1]; exact q3)).trans (rfl))), np_mk (sim_tok W R (by omega)).2.1.symm rfl rfl, R.on.to e1 e2 rfl rfl⟩
      · rw [if_neg q3] at h
        by_cases q4 : ((tok T s).text == (⟨#[116, 114, 117, 101]⟩ : ByteArray)) = true
        · rw [if_pos q4] at h
          have en := (bare_inv h).2.2.1
          obtain ⟨y, v, g, L, Z⟩ := sim_bare W R h hle
          exact ⟨y, v, (if_neg (by rw [(sim_tok W R (by omega)).1]; exact q1)).trans ((if_neg (by rw [(sim_tok W R (by omega)).1]; exact q2)).trans ((if_neg (by rw [(sim_tok W R (by omega)).1]; exact q3)).trans ((if_pos (by rw [(sim_tok W R (by omega)).2.1]; exact q4)).trans (g)))), L, Z⟩
        · rw [if_neg q4] at h
          by_cases q5 : ((tok T s).text == (⟨#[102, 97, 108, 115, 101]⟩ : ByteArray)) = true
          · rw [if_pos q5] at h
            have en := (bare_inv h).2.2.1
            obtain ⟨y, v, g, L, Z⟩ := sim_bare W R h hle
            exact ⟨y, v, (if_neg (by rw [(sim_tok W R (by omega)).1]; exact q1)).trans ((if_neg (by rw [(sim_tok W R (by omega)).1]; exact q2)).trans ((if_neg (by rw [(sim_tok W R (by omega)).1]; exact q3)).trans ((if_neg (by rw [(sim_tok W R (by omega)).2.1]; exact q4)).trans ((if_pos (by rw [(sim_tok W R (by omega)).2.1]; exact q5)).trans (g))))), L, Z⟩
          · rw [if_neg q5] at h
            by_cases q6 : ((tok T s).text == (⟨#[110, 117, 108, 108]⟩ : ByteArray)) = true
            · rw [if_pos q6] at h
              have en := (bare_inv h).2.2.1
              obtain ⟨y, v, g, L, Z⟩ := sim_bare W R h hle
              exact ⟨y, v, (if_neg (by rw [(sim_tok W R (by omega)).1]; exact q1)).trans ((if_neg (by rw [(sim_tok W R (by omega)).1]; exact q2)).trans ((if_neg (by rw [(sim_tok W R (by omega)).1]; exact q3)).trans ((if_neg (by rw [(sim_tok W R (by omega)).2.1]; exact q4)).trans ((if_neg (by rw [(sim_tok W R (by omega)).2.1]; exact q5)).trans ((if_pos (by rw [(sim_tok W R (by omega)).2.1]; exact q6)).trans (g)))))), L, Z⟩
            · rw [if_neg q6] at h
              by_cases q7 : ((tok T s).text == (⟨#[116, 104, 105, 115]⟩ : ByteArray)) = true
              · rw [if_pos q7] at h
                have en := (bare_inv h).2.2.1
                obtain ⟨y, v, g, L, Z⟩ := sim_bare W R h hle
                exact ⟨y, v, (if_neg (by rw [(sim_tok W R (by omega)).1]; exact q1)).trans ((if_neg (by rw [(sim_tok W R (by omega)).1]; exact q2)).trans ((if_neg (by rw [(sim_tok W R (by omega)).1]; exact q3)).trans ((if_neg (by rw [(sim_tok W R (by omega)).2.1]; exact q4)).trans ((if_neg (by rw [(sim_tok W R (by omega)).2.1]; exact q5)).trans ((if_neg (by rw [(sim_tok W R (by omega)).2.1]; exact q6)).trans ((if_pos (by rw [(sim_tok W R (by omega)).2.1]; exact q7)).trans (g))))))), L, Z⟩
              · rw [if_neg q7] at h
                by_cases q8 : ((tok T s).text == (⟨#[40]⟩ : ByteArray)) = true
                · rw [if_pos q8] at h
                  have p9 := P (.test) _ _ _ trivial hs h
                  obtain ⟨y9, u19, g9, L9, R9⟩ := ih (.test) (.test) l _ _ _ _ (.refl _) h0 hd hl R trivial hs h (by omega) (by first | exact Or.inl (by omega) | exact Or.inr (fun h => Bool.noConfusion (show false = true from h)) | exact hy.elim (fun h => Or.inl (by omega)) (fun h => Or.inr (fun _ => h rfl)))
                  exact ⟨y9, u19, (if_neg (by rw [(sim_tok W R (by omega)).1]; exact q1)).trans ((if_neg (by rw [(sim_tok W R (by omega)).1]; exact q2)).trans ((if_neg (by rw [(sim_tok W R (by omega)).1]; exact q3)).trans ((if_neg (by rw [(sim_tok W R (by omega)).2.1]; exact q4)).trans ((if_neg (by rw [(sim_tok W R (by omega)).2.1]; exact q5)).trans ((if_neg (by rw [(sim_tok W R (by omega)).2.1]; exact q6)).trans ((if_neg (by rw [(sim_tok W R (by omega)).2.1]; exact q7)).trans ((if_pos (by rw [(sim_tok W R (by omega)).2.1]; exact q8)).trans (g9)))))))), L9, R9⟩
                · rw [if_neg q8] at h
                  by_cases q9 : ((tok T s).text == (⟨#[102, 117, 110, 99, 116, 105, 111, 110]⟩ : ByteArray)) = true
                  · rw [if_pos q9] at h
                    have p10 := P (.nested) _ _ _ trivial hs h
                    obtain ⟨y10, u20, g10, L10, R10⟩ := ih (.nested) (.nested) l _ _ _ _ (.refl _) h0 hd hl R trivial hs h (by omega) (by first | exact Or.inl (by omega) | exact Or.inr (fun h => Bool.noConfusion (show false = true from h)) | exact hy.elim (fun h => Or.inl (by omega)) (fun h => Or.inr (fun _ => h rfl)))
                    exact ⟨y10, u20, (if_neg (by rw [(sim_tok W R (by omega)).1]; exact q1)).trans ((if_neg (by rw [(sim_tok W R (by omega)).1]; exact q2)).trans ((if_neg (by rw [(sim_tok W R (by omega)).1]; exact q3)).trans ((if_neg (by rw [(sim_tok W R (by omega)).2.1]; exact q4)).trans ((if_neg (by rw [(sim_tok W R (by omega)).2.1]; exact q5)).trans ((if_neg (by rw [(sim_tok W R (by omega)).2.1]; exact q6)).trans ((if_neg (by rw [(sim_tok W R (by omega)).2.1]; exact q7)).trans ((if_neg (by rw [(sim_tok W R (by omega)).2.1]; exact q8)).trans ((if_pos (by rw [(sim_tok W R (by omega)).2.1]; exact q9)).trans (g10))))))))), L10, R10⟩
                  · rw [if_neg q9] at h
                    by_cases q10 : ((tok T s).text == (⟨#[123]⟩ : ByteArray)) = true
                    · rw [if_pos q10] at h
                      obtain ⟨w11, z11, k11, h⟩ := Rs.bind_inv h
                      obtain ⟨q11, rfl⟩ := take1_inv k11
                      have l11 : s.on.next < T.length := tok_end hm hs (kind_of_sd hm hs q11 (by decide))
                      have n11 : s.on.next = s.next + 1 := rfl
                      obtain ⟨x22, s22, h12, h⟩ := Rs.bind_inv h
                      have p12 := prog_listN hm (fun _ _ _ hs h => P .pair _ _ _ trivial hs h) (c := (⟨#[125]⟩ : ByteArray)) (by decide) 16384 l11 h12
                      obtain ⟨rfl, e1, e2⟩ := mk_inv h
                      obtain ⟨y12, u22, g12, L12, R12⟩ := sim_list hm W (fun _ _ _ hs h => P .pair _ _ _ trivial hs h) (fun _ _ _ _ R hs h hlt => ih .pair .pair l _ _ _ _ (.refl _) h0 hd hl R trivial hs h (by omega) (Or.inl hlt)) (c := (⟨#[125]⟩ : ByteArray)) (by decide) 16384 R.on l11 h12 (by omega)
                      exact ⟨.mk 28 (here U u) ⟨#[]⟩ 0 y12, { u22 with parts := w64 (u22.parts + 1) }, (if_neg (by rw [(sim_tok W R (by omega)).1]; exact q1)).trans ((if_neg (by rw [(sim_tok W R (by omega)).1]; exact q2)).trans ((if_neg (by rw [(sim_tok W R (by omega)).1]; exact q3)).trans ((if_neg (by rw [(sim_tok W R (by omega)).2.1]; exact q4)).trans ((if_neg (by rw [(sim_tok W R (by omega)).2.1]; exact q5)).trans ((if_neg (by rw [(sim_tok W R (by omega)).2.1]; exact q6)).trans ((if_neg (by rw [(sim_tok W R (by omega)).2.1]; exact q7)).trans ((if_neg (by rw [(sim_tok W R (by omega)).2.1]; exact q8)).trans ((if_neg (by rw [(sim_tok W R (by omega)).2.1]; exact q9)).trans ((if_pos (by rw [(sim_tok W R (by omega)).2.1]; exact q10)).trans ((Rs.bind_ok (sim_take W R (by omega) q11) _).trans ((Rs.bind_ok g12 _).trans (rfl)))))))))))), np_mk rfl rfl L12, R12.to e1 e2 rfl rfl⟩
                    · rw [if_neg q10] at h
                      by_cases q11 : ((tok T s).text == (⟨#[91]⟩ : ByteArray)) = true
                      · rw [if_pos q11] at h
                        obtain ⟨w12, z12, k12, h⟩ := Rs.bind_inv h
                        obtain ⟨q12, rfl⟩ := take1_inv k12
                        have l12 : s.on.next < T.length := tok_end hm hs (kind_of_sd hm hs q12 (by decide))
                        have n12 : s.on.next = s.next + 1 := rfl
                        obtain ⟨x23, s23, h13, h⟩ := Rs.bind_inv h
                        have p13 := prog_listN hm (fun _ _ _ hs h => P .assign _ _ _ trivial hs h) (c := (⟨#[93]⟩ : ByteArray)) (by decide) 16384 l12 h13
                        obtain ⟨rfl, e1, e2⟩ := mk_inv h
                        obtain ⟨y13, u23, g13, L13, R13⟩ := sim_list hm W (fun _ _ _ hs h => P .assign _ _ _ trivial hs h) (fun _ _ _ _ R hs h hlt => ih .assign .assign l _ _ _ _ (.refl _) h0 hd hl R trivial hs h (by omega) (Or.inl hlt)) (c := (⟨#[93]⟩ : ByteArray)) (by decide) 16384 R.on l12 h13 (by omega)
                        exact ⟨.mk 33 (here U u) ⟨#[]⟩ 0 y13, { u23 with parts := w64 (u23.parts + 1) }, (if_neg (by rw [(sim_tok W R (by omega)).1]; exact q1)).trans ((if_neg (by rw [(sim_tok W R (by omega)).1]; exact q2)).trans ((if_neg (by rw [(sim_tok W R (by omega)).1]; exact q3)).trans ((if_neg (by rw [(sim_tok W R (by omega)).2.1]; exact q4)).trans ((if_neg (by rw [(sim_tok W R (by omega)).2.1]; exact q5)).trans ((if_neg (by rw [(sim_tok W R (by omega)).2.1]; exact q6)).trans ((if_neg (by rw [(sim_tok W R (by omega)).2.1]; exact q7)).trans ((if_neg (by rw [(sim_tok W R (by omega)).2.1]; exact q8)).trans ((if_neg (by rw [(sim_tok W R (by omega)).2.1]; exact q9)).trans ((if_neg (by rw [(sim_tok W R (by omega)).2.1]; exact q10)).trans ((if_pos (by rw [(sim_tok W R (by omega)).2.1]; exact q11)).trans ((Rs.bind_ok (sim_take W R (by omega) q12) _).trans ((Rs.bind_ok g13 _).trans (rfl))))))))))))), np_mk rfl rfl L13, R13.to e1 e2 rfl rfl⟩
                      · rw [if_neg q11] at h
                        cases h
theorem sx_nested (hm : MayP T) (W : Two T U a b e d) {r r' : Mth → Ps → Rs Tr} (P : ProgA T r) (ih : AllSim T U a b e d r r') {l : Int} {s u s1 : Ps} {t : Tr} (h0 : 0 ≤ l) (hd : 0 ≤ d) (hl : l + d ≤ 200) (R : SimS a b d l s u) (hs : s.next < T.length)
    (h : step T r .nested s = .ok t s1) (hle : s1.next ≤ a + e) (_hy : s1.next < a + e ∨ (exprM .nested = true → EN (saidT (tkAt U (b + e))))) : ∃ t' u1, step U r' .nested u = .ok t' u1 ∧ t.np = t'.np ∧ SimS a b d l s1 u1 := by
  dsimp only [step] at h ⊢
  obtain ⟨w1, z1, k1, h⟩ := Rs.bind_inv h
  obtain ⟨q1, rfl⟩ := take1_inv k1
  have l1 : s.on.next < T.length := tok_end hm hs (kind_of_sd hm hs q1 (by decide))
  have n1 : s.on.next = s.next + 1 := rfl
  by_cases q2 : ((sd T s.on) == (⟨#[40]⟩ : ByteArray)) = true
  · rw [if_pos q2] at h
    have p3 := P (.function 27 (here T s) ⟨#[]⟩) _ _ _ trivial l1 h
    obtain ⟨y3, u13, g3, L3, R3⟩ := ih (.function 27 (here T s) ⟨#[]⟩) (.function 27 (here U u) ⟨#[]⟩) l _ _ _ _ (.fn _ _ _ _) h0 hd hl R.on trivial l1 h (by omega) (by first | exact Or.inl (by omega) | exact Or.inr (fun h => Bool.noConfusion (show false = true from h)))
    exact ⟨y3, u13, (Rs.bind_ok (sim_take W R (by omega) q1) _).trans ((if_pos (by rw [sim_sd W R.on (by omega)]; exact q2)).trans (g3)), L3, R3⟩
  · rw [if_neg q2] at h
    obtain ⟨w3, z3, k3, h⟩ := Rs.bind_inv h
    obtain ⟨q3, rfl, rfl⟩ := name_inv k3
    have l3 : s.on.on.next < T.length := tok_end hm l1 (by omega)
    have n3 : s.on.on.next = s.on.next + 1 := rfl
    have p4 := P (.function 27 (here T s) (tok T s.on).text) _ _ _ trivial l3 h
    obtain ⟨y4, u14, g4, L4, R4⟩ := ih (.function 27 (here T s) (tok T s.on).text) (.function 27 (here U u) (tok T s.on).text) l _ _ _ _ (.fn _ _ _ _) h0 hd hl R.on.on trivial l3 h (by omega) (by first | exact Or.inl (by omega) | exact Or.inr (fun h => Bool.noConfusion (show false = true from h)))
    exact ⟨y4, u14, (Rs.bind_ok (sim_take W R (by omega) q1) _).trans ((if_neg (by rw [sim_sd W R.on (by omega)]; exact q2)).trans ((Rs.bind_ok (sim_name W R.on (by omega) q3) _).trans (g4))), L4, R4⟩
theorem sx_key (hm : MayP T) (W : Two T U a b e d) {r r' : Mth → Ps → Rs Tr} (P : ProgA T r) (ih : AllSim T U a b e d r r') {l : Int} {s u s1 : Ps} {t : Tr} (h0 : 0 ≤ l) (hd : 0 ≤ d) (hl : l + d ≤ 200) (R : SimS a b d l s u) (hs : s.next < T.length)
    (h : step T r .key s = .ok t s1) (hle : s1.next ≤ a + e) (_hy : s1.next < a + e ∨ (exprM .key = true → EN (saidT (tkAt U (b + e))))) : ∃ t' u1, step U r' .key u = .ok t' u1 ∧ t.np = t'.np ∧ SimS a b d l s1 u1 := by
  dsimp only [step] at h ⊢
  by_cases q1 : (tok T s).kind = 3
  · rw [if_pos q1] at h
    unfold numR at h
    have l3 : s.on.next < T.length := tok_end hm hs (by omega)
    have n3 : s.on.next = s.next + 1 := rfl
    obtain ⟨rfl, e1, e2⟩ := mk_inv h
    exact ⟨.mk 20 (here U u) ⟨#[]⟩ (tok U u).num [], { u.on with parts := w64 (u.on.parts + 1) }, (if_pos (by rw [(sim_tok W R (by omega)).1]; exact q1)).trans (rfl), np_mk rfl (sim_tok W R (by omega)).2.2.symm rfl, R.on.to e1 e2 rfl rfl⟩
  · rw [if_neg q1] at h
    by_cases q2 : (tok T s).kind = 4
    · rw [if_pos q2] at h
      have l3 : s.on.next < T.length := tok_end hm hs (by omega)
      have n3 : s.on.next = s.next + 1 := rfl
      obtain ⟨rfl, e1, e2⟩ := mk_inv h
      exact ⟨.mk 21 (here U u) (tok U u).text 0 [], { u.on with parts := w64 (u.on.parts + 1) }, (if_neg (by rw [(sim_tok W R (by omega)).1]; exact q1)).trans ((if_pos (by rw [(sim_tok W R (by omega)).1]; exact q2)).trans (rfl)), np_mk (sim_tok W R (by omega)).2.1.symm rfl rfl, R.on.to e1 e2 rfl rfl⟩
    · rw [if_neg q2] at h
      by_cases q3 : ((sd T s) == (⟨#[91]⟩ : ByteArray)) = true
      · rw [if_pos q3] at h
        have l4 : s.on.next < T.length := tok_end hm hs (kind_of_sd hm hs q3 (by decide))
        have n4 : s.on.next = s.next + 1 := rfl
        obtain ⟨x15, s15, h5, h⟩ := Rs.bind_inv h
        have p5 := P (.assign) _ _ _ trivial l4 h5
        obtain ⟨w6, z6, k6, h⟩ := Rs.bind_inv h
        obtain ⟨q6, rfl⟩ := take1_inv k6
        have l6 : s15.on.next < T.length := tok_end hm p5.2 (kind_of_sd hm p5.2 q6 (by decide))
        have n6 : s15.on.next = s15.next + 1 := rfl
        obtain ⟨rfl, e1, e2⟩ := mk_inv h
        obtain ⟨y5, u15, g5, L5, R5⟩ := ih (.assign) (.assign) l _ _ _ _ (.refl _) h0 hd hl R.on trivial l4 h5 (by omega) (by first | exact Or.inl (by omega) | exact Or.inr (fun h => Bool.noConfusion (show false = true from h)))
        exact ⟨.mk 32 (here U u) ⟨#[]⟩ 0 [y5], { u15.on with parts := w64 (u15.on.parts + 1) }, (if_neg (by rw [(sim_tok W R (by omega)).1]; exact q1)).trans ((if_neg (by rw [(sim_tok W R (by omega)).1]; exact q2)).trans ((if_pos (by rw [sim_sd W R (by omega)]; exact q3)).trans ((Rs.bind_ok g5 _).trans ((Rs.bind_ok (sim_take W R5 (by omega) q6) _).trans (rfl))))), np_mk rfl rfl (nps_cons L5 rfl), R5.on.to e1 e2 rfl rfl⟩
      · rw [if_neg q3] at h
        obtain ⟨w4, z4, k4, h⟩ := Rs.bind_inv h
        obtain ⟨q4, f4, rfl⟩ := word_inv k4
        have l4 : s.on.next < T.length := tok_end hm hs q4
        have n4 : s.on.next = s.next + 1 := rfl
        obtain ⟨rfl, e1, e2⟩ := mk_inv h
        exact ⟨.mk 21 (here U u) w4 0 [], { u.on with parts := w64 (u.on.parts + 1) }, (if_neg (by rw [(sim_tok W R (by omega)).1]; exact q1)).trans ((if_neg (by rw [(sim_tok W R (by omega)).1]; exact q2)).trans ((if_neg (by rw [sim_sd W R (by omega)]; exact q3)).trans ((Rs.bind_ok (sim_word W R (by omega) k4) _).trans (rfl)))), np_mk rfl rfl rfl, R.on.to e1 e2 rfl rfl⟩
theorem sx_pair (hm : MayP T) (W : Two T U a b e d) {r r' : Mth → Ps → Rs Tr} (P : ProgA T r) (P2 : ∀ k s t s1, (tok T s).kind ≠ 0 → s.next < T.length → r (.accessor k) s = .ok t s1 → s.next + 1 < s1.next) (ih : AllSim T U a b e d r r') {l : Int} {s u s1 : Ps} {t : Tr} (h0 : 0 ≤ l) (hd : 0 ≤ d) (hl : l + d ≤ 200) (R : SimS a b d l s u) (hs : s.next < T.length)
    (h : step T r .pair s = .ok t s1) (hle : s1.next ≤ a + e) (hy : s1.next < a + e ∨ (exprM .pair = true → EN (saidT (tkAt U (b + e))))) : ∃ t' u1, step U r' .pair u = .ok t' u1 ∧ t.np = t'.np ∧ SimS a b d l s1 u1 := by
  dsimp only [step] at h ⊢
  by_cases q : ((sd T s == (⟨#[103, 101, 116]⟩ : ByteArray)) && !(saidT (tkAt T (s.next + 1)) == (⟨#[58]⟩ : ByteArray))) = true
  · rw [if_pos q] at h
    have hk := kind_of_sd hm hs (Bool.and_eq_true_iff.1 q).1 (by decide)
    have p := P2 _ _ _ _ hk hs h
    obtain ⟨y, v, g, L, Z⟩ := ih (.accessor 30) (.accessor 30) l _ _ _ _ (.refl _) h0 hd hl R hk hs h hle (hy.imp_right fun k _ => k rfl)
    exact ⟨y, v, (if_pos (by rw [sim_sd W R (by omega), sim_sd1 W R (by omega)]; exact q)).trans g, L, Z⟩
  rw [if_neg q] at h
  by_cases q2 : ((sd T s == (⟨#[115, 101, 116]⟩ : ByteArray)) && !(saidT (tkAt T (s.next + 1)) == (⟨#[58]⟩ : ByteArray))) = true
  · rw [if_pos q2] at h
    have hk := kind_of_sd hm hs (Bool.and_eq_true_iff.1 q2).1 (by decide)
    have p := P2 _ _ _ _ hk hs h
    obtain ⟨y, v, g, L, Z⟩ := ih (.accessor 31) (.accessor 31) l _ _ _ _ (.refl _) h0 hd hl R hk hs h hle (hy.imp_right fun k _ => k rfl)
    exact ⟨y, v, (if_neg (by rw [sim_sd W R (by omega), sim_sd1 W R (by omega)]; exact q)).trans ((if_pos (by rw [sim_sd W R (by omega), sim_sd1 W R (by omega)]; exact q2)).trans g), L, Z⟩
  rw [if_neg q2] at h
  obtain ⟨x3, s3, h3, h⟩ := Rs.bind_inv h
  have p3 := P .key _ _ _ trivial hs h3
  obtain ⟨w4, z4, k4, h⟩ := Rs.bind_inv h
  obtain ⟨q4, rfl⟩ := take1_inv k4
  have l4 : s3.on.next < T.length := tok_end hm p3.2 (kind_of_sd hm p3.2 q4 (by decide))
  have n4 : s3.on.next = s3.next + 1 := rfl
  obtain ⟨x5, s5, h5, h⟩ := Rs.bind_inv h
  have p5 := P .assign _ _ _ trivial l4 h5
  obtain ⟨rfl, e1, e2⟩ := mk_inv h
  obtain ⟨y3, u3, g3, L3, R3⟩ := ih .key .key l _ _ _ _ (.refl _) h0 hd hl R trivial hs h3 (by omega) (Or.inl (by omega))
  obtain ⟨y5, u5, g5, L5, R5⟩ := ih .assign .assign l _ _ _ _ (.refl _) h0 hd hl R3.on trivial l4 h5 (by omega) (hy.elim (fun h => Or.inl (by omega)) (fun h => Or.inr fun _ => h rfl))
  exact ⟨.mk 29 (here U u) ⟨#[]⟩ 0 [y3, y5], { u5 with parts := w64 (u5.parts + 1) }, (if_neg (by rw [sim_sd W R (by omega), sim_sd1 W R (by omega)]; exact q)).trans ((if_neg (by rw [sim_sd W R (by omega), sim_sd1 W R (by omega)]; exact q2)).trans ((Rs.bind_ok g3 _).trans ((Rs.bind_ok (sim_take W R3 (by omega) q4) _).trans (Rs.bind_ok g5 _)))), np_mk rfl rfl (nps_cons L3 (nps_cons L5 rfl)), R5.to e1 e2 rfl rfl⟩
theorem sx_accessor (hm : MayP T) (W : Two T U a b e d) {r r' : Mth → Ps → Rs Tr} (P : ProgA T r) (ih : AllSim T U a b e d r r') {l : Int} {s u s1 : Ps} {t : Tr} {k : Nat} (hp : (tok T s).kind ≠ 0) (h0 : 0 ≤ l) (hd : 0 ≤ d) (hl : l + d ≤ 200) (R : SimS a b d l s u) (hs : s.next < T.length)
    (h : step T r (.accessor k) s = .ok t s1) (hle : s1.next ≤ a + e) : ∃ t' u1, step U r' (.accessor k) u = .ok t' u1 ∧ t.np = t'.np ∧ SimS a b d l s1 u1 := by
  dsimp only [step] at h ⊢
  have l1 : s.on.next < T.length := tok_end hm hs hp
  have n1 : s.on.next = s.next + 1 := rfl
  obtain ⟨x2, s2, h2, h⟩ := Rs.bind_inv h
  have p2 := P .key _ _ _ trivial l1 h2
  obtain ⟨w3, z3, k3, h⟩ := Rs.bind_inv h
  obtain ⟨q3, rfl⟩ := take1_inv k3
  have l3 : s2.on.next < T.length := tok_end hm p2.2 (kind_of_sd hm p2.2 q3 (by decide))
  have n3 : s2.on.next = s2.next + 1 := rfl
  obtain ⟨X, s4, hX, h⟩ := Rs.bind_inv h
  have hC : s2.on.next ≤ s4.next ∧ s4.next < T.length ∧ (s4.next < a + e → ∀ {v : Ps}, SimS a b d l s2.on v → ∃ X' u4, (if k = 31 then (paramR U v).bind fun y s3 => .ok [y] s3 else .ok [] v) = .ok X' u4 ∧ Tr.nps X = Tr.nps X' ∧ SimS a b d l s4 u4) := by
    by_cases q : k = 31
    · rw [if_pos q] at hX
      obtain ⟨x5, s5, h5, hX⟩ := Rs.bind_inv hX
      have p5 := prog_paramN hm _ _ _ l3 h5
      obtain ⟨eX, e8⟩ := Rs.ok_inj hX
      subst e8
      refine ⟨by omega, by omega, fun hlt v Rv => ?_⟩
      obtain ⟨y5, u5, g5, L5, R5⟩ := sim_param W l _ _ _ _ Rv l3 h5 (by omega)
      exact ⟨[y5], u5, (if_pos q).trans (Rs.bind_ok g5 _), by rw [eX]; exact nps_cons L5 rfl, R5⟩
    · rw [if_neg q] at hX
      obtain ⟨eX, e8⟩ := Rs.ok_inj hX
      subst e8
      exact ⟨Nat.le_refl _, l3, fun hlt v Rv => ⟨[], v, if_neg q, by rw [eX], Rv⟩⟩
  obtain ⟨c1, c2, c3⟩ := hC
  obtain ⟨w5, z5, k5, h⟩ := Rs.bind_inv h
  obtain ⟨q5, rfl⟩ := take1_inv k5
  have l5 : s4.on.next < T.length := tok_end hm c2 (kind_of_sd hm c2 q5 (by decide))
  have n5 : s4.on.next = s4.next + 1 := rfl
  obtain ⟨x6, s6, h6, h⟩ := Rs.bind_inv h
  have p6 := P .block _ _ _ trivial l5 h6
  obtain ⟨x7, s7, h7, h⟩ := Rs.bind_inv h
  obtain ⟨rfl, e71, e72⟩ := mk_inv h7
  obtain ⟨rfl, e1, e2⟩ := mk_inv h
  obtain ⟨y2, u2, g2, L2, R2⟩ := ih .key .key l _ _ _ _ (.refl _) h0 hd hl R.on trivial l1 h2 (by omega) (Or.inl (by omega))
  obtain ⟨X', u4, g4, L4, R4⟩ := c3 (by omega) R2.on
  obtain ⟨y6, u6, g6, L6, R6⟩ := ih .block .block l _ _ _ _ (.refl _) h0 hd hl R4.on trivial l5 h6 (by omega) (Or.inr fun h => Bool.noConfusion (show false = true from h))
  exact ⟨.mk k (here U u) ⟨#[]⟩ 0 [y2, .mk 27 (here U u2) ⟨#[]⟩ 0 (X' ++ [y6])], { u6 with parts := w64 (w64 (u6.parts + 1) + 1) }, (Rs.bind_ok g2 _).trans ((Rs.bind_ok (sim_take W R2 (by omega) q3) _).trans ((Rs.bind_ok g4 _).trans ((Rs.bind_ok (sim_take W R4 (by omega) q5) _).trans (Rs.bind_ok g6 _)))), np_mk rfl rfl (nps_cons L2 (nps_cons (np_mk rfl rfl (nps_snoc L4 L6)) rfl)), (R6.to e71 e72 (u1 := { u6 with parts := w64 (u6.parts + 1) }) rfl rfl).to e1 e2 rfl rfl⟩
theorem sim_step (hm : MayP T) (W : Two T U a b e d) {r r' : Mth → Ps → Rs Tr} (P : ProgA T r) (P2 : ∀ k s t s1, (tok T s).kind ≠ 0 → s.next < T.length → r (.accessor k) s = .ok t s1 → s.next + 1 < s1.next) (ih : AllSim T U a b e d r r') : AllSim T U a b e d (step T r) (step U r') := by
  intro m m' l s u t s1 hmm h0 hd hl R hp hs h hle hy
  cases hmm with
  | fn k p q n => exact sx_function hm W P ih h0 hd hl R hs h hle
  | refl =>
    cases m with
    | statement => exact sx_statement hm W P ih h0 hd hl R hs h hle hy
    | stated => exact sx_stated hm W P ih h0 hd hl R hs h hle hy
    | body => exact sx_body hm W P ih h0 hd hl R hs h hle hy
    | bodyIn => exact sx_bodyIn hm W P ih h0 hd hl R hs h hle hy
    | block => exact sx_block hm W P ih h0 hd hl R hs h hle hy
    | declaration => exact sx_declaration hm W P ih h0 hd hl R hs h hle hy
    | branch => exact sx_branch hm W P ih h0 hd hl R hs h hle hy
    | loop => exact sx_loop hm W P ih h0 hd hl R hs h hle hy
    | answer => exact sx_answer hm W P ih h0 hd hl R hs h hle hy
    | guarded => exact sx_guarded hm W P ih h0 hd hl R hs h hle hy
    | test => exact sx_test hm W P ih h0 hd hl R hs h hle hy
    | ended => exact sx_ended hm W P ih h0 hd hl R hs h hle hy
    | assign => exact sx_assign hm W P ih h0 hd hl R hs h hle hy
    | assigned => exact sx_assigned hm W P ih h0 hd hl R hs h hle hy
    | cond => exact sx_cond hm W P ih h0 hd hl R hs h hle hy
    | unary => exact sx_unary hm W P ih h0 hd hl R hs h hle hy
    | led => exact sx_led hm W P ih hp h0 hd hl R hs h hle hy
    | head => exact sx_head hm W P ih h0 hd hl R hs h hle hy
    | newIn => exact sx_newIn hm W P ih h0 hd hl R hs h hle hy
    | primary => exact sx_primary hm W P ih h0 hd hl R hs h hle hy
    | nested => exact sx_nested hm W P ih h0 hd hl R hs h hle hy
    | pair => exact sx_pair hm W P P2 ih h0 hd hl R hs h hle hy
    | key => exact sx_key hm W P ih h0 hd hl R hs h hle hy
    | function k p n => exact sx_function hm W P ih h0 hd hl R hs h hle
    | sides n => exact sx_sides hm W P ih hp h0 hd hl R hs h hle hy
    | chain c => exact sx_chain hm W P ih h0 hd hl R hs h hle hy
    | accessor k => exact sx_accessor hm W P ih hp h0 hd hl R hs h hle
theorem prog_run (hm : MayP T) (n : Nat) : ProgA T (run T n) := fun m s t s1 hp hs h => by
  have h1 : run T (n + (20 * T.length + 20)) m s = run T n m s := run_more (by omega) (by rw [h]; intro e; cases e)
  have h2 := run_gd (n := n + (20 * T.length + 20)) hm hp hs (by omega)
  rw [h1, h] at h2
  exact ⟨h2.1, h2.2⟩
theorem prog_acc (hm : MayP T) : ∀ (n : Nat) (k : Nat) (s : Ps) (t : Tr) (s1 : Ps), (tok T s).kind ≠ 0 → s.next < T.length → run T n (.accessor k) s = .ok t s1 → s.next + 1 < s1.next
  | 0, _, _, _, _, _, _, h => by cases h
  | n + 1, k, s, t, s1, hk, hs, h => by
    have h : step T (run T n) (.accessor k) s = .ok t s1 := h
    dsimp only [step] at h
    obtain ⟨x2, s2, h2, h⟩ := Rs.bind_inv h
    have p2 := prog_run hm n .key _ _ _ trivial (tok_end hm hs hk) h2
    have n1 : s.on.next = s.next + 1 := rfl
    obtain ⟨w3, z3, k3, h⟩ := Rs.bind_inv h
    obtain ⟨q3, rfl⟩ := take1_inv k3
    have l3 : s2.on.next < T.length := tok_end hm p2.2 (kind_of_sd hm p2.2 q3 (by decide))
    have n3 : s2.on.next = s2.next + 1 := rfl
    obtain ⟨X, s4, hX, h⟩ := Rs.bind_inv h
    have hC : s2.on.next ≤ s4.next := by
      by_cases q : k = 31
      · rw [if_pos q] at hX
        obtain ⟨x5, s5, h5, hX⟩ := Rs.bind_inv hX
        have p5 := prog_paramN hm _ _ _ l3 h5
        obtain ⟨eX, e8⟩ := Rs.ok_inj hX
        subst e8
        omega
      · rw [if_neg q] at hX
        obtain ⟨eX, e8⟩ := Rs.ok_inj hX
        subst e8
        exact Nat.le_refl _
    have hC2 : s4.next < T.length := by
      by_cases q : k = 31
      · rw [if_pos q] at hX
        obtain ⟨x5, s5, h5, hX⟩ := Rs.bind_inv hX
        have p5 := prog_paramN hm _ _ _ l3 h5
        obtain ⟨eX, e8⟩ := Rs.ok_inj hX
        subst e8
        omega
      · rw [if_neg q] at hX
        obtain ⟨eX, e8⟩ := Rs.ok_inj hX
        subst e8
        exact l3
    obtain ⟨w5, z5, k5, h⟩ := Rs.bind_inv h
    obtain ⟨q5, rfl⟩ := take1_inv k5
    have n5 : s4.on.next = s4.next + 1 := rfl
    obtain ⟨x6, s6, h6, h⟩ := Rs.bind_inv h
    have p6 := prog_run hm n .block _ _ _ trivial (tok_end hm hC2 (kind_of_sd hm hC2 q5 (by decide))) h6
    obtain ⟨x7, s7, h7, h⟩ := Rs.bind_inv h
    obtain ⟨rfl, e71, e72⟩ := mk_inv h7
    obtain ⟨rfl, e1, e2⟩ := mk_inv h
    omega
/-- what is read of the one is read of the other, in whatever depth -/
theorem sim_run (hm : MayP T) (W : Two T U a b e d) : ∀ n, AllSim T U a b e d (run T n) (run U n)
  | 0 => fun m m' l s u t s1 _ _ _ _ _ _ _ h => by cases h
  | n + 1 => sim_step hm W (prog_run hm n) (prog_acc hm n) (sim_run hm W n)
end
end Go.Proofs.YtjapainhlfedgaaGreatDoor.S
