/-
  What holds of the empty text and of each token's holds of every text of what is read. Plain mathematics. Generated: gen_tx.py.
-/
import Derived.Test.YtablckajobefeaaGreatDoorPN20
import Derived.Test.YtablckajobefeaaGreatDoorPN13
import Derived.Test.YtablckajobefeaaGreatDoorPN21
import Derived.Recover
namespace Go.Proofs.YtablckajobefeaaGreatDoor.S
open Go.RowKit Fl

section
variable {T : List Tk} {q : ByteArray → Prop}
mutual
def Tr.all (q : ByteArray → Prop) : Tr → Prop
  | .mk _ _ t _ l => q t ∧ Tr.alls q l
def Tr.alls (q : ByteArray → Prop) : List Tr → Prop
  | [] => True
  | t :: l => t.all q ∧ Tr.alls q l
end
theorem alls_append (l m : List Tr) : Tr.alls q (l ++ m) ↔ Tr.alls q l ∧ Tr.alls q m := by
  induction l with
  | nil => simp [Tr.alls]
  | cons t l ih => simp [Tr.alls, ih, and_assoc]
theorem alls_one (t : Tr) : Tr.alls q [t] ↔ t.all q := by simp [Tr.alls]
theorem alls_nil : Tr.alls q [] := by simp [Tr.alls]
theorem alls_cons {t : Tr} {l : List Tr} (h : t.all q) (k : Tr.alls q l) : Tr.alls q (t :: l) := by simp [Tr.alls, h, k]
def txM (q : ByteArray → Prop) : Mth → Prop
  | .function _ _ n => q n
  | _ => True
def TxA (q : ByteArray → Prop) (r : Mth → Ps → Rs Tr) : Prop := ∀ m s t s1, txM q m → r m s = .ok t s1 → t.all q
def TxF (q : ByteArray → Prop) (f : Ps → Rs Tr) : Prop := ∀ s t s1, f s = .ok t s1 → t.all q
structure Qs (T : List Tk) (q : ByteArray → Prop) : Prop where
  z : q ⟨#[]⟩
  t : ∀ s, q (tok T s).text
theorem Qs.s (Q : Qs T q) (s : Ps) : q (sd T s) := by
  unfold sd saidT
  split
  · exact Q.z
  · exact Q.t s
theorem tx_listed {f : Ps → Rs Tr} (Z : TxF q f) {c : ByteArray} (M : Nat) : ∀ (n : Nat) (L : List Tr) (s : Ps) (t : List Tr) (s1 : Ps), Tr.alls q L → listedR T c M f n L s = .ok t s1 → Tr.alls q t
  | 0, _, _, _, _, _, h => by unfold listedR at h; cases h
  | n + 1, L, s, t, s1, hL, h => by
    unfold listedR at h
    by_cases q1 : L.length = M
    · rw [if_pos q1] at h; cases h
    rw [if_neg q1] at h
    obtain ⟨x, s2, h1, h⟩ := Rs.bind_inv h
    have hx := Z s x s2 h1
    by_cases q2 : (sd T s2 == c) = true
    · rw [if_pos q2] at h
      rw [(Rs.ok_inj h).1]
      exact (alls_append _ _).2 ⟨hL, (alls_one _).2 hx⟩
    · rw [if_neg q2] at h
      obtain ⟨y, s3, h2, h⟩ := Rs.bind_inv h
      exact tx_listed Z M n _ _ _ _ ((alls_append _ _).2 ⟨hL, (alls_one _).2 hx⟩) h
theorem tx_list {f : Ps → Rs Tr} (Z : TxF q f) {c : ByteArray} (M : Nat) {s s1 : Ps} {t : List Tr} (h : listR T c M f s = .ok t s1) : Tr.alls q t := by
  unfold listR at h
  by_cases q1 : (sd T s == c) = true
  · rw [if_pos q1] at h
    rw [(Rs.ok_inj h).1]
    exact alls_nil
  · rw [if_neg q1] at h
    exact tx_listed Z M _ _ _ _ _ alls_nil h
theorem tx_block {f : Ps → Rs Tr} (Z : TxF q f) : ∀ (n : Nat) (L : List Tr) (s : Ps) (t : List Tr) (s1 : Ps), Tr.alls q L → blockL T f n L s = .ok t s1 → Tr.alls q t
  | 0, _, _, _, _, _, h => by unfold blockL at h; cases h
  | n + 1, L, s, t, s1, hL, h => by
    unfold blockL at h
    by_cases q1 : (sd T s == (⟨#[125]⟩ : ByteArray)) = true
    · rw [if_pos q1] at h
      rw [(Rs.ok_inj h).1]
      exact hL
    · rw [if_neg q1] at h
      obtain ⟨x, s2, h1, h⟩ := Rs.bind_inv h
      exact tx_block Z n _ _ _ _ ((alls_append _ _).2 ⟨hL, (alls_one _).2 (Z s x s2 h1)⟩) h
theorem tx_script {f : Ps → Rs Tr} (Z : TxF q f) : ∀ (n : Nat) (L : List Tr) (s : Ps) (t : List Tr) (s1 : Ps), Tr.alls q L → scriptL T f n L s = .ok t s1 → Tr.alls q t
  | 0, _, _, _, _, _, h => by unfold scriptL at h; cases h
  | n + 1, L, s, t, s1, hL, h => by
    unfold scriptL at h
    by_cases q1 : (tok T s).kind = 0
    · rw [if_pos q1] at h
      rw [(Rs.ok_inj h).1]
      exact hL
    · rw [if_neg q1] at h
      obtain ⟨x, s2, h1, h⟩ := Rs.bind_inv h
      exact tx_script Z n _ _ _ _ ((alls_append _ _).2 ⟨hL, (alls_one _).2 (Z s x s2 h1)⟩) h
theorem tx_args {r : Mth → Ps → Rs Tr} (Z : TxF q (r .assign)) {x : Tr} (hx : x.all q) {s s1 : Ps} {t : List Tr} (h : argsR T r x s = .ok t s1) : Tr.alls q t := by
  unfold argsR at h
  obtain ⟨y, s2, h1, h⟩ := Rs.bind_inv h
  obtain ⟨m, s3, h2, h⟩ := Rs.bind_inv h
  rw [(Rs.ok_inj h).1]
  exact alls_cons hx (tx_list Z 64 h2)
theorem tx_mk {k : Nat} {p : Int} {x : Nat} {c : ByteArray} {l : List Tr} (hc : q c) (hl : Tr.alls q l) : (Tr.mk k p c x l).all q := by unfold Tr.all; exact ⟨hc, hl⟩
theorem tx_top {k : Nat} {p : Int} {x : Nat} {c : ByteArray} {l : List Tr} (h : (Tr.mk k p c x l).all q) : q c := by unfold Tr.all at h; exact h.1
theorem tx_sides (Q : Qs T q) {r : Mth → Ps → Rs Tr} (Z : ∀ k, TxF q (r (.sides k))) (p : Int) {k : Nat} : ∀ (n : Nat) (x : Tr) (s : Ps) (t : Tr) (s1 : Ps), x.all q → sidesL T r p k n x s = .ok t s1 → t.all q
  | 0, _, _, _, _, _, h => by unfold sidesL at h; cases h
  | n + 1, x, s, t, s1, hx, h => by
    unfold sidesL at h
    by_cases q1 : levelOf (sd T s) < k
    · rw [if_pos q1] at h
      rw [(Rs.ok_inj h).1]
      exact hx
    · rw [if_neg q1] at h
      obtain ⟨y, s2, h1, h⟩ := Rs.bind_inv h
      obtain ⟨z, s3, h2, h⟩ := Rs.bind_inv h
      obtain ⟨rfl, e1, e2⟩ := mk_inv h2
      refine tx_sides Q Z p n _ _ _ _ (tx_mk ?_ (alls_cons hx (alls_cons (Z _ _ _ _ h1) alls_nil))) h
      split
      · exact Q.z
      · exact Q.s _
theorem tx_chain (Q : Qs T q) {r : Mth → Ps → Rs Tr} (Z : TxF q (r .assign)) (p : Int) (c : Bool) : ∀ (n : Nat) (x : Tr) (s : Ps) (t : Tr) (s1 : Ps), x.all q → chainL T r p c n x s = .ok t s1 → t.all q
  | 0, _, _, _, _, _, h => by unfold chainL at h; cases h
  | n + 1, x, s, t, s1, hx, h => by
    unfold chainL at h
    by_cases q1 : (sd T s == (⟨#[46]⟩ : ByteArray)) = true
    · rw [if_pos q1] at h
      obtain ⟨y, s2, h1, h⟩ := Rs.bind_inv h
      obtain ⟨k1, k2, rfl⟩ := word_inv h1
      obtain ⟨z, s3, h2, h⟩ := Rs.bind_inv h
      obtain ⟨rfl, e1, e2⟩ := mk_inv h2
      exact tx_chain Q Z p c n _ _ _ _ (tx_mk (by rw [k2]; exact Q.t _) (alls_cons hx alls_nil)) h
    rw [if_neg q1] at h
    by_cases q2 : (sd T s == (⟨#[91]⟩ : ByteArray)) = true
    · rw [if_pos q2] at h
      obtain ⟨y, s2, h1, h⟩ := Rs.bind_inv h
      obtain ⟨v, s3, h2, h⟩ := Rs.bind_inv h
      obtain ⟨z, s4, h3, h⟩ := Rs.bind_inv h
      obtain ⟨rfl, e1, e2⟩ := mk_inv h3
      exact tx_chain Q Z p c n _ _ _ _ (tx_mk Q.z (alls_cons hx (alls_cons (Z _ _ _ h1) alls_nil))) h
    rw [if_neg q2] at h
    by_cases q3 : (c && (sd T s == (⟨#[40]⟩ : ByteArray))) = true
    · rw [if_pos q3] at h
      obtain ⟨y, s2, h1, h⟩ := Rs.bind_inv h
      obtain ⟨z, s4, h3, h⟩ := Rs.bind_inv h
      obtain ⟨rfl, e1, e2⟩ := mk_inv h3
      exact tx_chain Q Z p c n _ _ _ _ (tx_mk Q.z (tx_args Z hx h1)) h
    · rw [if_neg q3] at h
      rw [(Rs.ok_inj h).1]
      exact hx
theorem tx_decl (Q : Qs T q) {s s1 : Ps} {t : Tr} (h : declR T s = .ok t s1) : t.all q ∧ ∃ k p n m, t = .mk k p n m [] := by
  unfold declR at h
  by_cases q1 : (sd T s == (⟨#[99, 111, 110, 115, 116]⟩ : ByteArray)) = true
  · rw [if_pos q1] at h
    obtain ⟨w1, z1, k1, h⟩ := Rs.bind_inv h
    obtain ⟨q2, rfl, rfl⟩ := name_inv k1
    obtain ⟨rfl, e1, e2⟩ := mk_inv h
    exact ⟨tx_mk (Q.t _) alls_nil, _, _, _, _, rfl⟩
  · rw [if_neg q1] at h
    obtain ⟨w0, z0, k0, h⟩ := Rs.bind_inv h
    obtain ⟨w1, z1, k1, h⟩ := Rs.bind_inv h
    obtain ⟨q2, rfl, rfl⟩ := name_inv k1
    obtain ⟨rfl, e1, e2⟩ := mk_inv h
    exact ⟨tx_mk (Q.t _) alls_nil, _, _, _, _, rfl⟩
theorem tx_param (Q : Qs T q) : TxF q (paramR T) := fun s t s1 h => by
  unfold paramR at h
  obtain ⟨w1, z1, k1, h⟩ := Rs.bind_inv h
  obtain ⟨q2, rfl, rfl⟩ := name_inv k1
  obtain ⟨rfl, e1, e2⟩ := mk_inv h
  exact tx_mk (Q.t _) alls_nil
theorem tx_bare (Q : Qs T q) {k : Nat} {l : List ByteArray} {s s1 : Ps} {t : Tr} (h : bareR T k l s = .ok t s1) : t.all q := by
  unfold bareR at h
  obtain ⟨w1, z1, k1, h⟩ := Rs.bind_inv h
  obtain ⟨rfl, h2, h3⟩ := mk_inv h
  exact tx_mk Q.z alls_nil
theorem tx_deeper {f : Ps → Rs Tr} (Z : TxF q f) {s s1 : Ps} {t : Tr} (h : deeperR T f s = .ok t s1) : t.all q := by
  obtain ⟨_, s2, e1, _⟩ := deeper_inv h
  exact Z _ _ _ e1
theorem tx_m_bodyIn (_Q : Qs T q) {r : Mth → Ps → Rs Tr} (Z : TxA q r) {s s1 : Ps} {t : Tr} (h : step T r .bodyIn s = .ok t s1) : t.all q := by
  dsimp only [step] at h
  by_cases q1 : ((sd T s) == (⟨#[108, 101, 116]⟩ : ByteArray) || (sd T s) == (⟨#[99, 111, 110, 115, 116]⟩ : ByteArray) || (sd T s) == (⟨#[102, 117, 110, 99, 116, 105, 111, 110]⟩ : ByteArray)) = true
  · rw [if_pos q1] at h
    cases h
  · rw [if_neg q1] at h
    exact Z (.stated) _ _ _ trivial h
theorem tx_m_ended (_Q : Qs T q) {r : Mth → Ps → Rs Tr} (Z : TxA q r) {s s1 : Ps} {t : Tr} (h : step T r .ended s = .ok t s1) : t.all q := by
  dsimp only [step] at h
  obtain ⟨x1, s11, h1, h⟩ := Rs.bind_inv h
  have z1 := Z (.assign) _ _ _ trivial h1
  obtain ⟨w2, z2, k2, h⟩ := Rs.bind_inv h
  obtain ⟨q2, rfl⟩ := take1_inv k2
  rw [(Rs.ok_inj h).1]
  assumption
theorem tx_m_test (_Q : Qs T q) {r : Mth → Ps → Rs Tr} (Z : TxA q r) {s s1 : Ps} {t : Tr} (h : step T r .test s = .ok t s1) : t.all q := by
  dsimp only [step] at h
  obtain ⟨w1, z1, k1, h⟩ := Rs.bind_inv h
  obtain ⟨q1, rfl⟩ := take1_inv k1
  obtain ⟨x2, s12, h2, h⟩ := Rs.bind_inv h
  have z2 := Z (.assign) _ _ _ trivial h2
  obtain ⟨w3, z3, k3, h⟩ := Rs.bind_inv h
  obtain ⟨q3, rfl⟩ := take1_inv k3
  rw [(Rs.ok_inj h).1]
  assumption
theorem tx_m_block (Q : Qs T q) {r : Mth → Ps → Rs Tr} (Z : TxA q r) {s s1 : Ps} {t : Tr} (h : step T r .block s = .ok t s1) : t.all q := by
  dsimp only [step] at h
  obtain ⟨w1, z1, k1, h⟩ := Rs.bind_inv h
  obtain ⟨q1, rfl⟩ := take1_inv k1
  obtain ⟨x2, s12, h2, h⟩ := Rs.bind_inv h
  have z2 := tx_block (fun _ _ _ h => Z .statement _ _ _ trivial h) _ _ _ _ _ alls_nil h2
  obtain ⟨rfl, e1, e2⟩ := mk_inv h
  refine tx_mk ?_ ?_
  · first | exact Q.z | exact Q.t _ | exact Q.s _ | assumption
  · repeat' (first | assumption | exact alls_nil | apply alls_cons | (refine (alls_append _ _).2 ⟨?_, ?_⟩))
set_option maxHeartbeats 1000000 in
theorem tx_m_stated (Q : Qs T q) {r : Mth → Ps → Rs Tr} (Z : TxA q r) {s s1 : Ps} {t : Tr} (h : step T r .stated s = .ok t s1) : t.all q := by
  dsimp only [step] at h
  by_cases q1 : ((sd T s) == (⟨#[123]⟩ : ByteArray)) = true
  · rw [if_pos q1] at h
    exact Z (.block) _ _ _ trivial h
  · rw [if_neg q1] at h
    by_cases q2 : ((sd T s) == (⟨#[59]⟩ : ByteArray)) = true
    · rw [if_pos q2] at h
      exact tx_bare Q h
    · rw [if_neg q2] at h
      by_cases q3 : ((sd T s) == (⟨#[108, 101, 116]⟩ : ByteArray) || (sd T s) == (⟨#[99, 111, 110, 115, 116]⟩ : ByteArray)) = true
      · rw [if_pos q3] at h
        exact Z (.declaration) _ _ _ trivial h
      · rw [if_neg q3] at h
        by_cases q4 : ((sd T s) == (⟨#[102, 117, 110, 99, 116, 105, 111, 110]⟩ : ByteArray)) = true
        · rw [if_pos q4] at h
          obtain ⟨w5, z5, k5, h⟩ := Rs.bind_inv h
          obtain ⟨q5, rfl⟩ := take1_inv k5
          obtain ⟨w6, z6, k6, h⟩ := Rs.bind_inv h
          obtain ⟨q6, rfl, rfl⟩ := name_inv k6
          exact Z (.function 5 (here T s) (tok T s.on).text) _ _ _ (by first | exact Q.z | exact Q.t _) h
        · rw [if_neg q4] at h
          by_cases q5 : ((sd T s) == (⟨#[105, 102]⟩ : ByteArray)) = true
          · rw [if_pos q5] at h
            exact Z (.branch) _ _ _ trivial h
          · rw [if_neg q5] at h
            by_cases q6 : ((sd T s) == (⟨#[119, 104, 105, 108, 101]⟩ : ByteArray)) = true
            · rw [if_pos q6] at h
              obtain ⟨w7, z7, k7, h⟩ := Rs.bind_inv h
              obtain ⟨q7, rfl⟩ := take1_inv k7
              obtain ⟨x8, s18, h8, h⟩ := Rs.bind_inv h
              have z8 := Z (.test) _ _ _ trivial h8
              obtain ⟨x9, s19, h9, h⟩ := Rs.bind_inv h
              have z9 := Z (.body) _ _ _ trivial h9
              obtain ⟨rfl, e1, e2⟩ := mk_inv h
              refine tx_mk ?_ ?_
              · first | exact Q.z | exact Q.t _ | exact Q.s _ | assumption
              · repeat' (first | assumption | exact alls_nil | apply alls_cons | (refine (alls_append _ _).2 ⟨?_, ?_⟩))
            · rw [if_neg q6] at h
              by_cases q7 : ((sd T s) == (⟨#[102, 111, 114]⟩ : ByteArray)) = true
              · rw [if_pos q7] at h
                exact Z (.loop) _ _ _ trivial h
              · rw [if_neg q7] at h
                by_cases q8 : ((sd T s) == (⟨#[114, 101, 116, 117, 114, 110]⟩ : ByteArray)) = true
                · rw [if_pos q8] at h
                  exact Z (.answer) _ _ _ trivial h
                · rw [if_neg q8] at h
                  by_cases q9 : ((sd T s) == (⟨#[116, 104, 114, 111, 119]⟩ : ByteArray)) = true
                  · rw [if_pos q9] at h
                    obtain ⟨w10, z10, k10, h⟩ := Rs.bind_inv h
                    obtain ⟨q10, rfl⟩ := take1_inv k10
                    obtain ⟨x11, s21, h11, h⟩ := Rs.bind_inv h
                    have z11 := Z (.ended) _ _ _ trivial h11
                    obtain ⟨rfl, e1, e2⟩ := mk_inv h
                    refine tx_mk ?_ ?_
                    · first | exact Q.z | exact Q.t _ | exact Q.s _ | assumption
                    · repeat' (first | assumption | exact alls_nil | apply alls_cons | (refine (alls_append _ _).2 ⟨?_, ?_⟩))
                  · rw [if_neg q9] at h
                    by_cases q10 : ((sd T s) == (⟨#[98, 114, 101, 97, 107]⟩ : ByteArray)) = true
                    · rw [if_pos q10] at h
                      exact tx_bare Q h
                    · rw [if_neg q10] at h
                      by_cases q11 : ((sd T s) == (⟨#[99, 111, 110, 116, 105, 110, 117, 101]⟩ : ByteArray)) = true
                      · rw [if_pos q11] at h
                        exact tx_bare Q h
                      · rw [if_neg q11] at h
                        by_cases q12 : ((sd T s) == (⟨#[116, 114, 121]⟩ : ByteArray)) = true
                        · rw [if_pos q12] at h
                          exact Z (.guarded) _ _ _ trivial h
                        · rw [if_neg q12] at h
                          obtain ⟨x13, s23, h13, h⟩ := Rs.bind_inv h
                          have z13 := Z (.ended) _ _ _ trivial h13
                          obtain ⟨rfl, e1, e2⟩ := mk_inv h
                          refine tx_mk ?_ ?_
                          · first | exact Q.z | exact Q.t _ | exact Q.s _ | assumption
                          · repeat' (first | assumption | exact alls_nil | apply alls_cons | (refine (alls_append _ _).2 ⟨?_, ?_⟩))
theorem tx_m_declaration (Q : Qs T q) {r : Mth → Ps → Rs Tr} (Z : TxA q r) {s s1 : Ps} {t : Tr} (h : step T r .declaration s = .ok t s1) : t.all q := by
  dsimp only [step] at h
  obtain ⟨x, s2, h1, h⟩ := Rs.bind_inv h
  obtain ⟨z1, k, p, n, m, rfl⟩ := tx_decl Q h1
  dsimp only at h
  split at h
  · rw [(Rs.ok_inj h).1]
    exact z1
  · obtain ⟨w3, z3, k3, h⟩ := Rs.bind_inv h
    obtain ⟨x4, s4, h4, h⟩ := Rs.bind_inv h
    rw [(Rs.ok_inj h).1]
    exact tx_mk (tx_top z1) (alls_cons (Z .ended _ _ _ trivial h4) alls_nil)
theorem tx_m_function (Q : Qs T q) {r : Mth → Ps → Rs Tr} (Z : TxA q r) {s s1 : Ps} {t : Tr} {k : Nat} {p : Int} {n : ByteArray} (hn : q n) (h : step T r (.function k p n) s = .ok t s1) : t.all q := by
  dsimp only [step] at h
  obtain ⟨w1, z1, k1, h⟩ := Rs.bind_inv h
  obtain ⟨q1, rfl⟩ := take1_inv k1
  obtain ⟨x2, s12, h2, h⟩ := Rs.bind_inv h
  have z2 := tx_list (tx_param Q) 64 h2
  obtain ⟨x3, s13, h3, h⟩ := Rs.bind_inv h
  have z3 := Z (.block) _ _ _ trivial h3
  obtain ⟨rfl, e1, e2⟩ := mk_inv h
  refine tx_mk ?_ ?_
  · first | exact Q.z | exact Q.t _ | exact Q.s _ | assumption
  · repeat' (first | assumption | exact alls_nil | apply alls_cons | (refine (alls_append _ _).2 ⟨?_, ?_⟩))
theorem tx_m_branch (Q : Qs T q) {r : Mth → Ps → Rs Tr} (Z : TxA q r) {s s1 : Ps} {t : Tr} (h : step T r .branch s = .ok t s1) : t.all q := by
  dsimp only [step] at h
  obtain ⟨w1, z1, k1, h⟩ := Rs.bind_inv h
  obtain ⟨q1, rfl⟩ := take1_inv k1
  obtain ⟨x2, s12, h2, h⟩ := Rs.bind_inv h
  have z2 := Z (.test) _ _ _ trivial h2
  obtain ⟨x3, s13, h3, h⟩ := Rs.bind_inv h
  have z3 := Z (.body) _ _ _ trivial h3
  by_cases q4 : ((sd T s13) == (⟨#[101, 108, 115, 101]⟩ : ByteArray)) = true
  · rw [if_pos q4] at h
    obtain ⟨x6, s16, h6, h⟩ := Rs.bind_inv h
    have z6 := Z (.body) _ _ _ trivial h6
    obtain ⟨rfl, e1, e2⟩ := mk_inv h
    refine tx_mk ?_ ?_
    · first | exact Q.z | exact Q.t _ | exact Q.s _ | assumption
    · repeat' (first | assumption | exact alls_nil | apply alls_cons | (refine (alls_append _ _).2 ⟨?_, ?_⟩))
  · rw [if_neg q4] at h
    obtain ⟨rfl, e1, e2⟩ := mk_inv h
    refine tx_mk ?_ ?_
    · first | exact Q.z | exact Q.t _ | exact Q.s _ | assumption
    · repeat' (first | assumption | exact alls_nil | apply alls_cons | (refine (alls_append _ _).2 ⟨?_, ?_⟩))
theorem tx_m_loop (Q : Qs T q) {r : Mth → Ps → Rs Tr} (Z : TxA q r) {s s1 : Ps} {t : Tr} (h : step T r .loop s = .ok t s1) : t.all q := by
  dsimp only [step] at h
  obtain ⟨w1, z1, k1, h⟩ := Rs.bind_inv h
  obtain ⟨q1, f1, rfl⟩ := takes2_inv k1
  obtain ⟨x2, s12, h2, h⟩ := Rs.bind_inv h
  have z2 := (tx_decl Q h2).1
  by_cases q3 : ((sd T s12) == (⟨#[105, 110]⟩ : ByteArray)) = true
  · rw [if_pos q3] at h
    obtain ⟨x5, s15, h5, h⟩ := Rs.bind_inv h
    have z5 := Z (.assign) _ _ _ trivial h5
    obtain ⟨w6, z6, k6, h⟩ := Rs.bind_inv h
    obtain ⟨q6, rfl⟩ := take1_inv k6
    obtain ⟨x7, s17, h7, h⟩ := Rs.bind_inv h
    have z7 := Z (.body) _ _ _ trivial h7
    obtain ⟨rfl, e1, e2⟩ := mk_inv h
    refine tx_mk ?_ ?_
    · first | exact Q.z | exact Q.t _ | exact Q.s _ | assumption
    · repeat' (first | assumption | exact alls_nil | apply alls_cons | (refine (alls_append _ _).2 ⟨?_, ?_⟩))
  · rw [if_neg q3] at h
    obtain ⟨w4, z4, k4, h⟩ := Rs.bind_inv h
    obtain ⟨q4, rfl⟩ := take1_inv k4
    obtain ⟨x5, s15, h5, h⟩ := Rs.bind_inv h
    have z5 := Z (.assign) _ _ _ trivial h5
    obtain ⟨w6, z6, k6, h⟩ := Rs.bind_inv h
    obtain ⟨q6, rfl⟩ := take1_inv k6
    obtain ⟨x7, s17, h7, h⟩ := Rs.bind_inv h
    have z7 := Z (.body) _ _ _ trivial h7
    obtain ⟨rfl, e1, e2⟩ := mk_inv h
    refine tx_mk ?_ ?_
    · first | exact Q.z | exact Q.t _ | exact Q.s _ | assumption
    · repeat' (first | assumption | exact alls_nil | apply alls_cons | (refine (alls_append _ _).2 ⟨?_, ?_⟩))
theorem tx_m_answer (Q : Qs T q) {r : Mth → Ps → Rs Tr} (Z : TxA q r) {s s1 : Ps} {t : Tr} (h : step T r .answer s = .ok t s1) : t.all q := by
  dsimp only [step] at h
  obtain ⟨w1, z1, k1, h⟩ := Rs.bind_inv h
  obtain ⟨q1, rfl⟩ := take1_inv k1
  by_cases q2 : ((sd T s.on) == (⟨#[59]⟩ : ByteArray)) = true
  · rw [if_pos q2] at h
    obtain ⟨rfl, e1, e2⟩ := mk_inv h
    refine tx_mk ?_ ?_
    · first | exact Q.z | exact Q.t _ | exact Q.s _ | assumption
    · repeat' (first | assumption | exact alls_nil | apply alls_cons | (refine (alls_append _ _).2 ⟨?_, ?_⟩))
  · rw [if_neg q2] at h
    obtain ⟨x3, s13, h3, h⟩ := Rs.bind_inv h
    have z3 := Z (.ended) _ _ _ trivial h3
    obtain ⟨rfl, e1, e2⟩ := mk_inv h
    refine tx_mk ?_ ?_
    · first | exact Q.z | exact Q.t _ | exact Q.s _ | assumption
    · repeat' (first | assumption | exact alls_nil | apply alls_cons | (refine (alls_append _ _).2 ⟨?_, ?_⟩))
theorem tx_m_guarded (Q : Qs T q) {r : Mth → Ps → Rs Tr} (Z : TxA q r) {s s1 : Ps} {t : Tr} (h : step T r .guarded s = .ok t s1) : t.all q := by
  dsimp only [step] at h
  obtain ⟨w1, z1, k1, h⟩ := Rs.bind_inv h
  obtain ⟨x2, s2, h2, h⟩ := Rs.bind_inv h
  have z2 := Z .block _ _ _ trivial h2
  obtain ⟨X, s8, hX, h⟩ := Rs.bind_inv h
  obtain ⟨Y, s11, hY, h⟩ := Rs.bind_inv h
  have hX : Tr.alls q X := by
    split at hX
    · obtain ⟨w3, z3, k3, hX⟩ := Rs.bind_inv hX
      obtain ⟨w4, z4, k4, hX⟩ := Rs.bind_inv hX
      obtain ⟨q4, rfl, rfl⟩ := name_inv k4
      obtain ⟨w5, z5, k5, hX⟩ := Rs.bind_inv hX
      obtain ⟨x6, s6, h6, hX⟩ := Rs.bind_inv hX
      obtain ⟨x7, s7, h7, hX⟩ := Rs.bind_inv hX
      obtain ⟨rfl, e1, e2⟩ := mk_inv h7
      rw [(Rs.ok_inj hX).1]
      exact alls_cons z2 (alls_cons (tx_mk (Q.t _) (alls_cons (Z .block _ _ _ trivial h6) alls_nil)) alls_nil)
    · rw [(Rs.ok_inj hX).1]
      exact alls_cons z2 alls_nil
  have hY : Tr.alls q Y := by
    split at hY
    · obtain ⟨x9, s9, h9, hY⟩ := Rs.bind_inv hY
      obtain ⟨x10, s10, h10, hY⟩ := Rs.bind_inv hY
      obtain ⟨rfl, e1, e2⟩ := mk_inv h10
      rw [(Rs.ok_inj hY).1]
      exact (alls_append _ _).2 ⟨hX, alls_cons (tx_mk Q.z (alls_cons (Z .block _ _ _ trivial h9) alls_nil)) alls_nil⟩
    · rw [(Rs.ok_inj hY).1]
      exact hX
  split at h
  · cases h
  · obtain ⟨rfl, e1, e2⟩ := mk_inv h
    exact tx_mk Q.z hY
theorem tx_m_assigned (Q : Qs T q) {r : Mth → Ps → Rs Tr} (Z : TxA q r) {s s1 : Ps} {t : Tr} (h : step T r .assigned s = .ok t s1) : t.all q := by
  dsimp only [step] at h
  obtain ⟨x1, s11, h1, h⟩ := Rs.bind_inv h
  have z1 := Z (.cond) _ _ _ trivial h1
  by_cases q2 : (putsB (sd T s11)) = true
  · rw [if_pos q2] at h
    by_cases q3 : targetB x1.kind = true
    · rw [if_pos q3] at h
      obtain ⟨w4, z4, k4, h⟩ := Rs.bind_inv h
      obtain ⟨q4, rfl⟩ := take1_inv k4
      obtain ⟨x5, s15, h5, h⟩ := Rs.bind_inv h
      have z5 := Z (.assign) _ _ _ trivial h5
      obtain ⟨rfl, e1, e2⟩ := mk_inv h
      refine tx_mk ?_ ?_
      · first | exact Q.z | exact Q.t _ | exact Q.s _ | assumption
      · repeat' (first | assumption | exact alls_nil | apply alls_cons | (refine (alls_append _ _).2 ⟨?_, ?_⟩))
    · rw [if_neg q3] at h
      cases h
  · rw [if_neg q2] at h
    rw [(Rs.ok_inj h).1]
    assumption
theorem tx_m_cond (Q : Qs T q) {r : Mth → Ps → Rs Tr} (Z : TxA q r) {s s1 : Ps} {t : Tr} (h : step T r .cond s = .ok t s1) : t.all q := by
  dsimp only [step] at h
  obtain ⟨x1, s11, h1, h⟩ := Rs.bind_inv h
  have z1 := Z (.sides 1) _ _ _ trivial h1
  by_cases q2 : ((sd T s11) == (⟨#[63]⟩ : ByteArray)) = true
  · rw [if_pos q2] at h
    obtain ⟨x4, s14, h4, h⟩ := Rs.bind_inv h
    have z4 := Z (.assign) _ _ _ trivial h4
    obtain ⟨w5, z5, k5, h⟩ := Rs.bind_inv h
    obtain ⟨q5, rfl⟩ := take1_inv k5
    obtain ⟨x6, s16, h6, h⟩ := Rs.bind_inv h
    have z6 := Z (.assign) _ _ _ trivial h6
    obtain ⟨rfl, e1, e2⟩ := mk_inv h
    refine tx_mk ?_ ?_
    · first | exact Q.z | exact Q.t _ | exact Q.s _ | assumption
    · repeat' (first | assumption | exact alls_nil | apply alls_cons | (refine (alls_append _ _).2 ⟨?_, ?_⟩))
  · rw [if_neg q2] at h
    rw [(Rs.ok_inj h).1]
    assumption
theorem tx_m_sides (Q : Qs T q) {r : Mth → Ps → Rs Tr} (Z : TxA q r) {s s1 : Ps} {t : Tr} {k : Nat} (h : step T r (.sides k) s = .ok t s1) : t.all q := by
  dsimp only [step] at h
  obtain ⟨x2, s2, h2, h⟩ := Rs.bind_inv h
  exact tx_sides Q (fun k _ _ _ h => Z (.sides k) _ _ _ trivial h) _ _ _ _ _ _ (Z .unary _ _ _ trivial h2) h
theorem tx_m_chain (Q : Qs T q) {r : Mth → Ps → Rs Tr} (Z : TxA q r) {s s1 : Ps} {t : Tr} {c : Bool} (h : step T r (.chain c) s = .ok t s1) : t.all q := by
  dsimp only [step] at h
  obtain ⟨x2, s2, h2, h⟩ := Rs.bind_inv h
  exact tx_chain Q (fun _ _ _ h => Z .assign _ _ _ trivial h) _ _ _ _ _ _ _ (Z .head _ _ _ trivial h2) h
theorem tx_m_unary {r : Mth → Ps → Rs Tr} (Z : TxA q r) {s s1 : Ps} {t : Tr} (h : step T r .unary s = .ok t s1) : t.all q := by
  dsimp only [step] at h
  split at h
  · exact tx_deeper (fun _ _ _ h => Z .led _ _ _ trivial h) h
  · exact Z (.chain true) _ _ _ trivial h
theorem tx_m_led (Q : Qs T q) {r : Mth → Ps → Rs Tr} (Z : TxA q r) {s s1 : Ps} {t : Tr} (h : step T r .led s = .ok t s1) : t.all q := by
  dsimp only [step] at h
  obtain ⟨x2, s12, h2, h⟩ := Rs.bind_inv h
  have z2 := Z (.unary) _ _ _ trivial h2
  obtain ⟨rfl, e1, e2⟩ := mk_inv h
  refine tx_mk ?_ ?_
  · first | exact Q.z | exact Q.t _ | exact Q.s _ | assumption
  · repeat' (first | assumption | exact alls_nil | apply alls_cons | (refine (alls_append _ _).2 ⟨?_, ?_⟩))
theorem tx_m_head (Q : Qs T q) {r : Mth → Ps → Rs Tr} (Z : TxA q r) {s s1 : Ps} {t : Tr} (h : step T r .head s = .ok t s1) : t.all q := by
  dsimp only [step] at h
  split at h
  · obtain ⟨x2, s2, h2, h⟩ := Rs.bind_inv h
    obtain ⟨x3, s3, h3, h⟩ := Rs.bind_inv h
    obtain ⟨rfl, e1, e2⟩ := mk_inv h
    exact tx_mk Q.z (tx_args (fun _ _ _ h => Z .assign _ _ _ trivial h) (tx_deeper (fun _ _ _ h => Z .newIn _ _ _ trivial h) h2) h3)
  · exact Z .primary _ _ _ trivial h
theorem tx_m_newIn (_Q : Qs T q) {r : Mth → Ps → Rs Tr} (Z : TxA q r) {s s1 : Ps} {t : Tr} (h : step T r .newIn s = .ok t s1) : t.all q := by
  dsimp only [step] at h
  obtain ⟨w1, z1, k1, h⟩ := Rs.bind_inv h
  obtain ⟨q1, rfl⟩ := take1_inv k1
  exact Z (.chain false) _ _ _ trivial h
set_option maxHeartbeats 1000000 in
theorem tx_m_primary (Q : Qs T q) {r : Mth → Ps → Rs Tr} (Z : TxA q r) {s s1 : Ps} {t : Tr} (h : step T r .primary s = .ok t s1) : t.all q := by
  dsimp only [step] at h
  by_cases q1 : (tok T s).kind = 3
  · rw [if_pos q1] at h
    unfold numR at h
    obtain ⟨rfl, e1, e2⟩ := mk_inv h
    refine tx_mk ?_ ?_
    · first | exact Q.z | exact Q.t _ | exact Q.s _ | assumption
    · repeat' (first | assumption | exact alls_nil | apply alls_cons | (refine (alls_append _ _).2 ⟨?_, ?_⟩))
  · rw [if_neg q1] at h
    by_cases q2 : (tok T s).kind = 4
    · rw [if_pos q2] at h
      obtain ⟨rfl, e1, e2⟩ := mk_inv h
      refine tx_mk ?_ ?_
      · first | exact Q.z | exact Q.t _ | exact Q.s _ | assumption
      · repeat' (first | assumption | exact alls_nil | apply alls_cons | (refine (alls_append _ _).2 ⟨?_, ?_⟩))
    · rw [if_neg q2] at h
      by_cases q3 : (tok T s).kind = 1
      · rw [if_pos q3] at h
        obtain ⟨rfl, e1, e2⟩ := mk_inv h
        refine tx_mk ?_ ?_
        · first | exact Q.z | exact Q.t _ | exact Q.s _ | assumption
        · repeat' (first | assumption | exact alls_nil | apply alls_cons | (refine (alls_append _ _).2 ⟨?_, ?_⟩))
      · rw [if_neg q3] at h
        by_cases q4 : ((tok T s).text == (⟨#[116, 114, 117, 101]⟩ : ByteArray)) = true
        · rw [if_pos q4] at h
          exact tx_bare Q h
        · rw [if_neg q4] at h
          by_cases q5 : ((tok T s).text == (⟨#[102, 97, 108, 115, 101]⟩ : ByteArray)) = true
          · rw [if_pos q5] at h
            exact tx_bare Q h
          · rw [if_neg q5] at h
            by_cases q6 : ((tok T s).text == (⟨#[110, 117, 108, 108]⟩ : ByteArray)) = true
            · rw [if_pos q6] at h
              exact tx_bare Q h
            · rw [if_neg q6] at h
              by_cases q7 : ((tok T s).text == (⟨#[116, 104, 105, 115]⟩ : ByteArray)) = true
              · rw [if_pos q7] at h
                exact tx_bare Q h
              · rw [if_neg q7] at h
                by_cases q8 : ((tok T s).text == (⟨#[40]⟩ : ByteArray)) = true
                · rw [if_pos q8] at h
                  exact Z (.test) _ _ _ trivial h
                · rw [if_neg q8] at h
                  by_cases q9 : ((tok T s).text == (⟨#[102, 117, 110, 99, 116, 105, 111, 110]⟩ : ByteArray)) = true
                  · rw [if_pos q9] at h
                    exact Z (.nested) _ _ _ trivial h
                  · rw [if_neg q9] at h
                    by_cases q10 : ((tok T s).text == (⟨#[123]⟩ : ByteArray)) = true
                    · rw [if_pos q10] at h
                      obtain ⟨w11, z11, k11, h⟩ := Rs.bind_inv h
                      obtain ⟨q11, rfl⟩ := take1_inv k11
                      obtain ⟨x12, s22, h12, h⟩ := Rs.bind_inv h
                      have z12 := tx_list (fun _ _ _ h => Z .pair _ _ _ trivial h) 16384 h12
                      obtain ⟨rfl, e1, e2⟩ := mk_inv h
                      refine tx_mk ?_ ?_
                      · first | exact Q.z | exact Q.t _ | exact Q.s _ | assumption
                      · repeat' (first | assumption | exact alls_nil | apply alls_cons | (refine (alls_append _ _).2 ⟨?_, ?_⟩))
                    · rw [if_neg q10] at h
                      by_cases q11 : ((tok T s).text == (⟨#[91]⟩ : ByteArray)) = true
                      · rw [if_pos q11] at h
                        obtain ⟨w12, z12, k12, h⟩ := Rs.bind_inv h
                        obtain ⟨q12, rfl⟩ := take1_inv k12
                        obtain ⟨x13, s23, h13, h⟩ := Rs.bind_inv h
                        have z13 := tx_list (fun _ _ _ h => Z .assign _ _ _ trivial h) 16384 h13
                        obtain ⟨rfl, e1, e2⟩ := mk_inv h
                        refine tx_mk ?_ ?_
                        · first | exact Q.z | exact Q.t _ | exact Q.s _ | assumption
                        · repeat' (first | assumption | exact alls_nil | apply alls_cons | (refine (alls_append _ _).2 ⟨?_, ?_⟩))
                      · rw [if_neg q11] at h
                        cases h
theorem tx_m_nested (Q : Qs T q) {r : Mth → Ps → Rs Tr} (Z : TxA q r) {s s1 : Ps} {t : Tr} (h : step T r .nested s = .ok t s1) : t.all q := by
  dsimp only [step] at h
  obtain ⟨w1, z1, k1, h⟩ := Rs.bind_inv h
  obtain ⟨q1, rfl⟩ := take1_inv k1
  by_cases q2 : ((sd T s.on) == (⟨#[40]⟩ : ByteArray)) = true
  · rw [if_pos q2] at h
    exact Z (.function 27 (here T s) ⟨#[]⟩) _ _ _ (by first | exact Q.z | exact Q.t _) h
  · rw [if_neg q2] at h
    obtain ⟨w3, z3, k3, h⟩ := Rs.bind_inv h
    obtain ⟨q3, rfl, rfl⟩ := name_inv k3
    exact Z (.function 27 (here T s) (tok T s.on).text) _ _ _ (by first | exact Q.z | exact Q.t _) h
theorem tx_m_key (Q : Qs T q) {r : Mth → Ps → Rs Tr} (Z : TxA q r) {s s1 : Ps} {t : Tr} (h : step T r .key s = .ok t s1) : t.all q := by
  dsimp only [step] at h
  by_cases q1 : (tok T s).kind = 3
  · rw [if_pos q1] at h
    unfold numR at h
    obtain ⟨rfl, e1, e2⟩ := mk_inv h
    refine tx_mk ?_ ?_
    · first | exact Q.z | exact Q.t _ | exact Q.s _ | assumption
    · repeat' (first | assumption | exact alls_nil | apply alls_cons | (refine (alls_append _ _).2 ⟨?_, ?_⟩))
  · rw [if_neg q1] at h
    by_cases q2 : (tok T s).kind = 4
    · rw [if_pos q2] at h
      obtain ⟨rfl, e1, e2⟩ := mk_inv h
      refine tx_mk ?_ ?_
      · first | exact Q.z | exact Q.t _ | exact Q.s _ | assumption
      · repeat' (first | assumption | exact alls_nil | apply alls_cons | (refine (alls_append _ _).2 ⟨?_, ?_⟩))
    · rw [if_neg q2] at h
      by_cases q3 : ((sd T s) == (⟨#[91]⟩ : ByteArray)) = true
      · rw [if_pos q3] at h
        obtain ⟨x5, s15, h5, h⟩ := Rs.bind_inv h
        have z5 := Z (.assign) _ _ _ trivial h5
        obtain ⟨w6, z6, k6, h⟩ := Rs.bind_inv h
        obtain ⟨q6, rfl⟩ := take1_inv k6
        obtain ⟨rfl, e1, e2⟩ := mk_inv h
        refine tx_mk ?_ ?_
        · first | exact Q.z | exact Q.t _ | exact Q.s _ | assumption
        · repeat' (first | assumption | exact alls_nil | apply alls_cons | (refine (alls_append _ _).2 ⟨?_, ?_⟩))
      · rw [if_neg q3] at h
        obtain ⟨w4, z4, k4, h⟩ := Rs.bind_inv h
        obtain ⟨q4, rfl, rfl⟩ := word_inv k4
        obtain ⟨rfl, e1, e2⟩ := mk_inv h
        refine tx_mk ?_ ?_
        · first | exact Q.z | exact Q.t _ | exact Q.s _ | assumption
        · repeat' (first | assumption | exact alls_nil | apply alls_cons | (refine (alls_append _ _).2 ⟨?_, ?_⟩))
theorem tx_m_pair (Q : Qs T q) {r : Mth → Ps → Rs Tr} (Z : TxA q r) {s s1 : Ps} {t : Tr} (h : step T r .pair s = .ok t s1) : t.all q := by
  dsimp only [step] at h
  by_cases q1 : (((sd T s) == (⟨#[103, 101, 116]⟩ : ByteArray)) && !(saidT (tkAt T (s.next + 1)) == (⟨#[58]⟩ : ByteArray))) = true
  · rw [if_pos q1] at h
    exact Z (.accessor 30) _ _ _ trivial h
  · rw [if_neg q1] at h
    by_cases q2 : (((sd T s) == (⟨#[115, 101, 116]⟩ : ByteArray)) && !(saidT (tkAt T (s.next + 1)) == (⟨#[58]⟩ : ByteArray))) = true
    · rw [if_pos q2] at h
      exact Z (.accessor 31) _ _ _ trivial h
    · rw [if_neg q2] at h
      obtain ⟨x3, s13, h3, h⟩ := Rs.bind_inv h
      have z3 := Z (.key) _ _ _ trivial h3
      obtain ⟨w4, z4, k4, h⟩ := Rs.bind_inv h
      obtain ⟨q4, rfl⟩ := take1_inv k4
      obtain ⟨x5, s15, h5, h⟩ := Rs.bind_inv h
      have z5 := Z (.assign) _ _ _ trivial h5
      obtain ⟨rfl, e1, e2⟩ := mk_inv h
      refine tx_mk ?_ ?_
      · first | exact Q.z | exact Q.t _ | exact Q.s _ | assumption
      · repeat' (first | assumption | exact alls_nil | apply alls_cons | (refine (alls_append _ _).2 ⟨?_, ?_⟩))
theorem tx_m_accessor (Q : Qs T q) {r : Mth → Ps → Rs Tr} (Z : TxA q r) {s s1 : Ps} {t : Tr} {k : Nat} (h : step T r (.accessor k) s = .ok t s1) : t.all q := by
  dsimp only [step] at h
  obtain ⟨x2, s2, h2, h⟩ := Rs.bind_inv h
  obtain ⟨w3, z3, k3, h⟩ := Rs.bind_inv h
  obtain ⟨X, s4, hX, h⟩ := Rs.bind_inv h
  have hX : Tr.alls q X := by
    split at hX
    · obtain ⟨x5, s5, h5, hX⟩ := Rs.bind_inv hX
      rw [(Rs.ok_inj hX).1]
      exact alls_cons (tx_param Q _ _ _ h5) alls_nil
    · rw [(Rs.ok_inj hX).1]
      exact alls_nil
  obtain ⟨w5, z5, k5, h⟩ := Rs.bind_inv h
  obtain ⟨x6, s6, h6, h⟩ := Rs.bind_inv h
  obtain ⟨x7, s7, h7, h⟩ := Rs.bind_inv h
  obtain ⟨rfl, e71, e72⟩ := mk_inv h7
  obtain ⟨rfl, e1, e2⟩ := mk_inv h
  exact tx_mk Q.z (alls_cons (Z .key _ _ _ trivial h2) (alls_cons (tx_mk Q.z ((alls_append _ _).2 ⟨hX, alls_cons (Z .block _ _ _ trivial h6) alls_nil⟩)) alls_nil))
theorem tx_step (Q : Qs T q) {r : Mth → Ps → Rs Tr} (Z : TxA q r) : TxA q (step T r) := by
  intro m s t s1 hp h
  cases m with
  | statement => exact tx_deeper (fun _ _ _ h => Z .stated _ _ _ trivial h) h
  | stated => exact tx_m_stated Q Z h
  | body => exact tx_deeper (fun _ _ _ h => Z .bodyIn _ _ _ trivial h) h
  | bodyIn => exact tx_m_bodyIn Q Z h
  | block => exact tx_m_block Q Z h
  | declaration => exact tx_m_declaration Q Z h
  | branch => exact tx_m_branch Q Z h
  | loop => exact tx_m_loop Q Z h
  | answer => exact tx_m_answer Q Z h
  | guarded => exact tx_m_guarded Q Z h
  | test => exact tx_m_test Q Z h
  | ended => exact tx_m_ended Q Z h
  | assign => exact tx_deeper (fun _ _ _ h => Z .assigned _ _ _ trivial h) h
  | assigned => exact tx_m_assigned Q Z h
  | cond => exact tx_m_cond Q Z h
  | unary => exact tx_m_unary Z h
  | led => exact tx_m_led Q Z h
  | head => exact tx_m_head Q Z h
  | newIn => exact tx_m_newIn Q Z h
  | primary => exact tx_m_primary Q Z h
  | nested => exact tx_m_nested Q Z h
  | pair => exact tx_m_pair Q Z h
  | key => exact tx_m_key Q Z h
  | function k p n => exact tx_m_function Q Z hp h
  | sides n => exact tx_m_sides Q Z h
  | chain c => exact tx_m_chain Q Z h
  | accessor k => exact tx_m_accessor Q Z h
theorem tx_run (Q : Qs T q) : ∀ n, TxA q (run T n)
  | 0 => fun m s t s1 _ h => by cases h
  | n + 1 => tx_step Q (tx_run Q n)
theorem tx_tree (Q : Qs T q) {n : Nat} {t : Tr} {s : Ps} (h : scriptR T n ⟨0, 0, 0⟩ = .ok t s) : t.all q := by
  unfold scriptR at h
  obtain ⟨l, s2, h1, h⟩ := Rs.bind_inv h
  obtain ⟨rfl, e1, e2⟩ := mk_inv h
  exact tx_mk Q.z (tx_script (fun _ _ _ h => tx_run Q n .statement _ _ _ trivial h) _ _ _ _ _ alls_nil h1)
end
end Go.Proofs.YtablckajobefeaaGreatDoor.S
/-
  Nodes in memory: the row that numbered writes, and the rows of numbers of kids.
-/
namespace Go.Proofs.YtablckajobefeaaGreatDoor.S
open Go.RowKit Fl

def ndC (c : Nd) (A : Option Addr) (cap : Nat) : List Value := [.int .u8 (c.kind : Int), .int .i64 c.p, .string c.text, .float .f64 c.num, .slice A c.kids.length cap]
def intsV (l : List Nat) : List Value := l.map fun (k : Nat) => .int .i64 (k : Int)
/-- a node's cells, its kids' numbers in a block that is ok -/
def NdAt (w : World) (ok : Nat → Prop) (c : Nd) (cs : List Value) : Prop := ∃ A cap, cs = ndC c A cap ∧ c.kids.length ≤ cap ∧ RowV w ok A (intsV c.kids)
def NdsAt (w : World) (ok : Nat → Prop) : List Nd → List Value → Prop
  | [], cs => cs = []
  | c :: l, cs => ∃ a b, cs = a ++ b ∧ NdAt w ok c a ∧ NdsAt w ok l b
theorem nds_up {w w' : World} {ok ok' : Nat → Prop} (hs : w.heap.size ≤ w'.heap.size) (hk : ∀ k, ok k → k < w.heap.size → ok' k ∧ w'.heap[k]? = w.heap[k]?) : ∀ (l : List Nd) (cs : List Value), NdsAt w ok l cs → NdsAt w' ok' l cs
  | [], _, h => h
  | _ :: l, _, ⟨a, b, h1, ⟨A, cap, h2, hc, h3⟩, h4⟩ => ⟨a, b, h1, ⟨A, cap, h2, hc, rowv_up h3 hs hk⟩, nds_up hs hk l b h4⟩
theorem nds_append {w : World} {ok : Nat → Prop} : ∀ (l m : List Nd) (a b : List Value), NdsAt w ok l a → NdsAt w ok m b → NdsAt w ok (l ++ m) (a ++ b)
  | [], m, a, b, h, k => by
    have h : a = [] := h
    subst h
    exact k
  | c :: l, m, a, b, ⟨x, y, h1, h2, h3⟩, k => ⟨x, y ++ b, by rw [h1, List.append_assoc], h2, nds_append l m y b h3 k⟩
theorem flatL_append (n : Nat) (a b : List Tr) : flatL n (a ++ b) = flatL n a ++ flatL (n + Tr.sizes a) b := by
  induction a generalizing n with
  | nil => simp [flatL, Tr.sizes]
  | cons t l ih => simp [flatL, Tr.sizes, ih, Nat.add_assoc]
theorem starts_append (n : Nat) (a b : List Tr) : starts n (a ++ b) = starts n a ++ starts (n + Tr.sizes a) b := by
  induction a generalizing n with
  | nil => simp [starts, Tr.sizes]
  | cons t l ih => simp [starts, Tr.sizes, ih, Nat.add_assoc]
theorem take_snoc {α : Type} (l : List α) (j : Nat) (h : j < l.length) : l.take (j + 1) = l.take j ++ [l[j]] := by simp
theorem sizes_take (l : List Tr) (j : Nat) (h : j < l.length) : Tr.sizes (l.take (j + 1)) = Tr.sizes (l.take j) + l[j].size := by rw [take_snoc l j h, sizes_append, sizes_one]
theorem sizes_take_le (l : List Tr) : ∀ j, Tr.sizes (l.take j) ≤ Tr.sizes l := by
  induction l with
  | nil => intro j; simp
  | cons t l ih =>
    intro j
    cases j with
    | zero => simp [Tr.sizes]
    | succ j => simp only [List.take_succ_cons, Tr.sizes]; have := ih j; omega
theorem alls_get {q : ByteArray → Prop} : ∀ (l : List Tr), Tr.alls q l → ∀ j (h : j < l.length), (l[j]).all q
  | [], _, j, h => by simp at h
  | t :: l, hl, j, h => by
    unfold Tr.alls at hl
    cases j with
    | zero => exact hl.1
    | succ j => exact alls_get l hl.2 j (by simpa using h)
theorem parts_get {w : World} {ok : Nat → Prop} : ∀ (l : List Tr) (vs : List Value), PartsAt w ok l vs → ∀ j (h : j < l.length), ∃ u, vs[j]? = some u ∧ PartAt w ok l[j] u
  | [], _, _, j, h => by simp at h
  | t :: l, vs, hp, j, h => by
    unfold PartsAt at hp
    obtain ⟨v, r, rfl, h2, h3⟩ := hp
    cases j with
    | zero => exact ⟨v, rfl, h2⟩
    | succ j =>
      obtain ⟨u, k1, k2⟩ := parts_get l r h3 j (by simpa using h)
      exact ⟨u, by simpa using k1, k2⟩

/-- where numbered's closure stands: the tree's block holds the row v, the other one the closure itself -/
structure Ws (tb wb : Nat) (v : Value) (w : World) : Prop where
  tree : w.heap[tb]? = some (.cells #[v] 32 (0, 0))
  walk : w.heap[wb]? = some (.cells #[.func (.func 51) #[] #[.pointer (some ⟨tb, 0, none⟩), .pointer (some ⟨wb, 0, none⟩)]] 96 (0, 0))
/-- what stays but for the tree's block and the row's own -/
structure KeptT (tb : Nat) (v : Value) (w w' : World) : Prop where
  os : w'.os = w.os
  tape : w'.tape = w.tape
  output : w'.output = w.output
  size : w.heap.size ≤ w'.heap.size
  block : ∀ k, k < w.heap.size → k ≠ tb → v.ownBlock ≠ some k → w'.heap[k]? = w.heap[k]?
/-- the row's block is the old one, or a new one -/
def OwnTo (v : Value) (n : Nat) (v' : Value) : Prop := ∀ k, v'.ownBlock = some k → v.ownBlock = some k ∨ n ≤ k
theorem kept_grown {tb : Nat} {v : Value} {w w1 w2 : World} (h : KeptT tb v w w1) {b : Nat} (g : w1.grownBy w2 (some b)) (hb : b = tb ∨ v.ownBlock = some b ∨ w.heap.size ≤ b) : KeptT tb v w w2 :=
  ⟨g.os.trans h.os, g.tape.trans h.tape, g.output.trans h.output, Nat.le_trans h.size g.size, fun k hk h1 h2 => (g.block k (Nat.lt_of_lt_of_le hk h.size) (fun e => by
    have e := Option.some.inj e
    subst e
    rcases hb with hb | hb | hb
    · exact h1 hb
    · exact h2 hb
    · omega)).trans (h.block k hk h1 h2)⟩
theorem kept_trans {tb : Nat} {v v1 : Value} {w w1 w2 : World} (h : KeptT tb v w w1) (ho : OwnTo v w.heap.size v1) (g : KeptT tb v1 w1 w2) : KeptT tb v w w2 :=
  ⟨g.os.trans h.os, g.tape.trans h.tape, g.output.trans h.output, Nat.le_trans h.size g.size, fun k hk h1 h2 => (g.block k (Nat.lt_of_lt_of_le hk h.size) h1 (fun e => by
    rcases ho k e with h3 | h3
    · exact h2 h3
    · omega)).trans (h.block k hk h1 h2)⟩
/-- what numbered's closure comes to -/
def NumTo (B tb wb N : Nat) (t : Tr) (v : Value) (pre : List Value) (w : World) (e : Ending) (w' : World) : Prop :=
  e = .returned (.int .i64 (N : Int)) ∧ ∃ v' cs, Ws tb wb v' w' ∧ w'.ownsRow B 44 5 v' (N + t.size) (pre ++ cs) ∧
    NdsAt w' (fun k => w.heap.size ≤ k ∧ v'.ownBlock ≠ some k) (flatT N t) cs ∧ OwnTo v w.heap.size v' ∧ KeptT tb v w w'
theorem node_info : (Tryz.prog.info? 44).map (fun i => (i.zero, i.size, i.bytes)) = some (some (.agg #[.int .u8 0, .int .i64 0, .string ⟨#[]⟩, .float .f64 0, .slice none 0 0]), 5, 64) := by kernel_rfl
theorem int_info : (Tryz.prog.info? 3).map (fun i => (i.zero, i.size, i.bytes)) = some (some (.int .i64 0), 1, 8) := by kernel_rfl
end Go.Proofs.YtablckajobefeaaGreatDoor.S
/-
  numbered's closure: a part and its kids put at the end of the row of nodes.
-/
namespace Go.Proofs.YtablckajobefeaaGreatDoor.S
open Go.RowKit Fl

theorem own_shape {w : World} {B e size n : Nat} {v : Value} {xs : List Value} (h : w.ownsRow B e size v n xs) : ∃ A cap, v = .slice A n cap ∧ ∀ k, (Value.slice A n cap).ownBlock = some k → B ≤ k := by
  have hlt := h.lt
  rcases h.2 with ⟨rfl, h1⟩ | ⟨g, cap, cur, rfl, _⟩
  · exact ⟨none, 0, by rw [h1], fun k hk => (hlt k (by rw [h1] at hk; exact hk)).1⟩
  · exact ⟨_, cap, rfl, fun k hk => (hlt k hk).1⟩
theorem num_a {w w1 : World} {o : Obj} (h1 : Below (w.alloc o).heap.size (w.alloc o) w1) : w1.heap[w.heap.size]? = (w.alloc o).heap[w.heap.size]? ∧ w.heap.size < w1.heap.size ∧ w.grownBy w1 none := by
  have hs := h1.size
  have hz : (w.alloc o).heap.size = w.heap.size + 1 := by simp
  exact ⟨h1.block _ (by omega), by omega, (World.grownBy_alloc w o none).trans ⟨h1.os, h1.tape, h1.output, h1.size, fun k hk _ => h1.block k hk⟩⟩
theorem sizes_len (l : List Tr) : l.length ≤ Tr.sizes l := by
  induction l with
  | nil => simp
  | cons t l ih => have := Tr.size_pos t; simp only [List.length_cons, Tr.sizes]; omega
theorem own_row {w : World} {B e n K m : Nat} {xs : List Value} (h : w.ownsRow B e 1 (.slice (some ⟨K, 0, none⟩) m n) m xs) (hm : m = n) : ∃ vals : List Value, vals.length = n ∧ w.heap[K]? = some (.cells vals.toArray e (0, 0)) := by
  subst hm
  rcases h.2 with ⟨h1, _⟩ | ⟨g, cap, cur, h1, _, h2, _, _, h3, _⟩
  · cases h1
  · injection h1 with h4 _ h5
    injection h4 with h4
    injection h4 with h4
    subst h4 h5
    exact ⟨cur.toList, by simpa using h3, by simpa using h2⟩
/-- the row has a node more: what is so then -/
structure Put (B tb wb N : Nat) (v v' : Value) (pre cs : List Value) (w w4 : World) (D K g n : Nat) (nc : Array Value) : Prop where
  ws : Ws tb wb v' w4
  own : w4.ownsRow B 44 5 v' (N + 1) (pre ++ cs)
  to : OwnTo v w.heap.size v'
  kept : KeptT tb v w w4
  node : w4.heap[D]? = some (.cells nc 44 (0, 0))
  kids : ∃ vals : List Value, vals.length = n ∧ w4.heap[K]? = some (.cells vals.toArray 3 (0, 0))
  nD : v'.ownBlock ≠ some D
  nK : v'.ownBlock ≠ some K
  part : w4.heap[g]? = w.heap[g]?
/-- what is so ahead of the append -/
structure Pre (B tb wb N : Nat) (v : Value) (pre : List Value) (w w5 : World) (D K n : Nat) (nc : Array Value) : Prop where
  grown : w.grownBy w5 (some w.heap.size)
  tree : w5.heap[tb]? = some (.cells #[v] 32 (0, 0))
  own : w5.ownsRow B 44 5 v N pre
  node : w5.heap[D]? = some (.cells nc 44 (0, 0))
  kids : ∃ vals : List Value, vals.length = n ∧ w5.heap[K]? = some (.cells vals.toArray 3 (0, 0))
theorem put_of {B tb wb N : Nat} {v v' : Value} {pre cs : List Value} {w w5 w3 : World} {D K g n : Nat} {nc : Array Value} (h : Pre B tb wb N v pre w w5 D K n nc) (htb : tb < B) (hwb : wb < B) (hne : tb ≠ wb) (hB : B ≤ w.heap.size) (hgB : g < B) (hgt : g ≠ tb) (hw : Ws tb wb v w) (hD : w.heap.size ≤ D) (hK : w.heap.size ≤ K)
    (ho : w.ownsRow B 44 5 v N pre) (hown : w3.ownsRow B 44 5 v' (N + 1) (pre ++ cs)) (hg : w5.grownBy w3 v.ownBlock) (hat : v'.ownBlock = v.ownBlock ∨ v'.ownBlock = some w5.heap.size) :
    w3.heap[tb]? = some (.cells #[v] 32 (0, 0)) ∧ Put B tb wb N v v' pre cs w (w3.setCell ⟨tb, 0, none⟩ v') D K g n nc := by
  have vlt := ho.lt
  have g5 := h.grown.size
  have low : ∀ k, k < w.heap.size → v.ownBlock ≠ some k → w3.heap[k]? = w.heap[k]? := fun k hk hne => (hg.block k (by omega) (fun e => hne e.symm)).trans (h.grown.block k hk (fun e => by have := Option.some.inj e; omega))
  have own_ne : ∀ k, k < B → v.ownBlock ≠ some k := fun k hk e => by have := (vlt k e).1; omega
  have ht3 : w3.heap[tb]? = some (.cells #[v] 32 (0, 0)) := (low tb (by omega) (own_ne tb htb)).trans hw.tree
  have hDl := lt_of_blk h.node
  obtain ⟨vals, hv, hKb⟩ := h.kids
  have hKl := lt_of_blk hKb
  have vD : ∀ k, w.heap.size ≤ k → v.ownBlock ≠ some k := fun k hk e => by have := (vlt k e).2; omega
  have nOf : ∀ k, w.heap.size ≤ k → k < w5.heap.size → v'.ownBlock ≠ some k := fun k h1 h2 e => by
    rcases hat with h3 | h3
    · exact vD k h1 (h3 ▸ e)
    · rw [h3] at e; have := Option.some.inj e; omega
  have old : ∀ k, k ≠ tb → (w3.setCell ⟨tb, 0, none⟩ v').heap[k]? = w3.heap[k]? := fun k hk => Go.Deep.blk_setCell_other _ _ _ _ hk
  refine ⟨ht3, ⟨set_blk ht3 0 v', ?_⟩, ?_, ?_, ?_, ?_, ?_, nOf D hD hDl, nOf K hK hKl, ?_⟩
  · exact (old wb (fun e => hne e.symm)).trans ((low wb (by omega) (own_ne wb hwb)).trans hw.walk)
  · exact hown.kept (grown_set w3 tb 0 v') (Or.inr fun e => by have := (hown.lt _ e).1; omega)
  · intro k hk
    rcases hat with h3 | h3
    · exact Or.inl (h3 ▸ hk)
    · rw [h3] at hk; have := Option.some.inj hk; exact Or.inr (by omega)
  · refine ⟨hg.os.trans h.grown.os, hg.tape.trans h.grown.tape, hg.output.trans h.grown.output, ?_, fun k hk h1 h2 => (old k h1).trans (low k hk h2)⟩
    have := hg.size
    simp
    omega
  · exact (old D (by omega)).trans ((hg.block D hDl (fun e => vD D hD e.symm)).trans h.node)
  · exact ⟨vals, hv, (old K (by omega)).trans ((hg.block K hKl (fun e => vD K hK e.symm)).trans hKb)⟩
  · exact (old g hgt).trans (low g (by omega) (own_ne g hgB))
theorem nd_app {ops : Array Oper} {rest : List Oper} {o : Oper} {a : Act} {Q : Exit → Act → World → Prop} (hgd : o.guard = none) (s x : Operand)
    (ho : o.op = .call { callee := .builtin .append, args := #[s, x], argTypes := #[30, 30] })
    {B N : Nat} {v q : Value} {pre : List Value} {wr : World} {k p : Int} {b : ByteArray} {n : Nat} (hq : q.oneCell' = true)
    (h : (wr.alloc (.cells #[.int .u8 k, .int .i64 p, .string b, .float .f64 n, q] 44)).ownsRow B 44 5 v N pre) (hs : a.eval s = v) (hx : a.eval x = .slice (some ⟨wr.heap.size, 0, none⟩) 1 1)
    (hN : N ≤ 300000) (hB : B ≤ wr.heap.size)
    (kk : ∀ v' w', w'.ownsRow B 44 5 v' (N + 1) (pre ++ [.int .u8 k, .int .i64 p, .string b, .float .f64 n, q]) → (wr.alloc (.cells #[.int .u8 k, .int .i64 p, .string b, .float .f64 n, q] 44)).grownBy w' v.ownBlock →
      (v'.ownBlock = v.ownBlock ∨ v'.ownBlock = some (wr.alloc (.cells #[.int .u8 k, .int .i64 p, .string b, .float .f64 n, q] 44)).heap.size) → wpList Tryz.prog ops Q rest (a.put o.dst v') w') :
    wpList Tryz.prog ops Q (o :: rest) a (wr.alloc (.cells #[.int .u8 k, .int .i64 p, .string b, .float .f64 n, q] 44)) := by
  obtain ⟨j0, hj, jz0, jz1, jz2⟩ := info_parts node_info
  refine wpList_append_own_at _ hgd s x 30 ho B 44 j0 (.agg #[.int .u8 0, .int .i64 0, .string ⟨#[]⟩, .float .f64 0, .slice none 0 0]) 5 64 Tryz.underlying30 hj jz0 jz1 jz2 rfl (by decide) v N pre hs h ⟨wr.heap.size, 0, none⟩ 1 1 [.int .u8 k, .int .i64 p, .string b, .float .f64 n, q] hx rfl ?_ ?_ ?_ ?_ ?_ ?_
  · intro j u hj
    have := blk_cell (heap_alloc_new wr (.cells #[.int .u8 k, .int .i64 p, .string b, .float .f64 n, q] 44)) j
    have e : (⟨wr.heap.size, 0, none⟩ : Addr).add j = ⟨wr.heap.size, j, none⟩ := by unfold Addr.add; split <;> simp_all
    rw [e, this, ← hj]
    simp
  · intro u hu
    simp at hu
    rcases hu with rfl | rfl | rfl | rfl | rfl <;> first | rfl | exact hq
  · unfold maxLen; omega
  · omega
  · simp; omega
  · intro v' w' h1 h2 _ h4
    exact kk v' w' h1 h2 h4
theorem num_b {B tb wb N : Nat} {v : Value} {pre : List Value} {w w1 w2 : World} {k p : Int} {t : ByteArray} {x g n : Nat} {pc xs : List Value} {ty : TypeId} {q4 kv : Value} (htb : tb < B) (hB : B ≤ w.heap.size) (hw : Ws tb wb v w) (ho : w.ownsRow B 44 5 v N pre)
    (hD : w1.heap[w.heap.size]? = some (.cells #[.int .u8 k, .int .i64 p, .string t, .float .f64 x, q4] 44 (0, 0))) (hDs : w.heap.size < w1.heap.size) (G1 : w.grownBy w1 none) (hb1 : w1.heap[g]? = some (.cells (pc ++ [kv]).toArray ty (0, 0))) (hpc : pc.length = 5) (hglt : g < w.heap.size)
    (hK : w2.ownsRow 0 3 1 (.slice (some ⟨w1.heap.size, 0, none⟩) n n) n xs) (gK : (w1.setCell ⟨w.heap.size, 2, none⟩ (.string t)).grownBy w2 none) :
    (∀ o, Pre B tb wb N v pre w ((w2.setCell ⟨w.heap.size, 4, none⟩ (.slice (some ⟨w1.heap.size, 0, none⟩) n n)).alloc o) w.heap.size w1.heap.size n #[.int .u8 k, .int .i64 p, .string t, .float .f64 x, .slice (some ⟨w1.heap.size, 0, none⟩) n n]) ∧ w1.heap.size ≤ w2.heap.size ∧
      w2.cell? ⟨w.heap.size, 0, none⟩ = some (.int .u8 k) ∧ w2.cell? ⟨w.heap.size, 1, none⟩ = some (.int .i64 p) ∧ w2.cell? ⟨w.heap.size, 2, none⟩ = some (.string t) ∧ w2.cell? ⟨w.heap.size, 3, none⟩ = some (.float .f64 x) ∧ w2.cell? ⟨w.heap.size, 4, none⟩ = some q4 ∧ (∀ i, w2.frozen? ⟨w.heap.size, i, none⟩ = false) ∧
      w2.cell? ⟨tb, 0, none⟩ = some v ∧ (∀ i, w2.frozen? ⟨tb, i, none⟩ = false) ∧ w2.cell? ⟨g, 5, none⟩ = some kv := by
  have hs1 := G1.size
  have hs2 : w1.heap.size ≤ w2.heap.size := by have := gK.size; simpa using this
  have hD2 : w2.heap[w.heap.size]? = some (.cells #[.int .u8 k, .int .i64 p, .string t, .float .f64 x, q4] 44 (0, 0)) := (gK.block _ (by simpa using hDs) (by simp)).trans (set_blk hD 2 (.string t))
  have low : ∀ j, j < w.heap.size → w2.heap[j]? = w.heap[j]? := fun j hj => (gK.block j (by simp; omega) (by simp)).trans ((Go.Deep.blk_setCell_other _ _ _ _ (by show j ≠ w.heap.size; omega)).trans (G1.block j hj (by simp)))
  have ht2 := (low tb (by omega)).trans hw.tree
  have hg2 : w2.heap[g]? = some (.cells (pc ++ [kv]).toArray ty (0, 0)) := (low g hglt).trans ((G1.block g hglt (by simp)).symm.trans hb1)
  refine ⟨fun o => ?_, hs2, blk_cell hD2 0, blk_cell hD2 1, blk_cell hD2 2, blk_cell hD2 3, blk_cell hD2 4, fun i => fz_blk hD2 i, blk_cell ht2 0, fun i => fz_blk ht2 i, ?_⟩
  · have low5 : ∀ j, j < w2.heap.size → j ≠ w.heap.size → ((w2.setCell ⟨w.heap.size, 4, none⟩ (.slice (some ⟨w1.heap.size, 0, none⟩) n n)).alloc o).heap[j]? = w2.heap[j]? := fun j hj hne => ((World.grownBy_alloc _ _ none).block j (by simpa using hj) (by simp)).trans (Go.Deep.blk_setCell_other _ _ _ _ hne)
    have G : w.grownBy ((w2.setCell ⟨w.heap.size, 4, none⟩ (.slice (some ⟨w1.heap.size, 0, none⟩) n n)).alloc o) (some w.heap.size) :=
      ⟨gK.os.trans G1.os, gK.tape.trans G1.tape, gK.output.trans G1.output, by simp; omega, fun j hj _ => (low5 j (by omega) (by omega)).trans (low j hj)⟩
    obtain ⟨vals, hv, hKb⟩ := own_row hK rfl
    refine ⟨G, (low5 tb (by omega) (by omega)).trans ht2, ho.kept G (Or.inr fun e => by have := (ho.lt _ e).2; omega), ?_, ⟨vals, hv, (low5 _ (lt_of_blk hKb) (by omega)).trans hKb⟩⟩
    exact ((World.grownBy_alloc _ _ none).block w.heap.size (by simp; omega) (by simp)).trans (set_blk hD2 4 _)
  · have := blk_cell hg2 5
    rw [this]
    simp [hpc]
/-- how it stands behind so many kids -/
def Lp (B tb wb N D K : Nat) (v : Value) (pre nl : List Value) (nc : Array Value) (l : List Tr) (w : World) (j : Nat) (wr : World) : Prop :=
  ∃ (vj : Value) (cs vals : List Value), Ws tb wb vj wr ∧ wr.ownsRow B 44 5 vj (N + 1 + Tr.sizes (l.take j)) (pre ++ nl ++ cs) ∧ NdsAt wr (fun k => w.heap.size ≤ k ∧ vj.ownBlock ≠ some k ∧ k ≠ K) (flatL (N + 1) (l.take j)) cs ∧ OwnTo v w.heap.size vj ∧
    KeptT tb v w wr ∧ wr.heap[D]? = some (.cells nc 44 (0, 0)) ∧ vals.length = l.length ∧ wr.heap[K]? = some (.cells vals.toArray 3 (0, 0)) ∧ vals.take j = intsV (starts (N + 1) (l.take j)) ∧ vj.ownBlock ≠ some D ∧ vj.ownBlock ≠ some K
theorem lp_start {B tb wb N D K g n : Nat} {v v' : Value} {pre nl : List Value} {nc : Array Value} {l : List Tr} {w w4 : World} (h : Put B tb wb N v v' pre nl w w4 D K g n nc) (hn : n = l.length) : Lp B tb wb N D K v pre nl nc l w 0 w4 := by
  obtain ⟨vals, h1, h2⟩ := h.kids
  refine ⟨v', [], vals, h.ws, ?_, rfl, h.to, h.kept, h.node, by rw [h1, hn], h2, rfl, h.nD, h.nK⟩
  simpa [Tr.sizes] using h.own
/-- what the closure is asked for a smaller tree -/
def NumIh (B tb wb : Nat) (u : Tr) : Prop := ∀ (v : Value) (N : Nat) (pre : List Value) (w : World) (ok : Nat → Prop) (a : Value), (∀ j, ok j → j < B ∧ j ≠ tb ∧ j ≠ wb) → B ≤ w.heap.size → Ws tb wb v w → w.ownsRow B 44 5 v N pre → PartAt w ok u a →
  (u.all fun c => c.size ≤ 281474976710656) → N + u.size ≤ 200000 → Calls Tryz.prog 51 #[a, .pointer (some ⟨tb, 0, none⟩), .pointer (some ⟨wb, 0, none⟩)] w (NumTo B tb wb N u v pre w)
/-- one kid more -/
theorem lp_next {B tb wb N D K : Nat} {v : Value} {pre nl : List Value} {nc : Array Value} {l : List Tr} {w wr w5 : World} {j : Nat} (hj : j < l.length) (htb : tb < B) (hwb : wb < B) (hB : B ≤ w.heap.size) (hD : w.heap.size ≤ D) (hK : w.heap.size ≤ K) (hDK : D ≠ K)
    {vj : Value} {cs vals : List Value} (_hW : Ws tb wb vj wr) (_hO : wr.ownsRow B 44 5 vj (N + 1 + Tr.sizes (l.take j)) (pre ++ nl ++ cs)) (hN : NdsAt wr (fun k => w.heap.size ≤ k ∧ vj.ownBlock ≠ some k ∧ k ≠ K) (flatL (N + 1) (l.take j)) cs) (hT : OwnTo v w.heap.size vj)
    (hk : KeptT tb v w wr) (hDb : wr.heap[D]? = some (.cells nc 44 (0, 0))) (hvl : vals.length = l.length) (hKb : wr.heap[K]? = some (.cells vals.toArray 3 (0, 0))) (hvt : vals.take j = intsV (starts (N + 1) (l.take j))) (nD : vj.ownBlock ≠ some D) (nK : vj.ownBlock ≠ some K)
    {v5 : Value} {cs5 : List Value} (hW5 : Ws tb wb v5 w5) (hO5 : w5.ownsRow B 44 5 v5 (N + 1 + Tr.sizes (l.take j) + l[j].size) (pre ++ nl ++ cs ++ cs5)) (hN5 : NdsAt w5 (fun k => wr.drew.heap.size ≤ k ∧ v5.ownBlock ≠ some k) (flatT (N + 1 + Tr.sizes (l.take j)) l[j]) cs5)
    (hT5 : OwnTo vj wr.drew.heap.size v5) (hk5 : KeptT tb vj wr.drew w5) :
    w5.heap[D]? = some (.cells nc 44 (0, 0)) ∧ w5.heap[K]? = some (.cells vals.toArray 3 (0, 0)) ∧
      Lp B tb wb N D K v pre nl nc l w (j + 1) (w5.setCell ⟨K, j, none⟩ (.int .i64 ((N + 1 + Tr.sizes (l.take j) : Nat) : Int))) := by
  have hsz : wr.drew.heap.size = wr.heap.size := rfl
  have hDl := lt_of_blk hDb
  have hKl := lt_of_blk hKb
  have hks := hk.size
  have hD5 := (hk5.block D hDl (by omega) nD).trans hDb
  have hK5 := (hk5.block K hKl (by omega) nK).trans hKb
  have keep : KeptT tb v w w5 := kept_trans (w1 := wr.drew) ⟨hk.os, hk.tape, hk.output, hk.size, hk.block⟩ hT hk5
  have oD : v5.ownBlock ≠ some D := fun e => by
    rcases hT5 D e with h1 | h1
    · exact nD h1
    · omega
  have oK : v5.ownBlock ≠ some K := fun e => by
    rcases hT5 K e with h1 | h1
    · exact nK h1
    · omega
  have old : ∀ k, k ≠ K → (w5.setCell ⟨K, j, none⟩ (.int .i64 ((N + 1 + Tr.sizes (l.take j) : Nat) : Int))).heap[k]? = w5.heap[k]? := fun k hk => Go.Deep.blk_setCell_other _ _ _ _ hk
  have gK : w5.grownBy (w5.setCell ⟨K, j, none⟩ (.int .i64 ((N + 1 + Tr.sizes (l.take j) : Nat) : Int))) (some K) := grown_set _ _ _ _
  refine ⟨hD5, hK5, v5, cs ++ cs5, vals.set j (.int .i64 ((N + 1 + Tr.sizes (l.take j) : Nat) : Int)), ⟨?_, ?_⟩, ?_, ?_, ?_, ?_, ?_, ?_, ?_, ?_, oD, oK⟩
  · exact (old tb (by omega)).trans hW5.tree
  · exact (old wb (by omega)).trans hW5.walk
  · rw [sizes_take l j hj, ← Nat.add_assoc, ← List.append_assoc]
    exact hO5.kept gK (Or.inr oK)
  · rw [take_snoc l j hj, flatL_append]
    refine nds_append _ _ _ _ ?_ ?_
    · refine nds_up (w := wr) (by have := hk5.size; simp; omega) (fun k h1 h2 => ?_) _ _ hN
      have h3 : v5.ownBlock ≠ some k := fun e => by
        rcases hT5 k e with h4 | h4
        · exact h1.2.1 h4
        · omega
      exact ⟨⟨h1.1, h3, h1.2.2⟩, (old k h1.2.2).trans (hk5.block k h2 (by have := h1.1; omega) h1.2.1)⟩
    · have : flatL (N + 1 + Tr.sizes (l.take j)) [l[j]] = flatT (N + 1 + Tr.sizes (l.take j)) l[j] := by simp [flatL]
      rw [this]
      refine nds_up (w := w5) (by simp) (fun k h1 h2 => ⟨⟨by have := h1.1; omega, h1.2, by have := h1.1; omega⟩, old k (by have := h1.1; omega)⟩) _ _ hN5
  · intro k hk2
    rcases hT5 k hk2 with h1 | h1
    · exact hT k h1
    · exact Or.inr (by omega)
  · exact kept_grown keep gK (Or.inr (Or.inr hK))
  · exact (old D hDK).trans hD5
  · simpa using hvl
  · have := set_blk hK5 j (.int .i64 ((N + 1 + Tr.sizes (l.take j) : Nat) : Int))
    rw [this]
    simp
  · rw [take_snoc l j hj, starts_append, List.take_add_one, List.take_set_of_le (by omega), hvt]
    simp [intsV, starts, hvl, hj]
theorem num_end {B tb wb N K : Nat} {v : Value} {pre : List Value} {nc : Array Value} {k : Nat} {p : Int} {t : ByteArray} {x : Nat} {l : List Tr} {w wr : World} (hK : w.heap.size ≤ K)
    (h : Lp B tb wb N w.heap.size K v pre [.int .u8 (k : Int), .int .i64 p, .string t, .float .f64 x, .slice (some ⟨K, 0, none⟩) l.length l.length] nc l w l.length wr) : NumTo B tb wb N (.mk k p t x l) v pre w (.returned (.int .i64 (N : Int))) wr := by
  obtain ⟨vj, cs, vals, hW, hO, hNd, hT, hk, hDb, hvl2, hKb, hvt, nD, nK⟩ := h
  rw [List.take_length] at hO hNd hvt
  have hva : vals = intsV (starts (N + 1) l) := by rw [← hvt, ← hvl2, List.take_length]
  refine ⟨rfl, vj, ([.int .u8 (k : Int), .int .i64 p, .string t, .float .f64 x, .slice (some ⟨K, 0, none⟩) l.length l.length] : List Value) ++ cs, hW, ?_, ?_, hT, hk⟩
  · rw [size_mk, ← Nat.add_assoc, ← List.append_assoc]
    exact hO
  · show NdsAt wr _ (⟨k, p, t, x, starts (N + 1) l⟩ :: flatL (N + 1) l) _
    refine ⟨_, _, rfl, ⟨some ⟨K, 0, none⟩, l.length, ?_, by show (starts (N + 1) l).length ≤ l.length; rw [starts_len]; exact Nat.le_refl _, fun _ => ⟨K, rfl, ⟨hK, nK⟩, lt_of_blk hKb, fun i u hu => ?_⟩⟩, nds_up (Nat.le_refl _) (fun k h1 _ => ⟨⟨h1.1, h1.2.1⟩, rfl⟩) _ _ hNd⟩
    · show _ = ([.int .u8 (k : Int), .int .i64 p, .string t, .float .f64 x, .slice (some ⟨K, 0, none⟩) (starts (N + 1) l).length l.length] : List Value)
      rw [starts_len]
    · rw [blk_cell hKb i, hva]
      simpa using hu
set_option maxHeartbeats 4000000 in
set_option maxRecDepth 100000 in
theorem num1 (B tb wb : Nat) (htb : tb < B) (hwb : wb < B) (hne : tb ≠ wb) (k : Nat) (p : Int) (t : ByteArray) (x : Nat) (l : List Tr) (v : Value) (N : Nat) (pre : List Value) (w : World) (ok : Nat → Prop) (a : Value)
    (hok : ∀ j, ok j → j < B ∧ j ≠ tb ∧ j ≠ wb) (hB : B ≤ w.heap.size) (hw : Ws tb wb v w) (ho : w.ownsRow B 44 5 v N pre) (hp : PartAt w ok (.mk k p t x l) a)
    (hq : (Tr.mk k p t x l).all fun c => c.size ≤ 281474976710656) (hN : N + (Tr.mk k p t x l).size ≤ 200000) (ih : ∀ u : Tr, u.size < (Tr.mk k p t x l).size → NumIh B tb wb u) :
    Calls Tryz.prog 51 #[a, .pointer (some ⟨tb, 0, none⟩), .pointer (some ⟨wb, 0, none⟩)] w (NumTo B tb wb N (.mk k p t x l) v pre w) := by
  unfold PartAt at hp
  obtain ⟨g, A, cap, vs, rfl, hg, hb, hvl, hr, hps⟩ := hp
  obtain ⟨hgB, hgt, hgw⟩ := hok g hg
  have hc0 := blk_cell hb 0
  have hc1 := blk_cell hb 1
  have hc2 := blk_cell hb 2
  have hc3 := blk_cell hb 3
  have hc4 := blk_cell hb 4
  have hc5 := blk_cell hb 5
  have hfz := fun i => fz_blk hb i
  have hglt := lt_of_blk hb
  have ht0 := blk_cell hw.tree 0
  have htz := fun i => fz_blk hw.tree i
  have htlt := lt_of_blk hw.tree
  have hst := store_f
  have hqt := tx_top hq
  obtain ⟨AV, cv, rfl, hown⟩ := own_shape ho
  have kc := fun W => Clone_any t W hqt
  go_enter Tryz.func51, Tryz.ntmps51
  obtain ⟨i0, hi, hz0, hz1, hz2⟩ := info_parts int_info
  obtain ⟨j0, hj, jz0, jz1, jz2⟩ := info_parts node_info
  have hsl : l.length ≤ 200000 := by
    rw [size_mk] at hN
    have := sizes_len l
    omega
  go_wp2_with (first
    | (go_at_call 52; refine (kc _).mono ?_; rintro e w1 ⟨rfl, h1⟩; obtain ⟨hD, hDs, G1⟩ := num_a h1; rw [heap_alloc_new] at hD; have d0 := blk_cell hD 0; have d1 := blk_cell hD 1; have d2 := blk_cell hD 2; have d3 := blk_cell hD 3; have d4 := blk_cell hD 4; have dz := fun i => fz_blk hD i; have hb1 := (G1.block g hglt (by simp)).trans hb; have hc5 := blk_cell hb1 5; clear hc0 hc1 hc2 hc3 hc4)
    | (refine wpList_make_full _ rfl _ _ 42 rfl 0 3 i0 (.int .i64 0) 1 Tryz.underlying42 hi hz0 hz1 .i64 .i64 _ _ l.length rfl rfl rfl rfl (by rw [hz2]; omega) (by unfold maxLen; omega) (Nat.zero_le _) ?_; intro w2 hK gK; rw [show (w1.setCell ⟨w.heap.size, 2, none⟩ (.string t)).heap.size = w1.heap.size by simp] at hK; obtain ⟨H5, hs2, d0, d1, d2, d3, d4, dz, ht0, htz, hc5⟩ := num_b (wb := wb) htb hB hw ho hD hDs G1 (pc := [.int .u8 (k : Int), .int .i64 p, .string t, .float .f64 x, .slice none 0 0]) (kv := .slice A l.length cap) hb1 rfl hglt hK gK; clear hb1 hK gK)
    | (at_builtin; refine nd_app rfl _ _ rfl rfl (H5 _).own rfl (by simp [Act.eval]) (by omega) (by simp; omega) ?_; intro v' w3 hown3 hg3 hat3; obtain ⟨A3, c3, rfl, _⟩ := own_shape hown3; obtain ⟨ht3, P4⟩ := put_of (g := g) (H5 _) htb hwb hne hB hgB hgt hw (Nat.le_refl _) (Nat.le_of_lt hDs) ho hown3 hg3 hat3; have ht0 := blk_cell ht3 0; have htz := fun i => fz_blk ht3 i; have hc5 := blk_cell (P4.part.trans hb) 5; clear H5 d0 d1 d2 d3 d4 dz))
  have hsum : (Tr.mk k p t x l).size = 1 + Tr.sizes l := size_mk _ _ _ _ _
  have L0 := lp_start P4 rfl
  have hcl := lt_of_blk hb
  go_loopw [38] (fun i wr => ∃ j : Nat, i = .int .i64 (j : Int) ∧ j ≤ l.length ∧ Hid (Lp B tb wb N w.heap.size w1.heap.size (.slice AV N cv) pre [.int .u8 (k : Int), .int .i64 p, .string t, .float .f64 x, .slice (some ⟨w1.heap.size, 0, none⟩) l.length l.length] #[.int .u8 (k : Int), .int .i64 p, .string t, .float .f64 x, .slice (some ⟨w1.heap.size, 0, none⟩) l.length l.length] l w j wr)) (fun i _ => l.length - (intOf i).toNat)
  case atStart => exact ⟨0, rfl, Nat.zero_le _, Lib.hid L0⟩
  case round =>
    clear P4 L0 ht0 htz hc5 ht3 hg3 hat3 hown3
    obtain ⟨j, rfl, hjl, H⟩ := hrel
    obtain ⟨vj, cs, vals, hW, hO, hNd, hT, hk, hDb, hvl2, hKb, hvt, nD, nK⟩ := H.out
    clear H
    have c4 := blk_cell hDb 4
    have cw := blk_cell hW.walk 0
    have hDl := lt_of_blk hDb
    have hKl := lt_of_blk hKb
    by_cases hj : j < l.length
    · have hlt : (j : Int) < (l.length : Int) := by omega
      obtain ⟨hh, rfl, hh1, hh2, hh3⟩ := hr (by omega)
      obtain ⟨u, hu, hpu⟩ := parts_get l vs hps j hj
      obtain ⟨gu, rfl⟩ := part_ptr hpu
      have hvlt := ho.lt
      have cu : wr.cell? ⟨hh, j, none⟩ = some (.pointer (some ⟨gu, 0, none⟩)) := by
        rw [World.cell?_of_block (w := w) (hk.block hh hh2 (hok hh hh1).2.1 (fun e => by have := (hvlt _ e).1; have := (hok hh hh1).1; omega))]
        exact hh3 j _ hu
      go_wp2_with (fail)
      have hpu2 : PartAt wr.drew ok l[j] (.pointer (some ⟨gu, 0, none⟩)) := part_up (w := w) (w' := wr.drew) hk.size (fun i h1 h2 => ⟨h1, hk.block i h2 (hok i h1).2.1 (fun e => by have := (hvlt _ e).1; have := (hok i h1).1; omega)⟩) _ _ hpu
      have hszj : l[j].size < (Tr.mk k p t x l).size := by have := sizes_take l j hj; have := sizes_take_le l (j + 1); omega
      have hcall := ih l[j] hszj vj (N + 1 + Tr.sizes (l.take j)) _ wr.drew ok _ hok (Nat.le_trans hB hk.size) ⟨hW.tree, hW.walk⟩ hO hpu2 (alls_get l (by unfold Tr.all at hq; exact hq.2) j hj) (by have := sizes_take l j hj; have := sizes_take_le l (j + 1); omega)
      have hjb1 : (0 : Int) ≤ (j : Int) := by omega
      go_region_with (go_at_call 51; refine hcall.mono ?_; rintro e w5 ⟨rfl, v5, cs5, hW5, hO5, hN5, hT5, hk5⟩; obtain ⟨hD5, hK5, LN⟩ := lp_next hj htb hwb hB (Nat.le_refl _) (Nat.le_of_lt hDs) (Nat.ne_of_lt hDs) hW hO hNd hT hk hDb hvl2 hKb hvt nD nK hW5 hO5 hN5 hT5 hk5; have c4' := blk_cell hD5 4; have cK : w5.cell? ⟨w1.heap.size, j, none⟩ = vals[j]? := (blk_cell hK5 j).trans (by simp); rw [List.getElem?_eq_getElem (by omega)] at cK; have fK := fun i => fz_blk hK5 i)
      all_goals
        go_wp2_with (fail)
        go_roundw
        case rel => exact ⟨j + 1, rfl, hj, Lib.hid LN⟩
        case measure => simp [intOf]; omega
    · have hlt : ¬ (j : Int) < (l.length : Int) := by omega
      go_wp2_with (fail)
      go_ret
      have hjj : j = l.length := by omega
      subst hjj
      exact num_end (Nat.le_of_lt hDs) ⟨vj, cs, vals, hW, hO, hNd, hT, hk, hDb, hvl2, hKb, hvt, nD, nK⟩
theorem num_all (B tb wb : Nat) (htb : tb < B) (hwb : wb < B) (hne : tb ≠ wb) : ∀ (n : Nat) (u : Tr), u.size ≤ n → NumIh B tb wb u
  | 0, u, h => by have := Tr.size_pos u; omega
  | n + 1, .mk k p t x l, h => fun v N pre w ok a hok hB hw ho hp hq hN => num1 B tb wb htb hwb hne k p t x l v N pre w ok a hok hB hw ho hp hq hN fun u hu => num_all B tb wb htb hwb hne n u (by omega)
end Go.Proofs.YtablckajobefeaaGreatDoor.S
/-
  Package parse's numbered: a tree of parts as a row of nodes.
-/
namespace Go.Proofs.YtablckajobefeaaGreatDoor.S
open Go.RowKit Fl

/-- what numbered comes to: the nodes in their order, in new memory -/
def TreeAt (n0 : Nat) (l : List Nd) (v : Value) (w : World) : Prop := ∃ A cap cs, v = .agg #[.slice A l.length cap] ∧ w.ownsRow n0 44 5 (.slice A l.length cap) l.length cs ∧ NdsAt w (fun k => n0 ≤ k ∧ (Value.slice A l.length cap).ownBlock ≠ some k) l cs
theorem store_fn (a : Addr) (f : Fn) (x c : Array Value) (m : Mode) (w : World) : (store a (.func f x c) m).run Tryz.prog w = stored Tryz.prog w a (.func f x c) m := run_store Tryz.prog w a _ m rfl
theorem below_kept {w w1 w' : World} {tb : Nat} {v : Value} (h : Below w.heap.size w w1) (k : KeptT tb v w1 w') (ht : w.heap.size ≤ tb) (hv : ∀ j, v.ownBlock = some j → w.heap.size ≤ j) : Below w.heap.size w w' :=
  ⟨k.os.trans h.os, k.tape.trans h.tape, k.output.trans h.output, Nat.le_trans h.size k.size, fun j hj => (k.block j (Nat.lt_of_lt_of_le hj h.size) (by omega) (fun e => by have := hv j e; omega)).trans (h.block j hj)⟩
theorem numbered_call {t : Tr} {a : Value} {w : World} {ok : Nat → Prop} (hp : PartAt w ok t a) (hok : ∀ j, ok j → j < w.heap.size) (hq : t.all fun c => c.size ≤ 281474976710656) (hN : t.size ≤ 200000) :
    Calls Tryz.prog 51 #[a, .pointer (some ⟨w.heap.size + 1, 0, none⟩), .pointer (some ⟨w.heap.size + 1 + 1, 0, none⟩)]
      (((w.alloc (.cells #[.slice none 0 0] 32)).alloc (.cells #[.slice none 0 0] 32)).alloc (.cells #[.func (.func 51) #[] #[.pointer (some ⟨w.heap.size + 1, 0, none⟩), .pointer (some ⟨w.heap.size + 1 + 1, 0, none⟩)]] 96))
      fun e w' => e = .returned (.int .i64 0) ∧ ∃ A cap cs, w'.heap[w.heap.size + 1]? = some (.cells #[.slice A (flatT 0 t).length cap] 32 (0, 0)) ∧ w'.heap[w.heap.size]? = some (.cells #[.slice none 0 0] 32 (0, 0)) ∧
        w'.ownsRow (w.heap.size + 1 + 1) 44 5 (.slice A (flatT 0 t).length cap) (flatT 0 t).length cs ∧ NdsAt w' (fun k => w.heap.size + 1 + 1 ≤ k ∧ (Value.slice A (flatT 0 t).length cap).ownBlock ≠ some k) (flatT 0 t) cs ∧ Below w.heap.size w w' := by
  have kn := num_all (w.heap.size + 1 + 1 + 1) (w.heap.size + 1) (w.heap.size + 1 + 1) (by omega) (by omega) (by omega) t.size t (Nat.le_refl _)
  generalize ho2 : (Obj.cells #[.func (.func 51) #[] #[.pointer (some ⟨w.heap.size + 1, 0, none⟩), .pointer (some ⟨w.heap.size + 1 + 1, 0, none⟩)]] 96) = o2
  generalize ho1 : (Obj.cells #[.slice none 0 0] 32) = o1
  have s1 : (w.alloc o1).heap.size = w.heap.size + 1 := by simp
  have s2 : ((w.alloc o1).alloc o1).heap.size = w.heap.size + 1 + 1 := by simp
  have s3 : (((w.alloc o1).alloc o1).alloc o2).heap.size = w.heap.size + 1 + 1 + 1 := by simp
  have k3 : ∀ k, k < w.heap.size + 1 + 1 → (((w.alloc o1).alloc o1).alloc o2).heap[k]? = ((w.alloc o1).alloc o1).heap[k]? := fun k hk => (World.grownBy_alloc _ o2 none).block k (by omega) (by simp)
  have k2 : ∀ k, k < w.heap.size + 1 → ((w.alloc o1).alloc o1).heap[k]? = (w.alloc o1).heap[k]? := fun k hk => (World.grownBy_alloc _ o1 none).block k (by omega) (by simp)
  have b1 : (((w.alloc o1).alloc o1).alloc o2).heap[w.heap.size + 1]? = some o1 := (k3 _ (by omega)).trans (alloc_at s1.symm)
  have b0 : (((w.alloc o1).alloc o1).alloc o2).heap[w.heap.size]? = some o1 := (k3 _ (by omega)).trans ((k2 _ (by omega)).trans (alloc_at rfl))
  have b2 : (((w.alloc o1).alloc o1).alloc o2).heap[w.heap.size + 1 + 1]? = some o2 := alloc_at s2.symm
  have low : ∀ k, k < w.heap.size → (((w.alloc o1).alloc o1).alloc o2).heap[k]? = w.heap[k]? := fun k hk => (k3 _ (by omega)).trans ((k2 _ (by omega)).trans ((World.grownBy_alloc _ o1 none).block k hk (by simp)))
  have hb : Below w.heap.size w (((w.alloc o1).alloc o1).alloc o2) := ⟨rfl, rfl, rfl, by omega, low⟩
  subst ho1 ho2
  refine (kn (.slice none 0 0) 0 [] _ ok a (fun j hj => by have := hok j hj; omega) (by omega) ⟨b1, b2⟩ (World.ownsRow_nil _ _ _ _) (part_up (by omega) (fun k h1 h2 => ⟨h1, low k h2⟩) t a hp) hq (by omega)).mono ?_
  rintro e w' ⟨rfl, v', cs, hW, hO, hNd, hT, hk⟩
  rw [Nat.zero_add, List.nil_append] at hO
  rw [← flatT_len 0 t] at hO
  obtain ⟨A, cap, rfl, hlo⟩ := own_shape hO
  refine ⟨rfl, A, cap, cs, hW.tree, (hk.block _ (by omega) (by omega) (by simp [Value.ownBlock])).trans b0, ⟨hO.1, ?_⟩, nds_up (Nat.le_refl _) (fun k h1 _ => ⟨⟨by have := h1.1; omega, h1.2⟩, rfl⟩) _ _ hNd, below_kept hb hk (by omega) (by simp [Value.ownBlock])⟩
  rcases hO.2 with h1 | ⟨g, c, cur, h1, h2, h3⟩
  · exact Or.inl h1
  · exact Or.inr ⟨g, c, cur, h1, by omega, h3⟩
set_option maxHeartbeats 2000000 in
set_option maxRecDepth 100000 in
theorem numbered_any {t : Tr} {a : Value} {w : World} {ok : Nat → Prop} (hp : PartAt w ok t a) (hok : ∀ j, ok j → j < w.heap.size) (hq : t.all fun c => c.size ≤ 281474976710656) (hN : t.size ≤ 200000) :
    Calls Tryz.prog 27 #[a] w fun e w' => ∃ v, e = .returned v ∧ TreeAt w.heap.size (flatT 0 t) v w' ∧ Below w.heap.size w w' := by
  have hmf : ∀ (fn : Fn) (first cap : Array Value) (w : World), (Instr.makeFunc fn first cap).run Tryz.prog w = .ok (.func fn first cap) w := fun _ _ _ _ => rfl
  go_enter Tryz.func27, Tryz.ntmps27
  have hsf := store_fn
  have hcall := numbered_call hp hok hq hN
  go_wp2_with (go_at_call 51; refine hcall.mono ?_; rintro e w5 ⟨rfl, A5, cap5, cs5, ht5, hr5, hO5, hN5, hb5⟩; have t0 := blk_cell ht5 0; have r0 := blk_cell hr5 0; have rz := fun i => fz_blk hr5 i; have rlt := lt_of_blk hr5)
  have hset := set_blk hr5 0 (.slice A5 (flatT 0 t).length cap5)
  have hcell := blk_cell hset 0
  have G := grown_set w5 w.heap.size 0 (.slice A5 (flatT 0 t).length cap5)
  clear t0 r0
  generalize w5.setCell ⟨w.heap.size, 0, none⟩ (.slice A5 (flatT 0 t).length cap5) = W at hset hcell G ⊢
  refine bodyPost_ret (v := .agg #[.slice A5 (flatT 0 t).length cap5]) (by simp [results, Tryz.results27, go_sem, hcell]) rfl ?_
  have hlo : ∀ k, (Value.slice A5 (flatT 0 t).length cap5).ownBlock = some k → w.heap.size < k := fun k hk => by have := (hO5.lt k hk).1; omega
  refine ⟨_, rfl, ⟨A5, cap5, cs5, rfl, ?_, ?_⟩, ?_⟩
  · refine (World.ownsRow.kept ⟨hO5.1, ?_⟩ G (Or.inr fun e => by have := hlo _ e; omega))
    rcases hO5.2 with h1 | ⟨g, cap, cur, h1, h2, h3⟩
    · exact Or.inl h1
    · exact Or.inr ⟨g, cap, cur, h1, by omega, h3⟩
  · refine nds_up G.size (fun k h1 h2 => ⟨⟨by have := h1.1; omega, h1.2⟩, G.block k h2 (fun e => by have := Option.some.inj e; have := h1.1; omega)⟩) _ _ hN5
  · exact ⟨G.os.trans hb5.os, G.tape.trans hb5.tape, G.output.trans hb5.output, Nat.le_trans hb5.size G.size, fun k hk => (G.block k (Nat.lt_of_lt_of_le hk hb5.size) (fun e => by have := Option.some.inj e; omega)).trans (hb5.block k hk)⟩
end Go.Proofs.YtablckajobefeaaGreatDoor.S
/-
  Package parse's caught: what runs to its end, what panics with a fault.
-/
namespace Go.Proofs.YtablckajobefeaaGreatDoor.S
open Go.RowKit Fl

set_option maxHeartbeats 2000000 in
set_option maxRecDepth 100000 in
theorem c1_caught {b : Nat} {x y p k : Int} (older : List PanicEntry) {w : World} (hb : w.heap[b]? = some (.cells #[.int .i64 x, .int .i64 y] 67 (0, 0))) :
    CallsD Tryz.prog 46 #[.pointer (some ⟨b, 0, none⟩)] (.panicking ({ v := .iface 67 (.agg #[.int .i64 p, .int .i64 k]), recovered := false } :: older)) w fun e u' w' =>
      e = .returned (.tuple #[]) ∧ u' = .panicking ({ v := .iface 67 (.agg #[.int .i64 p, .int .i64 k]), recovered := true } :: older) ∧
        w'.heap[b]? = some (.cells #[.int .i64 p, .int .i64 k] 67 (0, 0)) ∧ w.grownBy w' (some b) := by
  have c0 : w.cell? ⟨b, 0, none⟩ = some (.int .i64 x) := blk_cell hb 0
  have c1 : w.cell? ⟨b, 1, none⟩ = some (.int .i64 y) := blk_cell hb 1
  have fz := fun i => fz_blk hb i
  have hlt := lt_of_blk hb
  refine callsD_of_wpS Tryz.func46 rfl fun c₀ cs hu => ?_
  apply wpS_seq
  apply wpS_region
  simp [wpOpsS, go_sem, recoverD, hu, Tryz.ntmps46, Exit.thenS]
  refine wpS_of_wp ?_
  have hta : ∀ W : World, (Instr.typeAssert (.iface 67 (.agg #[.int .i64 p, .int .i64 k])) 20 67 true).run Tryz.prog W = .ok (.tuple #[.agg #[.int .i64 p, .int .i64 k], .bool true]) W := fun W => by kernel_rfl
  go_wp2_with (fail)
  have hk : (((w.setCell ⟨b, 0, none⟩ (.int .i64 p)).setCell ⟨b, 1, none⟩ (.int .i64 k)).alloc (.cells #[.int .i64 p, .int .i64 k] 67)).heap[b]? = some (.cells #[.int .i64 p, .int .i64 k] 67 (0, 0)) :=
    ((World.grownBy_alloc _ _ none).block b (by simpa using hlt) (by simp)).trans (set_blk (set_blk hb 0 (.int .i64 p)) 1 (.int .i64 k))
  have hg : w.grownBy (((w.setCell ⟨b, 0, none⟩ (.int .i64 p)).setCell ⟨b, 1, none⟩ (.int .i64 k)).alloc (.cells #[.int .i64 p, .int .i64 k] 67)) (some b) :=
    ((grown_set _ _ _ _).trans (grown_set _ _ _ _)).trans (World.grownBy_alloc _ _ _)
  generalize (((w.setCell ⟨b, 0, none⟩ (.int .i64 p)).setCell ⟨b, 1, none⟩ (.int .i64 k)).alloc (.cells #[.int .i64 p, .int .i64 k] 67)) = W at hk hg ⊢
  simp [bodyPostS, results, Tryz.results46, hk, hg]
set_option maxHeartbeats 2000000 in
set_option maxRecDepth 100000 in
theorem c1_idle {b : Nat} {w : World} :
    CallsD Tryz.prog 46 #[.pointer (some ⟨b, 0, none⟩)] .returning w fun e u' w' => e = .returned (.tuple #[]) ∧ u' = .returning ∧ w' = w := by
  refine callsD_of_wpS Tryz.func46 rfl fun c₀ cs hu => ?_
  apply wpS_seq
  apply wpS_region
  simp [wpOpsS, go_sem, recoverD, hu, Tryz.ntmps46, Exit.thenS]
  refine wpS_of_wp ?_
  go_wp2_with (fail)
  cases c₀
  simp_all [bodyPostS, results, Tryz.results46]
end Go.Proofs.YtablckajobefeaaGreatDoor.S
