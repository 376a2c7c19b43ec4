/-
  What is read has no more nodes than tokens were taken, and just as many as parts were made. Plain mathematics. Generated: gen_size.py.
-/
import Derived.Test.YtablckajobefeaaGreatDoorPN20
import Derived.Test.YtablckajobefeaaGreatDoorPN13
import Derived.Test.YtablckajobefeaaGreatDoorPN15
import Derived.Test.YtablckajobefeaaGreatDoorPN16
import Derived.Test.YtablckajobefeaaGreatDoorPN17
import Derived.Test.YtablckajobefeaaGreatDoorPN18
import Derived.Test.YtablckajobefeaaGreatDoorPN19
namespace Go.Proofs.YtablckajobefeaaGreatDoor.S
open Go.RowKit Fl

theorem mk_parts {k : Nat} {p : Int} {t : ByteArray} {x : Nat} {l : List Tr} {s s1 : Ps} {z : Tr} (h : mkP k p t x l s = .ok z s1) (h1 : 0 ≤ s.parts) (h2 : s.parts ≤ 1000000) : s1.parts = s.parts + 1 := by
  unfold mkP at h
  injection h with _ e
  subst e
  show w64 (s.parts + 1) = _
  unfold w64 wrap64
  omega
theorem sizes_append (l m : List Tr) : Tr.sizes (l ++ m) = Tr.sizes l + Tr.sizes m := by
  induction l with
  | nil => simp [Tr.sizes]
  | cons t l ih => simp [Tr.sizes, ih]; omega
theorem sizes_one (t : Tr) : Tr.sizes [t] = t.size := by simp [Tr.sizes]
theorem size_mk (k : Nat) (p : Int) (t : ByteArray) (x : Nat) (l : List Tr) : (Tr.mk k p t x l).size = 1 + Tr.sizes l := by simp [Tr.size]
/-- how many tokens more than nodes a method takes -/
def slack : Mth → Nat
  | .ended => 1
  | .test => 1
  | _ => 0
def SzR (s s1 : Ps) (n k : Nat) : Prop := s1.parts = s.parts + (n : Int) ∧ s.next + n + k ≤ s1.next
def SizeA (T : List Tk) (r : Mth → Ps → Rs Tr) : Prop := ∀ m s t s1, preM T m s → s.next < T.length → 0 ≤ s.parts → s.parts ≤ s.next → r m s = .ok t s1 → SzR s s1 t.size (slack m)
def SizeF (T : List Tk) (f : Ps → Rs Tr) : Prop := ∀ s t s1, s.next < T.length → 0 ≤ s.parts → s.parts ≤ s.next → f s = .ok t s1 → SzR s s1 t.size 0
section
variable {T : List Tk}
theorem size_listed (hm : MayP T) {f : Ps → Rs Tr} (P : ProgN T f) (Z : SizeF T f) {c : ByteArray} (hc : c ≠ ⟨#[]⟩) (M : Nat) : ∀ (n : Nat) (L : List Tr) (s : Ps) (t : List Tr) (s1 : Ps), s.next < T.length → 0 ≤ s.parts → s.parts ≤ s.next → listedR T c M f n L s = .ok t s1 →
    s1.parts + (Tr.sizes L : Int) = s.parts + (Tr.sizes t : Int) ∧ s.next + Tr.sizes t + 1 ≤ s1.next + Tr.sizes L
  | 0, _, _, _, _, _, _, _, h => by unfold listedR at h; cases h
  | n + 1, L, s, t, s1, hs, ha, hb, h => by
    unfold listedR at h
    by_cases q : L.length = M
    · rw [if_pos q] at h; cases h
    rw [if_neg q] at h
    obtain ⟨x, s2, h1, h⟩ := Rs.bind_inv h
    obtain ⟨p1, p2⟩ := P s x s2 hs h1
    obtain ⟨z1, z2⟩ := Z s x s2 hs ha hb h1
    have on2 : s2.on.next = s2.next + 1 := rfl
    have on3 : s2.on.parts = s2.parts := rfl
    by_cases q2 : (sd T s2 == c) = true
    · rw [if_pos q2] at h
      obtain ⟨et, es⟩ := Rs.ok_inj h
      rw [et, es, sizes_append, sizes_one]
      omega
    · rw [if_neg q2] at h
      obtain ⟨y, s3, h2, h⟩ := Rs.bind_inv h
      obtain ⟨q3, rfl⟩ := take1_inv h2
      have := size_listed hm P Z hc M n _ _ _ _ (tok_end hm p2 (kind_of_sd hm p2 q3 (by decide))) (by omega) (by omega) h
      rw [sizes_append, sizes_one] at this
      omega
theorem size_list (hm : MayP T) {f : Ps → Rs Tr} (P : ProgN T f) (Z : SizeF T f) {c : ByteArray} (hc : c ≠ ⟨#[]⟩) (M : Nat) {s s1 : Ps} {t : List Tr} (hs : s.next < T.length) (ha : 0 ≤ s.parts) (hb : s.parts ≤ s.next) (h : listR T c M f s = .ok t s1) : SzR s s1 (Tr.sizes t) 1 := by
  unfold listR at h
  by_cases q : (sd T s == c) = true
  · rw [if_pos q] at h
    obtain ⟨et, es⟩ := Rs.ok_inj h
    have on2 : s.on.next = s.next + 1 := rfl
    have on3 : s.on.parts = s.parts := rfl
    rw [et, es]
    exact ⟨by simp only [Tr.sizes]; omega, by simp only [Tr.sizes]; omega⟩
  · rw [if_neg q] at h
    have := size_listed hm P Z hc M _ _ _ _ _ hs ha hb h
    simp only [Tr.sizes] at this
    exact ⟨by omega, by omega⟩
theorem size_block (hm : MayP T) {f : Ps → Rs Tr} (P : ProgN T f) (Z : SizeF T f) : ∀ (n : Nat) (L : List Tr) (s : Ps) (t : List Tr) (s1 : Ps), s.next < T.length → 0 ≤ s.parts → s.parts ≤ s.next → blockL T f n L s = .ok t s1 →
    s1.parts + (Tr.sizes L : Int) = s.parts + (Tr.sizes t : Int) ∧ s.next + Tr.sizes t + 1 ≤ s1.next + Tr.sizes L
  | 0, _, _, _, _, _, _, _, h => by unfold blockL at h; cases h
  | n + 1, L, s, t, s1, hs, ha, hb, h => by
    unfold blockL at h
    by_cases q : (sd T s == (⟨#[125]⟩ : ByteArray)) = true
    · rw [if_pos q] at h
      obtain ⟨et, es⟩ := Rs.ok_inj h
      have on2 : s.on.next = s.next + 1 := rfl
      have on3 : s.on.parts = s.parts := rfl
      rw [et, es]
      omega
    · rw [if_neg q] at h
      obtain ⟨x, s2, h1, h⟩ := Rs.bind_inv h
      obtain ⟨p1, p2⟩ := P s x s2 hs h1
      obtain ⟨z1, z2⟩ := Z s x s2 hs ha hb h1
      have := size_block hm P Z n _ _ _ _ p2 (by omega) (by omega) h
      rw [sizes_append, sizes_one] at this
      omega
theorem size_script (hm : MayP T) {f : Ps → Rs Tr} (P : ProgN T f) (Z : SizeF T f) : ∀ (n : Nat) (L : List Tr) (s : Ps) (t : List Tr) (s1 : Ps), s.next < T.length → 0 ≤ s.parts → s.parts ≤ s.next → scriptL T f n L s = .ok t s1 →
    s1.parts + (Tr.sizes L : Int) = s.parts + (Tr.sizes t : Int) ∧ s.next + Tr.sizes t ≤ s1.next + Tr.sizes L ∧ s1.next < T.length
  | 0, _, _, _, _, _, _, _, h => by unfold scriptL at h; cases h
  | n + 1, L, s, t, s1, hs, ha, hb, h => by
    unfold scriptL at h
    by_cases q : (tok T s).kind = 0
    · rw [if_pos q] at h
      obtain ⟨et, es⟩ := Rs.ok_inj h
      rw [et, es]
      omega
    · rw [if_neg q] at h
      obtain ⟨x, s2, h1, h⟩ := Rs.bind_inv h
      obtain ⟨p1, p2⟩ := P s x s2 hs h1
      obtain ⟨z1, z2⟩ := Z s x s2 hs ha hb h1
      have := size_script hm P Z n _ _ _ _ p2 (by omega) (by omega) h
      rw [sizes_append, sizes_one] at this
      omega
theorem size_args (hm : MayP T) {r : Mth → Ps → Rs Tr} (P : ProgN T (r .assign)) (Z : SizeF T (r .assign)) {x : Tr} {s s1 : Ps} {t : List Tr} (hs : s.next < T.length) (ha : 0 ≤ s.parts) (hb : s.parts ≤ s.next) (h : argsR T r x s = .ok t s1) :
    s1.parts + (x.size : Int) = s.parts + (Tr.sizes t : Int) ∧ s.next + Tr.sizes t + 2 ≤ s1.next + x.size := by
  unfold argsR at h
  obtain ⟨y, s2, h1, h⟩ := Rs.bind_inv h
  obtain ⟨q1, rfl⟩ := take1_inv h1
  obtain ⟨m, s3, h2, h⟩ := Rs.bind_inv h
  obtain ⟨et, es⟩ := Rs.ok_inj h
  have on1 : s.on.next = s.next + 1 := rfl
  have on2 : s.on.parts = s.parts := rfl
  obtain ⟨z1, z2⟩ := size_list hm P Z (c := (⟨#[41]⟩ : ByteArray)) (by decide) 64 (tok_end hm hs (kind_of_sd hm hs q1 (by decide))) (by omega) (by omega) h2
  rw [et, es]
  simp only [Tr.sizes]
  omega
theorem size_sides (hm : MayP T) (hT : T.length ≤ 100000) {r : Mth → Ps → Rs Tr} (P : ∀ k, 1 ≤ k → ProgN T (r (.sides k))) (Z : ∀ k, 1 ≤ k → SizeF T (r (.sides k))) (p : Int) {k : Nat} (hk : 1 ≤ k) : ∀ (n : Nat) (x : Tr) (s : Ps) (t : Tr) (s1 : Ps), s.next < T.length → 0 ≤ s.parts → s.parts ≤ s.next → sidesL T r p k n x s = .ok t s1 →
    s1.parts + (x.size : Int) = s.parts + (t.size : Int) ∧ s.next + t.size ≤ s1.next + x.size
  | 0, _, _, _, _, _, _, _, h => by unfold sidesL at h; cases h
  | n + 1, x, s, t, s1, hs, ha, hb, h => by
    unfold sidesL at h
    by_cases q : levelOf (sd T s) < k
    · rw [if_pos q] at h
      obtain ⟨et, es⟩ := Rs.ok_inj h
      rw [et, es]
      omega
    · rw [if_neg q] at h
      obtain ⟨y, s2, h1, h⟩ := Rs.bind_inv h
      have on1 : s.on.next = s.next + 1 := rfl
      have on2 : s.on.parts = s.parts := rfl
      have l1 : s.on.next < T.length := tok_end hm hs (kind_of_level hm hs (by omega))
      obtain ⟨p1, p2⟩ := P _ (Nat.le_add_left 1 _) s.on y s2 l1 h1
      obtain ⟨z1, z2⟩ := Z _ (Nat.le_add_left 1 _) s.on y s2 l1 (by omega) (by omega) h1
      obtain ⟨z, s3, h2, h⟩ := Rs.bind_inv h
      have e3 := mk_parts h2 (by omega) (by omega)
      obtain ⟨rfl, e1, e2⟩ := mk_inv h2
      have := size_sides hm hT P Z p hk n _ _ _ _ (by omega) (by omega) (by omega) h
      rw [size_mk] at this
      simp only [Tr.sizes] at this
      omega
theorem size_chain (hm : MayP T) (hT : T.length ≤ 100000) {r : Mth → Ps → Rs Tr} (P : ProgN T (r .assign)) (Z : SizeF T (r .assign)) (p : Int) (c : Bool) : ∀ (n : Nat) (x : Tr) (s : Ps) (t : Tr) (s1 : Ps), s.next < T.length → 0 ≤ s.parts → s.parts ≤ s.next → chainL T r p c n x s = .ok t s1 →
    s1.parts + (x.size : Int) = s.parts + (t.size : Int) ∧ s.next + t.size ≤ s1.next + x.size
  | 0, _, _, _, _, _, _, _, h => by unfold chainL at h; cases h
  | n + 1, x, s, t, s1, hs, ha, hb, h => by
    have on1 : s.on.next = s.next + 1 := rfl
    have on1p : s.on.parts = s.parts := rfl
    unfold chainL at h
    by_cases q : (sd T s == (⟨#[46]⟩ : ByteArray)) = true
    · rw [if_pos q] at h
      have l1 : s.on.next < T.length := tok_end hm hs (kind_of_sd hm hs q (by decide))
      obtain ⟨y, s2, h1, h⟩ := Rs.bind_inv h
      obtain ⟨k1, k2, rfl⟩ := word_inv h1
      have on2 : s.on.on.next = s.next + 2 := rfl
      have on2p : s.on.on.parts = s.parts := rfl
      have l2 : s.on.on.next < T.length := tok_end hm l1 k1
      obtain ⟨z, s3, h2, h⟩ := Rs.bind_inv h
      have e3 := mk_parts h2 (by omega) (by omega)
      obtain ⟨rfl, e1, e2⟩ := mk_inv h2
      have := size_chain hm hT P Z p c n _ _ _ _ (by omega) (by omega) (by omega) h
      rw [size_mk] at this
      simp only [Tr.sizes] at this
      omega
    rw [if_neg q] at h
    by_cases q2 : (sd T s == (⟨#[91]⟩ : ByteArray)) = true
    · rw [if_pos q2] at h
      have l1 : s.on.next < T.length := tok_end hm hs (kind_of_sd hm hs q2 (by decide))
      obtain ⟨y, s2, h1, h⟩ := Rs.bind_inv h
      obtain ⟨p1, p2⟩ := P _ _ _ l1 h1
      obtain ⟨z1, z2⟩ := Z _ _ _ l1 (by omega) (by omega) h1
      obtain ⟨v, s3, h2, h⟩ := Rs.bind_inv h
      obtain ⟨q3, rfl⟩ := take1_inv h2
      have on2 : s2.on.next = s2.next + 1 := rfl
      have on2p : s2.on.parts = s2.parts := rfl
      have l2 : s2.on.next < T.length := tok_end hm p2 (kind_of_sd hm p2 q3 (by decide))
      obtain ⟨z, s4, h3, h⟩ := Rs.bind_inv h
      have e3 := mk_parts h3 (by omega) (by omega)
      obtain ⟨rfl, e1, e2⟩ := mk_inv h3
      have := size_chain hm hT P Z p c n _ _ _ _ (by omega) (by omega) (by omega) h
      rw [size_mk] at this
      simp only [Tr.sizes] at this
      omega
    rw [if_neg q2] at h
    by_cases q3 : (c && (sd T s == (⟨#[40]⟩ : ByteArray))) = true
    · rw [if_pos q3] at h
      obtain ⟨y, s2, h1, h⟩ := Rs.bind_inv h
      obtain ⟨p1, p2⟩ := args_progN hm P hs h1
      obtain ⟨z1, z2⟩ := size_args hm P Z hs ha hb h1
      have hx := Tr.size_pos x
      have hy0 : 0 ≤ Tr.sizes y := Nat.zero_le _
      obtain ⟨z, s4, h3, h⟩ := Rs.bind_inv h
      have hlow : x.size ≤ Tr.sizes y := by
        unfold argsR at h1
        obtain ⟨_, _, _, h1⟩ := Rs.bind_inv h1
        obtain ⟨m, _, _, h1⟩ := Rs.bind_inv h1
        obtain ⟨et, _⟩ := Rs.ok_inj h1
        rw [et]
        simp only [Tr.sizes]
        omega
      have e3 := mk_parts h3 (by omega) (by omega)
      obtain ⟨rfl, e1, e2⟩ := mk_inv h3
      have := size_chain hm hT P Z p c n _ _ _ _ (by omega) (by omega) (by omega) h
      rw [size_mk] at this
      omega
    · rw [if_neg q3] at h
      obtain ⟨et, es⟩ := Rs.ok_inj h
      rw [et, es]
      omega
theorem size_decl (_hm : MayP T) (hT : T.length ≤ 100000) {s s1 : Ps} {t : Tr} (hs : s.next < T.length) (ha : 0 ≤ s.parts) (hb : s.parts ≤ s.next) (h : declR T s = .ok t s1) : SzR s s1 1 1 ∧ t.size = 1 ∧ t.kids = [] := by
  have on1 : s.on.next = s.next + 1 := rfl
  have on2 : s.on.on.next = s.next + 2 := rfl
  have on1p : s.on.parts = s.parts := rfl
  have on2p : s.on.on.parts = s.parts := rfl
  unfold declR at h
  by_cases q : (sd T s == (⟨#[99, 111, 110, 115, 116]⟩ : ByteArray)) = true
  · rw [if_pos q] at h
    obtain ⟨w1, z1, k1, h⟩ := Rs.bind_inv h
    obtain ⟨q1, rfl, rfl⟩ := name_inv k1
    have e3 := mk_parts h (by omega) (by omega)
    obtain ⟨rfl, e1, e2⟩ := mk_inv h
    exact ⟨⟨by omega, by omega⟩, by rw [size_mk]; simp only [Tr.sizes], rfl⟩
  · rw [if_neg q] at h
    obtain ⟨w0, z0, k0, h⟩ := Rs.bind_inv h
    obtain ⟨q0, rfl⟩ := take1_inv k0
    obtain ⟨w1, z1, k1, h⟩ := Rs.bind_inv h
    obtain ⟨q1, rfl, rfl⟩ := name_inv k1
    have e3 := mk_parts h (by omega) (by omega)
    obtain ⟨rfl, e1, e2⟩ := mk_inv h
    exact ⟨⟨by omega, by omega⟩, by rw [size_mk]; simp only [Tr.sizes], rfl⟩
theorem size_param (_hm : MayP T) (hT : T.length ≤ 100000) : SizeF T (paramR T) := fun s t s1 hs ha hb h => by
  have on1 : s.on.next = s.next + 1 := rfl
  have on1p : s.on.parts = s.parts := rfl
  unfold paramR at h
  obtain ⟨w1, z1, k1, h⟩ := Rs.bind_inv h
  obtain ⟨q1, rfl, rfl⟩ := name_inv k1
  have e3 := mk_parts h (by omega) (by omega)
  obtain ⟨rfl, e1, e2⟩ := mk_inv h
  rw [size_mk]
  simp only [Tr.sizes]
  exact ⟨by omega, by omega⟩
theorem size_bare (hT : T.length ≤ 100000) {k : Nat} {c : ByteArray} {s s1 : Ps} {t : Tr} (hs : s.next < T.length) (ha : 0 ≤ s.parts) (hb : s.parts ≤ s.next) (h : bareR T k [c] s = .ok t s1) : SzR s s1 t.size 0 := by
  unfold bareR takes takes at h
  obtain ⟨w1, z1, k1, h⟩ := Rs.bind_inv h
  obtain ⟨w2, z2, k2, k3⟩ := Rs.bind_inv k1
  obtain ⟨q1, rfl⟩ := take1_inv k2
  obtain ⟨_, rfl⟩ := Rs.ok_inj k3
  have on1 : s.on.next = s.next + 1 := rfl
  have on1p : s.on.parts = s.parts := rfl
  have e3 := mk_parts h (by omega) (by omega)
  obtain ⟨rfl, h2, h3⟩ := mk_inv h
  rw [size_mk]
  simp only [Tr.sizes]
  exact ⟨by omega, by omega⟩
theorem size_bare2 (hT : T.length ≤ 100000) {k : Nat} {c f : ByteArray} {s s1 : Ps} {t : Tr} (hs : s.next < T.length) (ha : 0 ≤ s.parts) (hb : s.parts ≤ s.next) (h : bareR T k [c, f] s = .ok t s1) : SzR s s1 t.size 0 := by
  unfold bareR takes takes takes at h
  obtain ⟨w1, z1, k1, h⟩ := Rs.bind_inv h
  obtain ⟨w2, z2, k2, k3⟩ := Rs.bind_inv k1
  obtain ⟨q1, rfl⟩ := take1_inv k2
  obtain ⟨w4, z4, k4, k5⟩ := Rs.bind_inv k3
  obtain ⟨q2, rfl⟩ := take1_inv k4
  obtain ⟨_, rfl⟩ := Rs.ok_inj k5
  have on1 : s.on.on.next = s.next + 2 := rfl
  have on1p : s.on.on.parts = s.parts := rfl
  have e3 := mk_parts h (by omega) (by omega)
  obtain ⟨rfl, h2, h3⟩ := mk_inv h
  rw [size_mk]
  simp only [Tr.sizes]
  exact ⟨by omega, by omega⟩
theorem zx_dstated (_hm : MayP T) (_hT : T.length ≤ 100000) {r : Mth → Ps → Rs Tr} (P : ProgA T r) (Z : SizeA T r) {s s1 : Ps} {t : Tr} (hs : s.next < T.length) (ha : 0 ≤ s.parts) (hb : s.parts ≤ s.next)
    (h : deeperR T (r .stated) s = .ok t s1) : SzR s s1 t.size 0 ∧ s.next < s1.next ∧ s1.next < T.length := by
  obtain ⟨_, s2, e1, e2⟩ := deeper_inv h
  have z := Z .stated { s with level := w64 (s.level + 1) } _ _ trivial hs ha hb e1
  have p := P .stated { s with level := w64 (s.level + 1) } _ _ trivial hs e1
  simp only [SzR, slack] at z ⊢
  rw [e2]
  exact ⟨⟨by show s2.parts = _; omega, by show _ ≤ s2.next; omega⟩, p⟩
theorem zx_dbodyIn (_hm : MayP T) (_hT : T.length ≤ 100000) {r : Mth → Ps → Rs Tr} (P : ProgA T r) (Z : SizeA T r) {s s1 : Ps} {t : Tr} (hs : s.next < T.length) (ha : 0 ≤ s.parts) (hb : s.parts ≤ s.next)
    (h : deeperR T (r .bodyIn) s = .ok t s1) : SzR s s1 t.size 0 ∧ s.next < s1.next ∧ s1.next < T.length := by
  obtain ⟨_, s2, e1, e2⟩ := deeper_inv h
  have z := Z .bodyIn { s with level := w64 (s.level + 1) } _ _ trivial hs ha hb e1
  have p := P .bodyIn { s with level := w64 (s.level + 1) } _ _ trivial hs e1
  simp only [SzR, slack] at z ⊢
  rw [e2]
  exact ⟨⟨by show s2.parts = _; omega, by show _ ≤ s2.next; omega⟩, p⟩
theorem zx_dassigned (_hm : MayP T) (_hT : T.length ≤ 100000) {r : Mth → Ps → Rs Tr} (P : ProgA T r) (Z : SizeA T r) {s s1 : Ps} {t : Tr} (hs : s.next < T.length) (ha : 0 ≤ s.parts) (hb : s.parts ≤ s.next)
    (h : deeperR T (r .assigned) s = .ok t s1) : SzR s s1 t.size 0 ∧ s.next < s1.next ∧ s1.next < T.length := by
  obtain ⟨_, s2, e1, e2⟩ := deeper_inv h
  have z := Z .assigned { s with level := w64 (s.level + 1) } _ _ trivial hs ha hb e1
  have p := P .assigned { s with level := w64 (s.level + 1) } _ _ trivial hs e1
  simp only [SzR, slack] at z ⊢
  rw [e2]
  exact ⟨⟨by show s2.parts = _; omega, by show _ ≤ s2.next; omega⟩, p⟩
theorem zx_dnewIn (_hm : MayP T) (_hT : T.length ≤ 100000) {r : Mth → Ps → Rs Tr} (P : ProgA T r) (Z : SizeA T r) {s s1 : Ps} {t : Tr} (hs : s.next < T.length) (ha : 0 ≤ s.parts) (hb : s.parts ≤ s.next)
    (h : deeperR T (r .newIn) s = .ok t s1) : SzR s s1 t.size 0 ∧ s.next < s1.next ∧ s1.next < T.length := by
  obtain ⟨_, s2, e1, e2⟩ := deeper_inv h
  have z := Z .newIn { s with level := w64 (s.level + 1) } _ _ trivial hs ha hb e1
  have p := P .newIn { s with level := w64 (s.level + 1) } _ _ trivial hs e1
  simp only [SzR, slack] at z ⊢
  rw [e2]
  exact ⟨⟨by show s2.parts = _; omega, by show _ ≤ s2.next; omega⟩, p⟩
theorem zx_dled (_hm : MayP T) (_hT : T.length ≤ 100000) {r : Mth → Ps → Rs Tr} (P : ProgA T r) (Z : SizeA T r) {s s1 : Ps} {t : Tr} (hk : (tok T s).kind ≠ 0) (hs : s.next < T.length) (ha : 0 ≤ s.parts) (hb : s.parts ≤ s.next)
    (h : deeperR T (r .led) s = .ok t s1) : SzR s s1 t.size 0 ∧ s.next < s1.next ∧ s1.next < T.length := by
  obtain ⟨_, s2, e1, e2⟩ := deeper_inv h
  have z := Z .led { s with level := w64 (s.level + 1) } _ _ hk hs ha hb e1
  have p := P .led { s with level := w64 (s.level + 1) } _ _ hk hs e1
  simp only [SzR, slack] at z ⊢
  rw [e2]
  exact ⟨⟨by show s2.parts = _; omega, by show _ ≤ s2.next; omega⟩, p⟩
theorem zx_bodyIn (_hm : MayP T) (_hT : T.length ≤ 100000) {r : Mth → Ps → Rs Tr} (_P : ProgA T r) (Z : SizeA T r) {s s1 : Ps} {t : Tr} (hs : s.next < T.length) (ha : 0 ≤ s.parts) (hb : s.parts ≤ s.next)
    (h : step T r .bodyIn s = .ok t s1) : SzR s s1 t.size (slack .bodyIn) := by
  dsimp only [step] at h
  by_cases q1 : ((sd T s) == (⟨#[108, 101, 116]⟩ : ByteArray) || (sd T s) == (⟨#[99, 111, 110, 115, 116]⟩ : ByteArray) || (sd T s) == (⟨#[102, 117, 110, 99, 116, 105, 111, 110]⟩ : ByteArray)) = true
  · rw [if_pos q1] at h
    cases h
  · rw [if_neg q1] at h
    have z2 := Z (.stated) _ _ _ trivial hs (by omega) (by omega) h
    simp only [SzR, slack] at z2
    simp only [SzR, slack]
    omega
theorem zx_ended (hm : MayP T) (_hT : T.length ≤ 100000) {r : Mth → Ps → Rs Tr} (P : ProgA T r) (Z : SizeA T r) {s s1 : Ps} {t : Tr} (hs : s.next < T.length) (ha : 0 ≤ s.parts) (hb : s.parts ≤ s.next)
    (h : step T r .ended s = .ok t s1) : SzR s s1 t.size (slack .ended) := by
  dsimp only [step] at h
  obtain ⟨x1, s11, h1, h⟩ := Rs.bind_inv h
  have p1 := P (.assign) _ _ _ trivial hs h1
  have z1 := Z (.assign) _ _ _ trivial hs (by omega) (by omega) h1
  simp only [SzR, slack] at z1
  obtain ⟨w2, z2, k2, h⟩ := Rs.bind_inv h
  obtain ⟨q2, rfl⟩ := take1_inv k2
  have l2 : s11.on.next < T.length := tok_end hm p1.2 (kind_of_sd hm p1.2 q2 (by decide))
  have n2 : s11.on.next = s11.next + 1 := rfl
  have m2 : s11.on.parts = s11.parts := rfl
  obtain ⟨et, es⟩ := Rs.ok_inj h
  have en : s1.next = s11.on.next := by rw [es]
  have ep : s1.parts = s11.on.parts := by rw [es]
  rw [et]
  simp only [SzR, slack]
  omega
theorem zx_test (hm : MayP T) (_hT : T.length ≤ 100000) {r : Mth → Ps → Rs Tr} (P : ProgA T r) (Z : SizeA T r) {s s1 : Ps} {t : Tr} (hs : s.next < T.length) (ha : 0 ≤ s.parts) (hb : s.parts ≤ s.next)
    (h : step T r .test s = .ok t s1) : SzR s s1 t.size (slack .test) := by
  dsimp only [step] at h
  obtain ⟨w1, z1, k1, h⟩ := Rs.bind_inv h
  obtain ⟨q1, rfl⟩ := take1_inv k1
  have l1 : s.on.next < T.length := tok_end hm hs (kind_of_sd hm hs q1 (by decide))
  have n1 : s.on.next = s.next + 1 := rfl
  have m1 : s.on.parts = s.parts := rfl
  obtain ⟨x2, s12, h2, h⟩ := Rs.bind_inv h
  have p2 := P (.assign) _ _ _ trivial l1 h2
  have z2 := Z (.assign) _ _ _ trivial l1 (by omega) (by omega) h2
  simp only [SzR, slack] at z2
  obtain ⟨w3, z3, k3, h⟩ := Rs.bind_inv h
  obtain ⟨q3, rfl⟩ := take1_inv k3
  have l3 : s12.on.next < T.length := tok_end hm p2.2 (kind_of_sd hm p2.2 q3 (by decide))
  have n3 : s12.on.next = s12.next + 1 := rfl
  have m3 : s12.on.parts = s12.parts := rfl
  obtain ⟨et, es⟩ := Rs.ok_inj h
  have en : s1.next = s12.on.next := by rw [es]
  have ep : s1.parts = s12.on.parts := by rw [es]
  rw [et]
  simp only [SzR, slack]
  omega
theorem zx_block (hm : MayP T) (hT : T.length ≤ 100000) {r : Mth → Ps → Rs Tr} (P : ProgA T r) (Z : SizeA T r) {s s1 : Ps} {t : Tr} (hs : s.next < T.length) (ha : 0 ≤ s.parts) (hb : s.parts ≤ s.next)
    (h : step T r .block s = .ok t s1) : SzR s s1 t.size (slack .block) := by
  dsimp only [step] at h
  obtain ⟨w1, z1, k1, h⟩ := Rs.bind_inv h
  obtain ⟨q1, rfl⟩ := take1_inv k1
  have l1 : s.on.next < T.length := tok_end hm hs (kind_of_sd hm hs q1 (by decide))
  have n1 : s.on.next = s.next + 1 := rfl
  have m1 : s.on.parts = s.parts := rfl
  obtain ⟨x2, s12, h2, h⟩ := Rs.bind_inv h
  have p2 := prog_blockN hm (fun _ _ _ hs h => P .statement _ _ _ trivial hs h) _ _ _ _ _ l1 h2
  have z2 := size_block hm (fun _ _ _ hs h => P .statement _ _ _ trivial hs h) (fun _ _ _ hs ha hb h => Z .statement _ _ _ trivial hs ha hb h) _ _ _ _ _ l1 (by omega) (by omega) h2
  simp only [Tr.sizes] at z2
  have e3 := mk_parts h (by omega) (by omega)
  obtain ⟨rfl, e1, e2⟩ := mk_inv h
  rw [size_mk]
  try simp only [sizes_append]
  try simp only [Tr.sizes]
  simp only [SzR, slack]
  omega
set_option maxHeartbeats 1000000 in
theorem zx_stated (hm : MayP T) (hT : T.length ≤ 100000) {r : Mth → Ps → Rs Tr} (P : ProgA T r) (Z : SizeA T r) {s s1 : Ps} {t : Tr} (hs : s.next < T.length) (ha : 0 ≤ s.parts) (hb : s.parts ≤ s.next)
    (h : step T r .stated s = .ok t s1) : SzR s s1 t.size (slack .stated) := by
  dsimp only [step] at h
  by_cases q1 : ((sd T s) == (⟨#[123]⟩ : ByteArray)) = true
  · rw [if_pos q1] at h
    have z2 := Z (.block) _ _ _ trivial hs (by omega) (by omega) h
    simp only [SzR, slack] at z2
    simp only [SzR, slack]
    omega
  · rw [if_neg q1] at h
    by_cases q2 : ((sd T s) == (⟨#[59]⟩ : ByteArray)) = true
    · rw [if_pos q2] at h
      have := size_bare hT hs (by omega) (by omega) h
      simp only [SzR] at this
      simp only [SzR, slack]
      omega
    · rw [if_neg q2] at h
      by_cases q3 : ((sd T s) == (⟨#[108, 101, 116]⟩ : ByteArray) || (sd T s) == (⟨#[99, 111, 110, 115, 116]⟩ : ByteArray)) = true
      · rw [if_pos q3] at h
        have z4 := Z (.declaration) _ _ _ trivial hs (by omega) (by omega) h
        simp only [SzR, slack] at z4
        simp only [SzR, slack]
        omega
      · rw [if_neg q3] at h
        by_cases q4 : ((sd T s) == (⟨#[102, 117, 110, 99, 116, 105, 111, 110]⟩ : ByteArray)) = true
        · rw [if_pos q4] at h
          obtain ⟨w5, z5, k5, h⟩ := Rs.bind_inv h
          obtain ⟨q5, rfl⟩ := take1_inv k5
          have l5 : s.on.next < T.length := tok_end hm hs (kind_of_sd hm hs q5 (by decide))
          have n5 : s.on.next = s.next + 1 := rfl
          have m5 : s.on.parts = s.parts := rfl
          obtain ⟨w6, z6, k6, h⟩ := Rs.bind_inv h
          obtain ⟨q6, rfl, rfl⟩ := name_inv k6
          have l6 : s.on.on.next < T.length := tok_end hm l5 (by omega)
          have n6 : s.on.on.next = s.on.next + 1 := rfl
          have m6 : s.on.on.parts = s.on.parts := rfl
          have z7 := Z (.function 5 (here T s) (tok T s.on).text) _ _ _ trivial l6 (by omega) (by omega) h
          simp only [SzR, slack] at z7
          simp only [SzR, slack]
          omega
        · rw [if_neg q4] at h
          by_cases q5 : ((sd T s) == (⟨#[105, 102]⟩ : ByteArray)) = true
          · rw [if_pos q5] at h
            have z6 := Z (.branch) _ _ _ trivial hs (by omega) (by omega) h
            simp only [SzR, slack] at z6
            simp only [SzR, slack]
            omega
          · rw [if_neg q5] at h
            by_cases q6 : ((sd T s) == (⟨#[119, 104, 105, 108, 101]⟩ : ByteArray)) = true
            · rw [if_pos q6] at h
              obtain ⟨w7, z7, k7, h⟩ := Rs.bind_inv h
              obtain ⟨q7, rfl⟩ := take1_inv k7
              have l7 : s.on.next < T.length := tok_end hm hs (kind_of_sd hm hs q7 (by decide))
              have n7 : s.on.next = s.next + 1 := rfl
              have m7 : s.on.parts = s.parts := rfl
              obtain ⟨x8, s18, h8, h⟩ := Rs.bind_inv h
              have p8 := P (.test) _ _ _ trivial l7 h8
              have z8 := Z (.test) _ _ _ trivial l7 (by omega) (by omega) h8
              simp only [SzR, slack] at z8
              obtain ⟨x9, s19, h9, h⟩ := Rs.bind_inv h
              have p9 := P (.body) _ _ _ trivial p8.2 h9
              have z9 := Z (.body) _ _ _ trivial p8.2 (by omega) (by omega) h9
              simp only [SzR, slack] at z9
              have e3 := mk_parts h (by omega) (by omega)
              obtain ⟨rfl, e1, e2⟩ := mk_inv h
              rw [size_mk]
              try simp only [sizes_append]
              try simp only [Tr.sizes]
              simp only [SzR, slack]
              omega
            · rw [if_neg q6] at h
              by_cases q7 : ((sd T s) == (⟨#[102, 111, 114]⟩ : ByteArray)) = true
              · rw [if_pos q7] at h
                have z8 := Z (.loop) _ _ _ trivial hs (by omega) (by omega) h
                simp only [SzR, slack] at z8
                simp only [SzR, slack]
                omega
              · rw [if_neg q7] at h
                by_cases q8 : ((sd T s) == (⟨#[114, 101, 116, 117, 114, 110]⟩ : ByteArray)) = true
                · rw [if_pos q8] at h
                  have z9 := Z (.answer) _ _ _ trivial hs (by omega) (by omega) h
                  simp only [SzR, slack] at z9
                  simp only [SzR, slack]
                  omega
                · rw [if_neg q8] at h
                  by_cases q9 : ((sd T s) == (⟨#[116, 104, 114, 111, 119]⟩ : ByteArray)) = true
                  · rw [if_pos q9] at h
                    obtain ⟨w10, z10, k10, h⟩ := Rs.bind_inv h
                    obtain ⟨q10, rfl⟩ := take1_inv k10
                    have l10 : s.on.next < T.length := tok_end hm hs (kind_of_sd hm hs q10 (by decide))
                    have n10 : s.on.next = s.next + 1 := rfl
                    have m10 : s.on.parts = s.parts := rfl
                    obtain ⟨x11, s21, h11, h⟩ := Rs.bind_inv h
                    have p11 := P (.ended) _ _ _ trivial l10 h11
                    have z11 := Z (.ended) _ _ _ trivial l10 (by omega) (by omega) h11
                    simp only [SzR, slack] at z11
                    have e3 := mk_parts h (by omega) (by omega)
                    obtain ⟨rfl, e1, e2⟩ := mk_inv h
                    rw [size_mk]
                    try simp only [sizes_append]
                    try simp only [Tr.sizes]
                    simp only [SzR, slack]
                    omega
                  · rw [if_neg q9] at h
                    by_cases q10 : ((sd T s) == (⟨#[98, 114, 101, 97, 107]⟩ : ByteArray)) = true
                    · rw [if_pos q10] at h
                      have := size_bare2 hT hs (by omega) (by omega) h
                      simp only [SzR] at this
                      simp only [SzR, slack]
                      omega
                    · rw [if_neg q10] at h
                      by_cases q11 : ((sd T s) == (⟨#[99, 111, 110, 116, 105, 110, 117, 101]⟩ : ByteArray)) = true
                      · rw [if_pos q11] at h
                        have := size_bare2 hT hs (by omega) (by omega) h
                        simp only [SzR] at this
                        simp only [SzR, slack]
                        omega
                      · rw [if_neg q11] at h
                        by_cases q12 : ((sd T s) == (⟨#[116, 114, 121]⟩ : ByteArray)) = true
                        · rw [if_pos q12] at h
                          have z13 := Z (.guarded) _ _ _ trivial hs (by omega) (by omega) h
                          simp only [SzR, slack] at z13
                          simp only [SzR, slack]
                          omega
                        · rw [if_neg q12] at h
                          obtain ⟨x13, s23, h13, h⟩ := Rs.bind_inv h
                          have p13 := P (.ended) _ _ _ trivial hs h13
                          have z13 := Z (.ended) _ _ _ trivial hs (by omega) (by omega) h13
                          simp only [SzR, slack] at z13
                          have e3 := mk_parts h (by omega) (by omega)
                          obtain ⟨rfl, e1, e2⟩ := mk_inv h
                          rw [size_mk]
                          try simp only [sizes_append]
                          try simp only [Tr.sizes]
                          simp only [SzR, slack]
                          omega
theorem zx_declaration (hm : MayP T) (hT : T.length ≤ 100000) {r : Mth → Ps → Rs Tr} (_P : ProgA T r) (Z : SizeA T r) {s s1 : Ps} {t : Tr} (hs : s.next < T.length) (ha : 0 ≤ s.parts) (hb : s.parts ≤ s.next)
    (h : step T r .declaration s = .ok t s1) : SzR s s1 t.size (slack .declaration) := by
  dsimp only [step] at h
  obtain ⟨x, s2, h1, h⟩ := Rs.bind_inv h
  have p1 := prog_declN hm hs h1
  obtain ⟨z1, y1, _⟩ := size_decl hm hT hs (by omega) (by omega) h1
  simp only [SzR] at z1
  obtain ⟨k, p, n, m, z⟩ := x
  dsimp only at h
  have on2 : s2.on.next = s2.next + 1 := rfl
  have on2p : s2.on.parts = s2.parts := rfl
  by_cases q : k = 3 ∧ (sd T s2 == (⟨#[59]⟩ : ByteArray)) = true
  · rw [if_pos q] at h
    obtain ⟨et, es⟩ := Rs.ok_inj h
    rw [et, es, y1]
    exact ⟨by omega, by simp only [slack]; omega⟩
  · rw [if_neg q] at h
    obtain ⟨w3, z3, k3, h⟩ := Rs.bind_inv h
    obtain ⟨q3, rfl⟩ := take1_inv k3
    have l3 : s2.on.next < T.length := tok_end hm p1.2 (kind_of_sd hm p1.2 q3 (by decide))
    obtain ⟨x4, s4, h4, h⟩ := Rs.bind_inv h
    have z4 := Z .ended _ _ _ trivial l3 (by omega) (by omega) h4
    simp only [SzR, slack] at z4
    obtain ⟨et, es⟩ := Rs.ok_inj h
    rw [et, es, size_mk, sizes_one]
    exact ⟨by omega, by simp only [slack]; omega⟩
theorem zx_function (hm : MayP T) (hT : T.length ≤ 100000) {r : Mth → Ps → Rs Tr} (P : ProgA T r) (Z : SizeA T r) {s s1 : Ps} {t : Tr} {k : Nat} {p : Int} {n : ByteArray} (hs : s.next < T.length) (ha : 0 ≤ s.parts) (hb : s.parts ≤ s.next)
    (h : step T r (.function k p n) s = .ok t s1) : SzR s s1 t.size (slack (.function k p n)) := by
  dsimp only [step] at h
  obtain ⟨w1, z1, k1, h⟩ := Rs.bind_inv h
  obtain ⟨q1, rfl⟩ := take1_inv k1
  have l1 : s.on.next < T.length := tok_end hm hs (kind_of_sd hm hs q1 (by decide))
  have n1 : s.on.next = s.next + 1 := rfl
  have m1 : s.on.parts = s.parts := rfl
  obtain ⟨x2, s12, h2, h⟩ := Rs.bind_inv h
  have p2 := prog_listN hm (prog_paramN hm) (c := (⟨#[41]⟩ : ByteArray)) (by decide) 64 l1 h2
  have z2 := size_list hm (prog_paramN hm) (size_param hm hT) (c := (⟨#[41]⟩ : ByteArray)) (by decide) 64 l1 (by omega) (by omega) h2
  simp only [SzR] at z2
  obtain ⟨x3, s13, h3, h⟩ := Rs.bind_inv h
  have p3 := P (.block) _ _ _ trivial p2.2 h3
  have z3 := Z (.block) _ _ _ trivial p2.2 (by omega) (by omega) h3
  simp only [SzR, slack] at z3
  have e3 := mk_parts h (by omega) (by omega)
  obtain ⟨rfl, e1, e2⟩ := mk_inv h
  rw [size_mk]
  try simp only [sizes_append]
  try simp only [Tr.sizes]
  simp only [SzR, slack]
  omega
theorem zx_branch (hm : MayP T) (hT : T.length ≤ 100000) {r : Mth → Ps → Rs Tr} (P : ProgA T r) (Z : SizeA T r) {s s1 : Ps} {t : Tr} (hs : s.next < T.length) (ha : 0 ≤ s.parts) (hb : s.parts ≤ s.next)
    (h : step T r .branch s = .ok t s1) : SzR s s1 t.size (slack .branch) := by
  dsimp only [step] at h
  obtain ⟨w1, z1, k1, h⟩ := Rs.bind_inv h
  obtain ⟨q1, rfl⟩ := take1_inv k1
  have l1 : s.on.next < T.length := tok_end hm hs (kind_of_sd hm hs q1 (by decide))
  have n1 : s.on.next = s.next + 1 := rfl
  have m1 : s.on.parts = s.parts := rfl
  obtain ⟨x2, s12, h2, h⟩ := Rs.bind_inv h
  have p2 := P (.test) _ _ _ trivial l1 h2
  have z2 := Z (.test) _ _ _ trivial l1 (by omega) (by omega) h2
  simp only [SzR, slack] at z2
  obtain ⟨x3, s13, h3, h⟩ := Rs.bind_inv h
  have p3 := P (.body) _ _ _ trivial p2.2 h3
  have z3 := Z (.body) _ _ _ trivial p2.2 (by omega) (by omega) h3
  simp only [SzR, slack] at z3
  by_cases q4 : ((sd T s13) == (⟨#[101, 108, 115, 101]⟩ : ByteArray)) = true
  · rw [if_pos q4] at h
    have l5 : s13.on.next < T.length := tok_end hm p3.2 (kind_of_sd hm p3.2 q4 (by decide))
    have n5 : s13.on.next = s13.next + 1 := rfl
    have m5 : s13.on.parts = s13.parts := rfl
    obtain ⟨x6, s16, h6, h⟩ := Rs.bind_inv h
    have p6 := P (.body) _ _ _ trivial l5 h6
    have z6 := Z (.body) _ _ _ trivial l5 (by omega) (by omega) h6
    simp only [SzR, slack] at z6
    have e3 := mk_parts h (by omega) (by omega)
    obtain ⟨rfl, e1, e2⟩ := mk_inv h
    rw [size_mk]
    try simp only [sizes_append]
    try simp only [Tr.sizes]
    simp only [SzR, slack]
    omega
  · rw [if_neg q4] at h
    have e3 := mk_parts h (by omega) (by omega)
    obtain ⟨rfl, e1, e2⟩ := mk_inv h
    rw [size_mk]
    try simp only [sizes_append]
    try simp only [Tr.sizes]
    simp only [SzR, slack]
    omega
theorem zx_loop (hm : MayP T) (hT : T.length ≤ 100000) {r : Mth → Ps → Rs Tr} (P : ProgA T r) (Z : SizeA T r) {s s1 : Ps} {t : Tr} (hs : s.next < T.length) (ha : 0 ≤ s.parts) (hb : s.parts ≤ s.next)
    (h : step T r .loop s = .ok t s1) : SzR s s1 t.size (slack .loop) := by
  dsimp only [step] at h
  obtain ⟨w1, z1, k1, h⟩ := Rs.bind_inv h
  obtain ⟨q1, f1, rfl⟩ := takes2_inv k1
  have m1 : s.on.next < T.length := tok_end hm hs (kind_of_sd hm hs q1 (by decide))
  have l1 : s.on.on.next < T.length := tok_end hm m1 (kind_of_sd hm m1 f1 (by decide))
  have n1 : s.on.on.next = s.next + 2 := rfl
  have o1 : s.on.on.parts = s.parts := rfl
  obtain ⟨x2, s12, h2, h⟩ := Rs.bind_inv h
  have p2 := prog_declN hm l1 h2
  obtain ⟨z2, y2, _⟩ := size_decl hm hT l1 (by omega) (by omega) h2
  simp only [SzR] at z2
  by_cases q3 : ((sd T s12) == (⟨#[105, 110]⟩ : ByteArray)) = true
  · rw [if_pos q3] at h
    have l4 : s12.on.next < T.length := tok_end hm p2.2 (kind_of_sd hm p2.2 q3 (by decide))
    have n4 : s12.on.next = s12.next + 1 := rfl
    have m4 : s12.on.parts = s12.parts := rfl
    obtain ⟨x5, s15, h5, h⟩ := Rs.bind_inv h
    have p5 := P (.assign) _ _ _ trivial l4 h5
    have z5 := Z (.assign) _ _ _ trivial l4 (by omega) (by omega) h5
    simp only [SzR, slack] at z5
    obtain ⟨w6, z6, k6, h⟩ := Rs.bind_inv h
    obtain ⟨q6, rfl⟩ := take1_inv k6
    have l6 : s15.on.next < T.length := tok_end hm p5.2 (kind_of_sd hm p5.2 q6 (by decide))
    have n6 : s15.on.next = s15.next + 1 := rfl
    have m6 : s15.on.parts = s15.parts := rfl
    obtain ⟨x7, s17, h7, h⟩ := Rs.bind_inv h
    have p7 := P (.body) _ _ _ trivial l6 h7
    have z7 := Z (.body) _ _ _ trivial l6 (by omega) (by omega) h7
    simp only [SzR, slack] at z7
    have e3 := mk_parts h (by omega) (by omega)
    obtain ⟨rfl, e1, e2⟩ := mk_inv h
    rw [size_mk]
    try simp only [sizes_append]
    try simp only [Tr.sizes]
    simp only [SzR, slack]
    omega
  · rw [if_neg q3] at h
    obtain ⟨w4, z4, k4, h⟩ := Rs.bind_inv h
    obtain ⟨q4, rfl⟩ := take1_inv k4
    have l4 : s12.on.next < T.length := tok_end hm p2.2 (kind_of_sd hm p2.2 q4 (by decide))
    have n4 : s12.on.next = s12.next + 1 := rfl
    have m4 : s12.on.parts = s12.parts := rfl
    obtain ⟨x5, s15, h5, h⟩ := Rs.bind_inv h
    have p5 := P (.assign) _ _ _ trivial l4 h5
    have z5 := Z (.assign) _ _ _ trivial l4 (by omega) (by omega) h5
    simp only [SzR, slack] at z5
    obtain ⟨w6, z6, k6, h⟩ := Rs.bind_inv h
    obtain ⟨q6, rfl⟩ := take1_inv k6
    have l6 : s15.on.next < T.length := tok_end hm p5.2 (kind_of_sd hm p5.2 q6 (by decide))
    have n6 : s15.on.next = s15.next + 1 := rfl
    have m6 : s15.on.parts = s15.parts := rfl
    obtain ⟨x7, s17, h7, h⟩ := Rs.bind_inv h
    have p7 := P (.body) _ _ _ trivial l6 h7
    have z7 := Z (.body) _ _ _ trivial l6 (by omega) (by omega) h7
    simp only [SzR, slack] at z7
    have e3 := mk_parts h (by omega) (by omega)
    obtain ⟨rfl, e1, e2⟩ := mk_inv h
    rw [size_mk]
    try simp only [sizes_append]
    try simp only [Tr.sizes]
    simp only [SzR, slack]
    omega
theorem zx_answer (hm : MayP T) (hT : T.length ≤ 100000) {r : Mth → Ps → Rs Tr} (P : ProgA T r) (Z : SizeA T r) {s s1 : Ps} {t : Tr} (hs : s.next < T.length) (ha : 0 ≤ s.parts) (hb : s.parts ≤ s.next)
    (h : step T r .answer s = .ok t s1) : SzR s s1 t.size (slack .answer) := by
  dsimp only [step] at h
  obtain ⟨w1, z1, k1, h⟩ := Rs.bind_inv h
  obtain ⟨q1, rfl⟩ := take1_inv k1
  have l1 : s.on.next < T.length := tok_end hm hs (kind_of_sd hm hs q1 (by decide))
  have n1 : s.on.next = s.next + 1 := rfl
  have m1 : s.on.parts = s.parts := rfl
  by_cases q2 : ((sd T s.on) == (⟨#[59]⟩ : ByteArray)) = true
  · rw [if_pos q2] at h
    have l3 : s.on.on.next < T.length := tok_end hm l1 (kind_of_sd hm l1 q2 (by decide))
    have n3 : s.on.on.next = s.on.next + 1 := rfl
    have m3 : s.on.on.parts = s.on.parts := rfl
    have e3 := mk_parts h (by omega) (by omega)
    obtain ⟨rfl, e1, e2⟩ := mk_inv h
    rw [size_mk]
    try simp only [sizes_append]
    try simp only [Tr.sizes]
    simp only [SzR, slack]
    omega
  · rw [if_neg q2] at h
    obtain ⟨x3, s13, h3, h⟩ := Rs.bind_inv h
    have p3 := P (.ended) _ _ _ trivial l1 h3
    have z3 := Z (.ended) _ _ _ trivial l1 (by omega) (by omega) h3
    simp only [SzR, slack] at z3
    have e3 := mk_parts h (by omega) (by omega)
    obtain ⟨rfl, e1, e2⟩ := mk_inv h
    rw [size_mk]
    try simp only [sizes_append]
    try simp only [Tr.sizes]
    simp only [SzR, slack]
    omega
theorem zx_guarded (hm : MayP T) (hT : T.length ≤ 100000) {r : Mth → Ps → Rs Tr} (P : ProgA T r) (Z : SizeA T r) {s s1 : Ps} {t : Tr} (hs : s.next < T.length) (ha : 0 ≤ s.parts) (hb : s.parts ≤ s.next)
    (h : step T r .guarded s = .ok t s1) : SzR s s1 t.size (slack .guarded) := by
  dsimp only [step] at h
  obtain ⟨w1, z1, k1, h⟩ := Rs.bind_inv h
  obtain ⟨q1, rfl⟩ := take1_inv k1
  have l1 : s.on.next < T.length := tok_end hm hs (kind_of_sd hm hs q1 (by decide))
  have n1 : s.on.next = s.next + 1 := rfl
  have n1p : s.on.parts = s.parts := rfl
  obtain ⟨x2, s2, h2, h⟩ := Rs.bind_inv h
  have p2 := P .block _ _ _ trivial l1 h2
  have z2 := Z .block _ _ _ trivial l1 (by omega) (by omega) h2
  simp only [SzR, slack] at z2
  obtain ⟨X, s8, hX, h⟩ := Rs.bind_inv h
  obtain ⟨Y, s11, hY, h⟩ := Rs.bind_inv h
  have hC : s2.next ≤ s8.next ∧ s8.next < T.length ∧ s8.parts + (x2.size : Int) = s2.parts + (Tr.sizes X : Int) ∧ s2.next + Tr.sizes X ≤ s8.next + x2.size := by
    by_cases q : (sd T s2 == (⟨#[99, 97, 116, 99, 104]⟩ : ByteArray)) = true
    · rw [if_pos q] at hX
      have l2 : s2.on.next < T.length := tok_end hm p2.2 (kind_of_sd hm p2.2 q (by decide))
      obtain ⟨w3, z3, k3, hX⟩ := Rs.bind_inv hX
      obtain ⟨q3, rfl⟩ := take1_inv k3
      have l3 : s2.on.on.next < T.length := tok_end hm l2 (kind_of_sd hm l2 q3 (by decide))
      obtain ⟨w4, z4, k4, hX⟩ := Rs.bind_inv hX
      obtain ⟨q4, rfl, rfl⟩ := name_inv k4
      have l4 : s2.on.on.on.next < T.length := tok_end hm l3 (by omega)
      obtain ⟨w5, z5, k5, hX⟩ := Rs.bind_inv hX
      obtain ⟨q5, rfl⟩ := take1_inv k5
      have l5 : s2.on.on.on.on.next < T.length := tok_end hm l4 (kind_of_sd hm l4 q5 (by decide))
      have n5 : s2.on.on.on.on.next = s2.next + 4 := rfl
      have n5p : s2.on.on.on.on.parts = s2.parts := rfl
      obtain ⟨x6, s6, h6, hX⟩ := Rs.bind_inv hX
      have p6 := P .block _ _ _ trivial l5 h6
      have z6 := Z .block _ _ _ trivial l5 (by omega) (by omega) h6
      simp only [SzR, slack] at z6
      obtain ⟨x7, s7, h7, hX⟩ := Rs.bind_inv hX
      have e3 := mk_parts h7 (by omega) (by omega)
      obtain ⟨rfl, e1, e2⟩ := mk_inv h7
      obtain ⟨eX, e8⟩ := Rs.ok_inj hX
      rw [eX, e8]
      simp only [Tr.sizes, size_mk]
      omega
    · rw [if_neg q] at hX
      obtain ⟨eX, e8⟩ := Rs.ok_inj hX
      rw [eX, e8, sizes_one]
      omega
  have hF : s11.next < T.length ∧ s11.parts + (Tr.sizes X : Int) = s8.parts + (Tr.sizes Y : Int) ∧ s8.next + Tr.sizes Y ≤ s11.next + Tr.sizes X ∧ s8.next ≤ s11.next := by
    by_cases q : (sd T s8 == (⟨#[102, 105, 110, 97, 108, 108, 121]⟩ : ByteArray)) = true
    · rw [if_pos q] at hY
      have l8 : s8.on.next < T.length := tok_end hm hC.2.1 (kind_of_sd hm hC.2.1 q (by decide))
      have n8 : s8.on.next = s8.next + 1 := rfl
      have n8p : s8.on.parts = s8.parts := rfl
      have hx2 := Tr.size_pos x2
      have hlow : x2.size ≤ Tr.sizes X := by
        by_cases q : (sd T s2 == (⟨#[99, 97, 116, 99, 104]⟩ : ByteArray)) = true
        · rw [if_pos q] at hX
          obtain ⟨_, _, _, hX⟩ := Rs.bind_inv hX
          obtain ⟨_, _, _, hX⟩ := Rs.bind_inv hX
          obtain ⟨_, _, _, hX⟩ := Rs.bind_inv hX
          obtain ⟨_, _, _, hX⟩ := Rs.bind_inv hX
          obtain ⟨_, _, _, hX⟩ := Rs.bind_inv hX
          rw [(Rs.ok_inj hX).1]
          simp only [Tr.sizes]
          omega
        · rw [if_neg q] at hX
          rw [(Rs.ok_inj hX).1, sizes_one]
          exact Nat.le_refl _
      obtain ⟨x9, s9, h9, hY⟩ := Rs.bind_inv hY
      have p9 := P .block _ _ _ trivial l8 h9
      have z9 := Z .block _ _ _ trivial l8 (by omega) (by omega) h9
      simp only [SzR, slack] at z9
      obtain ⟨x10, s10, h10, hY⟩ := Rs.bind_inv hY
      have e3 := mk_parts h10 (by omega) (by omega)
      obtain ⟨rfl, e1, e2⟩ := mk_inv h10
      obtain ⟨eY, e11⟩ := Rs.ok_inj hY
      rw [eY, e11, sizes_append, sizes_one, size_mk, sizes_one]
      omega
    · rw [if_neg q] at hY
      obtain ⟨eY, e11⟩ := Rs.ok_inj hY
      rw [eY, e11]
      omega
  by_cases q : Y.length = 1
  · rw [if_pos q] at h; cases h
  · rw [if_neg q] at h
    have hp0 : 0 ≤ s11.parts ∧ s11.parts ≤ s11.next := by
      have hx2 := Tr.size_pos x2
      constructor
      · have : (x2.size : Int) ≤ s11.parts := by
          have h1 : x2.size ≤ Tr.sizes X := by
            by_cases q : (sd T s2 == (⟨#[99, 97, 116, 99, 104]⟩ : ByteArray)) = true
            · rw [if_pos q] at hX
              obtain ⟨_, _, _, hX⟩ := Rs.bind_inv hX
              obtain ⟨_, _, _, hX⟩ := Rs.bind_inv hX
              obtain ⟨_, _, _, hX⟩ := Rs.bind_inv hX
              obtain ⟨_, _, _, hX⟩ := Rs.bind_inv hX
              obtain ⟨_, _, _, hX⟩ := Rs.bind_inv hX
              rw [(Rs.ok_inj hX).1]
              simp only [Tr.sizes]
              omega
            · rw [if_neg q] at hX
              rw [(Rs.ok_inj hX).1, sizes_one]
              exact Nat.le_refl _
          have h2 : Tr.sizes X ≤ Tr.sizes Y := by
            by_cases q : (sd T s8 == (⟨#[102, 105, 110, 97, 108, 108, 121]⟩ : ByteArray)) = true
            · rw [if_pos q] at hY
              obtain ⟨_, _, _, hY⟩ := Rs.bind_inv hY
              obtain ⟨_, _, _, hY⟩ := Rs.bind_inv hY
              rw [(Rs.ok_inj hY).1, sizes_append]
              omega
            · rw [if_neg q] at hY
              rw [(Rs.ok_inj hY).1]
              exact Nat.le_refl _
          omega
        omega
      · omega
    have e3 := mk_parts h (by omega) (by omega)
    obtain ⟨rfl, e1, e2⟩ := mk_inv h
    rw [size_mk]
    exact ⟨by omega, by simp only [slack]; omega⟩
theorem zx_assigned (hm : MayP T) (hT : T.length ≤ 100000) {r : Mth → Ps → Rs Tr} (P : ProgA T r) (Z : SizeA T r) {s s1 : Ps} {t : Tr} (hs : s.next < T.length) (ha : 0 ≤ s.parts) (hb : s.parts ≤ s.next)
    (h : step T r .assigned s = .ok t s1) : SzR s s1 t.size (slack .assigned) := by
  dsimp only [step] at h
  obtain ⟨x1, s11, h1, h⟩ := Rs.bind_inv h
  have p1 := P (.cond) _ _ _ trivial hs h1
  have z1 := Z (.cond) _ _ _ trivial hs (by omega) (by omega) h1
  simp only [SzR, slack] at z1
  by_cases q2 : (putsB (sd T s11)) = true
  · rw [if_pos q2] at h
    by_cases q3 : targetB x1.kind = true
    · rw [if_pos q3] at h
      obtain ⟨w4, z4, k4, h⟩ := Rs.bind_inv h
      obtain ⟨q4, rfl⟩ := take1_inv k4
      have l4 : s11.on.next < T.length := tok_end hm p1.2 (kind_of_sd hm p1.2 q4 (by intro hz; rw [hz] at q2; exact absurd q2 (by decide)))
      have n4 : s11.on.next = s11.next + 1 := rfl
      have m4 : s11.on.parts = s11.parts := rfl
      obtain ⟨x5, s15, h5, h⟩ := Rs.bind_inv h
      have p5 := P (.assign) _ _ _ trivial l4 h5
      have z5 := Z (.assign) _ _ _ trivial l4 (by omega) (by omega) h5
      simp only [SzR, slack] at z5
      have e3 := mk_parts h (by omega) (by omega)
      obtain ⟨rfl, e1, e2⟩ := mk_inv h
      rw [size_mk]
      try simp only [sizes_append]
      try simp only [Tr.sizes]
      simp only [SzR, slack]
      omega
    · rw [if_neg q3] at h
      cases h
  · rw [if_neg q2] at h
    obtain ⟨et, es⟩ := Rs.ok_inj h
    have en : s1.next = s11.next := by rw [es]
    have ep : s1.parts = s11.parts := by rw [es]
    rw [et]
    simp only [SzR, slack]
    omega
theorem zx_cond (hm : MayP T) (hT : T.length ≤ 100000) {r : Mth → Ps → Rs Tr} (P : ProgA T r) (Z : SizeA T r) {s s1 : Ps} {t : Tr} (hs : s.next < T.length) (ha : 0 ≤ s.parts) (hb : s.parts ≤ s.next)
    (h : step T r .cond s = .ok t s1) : SzR s s1 t.size (slack .cond) := by
  dsimp only [step] at h
  obtain ⟨x1, s11, h1, h⟩ := Rs.bind_inv h
  have p1 := P (.sides 1) _ _ _ (Nat.le_refl 1) hs h1
  have z1 := Z (.sides 1) _ _ _ (Nat.le_refl 1) hs (by omega) (by omega) h1
  simp only [SzR, slack] at z1
  by_cases q2 : ((sd T s11) == (⟨#[63]⟩ : ByteArray)) = true
  · rw [if_pos q2] at h
    have l3 : s11.on.next < T.length := tok_end hm p1.2 (kind_of_sd hm p1.2 q2 (by decide))
    have n3 : s11.on.next = s11.next + 1 := rfl
    have m3 : s11.on.parts = s11.parts := rfl
    obtain ⟨x4, s14, h4, h⟩ := Rs.bind_inv h
    have p4 := P (.assign) _ _ _ trivial l3 h4
    have z4 := Z (.assign) _ _ _ trivial l3 (by omega) (by omega) h4
    simp only [SzR, slack] at z4
    obtain ⟨w5, z5, k5, h⟩ := Rs.bind_inv h
    obtain ⟨q5, rfl⟩ := take1_inv k5
    have l5 : s14.on.next < T.length := tok_end hm p4.2 (kind_of_sd hm p4.2 q5 (by decide))
    have n5 : s14.on.next = s14.next + 1 := rfl
    have m5 : s14.on.parts = s14.parts := rfl
    obtain ⟨x6, s16, h6, h⟩ := Rs.bind_inv h
    have p6 := P (.assign) _ _ _ trivial l5 h6
    have z6 := Z (.assign) _ _ _ trivial l5 (by omega) (by omega) h6
    simp only [SzR, slack] at z6
    have e3 := mk_parts h (by omega) (by omega)
    obtain ⟨rfl, e1, e2⟩ := mk_inv h
    rw [size_mk]
    try simp only [sizes_append]
    try simp only [Tr.sizes]
    simp only [SzR, slack]
    omega
  · rw [if_neg q2] at h
    obtain ⟨et, es⟩ := Rs.ok_inj h
    have en : s1.next = s11.next := by rw [es]
    have ep : s1.parts = s11.parts := by rw [es]
    rw [et]
    simp only [SzR, slack]
    omega
theorem zx_sides (hm : MayP T) (hT : T.length ≤ 100000) {r : Mth → Ps → Rs Tr} (P : ProgA T r) (Z : SizeA T r) {s s1 : Ps} {t : Tr} {k : Nat} (hk : 1 ≤ k) (hs : s.next < T.length) (ha : 0 ≤ s.parts) (hb : s.parts ≤ s.next)
    (h : step T r (.sides k) s = .ok t s1) : SzR s s1 t.size (slack (.sides k)) := by
  dsimp only [step] at h
  obtain ⟨x2, s2, h2, h⟩ := Rs.bind_inv h
  have p2 := P .unary _ _ _ trivial hs h2
  have z2 := Z .unary _ _ _ trivial hs ha hb h2
  simp only [SzR, slack] at z2
  have z3 := size_sides hm hT (fun k hk s t s1 hs h => P (.sides k) s t s1 hk hs h) (fun k hk s t s1 hs ha hb h => Z (.sides k) s t s1 hk hs ha hb h) _ hk _ _ _ _ _ p2.2 (by omega) (by omega) h
  exact ⟨by omega, by simp only [slack]; omega⟩
theorem zx_chain (hm : MayP T) (hT : T.length ≤ 100000) {r : Mth → Ps → Rs Tr} (P : ProgA T r) (Z : SizeA T r) {s s1 : Ps} {t : Tr} {c : Bool} (hs : s.next < T.length) (ha : 0 ≤ s.parts) (hb : s.parts ≤ s.next)
    (h : step T r (.chain c) s = .ok t s1) : SzR s s1 t.size (slack (.chain c)) := by
  dsimp only [step] at h
  obtain ⟨x2, s2, h2, h⟩ := Rs.bind_inv h
  have p2 := P .head _ _ _ trivial hs h2
  have z2 := Z .head _ _ _ trivial hs ha hb h2
  simp only [SzR, slack] at z2
  have z3 := size_chain hm hT (fun s t s1 hs h => P .assign s t s1 trivial hs h) (fun s t s1 hs ha hb h => Z .assign s t s1 trivial hs ha hb h) _ c _ _ _ _ _ p2.2 (by omega) (by omega) h
  exact ⟨by omega, by simp only [slack]; omega⟩
theorem zx_unary (hm : MayP T) (_hT : T.length ≤ 100000) {r : Mth → Ps → Rs Tr} (P : ProgA T r) (Z : SizeA T r) {s s1 : Ps} {t : Tr} (hs : s.next < T.length) (ha : 0 ≤ s.parts) (hb : s.parts ≤ s.next)
    (h : step T r .unary s = .ok t s1) : SzR s s1 t.size (slack .unary) := by
  dsimp only [step] at h
  by_cases q : leadsB (sd T s) = true
  · rw [if_pos q] at h
    exact (zx_dled hm _hT P Z (kind_of_leads hm hs q) hs ha hb h).1
  · rw [if_neg q] at h
    exact Z (.chain true) _ _ _ trivial hs ha hb h
theorem zx_led (hm : MayP T) (hT : T.length ≤ 100000) {r : Mth → Ps → Rs Tr} (P : ProgA T r) (Z : SizeA T r) {s s1 : Ps} {t : Tr} (hp : (tok T s).kind ≠ 0) (hs : s.next < T.length) (ha : 0 ≤ s.parts) (hb : s.parts ≤ s.next)
    (h : step T r .led s = .ok t s1) : SzR s s1 t.size (slack .led) := by
  dsimp only [step] at h
  have l1 : s.on.next < T.length := tok_end hm hs (hp)
  have n1 : s.on.next = s.next + 1 := rfl
  have m1 : s.on.parts = s.parts := rfl
  obtain ⟨x2, s12, h2, h⟩ := Rs.bind_inv h
  have p2 := P (.unary) _ _ _ trivial l1 h2
  have z2 := Z (.unary) _ _ _ trivial l1 (by omega) (by omega) h2
  simp only [SzR, slack] at z2
  have e3 := mk_parts h (by omega) (by omega)
  obtain ⟨rfl, e1, e2⟩ := mk_inv h
  rw [size_mk]
  try simp only [sizes_append]
  try simp only [Tr.sizes]
  simp only [SzR, slack]
  omega
theorem zx_head (hm : MayP T) (hT : T.length ≤ 100000) {r : Mth → Ps → Rs Tr} (P : ProgA T r) (Z : SizeA T r) {s s1 : Ps} {t : Tr} (hs : s.next < T.length) (ha : 0 ≤ s.parts) (hb : s.parts ≤ s.next)
    (h : step T r .head s = .ok t s1) : SzR s s1 t.size (slack .head) := by
  dsimp only [step] at h
  by_cases q : (sd T s == (⟨#[110, 101, 119]⟩ : ByteArray)) = true
  · rw [if_pos q] at h
    obtain ⟨x2, s2, h2, h⟩ := Rs.bind_inv h
    obtain ⟨z2, p2⟩ := zx_dnewIn hm hT P Z hs ha hb h2
    simp only [SzR] at z2
    obtain ⟨x3, s3, h3, h⟩ := Rs.bind_inv h
    have p3 := args_progN hm (fun _ _ _ hs h => P .assign _ _ _ trivial hs h) p2.2 h3
    have z3 := size_args hm (fun _ _ _ hs h => P .assign _ _ _ trivial hs h) (fun _ _ _ hs ha hb h => Z .assign _ _ _ trivial hs ha hb h) p2.2 (by omega) (by omega) h3
    have hlow : x2.size ≤ Tr.sizes x3 := by
      unfold argsR at h3
      obtain ⟨_, _, _, h3⟩ := Rs.bind_inv h3
      obtain ⟨m, _, _, h3⟩ := Rs.bind_inv h3
      obtain ⟨et, _⟩ := Rs.ok_inj h3
      rw [et]
      simp only [Tr.sizes]
      omega
    have e3 := mk_parts h (by omega) (by omega)
    obtain ⟨rfl, e1, e2⟩ := mk_inv h
    rw [size_mk]
    exact ⟨by omega, by simp only [slack]; omega⟩
  · rw [if_neg q] at h
    exact Z .primary _ _ _ trivial hs ha hb h
theorem zx_newIn (hm : MayP T) (_hT : T.length ≤ 100000) {r : Mth → Ps → Rs Tr} (_P : ProgA T r) (Z : SizeA T r) {s s1 : Ps} {t : Tr} (hs : s.next < T.length) (ha : 0 ≤ s.parts) (hb : s.parts ≤ s.next)
    (h : step T r .newIn s = .ok t s1) : SzR s s1 t.size (slack .newIn) := by
  dsimp only [step] at h
  obtain ⟨w1, z1, k1, h⟩ := Rs.bind_inv h
  obtain ⟨q1, rfl⟩ := take1_inv k1
  have l1 : s.on.next < T.length := tok_end hm hs (kind_of_sd hm hs q1 (by decide))
  have n1 : s.on.next = s.next + 1 := rfl
  have m1 : s.on.parts = s.parts := rfl
  have z2 := Z (.chain false) _ _ _ trivial l1 (by omega) (by omega) h
  simp only [SzR, slack] at z2
  simp only [SzR, slack]
  omega
set_option maxHeartbeats 1000000 in
theorem zx_primary (hm : MayP T) (hT : T.length ≤ 100000) {r : Mth → Ps → Rs Tr} (P : ProgA T r) (Z : SizeA T r) {s s1 : Ps} {t : Tr} (hs : s.next < T.length) (ha : 0 ≤ s.parts) (hb : s.parts ≤ s.next)
    (h : step T r .primary s = .ok t s1) : SzR s s1 t.size (slack .primary) := by
  dsimp only [step] at h
  by_cases q1 : (tok T s).kind = 3
  · rw [if_pos q1] at h
    unfold numR at h
    have l3 : s.on.next < T.length := tok_end hm hs (by omega)
    have n3 : s.on.next = s.next + 1 := rfl
    have m3 : s.on.parts = s.parts := rfl
    have e3 := mk_parts h (by omega) (by omega)
    obtain ⟨rfl, e1, e2⟩ := mk_inv h
    rw [size_mk]
    try simp only [sizes_append]
    try simp only [Tr.sizes]
    simp only [SzR, slack]
    omega
  · rw [if_neg q1] at h
    by_cases q2 : (tok T s).kind = 4
    · rw [if_pos q2] at h
      have l3 : s.on.next < T.length := tok_end hm hs (by omega)
      have n3 : s.on.next = s.next + 1 := rfl
      have m3 : s.on.parts = s.parts := rfl
      have e3 := mk_parts h (by omega) (by omega)
      obtain ⟨rfl, e1, e2⟩ := mk_inv h
      rw [size_mk]
      try simp only [sizes_append]
      try simp only [Tr.sizes]
      simp only [SzR, slack]
      omega
    · rw [if_neg q2] at h
      by_cases q3 : (tok T s).kind = 1
      · rw [if_pos q3] at h
        have l4 : s.on.next < T.length := tok_end hm hs (by omega)
        have n4 : s.on.next = s.next + 1 := rfl
        have m4 : s.on.parts = s.parts := rfl
        have e3 := mk_parts h (by omega) (by omega)
        obtain ⟨rfl, e1, e2⟩ := mk_inv h
        rw [size_mk]
        try simp only [sizes_append]
        try simp only [Tr.sizes]
        simp only [SzR, slack]
        omega
      · rw [if_neg q3] at h
        by_cases q4 : ((tok T s).text == (⟨#[116, 114, 117, 101]⟩ : ByteArray)) = true
        · rw [if_pos q4] at h
          have := size_bare hT hs (by omega) (by omega) h
          simp only [SzR] at this
          simp only [SzR, slack]
          omega
        · rw [if_neg q4] at h
          by_cases q5 : ((tok T s).text == (⟨#[102, 97, 108, 115, 101]⟩ : ByteArray)) = true
          · rw [if_pos q5] at h
            have := size_bare hT hs (by omega) (by omega) h
            simp only [SzR] at this
            simp only [SzR, slack]
            omega
          · rw [if_neg q5] at h
            by_cases q6 : ((tok T s).text == (⟨#[110, 117, 108, 108]⟩ : ByteArray)) = true
            · rw [if_pos q6] at h
              have := size_bare hT hs (by omega) (by omega) h
              simp only [SzR] at this
              simp only [SzR, slack]
              omega
            · rw [if_neg q6] at h
              by_cases q7 : ((tok T s).text == (⟨#[116, 104, 105, 115]⟩ : ByteArray)) = true
              · rw [if_pos q7] at h
                have := size_bare hT hs (by omega) (by omega) h
                simp only [SzR] at this
                simp only [SzR, slack]
                omega
              · rw [if_neg q7] at h
                by_cases q8 : ((tok T s).text == (⟨#[40]⟩ : ByteArray)) = true
                · rw [if_pos q8] at h
                  have z9 := Z (.test) _ _ _ trivial hs (by omega) (by omega) h
                  simp only [SzR, slack] at z9
                  simp only [SzR, slack]
                  omega
                · rw [if_neg q8] at h
                  by_cases q9 : ((tok T s).text == (⟨#[102, 117, 110, 99, 116, 105, 111, 110]⟩ : ByteArray)) = true
                  · rw [if_pos q9] at h
                    have z10 := Z (.nested) _ _ _ trivial hs (by omega) (by omega) h
                    simp only [SzR, slack] at z10
                    simp only [SzR, slack]
                    omega
                  · rw [if_neg q9] at h
                    by_cases q10 : ((tok T s).text == (⟨#[123]⟩ : ByteArray)) = true
                    · rw [if_pos q10] at h
                      obtain ⟨w11, z11, k11, h⟩ := Rs.bind_inv h
                      obtain ⟨q11, rfl⟩ := take1_inv k11
                      have l11 : s.on.next < T.length := tok_end hm hs (kind_of_sd hm hs q11 (by decide))
                      have n11 : s.on.next = s.next + 1 := rfl
                      have m11 : s.on.parts = s.parts := rfl
                      obtain ⟨x12, s22, h12, h⟩ := Rs.bind_inv h
                      have p12 := prog_listN hm (fun _ _ _ hs h => P .pair _ _ _ trivial hs h) (c := (⟨#[125]⟩ : ByteArray)) (by decide) 16384 l11 h12
                      have z12 := size_list hm (fun _ _ _ hs h => P .pair _ _ _ trivial hs h) (fun _ _ _ hs ha hb h => Z .pair _ _ _ trivial hs ha hb h) (c := (⟨#[125]⟩ : ByteArray)) (by decide) 16384 l11 (by omega) (by omega) h12
                      simp only [SzR] at z12
                      have e3 := mk_parts h (by omega) (by omega)
                      obtain ⟨rfl, e1, e2⟩ := mk_inv h
                      rw [size_mk]
                      try simp only [sizes_append]
                      try simp only [Tr.sizes]
                      simp only [SzR, slack]
                      omega
                    · rw [if_neg q10] at h
                      by_cases q11 : ((tok T s).text == (⟨#[91]⟩ : ByteArray)) = true
                      · rw [if_pos q11] at h
                        obtain ⟨w12, z12, k12, h⟩ := Rs.bind_inv h
                        obtain ⟨q12, rfl⟩ := take1_inv k12
                        have l12 : s.on.next < T.length := tok_end hm hs (kind_of_sd hm hs q12 (by decide))
                        have n12 : s.on.next = s.next + 1 := rfl
                        have m12 : s.on.parts = s.parts := rfl
                        obtain ⟨x13, s23, h13, h⟩ := Rs.bind_inv h
                        have p13 := prog_listN hm (fun _ _ _ hs h => P .assign _ _ _ trivial hs h) (c := (⟨#[93]⟩ : ByteArray)) (by decide) 16384 l12 h13
                        have z13 := size_list hm (fun _ _ _ hs h => P .assign _ _ _ trivial hs h) (fun _ _ _ hs ha hb h => Z .assign _ _ _ trivial hs ha hb h) (c := (⟨#[93]⟩ : ByteArray)) (by decide) 16384 l12 (by omega) (by omega) h13
                        simp only [SzR] at z13
                        have e3 := mk_parts h (by omega) (by omega)
                        obtain ⟨rfl, e1, e2⟩ := mk_inv h
                        rw [size_mk]
                        try simp only [sizes_append]
                        try simp only [Tr.sizes]
                        simp only [SzR, slack]
                        omega
                      · rw [if_neg q11] at h
                        cases h
theorem zx_nested (hm : MayP T) (_hT : T.length ≤ 100000) {r : Mth → Ps → Rs Tr} (_P : ProgA T r) (Z : SizeA T r) {s s1 : Ps} {t : Tr} (hs : s.next < T.length) (ha : 0 ≤ s.parts) (hb : s.parts ≤ s.next)
    (h : step T r .nested s = .ok t s1) : SzR s s1 t.size (slack .nested) := by
  dsimp only [step] at h
  obtain ⟨w1, z1, k1, h⟩ := Rs.bind_inv h
  obtain ⟨q1, rfl⟩ := take1_inv k1
  have l1 : s.on.next < T.length := tok_end hm hs (kind_of_sd hm hs q1 (by decide))
  have n1 : s.on.next = s.next + 1 := rfl
  have m1 : s.on.parts = s.parts := rfl
  by_cases q2 : ((sd T s.on) == (⟨#[40]⟩ : ByteArray)) = true
  · rw [if_pos q2] at h
    have z3 := Z (.function 27 (here T s) ⟨#[]⟩) _ _ _ trivial l1 (by omega) (by omega) h
    simp only [SzR, slack] at z3
    simp only [SzR, slack]
    omega
  · rw [if_neg q2] at h
    obtain ⟨w3, z3, k3, h⟩ := Rs.bind_inv h
    obtain ⟨q3, rfl, rfl⟩ := name_inv k3
    have l3 : s.on.on.next < T.length := tok_end hm l1 (by omega)
    have n3 : s.on.on.next = s.on.next + 1 := rfl
    have m3 : s.on.on.parts = s.on.parts := rfl
    have z4 := Z (.function 27 (here T s) (tok T s.on).text) _ _ _ trivial l3 (by omega) (by omega) h
    simp only [SzR, slack] at z4
    simp only [SzR, slack]
    omega
theorem zx_key (hm : MayP T) (hT : T.length ≤ 100000) {r : Mth → Ps → Rs Tr} (P : ProgA T r) (Z : SizeA T r) {s s1 : Ps} {t : Tr} (hs : s.next < T.length) (ha : 0 ≤ s.parts) (hb : s.parts ≤ s.next)
    (h : step T r .key s = .ok t s1) : SzR s s1 t.size (slack .key) := by
  dsimp only [step] at h
  by_cases q1 : (tok T s).kind = 3
  · rw [if_pos q1] at h
    unfold numR at h
    have l3 : s.on.next < T.length := tok_end hm hs (by omega)
    have n3 : s.on.next = s.next + 1 := rfl
    have m3 : s.on.parts = s.parts := rfl
    have e3 := mk_parts h (by omega) (by omega)
    obtain ⟨rfl, e1, e2⟩ := mk_inv h
    rw [size_mk]
    try simp only [sizes_append]
    try simp only [Tr.sizes]
    simp only [SzR, slack]
    omega
  · rw [if_neg q1] at h
    by_cases q2 : (tok T s).kind = 4
    · rw [if_pos q2] at h
      have l3 : s.on.next < T.length := tok_end hm hs (by omega)
      have n3 : s.on.next = s.next + 1 := rfl
      have m3 : s.on.parts = s.parts := rfl
      have e3 := mk_parts h (by omega) (by omega)
      obtain ⟨rfl, e1, e2⟩ := mk_inv h
      rw [size_mk]
      try simp only [sizes_append]
      try simp only [Tr.sizes]
      simp only [SzR, slack]
      omega
    · rw [if_neg q2] at h
      by_cases q3 : ((sd T s) == (⟨#[91]⟩ : ByteArray)) = true
      · rw [if_pos q3] at h
        have l4 : s.on.next < T.length := tok_end hm hs (kind_of_sd hm hs q3 (by decide))
        have n4 : s.on.next = s.next + 1 := rfl
        have m4 : s.on.parts = s.parts := rfl
        obtain ⟨x5, s15, h5, h⟩ := Rs.bind_inv h
        have p5 := P (.assign) _ _ _ trivial l4 h5
        have z5 := Z (.assign) _ _ _ trivial l4 (by omega) (by omega) h5
        simp only [SzR, slack] at z5
        obtain ⟨w6, z6, k6, h⟩ := Rs.bind_inv h
        obtain ⟨q6, rfl⟩ := take1_inv k6
        have l6 : s15.on.next < T.length := tok_end hm p5.2 (kind_of_sd hm p5.2 q6 (by decide))
        have n6 : s15.on.next = s15.next + 1 := rfl
        have m6 : s15.on.parts = s15.parts := rfl
        have e3 := mk_parts h (by omega) (by omega)
        obtain ⟨rfl, e1, e2⟩ := mk_inv h
        rw [size_mk]
        try simp only [sizes_append]
        try simp only [Tr.sizes]
        simp only [SzR, slack]
        omega
      · rw [if_neg q3] at h
        obtain ⟨w4, z4, k4, h⟩ := Rs.bind_inv h
        obtain ⟨q4, f4, rfl⟩ := word_inv k4
        have l4 : s.on.next < T.length := tok_end hm hs q4
        have n4 : s.on.next = s.next + 1 := rfl
        have m4 : s.on.parts = s.parts := rfl
        have e3 := mk_parts h (by omega) (by omega)
        obtain ⟨rfl, e1, e2⟩ := mk_inv h
        rw [size_mk]
        try simp only [sizes_append]
        try simp only [Tr.sizes]
        simp only [SzR, slack]
        omega
theorem zx_pair (hm : MayP T) (hT : T.length ≤ 100000) {r : Mth → Ps → Rs Tr} (P : ProgA T r) (Z : SizeA T r) {s s1 : Ps} {t : Tr} (hs : s.next < T.length) (ha : 0 ≤ s.parts) (hb : s.parts ≤ s.next)
    (h : step T r .pair s = .ok t s1) : SzR s s1 t.size (slack .pair) := by
  dsimp only [step] at h
  by_cases q1 : (((sd T s) == (⟨#[103, 101, 116]⟩ : ByteArray)) && !(saidT (tkAt T (s.next + 1)) == (⟨#[58]⟩ : ByteArray))) = true
  · rw [if_pos q1] at h
    have z2 := Z (.accessor 30) _ _ _ (kind_of_sd hm hs (Bool.and_eq_true_iff.1 q1).1 (by decide)) hs (by omega) (by omega) h
    simp only [SzR, slack] at z2
    simp only [SzR, slack]
    omega
  · rw [if_neg q1] at h
    by_cases q2 : (((sd T s) == (⟨#[115, 101, 116]⟩ : ByteArray)) && !(saidT (tkAt T (s.next + 1)) == (⟨#[58]⟩ : ByteArray))) = true
    · rw [if_pos q2] at h
      have z3 := Z (.accessor 31) _ _ _ (kind_of_sd hm hs (Bool.and_eq_true_iff.1 q2).1 (by decide)) hs (by omega) (by omega) h
      simp only [SzR, slack] at z3
      simp only [SzR, slack]
      omega
    · rw [if_neg q2] at h
      obtain ⟨x3, s13, h3, h⟩ := Rs.bind_inv h
      have p3 := P (.key) _ _ _ trivial hs h3
      have z3 := Z (.key) _ _ _ trivial hs (by omega) (by omega) h3
      simp only [SzR, slack] at z3
      obtain ⟨w4, z4, k4, h⟩ := Rs.bind_inv h
      obtain ⟨q4, rfl⟩ := take1_inv k4
      have l4 : s13.on.next < T.length := tok_end hm p3.2 (kind_of_sd hm p3.2 q4 (by decide))
      have n4 : s13.on.next = s13.next + 1 := rfl
      have m4 : s13.on.parts = s13.parts := rfl
      obtain ⟨x5, s15, h5, h⟩ := Rs.bind_inv h
      have p5 := P (.assign) _ _ _ trivial l4 h5
      have z5 := Z (.assign) _ _ _ trivial l4 (by omega) (by omega) h5
      simp only [SzR, slack] at z5
      have e3 := mk_parts h (by omega) (by omega)
      obtain ⟨rfl, e1, e2⟩ := mk_inv h
      rw [size_mk]
      try simp only [sizes_append]
      try simp only [Tr.sizes]
      simp only [SzR, slack]
      omega
theorem zx_accessor (hm : MayP T) (hT : T.length ≤ 100000) {r : Mth → Ps → Rs Tr} (P : ProgA T r) (Z : SizeA T r) {s s1 : Ps} {t : Tr} {k : Nat} (hp : (tok T s).kind ≠ 0) (hs : s.next < T.length) (ha : 0 ≤ s.parts) (hb : s.parts ≤ s.next)
    (h : step T r (.accessor k) s = .ok t s1) : SzR s s1 t.size (slack (.accessor k)) := by
  dsimp only [step] at h
  have l1 : s.on.next < T.length := tok_end hm hs hp
  have n1 : s.on.next = s.next + 1 := rfl
  have n1p : s.on.parts = s.parts := rfl
  obtain ⟨x2, s2, h2, h⟩ := Rs.bind_inv h
  have p2 := P .key _ _ _ trivial l1 h2
  have z2 := Z .key _ _ _ trivial l1 (by omega) (by omega) h2
  simp only [SzR, slack] at z2
  obtain ⟨w3, z3, k3, h⟩ := Rs.bind_inv h
  obtain ⟨q3, rfl⟩ := take1_inv k3
  have l3 : s2.on.next < T.length := tok_end hm p2.2 (kind_of_sd hm p2.2 q3 (by decide))
  have n3 : s2.on.next = s2.next + 1 := rfl
  have n3p : s2.on.parts = s2.parts := rfl
  obtain ⟨X, s4, hX, h⟩ := Rs.bind_inv h
  have hC : s2.on.next ≤ s4.next ∧ s4.next < T.length ∧ s4.parts = s2.parts + (Tr.sizes X : Int) ∧ s2.next + 1 + Tr.sizes X ≤ s4.next := by
    by_cases q : k = 31
    · rw [if_pos q] at hX
      obtain ⟨x5, s5, h5, hX⟩ := Rs.bind_inv hX
      have p5 := prog_paramN hm _ _ _ l3 h5
      have z5 := size_param hm hT _ _ _ l3 (by omega) (by omega) h5
      simp only [SzR] at z5
      obtain ⟨eX, e8⟩ := Rs.ok_inj hX
      rw [eX, e8, sizes_one]
      omega
    · rw [if_neg q] at hX
      obtain ⟨eX, e8⟩ := Rs.ok_inj hX
      rw [eX, e8]
      simp only [Tr.sizes]
      omega
  obtain ⟨w5, z5, k5, h⟩ := Rs.bind_inv h
  obtain ⟨q5, rfl⟩ := take1_inv k5
  have l5 : s4.on.next < T.length := tok_end hm hC.2.1 (kind_of_sd hm hC.2.1 q5 (by decide))
  have n5 : s4.on.next = s4.next + 1 := rfl
  have n5p : s4.on.parts = s4.parts := rfl
  obtain ⟨x6, s6, h6, h⟩ := Rs.bind_inv h
  have p6 := P .block _ _ _ trivial l5 h6
  have z6 := Z .block _ _ _ trivial l5 (by omega) (by omega) h6
  simp only [SzR, slack] at z6
  obtain ⟨x7, s7, h7, h⟩ := Rs.bind_inv h
  have e3 := mk_parts h7 (by omega) (by omega)
  obtain ⟨rfl, e71, e72⟩ := mk_inv h7
  have e4 := mk_parts h (by omega) (by omega)
  obtain ⟨rfl, e1, e2⟩ := mk_inv h
  simp only [size_mk, Tr.sizes, sizes_append]
  exact ⟨by omega, by simp only [slack]; omega⟩
theorem size_step (hm : MayP T) (hT : T.length ≤ 100000) {r : Mth → Ps → Rs Tr} (P : ProgA T r) (Z : SizeA T r) : SizeA T (step T r) := by
  intro m s t s1 hp hs ha hb h
  cases m with
  | statement => exact (zx_dstated hm hT P Z hs ha hb h).1
  | stated => exact zx_stated hm hT P Z hs ha hb h
  | body => exact (zx_dbodyIn hm hT P Z hs ha hb h).1
  | bodyIn => exact zx_bodyIn hm hT P Z hs ha hb h
  | block => exact zx_block hm hT P Z hs ha hb h
  | declaration => exact zx_declaration hm hT P Z hs ha hb h
  | branch => exact zx_branch hm hT P Z hs ha hb h
  | loop => exact zx_loop hm hT P Z hs ha hb h
  | answer => exact zx_answer hm hT P Z hs ha hb h
  | guarded => exact zx_guarded hm hT P Z hs ha hb h
  | test => exact zx_test hm hT P Z hs ha hb h
  | ended => exact zx_ended hm hT P Z hs ha hb h
  | assign => exact (zx_dassigned hm hT P Z hs ha hb h).1
  | assigned => exact zx_assigned hm hT P Z hs ha hb h
  | cond => exact zx_cond hm hT P Z hs ha hb h
  | unary => exact zx_unary hm hT P Z hs ha hb h
  | led => exact zx_led hm hT P Z hp hs ha hb h
  | head => exact zx_head hm hT P Z hs ha hb h
  | newIn => exact zx_newIn hm hT P Z hs ha hb h
  | primary => exact zx_primary hm hT P Z hs ha hb h
  | nested => exact zx_nested hm hT P Z hs ha hb h
  | pair => exact zx_pair hm hT P Z hs ha hb h
  | key => exact zx_key hm hT P Z hs ha hb h
  | function k p n => exact zx_function hm hT P Z hs ha hb h
  | sides n => exact zx_sides hm hT P Z hp hs ha hb h
  | chain c => exact zx_chain hm hT P Z hs ha hb h
  | accessor k => exact zx_accessor hm hT P Z hp hs ha hb h
theorem size_run (hm : MayP T) (hT : T.length ≤ 100000) : ∀ n, SizeA T (run T n)
  | 0 => fun m s t s1 _ _ _ _ h => by cases h
  | n + 1 => size_step hm hT (prog_run hm n) (size_run hm hT n)
theorem size_tree (hm : MayP T) (hT : T.length ≤ 100000) {n : Nat} {t : Tr} {s : Ps} (h : scriptR T n ⟨0, 0, 0⟩ = .ok t s) : s.parts = (t.size : Int) ∧ t.size ≤ T.length := by
  unfold scriptR at h
  obtain ⟨l, s2, h1, h⟩ := Rs.bind_inv h
  have h0 : 0 < T.length := by
    cases T with
    | nil => exact absurd rfl hm.1
    | cons a l => simp
  have z := size_script hm (fun _ _ _ hs h => prog_run hm n .statement _ _ _ trivial hs h) (fun _ _ _ hs ha hb h => size_run hm hT n .statement _ _ _ trivial hs ha hb h) _ _ _ _ _ h0 (Int.le_refl _) (Int.le_refl _) h1
  simp only [Tr.sizes] at z
  have e3 := mk_parts h (by omega) (by omega)
  obtain ⟨rfl, e1, e2⟩ := mk_inv h
  rw [size_mk]
  omega
end
end Go.Proofs.YtablckajobefeaaGreatDoor.S
/-
  All methods keep what they promise, however deep.
-/
namespace Go.Proofs.YtablckajobefeaaGreatDoor.S
open Go.RowKit Fl

theorem deep_all {z : Pz} (hm : MayP z.T) : ∀ n, AllW z (run z.T n)
  | 0 => by
    constructor
    case prog => intro m s t s1 _ _ h; cases h
    case within => intro m s t s1 _ _ h; cases h
    case led => intro s w _ _ h; exact absurd rfl h
    case bodyIn => intro s w g _ _ h; exact absurd rfl h
    case newIn => intro s w g _ _ h; exact absurd rfl h
    case function => intro s w k p n _ h; exact absurd rfl h
    case sides => intro s w n _ _ _ h; exact absurd rfl h
    case chain => intro s w c _ h; exact absurd rfl h
    case accessor => intro s w k _ _ _ h; exact absurd rfl h
    all_goals (intro s w _ h; exact absurd rfl h)
  | n + 1 => by
    have A := deep_all hm n
    constructor
    case prog => intro m s t s1 hp hs h; exact (prog_run hm (n + 1) m s t s1 hp hs h).1
    case within => intro m s t s1 hp hs h; exact (prog_run hm (n + 1) m s t s1 hp hs h).2
    case statement => exact fun h ho => w_statement A h ho
    case stated => exact fun h ho => w_stated A h ho
    case body => exact fun h ho => w_body A h ho
    case block => exact fun h ho => w_block A h ho
    case declaration => exact fun h ho => w_declaration A h ho
    case branch => exact fun h ho => w_branch A h ho
    case loop => exact fun h ho => w_loop A h ho
    case answer => exact fun h ho => w_answer A h ho
    case guarded => exact fun h ho => w_guarded A h ho
    case test => exact fun h ho => w_test A h ho
    case ended => exact fun h ho => w_ended A h ho
    case assign => exact fun h ho => w_assign A h ho
    case assigned => exact fun h ho => w_assigned A h ho
    case cond => exact fun h ho => w_cond A h ho
    case unary => exact fun h ho => w_unary A h ho
    case head => exact fun h ho => w_head A h ho
    case primary => exact fun h ho => w_primary A h ho
    case nested => exact fun h ho => w_nested A h ho
    case pair => exact fun h ho => w_pair A h ho
    case key => exact fun h ho => w_key A h ho
    case led => exact fun h hk ho => w_led A h hk ho
    case bodyIn => exact fun h hb ho => w_bodyIn A h hb ho
    case newIn => exact fun h hb ho => w_newIn A h hb ho
    case function => exact fun k p n h ho => w_function A k p n h ho
    case sides => exact fun n h1 h2 h ho => w_sides A n h h1 h2 ho
    case chain => exact fun c h ho => w_chain A c h ho
    case accessor =>
      intro s w k hk h hk0 ho
      rcases hk with rfl | rfl
      · exact w_accessor30 A h hk0 ho
      · exact w_accessor31 A h hk0 ho
theorem script_any {z : Pz} {w : World} (h : At z ⟨0, 0, 0⟩ w) : Calls Tryz.prog 26 #[.pointer (some ⟨z.b, 0, none⟩)] w (Res z w (scriptR z.T (depthOf z.T) ⟨0, 0, 0⟩)) :=
  w_script (deep_all h.may _) h (gd_not_out (script_gd h.may))
end Go.Proofs.YtablckajobefeaaGreatDoor.S
