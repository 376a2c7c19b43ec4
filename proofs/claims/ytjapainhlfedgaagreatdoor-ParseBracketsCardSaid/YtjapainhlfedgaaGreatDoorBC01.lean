/-
  Blocks in one another, values in brackets in one another, parsed: plain mathematics.
-/
import Derived.Test.YtjapainhlfedgaaGreatDoorB19
import Derived.Test.YtjapainhlfedgaaGreatDoorB25
import Derived.Test.YtjapainhlfedgaaGreatDoorB23
namespace Go.Proofs.YtjapainhlfedgaaGreatDoor.S
open Go.RowKit Fl

theorem w64_in {n : Int} (h1 : -9223372036854775808 ≤ n) (h2 : n ≤ 9223372036854775807) : w64 n = n := by
  unfold w64 wrap64
  omega
section
variable {T : List Tk}
theorem run_statement (n : Nat) (s : Ps) : run T (n + 1) .statement s = deeperR T (run T n .stated) s := rfl
theorem run_stated_block (n : Nat) {s : Ps} (h : sd T s = (⟨#[123]⟩ : ByteArray)) : run T (n + 1) .stated s = run T n .block s := by
  show step T (run T n) .stated s = _
  dsimp only [step]
  rw [h, if_pos (by decide)]
theorem run_block (n : Nat) {s : Ps} (h : sd T s = (⟨#[123]⟩ : ByteArray)) : run T (n + 1) .block s = (blockL T (run T n .statement) (T.length + 1) [] s.on).bind fun l s2 => mkP 2 (here T s) ⟨#[]⟩ 0 l s2 := by
  show step T (run T n) .block s = _
  dsimp only [step]
  unfold take1
  rw [h, if_pos (by decide)]
  rfl
theorem blockL_end (f : Ps → Rs Tr) (n : Nat) (l : List Tr) {s : Ps} (h : sd T s = (⟨#[125]⟩ : ByteArray)) : blockL T f (n + 1) l s = .ok l s.on := by
  unfold blockL
  rw [h, if_pos (by decide)]
theorem blockL_more (f : Ps → Rs Tr) (n : Nat) (l : List Tr) {s : Ps} (h : sd T s = (⟨#[123]⟩ : ByteArray)) : blockL T f (n + 1) l s = (f s).bind fun t s1 => blockL T f n (l ++ [t]) s1 := by
  conv => lhs; unfold blockL
  rw [h, if_neg (by decide)]
theorem sd_at {i : Nat} {k : Nat} {p : Int} {t : ByteArray} {x : Nat} (h : tkAt T i = ⟨k, p, t, x⟩) (hk : (k == 4) = false) (lv pt : Int) : sd T ⟨i, lv, pt⟩ = t := by
  unfold sd saidT tok
  rw [h]
  exact if_neg (fun e => by have e : k = 4 := e; rw [e] at hk; exact absurd hk (by decide))

/-- so many blocks in one another -/
def nest : Nat → Int → Tr
  | 0, p => .mk 2 p ⟨#[]⟩ 0 []
  | j + 1, p => .mk 2 p ⟨#[]⟩ 0 [nest j (p + 1)]
theorem nest_size (j : Nat) (p : Int) : (nest j p).size = j + 1 := by
  induction j generalizing p with
  | zero => rfl
  | succ j ih => unfold nest Tr.size Tr.sizes Tr.sizes; rw [ih]; omega
theorem nest_run {k : Nat} (ho : ∀ i, i < k → tkAt T i = ⟨5, i, (⟨#[123]⟩ : ByteArray), 0⟩) (hc : ∀ i, k ≤ i → i < 2 * k → tkAt T i = ⟨5, i, (⟨#[125]⟩ : ByteArray), 0⟩) (hk : k ≤ 200) (hT : 2 ≤ T.length) :
    ∀ (j i : Nat), i + (j + 1) = k → ∀ (n : Nat), 3 * (j + 1) ≤ n → ∀ (p : Int), 0 ≤ p → p ≤ 1000000 → run T n .statement ⟨i, i, p⟩ = .ok (nest j i) ⟨i + 2 * (j + 1), i, p + ((j + 1 : Nat) : Int)⟩ := by
  intro j
  induction j with
  | zero =>
    intro i hi n hn p hp hp2
    obtain ⟨m, rfl⟩ : ∃ m, n = m + 3 := ⟨n - 3, by omega⟩
    obtain ⟨L, hL⟩ : ∃ L, T.length + 1 = L + 1 := ⟨_, rfl⟩
    have s1 := sd_at (ho i (by omega)) rfl (w64 ((i : Int) + 1)) p
    have s2 := sd_at (hc (i + 1) (by omega) (by omega)) rfl (w64 ((i : Int) + 1)) p
    have h1 : here T ⟨i, w64 ((i : Int) + 1), p⟩ = i := by unfold here tok; rw [ho i (by omega)]
    rw [run_statement]
    unfold deeperR
    rw [if_neg (by show ¬ ((i : Int) = 200); omega), run_stated_block _ s1, run_block _ s1, hL, show Ps.on ⟨i, w64 ((i : Int) + 1), p⟩ = ⟨i + 1, w64 ((i : Int) + 1), p⟩ from rfl, blockL_end _ _ _ s2, h1]
    show Rs.ok _ _ = _
    simp only [Ps.on, nest]
    rw [w64_in (n := (i : Int) + 1) (by omega) (by omega), w64_in (n := (i : Int) + 1 - 1) (by omega) (by omega), w64_in (n := p + 1) (by omega) (by omega)]
    congr 2
    omega
  | succ j ih =>
    intro i hi n hn p hp hp2
    obtain ⟨m, rfl⟩ : ∃ m, n = m + 3 := ⟨n - 3, by omega⟩
    obtain ⟨L, hL⟩ : ∃ L, T.length + 1 = L + 2 := ⟨T.length - 1, by omega⟩
    have s1 := sd_at (ho i (by omega)) rfl (w64 ((i : Int) + 1)) p
    have s2 := sd_at (ho (i + 1) (by omega)) rfl ((i + 1 : Nat) : Int) p
    have s3 := sd_at (hc (i + 1 + 2 * (j + 1)) (by omega) (by omega)) rfl ((i + 1 : Nat) : Int) (p + ((j + 1 : Nat) : Int))
    have h1 : here T ⟨i, w64 ((i : Int) + 1), p⟩ = i := by unfold here tok; rw [ho i (by omega)]
    rw [run_statement]
    unfold deeperR
    have e1 : w64 ((i : Int) + 1) = ((i + 1 : Nat) : Int) := by rw [w64_in (by omega) (by omega)]; omega
    rw [if_neg (by show ¬ ((i : Int) = 200); omega), run_stated_block _ s1, run_block _ s1, hL, h1, e1, show Ps.on ⟨i, ((i + 1 : Nat) : Int), p⟩ = ⟨i + 1, ((i + 1 : Nat) : Int), p⟩ from rfl, blockL_more _ _ _ s2, ih (i + 1) (by omega) m (by omega) p hp hp2]
    simp only [Rs.bind]
    rw [blockL_end _ _ _ s3]
    show Rs.ok _ _ = _
    simp only [Ps.on, nest, List.nil_append]
    rw [w64_in (n := ((i + 1 : Nat) : Int) - 1) (by omega) (by omega), w64_in (n := p + ((j + 1 : Nat) : Int) + 1) (by omega) (by omega)]
    have e2 : ((i + 1 : Nat) : Int) = (i : Int) + 1 := by omega
    rw [e2]
    congr 2
    · omega
    · omega
    · omega
theorem nest_deep {k : Nat} (ho : ∀ i, i < k → tkAt T i = ⟨5, i, (⟨#[123]⟩ : ByteArray), 0⟩) (hk : 200 < k) : ∀ (d i : Nat), i + d = 200 → ∀ (n : Nat), 3 * d + 1 ≤ n → ∀ (p : Int), run T n .statement ⟨i, i, p⟩ = .bad 200 6 := by
  intro d
  induction d with
  | zero =>
    intro i hi n hn p
    obtain ⟨m, rfl⟩ : ∃ m, n = m + 1 := ⟨n - 1, by omega⟩
    have hi : i = 200 := by omega
    subst hi
    rw [run_statement]
    unfold deeperR
    rw [if_pos (by rfl)]
    unfold here tok
    rw [ho 200 (by omega)]
    rfl
  | succ d ih =>
    intro i hi n hn p
    obtain ⟨m, rfl⟩ : ∃ m, n = m + 3 := ⟨n - 3, by omega⟩
    have s1 := sd_at (ho i (by omega)) rfl ((i + 1 : Nat) : Int) p
    have s2 := sd_at (ho (i + 1) (by omega)) rfl ((i + 1 : Nat) : Int) p
    have e1 : w64 ((i : Int) + 1) = ((i + 1 : Nat) : Int) := by rw [w64_in (by omega) (by omega)]; omega
    rw [run_statement]
    unfold deeperR
    rw [if_neg (by show ¬ ((i : Int) = 200); omega)]
    dsimp only
    rw [e1, run_stated_block _ s1, run_block _ s1, show Ps.on ⟨i, ((i + 1 : Nat) : Int), p⟩ = ⟨i + 1, ((i + 1 : Nat) : Int), p⟩ from rfl, blockL_more _ _ _ s2, ih (i + 1) (by omega) m (by omega) p]
    rfl

/-- from a primary up to what is assigned, where no sign follows -/
theorem up_bad {n : Nat} {s : Ps} (hl : leadsB (sd T s) = false) (hn : (sd T s == (⟨#[110, 101, 119]⟩ : ByteArray)) = false) {p q : Int} (h : run T n .primary s = .bad p q) : run T (n + 6) .assigned s = .bad p q := by
  have h1 : run T (n + 1) .head s = .bad p q := by
    show step T (run T n) .head s = _
    dsimp only [step]
    rw [if_neg (by rw [hn]; decide), h]
  have h2 : run T (n + 2) (.chain true) s = .bad p q := by
    show step T (run T (n + 1)) (.chain true) s = _
    dsimp only [step]
    rw [h1]; rfl
  have h3 : run T (n + 3) .unary s = .bad p q := by
    show step T (run T (n + 2)) .unary s = _
    dsimp only [step]
    rw [if_neg (by rw [hl]; decide), h2]
  have h4 : run T (n + 4) (.sides 1) s = .bad p q := by
    show step T (run T (n + 3)) (.sides 1) s = _
    dsimp only [step]
    rw [h3]; rfl
  have h5 : run T (n + 5) .cond s = .bad p q := by
    show step T (run T (n + 4)) .cond s = _
    dsimp only [step]
    rw [h4]; rfl
  show step T (run T (n + 5)) .assigned s = _
  dsimp only [step]
  rw [h5]; rfl
theorem up_ok {n : Nat} {s s2 : Ps} {x : Tr} (hl : leadsB (sd T s) = false) (hn : (sd T s == (⟨#[110, 101, 119]⟩ : ByteArray)) = false) (h : run T n .primary s = .ok x s2) (hc : sd T s2 = (⟨#[41]⟩ : ByteArray) ∨ sd T s2 = (⟨#[59]⟩ : ByteArray)) : run T (n + 6) .assigned s = .ok x s2 := by
  have h1 : run T (n + 1) .head s = .ok x s2 := by
    show step T (run T n) .head s = _
    dsimp only [step]
    rw [if_neg (by rw [hn]; decide), h]
  have h2 : run T (n + 2) (.chain true) s = .ok x s2 := by
    show step T (run T (n + 1)) (.chain true) s = _
    dsimp only [step]
    rw [h1]
    simp only [Rs.bind]
    unfold chainL
    rcases hc with e | e <;> rw [e, if_neg (by decide), if_neg (by decide), if_neg (by decide)]
  have h3 : run T (n + 3) .unary s = .ok x s2 := by
    show step T (run T (n + 2)) .unary s = _
    dsimp only [step]
    rw [if_neg (by rw [hl]; decide), h2]
  have h4 : run T (n + 4) (.sides 1) s = .ok x s2 := by
    show step T (run T (n + 3)) (.sides 1) s = _
    dsimp only [step]
    rw [h3]
    simp only [Rs.bind]
    unfold sidesL
    rcases hc with e | e <;> rw [e, if_pos (by decide)]
  have h5 : run T (n + 5) .cond s = .ok x s2 := by
    show step T (run T (n + 4)) .cond s = _
    dsimp only [step]
    rw [h4]
    simp only [Rs.bind]
    rcases hc with e | e <;> rw [e, if_neg (by decide)]
  show step T (run T (n + 5)) .assigned s = _
  dsimp only [step]
  rw [h5]
  simp only [Rs.bind]
  rcases hc with e | e <;> rw [e, if_neg (by decide)]
theorem run_assign (n : Nat) (s : Ps) : run T (n + 1) .assign s = deeperR T (run T n .assigned) s := rfl
theorem prim_open (n : Nat) {s : Ps} {p : Int} {x : Nat} (h : tok T s = ⟨5, p, (⟨#[40]⟩ : ByteArray), x⟩) : run T (n + 1) .primary s = run T n .test s := by
  show step T (run T n) .primary s = _
  dsimp only [step]
  rw [h]
  rfl
theorem run_test (n : Nat) {s : Ps} (h : sd T s = (⟨#[40]⟩ : ByteArray)) : run T (n + 1) .test s = (run T n .assign s.on).bind fun x s2 => (take1 T (⟨#[41]⟩ : ByteArray) s2).bind fun _ s3 => .ok x s3 := by
  show step T (run T n) .test s = _
  dsimp only [step]
  unfold take1
  rw [h, if_pos (by decide)]
  rfl
theorem par_run {k : Nat} (ho : ∀ i, i < k → tkAt T i = ⟨5, i, (⟨#[40]⟩ : ByteArray), 0⟩) (ha : tkAt T k = ⟨1, k, (⟨#[97]⟩ : ByteArray), 0⟩) (hc : ∀ i, k < i → i ≤ 2 * k → tkAt T i = ⟨5, i, (⟨#[41]⟩ : ByteArray), 0⟩) (hs : tkAt T (2 * k + 1) = ⟨5, ((2 * k + 1 : Nat) : Int), (⟨#[59]⟩ : ByteArray), 0⟩) (hk : k ≤ 198) :
    ∀ (d i : Nat), i + d = k → ∀ (n : Nat), 9 * d + 8 ≤ n → ∀ (p : Int), 0 ≤ p → p ≤ 1000000 → run T n .assign ⟨i, ((i + 1 : Nat) : Int), p⟩ = .ok (.mk 26 k (⟨#[97]⟩ : ByteArray) 0 []) ⟨k + d + 1, ((i + 1 : Nat) : Int), p + 1⟩ := by
  have after : ∀ (d : Nat) (lv pt : Int), d ≤ k → sd T ⟨k + d + 1, lv, pt⟩ = (⟨#[41]⟩ : ByteArray) ∨ sd T ⟨k + d + 1, lv, pt⟩ = (⟨#[59]⟩ : ByteArray) := by
    intro d lv pt hd
    by_cases c : d = k
    · subst c; exact Or.inr (sd_at (by rw [show d + d + 1 = 2 * d + 1 by omega]; exact hs) rfl _ _)
    · exact Or.inl (sd_at (hc (k + d + 1) (by omega) (by omega)) rfl _ _)
  intro d
  induction d with
  | zero =>
    intro i hi n hn p hp hp2
    obtain ⟨m, rfl⟩ : ∃ m, n = m + 8 := ⟨n - 8, by omega⟩
    have hi : i = k := by omega
    subst hi
    have e1 : w64 (((i + 1 : Nat) : Int) + 1) = ((i + 2 : Nat) : Int) := by rw [w64_in (by omega) (by omega)]; omega
    have s1 := sd_at ha rfl ((i + 2 : Nat) : Int) p
    rw [run_assign]
    unfold deeperR
    rw [if_neg (by show ¬ (((i + 1 : Nat) : Int) = 200); omega)]
    dsimp only
    rw [e1]
    have hp0 : run T (m + 1) .primary ⟨i, ((i + 2 : Nat) : Int), p⟩ = .ok (.mk 26 i (⟨#[97]⟩ : ByteArray) 0 []) ⟨i + 1, ((i + 2 : Nat) : Int), p + 1⟩ := by
      show step T (run T m) .primary _ = _
      have ht : tok T ⟨i, ((i + 2 : Nat) : Int), p⟩ = ⟨1, i, (⟨#[97]⟩ : ByteArray), 0⟩ := ha
      dsimp only [step]
      rw [ht, if_neg (fun e => absurd (show (1 : Nat) = 3 from e) (by decide)), if_neg (fun e => absurd (show (1 : Nat) = 4 from e) (by decide)), if_pos rfl]
      unfold mkP here
      rw [ht]
      simp only [Ps.on]
      rw [w64_in (by omega) (by omega)]
    rw [up_ok (by rw [s1]; decide) (by rw [s1]; decide) hp0 (after 0 _ _ (by omega))]
    show Rs.ok _ _ = _
    dsimp only
    rw [w64_in (by omega) (by omega)]
    congr 2
    omega
  | succ d ih =>
    intro i hi n hn p hp hp2
    obtain ⟨m, rfl⟩ : ∃ m, n = m + 9 := ⟨n - 9, by omega⟩
    have e1 : w64 (((i + 1 : Nat) : Int) + 1) = ((i + 1 + 1 : Nat) : Int) := by rw [w64_in (by omega) (by omega)]; omega
    have s1 := sd_at (ho i (by omega)) rfl ((i + 1 + 1 : Nat) : Int) p
    rw [run_assign]
    unfold deeperR
    rw [if_neg (by show ¬ (((i + 1 : Nat) : Int) = 200); omega)]
    dsimp only
    rw [e1]
    have hp0 : run T (m + 2) .primary ⟨i, ((i + 1 + 1 : Nat) : Int), p⟩ = .ok (.mk 26 k (⟨#[97]⟩ : ByteArray) 0 []) ⟨k + d + 1 + 1, ((i + 1 + 1 : Nat) : Int), p + 1⟩ := by
      rw [prim_open (T := T) (s := ⟨i, ((i + 1 + 1 : Nat) : Int), p⟩) (n := m + 1) (ho i (by omega)), run_test m s1, show Ps.on ⟨i, ((i + 1 + 1 : Nat) : Int), p⟩ = ⟨i + 1, ((i + 1 + 1 : Nat) : Int), p⟩ from rfl, ih (i + 1) (by omega) m (by omega) p hp hp2]
      simp only [Rs.bind]
      unfold take1
      rw [sd_at (hc (k + d + 1) (by omega) (by omega)) rfl, if_pos (by decide)]
      rfl
    rw [up_ok (by rw [s1]; decide) (by rw [s1]; decide) hp0 (after (d + 1) _ _ (by omega))]
    show Rs.ok _ _ = _
    dsimp only
    rw [w64_in (by omega) (by omega)]
    congr 2
    omega
theorem par_deep {k : Nat} (ho : ∀ i, i < k → tkAt T i = ⟨5, i, (⟨#[40]⟩ : ByteArray), 0⟩) (ha : tkAt T k = ⟨1, k, (⟨#[97]⟩ : ByteArray), 0⟩) (hk : 198 < k) : ∀ (d i : Nat), i + d = 199 → ∀ (n : Nat), 9 * d + 1 ≤ n → ∀ (p : Int), run T n .assign ⟨i, ((i + 1 : Nat) : Int), p⟩ = .bad 199 6 := by
  intro d
  induction d with
  | zero =>
    intro i hi n hn p
    obtain ⟨m, rfl⟩ : ∃ m, n = m + 1 := ⟨n - 1, by omega⟩
    have hi : i = 199 := by omega
    subst hi
    rw [run_assign]
    unfold deeperR
    rw [if_pos (by rfl)]
    unfold here tok
    by_cases c : k = 199
    · subst c; rw [ha]; rfl
    · rw [ho 199 (by omega)]; rfl
  | succ d ih =>
    intro i hi n hn p
    obtain ⟨m, rfl⟩ : ∃ m, n = m + 9 := ⟨n - 9, by omega⟩
    have e1 : w64 (((i + 1 : Nat) : Int) + 1) = ((i + 1 + 1 : Nat) : Int) := by rw [w64_in (by omega) (by omega)]; omega
    have s1 := sd_at (ho i (by omega)) rfl ((i + 1 + 1 : Nat) : Int) p
    rw [run_assign]
    unfold deeperR
    rw [if_neg (by show ¬ (((i + 1 : Nat) : Int) = 200); omega)]
    dsimp only
    rw [e1]
    have hp0 : run T (m + 2) .primary ⟨i, ((i + 1 + 1 : Nat) : Int), p⟩ = .bad 199 6 := by
      rw [prim_open (T := T) (s := ⟨i, ((i + 1 + 1 : Nat) : Int), p⟩) (n := m + 1) (ho i (by omega)), run_test m s1, show Ps.on ⟨i, ((i + 1 + 1 : Nat) : Int), p⟩ = ⟨i + 1, ((i + 1 + 1 : Nat) : Int), p⟩ from rfl, ih (i + 1) (by omega) m (by omega) p]
      rfl
    rw [up_bad (by rw [s1]; decide) (by rw [s1]; decide) hp0]
    rfl
end
end Go.Proofs.YtjapainhlfedgaaGreatDoor.S
/-
  The tokens of blocks and brackets in one another, and what they are parsed to. Plain mathematics.
-/
namespace Go.Proofs.YtjapainhlfedgaaGreatDoor.S
open Go.RowKit Fl

/-- a byte that is a sign by itself, whatever stands behind it -/
def loneB (c : UInt8) : Bool := signsL.contains [c] && signsL.all (fun s => s.head? != some c || s == [c]) && !iniB c && !isDig c && !(c == 34) && !(c == 39) && !blankB c && !(c == 47)
theorem lone_piece {c : UInt8} (h : loneB c = true) (r : List UInt8) : pieceL (c :: r) = .tok 5 (mkB [c]) 0 1 ∧ ∀ i, passM 0 i i (c :: r) = (i, true) := by
  unfold loneB at h
  simp only [Bool.and_eq_true, Bool.not_eq_true', beq_eq_false_iff_ne] at h
  obtain ⟨⟨⟨⟨⟨⟨⟨h1, h2⟩, h3⟩, h4⟩, h5⟩, h6⟩, h7⟩, h8⟩ := h
  have long : ∀ x l, signB (c :: x :: l) = false := fun x l => by
    cases hs : signB (c :: x :: l) with
    | false => rfl
    | true =>
      unfold signB at hs
      have := List.all_eq_true.1 h2 _ (List.contains_iff_mem.1 hs)
      simp at this
  have hn : signN (c :: r) = 1 := by
    have h1 : signB [c] = true := h1
    unfold signN
    match r with
    | [] => rw [if_neg (by simp), if_neg (by simp), if_pos ⟨by simp, by simpa using h1⟩]
    | [x] => rw [if_neg (by simp), if_neg (by simp [long]), if_pos ⟨by simp, by simpa using h1⟩]
    | x :: y :: r => rw [if_neg (by simp [long]), if_neg (by simp [long]), if_pos ⟨by simp, by simpa using h1⟩]
  constructor
  · rw [pieceL_cons, if_neg (by rw [h3]; decide), if_neg (by rw [h4]; decide), if_neg (by rintro (e | e); exact h5 e; exact h6 e)]
    unfold signL
    rw [hn, if_neg (by decide)]
    rfl
  · intro i
    rw [passM_0, if_neg (by rw [h7]; decide), if_neg (fun e => h8 e.1), if_neg (fun e => h8 e.1)]
theorem drop_at {L : List UInt8} {i : Nat} {c : UInt8} (h : L[i]? = some c) : L.drop i = c :: L.drop (i + 1) := by
  have hi : i < L.length := (List.getElem?_eq_some_iff.1 h).1
  rw [List.drop_eq_getElem_cons hi]
  rw [List.getElem?_eq_getElem hi] at h
  rw [Option.some.inj h]
def rowT (i : Nat) (c : UInt8) (n : Nat) : List Tk := (List.range n).map fun j => ⟨5, ((i + j : Nat) : Int), mkB [c], 0⟩
theorem rowT_len (i : Nat) (c : UInt8) (n : Nat) : (rowT i c n).length = n := by simp [rowT]
theorem rowT_get {i : Nat} {c : UInt8} {n j : Nat} (h : j < n) : (rowT i c n)[j]? = some ⟨5, ((i + j : Nat) : Int), mkB [c], 0⟩ := by simp [rowT, h]
theorem toks_row {c : UInt8} (hc : loneB c = true) (L : List UInt8) : ∀ (n i f : Nat) (acc : List Tk), (∀ j, j < n → L[i + j]? = some c) → acc.length + n ≤ 16384 → toksF (f + n) i (L.drop i) acc = toksF f (i + n) (L.drop (i + n)) (acc ++ rowT i c n)
  | 0, i, f, acc, _, _ => by simp [rowT]
  | n + 1, i, f, acc, h, hl => by
    have h0 := h 0 (by omega)
    rw [Nat.add_zero] at h0
    have hd := drop_at h0
    obtain ⟨k1, k2⟩ := lone_piece hc (L.drop (i + 1))
    have hi : i < L.length := (List.getElem?_eq_some_iff.1 h0).1
    rw [← Nat.add_assoc, toks_step (p := i) (kd := 5) (t := mkB [c]) (n := 0) (wd := 1) (Nat.le_refl _) (by rw [hd]; exact k2 i) hi (by rw [hd]; exact k1) (by omega), toks_row hc L n (i + 1) f _ (fun j hj => by rw [show i + 1 + j = i + (j + 1) by omega]; exact h (j + 1) (by omega)) (by simp; omega)]
    have e : acc ++ [⟨5, (i : Int), mkB [c], 0⟩] ++ rowT (i + 1) c n = acc ++ rowT i c (n + 1) := by
      rw [List.append_assoc]
      congr 1
      unfold rowT
      rw [List.range_succ_eq_map]
      simp [Function.comp_def]
      intro a _
      omega
    rw [e, show i + 1 + n = i + (n + 1) by omega]
theorem manyL_one (c : UInt8) (n : Nat) : manyL [c] n = List.replicate n c := by
  induction n with
  | zero => rfl
  | succ n ih => rw [manyL, ih, List.replicate_succ']
def blockT (k : Nat) : List Tk := rowT 0 123 k ++ rowT k 125 k ++ [⟨0, ((2 * k : Nat) : Int), ⟨#[]⟩, 0⟩]
theorem toks_blocks {k : Nat} (hk : k ≤ 400) : toks (manyL [123] k ++ manyL [125] k) = .ok (blockT k) := by
  rw [manyL_one, manyL_one]
  have hl : (List.replicate k (123 : UInt8) ++ List.replicate k 125).length = 2 * k := by simp; omega
  unfold toks
  rw [hl, if_neg (by omega)]
  generalize hL : List.replicate k (123 : UInt8) ++ List.replicate k 125 = L at hl
  have g1 : ∀ j, j < k → L[0 + j]? = some 123 := fun j hj => by rw [← hL, Nat.zero_add, List.getElem?_append_left (by simpa using hj)]; simp [hj]
  have g2 : ∀ j, j < k → L[k + j]? = some 125 := fun j hj => by rw [← hL, List.getElem?_append_right (by simp)]; simp [hj]
  have e := toks_row (c := 123) (by decide) L k 0 (k + 1) [] g1 (by simp; omega)
  rw [List.drop_zero, Nat.zero_add] at e
  rw [show 2 * k + 1 = k + 1 + k by omega, e, show k + 1 = 1 + k by omega]
  have e2 := toks_row (c := 125) (by decide) L k k 1 ([] ++ rowT 0 123 k) g2 (by simp [rowT_len]; omega)
  rw [e2]
  have : L.drop (k + k) = [] := List.drop_eq_nil_of_le (by omega)
  rw [toks_end (p := k + k) (Nat.le_refl _) (by rw [this, passM_nil]; rfl) (by omega)]
  unfold blockT
  rw [List.nil_append, show 2 * k = k + k by omega]
def brackT (k : Nat) : List Tk := rowT 0 40 k ++ [⟨1, (k : Int), (⟨#[97]⟩ : ByteArray), 0⟩] ++ rowT (k + 1) 41 k ++ [⟨5, ((2 * k + 1 : Nat) : Int), (⟨#[59]⟩ : ByteArray), 0⟩] ++ [⟨0, ((2 * k + 2 : Nat) : Int), ⟨#[]⟩, 0⟩]
theorem toks_bracks {k : Nat} (hk : k ≤ 400) : toks (manyL [40] k ++ [97] ++ manyL [41] k ++ [59]) = .ok (brackT k) := by
  rw [manyL_one, manyL_one]
  have hl : (List.replicate k (40 : UInt8) ++ [97] ++ List.replicate k 41 ++ [59]).length = 2 * k + 2 := by simp; omega
  unfold toks
  rw [hl, if_neg (by omega)]
  generalize hL : List.replicate k (40 : UInt8) ++ [97] ++ List.replicate k 41 ++ [59] = L at hl
  have g1 : ∀ j, j < k → L[0 + j]? = some 40 := fun j hj => by rw [← hL, Nat.zero_add, List.append_assoc, List.append_assoc, List.getElem?_append_left (by simpa using hj)]; simp [hj]
  have g2 : L[k]? = some 97 := by rw [← hL, List.append_assoc, List.append_assoc, List.getElem?_append_right (by simp)]; simp
  have e1 : (List.replicate k (40 : UInt8) ++ [97]).length = k + 1 := by simp
  have e2 : (List.replicate k (40 : UInt8) ++ [97] ++ List.replicate k 41).length = 2 * k + 1 := by simp; omega
  have g3 : ∀ j, j < k → L[k + 1 + j]? = some 41 := fun j hj => by
    rw [← hL, List.getElem?_append_left (by omega), List.getElem?_append_right (by omega), e1, show k + 1 + j - (k + 1) = j by omega]
    simp [hj]
  have g4 : ∀ j, j < 1 → L[2 * k + 1 + j]? = some 59 := fun j hj => by
    have : j = 0 := by omega
    subst this
    rw [← hL, List.getElem?_append_right (by omega), e2, show 2 * k + 1 + 0 - (2 * k + 1) = 0 by omega]
    rfl
  have e := toks_row (c := 40) (by decide) L k 0 (k + 3) [] g1 (by simp; omega)
  rw [List.drop_zero, Nat.zero_add] at e
  rw [show 2 * k + 2 + 1 = k + 3 + k by omega, e, show k + 3 = k + 2 + 1 by omega]
  have hd := drop_at g2
  have hin : innB ((L.drop (k + 1)).headD 0) = false := by
    by_cases h0 : k = 0
    · subst h0
      rw [drop_at (g4 0 (by omega))]
      show innB 59 = false
      decide
    · rw [drop_at (g3 0 (by omega))]
      show innB 41 = false
      decide
  have hne : L.drop (k + 1) ≠ [] := fun e => by have := congrArg List.length e; simp at this; omega
  have hrun : runL innB (97 :: L.drop (k + 1)) = 1 := by
    cases hr : L.drop (k + 1) with
    | nil => exact absurd hr hne
    | cons x r =>
      rw [hr] at hin
      have hin : innB x = false := hin
      unfold runL
      rw [List.takeWhile_cons, if_pos (by decide), List.takeWhile_cons, if_neg (by rw [hin]; decide)]
      rfl
  rw [toks_step (p := k) (kd := 1) (t := (⟨#[97]⟩ : ByteArray)) (n := 0) (wd := 1) (Nat.le_refl _) (by rw [hd, passM_0]; rfl) (by omega) (by
    rw [hd, pieceL_cons, if_pos (by decide)]
    unfold nameL
    rw [hrun, if_neg (by decide)]
    rfl) (by simp [rowT_len]; omega)]
  have e3 := toks_row (c := 41) (by decide) L k (k + 1) 2 ([] ++ rowT 0 40 k ++ [⟨1, (k : Int), (⟨#[97]⟩ : ByteArray), 0⟩]) g3 (by simp [rowT_len]; omega)
  rw [show k + 2 = 2 + k by omega, e3, show k + 1 + k = 2 * k + 1 by omega]
  have e4 := toks_row (c := 59) (by decide) L 1 (2 * k + 1) 1 ([] ++ rowT 0 40 k ++ [⟨1, (k : Int), (⟨#[97]⟩ : ByteArray), 0⟩] ++ rowT (k + 1) 41 k) g4 (by simp [rowT_len]; omega)
  rw [show 2 = 1 + 1 by rfl, e4]
  have : L.drop (2 * k + 1 + 1) = [] := List.drop_eq_nil_of_le (by omega)
  rw [toks_end (p := 2 * k + 1 + 1) (Nat.le_refl _) (by rw [this, passM_nil]; rfl) (by omega)]
  rfl
end Go.Proofs.YtjapainhlfedgaaGreatDoor.S
/-
  A line end parts a text: what stands ahead of it and what stands behind it are cut into tokens each by itself. Plain mathematics.
-/
namespace Go.Proofs.YtjapainhlfedgaaGreatDoor.S
open Go.RowKit Fl

/-- a text's tokens, without places -/
inductive LX : List UInt8 → List Tk → Prop
  | nil {l : List UInt8} (h : passM 0 0 0 l = (l.length, true)) : LX l []
  | cons {l : List UInt8} {p k : Nat} {t : ByteArray} {n wd : Nat} {b : List Tk} (hp : passM 0 0 0 l = (p, true)) (hlt : p < l.length) (hk : pieceL (l.drop p) = .tok k t n wd) (hr : LX (l.drop (p + wd)) b) : LX l (⟨k, 0, t, n⟩ :: b)
def Tk.np (t : Tk) : Tk := { t with pos := 0 }
theorem passM_shift (d : Nat) : ∀ (l : List UInt8) (m st i : Nat), passM m (st + d) (i + d) l = ((passM m st i l).1 + d, (passM m st i l).2)
  | [], m, st, i => by rw [passM_nil, passM_nil]; split <;> rfl
  | c :: r, m, st, i => by
    have key : ∀ m' st', passM m' (st' + d) (i + d + 1) r = ((passM m' st' (i + 1) r).1 + d, (passM m' st' (i + 1) r).2) := fun m' st' => by
      rw [show i + d + 1 = i + 1 + d by omega]; exact passM_shift d r m' st' (i + 1)
    match m with
    | 0 =>
      rw [passM_0, passM_0]
      split
      · exact key _ _
      · split
        · exact key _ _
        · split
          · exact key _ _
          · rfl
    | 1 =>
      rw [passM_1, passM_1]
      split <;> exact key _ _
    | 2 => rw [passM_2, passM_2]; exact key _ _
    | 3 =>
      rw [passM_3, passM_3]
      split <;> exact key _ _
    | m + 4 => exact key 0 st
theorem passM_st : ∀ (l : List UInt8) (m st st' i : Nat), m ≤ 1 → passM m st i l = passM m st' i l
  | [], m, st, st', i, h => by rw [passM_nil, passM_nil, if_pos h, if_pos h]
  | c :: r, m, st, st', i, h => by
    match m, h with
    | 0, _ =>
      rw [passM_0, passM_0]
      split
      · exact passM_st r 0 _ _ _ (by omega)
      · split
        · exact passM_st r 1 _ _ _ (by omega)
        · rfl
    | 1, _ =>
      rw [passM_1, passM_1]
      split
      · exact passM_st r 0 _ _ _ (by omega)
      · exact passM_st r 1 _ _ _ (by omega)
theorem passM_at (l : List UInt8) (st i : Nat) : passM 0 st i l = ((passM 0 0 0 l).1 + i, (passM 0 0 0 l).2) := by
  rw [passM_st l 0 st i i (by omega)]
  have := passM_shift i l 0 0 0
  simpa using this
theorem head_app10 (u R : List UInt8) (c : UInt8) (hc : c ≠ 10) : (u ++ 10 :: R).head? = some c ↔ u.head? = some c := by
  cases u with
  | nil => simp; exact fun h => hc h.symm
  | cons x u => simp
/-- past blanks and comments, where a line ends behind -/
theorem passM_app (R : List UInt8) : ∀ (u : List UInt8) (m st i : Nat), (passM m st i u).2 = true → (m = 4 → u.head? = some 47) →
    ((passM m st i u).1 < i + u.length ∧ passM m st i (u ++ 10 :: R) = passM m st i u) ∨ ((passM m st i u).1 = i + u.length ∧ ∃ st', passM m st i (u ++ 10 :: R) = passM 0 st' (i + u.length + 1) R)
  | [], m, st, i, h, h4 => by
    rw [passM_nil] at h ⊢
    by_cases hm : m ≤ 1
    · rw [if_pos hm]
      refine Or.inr ⟨rfl, st, ?_⟩
      match m, hm with
      | 0, _ => exact (passM_0 st i 10 R).trans (if_pos (by decide))
      | 1, _ => exact (passM_1 st i 10 R).trans (if_pos rfl)
    · rw [if_neg hm] at h; cases h
  | c :: r, m, st, i, h, h4 => by
    have e : (c :: r) ++ 10 :: R = c :: (r ++ 10 :: R) := rfl
    have key : ∀ m' st', (passM m' st' (i + 1) r).2 = true → (m' = 4 → r.head? = some 47) →
        ((passM m' st' (i + 1) r).1 < i + (c :: r).length ∧ passM m' st' (i + 1) (r ++ 10 :: R) = passM m' st' (i + 1) r) ∨ ((passM m' st' (i + 1) r).1 = i + (c :: r).length ∧ ∃ st2, passM m' st' (i + 1) (r ++ 10 :: R) = passM 0 st2 (i + (c :: r).length + 1) R) := fun m' st' h1 h2 => by
      have := passM_app R r m' st' (i + 1) h1 h2
      rw [List.length_cons, show i + (r.length + 1) = i + 1 + r.length by omega]
      exact this
    rw [e]
    match m with
    | 0 =>
      rw [passM_0] at h ⊢
      rw [passM_0]
      have q1 := head_app10 r R 47 (by decide)
      have q2 := head_app10 r R 42 (by decide)
      by_cases a1 : blankB c = true
      · rw [if_pos a1] at h ⊢; rw [if_pos a1]; exact key _ _ h (by omega)
      rw [if_neg a1] at h ⊢; rw [if_neg a1]
      by_cases a2 : c = 47 ∧ r.head? = some 47
      · rw [if_pos a2] at h ⊢; rw [if_pos (show c = 47 ∧ (r ++ 10 :: R).head? = some 47 from ⟨a2.1, q1.2 a2.2⟩)]; exact key _ _ h (by omega)
      rw [if_neg a2] at h ⊢; rw [if_neg (fun (x : c = 47 ∧ (r ++ 10 :: R).head? = some 47) => a2 ⟨x.1, q1.1 x.2⟩)]
      by_cases a3 : c = 47 ∧ r.head? = some 42
      · rw [if_pos a3] at h ⊢; rw [if_pos (show c = 47 ∧ (r ++ 10 :: R).head? = some 42 from ⟨a3.1, q2.2 a3.2⟩)]; exact key _ _ h (by omega)
      rw [if_neg a3] at h ⊢; rw [if_neg (fun (x : c = 47 ∧ (r ++ 10 :: R).head? = some 42) => a3 ⟨x.1, q2.1 x.2⟩)]
      exact Or.inl ⟨by simp, rfl⟩
    | 1 =>
      rw [passM_1] at h ⊢
      rw [passM_1]
      by_cases a1 : c = 10
      · rw [if_pos a1] at h ⊢; rw [if_pos a1]; exact key _ _ h (by omega)
      · rw [if_neg a1] at h ⊢; rw [if_neg a1]; exact key _ _ h (by omega)
    | 2 => exact key 3 st h (by omega)
    | 3 =>
      have q1 := head_app10 r R 47 (by decide)
      rw [passM_3] at h ⊢
      rw [passM_3]
      by_cases a1 : c = 42 ∧ r.head? = some 47
      · rw [if_pos a1] at h ⊢; rw [if_pos (show c = 42 ∧ (r ++ 10 :: R).head? = some 47 from ⟨a1.1, q1.2 a1.2⟩)]; exact key _ _ h (fun _ => a1.2)
      · rw [if_neg a1] at h ⊢; rw [if_neg (fun (x : c = 42 ∧ (r ++ 10 :: R).head? = some 47) => a1 ⟨x.1, q1.1 x.2⟩)]; exact key _ _ h (by omega)
    | m + 4 => exact key 0 st h (by omega)
theorem passM_open (R : List UInt8) (hR : (47 : UInt8) ∉ R) : ∀ (st i : Nat), (passM 3 st i R).2 = false := by
  induction R with
  | nil => intro st i; rfl
  | cons c r ih =>
    intro st i
    have h1 : (47 : UInt8) ∉ r := fun h => hR (List.mem_cons_of_mem _ h)
    rw [passM_3, if_neg (fun x => by
      cases r with
      | nil => cases x.2
      | cons d r => have := x.2; simp at this; exact h1 (by rw [this]; simp))]
    exact ih h1 _ _
theorem passM_part (R : List UInt8) (hR : (47 : UInt8) ∉ R) : ∀ (u : List UInt8) (m st i : Nat), (passM m st i (u ++ 10 :: R)).2 = true → (m = 4 → u.head? = some 47) → m ≤ 4 → (passM m st i u).2 = true
  | [], m, st, i, h, h4, hm => by
    match m, hm with
    | 0, _ => rfl
    | 1, _ => rfl
    | 2, _ =>
      have : (passM 3 st (i + 1) R).2 = true := h
      rw [passM_open R hR] at this
      cases this
    | 3, _ =>
      have hx : (47 : UInt8) ∉ (10 :: R) := fun h => by
        rcases List.mem_cons.1 h with h | h
        · exact absurd h (by decide)
        · exact hR h
      have : (passM 3 st i (10 :: R)).2 = true := h
      rw [passM_open _ hx] at this
      cases this
    | 4, _ => have := h4 rfl; cases this
  | c :: r, m, st, i, h, h4, hm => by
    have e : (c :: r) ++ 10 :: R = c :: (r ++ 10 :: R) := rfl
    rw [e] at h
    have key := fun m' st' h1 h2 h3 => passM_part R hR r m' st' (i + 1) h1 h2 h3
    match m, hm with
    | 0, _ =>
      rw [passM_0] at h ⊢
      have q1 := head_app10 r R 47 (by decide)
      have q2 := head_app10 r R 42 (by decide)
      by_cases a1 : blankB c = true
      · rw [if_pos a1] at h ⊢; exact key _ _ h (by omega) (by omega)
      rw [if_neg a1] at h ⊢
      by_cases a2 : c = 47 ∧ r.head? = some 47
      · rw [if_pos (show c = 47 ∧ (r ++ 10 :: R).head? = some 47 from ⟨a2.1, q1.2 a2.2⟩)] at h; rw [if_pos a2]; exact key _ _ h (by omega) (by omega)
      rw [if_neg (fun (x : c = 47 ∧ (r ++ 10 :: R).head? = some 47) => a2 ⟨x.1, q1.1 x.2⟩)] at h; rw [if_neg a2]
      by_cases a3 : c = 47 ∧ r.head? = some 42
      · rw [if_pos (show c = 47 ∧ (r ++ 10 :: R).head? = some 42 from ⟨a3.1, q2.2 a3.2⟩)] at h; rw [if_pos a3]; exact key _ _ h (by omega) (by omega)
      rw [if_neg a3]
    | 1, _ =>
      rw [passM_1] at h ⊢
      by_cases a1 : c = 10
      · rw [if_pos a1] at h ⊢; exact key _ _ h (by omega) (by omega)
      · rw [if_neg a1] at h ⊢; exact key _ _ h (by omega) (by omega)
    | 2, _ => exact key 3 st h (by omega) (by omega)
    | 3, _ =>
      have q1 := head_app10 r R 47 (by decide)
      rw [passM_3] at h ⊢
      by_cases a1 : c = 42 ∧ r.head? = some 47
      · rw [if_pos (show c = 42 ∧ (r ++ 10 :: R).head? = some 47 from ⟨a1.1, q1.2 a1.2⟩)] at h; rw [if_pos a1]; exact key _ _ h (fun _ => a1.2) (by omega)
      · rw [if_neg (fun (x : c = 42 ∧ (r ++ 10 :: R).head? = some 47) => a1 ⟨x.1, q1.1 x.2⟩)] at h; rw [if_neg a1]; exact key _ _ h (by omega) (by omega)
    | 4, _ => exact key 0 st h (by omega) (by omega)
theorem run_app10 (p : UInt8 → Bool) (hp : p 10 = false) (R : List UInt8) : ∀ u : List UInt8, runL p (u ++ 10 :: R) = runL p u
  | [] => by unfold runL; simp [hp]
  | c :: r => by
    have := run_app10 p hp R r
    unfold runL at *
    rw [List.cons_append, List.takeWhile_cons, List.takeWhile_cons]
    split
    · simp only [List.length_cons]; rw [this]
    · rfl
theorem close_app10 (q : UInt8) (R : List UInt8) : ∀ (u : List UInt8) (t : Bool) (i : Nat), closeL q t i (u ++ 10 :: R) = closeL q t i u
  | [], t, i => by unfold closeL; simp
  | c :: r, t, i => by
    have k := fun t' i' => close_app10 q R r t' i'
    rw [List.cons_append]
    unfold closeL
    simp only [k]
theorem sign_no10 : ∀ l : List UInt8, 10 ∈ l → signB l = false := fun l h => by
  cases hs : signB l with
  | false => rfl
  | true =>
    unfold signB at hs
    have h1 : signsL.all (fun s => !s.contains 10) = true := by decide
    have := List.all_eq_true.1 h1 _ (List.contains_iff_mem.1 hs)
    simp at this
    exact absurd h this
theorem signN_app10 (R : List UInt8) (c : UInt8) (r : List UInt8) : signN ((c :: r) ++ 10 :: R) = signN (c :: r) := by
  match r with
  | [] =>
    have h3 : signB (([c] ++ 10 :: R).take 3) = false := sign_no10 _ (by simp)
    have h2 : signB (([c] ++ 10 :: R).take 2) = false := sign_no10 _ (by simp)
    have eL : signN ([c] ++ 10 :: R) = if signB [c] = true then 1 else 0 := by
      unfold signN
      rw [if_neg (fun x => by have := x.2; rw [h3] at this; cases this), if_neg (fun x => by have := x.2; rw [h2] at this; cases this)]
      simp
    have eR : signN [c] = if signB [c] = true then 1 else 0 := by unfold signN; simp
    rw [eL, eR]
  | [d] =>
    have h3 : signB (([c, d] ++ 10 :: R).take 3) = false := sign_no10 _ (by simp)
    have eL : signN ([c, d] ++ 10 :: R) = if signB [c, d] = true then 2 else if signB [c] = true then 1 else 0 := by
      unfold signN
      rw [if_neg (fun x => by have := x.2; rw [h3] at this; cases this)]
      simp
    have eR : signN [c, d] = if signB [c, d] = true then 2 else if signB [c] = true then 1 else 0 := by unfold signN; simp
    rw [eL, eR]
  | d :: e :: r => unfold signN; simp
theorem take_app_le {α : Type} (u v : List α) (n : Nat) (h : n ≤ u.length) : (u ++ v).take n = u.take n := List.take_append_of_le_length h
/-- no token goes across a line end -/
theorem piece10 (R : List UInt8) (c : UInt8) (r : List UInt8) : pieceL ((c :: r) ++ 10 :: R) = pieceL (c :: r) := by
  have e : (c :: r) ++ 10 :: R = c :: (r ++ 10 :: R) := rfl
  rw [e, pieceL_cons, pieceL_cons, ← e]
  have n1 : nameL ((c :: r) ++ 10 :: R) = nameL (c :: r) := by
    unfold nameL
    rw [run_app10 innB (by decide), take_app_le _ _ _ (runL_le _ _)]
  have n2 : numberL ((c :: r) ++ 10 :: R) = numberL (c :: r) := by
    have hrun := run_app10 isDig (by decide) R (c :: r)
    have hle := runL_le isDig (c :: r)
    unfold numberL numBad
    rw [hrun, take_app_le _ _ _ hle]
    have hh : ((c :: r) ++ 10 :: R).head? = (c :: r).head? := rfl
    rw [hh]
    by_cases hl : runL isDig (c :: r) < (c :: r).length
    · rw [List.getElem?_append_left hl]
    · have hge : (c :: r).length ≤ runL isDig (c :: r) := Nat.le_of_not_lt hl
      rw [List.getElem?_append_right hge, Nat.sub_eq_zero_of_le hle, List.getElem?_eq_none hge]
      have : innB 10 = false := by decide
      simp [this]
  have n3 : literalL c ((c :: r) ++ 10 :: R) = literalL c (c :: r) := by
    unfold literalL
    rw [show ((c :: r) ++ 10 :: R).drop 1 = r ++ 10 :: R from rfl, show (c :: r).drop 1 = r from rfl, close_app10]
    cases hcl : closeL c false 1 r with
    | none => rfl
    | some e =>
      have := closeL_lt c r false 1 e hcl
      show plainP (plainO (mkB ((r ++ 10 :: R).take (e - 1)))) e = plainP (plainO (mkB (r.take (e - 1)))) e
      rw [take_app_le _ _ _ (by omega)]
  have n4 : signL ((c :: r) ++ 10 :: R) = signL (c :: r) := by
    unfold signL
    rw [signN_app10, take_app_le _ _ _ (signN_le _)]
  rw [n1, n2, n3, n4]
theorem lx_app {u R : List UInt8} {b c : List Tk} (h : LX u b) (k : LX R c) : LX (u ++ 10 :: R) (b ++ c) := by
  induction h with
  | @nil l h =>
    have hp := passM_app R l 0 0 0 (by rw [h]) (by omega)
    rw [h] at hp
    have hq : ∃ st', passM 0 0 0 (l ++ 10 :: R) = passM 0 st' (l.length + 1) R := by
      rcases hp with ⟨h1, _⟩ | ⟨_, st', h2⟩
      · simp at h1
      · exact ⟨st', by simpa using h2⟩
    obtain ⟨st', hq⟩ := hq
    rw [passM_at R st'] at hq
    rw [List.nil_append]
    cases k with
    | nil hk =>
      rw [hk] at hq
      refine .nil (hq.trans ?_)
      simp
      omega
    | @cons _ p k t n wd b hp2 hlt hk hr =>
      rw [hp2] at hq
      have e : (l ++ 10 :: R).drop (p + (l.length + 1)) = R.drop p := by
        rw [show l ++ 10 :: R = (l ++ [10]) ++ R by simp, List.drop_append]
        simp
      refine .cons hq (by simp; omega) (by rw [e]; exact hk) ?_
      have e2 : (l ++ 10 :: R).drop (p + (l.length + 1) + wd) = R.drop (p + wd) := by
        rw [← List.drop_drop, e, List.drop_drop]
      rw [e2]
      exact hr
  | @cons l p kd t n wd b hp hlt hk hr ih =>
    have hp2 := passM_app R l 0 0 0 (by rw [hp]) (by omega)
    rw [hp] at hp2
    have hq : passM 0 0 0 (l ++ 10 :: R) = (p, true) := by
      rcases hp2 with ⟨_, h2⟩ | ⟨h1, _⟩
      · exact h2
      · simp at h1; omega
    have hw := pieceL_wide hk
    rw [List.length_drop] at hw
    have e1 : (l ++ 10 :: R).drop p = l.drop p ++ 10 :: R := List.drop_append_of_le_length (by omega)
    have e2 : (l ++ 10 :: R).drop (p + wd) = l.drop (p + wd) ++ 10 :: R := List.drop_append_of_le_length (by omega)
    refine .cons hq (by simp; omega) ?_ (by rw [e2]; exact ih)
    rw [e1]
    cases hd : l.drop p with
    | nil => have := congrArg List.length hd; simp at this; omega
    | cons x r => rw [piece10, ← hd]; exact hk
theorem lx_split {R : List UInt8} (hR : (47 : UInt8) ∉ R) : ∀ (N : Nat) (u : List UInt8) (d : List Tk), u.length ≤ N → LX (u ++ 10 :: R) d → ∃ b c, LX u b ∧ LX R c ∧ d = b ++ c
  | N, u, d, hN, h => by
    generalize hL : u ++ 10 :: R = L at h
    have hend : ∀ p, passM 0 0 0 L = (p, true) → ((passM 0 0 0 u).1 = u.length ∧ (passM 0 0 0 u).2 = true ∧ p = (passM 0 0 0 R).1 + (u.length + 1) ∧ (passM 0 0 0 R).2 = true) ∨ (p < u.length ∧ passM 0 0 0 u = (p, true)) := fun p hp => by
      have h1 := passM_part R hR u 0 0 0 (by rw [hL, hp]) (by omega) (by omega)
      rcases passM_app R u 0 0 0 h1 (by omega) with ⟨h2, h3⟩ | ⟨h2, st', h3⟩
      · rw [hL, hp] at h3
        exact Or.inr ⟨by rw [← h3] at h2; simpa using h2, h3.symm⟩
      · rw [hL, hp, passM_at] at h3
        injection h3 with h4 h5
        exact Or.inl ⟨by simpa using h2, h1, by omega, h5.symm⟩
    have hlen : L.length = u.length + 1 + R.length := by rw [← hL]; simp; omega
    cases h with
    | nil h =>
      rcases hend _ h with ⟨h1, h2, h3, h4⟩ | ⟨h1, _⟩
      · exact ⟨[], [], .nil (Prod.ext h1 h2), .nil (Prod.ext (by show (passM 0 0 0 R).1 = R.length; omega) h4), rfl⟩
      · omega
    | @cons _ p k t n wd b hp hlt hk hr =>
      rcases hend _ hp with ⟨h1, h2, h3, h4⟩ | ⟨h1, h2⟩
      · have e : L.drop p = R.drop (passM 0 0 0 R).1 := by
          rw [← hL, h3, show u ++ 10 :: R = (u ++ [10]) ++ R by simp, List.drop_append]
          simp
        refine ⟨[], ⟨k, 0, t, n⟩ :: b, .nil (Prod.ext h1 h2), .cons (p := (passM 0 0 0 R).1) (Prod.ext rfl h4) (by omega) (by rw [← e]; exact hk) ?_, rfl⟩
        rw [← List.drop_drop, ← e, List.drop_drop]
        exact hr
      · have e1 : L.drop p = u.drop p ++ 10 :: R := by rw [← hL]; exact List.drop_append_of_le_length (by omega)
        have hk2 : pieceL (u.drop p) = .tok k t n wd := by
          cases hd : u.drop p with
          | nil => have := congrArg List.length hd; simp at this; omega
          | cons x r =>
            rw [e1, hd, piece10] at hk
            exact hk
        have hw := pieceL_wide hk2
        rw [List.length_drop] at hw
        have e2 : L.drop (p + wd) = u.drop (p + wd) ++ 10 :: R := by rw [← hL]; exact List.drop_append_of_le_length (by omega)
        rw [e2] at hr
        match N, hN with
        | 0, hN => omega
        | N + 1, hN =>
          obtain ⟨b2, c2, k1, k2, k3⟩ := lx_split hR N (u.drop (p + wd)) b (by simp; omega) hr
          exact ⟨⟨k, 0, t, n⟩ :: b2, c2, .cons h2 h1 hk2 k1, k2, by rw [k3]; rfl⟩
theorem lx_of_toks : ∀ (f i : Nat) (l : List UInt8) (acc r : List Tk), toksF f i l acc = .ok r → ∃ b, r = acc ++ b ++ [⟨0, ((i + l.length : Nat) : Int), ⟨#[]⟩, 0⟩] ∧ LX l (b.map Tk.np)
  | 0, _, _, _, _, h => by cases h
  | f + 1, i, l, acc, r, h => by
    have hpa := passM_at l i i
    cases hp : passM 0 0 0 l with
    | mk p q =>
      rw [hp] at hpa
      unfold toksF at h
      rw [hpa] at h
      cases q with
      | false => rw [if_pos rfl] at h; cases h
      | true =>
        rw [if_neg (by simp)] at h
        dsimp only at h
        rw [show p + i - i = p by omega] at h
        have hple : p ≤ l.length := by have := (passM_le l 0 0 0 (Nat.le_refl _)).2; rw [hp] at this; simpa using this
        by_cases hd : l.drop p = []
        · rw [if_pos hd] at h
          injection h with h
          have : p = l.length := by have := congrArg List.length hd; simp at this; omega
          subst this
          exact ⟨[], by rw [← h, List.append_nil, show l.length + i = i + l.length by omega], .nil hp⟩
        · rw [if_neg hd] at h
          have hlt : p < l.length := by
            rcases Nat.lt_or_ge p l.length with h1 | h1
            · exact h1
            · exact absurd (List.drop_eq_nil_of_le h1) hd
          cases hk : pieceL (l.drop p) with
          | bad k => rw [hk] at h; cases h
          | tok k t n wd =>
            rw [hk] at h
            dsimp only at h
            by_cases ha : acc.length = 16384
            · rw [if_pos ha] at h; cases h
            · rw [if_neg ha, List.drop_drop] at h
              have hw := pieceL_wide hk
              rw [List.length_drop] at hw
              obtain ⟨b, h1, h2⟩ := lx_of_toks f (p + i + wd) (l.drop (p + wd)) _ r h
              refine ⟨⟨k, ((p + i : Nat) : Int), t, n⟩ :: b, ?_, .cons hp hlt hk h2⟩
              rw [h1, List.length_drop, show p + i + wd + (l.length - (p + wd)) = i + l.length by omega]
              simp
theorem toks_of_lx {l : List UInt8} {b : List Tk} (h : LX l b) : ∀ (f i : Nat) (acc : List Tk), l.length < f → acc.length + b.length ≤ 16384 → ∃ b', toksF f i l acc = .ok (acc ++ b' ++ [⟨0, ((i + l.length : Nat) : Int), ⟨#[]⟩, 0⟩]) ∧ b'.map Tk.np = b := by
  induction h with
  | @nil l h =>
    intro f i acc hf ha
    obtain ⟨f, rfl⟩ : ∃ g, f = g + 1 := ⟨f - 1, by omega⟩
    refine ⟨[], ?_, rfl⟩
    unfold toksF
    rw [passM_at l i i, h, if_neg (by simp), if_pos (by dsimp only; rw [show l.length + i - i = l.length by omega, List.drop_length])]
    dsimp only
    rw [List.append_nil, show l.length + i = i + l.length by omega]
  | @cons l p k t n wd b hp hlt hk hr ih =>
    intro f i acc hf ha
    obtain ⟨f, rfl⟩ : ∃ g, f = g + 1 := ⟨f - 1, by omega⟩
    have hw := pieceL_wide hk
    rw [List.length_drop] at hw
    rw [List.length_cons] at ha
    obtain ⟨b', h1, h2⟩ := ih f (p + i + wd) (acc ++ [⟨k, ((p + i : Nat) : Int), t, n⟩]) (by rw [List.length_drop]; omega) (by simp; omega)
    refine ⟨⟨k, ((p + i : Nat) : Int), t, n⟩ :: b', ?_, by simp [h2, Tk.np]⟩
    conv => lhs; unfold toksF
    rw [passM_at l i i, hp, if_neg (by simp)]
    dsimp only
    rw [show p + i - i = p by omega, if_neg (by intro e; have := congrArg List.length e; simp at this; omega), hk]
    dsimp only
    rw [if_neg (by omega), List.drop_drop, h1, List.length_drop, show p + i + wd + (l.length - (p + wd)) = i + l.length by omega]
    simp
end Go.Proofs.YtjapainhlfedgaaGreatDoor.S
/-
  What blocks and brackets in one another are parsed to. Plain mathematics.
-/
namespace Go.Proofs.YtjapainhlfedgaaGreatDoor.S
open Go.RowKit Fl

theorem tkAt_of {T : List Tk} {i : Nat} {t : Tk} (h : T[i]? = some t) : tkAt T i = t := by unfold tkAt; rw [List.getD_eq_getElem?_getD, h]; rfl
theorem block_len (k : Nat) : (blockT k).length = 2 * k + 1 := by simp [blockT, rowT_len]; omega
theorem block_open {k i : Nat} (h : i < k) : tkAt (blockT k) i = ⟨5, i, (⟨#[123]⟩ : ByteArray), 0⟩ := tkAt_of (by
  unfold blockT
  rw [List.append_assoc, List.getElem?_append_left (by rw [rowT_len]; exact h), rowT_get h, Nat.zero_add]
  rfl)
theorem block_shut {k i : Nat} (h1 : k ≤ i) (h2 : i < 2 * k) : tkAt (blockT k) i = ⟨5, i, (⟨#[125]⟩ : ByteArray), 0⟩ := tkAt_of (by
  unfold blockT
  rw [List.append_assoc, List.getElem?_append_right (by rw [rowT_len]; exact h1), rowT_len, List.getElem?_append_left (by rw [rowT_len]; omega), rowT_get (by omega), show k + (i - k) = i by omega]
  rfl)
theorem block_end (k : Nat) : tkAt (blockT k) (2 * k) = ⟨0, ((2 * k : Nat) : Int), ⟨#[]⟩, 0⟩ := tkAt_of (by
  unfold blockT
  have e : (rowT 0 123 k ++ rowT k 125 k).length = 2 * k := by simp [rowT_len]; omega
  rw [List.getElem?_append_right (by omega), e, Nat.sub_self]
  rfl)
theorem blocks_parse {k : Nat} (hk : k ≤ 200) : ∃ l, parseP (manyL [123] k ++ manyL [125] k) = .ok l ∧ l.length = k + 1 := by
  unfold parseP
  rw [toks_blocks (by omega)]
  show ∃ l, treeP (blockT k) = .ok l ∧ _
  by_cases h0 : k = 0
  · subst h0
    exact ⟨[⟨1, 0, ⟨#[]⟩, 0, []⟩], by kernel_rfl, rfl⟩
  have hl := block_len k
  have hrun := nest_run (T := blockT k) (k := k) (fun i h => block_open h) (fun i h1 h2 => block_shut h1 h2) hk (by omega) (k - 1) 0 (by omega) (depthOf (blockT k)) (by unfold depthOf; omega) 0 (Int.le_refl _) (by omega)
  have hscript : scriptR (blockT k) (depthOf (blockT k)) ⟨0, 0, 0⟩ = .ok (.mk 1 0 ⟨#[]⟩ 0 [nest (k - 1) 0]) ⟨2 * k, 0, (k : Int) + 1⟩ := by
    unfold scriptR
    have e1 : scriptL (blockT k) (run (blockT k) (depthOf (blockT k)) .statement) ((blockT k).length + 1) [] ⟨0, 0, 0⟩ = .ok [nest (k - 1) 0] ⟨2 * k, 0, (k : Int)⟩ := by
      rw [hl]
      unfold scriptL
      rw [if_neg (by show ¬ (tkAt (blockT k) 0).kind = 0; rw [block_open (show 0 < k by omega)]; decide)]
      rw [show (⟨0, 0, 0⟩ : Ps) = ⟨0, ((0 : Nat) : Int), 0⟩ from rfl, hrun]
      show scriptL _ _ _ _ _ = _
      rw [show 2 * k + 1 = 2 * k + 1 from rfl]
      unfold scriptL
      have : tok (blockT k) ⟨0 + 2 * (k - 1 + 1), ((0 : Nat) : Int), 0 + ((k - 1 + 1 : Nat) : Int)⟩ = ⟨0, ((2 * k : Nat) : Int), ⟨#[]⟩, 0⟩ := by
        unfold tok
        show tkAt _ (0 + 2 * (k - 1 + 1)) = _
        rw [show 0 + 2 * (k - 1 + 1) = 2 * k by omega, block_end]
      rw [this, if_pos rfl]
      simp
      omega
    rw [e1]
    show mkP 1 (here (blockT k) ⟨0, 0, 0⟩) ⟨#[]⟩ 0 [nest (k - 1) 0] ⟨2 * k, 0, (k : Int)⟩ = _
    unfold mkP here tok
    show Rs.ok (Tr.mk 1 (tkAt (blockT k) 0).pos ⟨#[]⟩ 0 [nest (k - 1) 0]) (⟨2 * k, 0, w64 ((k : Int) + 1)⟩ : Ps) = _
    rw [block_open (show 0 < k by omega), w64_mid (by show (-1000 : Int) ≤ (k : Int) + 1; omega) (by show (k : Int) + 1 ≤ 1000; omega)]
    rfl
  unfold treeP
  rw [hscript]
  refine ⟨_, if_neg (by show ¬ (k : Int) + 1 > 16384; omega), ?_⟩
  rw [flatT_len, size_mk, sizes_one, nest_size]
  omega
theorem blocks_deep {k : Nat} (hk : 200 < k) (h4 : k ≤ 400) : parseP (manyL [123] k ++ manyL [125] k) = .err 200 6 := by
  unfold parseP
  rw [toks_blocks (by omega)]
  show treeP (blockT k) = _
  have hl := block_len k
  have hrun := nest_deep (T := blockT k) (k := k) (fun i h => block_open h) hk 200 0 (by omega) (depthOf (blockT k)) (by unfold depthOf; omega) 0
  have hscript : scriptR (blockT k) (depthOf (blockT k)) ⟨0, 0, 0⟩ = .bad 200 6 := by
    unfold scriptR
    have e1 : scriptL (blockT k) (run (blockT k) (depthOf (blockT k)) .statement) ((blockT k).length + 1) [] ⟨0, 0, 0⟩ = .bad 200 6 := by
      rw [hl]
      unfold scriptL
      rw [if_neg (by show ¬ (tkAt (blockT k) 0).kind = 0; rw [block_open (show 0 < k by omega)]; decide), show (⟨0, 0, 0⟩ : Ps) = ⟨0, ((0 : Nat) : Int), 0⟩ from rfl, hrun]
      rfl
    rw [e1]
    rfl
  unfold treeP
  rw [hscript]
theorem brack_len (k : Nat) : (brackT k).length = 2 * k + 3 := by simp [brackT, rowT_len]; omega
theorem brack_open {k i : Nat} (h : i < k) : tkAt (brackT k) i = ⟨5, i, (⟨#[40]⟩ : ByteArray), 0⟩ := tkAt_of (by
  unfold brackT
  rw [List.append_assoc, List.append_assoc, List.append_assoc, List.getElem?_append_left (by rw [rowT_len]; exact h), rowT_get h, Nat.zero_add]
  rfl)
theorem brack_name (k : Nat) : tkAt (brackT k) k = ⟨1, k, (⟨#[97]⟩ : ByteArray), 0⟩ := tkAt_of (by
  unfold brackT
  rw [List.append_assoc, List.append_assoc, List.append_assoc, List.getElem?_append_right (by rw [rowT_len]; omega), rowT_len, Nat.sub_self]
  rfl)
theorem brack_shut {k i : Nat} (h1 : k < i) (h2 : i ≤ 2 * k) : tkAt (brackT k) i = ⟨5, i, (⟨#[41]⟩ : ByteArray), 0⟩ := tkAt_of (by
  unfold brackT
  have e : (rowT 0 40 k ++ [(⟨1, (k : Int), (⟨#[97]⟩ : ByteArray), 0⟩ : Tk)]).length = k + 1 := by simp [rowT_len]
  rw [List.append_assoc, List.append_assoc, List.getElem?_append_right (by omega), e, List.getElem?_append_left (by rw [rowT_len]; omega), rowT_get (by omega), show k + 1 + (i - (k + 1)) = i by omega]
  rfl)
theorem brack_semi (k : Nat) : tkAt (brackT k) (2 * k + 1) = ⟨5, ((2 * k + 1 : Nat) : Int), (⟨#[59]⟩ : ByteArray), 0⟩ := tkAt_of (by
  unfold brackT
  have e : (rowT 0 40 k ++ [(⟨1, (k : Int), (⟨#[97]⟩ : ByteArray), 0⟩ : Tk)] ++ rowT (k + 1) 41 k).length = 2 * k + 1 := by simp [rowT_len]; omega
  rw [List.append_assoc, List.getElem?_append_right (by omega), e, Nat.sub_self]
  rfl)
theorem brack_end (k : Nat) : tkAt (brackT k) (2 * k + 2) = ⟨0, ((2 * k + 2 : Nat) : Int), ⟨#[]⟩, 0⟩ := tkAt_of (by
  unfold brackT
  have e : (rowT 0 40 k ++ [(⟨1, (k : Int), (⟨#[97]⟩ : ByteArray), 0⟩ : Tk)] ++ rowT (k + 1) 41 k ++ [(⟨5, ((2 * k + 1 : Nat) : Int), (⟨#[59]⟩ : ByteArray), 0⟩ : Tk)]).length = 2 * k + 2 := by simp [rowT_len]; omega
  rw [List.getElem?_append_right (by omega), e, Nat.sub_self]
  rfl)
/-- the first statement is a value, and what becomes of it -/
theorem brack_stated (k n : Nat) (s : Ps) (hs : s.next = 0) : run (brackT k) (n + 2) .stated s = ((run (brackT k) n .assign s).bind fun x s1 => (take1 (brackT k) (⟨#[59]⟩ : ByteArray) s1).bind fun _ s2 => .ok x s2).bind fun x s1 => mkP 6 (here (brackT k) s) ⟨#[]⟩ 0 [x] s1 := by
  have hsd : sd (brackT k) s = (⟨#[40]⟩ : ByteArray) ∨ sd (brackT k) s = (⟨#[97]⟩ : ByteArray) := by
    unfold sd saidT tok
    rw [hs]
    by_cases h0 : k = 0
    · subst h0
      rw [brack_name 0]
      exact Or.inr rfl
    · rw [brack_open (show 0 < k by omega)]
      exact Or.inl rfl
  show step (brackT k) (run (brackT k) (n + 1)) .stated s = _
  dsimp only [step]
  have e : run (brackT k) (n + 1) .ended s = (run (brackT k) n .assign s).bind fun x s1 => (take1 (brackT k) (⟨#[59]⟩ : ByteArray) s1).bind fun _ s2 => .ok x s2 := rfl
  rcases hsd with h | h <;> rw [h, if_neg (by decide), if_neg (by decide), if_neg (by decide), if_neg (by decide), if_neg (by decide), if_neg (by decide), if_neg (by decide), if_neg (by decide), if_neg (by decide), if_neg (by decide), if_neg (by decide), if_neg (by decide), e]
theorem bracks_parse {k : Nat} (hk : k ≤ 198) : ∃ l, parseP (manyL [40] k ++ [97] ++ manyL [41] k ++ [59]) = .ok l ∧ l.length = 3 := by
  unfold parseP
  rw [toks_bracks (by omega)]
  show ∃ l, treeP (brackT k) = .ok l ∧ _
  have hl := brack_len k
  obtain ⟨n, hn⟩ : ∃ n, depthOf (brackT k) = n + 3 := ⟨20 * (brackT k).length + 17, by unfold depthOf; omega⟩
  have hrun := par_run (T := brackT k) (k := k) (fun i h => brack_open h) (brack_name k) (fun i h1 h2 => brack_shut h1 h2) (brack_semi k) hk k 0 (by omega) n (by unfold depthOf at hn; omega) 0 (Int.le_refl _) (by omega)
  have hst : run (brackT k) (n + 3) .statement ⟨0, 0, 0⟩ = .ok (.mk 6 (here (brackT k) ⟨0, 1, 0⟩) ⟨#[]⟩ 0 [.mk 26 k (⟨#[97]⟩ : ByteArray) 0 []]) ⟨2 * k + 2, 0, 2⟩ := by
    show deeperR (brackT k) (run (brackT k) (n + 2) .stated) ⟨0, 0, 0⟩ = _
    unfold deeperR
    rw [if_neg (by decide), brack_stated k n _ rfl]
    rw [show ({ next := 0, level := w64 (0 + 1), parts := 0 } : Ps) = ⟨0, ((0 + 1 : Nat) : Int), 0⟩ by rw [w64_mid (by decide) (by decide)]; rfl, hrun]
    show (Rs.bind (Rs.bind (take1 (brackT k) (⟨#[59]⟩ : ByteArray) ⟨k + k + 1, ((0 + 1 : Nat) : Int), 0 + 1⟩) _) _).bind _ = _
    have ht : take1 (brackT k) (⟨#[59]⟩ : ByteArray) ⟨k + k + 1, ((0 + 1 : Nat) : Int), 0 + 1⟩ = .ok () ⟨k + k + 1 + 1, ((0 + 1 : Nat) : Int), 0 + 1⟩ := by
      unfold take1
      have hsm : tkAt (brackT k) (k + k + 1) = ⟨5, ((2 * k + 1 : Nat) : Int), (⟨#[59]⟩ : ByteArray), 0⟩ := by rw [show k + k + 1 = 2 * k + 1 by omega]; exact brack_semi k
      rw [sd_at hsm rfl, if_pos (by decide)]
      rfl
    rw [ht]
    show Rs.ok _ _ = _
    congr 1
    show (⟨k + k + 1 + 1, w64 (((0 + 1 : Nat) : Int) - 1), w64 (0 + 1 + 1)⟩ : Ps) = _
    rw [show k + k + 1 + 1 = 2 * k + 2 by omega, w64_mid (by decide) (by decide), w64_mid (by decide) (by decide)]
    rfl
  have hscript : ∃ t, scriptR (brackT k) (depthOf (brackT k)) ⟨0, 0, 0⟩ = .ok (.mk 1 (here (brackT k) ⟨0, 0, 0⟩) ⟨#[]⟩ 0 [t]) ⟨2 * k + 2, 0, 3⟩ ∧ t.size = 2 := by
    refine ⟨.mk 6 (here (brackT k) ⟨0, 1, 0⟩) ⟨#[]⟩ 0 [.mk 26 k (⟨#[97]⟩ : ByteArray) 0 []], ?_, by simp [Tr.size, Tr.sizes]⟩
    unfold scriptR
    rw [hn]
    have e1 : scriptL (brackT k) (run (brackT k) (n + 3) .statement) ((brackT k).length + 1) [] ⟨0, 0, 0⟩ = .ok [.mk 6 (here (brackT k) ⟨0, 1, 0⟩) ⟨#[]⟩ 0 [.mk 26 k (⟨#[97]⟩ : ByteArray) 0 []]] ⟨2 * k + 2, 0, 2⟩ := by
      rw [hl]
      unfold scriptL
      rw [if_neg (by
        unfold tok
        show ¬ (tkAt (brackT k) 0).kind = 0
        by_cases h0 : k = 0
        · subst h0; rw [brack_name 0]; decide
        · rw [brack_open (show 0 < k by omega)]; decide), hst]
      show scriptL _ _ _ _ _ = _
      unfold scriptL
      rw [if_pos (by show (tkAt (brackT k) (2 * k + 2)).kind = 0; rw [brack_end])]
      rfl
    rw [e1]
    show mkP 1 (here (brackT k) ⟨0, 0, 0⟩) ⟨#[]⟩ 0 _ ⟨2 * k + 2, 0, 2⟩ = _
    unfold mkP
    rw [w64_mid (by show (-1000 : Int) ≤ 2 + 1; decide) (by show (2 : Int) + 1 ≤ 1000; decide)]
    rfl
  obtain ⟨t, h1, h2⟩ := hscript
  unfold treeP
  rw [h1]
  refine ⟨_, if_neg (by show ¬ (3 : Int) > 16384; decide), ?_⟩
  rw [flatT_len, size_mk, sizes_one, h2]
theorem bracks_deep {k : Nat} (hk : 198 < k) (h4 : k ≤ 400) : parseP (manyL [40] k ++ [97] ++ manyL [41] k ++ [59]) = .err 199 6 := by
  unfold parseP
  rw [toks_bracks (by omega)]
  show treeP (brackT k) = _
  have hl := brack_len k
  obtain ⟨n, hn⟩ : ∃ n, depthOf (brackT k) = n + 3 := ⟨20 * (brackT k).length + 17, by unfold depthOf; omega⟩
  have hrun := par_deep (T := brackT k) (k := k) (fun i h => brack_open h) (brack_name k) hk 199 0 (by omega) n (by unfold depthOf at hn; omega) 0
  have hst : run (brackT k) (n + 3) .statement ⟨0, 0, 0⟩ = .bad 199 6 := by
    show deeperR (brackT k) (run (brackT k) (n + 2) .stated) ⟨0, 0, 0⟩ = _
    unfold deeperR
    rw [if_neg (by decide), brack_stated k n _ rfl, show ({ next := 0, level := w64 (0 + 1), parts := 0 } : Ps) = ⟨0, ((0 + 1 : Nat) : Int), 0⟩ by rw [w64_mid (by decide) (by decide)]; rfl, hrun]
    rfl
  have hscript : scriptR (brackT k) (depthOf (brackT k)) ⟨0, 0, 0⟩ = .bad 199 6 := by
    unfold scriptR
    rw [hn]
    have e1 : scriptL (brackT k) (run (brackT k) (n + 3) .statement) ((brackT k).length + 1) [] ⟨0, 0, 0⟩ = .bad 199 6 := by
      rw [hl]
      unfold scriptL
      rw [if_neg (by
        unfold tok
        show ¬ (tkAt (brackT k) 0).kind = 0
        rw [brack_open (show 0 < k by omega)]; decide), hst]
      rfl
    rw [e1]
    rfl
  unfold treeP
  rw [hscript]
end Go.Proofs.YtjapainhlfedgaaGreatDoor.S
/-
  Two scripts one behind the other are one script with the statements of both. Plain mathematics.
-/
namespace Go.Proofs.YtjapainhlfedgaaGreatDoor.S
open Go.RowKit Fl

theorem lx_len {u : List UInt8} {b : List Tk} (h : LX u b) : b.length ≤ u.length := by
  induction h with
  | nil h => simp
  | @cons l p k t n wd b hp hlt hk hr ih =>
    have hw := pieceL_wide hk
    rw [List.length_drop] at hw ih
    simp only [List.length_cons]
    omega
theorem tkAt_app_left {B C : List Tk} {i : Nat} (h : i < B.length) : tkAt (B ++ C) i = B[i] := tkAt_of (by rw [List.getElem?_append_left h, List.getElem?_eq_getElem h])
theorem tkAt_app_right {B C : List Tk} {i : Nat} : tkAt (B ++ C) (B.length + i) = tkAt C i := by
  unfold tkAt
  rw [List.getD_eq_getElem?_getD, List.getD_eq_getElem?_getD, List.getElem?_append_right (by omega), show B.length + i - B.length = i by omega]
theorem tkAt_np {B C : List Tk} (h : B.map Tk.np = C.map Tk.np) {i : Nat} : (tkAt B i).kind = (tkAt C i).kind ∧ (tkAt B i).text = (tkAt C i).text ∧ (tkAt B i).num = (tkAt C i).num := by
  have e : ∀ L : List Tk, Tk.np (tkAt L i) = (L.map Tk.np)[i]?.getD noTk := fun L => by
    unfold tkAt
    rw [List.getD_eq_getElem?_getD, List.getElem?_map]
    cases L[i]? <;> rfl
  have h1 : Tk.np (tkAt B i) = Tk.np (tkAt C i) := by rw [e, e, h]
  unfold Tk.np at h1
  simp only [Tk.mk.injEq] at h1
  exact ⟨h1.1, h1.2.2.1, h1.2.2.2⟩
/-- a statement that begins with none of its words begins with a value -/
theorem begin_prim {T : List Tk} {c : ByteArray} (h1 : leadsB c = false) (h2 : (c == (⟨#[110, 101, 119]⟩ : ByteArray)) = false) {n : Nat} {s s1 : Ps} {t : Tr} (hsd : sd T s = c) (h : run T n .assigned s = .ok t s1) : ∃ n' s2 t2, run T n' .primary s = .ok t2 s2 := by
  cases n with
  | zero => cases h
  | succ n =>
    have h : step T (run T n) .assigned s = .ok t s1 := h
    dsimp only [step] at h
    obtain ⟨x, s2, h, _⟩ := Rs.bind_inv h
    cases n with
    | zero => cases h
    | succ n =>
      have h : step T (run T n) .cond s = .ok x s2 := h
      dsimp only [step] at h
      obtain ⟨x, s2, h, _⟩ := Rs.bind_inv h
      cases n with
      | zero => cases h
      | succ n =>
        have h : step T (run T n) (.sides 1) s = .ok x s2 := h
        dsimp only [step] at h
        obtain ⟨x, s2, h, _⟩ := Rs.bind_inv h
        cases n with
        | zero => cases h
        | succ n =>
          have h : step T (run T n) .unary s = .ok x s2 := h
          dsimp only [step] at h
          rw [hsd, if_neg (by rw [h1]; decide)] at h
          cases n with
          | zero => cases h
          | succ n =>
            have h : step T (run T n) (.chain true) s = .ok x s2 := h
            dsimp only [step] at h
            obtain ⟨x, s2, h, _⟩ := Rs.bind_inv h
            cases n with
            | zero => cases h
            | succ n =>
              have h : step T (run T n) .head s = .ok x s2 := h
              dsimp only [step] at h
              rw [hsd, if_neg (by rw [h2]; decide)] at h
              exact ⟨_, _, _, h⟩
theorem no_prim {T : List Tk} {c : ByteArray} (g1 : (c == (⟨#[116, 114, 117, 101]⟩ : ByteArray)) = false) (g2 : (c == (⟨#[102, 97, 108, 115, 101]⟩ : ByteArray)) = false) (g3 : (c == (⟨#[110, 117, 108, 108]⟩ : ByteArray)) = false) (g4 : (c == (⟨#[116, 104, 105, 115]⟩ : ByteArray)) = false) (g5 : (c == (⟨#[40]⟩ : ByteArray)) = false) (g6 : (c == (⟨#[102, 117, 110, 99, 116, 105, 111, 110]⟩ : ByteArray)) = false) (g7 : (c == (⟨#[123]⟩ : ByteArray)) = false) (g8 : (c == (⟨#[91]⟩ : ByteArray)) = false)
    {n : Nat} {s s1 : Ps} {t : Tr} (hk : (tok T s).kind = 2) (ht : (tok T s).text = c) (h : run T n .primary s = .ok t s1) : False := by
  cases n with
  | zero => cases h
  | succ n =>
    have h : step T (run T n) .primary s = .ok t s1 := h
    dsimp only [step] at h
    rw [if_neg (by omega), if_neg (by omega), if_neg (by omega), ht, if_neg (by rw [g1]; decide), if_neg (by rw [g2]; decide), if_neg (by rw [g3]; decide), if_neg (by rw [g4]; decide), if_neg (by rw [g5]; decide), if_neg (by rw [g6]; decide), if_neg (by rw [g7]; decide), if_neg (by rw [g8]; decide)] at h
    cases h
/-- none of the words with which a statement goes on begins one -/
theorem no_begin {T : List Tk} (hm : MayP T) {n : Nat} {s s1 : Ps} {t : Tr} (hs : s.next < T.length) (h : run T n .statement s = .ok t s1) : SN (sd T s) := by
  have key : ∀ c : ByteArray, c = (⟨#[101, 108, 115, 101]⟩ : ByteArray) ∨ c = (⟨#[99, 97, 116, 99, 104]⟩ : ByteArray) ∨ c = (⟨#[102, 105, 110, 97, 108, 108, 121]⟩ : ByteArray) → (sd T s == c) = false := fun c hc => by
    cases hq : (sd T s == c) with
    | false => rfl
    | true =>
      exfalso
      have e := str_beq hq
      have hp := tokp_at hm hs
      have hne : c ≠ ⟨#[]⟩ := by rcases hc with rfl | rfl | rfl <;> decide
      have ht : (tok T s).text = c ∧ (tok T s).kind ≠ 4 := by
        unfold sd saidT at e
        by_cases h4 : (tok T s).kind = 4
        · rw [if_pos h4] at e; exact absurd e.symm hne
        · rw [if_neg h4] at e; exact ⟨e, h4⟩
      have hk2 : (tok T s).kind = 2 := by
        rcases hp with ⟨_, h1, _⟩ | ⟨_, h1, _⟩ | ⟨h1, _⟩ | ⟨_, _, k1, k2, h1⟩
        · rw [ht.1] at h1; exact absurd h1 hne
        · rw [ht.1] at h1; exact absurd h1 hne
        · exact absurd h1 ht.2
        · rw [ht.1] at h1
          rcases hc with rfl | rfl | rfl
          · rw [show pieceL ((⟨#[101, 108, 115, 101]⟩ : ByteArray) : ByteArray).data.toList = .tok 2 (⟨#[101, 108, 115, 101]⟩ : ByteArray) 0 4 by kernel_rfl] at h1; injection h1 with h1; exact h1.symm
          · rw [show pieceL ((⟨#[99, 97, 116, 99, 104]⟩ : ByteArray) : ByteArray).data.toList = .tok 2 (⟨#[99, 97, 116, 99, 104]⟩ : ByteArray) 0 5 by kernel_rfl] at h1; injection h1 with h1; exact h1.symm
          · rw [show pieceL ((⟨#[102, 105, 110, 97, 108, 108, 121]⟩ : ByteArray) : ByteArray).data.toList = .tok 2 (⟨#[102, 105, 110, 97, 108, 108, 121]⟩ : ByteArray) 0 7 by kernel_rfl] at h1; injection h1 with h1; exact h1.symm
      cases n with
      | zero => cases h
      | succ n =>
        have hd : deeperR T (run T n .stated) s = .ok t s1 := h
        obtain ⟨_, s2, e1, _⟩ := deeper_inv hd
        cases n with
        | zero => cases e1
        | succ n =>
          have e1 : step T (run T n) .stated { s with level := w64 (s.level + 1) } = .ok t s2 := e1
          dsimp only [step] at e1
          rw [show sd T { s with level := w64 (s.level + 1) } = c from e] at e1
          have e3 : ∃ x s3, run T n .ended { s with level := w64 (s.level + 1) } = .ok x s3 := by
            rcases hc with rfl | rfl | rfl
            · rw [if_neg (by decide), if_neg (by decide), if_neg (by decide), if_neg (by decide), if_neg (by decide), if_neg (by decide), if_neg (by decide), if_neg (by decide), if_neg (by decide), if_neg (by decide), if_neg (by decide), if_neg (by decide)] at e1
              obtain ⟨x, s3, e1, _⟩ := Rs.bind_inv e1
              exact ⟨x, s3, e1⟩
            · rw [if_neg (by decide), if_neg (by decide), if_neg (by decide), if_neg (by decide), if_neg (by decide), if_neg (by decide), if_neg (by decide), if_neg (by decide), if_neg (by decide), if_neg (by decide), if_neg (by decide), if_neg (by decide)] at e1
              obtain ⟨x, s3, e1, _⟩ := Rs.bind_inv e1
              exact ⟨x, s3, e1⟩
            · rw [if_neg (by decide), if_neg (by decide), if_neg (by decide), if_neg (by decide), if_neg (by decide), if_neg (by decide), if_neg (by decide), if_neg (by decide), if_neg (by decide), if_neg (by decide), if_neg (by decide), if_neg (by decide)] at e1
              obtain ⟨x, s3, e1, _⟩ := Rs.bind_inv e1
              exact ⟨x, s3, e1⟩
          obtain ⟨x, s3, e3⟩ := e3
          cases n with
          | zero => cases e3
          | succ n =>
            have e3 : step T (run T n) .ended { s with level := w64 (s.level + 1) } = .ok x s3 := e3
            dsimp only [step] at e3
            obtain ⟨x4, s4, e4, _⟩ := Rs.bind_inv e3
            cases n with
            | zero => cases e4
            | succ n =>
              have e4 : deeperR T (run T n .assigned) { s with level := w64 (s.level + 1) } = .ok x4 s4 := e4
              obtain ⟨_, s5, e5, _⟩ := deeper_inv e4
              have hsd : sd T { s with level := w64 (w64 (s.level + 1) + 1) } = c := e
              have hk3 : (tok T { s with level := w64 (w64 (s.level + 1) + 1) }).kind = 2 := hk2
              have ht3 : (tok T { s with level := w64 (w64 (s.level + 1) + 1) }).text = c := ht.1
              rcases hc with rfl | rfl | rfl
              · obtain ⟨n', s6, t6, e6⟩ := begin_prim (by decide) (by decide) hsd e5
                exact no_prim (by decide) (by decide) (by decide) (by decide) (by decide) (by decide) (by decide) (by decide) hk3 ht3 e6
              · obtain ⟨n', s6, t6, e6⟩ := begin_prim (by decide) (by decide) hsd e5
                exact no_prim (by decide) (by decide) (by decide) (by decide) (by decide) (by decide) (by decide) (by decide) hk3 ht3 e6
              · obtain ⟨n', s6, t6, e6⟩ := begin_prim (by decide) (by decide) hsd e5
                exact no_prim (by decide) (by decide) (by decide) (by decide) (by decide) (by decide) (by decide) (by decide) hk3 ht3 e6
  exact ⟨key _ (Or.inl rfl), key _ (Or.inr (Or.inl rfl)), key _ (Or.inr (Or.inr rfl))⟩
/-- statements up to the end, over two rows of tokens -/
theorem sim_script {T U : List Tk} {a b e : Nat} (hm : MayP T) (W : Two T U a b e 0) (n : Nat) : ∀ (fu : Nat) (L L' : List Tr) (s u : Ps) (t : List Tr) (s1 : Ps), Tr.nps L = Tr.nps L' → SimS a b 0 0 s u → s.next < T.length → T.length ≤ a + e + 1 →
    scriptL T (run T n .statement) fu L s = .ok t s1 → s1.next < T.length ∧ (tok T s1).kind = 0 ∧ ∃ t' u1 k, k + s.next ≤ s1.next ∧ Tr.nps t = Tr.nps t' ∧ SimS a b 0 0 s1 u1 ∧ ∀ g, scriptL U (run U n .statement) (k + g) L' u = scriptL U (run U n .statement) g t' u1
  | 0, _, _, _, _, _, _, _, _, _, _, h => by unfold scriptL at h; cases h
  | fu + 1, L, L', s, u, t, s1, hL, R, hs, hT, h => by
    unfold scriptL at h
    by_cases q : (tok T s).kind = 0
    · rw [if_pos q] at h
      obtain ⟨et, es⟩ := Rs.ok_inj h
      subst es
      exact ⟨hs, q, L', u, 0, by omega, by rw [et]; exact hL, R, fun g => by rw [Nat.zero_add]⟩
    · rw [if_neg q] at h
      obtain ⟨x, s2, h1, h⟩ := Rs.bind_inv h
      have p := prog_run hm n .statement _ _ _ trivial hs h1
      obtain ⟨y, u2, g1, g2, g3⟩ := sim_run hm W n .statement .statement 0 _ _ _ _ (.refl _) (by omega) (by omega) (by omega) R trivial hs h1 (by omega) (Or.inr fun h => Bool.noConfusion (show false = true from h))
      obtain ⟨k1, k2, t', u1, k, k3, k4, k5, k6⟩ := sim_script hm W n fu _ (L' ++ [y]) _ _ _ _ (nps_snoc hL g2) g3 p.2 hT h
      refine ⟨k1, k2, t', u1, k + 1, by omega, k4, k5, fun g => ?_⟩
      rw [show k + 1 + g = (k + g) + 1 by omega]
      conv => lhs; unfold scriptL
      have hlt : s.next < a + e := by omega
      rw [(sim_tok W R hlt).1, if_neg q]
      exact (Rs.bind_ok g1 _).trans (k6 g)
end Go.Proofs.YtjapainhlfedgaaGreatDoor.S
/-
  What two texts with a line end between are parsed to. Plain mathematics.
-/
namespace Go.Proofs.YtjapainhlfedgaaGreatDoor.S
open Go.RowKit Fl

mutual
theorem size_np : ∀ t : Tr, t.np.size = t.size
  | .mk k p t x l => by unfold Tr.np; rw [size_mk, size_mk, sizes_np l]
theorem sizes_np : ∀ l : List Tr, Tr.sizes (Tr.nps l) = Tr.sizes l
  | [] => rfl
  | t :: l => by unfold Tr.nps Tr.sizes; rw [size_np t, sizes_np l]
end
theorem sizes_of_nps {l m : List Tr} (h : Tr.nps l = Tr.nps m) : Tr.sizes l = Tr.sizes m := by rw [← sizes_np l, h, sizes_np m]
theorem scriptL_pre {T : List Tk} (f : Ps → Rs Tr) (P : List Tr) : ∀ (n : Nat) (L : List Tr) (s : Ps), scriptL T f n (P ++ L) s = (scriptL T f n L s).bind fun t s1 => .ok (P ++ t) s1
  | 0, _, _ => rfl
  | n + 1, L, s => by
    unfold scriptL
    by_cases q : (tok T s).kind = 0
    · rw [if_pos q, if_pos q]; rfl
    · rw [if_neg q, if_neg q]
      cases f s with
      | ok x s2 =>
        show scriptL T f n (P ++ L ++ [x]) s2 = _
        rw [List.append_assoc]
        exact scriptL_pre f P n (L ++ [x]) s2
      | bad p k => rfl
      | out => rfl
theorem sn_empty : SN ⟨#[]⟩ := ⟨by decide, by decide, by decide⟩
theorem may_end {T : List Tk} (hm : MayP T) {s : Ps} (hs : s.next < T.length) (hk : (tok T s).kind = 0) : s.next + 1 = T.length := by
  have h : T[s.next]? = some (tok T s) := by unfold tok tkAt; rw [List.getD_eq_getElem?_getD, List.getElem?_eq_getElem hs]; rfl
  exact ((hm.2 _ _ h).2).1 hk
theorem toks_lx {u : List UInt8} {T : List Tk} (h : toks u = .ok T) : ∃ B, T = B ++ [⟨0, ((0 + u.length : Nat) : Int), ⟨#[]⟩, 0⟩] ∧ LX u (B.map Tk.np) := by
  unfold toks at h
  split at h
  · cases h
  · obtain ⟨B, h1, h2⟩ := lx_of_toks _ _ _ _ _ h
    exact ⟨B, by simpa using h1, h2⟩
theorem lx_toks {u : List UInt8} {b : List Tk} (h : LX u b) (hl : u.length ≤ 16384) : ∃ B, toks u = .ok (B ++ [⟨0, ((0 + u.length : Nat) : Int), ⟨#[]⟩, 0⟩]) ∧ B.map Tk.np = b := by
  have := lx_len h
  obtain ⟨B, h1, h2⟩ := toks_of_lx h (u.length + 1) 0 [] (by omega) (by simp; omega)
  refine ⟨B, ?_, h2⟩
  unfold toks
  rw [if_neg (by omega), h1, List.nil_append]
theorem joined_parse {s t : List UInt8} {l1 l2 : List Nd} (hs : s.length ≤ 3000) (ht : t.length ≤ 3000) (h1 : parseP s = .ok l1) (h2 : parseP t = .ok l2) :
    ∃ l, parseP (s ++ 10 :: t) = .ok l ∧ l.length + 1 = l1.length + l2.length ∧ ∀ (p : 0 < l.length) (p1 : 0 < l1.length) (p2 : 0 < l2.length), l[0].kids.length = l1[0].kids.length + l2[0].kids.length := by
  obtain ⟨T1, t1, s1, hT1, hS1, rfl, hz1⟩ := parse_tree h1
  obtain ⟨T2, t2, s2, hT2, hS2, rfl, hz2⟩ := parse_tree h2
  obtain ⟨B1, hB1, x1⟩ := toks_lx hT1
  obtain ⟨B2, hB2, x2⟩ := toks_lx hT2
  have hm1 := (told_in hT1).2.1
  have hm2 := (told_in hT2).2.1
  have n1 := lx_len x1
  have n2 := lx_len x2
  rw [List.length_map] at n1 n2
  obtain ⟨B, hT, hB⟩ := lx_toks (lx_app x1 x2) (by simp; omega)
  generalize he : (⟨0, ((0 + (s ++ 10 :: t).length : Nat) : Int), ⟨#[]⟩, 0⟩ : Tk) = e0 at hT
  have hen : e0.np = ⟨0, 0, ⟨#[]⟩, 0⟩ := by rw [← he]; rfl
  generalize hTT : B ++ [e0] = T at hT
  have hm := (told_in hT).2.1
  have lB : B.length = B1.length + B2.length := by have := congrArg List.length hB; simpa using this
  have lT : T.length = B1.length + B2.length + 1 := by rw [← hTT]; simp; omega
  have lT1 : T1.length = B1.length + 1 := by rw [hB1]; simp
  have lT2 : T2.length = B2.length + 1 := by rw [hB2]; simp
  have np1 : T.map Tk.np = (B1 ++ (B2 ++ [e0])).map Tk.np := by rw [← hTT]; simp [hB]
  have np2 : (B2 ++ [e0]).map Tk.np = T2.map Tk.np := by rw [hB2, List.map_append, List.map_append, List.map_cons, List.map_cons, hen]; rfl
  have same1 : ∀ i, i < B1.length → (tkAt T1 (0 + i)).kind = (tkAt T (0 + i)).kind ∧ (tkAt T1 (0 + i)).text = (tkAt T (0 + i)).text ∧ (tkAt T1 (0 + i)).num = (tkAt T (0 + i)).num := fun i hi => by
    obtain ⟨a, b, c⟩ := tkAt_np np1 (i := 0 + i)
    rw [a, b, c, hB1]
    simp only [Nat.zero_add]
    rw [tkAt_app_left hi, tkAt_app_left hi]
    exact ⟨rfl, rfl, rfl⟩
  have same2 : ∀ i, (tkAt T2 (0 + i)).kind = (tkAt T (B1.length + i)).kind ∧ (tkAt T2 (0 + i)).text = (tkAt T (B1.length + i)).text ∧ (tkAt T2 (0 + i)).num = (tkAt T (B1.length + i)).num := fun i => by
    obtain ⟨a, b, c⟩ := tkAt_np np1 (i := B1.length + i)
    obtain ⟨a2, b2, c2⟩ := tkAt_np np2 (i := i)
    rw [a, b, c, tkAt_app_right, a2, b2, c2, Nat.zero_add]
    exact ⟨rfl, rfl, rfl⟩
  -- the second's script
  unfold scriptR at hS1 hS2
  obtain ⟨L1, v1, e1, hS1⟩ := Rs.bind_inv hS1
  obtain ⟨rfl, _, _⟩ := mk_inv hS1
  obtain ⟨L2, v2, e2, hS2⟩ := Rs.bind_inv hS2
  obtain ⟨rfl, _, _⟩ := mk_inv hS2
  have hd1 : depthOf T1 ≤ depthOf T := by unfold depthOf; omega
  have hd2 : depthOf T2 ≤ depthOf T := by unfold depthOf; omega
  have up : ∀ (V : List Tk) (d : Nat), d ≤ depthOf T → ∀ n L sv r sr, scriptL V (run V d .statement) n L sv = .ok r sr → scriptL V (run V (depthOf T) .statement) n L sv = .ok r sr := fun V d hd n L sv r sr h => by
    have := le_script (T := V) (f := run V d .statement) (f' := run V (depthOf T) .statement) (fun s => by
      by_cases ho : run V d .statement s = .out
      · exact Or.inl ho
      · exact Or.inr (run_more hd ho)) n L sv
    rcases this with h3 | h3
    · rw [h3] at h; cases h
    · rw [h3, h]
  have e1' := up T1 _ hd1 _ _ _ _ _ e1
  have e2' := up T2 _ hd2 _ _ _ _ _ e2
  have w1 : SN (saidT (tkAt T (0 + B1.length))) := by
    obtain ⟨a, b, _⟩ := same2 0
    have hsd : saidT (tkAt T (0 + B1.length)) = sd T2 ⟨0, 0, 0⟩ := by
      unfold sd saidT tok
      rw [show 0 + B1.length = B1.length + 0 by omega, ← a, ← b]
    rw [hsd]
    unfold scriptL at e2'
    by_cases q : (tok T2 ⟨0, 0, 0⟩).kind = 0
    · rw [sd_empty q hm2 (by show 0 < _; omega)]
      exact sn_empty
    · rw [if_neg q] at e2'
      obtain ⟨x, s3, h3, _⟩ := Rs.bind_inv e2'
      exact no_begin hm2 (by show 0 < _; omega) h3
  have w2 : SN (saidT (tkAt T (B1.length + (B2.length + 1)))) := by
    have : tkAt T (B1.length + (B2.length + 1)) = noTk := by
      unfold tkAt
      rw [List.getD_eq_getElem?_getD, List.getElem?_eq_none (by omega)]
      rfl
    rw [this]
    exact sn_empty
  have W1 : Two T1 T 0 0 B1.length 0 := ⟨same1, by omega, w1⟩
  have W2 : Two T2 T 0 B1.length (B2.length + 1) 0 := ⟨fun i _ => same2 i, by omega, w2⟩
  obtain ⟨p1, p2, L1', u1, k1, q1, q2, q3, q4⟩ := sim_script hm1 W1 (depthOf T) _ [] [] ⟨0, 0, 0⟩ ⟨0, 0, 0⟩ _ _ rfl ⟨⟨0, rfl, rfl⟩, rfl, rfl⟩ (by show 0 < _; omega) (by omega) e1'
  have hv1 := may_end hm1 p1 p2
  obtain ⟨⟨i1, i2, i3⟩, _, lu⟩ := q3
  obtain ⟨r1, r2, L2', u2, k2, m1, m2, m3, m4⟩ := sim_script hm2 W2 (depthOf T) _ [] [] ⟨0, 0, 0⟩ u1 _ _ rfl ⟨⟨0, rfl, by omega⟩, rfl, lu⟩ (by show 0 < _; omega) (by omega) e2'
  have hv2 := may_end hm2 r1 r2
  have hend : (tok T u2).kind = 0 := by rw [(sim_tok W2 m3 (by omega)).1, r2]
  have hz : (⟨0, 0, 0⟩ : Ps).next = 0 := rfl
  have hall : scriptL T (run T (depthOf T) .statement) (T.length + 1) [] ⟨0, 0, 0⟩ = .ok (L1' ++ L2') u2 := by
    obtain ⟨g, hg⟩ : ∃ g, T.length + 1 = k1 + (k2 + (g + 1)) := ⟨T.length - k1 - k2, by omega⟩
    rw [hg, q4]
    have := scriptL_pre (T := T) (run T (depthOf T) .statement) L1' (k2 + (g + 1)) [] u1
    rw [List.append_nil] at this
    rw [this, m4]
    unfold scriptL
    rw [if_pos hend]
    rfl
  have hscript : scriptR T (depthOf T) ⟨0, 0, 0⟩ = .ok (.mk 1 (here T ⟨0, 0, 0⟩) ⟨#[]⟩ 0 (L1' ++ L2')) { u2 with parts := w64 (u2.parts + 1) } := by
    unfold scriptR
    rw [hall]
    rfl
  have hsz := size_tree hm (by omega) hscript
  have hS : treeP T = .ok (flatT 0 (.mk 1 (here T ⟨0, 0, 0⟩) ⟨#[]⟩ 0 (L1' ++ L2'))) := by
    unfold treeP
    rw [hscript]
    exact if_neg (by omega)
  have z1 := sizes_of_nps q2
  have z2 := sizes_of_nps m2
  refine ⟨flatT 0 (.mk 1 (here T ⟨0, 0, 0⟩) ⟨#[]⟩ 0 (L1' ++ L2')), ?_, ?_, fun p p1 p2 => ?_⟩
  · unfold parseP
    rw [hT]
    exact hS
  · rw [flatT_len, flatT_len, flatT_len, size_mk, size_mk, size_mk, sizes_append, z1, z2]
    omega
  · show (starts (0 + 1) (L1' ++ L2')).length = (starts (0 + 1) L1).length + (starts (0 + 1) L2).length
    rw [starts_len, starts_len, starts_len, List.length_append, nps_len q2, nps_len m2]
end Go.Proofs.YtjapainhlfedgaaGreatDoor.S
/-
  The tokens of "x = " and of "x = (" with any text behind. Plain mathematics.
-/
namespace Go.Proofs.YtjapainhlfedgaaGreatDoor.S
open Go.RowKit Fl

theorem lx_fun {l : List UInt8} {b : List Tk} (h : LX l b) : ∀ {c : List Tk}, LX l c → b = c := by
  induction h with
  | @nil l h =>
    intro c k
    cases k with
    | nil => rfl
    | cons hp hlt _ _ => rw [h] at hp; injection hp with e _; omega
  | @cons l p kd t n wd b hp hlt hk hr ih =>
    intro c k
    cases k with
    | nil h => rw [hp] at h; injection h with e _; omega
    | cons hp2 hlt2 hk2 hr2 =>
      rw [hp] at hp2
      injection hp2 with e _
      subst e
      rw [hk] at hk2
      injection hk2 with e1 e2 e3 e4
      subst e1 e2 e3 e4
      rw [ih hr2]
theorem lx_skip {l : List UInt8} {b : List Tk} (h : LX (32 :: l) b) : LX l b := by
  have e : passM 0 0 0 (32 :: l) = ((passM 0 0 0 l).1 + 1, (passM 0 0 0 l).2) := by
    rw [passM_0, if_pos (by decide)]
    exact passM_at l 0 1
  generalize hL : 32 :: l = L at h e
  cases h with
  | nil h =>
    rw [h, ← hL] at e
    injection e with e1 e2
    exact .nil (Prod.ext (by simp at e1 ⊢; omega) e2.symm)
  | @cons _ p k t n wd b hp hlt hk hr =>
    rw [hp] at e
    injection e with e1 e2
    subst e1
    rw [← hL] at hk hr hlt
    have d1 : (32 :: l).drop ((passM 0 0 0 l).1 + 1) = l.drop (passM 0 0 0 l).1 := rfl
    have d2 : (32 :: l).drop ((passM 0 0 0 l).1 + 1 + wd) = l.drop ((passM 0 0 0 l).1 + wd) := by
      rw [show (passM 0 0 0 l).1 + 1 + wd = ((passM 0 0 0 l).1 + wd) + 1 by omega]; rfl
    rw [d1] at hk
    rw [d2] at hr
    exact .cons (Prod.ext rfl e2.symm) (by simp at hlt; omega) hk hr
theorem lx_lone {c : UInt8} {r : List UInt8} {k n : Nat} {t : ByteArray} {b : List Tk} (h1 : passM 0 0 0 (c :: r) = (0, true)) (h2 : pieceL (c :: r) = .tok k t n 1) (h : LX (c :: r) b) : ∃ b0, b = ⟨k, 0, t, n⟩ :: b0 ∧ LX r b0 := by
  generalize hL : c :: r = L at h h1 h2
  cases h with
  | nil h => rw [h1, ← hL] at h; injection h with e _; simp at e
  | @cons _ p k' t' n' wd b hp hlt hk hr =>
    rw [h1] at hp
    injection hp with e _
    subst e
    rw [List.drop_zero, h2] at hk
    injection hk with e1 e2 e3 e4
    subst e1 e2 e3 e4
    rw [← hL] at hr
    exact ⟨b, rfl, hr⟩
theorem lx_x {r : List UInt8} {b : List Tk} (h : LX (120 :: 32 :: 61 :: 32 :: r) b) : ∃ b0, b = ⟨1, 0, (⟨#[120]⟩ : ByteArray), 0⟩ :: ⟨5, 0, (⟨#[61]⟩ : ByteArray), 0⟩ :: b0 ∧ LX r b0 := by
  have p1 : pieceL (120 :: 32 :: 61 :: 32 :: r) = .tok 1 (⟨#[120]⟩ : ByteArray) 0 1 := by
    have hrun : runL innB (120 :: 32 :: 61 :: 32 :: r) = 1 := by
      unfold runL
      rw [List.takeWhile_cons, if_pos (by decide), List.takeWhile_cons, if_neg (by decide)]
      rfl
    rw [pieceL_cons, if_pos (by decide)]
    unfold nameL
    rw [hrun, if_neg (by decide)]
    rfl
  have long : ∀ l, signB (61 :: 32 :: l) = false := fun l => by
    cases hs : signB (61 :: 32 :: l) with
    | false => rfl
    | true =>
      unfold signB at hs
      have h2 : signsL.all (fun s => s.take 2 != [61, 32]) = true := by decide
      have := List.all_eq_true.1 h2 _ (List.contains_iff_mem.1 hs)
      simp at this
  have p2 : pieceL (61 :: 32 :: r) = .tok 5 (⟨#[61]⟩ : ByteArray) 0 1 := by
    have hn : signN (61 :: 32 :: r) = 1 := by
      unfold signN
      match r with
      | [] => rw [if_neg (by simp), if_neg (by simp [long]), if_pos ⟨by simp, by show signB [61] = true; decide⟩]
      | x :: r => rw [if_neg (by simp [long]), if_neg (by simp [long]), if_pos ⟨by simp, by show signB [61] = true; decide⟩]
    rw [pieceL_cons, if_neg (by decide), if_neg (by decide), if_neg (by decide)]
    unfold signL
    rw [hn, if_neg (by decide)]
    rfl
  obtain ⟨b1, rfl, h1⟩ := lx_lone (by rw [passM_0]; rfl) p1 h
  obtain ⟨b2, rfl, h2⟩ := lx_lone (by rw [passM_0]; rfl) p2 (lx_skip h1)
  exact ⟨b2, rfl, lx_skip h2⟩
theorem lx_sign {c : UInt8} (hc : loneB c = true) {r : List UInt8} {b : List Tk} (h : LX (c :: r) b) : ∃ b0, b = ⟨5, 0, mkB [c], 0⟩ :: b0 ∧ LX r b0 :=
  lx_lone ((lone_piece hc r).2 0) (lone_piece hc r).1 h
theorem lx_none {b : List Tk} (h : LX [] b) : b = [] := lx_fun h (.nil rfl)
/-- the tokens of the first text, of the second -/
theorem brack_toks {s : List UInt8} {T1 T2 : List Tk} (h1 : toks ([120, 32, 61, 32] ++ s ++ [10, 59]) = .ok T1) (h2 : toks ([120, 32, 61, 32, 40] ++ s ++ [10, 41, 59]) = .ok T2) :
    ∃ b : List Tk, T1.map Tk.np = [⟨1, 0, (⟨#[120]⟩ : ByteArray), 0⟩, ⟨5, 0, (⟨#[61]⟩ : ByteArray), 0⟩] ++ b ++ [⟨5, 0, (⟨#[59]⟩ : ByteArray), 0⟩, ⟨0, 0, ⟨#[]⟩, 0⟩] ∧ T2.map Tk.np = [⟨1, 0, (⟨#[120]⟩ : ByteArray), 0⟩, ⟨5, 0, (⟨#[61]⟩ : ByteArray), 0⟩, ⟨5, 0, (⟨#[40]⟩ : ByteArray), 0⟩] ++ b ++ [⟨5, 0, (⟨#[41]⟩ : ByteArray), 0⟩, ⟨5, 0, (⟨#[59]⟩ : ByteArray), 0⟩, ⟨0, 0, ⟨#[]⟩, 0⟩] := by
  obtain ⟨B1, hB1, x1⟩ := toks_lx h1
  obtain ⟨B2, hB2, x2⟩ := toks_lx h2
  have e1 : [120, 32, 61, 32] ++ s ++ [10, 59] = (120 :: 32 :: 61 :: 32 :: s) ++ 10 :: [59] := by simp
  have e2 : [120, 32, 61, 32, 40] ++ s ++ [10, 41, 59] = (120 :: 32 :: 61 :: 32 :: 40 :: s) ++ 10 :: [41, 59] := by simp
  rw [e1] at x1
  rw [e2] at x2
  obtain ⟨b1, c1, l1, m1, f1⟩ := lx_split (by decide) _ _ _ (Nat.le_refl _) x1
  obtain ⟨b2, c2, l2, m2, f2⟩ := lx_split (by decide) _ _ _ (Nat.le_refl _) x2
  obtain ⟨a1, rfl, n1⟩ := lx_x l1
  obtain ⟨a2, rfl, n2⟩ := lx_x l2
  obtain ⟨a3, rfl, n3⟩ := lx_sign (by decide) n2
  have : a1 = a3 := lx_fun n1 n3
  subst this
  obtain ⟨r1, rfl, k1⟩ := lx_sign (by decide) m1
  obtain ⟨r2, rfl, k2⟩ := lx_sign (by decide) m2
  obtain ⟨r3, rfl, k3⟩ := lx_sign (by decide) k2
  have := lx_none k1
  subst this
  have := lx_none k3
  subst this
  refine ⟨a1, ?_, ?_⟩
  · rw [hB1, List.map_append, f1]; simp; exact ⟨rfl, rfl⟩
  · rw [hB2, List.map_append, f2]; simp; exact ⟨rfl, rfl, rfl, rfl⟩
end Go.Proofs.YtjapainhlfedgaaGreatDoor.S
/-
  Brackets about a value change nothing but places. Plain mathematics.
-/
namespace Go.Proofs.YtjapainhlfedgaaGreatDoor.S
open Go.RowKit Fl

/-- a value that begins with no operator: what it begins with, and, if nothing goes on with it, what it is -/
theorem assigned_down {T : List Tk} {n : Nat} {s s1 : Ps} {t : Tr} {c : ByteArray} (hsd : sd T s = c) (h1 : leadsB c = false) (h2 : (c == (⟨#[110, 101, 119]⟩ : ByteArray)) = false) (h : run T n .assigned s = .ok t s1) :
    ∃ m x s2, run T m .primary s = .ok x s2 ∧ (levelOf (sd T s2) = 0 → (sd T s2 == (⟨#[46]⟩ : ByteArray)) = false → (sd T s2 == (⟨#[91]⟩ : ByteArray)) = false → (sd T s2 == (⟨#[40]⟩ : ByteArray)) = false → (sd T s2 == (⟨#[63]⟩ : ByteArray)) = false →
      ∃ k, (if putsB (sd T s2) then (if targetB x.kind then (take1 T (sd T s2) s2).bind fun _ s3 => (run T k .assign s3).bind fun y s4 => mkP 43 (here T s) (sd T s2) 0 [x, y] s4 else .bad (here T s2) 5) else .ok x s2) = .ok t s1) := by
  cases n with
  | zero => cases h
  | succ n =>
    have h : step T (run T n) .assigned s = .ok t s1 := h
    dsimp only [step] at h
    obtain ⟨a1, v1, h, k1⟩ := Rs.bind_inv h
    generalize hn0 : n = n0 at k1
    cases n with
    | zero => cases h
    | succ n =>
      have h : step T (run T n) .cond s = .ok a1 v1 := h
      dsimp only [step] at h
      obtain ⟨a2, v2, h, k2⟩ := Rs.bind_inv h
      cases n with
      | zero => cases h
      | succ n =>
        have h : step T (run T n) (.sides 1) s = .ok a2 v2 := h
        dsimp only [step] at h
        obtain ⟨a3, v3, h, k3⟩ := Rs.bind_inv h
        cases n with
        | zero => cases h
        | succ n =>
          have h : step T (run T n) .unary s = .ok a3 v3 := h
          dsimp only [step] at h
          rw [hsd, if_neg (by rw [h1]; decide)] at h
          cases n with
          | zero => cases h
          | succ n =>
            have h : step T (run T n) (.chain true) s = .ok a3 v3 := h
            dsimp only [step] at h
            obtain ⟨a4, v4, h, k4⟩ := Rs.bind_inv h
            cases n with
            | zero => cases h
            | succ n =>
              have h : step T (run T n) .head s = .ok a4 v4 := h
              dsimp only [step] at h
              rw [hsd, if_neg (by rw [h2]; decide)] at h
              refine ⟨_, a4, v4, h, fun g0 g1 g2 g3 g4 => ⟨n0, ?_⟩⟩
              unfold chainL at k4
              rw [if_neg (by rw [g1]; decide), if_neg (by rw [g2]; decide), if_neg (by rw [g3]; decide)] at k4
              obtain ⟨rfl, rfl⟩ := Rs.ok_inj k4
              unfold sidesL at k3
              rw [if_pos (by rw [g0]; decide)] at k3
              obtain ⟨rfl, rfl⟩ := Rs.ok_inj k3
              rw [if_neg (by rw [g4]; decide)] at k2
              obtain ⟨rfl, rfl⟩ := Rs.ok_inj k2
              exact k1
/-- the value at x = .. ; -/
theorem stmt_x {T : List Tk} {n : Nat} {s s1 : Ps} {t : Tr} (hn : s.next = 0) (hl : s.level = 0) (c0 : (tkAt T 0).kind = 1) (c1 : (tkAt T 0).text = (⟨#[120]⟩ : ByteArray)) (c2 : saidT (tkAt T 1) = (⟨#[61]⟩ : ByteArray)) (h : run T n .statement s = .ok t s1) :
    ∃ m y sa sb p q r, run T m .assign sa = .ok y sb ∧ sa.next = 2 ∧ sa.level = 2 ∧ (sd T sb == (⟨#[59]⟩ : ByteArray)) = true ∧ s1.next = sb.next + 1 ∧ t = .mk 6 p ⟨#[]⟩ 0 [.mk 43 q (⟨#[61]⟩ : ByteArray) 0 [.mk 26 r (⟨#[120]⟩ : ByteArray) 0 [], y]] := by
  have sx : ∀ s : Ps, s.next = 0 → sd T s = (⟨#[120]⟩ : ByteArray) := fun s hs => by
    unfold sd saidT tok
    rw [hs, c0, c1]
    rfl
  cases n with
  | zero => cases h
  | succ n =>
    replace h : step T (run T n) .statement s = .ok t s1 := h
    dsimp only [step] at h
    obtain ⟨_, u1, hh, e0⟩ := deeper_inv h
    replace h := hh
    clear hh
    subst e0
    rw [hl] at h
    have e1 : w64 (0 + 1) = 1 := w64_mid (by omega) (by omega)
    rw [e1] at h
    generalize hv : ({ s with level := 1 } : Ps) = v at h
    have vn : v.next = 0 := by rw [← hv]; exact hn
    have vl : v.level = 1 := by rw [← hv]
    cases n with
    | zero => cases h
    | succ n =>
      replace h : step T (run T n) .stated v = .ok t u1 := h
      dsimp only [step] at h
      rw [sx v vn] at h
      rw [if_neg (by decide), if_neg (by decide), if_neg (by decide), if_neg (by decide), if_neg (by decide), if_neg (by decide), if_neg (by decide), if_neg (by decide), if_neg (by decide), if_neg (by decide), if_neg (by decide), if_neg (by decide)] at h
      obtain ⟨a, u2, hh, k⟩ := Rs.bind_inv h
      replace h := hh
      clear hh
      obtain ⟨rfl, z1, z2⟩ := mk_inv k
      cases n with
      | zero => cases h
      | succ n =>
        replace h : step T (run T n) .ended v = .ok a u2 := h
        dsimp only [step] at h
        obtain ⟨a, u3, hh, k⟩ := Rs.bind_inv h
        replace h := hh
        clear hh
        obtain ⟨_, u4, k, k'⟩ := Rs.bind_inv k
        obtain ⟨rfl, rfl⟩ := Rs.ok_inj k'
        obtain ⟨k5, rfl⟩ := take1_inv k
        cases n with
        | zero => cases h
        | succ n =>
          replace h : step T (run T n) .assign v = .ok a u3 := h
          dsimp only [step] at h
          obtain ⟨_, u5, hh, e0⟩ := deeper_inv h
          replace h := hh
          clear hh
          subst e0
          rw [vl] at h
          have e2 : w64 (1 + 1) = 2 := w64_mid (by omega) (by omega)
          rw [e2] at h
          generalize hv2 : ({ v with level := 2 } : Ps) = v2 at h
          have vn2 : v2.next = 0 := by rw [← hv2]; exact vn
          have vl2 : v2.level = 2 := by rw [← hv2]
          obtain ⟨m, x, u6, hp, hd⟩ := assigned_down (sx v2 vn2) (by decide) (by decide) h
          cases m with
          | zero => cases hp
          | succ m =>
            replace hp : step T (run T m) .primary v2 = .ok x u6 := hp
            dsimp only [step] at hp
            have tk : tok T v2 = tkAt T 0 := by unfold tok; rw [vn2]
            rw [tk, c0, c1, if_neg (by decide), if_neg (by decide), if_pos rfl] at hp
            obtain ⟨rfl, z3, z4⟩ := mk_inv hp
            have n6 : u6.next = 1 := by rw [z3]; show v2.next + 1 = 1; omega
            have l6 : u6.level = 2 := by rw [z4]; exact vl2
            have s6 : sd T u6 = (⟨#[61]⟩ : ByteArray) := by unfold sd tok; rw [n6]; exact c2
            rw [s6] at hd
            obtain ⟨k7, hd⟩ := hd (by decide) (by decide) (by decide) (by decide) (by decide)
            rw [if_pos (by decide), if_pos (show targetB (Tr.kind (.mk 26 (here T v2) (⟨#[120]⟩ : ByteArray) 0 [])) = true from by show targetB 26 = true; decide)] at hd
            obtain ⟨_, u7, hd1, hd⟩ := Rs.bind_inv hd
            obtain ⟨_, rfl⟩ := take1_inv hd1
            obtain ⟨y, u8, hd2, hd⟩ := Rs.bind_inv hd
            obtain ⟨rfl, z5, z6⟩ := mk_inv hd
            refine ⟨k7, y, u6.on, u8, _, _, _, hd2, by show u6.next + 1 = 2; omega, l6, ?_, ?_, rfl⟩
            · have : sd T ({ u5 with level := w64 (u5.level - 1) } : Ps) = sd T u8 := by unfold sd tok; rw [← z5]
              rw [this] at k5
              exact k5
            · show u1.next = u8.next + 1
              rw [z1]
              show u5.next + 1 = _
              rw [z5]
/-- the value in ( ) -/
theorem assign_brack {T : List Tk} {n : Nat} {s s1 : Ps} {t : Tr} (hl : s.level = 2) (c0 : (tok T s).kind = 5) (c1 : (tok T s).text = (⟨#[40]⟩ : ByteArray)) (h : run T n .assign s = .ok t s1) :
    ∃ m y sa sb, run T m .assign sa = .ok y sb ∧ sa.next = s.next + 1 ∧ sa.level = 3 ∧ (sd T sb == (⟨#[41]⟩ : ByteArray)) = true ∧ ((sd T sb.on == (⟨#[59]⟩ : ByteArray)) = true → t = y ∧ s1.next = sb.next + 1) := by
  cases n with
  | zero => cases h
  | succ n =>
    replace h : step T (run T n) .assign s = .ok t s1 := h
    dsimp only [step] at h
    obtain ⟨_, u1, hh, e0⟩ := deeper_inv h
    replace h := hh
    clear hh
    subst e0
    rw [hl] at h
    have e1 : w64 (2 + 1) = 3 := w64_mid (by omega) (by omega)
    rw [e1] at h
    generalize hv : ({ s with level := 3 } : Ps) = v at h
    have vn : v.next = s.next := by rw [← hv]
    have vl : v.level = 3 := by rw [← hv]
    have tk : tok T v = tok T s := by unfold tok; rw [vn]
    have sv : sd T v = (⟨#[40]⟩ : ByteArray) := by
      unfold sd saidT
      rw [tk, c0, c1]
      rfl
    obtain ⟨m, x, u6, hp, hd⟩ := assigned_down sv (by decide) (by decide) h
    cases m with
    | zero => cases hp
    | succ m =>
      replace hp : step T (run T m) .primary v = .ok x u6 := hp
      dsimp only [step] at hp
      rw [tk, c0, c1, if_neg (by decide), if_neg (by decide), if_neg (by decide), if_neg (by decide), if_neg (by decide), if_neg (by decide), if_neg (by decide), if_pos (by decide)] at hp
      cases m with
      | zero => cases hp
      | succ m =>
        replace hp : step T (run T m) .test v = .ok x u6 := hp
        dsimp only [step] at hp
        obtain ⟨_, u2, k1, hp2⟩ := Rs.bind_inv hp
        replace hp := hp2
        clear hp2
        obtain ⟨_, rfl⟩ := take1_inv k1
        obtain ⟨y, u3, k2, hp2⟩ := Rs.bind_inv hp
        replace hp := hp2
        clear hp2
        obtain ⟨_, u4, k3, hp2⟩ := Rs.bind_inv hp
        replace hp := hp2
        clear hp2
        obtain ⟨k4, rfl⟩ := take1_inv k3
        obtain ⟨ex, eu⟩ := Rs.ok_inj hp
        subst ex eu
        refine ⟨m, x, v.on, u3, k2, by show v.next + 1 = _; omega, vl, k4, fun hs => ?_⟩
        have hs2 : sd T u3.on = (⟨#[59]⟩ : ByteArray) := str_beq hs
        rw [hs2] at hd
        obtain ⟨k, hd⟩ := hd (by decide) (by decide) (by decide) (by decide) (by decide)
        rw [if_neg (by decide)] at hd
        obtain ⟨rfl, rfl⟩ := Rs.ok_inj hd
        exact ⟨rfl, rfl⟩
theorem run_same {T : List Tk} {n m : Nat} {M : Mth} {s s1 s2 : Ps} {t u : Tr} (h1 : run T n M s = .ok t s1) (h2 : run T m M s = .ok u s2) : t = u ∧ s1 = s2 := by
  have a := run_more (T := T) (Nat.le_max_left n m) (m := M) (s := s) (by rw [h1]; intro h; cases h)
  have b := run_more (T := T) (Nat.le_max_right n m) (m := M) (s := s) (by rw [h2]; intro h; cases h)
  rw [h1] at a
  rw [h2, a] at b
  injection b with b1 b2
  exact ⟨b1, b2⟩
theorem script_one {T : List Tk} {n f : Nat} {L : List Tr} {s : Ps} (h : scriptL T (run T n .statement) (f + 2) [] ⟨0, 0, 0⟩ = .ok L s) (h0 : (tkAt T 0).kind ≠ 0) (he : ∀ t s1, run T n .statement ⟨0, 0, 0⟩ = .ok t s1 → (tok T s1).kind = 0) :
    ∃ t s1, run T n .statement ⟨0, 0, 0⟩ = .ok t s1 ∧ L = [t] := by
  unfold scriptL at h
  have ht : tok T ⟨0, 0, 0⟩ = tkAt T 0 := rfl
  rw [ht, if_neg h0] at h
  obtain ⟨t, s1, h1, h⟩ := Rs.bind_inv h
  unfold scriptL at h
  rw [if_pos (he t s1 h1)] at h
  obtain ⟨rfl, _⟩ := Rs.ok_inj h
  exact ⟨t, s1, h1, rfl⟩
end Go.Proofs.YtjapainhlfedgaaGreatDoor.S
/-
  Same, of nodes that differ by their places alone. (What the laws of parse use.)
-/
namespace Go.Proofs.YtjapainhlfedgaaGreatDoor.S
open Go.RowKit Fl

theorem isnan_yes (x : Nat) (w : World) (hn : IsNaN x) : Calls Tryz.prog 39 #[.float .f64 x] w fun e w' => e = .returned (.bool true) ∧ w = w' := by
  have h1 : FloatKind.f64.format.order x x = none := order_nan_l x hn
  go_enter Tryz.func39, Tryz.ntmps39
  go_wp2_with (fail)
  go_ret
  exact ⟨rfl, rfl⟩
set_option maxHeartbeats 4000000 in
set_option maxRecDepth 100000 in
theorem equal_ints (l : List Nat) (A B : Option Addr) (ca cb : Nat) (ok : Nat → Prop) (w : World) (hA : RowV w ok A (intsV l)) (hB : RowV w ok B (intsV l)) (hl : l.length ≤ 100000) :
    Calls Tryz.prog 40 #[.slice A l.length ca, .slice B l.length cb] w fun e w' => e = .returned (.bool true) ∧ Below w.heap.size w w' := by
  have hle : ((l.length : Int) != (l.length : Int)) = false := by simp
  have HA := Lib.hid hA
  have HB := Lib.hid hB
  clear hA hB
  go_enter Tryz.func40, Tryz.ntmps40
  go_wp2_with (fail)
  go_loopw [13] (fun i wr => ∃ k : Nat, i = .int .i64 (k : Int) ∧ k ≤ l.length ∧ Hid (Below w.heap.size w wr)) (fun i _ => l.length - (intOf i).toNat)
  case atStart => exact ⟨0, rfl, Nat.zero_le _, Lib.hid (Below.refl _ _)⟩
  case round =>
    obtain ⟨k, rfl, hkl, H⟩ := hrel
    by_cases hlt : (k : Int) < (l.length : Int)
    · have hk1 : k < l.length := by omega
      have hz : 0 < (intsV l).length := by simp [intsV]; omega
      obtain ⟨a, rfl, _, hal, hac⟩ := HA.out hz
      obtain ⟨b, rfl, _, hbl, hbc⟩ := HB.out hz
      have hv : (intsV l)[k]? = some (.int .i64 (l[k] : Int)) := by simp [intsV, hk1]
      have ra : wr.cell? ⟨a, k, none⟩ = some (.int .i64 (l[k] : Int)) := (World.cell?_of_block (a := ⟨a, k, none⟩) (H.out.block a hal)).trans (hac k _ hv)
      have rb : wr.cell? ⟨b, k, none⟩ = some (.int .i64 (l[k] : Int)) := (World.cell?_of_block (a := ⟨b, k, none⟩) (H.out.block b hbl)).trans (hbc k _ hv)
      have hi0 : (0 : Int) ≤ (k : Int) := by omega
      have hqb : ((l[k] : Int) != (l[k] : Int)) = false := by simp
      clear hac hbc hv
      go_wp2_with (fail)
      go_quiet (fail)
      go_wp2_with (fail)
      refine ⟨⟨k + 1, rfl, hk1, Lib.hid (below_drewN H.out nq)⟩, by simp [intOf]; omega⟩
    · go_wp2_with (fail)
      go_ret
      exact ⟨rfl, H.out⟩
theorem below_two {w : World} (o1 o2 : Obj) : Below w.heap.size w ((w.alloc o1).alloc o2) := ((Below.refl _ _).alloc (Nat.le_refl _) _).alloc (by simp) _
theorem rowv_two {w : World} {o1 o2 : Obj} {A : Option Addr} {vs : List Value} (h : RowV w (fun _ => True) A vs) : RowV ((w.alloc o1).alloc o2) (fun _ => True) A vs := rowv_up h (below_two _ _).size fun k _ hk => ⟨trivial, (below_two _ _).block k hk⟩
set_option maxHeartbeats 4000000 in
set_option maxRecDepth 100000 in
theorem alike_any (c : Nd) (p q : Int) (A B : Option Addr) (ca cb : Nat) (ok : Nat → Prop) (w : World) (hA : RowV w ok A (intsV c.kids)) (hB : RowV w ok B (intsV c.kids)) (hl : c.kids.length ≤ 100000) :
    Calls Tryz.prog 24 #[.agg #[.int .u8 (c.kind : Int), .int .i64 p, .string c.text, .float .f64 c.num, .slice A c.kids.length ca], .agg #[.int .u8 (c.kind : Int), .int .i64 q, .string c.text, .float .f64 c.num, .slice B c.kids.length cb]] w fun e w' => e = .returned (.bool true) ∧ Below w.heap.size w w' := by
  have up : ∀ W, Below w.heap.size w W → ∀ {D}, RowV w ok D (intsV c.kids) → RowV W (fun _ => True) D (intsV c.kids) := fun W hW D h => rowv_up h hW.size fun k _ hk => ⟨trivial, hW.block k hk⟩
  have HA := Lib.hid hA
  have HB := Lib.hid hB
  clear hA hB
  by_cases hn : IsNaN c.num
  · have h1 : FloatKind.f64.format.order c.num c.num = none := order_nan_l c.num hn
    go_enter Tryz.func24, Tryz.ntmps24
    go_wp2_with (first | (go_at_call 39; refine (isnan_yes _ _ hn).mono ?_; rintro e w1 ⟨rfl, rfl⟩) | (go_at_call 40; go_loud (refine (equal_ints c.kids A B ca cb (fun _ => True) _ (up _ (below_two _ _) HA.out) (up _ (below_two _ _) HB.out) hl).mono ?_; rintro e w2 ⟨rfl, b2⟩)))
    go_ret
    exact ⟨rfl, below_up (below_two _ _) b2⟩
  · have h1 : FloatKind.f64.format.order c.num c.num = some .eq := order_self hn
    go_enter Tryz.func24, Tryz.ntmps24
    go_wp2_with (first | (go_at_call 40; go_loud (refine (equal_ints c.kids A B ca cb (fun _ => True) _ (up _ (below_two _ _) HA.out) (up _ (below_two _ _) HB.out) hl).mono ?_; rintro e w2 ⟨rfl, b2⟩)))
    go_ret
    exact ⟨rfl, below_up (below_two _ _) b2⟩
/-- a tree's nodes stand in a block: cell by cell -/
def Cs5 (w : World) (g : Nat) (l : List Nd) : Prop := g < w.heap.size ∧ ∀ i (hi : i < l.length),
    w.cell? ⟨g, i * 5, none⟩ = some (.int .u8 (l[i].kind : Int)) ∧ w.cell? ⟨g, i * 5 + 1, none⟩ = some (.int .i64 l[i].p) ∧ w.cell? ⟨g, i * 5 + 2, none⟩ = some (.string l[i].text) ∧ w.cell? ⟨g, i * 5 + 3, none⟩ = some (.float .f64 l[i].num) ∧
      ∃ K ck, w.cell? ⟨g, i * 5 + 4, none⟩ = some (.slice K l[i].kids.length ck) ∧ RowV w (fun _ => True) K (intsV l[i].kids)
theorem cs5_up {w w' : World} {g : Nat} {l : List Nd} (h : Cs5 w g l) (hb : Below w.heap.size w w') : Cs5 w' g l := by
  obtain ⟨hg, h⟩ := h
  refine ⟨Nat.lt_of_lt_of_le hg hb.size, fun i hi => ?_⟩
  have cell : ∀ j v, w.cell? ⟨g, j, none⟩ = some v → w'.cell? ⟨g, j, none⟩ = some v := fun j v hv => (World.cell?_of_block (a := ⟨g, j, none⟩) (hb.block g hg)).trans hv
  obtain ⟨a0, a1, a2, a3, K, ck, a4, a5⟩ := h i hi
  exact ⟨cell _ _ a0, cell _ _ a1, cell _ _ a2, cell _ _ a3, K, ck, cell _ _ a4, rowv_up a5 hb.size fun k _ hk => ⟨trivial, hb.block k hk⟩⟩
theorem cs5_of {n0 : Nat} {l : List Nd} {A : Option Addr} {cap : Nat} {w : World} (h : TreeAt n0 l (.agg #[.slice A l.length cap]) w) (hl : 0 < l.length) : ∃ g, A = some ⟨g, 0, none⟩ ∧ Cs5 w g l := by
  obtain ⟨g, h1, _, h2, h3⟩ := tree_cells h hl
  refine ⟨g, h1, h2, fun i hi => ?_⟩
  obtain ⟨a0, a1, a2, a3, K, ck, a4, a5⟩ := h3 i hi
  exact ⟨a0, a1, a2, a3, K, ck, a4, rowv_up a5 (Nat.le_refl _) fun k _ _ => ⟨trivial, rfl⟩⟩
/-- nodes that differ by their places alone -/
def NpN (c d : Nd) : Prop := c.kind = d.kind ∧ c.text = d.text ∧ c.num = d.num ∧ c.kids = d.kids
set_option maxHeartbeats 4000000 in
set_option maxRecDepth 100000 in
theorem nodes_any (l m : List Nd) (g h ca cb : Nat) (w : World) (hg : Cs5 w g l) (hh : Cs5 w h m) (hl : l.length ≤ 100000) (hlm : m.length = l.length) (hk : ∀ i (h1 : i < l.length) (h2 : i < m.length), NpN l[i] m[i] ∧ l[i].kids.length ≤ 100000) :
    Calls Tryz.prog 23 #[.slice (some ⟨g, 0, none⟩) l.length ca, .slice (some ⟨h, 0, none⟩) l.length cb, .func (.func 24) #[] #[]] w fun e w' => e = .returned (.bool true) ∧ Below w.heap.size w w' := by
  have hle : ((l.length : Int) != (l.length : Int)) = false := by simp
  have HG := Lib.hid hg
  have HH := Lib.hid hh
  have HM := Lib.hid hlm
  have HK := Lib.hid hk
  clear hg hh hlm hk
  have hst := store_f
  go_enter Tryz.func23, Tryz.ntmps23
  go_wp2_with (fail)
  go_loopw [17] (fun i wr => ∃ k : Nat, i = .int .i64 (k : Int) ∧ k ≤ l.length ∧ Hid (Below w.heap.size w wr)) (fun i _ => l.length - (intOf i).toNat)
  case atStart => exact ⟨0, rfl, Nat.zero_le _, Lib.hid (Below.refl _ _)⟩
  case round =>
    obtain ⟨k, rfl, hkl, H⟩ := hrel
    by_cases hlt : (k : Int) < (l.length : Int)
    · have hk1 : k < l.length := by omega
      have hk2 : k < m.length := by have := HM.out; omega
      obtain ⟨hgl, a0, a1, a2, a3, K, ck, a4, a5⟩ : g < wr.heap.size ∧ _ := ⟨(cs5_up HG.out H.out).1, (cs5_up HG.out H.out).2 k hk1⟩
      obtain ⟨hhl, b0, b1, b2, b3, K2, ck2, b4, b5⟩ : h < wr.heap.size ∧ _ := ⟨(cs5_up HH.out H.out).1, (cs5_up HH.out H.out).2 k hk2⟩
      obtain ⟨⟨n1, n2, n3, n4⟩, n5⟩ := HK.out k hk1 hk2
      rw [← n1] at b0
      rw [← n2] at b2
      rw [← n3] at b3
      rw [← n4] at b4 b5
      clear n1 n2 n3 n4
      generalize m[k].p = q at *
      generalize l[k] = c at *
      have A5 := Lib.hid a5
      have B5 := Lib.hid b5
      clear a5 b5
      have hi0 : (0 : Int) ≤ (k : Int) := by omega
      have kk := fun W h1 h2 => alike_any c c.p q K K2 ck ck2 (fun _ => True) W h1 h2 n5
      go_wp2_with (fail)
      refine (kk _ (rowv_two A5.out) (rowv_two B5.out)).mono ?_
      rintro e w2 ⟨rfl, b2'⟩
      dsimp only
      go_wp2_with (fail)
      refine ⟨⟨k + 1, rfl, hk1, Lib.hid (below_up H.out (below_up (below_two _ _) b2'))⟩, by simp [intOf]; omega⟩
    · go_wp2_with (fail)
      go_ret
      exact ⟨rfl, H.out⟩
theorem same_any (l m : List Nd) (g h ca cb : Nat) (w : World) (hg : Cs5 w g l) (hh : Cs5 w h m) (hl : l.length ≤ 100000) (hlm : m.length = l.length) (hk : ∀ i (h1 : i < l.length) (h2 : i < m.length), NpN l[i] m[i] ∧ l[i].kids.length ≤ 100000) :
    Calls Tryz.prog 18 #[.agg #[.slice (some ⟨g, 0, none⟩) l.length ca], .agg #[.slice (some ⟨h, 0, none⟩) l.length cb]] w fun e w' => e = .returned (.bool true) ∧ Below w.heap.size w w' := by
  have hb : ∀ o1 o2, Below w.heap.size w ((w.alloc o1).alloc o2) := fun o1 o2 => below_two o1 o2
  go_enter Tryz.func18, Tryz.ntmps18
  go_wp2_with (go_at_call 23; refine (nodes_any l m g h ca cb _ (cs5_up hg (hb _ _)) (cs5_up hh (hb _ _)) hl hlm hk).mono ?_; rintro e w2 ⟨rfl, b2⟩)
  go_ret
  exact ⟨rfl, below_up (hb _ _) b2⟩
end Go.Proofs.YtjapainhlfedgaaGreatDoor.S
/-
  What "x = s ;" and "x = ( s ) ;" are parsed to. Plain mathematics.
-/
namespace Go.Proofs.YtjapainhlfedgaaGreatDoor.S
open Go.RowKit Fl

def Nd.np (c : Nd) : Nd := { c with p := 0 }
theorem starts_np : ∀ (l : List Tr) (n : Nat), starts n (Tr.nps l) = starts n l
  | [], _ => rfl
  | t :: l, n => by unfold Tr.nps starts; rw [size_np t, starts_np l]
mutual
theorem flat_np : ∀ (t : Tr) (n : Nat), flatT n t.np = (flatT n t).map Nd.np
  | .mk k p t x l, n => by unfold Tr.np flatT; rw [starts_np, flats_np l]; rfl
theorem flats_np : ∀ (l : List Tr) (n : Nat), flatL n (Tr.nps l) = (flatL n l).map Nd.np
  | [], _ => rfl
  | t :: l, n => by unfold Tr.nps flatL; rw [size_np t, flat_np t, flats_np l, List.map_append]
end
theorem npn_of {l m : List Nd} (h : l.map Nd.np = m.map Nd.np) : m.length = l.length ∧ ∀ i (h1 : i < l.length) (h2 : i < m.length), NpN l[i] m[i] := by
  have hl : m.length = l.length := by have := congrArg List.length h; simpa using this.symm
  refine ⟨hl, fun i h1 h2 => ?_⟩
  have e := congrArg (fun x => x[i]?) h
  simp only [List.getElem?_map, List.getElem?_eq_getElem h1, List.getElem?_eq_getElem h2, Option.map_some] at e
  have e := Option.some.inj e
  unfold Nd.np at e
  simp only [Nd.mk.injEq] at e
  exact ⟨e.1, e.2.2.1, e.2.2.2.1, e.2.2.2.2⟩
theorem np_get {T : List Tk} {l : List Tk} (h : T.map Tk.np = l) {i : Nat} {k n : Nat} {t : ByteArray} (hi : l[i]? = some ⟨k, 0, t, n⟩) : (tkAt T i).kind = k ∧ (tkAt T i).text = t ∧ (tkAt T i).num = n := by
  rw [← h, List.getElem?_map] at hi
  cases hT : T[i]? with
  | none => rw [hT] at hi; cases hi
  | some c =>
    rw [hT] at hi
    have e := Option.some.inj hi
    rw [tkAt_of hT]
    unfold Tk.np at e
    simp only [Tk.mk.injEq] at e
    exact ⟨e.1, e.2.2.1, e.2.2.2⟩
set_option maxHeartbeats 1000000 in
theorem brack_trees {T1 T2 b : List Tk} {n1 n2 : Nat} {t1 t2 : Tr} {v1 v2 : Ps} (hm2 : MayP T2)
    (h1 : T1.map Tk.np = [⟨1, 0, (⟨#[120]⟩ : ByteArray), 0⟩, ⟨5, 0, (⟨#[61]⟩ : ByteArray), 0⟩] ++ b ++ [⟨5, 0, (⟨#[59]⟩ : ByteArray), 0⟩, ⟨0, 0, ⟨#[]⟩, 0⟩])
    (h2 : T2.map Tk.np = [⟨1, 0, (⟨#[120]⟩ : ByteArray), 0⟩, ⟨5, 0, (⟨#[61]⟩ : ByteArray), 0⟩, ⟨5, 0, (⟨#[40]⟩ : ByteArray), 0⟩] ++ b ++ [⟨5, 0, (⟨#[41]⟩ : ByteArray), 0⟩, ⟨5, 0, (⟨#[59]⟩ : ByteArray), 0⟩, ⟨0, 0, ⟨#[]⟩, 0⟩])
    (hS1 : scriptR T1 n1 ⟨0, 0, 0⟩ = .ok t1 v1) (hS2 : scriptR T2 n2 ⟨0, 0, 0⟩ = .ok t2 v2) : t1.np = t2.np := by
  have L1 : T1.length = b.length + 4 := by have := congrArg List.length h1; simp at this; omega
  have L2 : T2.length = b.length + 6 := by have := congrArg List.length h2; simp at this; omega
  -- the tokens by number
  have a0 := np_get h1 (i := 0) (k := 1) (n := 0) (t := (⟨#[120]⟩ : ByteArray)) (by simp)
  have a1 := np_get h1 (i := 1) (k := 5) (n := 0) (t := (⟨#[61]⟩ : ByteArray)) (by simp)
  have a2 := np_get h1 (i := 2 + b.length) (k := 5) (n := 0) (t := (⟨#[59]⟩ : ByteArray)) (by rw [List.getElem?_append_right (by simp; omega)]; simp [show 2 + b.length - (b.length + 2) = 0 by omega])
  have a3 := np_get h1 (i := 2 + b.length + 1) (k := 0) (n := 0) (t := ⟨#[]⟩) (by rw [List.getElem?_append_right (by simp; omega)]; simp [show 2 + b.length + 1 - (b.length + 2) = 1 by omega])
  have c0 := np_get h2 (i := 0) (k := 1) (n := 0) (t := (⟨#[120]⟩ : ByteArray)) (by simp)
  have c1 := np_get h2 (i := 1) (k := 5) (n := 0) (t := (⟨#[61]⟩ : ByteArray)) (by simp)
  have c2 := np_get h2 (i := 2) (k := 5) (n := 0) (t := (⟨#[40]⟩ : ByteArray)) (by simp)
  have c3 := np_get h2 (i := 3 + b.length) (k := 5) (n := 0) (t := (⟨#[41]⟩ : ByteArray)) (by rw [List.getElem?_append_right (by simp; omega)]; simp [show 3 + b.length - (b.length + 3) = 0 by omega])
  have c4 := np_get h2 (i := 3 + b.length + 1) (k := 5) (n := 0) (t := (⟨#[59]⟩ : ByteArray)) (by rw [List.getElem?_append_right (by simp; omega)]; simp [show 3 + b.length + 1 - (b.length + 3) = 1 by omega])
  have c5 := np_get h2 (i := 3 + b.length + 2) (k := 0) (n := 0) (t := ⟨#[]⟩) (by rw [List.getElem?_append_right (by simp; omega)]; simp [show 3 + b.length + 2 - (b.length + 3) = 2 by omega])
  have same : ∀ i, i < b.length → (tkAt T2 (3 + i)).kind = (tkAt T1 (2 + i)).kind ∧ (tkAt T2 (3 + i)).text = (tkAt T1 (2 + i)).text ∧ (tkAt T2 (3 + i)).num = (tkAt T1 (2 + i)).num := fun i hi => by
    have hb : ∀ c : Tk, b[i]? = some c → c.pos = 0 → (tkAt T2 (3 + i)).kind = (tkAt T1 (2 + i)).kind ∧ (tkAt T2 (3 + i)).text = (tkAt T1 (2 + i)).text ∧ (tkAt T2 (3 + i)).num = (tkAt T1 (2 + i)).num := fun c hc hp => by
      obtain ⟨k, p, t, n⟩ := c
      have hp : p = 0 := hp
      subst hp
      have x1 := np_get h1 (i := 2 + i) (k := k) (n := n) (t := t) (by rw [List.getElem?_append_left (by simp; omega), List.getElem?_append_right (by simp)]; simpa using hc)
      have x2 := np_get h2 (i := 3 + i) (k := k) (n := n) (t := t) (by rw [List.getElem?_append_left (by simp; omega), List.getElem?_append_right (by simp)]; simpa using hc)
      exact ⟨x2.1.trans x1.1.symm, x2.2.1.trans x1.2.1.symm, x2.2.2.trans x1.2.2.symm⟩
    refine hb b[i] (List.getElem?_eq_getElem hi) ?_
    have e := congrArg (fun l => l[2 + i]?) h1
    simp only [List.getElem?_map] at e
    rw [List.getElem?_append_left (by simp; omega), List.getElem?_append_right (by simp)] at e
    have e : (T1[2 + i]?).map Tk.np = some b[i] := by rw [e]; simp
    cases hT : T1[2 + i]? with
    | none => rw [hT] at e; cases e
    | some c => rw [hT] at e; rw [← Option.some.inj e]; rfl
  have sgn : ∀ {T : List Tk} {i : Nat} {t : ByteArray}, (tkAt T i).kind = 5 → (tkAt T i).text = t → saidT (tkAt T i) = t := fun h1 h2 => by unfold saidT; rw [h1, h2]; rfl
  -- one statement each
  unfold scriptR at hS1 hS2
  obtain ⟨M1, u1, e1, hS1⟩ := Rs.bind_inv hS1
  obtain ⟨rfl, _, _⟩ := mk_inv hS1
  obtain ⟨M2, u2, e2, hS2⟩ := Rs.bind_inv hS2
  obtain ⟨rfl, _, _⟩ := mk_inv hS2
  have first : ∀ {T : List Tk} {n f : Nat} {L : List Tr} {s : Ps}, scriptL T (run T n .statement) (f + 1) [] ⟨0, 0, 0⟩ = .ok L s → (tkAt T 0).kind ≠ 0 → ∃ t s1, run T n .statement ⟨0, 0, 0⟩ = .ok t s1 := fun h h0 => by
    unfold scriptL at h
    rw [if_neg (show ¬ (tok _ ⟨0, 0, 0⟩).kind = 0 from h0)] at h
    obtain ⟨t, s1, h1, _⟩ := Rs.bind_inv h
    exact ⟨t, s1, h1⟩
  have z1 : (tkAt T1 0).kind ≠ 0 := by rw [a0.1]; decide
  have z2 : (tkAt T2 0).kind ≠ 0 := by rw [c0.1]; decide
  obtain ⟨st1, r1, f1⟩ := first e1 z1
  obtain ⟨st2, r2, f2⟩ := first e2 z2
  obtain ⟨m1, y1, sa1, sb1, p1, q1, o1, g1, n1', l1, k1, d1, rfl⟩ := stmt_x rfl rfl a0.1 a0.2.1 (sgn a1.1 a1.2.1) f1
  obtain ⟨m2, y2, sa2, sb2, p2, q2, o2, g2, n2', l2, k2, d2, rfl⟩ := stmt_x rfl rfl c0.1 c0.2.1 (sgn c1.1 c1.2.1) f2
  have tk2 : tok T2 sa2 = tkAt T2 2 := by unfold tok; rw [n2']
  obtain ⟨m3, V, sV0, sV, g3, n3, l3, k3, fin⟩ := assign_brack l2 (by rw [tk2]; exact c2.1) (by rw [tk2]; exact c2.2.1) g2
  have pr := prog_run hm2 m3 .assign sV0 V sV trivial (by omega) g3
  have wS : saidT (tkAt T1 (2 + b.length)) = (⟨#[59]⟩ : ByteArray) := sgn a2.1 a2.2.1
  have hk3 : sd T2 sV = (⟨#[41]⟩ : ByteArray) := str_beq k3
  have hle : sV.next ≤ 3 + b.length := by
    have : sV.next ≤ 3 + b.length ∨ sV.next = 3 + b.length + 1 ∨ sV.next = 3 + b.length + 2 := by omega
    rcases this with h | h | h
    · exact h
    · exfalso
      unfold sd tok at hk3
      rw [h, sgn c4.1 c4.2.1] at hk3
      exact absurd hk3 (by decide)
    · exfalso
      unfold sd tok saidT at hk3
      rw [h, c5.1, c5.2.1] at hk3
      exact absurd hk3 (by decide)
  have W : Two T2 T1 3 2 b.length 1 := ⟨same, by omega, by rw [wS]; exact ⟨by decide, by decide, by decide⟩⟩
  obtain ⟨V', w1, x1, x2, x3⟩ := sim_run hm2 W m3 .assign .assign 2 sV0 sa1 V sV (.refl _) (by omega) (by omega) (by omega) ⟨⟨0, by omega, by omega⟩, by omega, l1⟩ trivial (by omega) g3 hle
    (Or.inr fun _ => by rw [wS]; exact ⟨by decide, by decide, by decide, by decide, by decide, by decide⟩)
  obtain ⟨rfl, rfl⟩ := run_same g1 x1
  have heq : sV.next = 3 + b.length := by
    rcases Nat.lt_or_ge sV.next (3 + b.length) with h | h
    · exfalso
      have := sim_sd W x3 h
      rw [this, hk3] at k1
      exact absurd k1 (by decide)
    · omega
  obtain ⟨i, i1, i2⟩ := x3.nx
  have hs4 : (sd T2 sV.on == (⟨#[59]⟩ : ByteArray)) = true := by
    have : sd T2 sV.on = (⟨#[59]⟩ : ByteArray) := by
      unfold sd tok
      rw [show sV.on.next = 3 + b.length + 1 by show sV.next + 1 = _; omega]
      exact sgn c4.1 c4.2.1
    rw [this]; decide
  obtain ⟨rfl, hb2⟩ := fin hs4
  have end1 : ∀ t s1, run T1 n1 .statement ⟨0, 0, 0⟩ = .ok t s1 → (tok T1 s1).kind = 0 := fun t s1 h => by
    obtain ⟨_, rfl⟩ := run_same h f1
    unfold tok
    rw [d1, show sb1.next + 1 = 2 + b.length + 1 by omega]
    exact a3.1
  have end2 : ∀ t s1, run T2 n2 .statement ⟨0, 0, 0⟩ = .ok t s1 → (tok T2 s1).kind = 0 := fun t s1 h => by
    obtain ⟨_, rfl⟩ := run_same h f2
    unfold tok
    rw [d2, hb2, show sV.next + 1 + 1 = 3 + b.length + 2 by omega]
    exact c5.1
  rw [show T1.length + 1 = (b.length + 3) + 2 by omega] at e1
  rw [show T2.length + 1 = (b.length + 5) + 2 by omega] at e2
  obtain ⟨_, _, f3, rfl⟩ := script_one e1 z1 end1
  obtain ⟨_, _, f4, rfl⟩ := script_one e2 z2 end2
  obtain ⟨rfl, _⟩ := run_same f3 f1
  obtain ⟨rfl, _⟩ := run_same f4 f2
  refine np_mk rfl rfl (nps_cons (np_mk rfl rfl (nps_cons (np_mk rfl rfl (nps_cons (np_mk rfl rfl rfl) (nps_cons x2.symm rfl))) rfl)) rfl)
theorem brack_parse {s : List UInt8} {l1 l2 : List Nd} (h1 : parseP ([120, 32, 61, 32] ++ s ++ [10, 59]) = .ok l1) (h2 : parseP ([120, 32, 61, 32, 40] ++ s ++ [10, 41, 59]) = .ok l2) :
    l2.length = l1.length ∧ ∀ i (h1 : i < l1.length) (h2 : i < l2.length), NpN l1[i] l2[i] := by
  obtain ⟨T1, t1, s1, hT1, hS1, rfl, hz1⟩ := parse_tree h1
  obtain ⟨T2, t2, s2, hT2, hS2, rfl, hz2⟩ := parse_tree h2
  obtain ⟨b, x1, x2⟩ := brack_toks hT1 hT2
  have := brack_trees (told_in hT2).2.1 x1 x2 hS1 hS2
  exact npn_of (by rw [← flat_np, ← flat_np, this])
theorem kids_few {s : List UInt8} {l : List Nd} (h : parseP s = .ok l) : ∀ i (hi : i < l.length), l[i].kids.length ≤ 100000 := by
  obtain ⟨T, t, s1, _, _, rfl, h2⟩ := parse_tree h
  have key : ∀ (u : Tr), u.size ≤ 16384 → ∀ n (c : Nd), c ∈ flatT n u → c.kids.length ≤ 100000 := by
    intro u
    refine Tr.rec (motive_1 := fun u => u.size ≤ 16384 → ∀ n (c : Nd), c ∈ flatT n u → c.kids.length ≤ 100000) (motive_2 := fun l => Tr.sizes l ≤ 16384 → ∀ n (c : Nd), c ∈ flatL n l → c.kids.length ≤ 100000) ?_ ?_ ?_ u
    · intro k p t x l ih hz n c hc
      rw [size_mk] at hz
      unfold flatT at hc
      rcases List.mem_cons.1 hc with rfl | hc
      · show (starts (n + 1) l).length ≤ _
        rw [starts_len]
        have := sizes_len l
        omega
      · exact ih (by omega) _ c hc
    · intro _ n c hc
      unfold flatL at hc
      cases hc
    · intro t l i1 i2 hz n c hc
      unfold Tr.sizes at hz
      unfold flatL at hc
      rcases List.mem_append.1 hc with hc | hc
      · exact i1 (by omega) _ c hc
      · exact i2 (by omega) _ c hc
  exact fun i hi => key t h2 0 _ (List.getElem_mem hi)
end Go.Proofs.YtjapainhlfedgaaGreatDoor.S
/-
  The statement ParseJoined: two scripts one behind the other are one script with the statements of both.
-/
namespace Go.Proofs.YtjapainhlfedgaaGreatDoor.S
open Go.RowKit Fl

/-- a text that is parsed: how many nodes, how many kids the first has -/
def ParsedTo (n k : Nat) (w : World) (e : Ending) (w' : World) : Prop :=
  ∃ g cap K ck, e = .returned (.tuple #[.agg #[.slice (some ⟨g, 0, none⟩) n cap], .int .i64 0, .int .i64 0]) ∧ w'.cell? ⟨g, 4, none⟩ = some (.slice K k ck) ∧ g < w'.heap.size ∧ Below w.heap.size w w'
theorem parsed_ok {s : ByteArray} {l : List Nd} {n k : Nat} (hs : s.size ≤ 70000) (h : parseP s.data.toList = .ok l) (hn : l.length = n) (hp : 0 < l.length) (hk : l[0].kids.length = k) (w : World) (htab : TabHere w) :
    Calls Tryz.prog 14 #[.string s] w (ParsedTo n k w) := by
  have kk := parse_any s hs w htab
  rw [h] at kk
  refine kk.mono ?_
  rintro e w1 ⟨v, rfl, ⟨A, cap, cs, rfl, h2⟩, h1⟩
  obtain ⟨g, hA, _, hgl, hc⟩ := tree_cells (A := A) (cap := cap) ⟨A, cap, cs, rfl, h2⟩ hp
  subst hA hn hk
  obtain ⟨_, _, _, _, K, ck, hcell, _⟩ := hc 0 hp
  exact ⟨g, cap, K, ck, rfl, hcell, hgl, h1⟩
theorem parsed_err {s : ByteArray} {p k : Int} (hs : s.size ≤ 70000) (h : parseP s.data.toList = .err p k) (w : World) (htab : TabHere w) :
    Calls Tryz.prog 14 #[.string s] w fun e w' => e = .returned (.tuple #[.agg #[.slice none 0 0], .int .i64 p, .int .i64 k]) ∧ Below w.heap.size w w' := by
  have k := parse_any s hs w htab
  rw [h] at k
  exact k
/-- a variable made ahead of what leaves all below as it was -/
theorem var_keep {w0 w1 : World} {v : Value} {t : TypeId} (h : Below (w0.alloc (.cells #[v] t)).heap.size (w0.alloc (.cells #[v] t)) w1) : w1.cell? ⟨w0.heap.size, 0, none⟩ = some v ∧ w0.heap.size < w1.heap.size := by
  have hs := h.size
  have hz : (w0.alloc (.cells #[v] t)).heap.size = w0.heap.size + 1 := by simp
  exact ⟨blk_cell ((h.block w0.heap.size (by omega)).trans (heap_alloc_new w0 _)) 0, by omega⟩
theorem cell_keep {w0 w1 : World} {o : Obj} {g i : Nat} {v : Value} (h : Below (w0.alloc o).heap.size (w0.alloc o) w1) (hg : g < w0.heap.size) (hc : w0.cell? ⟨g, i, none⟩ = some v) : w1.cell? ⟨g, i, none⟩ = some v ∧ g < w1.heap.size := by
  have hs := h.size
  have hz : (w0.alloc o).heap.size = w0.heap.size + 1 := by simp
  exact ⟨(World.cell?_of_block (a := ⟨g, i, none⟩) ((h.block g (by omega)).trans ((World.grownBy_alloc w0 o none).block g hg (by simp)))).trans hc, by omega⟩
theorem parse_kids {s : List UInt8} {l : List Nd} (h : parseP s = .ok l) (p : 0 < l.length) : l[0].kids.length ≤ 100000 := by
  obtain ⟨T, t, s1, _, _, rfl, h2⟩ := parse_tree h
  cases t with
  | mk k q t x L =>
    show (starts (0 + 1) L).length ≤ 100000
    rw [starts_len]
    rw [size_mk] at h2
    have := sizes_len L
    omega
theorem joined_text (s t : ByteArray) : (s ++ (⟨#[10]⟩ : ByteArray) ++ t).data.toList = s.data.toList ++ 10 :: t.data.toList := by simp
theorem joined_size {s t : ByteArray} (hs : s.size ≤ 3000) (ht : t.size ≤ 3000) : (s ++ (⟨#[10]⟩ : ByteArray) ++ t).size ≤ 70000 := by
  have h : (s ++ (⟨#[10]⟩ : ByteArray) ++ t).size = s.size + 1 + t.size := by simp; rfl
  omega
theorem below_al {w0 w1 : World} {o : Obj} (h : Below (w0.alloc o).heap.size (w0.alloc o) w1) : Below w0.heap.size w0 w1 := below_up ((Below.refl _ _).alloc (Nat.le_refl _) o) h
set_option maxHeartbeats 4000000 in
set_option maxRecDepth 100000 in
theorem ParseJoined_walk (s t : ByteArray) (w : World) (_hs : s.size ≤ maxLen) (_ht : t.size ≤ maxLen) (htab : TabHere w) : Calls Tryz.prog 6 #[.string s, .string t] w fun e w' => e = .returned (.bool true) ∧ Below w.heap.size w w' := by
  have ka := paralive_any w htab
  by_cases hs : s.size ≤ 3000
  · by_cases ht : t.size ≤ 3000
    · have f1 : ¬ 3000 < (s.size : Int) := by omega
      have f2 : ¬ 3000 < (t.size : Int) := by omega
      have z1 : s.size ≤ 70000 := by omega
      have z2 : t.size ≤ 70000 := by omega
      cases hP1 : parseP s.data.toList with
      | err p1 k1 =>
        have p1' := fun W h => parsed_err z1 hP1 W h
        have hk1 : (k1 != 0) = true := by rw [bne_iff_ne]; exact parse_err hP1
        cases hP2 : parseP t.data.toList with
        | err p2 k2 =>
          have p2' := fun W h => parsed_err z2 hP2 W h
          go_enter Tryz.func6, Tryz.ntmps6
          go_wp2_with (first
            | (go_at_call 13; refine ka.mono ?_; rintro e w1 ⟨rfl, h1⟩)
            | (go_at_call 14; (with_reducible refine (p1' _ (tab_below htab (h1))).mono ?_); rintro e w2 ⟨rfl, h2⟩)
            | (go_at_call 14; (with_reducible refine (p2' _ (tab_below htab (below_up h1 (h2.alloc h2.size _)))).mono ?_); rintro e w3 ⟨rfl, h3⟩))
          go_ret
          exact ⟨rfl, below_up h1 (below_up h2 (below_up ((Below.refl _ _).alloc (Nat.le_refl _) _) (h3.alloc h3.size _)))⟩
        | ok l2 =>
          have hp2 := parse_pos hP2
          obtain ⟨x2, hx2⟩ : ∃ x, l2.length = x := ⟨_, rfl⟩
          obtain ⟨y2, hy2⟩ : ∃ y, l2[0].kids.length = y := ⟨_, rfl⟩
          have p2' := fun W h => parsed_ok z2 hP2 hx2 hp2 hy2 W h
          go_enter Tryz.func6, Tryz.ntmps6
          go_wp2_with (first
            | (go_at_call 13; refine ka.mono ?_; rintro e w1 ⟨rfl, h1⟩)
            | (go_at_call 14; (with_reducible refine (p1' _ (tab_below htab (h1))).mono ?_); rintro e w2 ⟨rfl, h2⟩)
            | (go_at_call 14; (with_reducible refine (p2' _ (tab_below htab (below_up h1 (h2.alloc h2.size _)))).mono ?_); rintro e w3 ⟨g2, c2, K2, q2, rfl, e2, l2, h3⟩))
          go_ret
          exact ⟨rfl, below_up h1 (below_up h2 (below_up ((Below.refl _ _).alloc (Nat.le_refl _) _) (h3.alloc h3.size _)))⟩
      | ok l1 =>
        have hp1 := parse_pos hP1
        obtain ⟨x1, hx1⟩ : ∃ x, l1.length = x := ⟨_, rfl⟩
        obtain ⟨y1, hy1⟩ : ∃ y, l1[0].kids.length = y := ⟨_, rfl⟩
        have p1' := fun W h => parsed_ok z1 hP1 hx1 hp1 hy1 W h
        cases hP2 : parseP t.data.toList with
        | err p2 k2 =>
          have p2' := fun W h => parsed_err z2 hP2 W h
          have hk2 : (k2 != 0) = true := by rw [bne_iff_ne]; exact parse_err hP2
          go_enter Tryz.func6, Tryz.ntmps6
          go_wp2_with (first
            | (go_at_call 13; refine ka.mono ?_; rintro e w1 ⟨rfl, h1⟩)
            | (go_at_call 14; (with_reducible refine (p1' _ (tab_below htab (h1))).mono ?_); rintro e w2 ⟨g1, c1, K1, q1, rfl, e1, l1, h2⟩)
            | (go_at_call 14; (with_reducible refine (p2' _ (tab_below htab (below_up h1 (h2.alloc h2.size _)))).mono ?_); rintro e w3 ⟨rfl, h3⟩))
          go_ret
          exact ⟨rfl, below_up h1 (below_up h2 (below_up ((Below.refl _ _).alloc (Nat.le_refl _) _) (h3.alloc h3.size _)))⟩
        | ok l2 =>
          have hp2 := parse_pos hP2
          obtain ⟨l3, hP3, hn3, hk3⟩ := joined_parse (s := s.data.toList) (t := t.data.toList) hs ht hP1 hP2
          have hp3 := parse_pos hP3
          have hk3 := hk3 hp3 hp1 hp2
          have b1 := parse_few hP1
          have b2 := parse_few hP2
          have d1 := parse_kids hP1 hp1
          have d2 := parse_kids hP2 hp2
          obtain ⟨x2, hx2⟩ : ∃ x, l2.length = x := ⟨_, rfl⟩
          obtain ⟨y2, hy2⟩ : ∃ y, l2[0].kids.length = y := ⟨_, rfl⟩
          obtain ⟨x3, hx3⟩ : ∃ x, l3.length = x := ⟨_, rfl⟩
          obtain ⟨y3, hy3⟩ : ∃ y, l3[0].kids.length = y := ⟨_, rfl⟩
          have p2' := fun W h => parsed_ok z2 hP2 hx2 hp2 hy2 W h
          have p3' := fun W h => parsed_ok (joined_size hs ht) ((congrArg parseP (joined_text s t)).trans hP3) hx3 hp3 hy3 W h
          rw [hy1, hy2, hy3] at hk3
          rw [hx1, hx2, hx3] at hn3
          rw [hx1] at hp1 b1
          rw [hy1] at d1
          rw [hy2] at d2
          rw [hx2] at hp2 b2
          rw [hx3] at hp3
          have hkk : (y3 : Int) = (y1 : Int) + (y2 : Int) := by omega
          have hnn : (x3 : Int) = (x1 : Int) + (x2 : Int) - 1 := by omega
          have i1 : (0 : Int) < (x1 : Int) := by omega
          have i2 : (0 : Int) < (x2 : Int) := by omega
          have i3 : (0 : Int) < (x3 : Int) := by omega
          clear hx1 hx2 hx3 hy1 hy2 hy3 hP1 hP2 hP3
          go_enter Tryz.func6, Tryz.ntmps6
          go_wp2_with (first
            | (go_at_call 13; refine ka.mono ?_; rintro e w1 ⟨rfl, h1⟩)
            | (go_at_call 14; (with_reducible refine (p1' _ (tab_below htab (h1))).mono ?_); rintro e w2 ⟨g1, c1, K1, q1, rfl, e1, l1, h2⟩)
            | (go_at_call 14; (with_reducible refine (p2' _ (tab_below htab (below_up h1 (h2.alloc h2.size _)))).mono ?_); rintro e w3 ⟨g2, c2, K2, q2, rfl, e2, l2, h3⟩)
            | (go_at_call 14; (with_reducible refine (p3' _ (tab_below htab (below_up h1 (below_up h2 (below_up ((Below.refl _ _).alloc (Nat.le_refl _) _) (h3.alloc h3.size _)))))).mono ?_); rintro e w4 ⟨g3, c3, K3, q3, rfl, e3, l3, h4⟩; obtain ⟨va, la⟩ := var_keep h3; obtain ⟨ea, ga⟩ := cell_keep h3 l1 e1; obtain ⟨va2, la2⟩ := cell_keep h4 la va; obtain ⟨ea2, ga2⟩ := cell_keep h4 ga ea; obtain ⟨vb, lb⟩ := var_keep h4; obtain ⟨eb, gb⟩ := cell_keep h4 l2 e2))
          have dE : ((y1 : Int) + (y2 : Int) == wrap64 ((y1 : Int) + (y2 : Int))) = true := by rw [beq_iff_eq]; unfold wrap64; omega
          go_quiet (fail)
          go_wp2_with (fail)
          go_ret
          refine ⟨rfl, below_drewN ((below_up h1 (below_up h2 (below_up (below_al h3) (below_al h4)))).alloc (Nat.le_trans h1.size (Nat.le_trans h2.size (Nat.le_trans (Nat.le_of_lt la2) (Nat.le_refl _)))) _) nq⟩
    · have f1 : ¬ 3000 < (s.size : Int) := by omega
      have f2 : 3000 < (t.size : Int) := by omega
      go_enter Tryz.func6, Tryz.ntmps6
      go_wp2_with (go_at_call 13; refine ka.mono ?_; rintro e w1 ⟨rfl, h1⟩)
      go_ret
      exact ⟨rfl, h1⟩
  · have f1 : 3000 < (s.size : Int) := by omega
    go_enter Tryz.func6, Tryz.ntmps6
    go_wp2_with (go_at_call 13; refine ka.mono ?_; rintro e w1 ⟨rfl, h1⟩)
    go_ret
    exact ⟨rfl, h1⟩
end Go.Proofs.YtjapainhlfedgaaGreatDoor.S
/-
  The statement ParseBrackets: ( ) about a value change nothing in a tree but places.
-/
namespace Go.Proofs.YtjapainhlfedgaaGreatDoor.S
open Go.RowKit Fl

/-- a text that is parsed: where its nodes are -/
def ParsedC (n : Nat) (l : List Nd) (w : World) (e : Ending) (w' : World) : Prop :=
  ∃ g cap, e = .returned (.tuple #[.agg #[.slice (some ⟨g, 0, none⟩) n cap], .int .i64 0, .int .i64 0]) ∧ Cs5 w' g l ∧ Below w.heap.size w w'
theorem parsed_c {s : ByteArray} {l : List Nd} {n : Nat} (hs : s.size ≤ 70000) (h : parseP s.data.toList = .ok l) (hn : l.length = n) (w : World) (htab : TabHere w) :
    Calls Tryz.prog 14 #[.string s] w (ParsedC n l w) := by
  have hp := parse_pos h
  have kk := parse_any s hs w htab
  rw [h] at kk
  refine kk.mono ?_
  rintro e w1 ⟨v, rfl, ⟨A, cap, cs, rfl, h2⟩, h1⟩
  obtain ⟨g, hA, hc⟩ := cs5_of (A := A) (cap := cap) ⟨A, cap, cs, rfl, h2⟩ hp
  subst hA hn
  exact ⟨g, cap, rfl, hc, h1⟩
theorem brack_text1 (s : ByteArray) : ((⟨#[120, 32, 61, 32]⟩ : ByteArray) ++ s ++ (⟨#[10, 59]⟩ : ByteArray)).data.toList = [120, 32, 61, 32] ++ s.data.toList ++ [10, 59] := by simp
theorem brack_text2 (s : ByteArray) : ((⟨#[120, 32, 61, 32, 40]⟩ : ByteArray) ++ s ++ (⟨#[10, 41, 59]⟩ : ByteArray)).data.toList = [120, 32, 61, 32, 40] ++ s.data.toList ++ [10, 41, 59] := by simp
theorem brack_size1 {s : ByteArray} (hs : s.size ≤ 3000) : ((⟨#[120, 32, 61, 32]⟩ : ByteArray) ++ s ++ (⟨#[10, 59]⟩ : ByteArray)).size ≤ 70000 := by
  have h : ((⟨#[120, 32, 61, 32]⟩ : ByteArray) ++ s ++ (⟨#[10, 59]⟩ : ByteArray)).size = 4 + s.size + 2 := by simp; rfl
  omega
theorem brack_size2 {s : ByteArray} (hs : s.size ≤ 3000) : ((⟨#[120, 32, 61, 32, 40]⟩ : ByteArray) ++ s ++ (⟨#[10, 41, 59]⟩ : ByteArray)).size ≤ 70000 := by
  have h : ((⟨#[120, 32, 61, 32, 40]⟩ : ByteArray) ++ s ++ (⟨#[10, 41, 59]⟩ : ByteArray)).size = 5 + s.size + 3 := by simp; rfl
  omega
theorem below_one {w : World} (o : Obj) : Below w.heap.size w (w.alloc o) := (Below.refl _ _).alloc (Nat.le_refl _) _
set_option maxHeartbeats 4000000 in
set_option maxRecDepth 100000 in
theorem ParseBrackets_walk (s : ByteArray) (w : World) (_hs : s.size ≤ maxLen) (htab : TabHere w) : Calls Tryz.prog 5 #[.string s] w fun e w' => e = .returned (.bool true) ∧ Below w.heap.size w w' := by
  have ka := paralive_any w htab
  by_cases hs : s.size ≤ 3000
  · have f1 : ¬ 3000 < (s.size : Int) := by omega
    have z1 := brack_size1 hs
    have z2 := brack_size2 hs
    have y1 := brack_text1 s
    have y2 := brack_text2 s
    generalize hX1 : (⟨#[120, 32, 61, 32]⟩ : ByteArray) ++ s ++ (⟨#[10, 59]⟩ : ByteArray) = X1 at z1 y1
    generalize hX2 : (⟨#[120, 32, 61, 32, 40]⟩ : ByteArray) ++ s ++ (⟨#[10, 41, 59]⟩ : ByteArray) = X2 at z2 y2
    cases hP1 : parseP X1.data.toList with
    | err p1 k1 =>
      have p1' := fun W h => parsed_err z1 hP1 W h
      have hk1 : (k1 != 0) = true := by rw [bne_iff_ne]; exact parse_err hP1
      cases hP2 : parseP X2.data.toList with
      | err p2 k2 =>
        have p2' := fun W h => parsed_err z2 hP2 W h
        subst hX1 hX2
        go_enter Tryz.func5, Tryz.ntmps5
        go_wp2_with (first
          | (go_at_call 13; refine ka.mono ?_; rintro e w1 ⟨rfl, h1⟩)
          | (go_at_call 14; (with_reducible refine (p1' _ (tab_below htab (h1))).mono ?_); rintro e w2 ⟨rfl, h2⟩)
          | (go_at_call 14; (with_reducible refine (p2' _ (tab_below htab (below_up h1 (h2.alloc h2.size _)))).mono ?_); rintro e w3 ⟨rfl, h3⟩))
        go_ret
        exact ⟨rfl, below_up h1 (below_up h2 (below_up (below_one _) (h3.alloc h3.size _)))⟩
      | ok l2 =>
        have p2' := fun W h => parsed_c z2 hP2 rfl W h
        subst hX1 hX2
        go_enter Tryz.func5, Tryz.ntmps5
        go_wp2_with (first
          | (go_at_call 13; refine ka.mono ?_; rintro e w1 ⟨rfl, h1⟩)
          | (go_at_call 14; (with_reducible refine (p1' _ (tab_below htab (h1))).mono ?_); rintro e w2 ⟨rfl, h2⟩)
          | (go_at_call 14; (with_reducible refine (p2' _ (tab_below htab (below_up h1 (h2.alloc h2.size _)))).mono ?_); rintro e w3 ⟨g2, c2, rfl, e2, h3⟩))
        go_ret
        exact ⟨rfl, below_up h1 (below_up h2 (below_up (below_one _) (h3.alloc h3.size _)))⟩
    | ok l1 =>
      obtain ⟨n1, hn1⟩ : ∃ n, l1.length = n := ⟨_, rfl⟩
      have p1' := fun W h => parsed_c z1 hP1 hn1 W h
      cases hP2 : parseP X2.data.toList with
      | err p2 k2 =>
        have p2' := fun W h => parsed_err z2 hP2 W h
        have hk2 : (k2 != 0) = true := by rw [bne_iff_ne]; exact parse_err hP2
        subst hX1 hX2
        go_enter Tryz.func5, Tryz.ntmps5
        go_wp2_with (first
          | (go_at_call 13; refine ka.mono ?_; rintro e w1 ⟨rfl, h1⟩)
          | (go_at_call 14; (with_reducible refine (p1' _ (tab_below htab (h1))).mono ?_); rintro e w2 ⟨g1, c1, rfl, e1, h2⟩)
          | (go_at_call 14; (with_reducible refine (p2' _ (tab_below htab (below_up h1 (h2.alloc h2.size _)))).mono ?_); rintro e w3 ⟨rfl, h3⟩))
        go_ret
        exact ⟨rfl, below_up h1 (below_up h2 (below_up (below_one _) (h3.alloc h3.size _)))⟩
      | ok l2 =>
        obtain ⟨hlen, hnp⟩ := brack_parse (s := s.data.toList) (y1 ▸ hP1) (y2 ▸ hP2)
        have few := parse_few hP1
        have kf := kids_few hP1
        have hk : ∀ i (h1 : i < l1.length) (h2 : i < l2.length), NpN l1[i] l2[i] ∧ l1[i].kids.length ≤ 100000 := fun i h1 h2 => ⟨hnp i h1 h2, kf i h1⟩
        have p2' := fun W h => parsed_c z2 hP2 (hlen.trans hn1) W h
        have sm := fun g h ca cb W hg hh => same_any l1 l2 g h ca cb W hg hh (by omega) hlen hk
        rw [hn1] at sm
        have SM := Lib.hid sm
        clear hlen hnp few kf hk sm hn1
        subst hX1 hX2
        go_enter Tryz.func5, Tryz.ntmps5
        go_wp2_with (first
          | (go_at_call 13; refine ka.mono ?_; rintro e w1 ⟨rfl, h1⟩)
          | (go_at_call 14; (with_reducible refine (p1' _ (tab_below htab (h1))).mono ?_); rintro e w2 ⟨g1, c1, rfl, e1, h2⟩)
          | (go_at_call 14; (with_reducible refine (p2' _ (tab_below htab (below_up h1 (h2.alloc h2.size _)))).mono ?_); rintro e w3 ⟨g2, c2, rfl, e2, h3⟩; obtain ⟨va, la⟩ := var_keep h3)
          | (go_at_call 18; refine (SM.out g1 g2 c1 c2 _ (cs5_up (cs5_up (cs5_up e1 (below_one _)) h3) (below_one _)) (cs5_up e2 (below_one _))).mono ?_; rintro e w4 ⟨rfl, h4⟩))
        go_ret
        exact ⟨rfl, below_up h1 (below_up h2 (below_up (below_one _) (below_up h3 (below_up (below_one _) h4))))⟩
  · have f1 : 3000 < (s.size : Int) := by omega
    go_enter Tryz.func5, Tryz.ntmps5
    go_wp2_with (go_at_call 13; refine ka.mono ?_; rintro e w1 ⟨rfl, h1⟩)
    go_ret
    exact ⟨rfl, h1⟩
end Go.Proofs.YtjapainhlfedgaaGreatDoor.S
