/-
  Blocks in one another, values in brackets in one another, parsed: plain mathematics.
-/
import Derived.Test.YtjapainhlfedgaaGreatDoorB19
import Derived.Test.YtjapainhlfedgaaGreatDoorB25
namespace Go.Proofs.YtjapainhlfedgaaGreatDoor.S
open Go.RowKit Fl

theorem w64_in {n : Int} (h1 : -9223372036854775808 ≤ n) (h2 : n ≤ 9223372036854775807) : w64 n = n := by
  unfold w64 wrap64
  omega
section
variable {T : List Tk}
theorem run_statement (n : Nat) (s : Ps) : run T (n + 1) .statement s = deeperR T (run T n .stated) s := rfl
theorem run_stated_block (n : Nat) {s : Ps} (h : sd T s = (⟨#[123]⟩ : ByteArray)) : run T (n + 1) .stated s = run T n .block s := by
  show step T (run T n) .stated s = _
  dsimp only [step]
  rw [h, if_pos (by decide)]
theorem run_block (n : Nat) {s : Ps} (h : sd T s = (⟨#[123]⟩ : ByteArray)) : run T (n + 1) .block s = (blockL T (run T n .statement) (T.length + 1) [] s.on).bind fun l s2 => mkP 2 (here T s) ⟨#[]⟩ 0 l s2 := by
  show step T (run T n) .block s = _
  dsimp only [step]
  unfold take1
  rw [h, if_pos (by decide)]
  rfl
theorem blockL_end (f : Ps → Rs Tr) (n : Nat) (l : List Tr) {s : Ps} (h : sd T s = (⟨#[125]⟩ : ByteArray)) : blockL T f (n + 1) l s = .ok l s.on := by
  unfold blockL
  rw [h, if_pos (by decide)]
theorem blockL_more (f : Ps → Rs Tr) (n : Nat) (l : List Tr) {s : Ps} (h : sd T s = (⟨#[123]⟩ : ByteArray)) : blockL T f (n + 1) l s = (f s).bind fun t s1 => blockL T f n (l ++ [t]) s1 := by
  conv => lhs; unfold blockL
  rw [h, if_neg (by decide)]
theorem sd_at {i : Nat} {k : Nat} {p : Int} {t : ByteArray} {x : Nat} (h : tkAt T i = ⟨k, p, t, x⟩) (hk : (k == 4) = false) (lv pt : Int) : sd T ⟨i, lv, pt⟩ = t := by
  unfold sd saidT tok
  rw [h]
  exact if_neg (fun e => by have e : k = 4 := e; rw [e] at hk; exact absurd hk (by decide))

/-- so many blocks in one another -/
def nest : Nat → Int → Tr
  | 0, p => .mk 2 p ⟨#[]⟩ 0 []
  | j + 1, p => .mk 2 p ⟨#[]⟩ 0 [nest j (p + 1)]
theorem nest_size (j : Nat) (p : Int) : (nest j p).size = j + 1 := by
  induction j generalizing p with
  | zero => rfl
  | succ j ih => unfold nest Tr.size Tr.sizes Tr.sizes; rw [ih]; omega
theorem nest_run {k : Nat} (ho : ∀ i, i < k → tkAt T i = ⟨5, i, (⟨#[123]⟩ : ByteArray), 0⟩) (hc : ∀ i, k ≤ i → i < 2 * k → tkAt T i = ⟨5, i, (⟨#[125]⟩ : ByteArray), 0⟩) (hk : k ≤ 200) (hT : 2 ≤ T.length) :
    ∀ (j i : Nat), i + (j + 1) = k → ∀ (n : Nat), 3 * (j + 1) ≤ n → ∀ (p : Int), 0 ≤ p → p ≤ 1000000 → run T n .statement ⟨i, i, p⟩ = .ok (nest j i) ⟨i + 2 * (j + 1), i, p + ((j + 1 : Nat) : Int)⟩ := by
  intro j
  induction j with
  | zero =>
    intro i hi n hn p hp hp2
    obtain ⟨m, rfl⟩ : ∃ m, n = m + 3 := ⟨n - 3, by omega⟩
    obtain ⟨L, hL⟩ : ∃ L, T.length + 1 = L + 1 := ⟨_, rfl⟩
    have s1 := sd_at (ho i (by omega)) rfl (w64 ((i : Int) + 1)) p
    have s2 := sd_at (hc (i + 1) (by omega) (by omega)) rfl (w64 ((i : Int) + 1)) p
    have h1 : here T ⟨i, w64 ((i : Int) + 1), p⟩ = i := by unfold here tok; rw [ho i (by omega)]
    rw [run_statement]
    unfold deeperR
    rw [if_neg (by show ¬ ((i : Int) = 200); omega), run_stated_block _ s1, run_block _ s1, hL, show Ps.on ⟨i, w64 ((i : Int) + 1), p⟩ = ⟨i + 1, w64 ((i : Int) + 1), p⟩ from rfl, blockL_end _ _ _ s2, h1]
    show Rs.ok _ _ = _
    simp only [Ps.on, nest]
    rw [w64_in (n := (i : Int) + 1) (by omega) (by omega), w64_in (n := (i : Int) + 1 - 1) (by omega) (by omega), w64_in (n := p + 1) (by omega) (by omega)]
    congr 2
    omega
  | succ j ih =>
    intro i hi n hn p hp hp2
    obtain ⟨m, rfl⟩ : ∃ m, n = m + 3 := ⟨n - 3, by omega⟩
    obtain ⟨L, hL⟩ : ∃ L, T.length + 1 = L + 2 := ⟨T.length - 1, by omega⟩
    have s1 := sd_at (ho i (by omega)) rfl (w64 ((i : Int) + 1)) p
    have s2 := sd_at (ho (i + 1) (by omega)) rfl ((i + 1 : Nat) : Int) p
    have s3 := sd_at (hc (i + 1 + 2 * (j + 1)) (by omega) (by omega)) rfl ((i + 1 : Nat) : Int) (p + ((j + 1 : Nat) : Int))
    have h1 : here T ⟨i, w64 ((i : Int) + 1), p⟩ = i := by unfold here tok; rw [ho i (by omega)]
    rw [run_statement]
    unfold deeperR
    have e1 : w64 ((i : Int) + 1) = ((i + 1 : Nat) : Int) := by rw [w64_in (by omega) (by omega)]; omega
    rw [if_neg (by show ¬ ((i : Int) = 200); omega), run_stated_block _ s1, run_block _ s1, hL, h1, e1, show Ps.on ⟨i, ((i + 1 : Nat) : Int), p⟩ = ⟨i + 1, ((i + 1 : Nat) : Int), p⟩ from rfl, blockL_more _ _ _ s2, ih (i + 1) (by omega) m (by omega) p hp hp2]
    simp only [Rs.bind]
    rw [blockL_end _ _ _ s3]
    show Rs.ok _ _ = _
    simp only [Ps.on, nest, List.nil_append]
    rw [w64_in (n := ((i + 1 : Nat) : Int) - 1) (by omega) (by omega), w64_in (n := p + ((j + 1 : Nat) : Int) + 1) (by omega) (by omega)]
    have e2 : ((i + 1 : Nat) : Int) = (i : Int) + 1 := by omega
    rw [e2]
    congr 2
    · omega
    · omega
    · omega
theorem nest_deep {k : Nat} (ho : ∀ i, i < k → tkAt T i = ⟨5, i, (⟨#[123]⟩ : ByteArray), 0⟩) (hk : 200 < k) : ∀ (d i : Nat), i + d = 200 → ∀ (n : Nat), 3 * d + 1 ≤ n → ∀ (p : Int), run T n .statement ⟨i, i, p⟩ = .bad 200 6 := by
  intro d
  induction d with
  | zero =>
    intro i hi n hn p
    obtain ⟨m, rfl⟩ : ∃ m, n = m + 1 := ⟨n - 1, by omega⟩
    have hi : i = 200 := by omega
    subst hi
    rw [run_statement]
    unfold deeperR
    rw [if_pos (by rfl)]
    unfold here tok
    rw [ho 200 (by omega)]
    rfl
  | succ d ih =>
    intro i hi n hn p
    obtain ⟨m, rfl⟩ : ∃ m, n = m + 3 := ⟨n - 3, by omega⟩
    have s1 := sd_at (ho i (by omega)) rfl ((i + 1 : Nat) : Int) p
    have s2 := sd_at (ho (i + 1) (by omega)) rfl ((i + 1 : Nat) : Int) p
    have e1 : w64 ((i : Int) + 1) = ((i + 1 : Nat) : Int) := by rw [w64_in (by omega) (by omega)]; omega
    rw [run_statement]
    unfold deeperR
    rw [if_neg (by show ¬ ((i : Int) = 200); omega)]
    dsimp only
    rw [e1, run_stated_block _ s1, run_block _ s1, show Ps.on ⟨i, ((i + 1 : Nat) : Int), p⟩ = ⟨i + 1, ((i + 1 : Nat) : Int), p⟩ from rfl, blockL_more _ _ _ s2, ih (i + 1) (by omega) m (by omega) p]
    rfl

/-- from a primary up to what is assigned, where no sign follows -/
theorem up_bad {n : Nat} {s : Ps} (hl : leadsB (sd T s) = false) (hn : (sd T s == (⟨#[110, 101, 119]⟩ : ByteArray)) = false) {p q : Int} (h : run T n .primary s = .bad p q) : run T (n + 6) .assigned s = .bad p q := by
  have h1 : run T (n + 1) .head s = .bad p q := by
    show step T (run T n) .head s = _
    dsimp only [step]
    rw [if_neg (by rw [hn]; decide), h]
  have h2 : run T (n + 2) (.chain true) s = .bad p q := by
    show step T (run T (n + 1)) (.chain true) s = _
    dsimp only [step]
    rw [h1]; rfl
  have h3 : run T (n + 3) .unary s = .bad p q := by
    show step T (run T (n + 2)) .unary s = _
    dsimp only [step]
    rw [if_neg (by rw [hl]; decide), h2]
  have h4 : run T (n + 4) (.sides 1) s = .bad p q := by
    show step T (run T (n + 3)) (.sides 1) s = _
    dsimp only [step]
    rw [h3]; rfl
  have h5 : run T (n + 5) .cond s = .bad p q := by
    show step T (run T (n + 4)) .cond s = _
    dsimp only [step]
    rw [h4]; rfl
  show step T (run T (n + 5)) .assigned s = _
  dsimp only [step]
  rw [h5]; rfl
theorem up_ok {n : Nat} {s s2 : Ps} {x : Tr} (hl : leadsB (sd T s) = false) (hn : (sd T s == (⟨#[110, 101, 119]⟩ : ByteArray)) = false) (h : run T n .primary s = .ok x s2) (hc : sd T s2 = (⟨#[41]⟩ : ByteArray) ∨ sd T s2 = (⟨#[59]⟩ : ByteArray)) : run T (n + 6) .assigned s = .ok x s2 := by
  have h1 : run T (n + 1) .head s = .ok x s2 := by
    show step T (run T n) .head s = _
    dsimp only [step]
    rw [if_neg (by rw [hn]; decide), h]
  have h2 : run T (n + 2) (.chain true) s = .ok x s2 := by
    show step T (run T (n + 1)) (.chain true) s = _
    dsimp only [step]
    rw [h1]
    simp only [Rs.bind]
    unfold chainL
    rcases hc with e | e <;> rw [e, if_neg (by decide), if_neg (by decide), if_neg (by decide)]
  have h3 : run T (n + 3) .unary s = .ok x s2 := by
    show step T (run T (n + 2)) .unary s = _
    dsimp only [step]
    rw [if_neg (by rw [hl]; decide), h2]
  have h4 : run T (n + 4) (.sides 1) s = .ok x s2 := by
    show step T (run T (n + 3)) (.sides 1) s = _
    dsimp only [step]
    rw [h3]
    simp only [Rs.bind]
    unfold sidesL
    rcases hc with e | e <;> rw [e, if_pos (by decide)]
  have h5 : run T (n + 5) .cond s = .ok x s2 := by
    show step T (run T (n + 4)) .cond s = _
    dsimp only [step]
    rw [h4]
    simp only [Rs.bind]
    rcases hc with e | e <;> rw [e, if_neg (by decide)]
  show step T (run T (n + 5)) .assigned s = _
  dsimp only [step]
  rw [h5]
  simp only [Rs.bind]
  rcases hc with e | e <;> rw [e, if_neg (by decide)]
theorem run_assign (n : Nat) (s : Ps) : run T (n + 1) .assign s = deeperR T (run T n .assigned) s := rfl
theorem prim_open (n : Nat) {s : Ps} {p : Int} {x : Nat} (h : tok T s = ⟨5, p, (⟨#[40]⟩ : ByteArray), x⟩) : run T (n + 1) .primary s = run T n .test s := by
  show step T (run T n) .primary s = _
  dsimp only [step]
  rw [h]
  rfl
theorem run_test (n : Nat) {s : Ps} (h : sd T s = (⟨#[40]⟩ : ByteArray)) : run T (n + 1) .test s = (run T n .assign s.on).bind fun x s2 => (take1 T (⟨#[41]⟩ : ByteArray) s2).bind fun _ s3 => .ok x s3 := by
  show step T (run T n) .test s = _
  dsimp only [step]
  unfold take1
  rw [h, if_pos (by decide)]
  rfl
theorem par_run {k : Nat} (ho : ∀ i, i < k → tkAt T i = ⟨5, i, (⟨#[40]⟩ : ByteArray), 0⟩) (ha : tkAt T k = ⟨1, k, (⟨#[97]⟩ : ByteArray), 0⟩) (hc : ∀ i, k < i → i ≤ 2 * k → tkAt T i = ⟨5, i, (⟨#[41]⟩ : ByteArray), 0⟩) (hs : tkAt T (2 * k + 1) = ⟨5, ((2 * k + 1 : Nat) : Int), (⟨#[59]⟩ : ByteArray), 0⟩) (hk : k ≤ 198) :
    ∀ (d i : Nat), i + d = k → ∀ (n : Nat), 9 * d + 8 ≤ n → ∀ (p : Int), 0 ≤ p → p ≤ 1000000 → run T n .assign ⟨i, ((i + 1 : Nat) : Int), p⟩ = .ok (.mk 26 k (⟨#[97]⟩ : ByteArray) 0 []) ⟨k + d + 1, ((i + 1 : Nat) : Int), p + 1⟩ := by
  have after : ∀ (d : Nat) (lv pt : Int), d ≤ k → sd T ⟨k + d + 1, lv, pt⟩ = (⟨#[41]⟩ : ByteArray) ∨ sd T ⟨k + d + 1, lv, pt⟩ = (⟨#[59]⟩ : ByteArray) := by
    intro d lv pt hd
    by_cases c : d = k
    · subst c; exact Or.inr (sd_at (by rw [show d + d + 1 = 2 * d + 1 by omega]; exact hs) rfl _ _)
    · exact Or.inl (sd_at (hc (k + d + 1) (by omega) (by omega)) rfl _ _)
  intro d
  induction d with
  | zero =>
    intro i hi n hn p hp hp2
    obtain ⟨m, rfl⟩ : ∃ m, n = m + 8 := ⟨n - 8, by omega⟩
    have hi : i = k := by omega
    subst hi
    have e1 : w64 (((i + 1 : Nat) : Int) + 1) = ((i + 2 : Nat) : Int) := by rw [w64_in (by omega) (by omega)]; omega
    have s1 := sd_at ha rfl ((i + 2 : Nat) : Int) p
    rw [run_assign]
    unfold deeperR
    rw [if_neg (by show ¬ (((i + 1 : Nat) : Int) = 200); omega)]
    dsimp only
    rw [e1]
    have hp0 : run T (m + 1) .primary ⟨i, ((i + 2 : Nat) : Int), p⟩ = .ok (.mk 26 i (⟨#[97]⟩ : ByteArray) 0 []) ⟨i + 1, ((i + 2 : Nat) : Int), p + 1⟩ := by
      show step T (run T m) .primary _ = _
      have ht : tok T ⟨i, ((i + 2 : Nat) : Int), p⟩ = ⟨1, i, (⟨#[97]⟩ : ByteArray), 0⟩ := ha
      dsimp only [step]
      rw [ht, if_neg (fun e => absurd (show (1 : Nat) = 3 from e) (by decide)), if_neg (fun e => absurd (show (1 : Nat) = 4 from e) (by decide)), if_pos rfl]
      unfold mkP here
      rw [ht]
      simp only [Ps.on]
      rw [w64_in (by omega) (by omega)]
    rw [up_ok (by rw [s1]; decide) (by rw [s1]; decide) hp0 (after 0 _ _ (by omega))]
    show Rs.ok _ _ = _
    dsimp only
    rw [w64_in (by omega) (by omega)]
    congr 2
    omega
  | succ d ih =>
    intro i hi n hn p hp hp2
    obtain ⟨m, rfl⟩ : ∃ m, n = m + 9 := ⟨n - 9, by omega⟩
    have e1 : w64 (((i + 1 : Nat) : Int) + 1) = ((i + 1 + 1 : Nat) : Int) := by rw [w64_in (by omega) (by omega)]; omega
    have s1 := sd_at (ho i (by omega)) rfl ((i + 1 + 1 : Nat) : Int) p
    rw [run_assign]
    unfold deeperR
    rw [if_neg (by show ¬ (((i + 1 : Nat) : Int) = 200); omega)]
    dsimp only
    rw [e1]
    have hp0 : run T (m + 2) .primary ⟨i, ((i + 1 + 1 : Nat) : Int), p⟩ = .ok (.mk 26 k (⟨#[97]⟩ : ByteArray) 0 []) ⟨k + d + 1 + 1, ((i + 1 + 1 : Nat) : Int), p + 1⟩ := by
      rw [prim_open (T := T) (s := ⟨i, ((i + 1 + 1 : Nat) : Int), p⟩) (n := m + 1) (ho i (by omega)), run_test m s1, show Ps.on ⟨i, ((i + 1 + 1 : Nat) : Int), p⟩ = ⟨i + 1, ((i + 1 + 1 : Nat) : Int), p⟩ from rfl, ih (i + 1) (by omega) m (by omega) p hp hp2]
      simp only [Rs.bind]
      unfold take1
      rw [sd_at (hc (k + d + 1) (by omega) (by omega)) rfl, if_pos (by decide)]
      rfl
    rw [up_ok (by rw [s1]; decide) (by rw [s1]; decide) hp0 (after (d + 1) _ _ (by omega))]
    show Rs.ok _ _ = _
    dsimp only
    rw [w64_in (by omega) (by omega)]
    congr 2
    omega
theorem par_deep {k : Nat} (ho : ∀ i, i < k → tkAt T i = ⟨5, i, (⟨#[40]⟩ : ByteArray), 0⟩) (ha : tkAt T k = ⟨1, k, (⟨#[97]⟩ : ByteArray), 0⟩) (hk : 198 < k) : ∀ (d i : Nat), i + d = 199 → ∀ (n : Nat), 9 * d + 1 ≤ n → ∀ (p : Int), run T n .assign ⟨i, ((i + 1 : Nat) : Int), p⟩ = .bad 199 6 := by
  intro d
  induction d with
  | zero =>
    intro i hi n hn p
    obtain ⟨m, rfl⟩ : ∃ m, n = m + 1 := ⟨n - 1, by omega⟩
    have hi : i = 199 := by omega
    subst hi
    rw [run_assign]
    unfold deeperR
    rw [if_pos (by rfl)]
    unfold here tok
    by_cases c : k = 199
    · subst c; rw [ha]; rfl
    · rw [ho 199 (by omega)]; rfl
  | succ d ih =>
    intro i hi n hn p
    obtain ⟨m, rfl⟩ : ∃ m, n = m + 9 := ⟨n - 9, by omega⟩
    have e1 : w64 (((i + 1 : Nat) : Int) + 1) = ((i + 1 + 1 : Nat) : Int) := by rw [w64_in (by omega) (by omega)]; omega
    have s1 := sd_at (ho i (by omega)) rfl ((i + 1 + 1 : Nat) : Int) p
    rw [run_assign]
    unfold deeperR
    rw [if_neg (by show ¬ (((i + 1 : Nat) : Int) = 200); omega)]
    dsimp only
    rw [e1]
    have hp0 : run T (m + 2) .primary ⟨i, ((i + 1 + 1 : Nat) : Int), p⟩ = .bad 199 6 := by
      rw [prim_open (T := T) (s := ⟨i, ((i + 1 + 1 : Nat) : Int), p⟩) (n := m + 1) (ho i (by omega)), run_test m s1, show Ps.on ⟨i, ((i + 1 + 1 : Nat) : Int), p⟩ = ⟨i + 1, ((i + 1 + 1 : Nat) : Int), p⟩ from rfl, ih (i + 1) (by omega) m (by omega) p]
      rfl
    rw [up_bad (by rw [s1]; decide) (by rw [s1]; decide) hp0]
    rfl
end
end Go.Proofs.YtjapainhlfedgaaGreatDoor.S
/-
  The tokens of blocks and brackets in one another, and what they are parsed to. Plain mathematics.
-/
namespace Go.Proofs.YtjapainhlfedgaaGreatDoor.S
open Go.RowKit Fl

/-- a byte that is a sign by itself, whatever stands behind it -/
def loneB (c : UInt8) : Bool := signsL.contains [c] && signsL.all (fun s => s.head? != some c || s == [c]) && !iniB c && !isDig c && !(c == 34) && !(c == 39) && !blankB c && !(c == 47)
theorem lone_piece {c : UInt8} (h : loneB c = true) (r : List UInt8) : pieceL (c :: r) = .tok 5 (mkB [c]) 0 1 ∧ ∀ i, passM 0 i i (c :: r) = (i, true) := by
  unfold loneB at h
  simp only [Bool.and_eq_true, Bool.not_eq_true', beq_eq_false_iff_ne] at h
  obtain ⟨⟨⟨⟨⟨⟨⟨h1, h2⟩, h3⟩, h4⟩, h5⟩, h6⟩, h7⟩, h8⟩ := h
  have long : ∀ x l, signB (c :: x :: l) = false := fun x l => by
    cases hs : signB (c :: x :: l) with
    | false => rfl
    | true =>
      unfold signB at hs
      have := List.all_eq_true.1 h2 _ (List.contains_iff_mem.1 hs)
      simp at this
  have hn : signN (c :: r) = 1 := by
    have h1 : signB [c] = true := h1
    unfold signN
    match r with
    | [] => rw [if_neg (by simp), if_neg (by simp), if_pos ⟨by simp, by simpa using h1⟩]
    | [x] => rw [if_neg (by simp), if_neg (by simp [long]), if_pos ⟨by simp, by simpa using h1⟩]
    | x :: y :: r => rw [if_neg (by simp [long]), if_neg (by simp [long]), if_pos ⟨by simp, by simpa using h1⟩]
  constructor
  · rw [pieceL_cons, if_neg (by rw [h3]; decide), if_neg (by rw [h4]; decide), if_neg (by rintro (e | e); exact h5 e; exact h6 e)]
    unfold signL
    rw [hn, if_neg (by decide)]
    rfl
  · intro i
    rw [passM_0, if_neg (by rw [h7]; decide), if_neg (fun e => h8 e.1), if_neg (fun e => h8 e.1)]
theorem drop_at {L : List UInt8} {i : Nat} {c : UInt8} (h : L[i]? = some c) : L.drop i = c :: L.drop (i + 1) := by
  have hi : i < L.length := (List.getElem?_eq_some_iff.1 h).1
  rw [List.drop_eq_getElem_cons hi]
  rw [List.getElem?_eq_getElem hi] at h
  rw [Option.some.inj h]
def rowT (i : Nat) (c : UInt8) (n : Nat) : List Tk := (List.range n).map fun j => ⟨5, ((i + j : Nat) : Int), mkB [c], 0⟩
theorem rowT_len (i : Nat) (c : UInt8) (n : Nat) : (rowT i c n).length = n := by simp [rowT]
theorem rowT_get {i : Nat} {c : UInt8} {n j : Nat} (h : j < n) : (rowT i c n)[j]? = some ⟨5, ((i + j : Nat) : Int), mkB [c], 0⟩ := by simp [rowT, h]
theorem toks_row {c : UInt8} (hc : loneB c = true) (L : List UInt8) : ∀ (n i f : Nat) (acc : List Tk), (∀ j, j < n → L[i + j]? = some c) → acc.length + n ≤ 16384 → toksF (f + n) i (L.drop i) acc = toksF f (i + n) (L.drop (i + n)) (acc ++ rowT i c n)
  | 0, i, f, acc, _, _ => by simp [rowT]
  | n + 1, i, f, acc, h, hl => by
    have h0 := h 0 (by omega)
    rw [Nat.add_zero] at h0
    have hd := drop_at h0
    obtain ⟨k1, k2⟩ := lone_piece hc (L.drop (i + 1))
    have hi : i < L.length := (List.getElem?_eq_some_iff.1 h0).1
    rw [← Nat.add_assoc, toks_step (p := i) (kd := 5) (t := mkB [c]) (n := 0) (wd := 1) (Nat.le_refl _) (by rw [hd]; exact k2 i) hi (by rw [hd]; exact k1) (by omega), toks_row hc L n (i + 1) f _ (fun j hj => by rw [show i + 1 + j = i + (j + 1) by omega]; exact h (j + 1) (by omega)) (by simp; omega)]
    have e : acc ++ [⟨5, (i : Int), mkB [c], 0⟩] ++ rowT (i + 1) c n = acc ++ rowT i c (n + 1) := by
      rw [List.append_assoc]
      congr 1
      unfold rowT
      rw [List.range_succ_eq_map]
      simp [Function.comp_def]
      intro a _
      omega
    rw [e, show i + 1 + n = i + (n + 1) by omega]
theorem manyL_one (c : UInt8) (n : Nat) : manyL [c] n = List.replicate n c := by
  induction n with
  | zero => rfl
  | succ n ih => rw [manyL, ih, List.replicate_succ']
def blockT (k : Nat) : List Tk := rowT 0 123 k ++ rowT k 125 k ++ [⟨0, ((2 * k : Nat) : Int), ⟨#[]⟩, 0⟩]
theorem toks_blocks {k : Nat} (hk : k ≤ 400) : toks (manyL [123] k ++ manyL [125] k) = .ok (blockT k) := by
  rw [manyL_one, manyL_one]
  have hl : (List.replicate k (123 : UInt8) ++ List.replicate k 125).length = 2 * k := by simp; omega
  unfold toks
  rw [hl, if_neg (by omega)]
  generalize hL : List.replicate k (123 : UInt8) ++ List.replicate k 125 = L at hl
  have g1 : ∀ j, j < k → L[0 + j]? = some 123 := fun j hj => by rw [← hL, Nat.zero_add, List.getElem?_append_left (by simpa using hj)]; simp [hj]
  have g2 : ∀ j, j < k → L[k + j]? = some 125 := fun j hj => by rw [← hL, List.getElem?_append_right (by simp)]; simp [hj]
  have e := toks_row (c := 123) (by decide) L k 0 (k + 1) [] g1 (by simp; omega)
  rw [List.drop_zero, Nat.zero_add] at e
  rw [show 2 * k + 1 = k + 1 + k by omega, e, show k + 1 = 1 + k by omega]
  have e2 := toks_row (c := 125) (by decide) L k k 1 ([] ++ rowT 0 123 k) g2 (by simp [rowT_len]; omega)
  rw [e2]
  have : L.drop (k + k) = [] := List.drop_eq_nil_of_le (by omega)
  rw [toks_end (p := k + k) (Nat.le_refl _) (by rw [this, passM_nil]; rfl) (by omega)]
  unfold blockT
  rw [List.nil_append, show 2 * k = k + k by omega]
def brackT (k : Nat) : List Tk := rowT 0 40 k ++ [⟨1, (k : Int), (⟨#[97]⟩ : ByteArray), 0⟩] ++ rowT (k + 1) 41 k ++ [⟨5, ((2 * k + 1 : Nat) : Int), (⟨#[59]⟩ : ByteArray), 0⟩] ++ [⟨0, ((2 * k + 2 : Nat) : Int), ⟨#[]⟩, 0⟩]
theorem toks_bracks {k : Nat} (hk : k ≤ 400) : toks (manyL [40] k ++ [97] ++ manyL [41] k ++ [59]) = .ok (brackT k) := by
  rw [manyL_one, manyL_one]
  have hl : (List.replicate k (40 : UInt8) ++ [97] ++ List.replicate k 41 ++ [59]).length = 2 * k + 2 := by simp; omega
  unfold toks
  rw [hl, if_neg (by omega)]
  generalize hL : List.replicate k (40 : UInt8) ++ [97] ++ List.replicate k 41 ++ [59] = L at hl
  have g1 : ∀ j, j < k → L[0 + j]? = some 40 := fun j hj => by rw [← hL, Nat.zero_add, List.append_assoc, List.append_assoc, List.getElem?_append_left (by simpa using hj)]; simp [hj]
  have g2 : L[k]? = some 97 := by rw [← hL, List.append_assoc, List.append_assoc, List.getElem?_append_right (by simp)]; simp
  have e1 : (List.replicate k (40 : UInt8) ++ [97]).length = k + 1 := by simp
  have e2 : (List.replicate k (40 : UInt8) ++ [97] ++ List.replicate k 41).length = 2 * k + 1 := by simp; omega
  have g3 : ∀ j, j < k → L[k + 1 + j]? = some 41 := fun j hj => by
    rw [← hL, List.getElem?_append_left (by omega), List.getElem?_append_right (by omega), e1, show k + 1 + j - (k + 1) = j by omega]
    simp [hj]
  have g4 : ∀ j, j < 1 → L[2 * k + 1 + j]? = some 59 := fun j hj => by
    have : j = 0 := by omega
    subst this
    rw [← hL, List.getElem?_append_right (by omega), e2, show 2 * k + 1 + 0 - (2 * k + 1) = 0 by omega]
    rfl
  have e := toks_row (c := 40) (by decide) L k 0 (k + 3) [] g1 (by simp; omega)
  rw [List.drop_zero, Nat.zero_add] at e
  rw [show 2 * k + 2 + 1 = k + 3 + k by omega, e, show k + 3 = k + 2 + 1 by omega]
  have hd := drop_at g2
  have hin : innB ((L.drop (k + 1)).headD 0) = false := by
    by_cases h0 : k = 0
    · subst h0
      rw [drop_at (g4 0 (by omega))]
      show innB 59 = false
      decide
    · rw [drop_at (g3 0 (by omega))]
      show innB 41 = false
      decide
  have hne : L.drop (k + 1) ≠ [] := fun e => by have := congrArg List.length e; simp at this; omega
  have hrun : runL innB (97 :: L.drop (k + 1)) = 1 := by
    cases hr : L.drop (k + 1) with
    | nil => exact absurd hr hne
    | cons x r =>
      rw [hr] at hin
      have hin : innB x = false := hin
      unfold runL
      rw [List.takeWhile_cons, if_pos (by decide), List.takeWhile_cons, if_neg (by rw [hin]; decide)]
      rfl
  rw [toks_step (p := k) (kd := 1) (t := (⟨#[97]⟩ : ByteArray)) (n := 0) (wd := 1) (Nat.le_refl _) (by rw [hd, passM_0]; rfl) (by omega) (by
    rw [hd, pieceL_cons, if_pos (by decide)]
    unfold nameL
    rw [hrun, if_neg (by decide)]
    rfl) (by simp [rowT_len]; omega)]
  have e3 := toks_row (c := 41) (by decide) L k (k + 1) 2 ([] ++ rowT 0 40 k ++ [⟨1, (k : Int), (⟨#[97]⟩ : ByteArray), 0⟩]) g3 (by simp [rowT_len]; omega)
  rw [show k + 2 = 2 + k by omega, e3, show k + 1 + k = 2 * k + 1 by omega]
  have e4 := toks_row (c := 59) (by decide) L 1 (2 * k + 1) 1 ([] ++ rowT 0 40 k ++ [⟨1, (k : Int), (⟨#[97]⟩ : ByteArray), 0⟩] ++ rowT (k + 1) 41 k) g4 (by simp [rowT_len]; omega)
  rw [show 2 = 1 + 1 by rfl, e4]
  have : L.drop (2 * k + 1 + 1) = [] := List.drop_eq_nil_of_le (by omega)
  rw [toks_end (p := 2 * k + 1 + 1) (Nat.le_refl _) (by rw [this, passM_nil]; rfl) (by omega)]
  rfl
end Go.Proofs.YtjapainhlfedgaaGreatDoor.S
/-
  What blocks and brackets in one another are parsed to. Plain mathematics.
-/
namespace Go.Proofs.YtjapainhlfedgaaGreatDoor.S
open Go.RowKit Fl

theorem tkAt_of {T : List Tk} {i : Nat} {t : Tk} (h : T[i]? = some t) : tkAt T i = t := by unfold tkAt; rw [List.getD_eq_getElem?_getD, h]; rfl
theorem block_len (k : Nat) : (blockT k).length = 2 * k + 1 := by simp [blockT, rowT_len]; omega
theorem block_open {k i : Nat} (h : i < k) : tkAt (blockT k) i = ⟨5, i, (⟨#[123]⟩ : ByteArray), 0⟩ := tkAt_of (by
  unfold blockT
  rw [List.append_assoc, List.getElem?_append_left (by rw [rowT_len]; exact h), rowT_get h, Nat.zero_add]
  rfl)
theorem block_shut {k i : Nat} (h1 : k ≤ i) (h2 : i < 2 * k) : tkAt (blockT k) i = ⟨5, i, (⟨#[125]⟩ : ByteArray), 0⟩ := tkAt_of (by
  unfold blockT
  rw [List.append_assoc, List.getElem?_append_right (by rw [rowT_len]; exact h1), rowT_len, List.getElem?_append_left (by rw [rowT_len]; omega), rowT_get (by omega), show k + (i - k) = i by omega]
  rfl)
theorem block_end (k : Nat) : tkAt (blockT k) (2 * k) = ⟨0, ((2 * k : Nat) : Int), ⟨#[]⟩, 0⟩ := tkAt_of (by
  unfold blockT
  have e : (rowT 0 123 k ++ rowT k 125 k).length = 2 * k := by simp [rowT_len]; omega
  rw [List.getElem?_append_right (by omega), e, Nat.sub_self]
  rfl)
theorem blocks_parse {k : Nat} (hk : k ≤ 200) : ∃ l, parseP (manyL [123] k ++ manyL [125] k) = .ok l ∧ l.length = k + 1 := by
  unfold parseP
  rw [toks_blocks (by omega)]
  show ∃ l, treeP (blockT k) = .ok l ∧ _
  by_cases h0 : k = 0
  · subst h0
    exact ⟨[⟨1, 0, ⟨#[]⟩, 0, []⟩], by kernel_rfl, rfl⟩
  have hl := block_len k
  have hrun := nest_run (T := blockT k) (k := k) (fun i h => block_open h) (fun i h1 h2 => block_shut h1 h2) hk (by omega) (k - 1) 0 (by omega) (depthOf (blockT k)) (by unfold depthOf; omega) 0 (Int.le_refl _) (by omega)
  have hscript : scriptR (blockT k) (depthOf (blockT k)) ⟨0, 0, 0⟩ = .ok (.mk 1 0 ⟨#[]⟩ 0 [nest (k - 1) 0]) ⟨2 * k, 0, (k : Int) + 1⟩ := by
    unfold scriptR
    have e1 : scriptL (blockT k) (run (blockT k) (depthOf (blockT k)) .statement) ((blockT k).length + 1) [] ⟨0, 0, 0⟩ = .ok [nest (k - 1) 0] ⟨2 * k, 0, (k : Int)⟩ := by
      rw [hl]
      unfold scriptL
      rw [if_neg (by show ¬ (tkAt (blockT k) 0).kind = 0; rw [block_open (show 0 < k by omega)]; decide)]
      rw [show (⟨0, 0, 0⟩ : Ps) = ⟨0, ((0 : Nat) : Int), 0⟩ from rfl, hrun]
      show scriptL _ _ _ _ _ = _
      rw [show 2 * k + 1 = 2 * k + 1 from rfl]
      unfold scriptL
      have : tok (blockT k) ⟨0 + 2 * (k - 1 + 1), ((0 : Nat) : Int), 0 + ((k - 1 + 1 : Nat) : Int)⟩ = ⟨0, ((2 * k : Nat) : Int), ⟨#[]⟩, 0⟩ := by
        unfold tok
        show tkAt _ (0 + 2 * (k - 1 + 1)) = _
        rw [show 0 + 2 * (k - 1 + 1) = 2 * k by omega, block_end]
      rw [this, if_pos rfl]
      simp
      omega
    rw [e1]
    show mkP 1 (here (blockT k) ⟨0, 0, 0⟩) ⟨#[]⟩ 0 [nest (k - 1) 0] ⟨2 * k, 0, (k : Int)⟩ = _
    unfold mkP here tok
    show Rs.ok (Tr.mk 1 (tkAt (blockT k) 0).pos ⟨#[]⟩ 0 [nest (k - 1) 0]) (⟨2 * k, 0, w64 ((k : Int) + 1)⟩ : Ps) = _
    rw [block_open (show 0 < k by omega), w64_mid (by show (-1000 : Int) ≤ (k : Int) + 1; omega) (by show (k : Int) + 1 ≤ 1000; omega)]
    rfl
  unfold treeP
  rw [hscript]
  refine ⟨_, if_neg (by show ¬ (k : Int) + 1 > 16384; omega), ?_⟩
  rw [flatT_len, size_mk, sizes_one, nest_size]
  omega
theorem blocks_deep {k : Nat} (hk : 200 < k) (h4 : k ≤ 400) : parseP (manyL [123] k ++ manyL [125] k) = .err 200 6 := by
  unfold parseP
  rw [toks_blocks (by omega)]
  show treeP (blockT k) = _
  have hl := block_len k
  have hrun := nest_deep (T := blockT k) (k := k) (fun i h => block_open h) hk 200 0 (by omega) (depthOf (blockT k)) (by unfold depthOf; omega) 0
  have hscript : scriptR (blockT k) (depthOf (blockT k)) ⟨0, 0, 0⟩ = .bad 200 6 := by
    unfold scriptR
    have e1 : scriptL (blockT k) (run (blockT k) (depthOf (blockT k)) .statement) ((blockT k).length + 1) [] ⟨0, 0, 0⟩ = .bad 200 6 := by
      rw [hl]
      unfold scriptL
      rw [if_neg (by show ¬ (tkAt (blockT k) 0).kind = 0; rw [block_open (show 0 < k by omega)]; decide), show (⟨0, 0, 0⟩ : Ps) = ⟨0, ((0 : Nat) : Int), 0⟩ from rfl, hrun]
      rfl
    rw [e1]
    rfl
  unfold treeP
  rw [hscript]
theorem brack_len (k : Nat) : (brackT k).length = 2 * k + 3 := by simp [brackT, rowT_len]; omega
theorem brack_open {k i : Nat} (h : i < k) : tkAt (brackT k) i = ⟨5, i, (⟨#[40]⟩ : ByteArray), 0⟩ := tkAt_of (by
  unfold brackT
  rw [List.append_assoc, List.append_assoc, List.append_assoc, List.getElem?_append_left (by rw [rowT_len]; exact h), rowT_get h, Nat.zero_add]
  rfl)
theorem brack_name (k : Nat) : tkAt (brackT k) k = ⟨1, k, (⟨#[97]⟩ : ByteArray), 0⟩ := tkAt_of (by
  unfold brackT
  rw [List.append_assoc, List.append_assoc, List.append_assoc, List.getElem?_append_right (by rw [rowT_len]; omega), rowT_len, Nat.sub_self]
  rfl)
theorem brack_shut {k i : Nat} (h1 : k < i) (h2 : i ≤ 2 * k) : tkAt (brackT k) i = ⟨5, i, (⟨#[41]⟩ : ByteArray), 0⟩ := tkAt_of (by
  unfold brackT
  have e : (rowT 0 40 k ++ [(⟨1, (k : Int), (⟨#[97]⟩ : ByteArray), 0⟩ : Tk)]).length = k + 1 := by simp [rowT_len]
  rw [List.append_assoc, List.append_assoc, List.getElem?_append_right (by omega), e, List.getElem?_append_left (by rw [rowT_len]; omega), rowT_get (by omega), show k + 1 + (i - (k + 1)) = i by omega]
  rfl)
theorem brack_semi (k : Nat) : tkAt (brackT k) (2 * k + 1) = ⟨5, ((2 * k + 1 : Nat) : Int), (⟨#[59]⟩ : ByteArray), 0⟩ := tkAt_of (by
  unfold brackT
  have e : (rowT 0 40 k ++ [(⟨1, (k : Int), (⟨#[97]⟩ : ByteArray), 0⟩ : Tk)] ++ rowT (k + 1) 41 k).length = 2 * k + 1 := by simp [rowT_len]; omega
  rw [List.append_assoc, List.getElem?_append_right (by omega), e, Nat.sub_self]
  rfl)
theorem brack_end (k : Nat) : tkAt (brackT k) (2 * k + 2) = ⟨0, ((2 * k + 2 : Nat) : Int), ⟨#[]⟩, 0⟩ := tkAt_of (by
  unfold brackT
  have e : (rowT 0 40 k ++ [(⟨1, (k : Int), (⟨#[97]⟩ : ByteArray), 0⟩ : Tk)] ++ rowT (k + 1) 41 k ++ [(⟨5, ((2 * k + 1 : Nat) : Int), (⟨#[59]⟩ : ByteArray), 0⟩ : Tk)]).length = 2 * k + 2 := by simp [rowT_len]; omega
  rw [List.getElem?_append_right (by omega), e, Nat.sub_self]
  rfl)
/-- the first statement is a value, and what becomes of it -/
theorem brack_stated (k n : Nat) (s : Ps) (hs : s.next = 0) : run (brackT k) (n + 2) .stated s = ((run (brackT k) n .assign s).bind fun x s1 => (take1 (brackT k) (⟨#[59]⟩ : ByteArray) s1).bind fun _ s2 => .ok x s2).bind fun x s1 => mkP 6 (here (brackT k) s) ⟨#[]⟩ 0 [x] s1 := by
  have hsd : sd (brackT k) s = (⟨#[40]⟩ : ByteArray) ∨ sd (brackT k) s = (⟨#[97]⟩ : ByteArray) := by
    unfold sd saidT tok
    rw [hs]
    by_cases h0 : k = 0
    · subst h0
      rw [brack_name 0]
      exact Or.inr rfl
    · rw [brack_open (show 0 < k by omega)]
      exact Or.inl rfl
  show step (brackT k) (run (brackT k) (n + 1)) .stated s = _
  dsimp only [step]
  have e : run (brackT k) (n + 1) .ended s = (run (brackT k) n .assign s).bind fun x s1 => (take1 (brackT k) (⟨#[59]⟩ : ByteArray) s1).bind fun _ s2 => .ok x s2 := rfl
  rcases hsd with h | h <;> rw [h, if_neg (by decide), if_neg (by decide), if_neg (by decide), if_neg (by decide), if_neg (by decide), if_neg (by decide), if_neg (by decide), if_neg (by decide), if_neg (by decide), if_neg (by decide), if_neg (by decide), if_neg (by decide), e]
theorem bracks_parse {k : Nat} (hk : k ≤ 198) : ∃ l, parseP (manyL [40] k ++ [97] ++ manyL [41] k ++ [59]) = .ok l ∧ l.length = 3 := by
  unfold parseP
  rw [toks_bracks (by omega)]
  show ∃ l, treeP (brackT k) = .ok l ∧ _
  have hl := brack_len k
  obtain ⟨n, hn⟩ : ∃ n, depthOf (brackT k) = n + 3 := ⟨20 * (brackT k).length + 17, by unfold depthOf; omega⟩
  have hrun := par_run (T := brackT k) (k := k) (fun i h => brack_open h) (brack_name k) (fun i h1 h2 => brack_shut h1 h2) (brack_semi k) hk k 0 (by omega) n (by unfold depthOf at hn; omega) 0 (Int.le_refl _) (by omega)
  have hst : run (brackT k) (n + 3) .statement ⟨0, 0, 0⟩ = .ok (.mk 6 (here (brackT k) ⟨0, 1, 0⟩) ⟨#[]⟩ 0 [.mk 26 k (⟨#[97]⟩ : ByteArray) 0 []]) ⟨2 * k + 2, 0, 2⟩ := by
    show deeperR (brackT k) (run (brackT k) (n + 2) .stated) ⟨0, 0, 0⟩ = _
    unfold deeperR
    rw [if_neg (by decide), brack_stated k n _ rfl]
    rw [show ({ next := 0, level := w64 (0 + 1), parts := 0 } : Ps) = ⟨0, ((0 + 1 : Nat) : Int), 0⟩ by rw [w64_mid (by decide) (by decide)]; rfl, hrun]
    show (Rs.bind (Rs.bind (take1 (brackT k) (⟨#[59]⟩ : ByteArray) ⟨k + k + 1, ((0 + 1 : Nat) : Int), 0 + 1⟩) _) _).bind _ = _
    have ht : take1 (brackT k) (⟨#[59]⟩ : ByteArray) ⟨k + k + 1, ((0 + 1 : Nat) : Int), 0 + 1⟩ = .ok () ⟨k + k + 1 + 1, ((0 + 1 : Nat) : Int), 0 + 1⟩ := by
      unfold take1
      have hsm : tkAt (brackT k) (k + k + 1) = ⟨5, ((2 * k + 1 : Nat) : Int), (⟨#[59]⟩ : ByteArray), 0⟩ := by rw [show k + k + 1 = 2 * k + 1 by omega]; exact brack_semi k
      rw [sd_at hsm rfl, if_pos (by decide)]
      rfl
    rw [ht]
    show Rs.ok _ _ = _
    congr 1
    show (⟨k + k + 1 + 1, w64 (((0 + 1 : Nat) : Int) - 1), w64 (0 + 1 + 1)⟩ : Ps) = _
    rw [show k + k + 1 + 1 = 2 * k + 2 by omega, w64_mid (by decide) (by decide), w64_mid (by decide) (by decide)]
    rfl
  have hscript : ∃ t, scriptR (brackT k) (depthOf (brackT k)) ⟨0, 0, 0⟩ = .ok (.mk 1 (here (brackT k) ⟨0, 0, 0⟩) ⟨#[]⟩ 0 [t]) ⟨2 * k + 2, 0, 3⟩ ∧ t.size = 2 := by
    refine ⟨.mk 6 (here (brackT k) ⟨0, 1, 0⟩) ⟨#[]⟩ 0 [.mk 26 k (⟨#[97]⟩ : ByteArray) 0 []], ?_, by simp [Tr.size, Tr.sizes]⟩
    unfold scriptR
    rw [hn]
    have e1 : scriptL (brackT k) (run (brackT k) (n + 3) .statement) ((brackT k).length + 1) [] ⟨0, 0, 0⟩ = .ok [.mk 6 (here (brackT k) ⟨0, 1, 0⟩) ⟨#[]⟩ 0 [.mk 26 k (⟨#[97]⟩ : ByteArray) 0 []]] ⟨2 * k + 2, 0, 2⟩ := by
      rw [hl]
      unfold scriptL
      rw [if_neg (by
        unfold tok
        show ¬ (tkAt (brackT k) 0).kind = 0
        by_cases h0 : k = 0
        · subst h0; rw [brack_name 0]; decide
        · rw [brack_open (show 0 < k by omega)]; decide), hst]
      show scriptL _ _ _ _ _ = _
      unfold scriptL
      rw [if_pos (by show (tkAt (brackT k) (2 * k + 2)).kind = 0; rw [brack_end])]
      rfl
    rw [e1]
    show mkP 1 (here (brackT k) ⟨0, 0, 0⟩) ⟨#[]⟩ 0 _ ⟨2 * k + 2, 0, 2⟩ = _
    unfold mkP
    rw [w64_mid (by show (-1000 : Int) ≤ 2 + 1; decide) (by show (2 : Int) + 1 ≤ 1000; decide)]
    rfl
  obtain ⟨t, h1, h2⟩ := hscript
  unfold treeP
  rw [h1]
  refine ⟨_, if_neg (by show ¬ (3 : Int) > 16384; decide), ?_⟩
  rw [flatT_len, size_mk, sizes_one, h2]
theorem bracks_deep {k : Nat} (hk : 198 < k) (h4 : k ≤ 400) : parseP (manyL [40] k ++ [97] ++ manyL [41] k ++ [59]) = .err 199 6 := by
  unfold parseP
  rw [toks_bracks (by omega)]
  show treeP (brackT k) = _
  have hl := brack_len k
  obtain ⟨n, hn⟩ : ∃ n, depthOf (brackT k) = n + 3 := ⟨20 * (brackT k).length + 17, by unfold depthOf; omega⟩
  have hrun := par_deep (T := brackT k) (k := k) (fun i h => brack_open h) (brack_name k) hk 199 0 (by omega) n (by unfold depthOf at hn; omega) 0
  have hst : run (brackT k) (n + 3) .statement ⟨0, 0, 0⟩ = .bad 199 6 := by
    show deeperR (brackT k) (run (brackT k) (n + 2) .stated) ⟨0, 0, 0⟩ = _
    unfold deeperR
    rw [if_neg (by decide), brack_stated k n _ rfl, show ({ next := 0, level := w64 (0 + 1), parts := 0 } : Ps) = ⟨0, ((0 + 1 : Nat) : Int), 0⟩ by rw [w64_mid (by decide) (by decide)]; rfl, hrun]
    rfl
  have hscript : scriptR (brackT k) (depthOf (brackT k)) ⟨0, 0, 0⟩ = .bad 199 6 := by
    unfold scriptR
    rw [hn]
    have e1 : scriptL (brackT k) (run (brackT k) (n + 3) .statement) ((brackT k).length + 1) [] ⟨0, 0, 0⟩ = .bad 199 6 := by
      rw [hl]
      unfold scriptL
      rw [if_neg (by
        unfold tok
        show ¬ (tkAt (brackT k) 0).kind = 0
        rw [brack_open (show 0 < k by omega)]; decide), hst]
      rfl
    rw [e1]
    rfl
  unfold treeP
  rw [hscript]
end Go.Proofs.YtjapainhlfedgaaGreatDoor.S
/-
  The statement ParseNested: how deep blocks and brackets may stand in one another.
-/
namespace Go.Proofs.YtjapainhlfedgaaGreatDoor.S
open Go.RowKit Fl

theorem nested_ok {s : ByteArray} {l : List Nd} {n : Nat} (hs : s.size ≤ 70000) (h : parseP s.data.toList = .ok l) (hl : l.length = n) (w : World) (htab : TabHere w) :
    Calls Tryz.prog 14 #[.string s] w fun e w' => ∃ A cap, e = .returned (.tuple #[.agg #[.slice A n cap], .int .i64 0, .int .i64 0]) ∧ Below w.heap.size w w' := by
  have k := parse_any s hs w htab
  rw [h] at k
  refine k.mono ?_
  rintro e w1 ⟨v, rfl, ⟨A, cap, cs, rfl, _⟩, h1⟩
  subst hl
  exact ⟨A, cap, rfl, h1⟩
theorem nested_err {s : ByteArray} {p k : Int} (hs : s.size ≤ 70000) (h : parseP s.data.toList = .err p k) (w : World) (htab : TabHere w) :
    Calls Tryz.prog 14 #[.string s] w fun e w' => e = .returned (.tuple #[.agg #[.slice none 0 0], .int .i64 p, .int .i64 k]) ∧ Below w.heap.size w w' := by
  have k := parse_any s hs w htab
  rw [h] at k
  exact k
theorem nested_var {w4 w5 w6 w7 : World} {v : Value} {t : TypeId} (h5 : Below (w4.alloc (.cells #[v] t)).heap.size (w4.alloc (.cells #[v] t)) w5) (h6 : Below w5.heap.size w5 w6) (h7 : Below w6.heap.size w6 w7) : w7.cell? ⟨w4.heap.size, 0, none⟩ = some v ∧ w4.heap.size < w7.heap.size := by
  have hb := below_up (below_up h5 h6) h7
  have hs := hb.size
  have hz : (w4.alloc (.cells #[v] t)).heap.size = w4.heap.size + 1 := by simp
  exact ⟨blk_cell ((hb.block w4.heap.size (by omega)).trans (heap_alloc_new w4 _)) 0, by omega⟩
theorem data_append (a b : List UInt8) : (mkB a ++ mkB b).data.toList = a ++ b := by rw [mkB_append]; rfl
theorem size_append (a b : List UInt8) : (mkB a ++ mkB b).size = a.length + b.length := by rw [mkB_append, mkB_size, List.length_append]
theorem nested_s1 (k : Nat) : (mkB (manyL [123] k) ++ mkB (manyL [125] k)).data.toList = manyL [123] k ++ manyL [125] k := data_append _ _
theorem nested_s2 (k : Nat) : (mkB (manyL [40] k) ++ (⟨#[97]⟩ : ByteArray) ++ mkB (manyL [41] k) ++ (⟨#[59]⟩ : ByteArray)).data.toList = manyL [40] k ++ [97] ++ manyL [41] k ++ [59] := by
  rw [show ((⟨#[97]⟩ : ByteArray) : ByteArray) = mkB [97] from rfl, show ((⟨#[59]⟩ : ByteArray) : ByteArray) = mkB [59] from rfl, mkB_append, mkB_append, mkB_append]
  rfl
theorem nested_z1 {k : Nat} (hk : k ≤ 400) : (mkB (manyL [123] k) ++ mkB (manyL [125] k)).size ≤ 70000 := by rw [size_append, manyL_len, manyL_len]; simp; omega
theorem nested_z2 {k : Nat} (hk : k ≤ 400) : (mkB (manyL [40] k) ++ (⟨#[97]⟩ : ByteArray) ++ mkB (manyL [41] k) ++ (⟨#[59]⟩ : ByteArray)).size ≤ 70000 := by
  rw [show ((⟨#[97]⟩ : ByteArray) : ByteArray) = mkB [97] from rfl, show ((⟨#[59]⟩ : ByteArray) : ByteArray) = mkB [59] from rfl, mkB_append, mkB_append, mkB_append, mkB_size]
  simp [manyL_len]
  omega
theorem nested_h {k : Nat} (hk : k ≤ 400) : (mkB (manyL [123] k)).size ≤ 400 ∧ (mkB (manyL [125] k)).size ≤ 400 ∧ (mkB (manyL [40] k)).size ≤ 400 ∧ (mkB (manyL [41] k)).size ≤ 400 := by
  simp only [mkB_size, manyL_len, List.length_cons, List.length_nil]
  omega
set_option maxHeartbeats 4000000 in
set_option maxRecDepth 100000 in
theorem ParseNested_nat (n : Nat) (w : World) (_hn : n < 65536) (htab : TabHere w) : Calls Tryz.prog 7 #[.int .u16 (n : Int)] w fun e w' => e = .returned (.bool true) ∧ Below w.heap.size w w' := by
  have ka := paralive_any w htab
  obtain ⟨k, hk, h4⟩ : ∃ k : Nat, (n : Int) % 401 = (k : Int) ∧ k ≤ 400 := ⟨n % 401, by omega, by omega⟩
  have hh := nested_h h4
  have HH := Lib.hid hh
  have m1 : ∀ W, Calls Tryz.prog 11 #[.string (⟨#[123]⟩ : ByteArray), .int .i64 (k : Int)] W fun e w' => e = .returned (.string (mkB (manyL [123] k))) ∧ Below W.heap.size W w' := fun W => many_any [123] k W (by decide) (by omega)
  have m2 : ∀ W, Calls Tryz.prog 11 #[.string (⟨#[125]⟩ : ByteArray), .int .i64 (k : Int)] W fun e w' => e = .returned (.string (mkB (manyL [125] k))) ∧ Below W.heap.size W w' := fun W => many_any [125] k W (by decide) (by omega)
  have m3 : ∀ W, Calls Tryz.prog 11 #[.string (⟨#[40]⟩ : ByteArray), .int .i64 (k : Int)] W fun e w' => e = .returned (.string (mkB (manyL [40] k))) ∧ Below W.heap.size W w' := fun W => many_any [40] k W (by decide) (by omega)
  have m4 : ∀ W, Calls Tryz.prog 11 #[.string (⟨#[41]⟩ : ByteArray), .int .i64 (k : Int)] W fun e w' => e = .returned (.string (mkB (manyL [41] k))) ∧ Below W.heap.size W w' := fun W => many_any [41] k W (by decide) (by omega)
  clear hh
  by_cases c1 : k ≤ 198
  · obtain ⟨l1, e1, n1⟩ := blocks_parse (k := k) (by omega)
    obtain ⟨l2, e2, n2⟩ := bracks_parse c1
    have f1 : (k : Int) ≤ 200 := by omega
    have f2 : ¬ 200 < (k : Int) := by omega
    have f3 : (k : Int) ≤ 198 := by omega
    have p1 := fun (W : World) (h : TabHere W) => nested_ok (nested_z1 h4) ((congrArg parseP (nested_s1 k)).trans e1) n1 W h
    have p2 := fun (W : World) (h : TabHere W) => nested_ok (nested_z2 h4) ((congrArg parseP (nested_s2 k)).trans e2) n2 W h
    go_enter Tryz.func7, Tryz.ntmps7
    go_wp2_with (go_at_call 13; refine ka.mono ?_; rintro e w1 ⟨rfl, h1⟩)
    rw [hk]
    clear hk
    go_wp2_with (first
      | (go_at_call 11; (with_reducible refine (m1 _).mono ?_); rintro e w2 ⟨rfl, h2⟩)
      | (go_at_call 11; (with_reducible refine (m2 _).mono ?_); rintro e w3 ⟨rfl, h3⟩)
      | (go_at_call 11; (with_reducible refine (m3 _).mono ?_); rintro e w5 ⟨rfl, h5⟩)
      | (go_at_call 11; (with_reducible refine (m4 _).mono ?_); rintro e w6 ⟨rfl, h6⟩)
      | (go_at_call 14; (with_reducible refine (p1 _ (tab_below htab (below_up (below_up h1 h2) h3))).mono ?_); rintro e w4 ⟨A1, c1, rfl, h4⟩)
      | (go_at_call 14; (with_reducible refine (p2 _ (tab_below htab (below_up (below_up (below_up (below_up (below_up h1 h2) h3) (h4.alloc h4.size _)) h5) h6))).mono ?_); rintro e w7 ⟨A2, c2, rfl, h7⟩; obtain ⟨v0, vl⟩ := nested_var h5 h6 h7))
    all_goals first
      | (exfalso; obtain ⟨z1, z2, z3, z4⟩ := HH.out; omega)
      | (go_ret; exact ⟨rfl, (below_up (below_up (below_up (below_up (below_up (below_up h1 h2) h3) (h4.alloc h4.size _)) h5) h6) h7).alloc (below_up (below_up (below_up (below_up (below_up (below_up h1 h2) h3) (h4.alloc h4.size _)) h5) h6) h7).size _⟩)
  · by_cases c2 : k ≤ 200
    · obtain ⟨l1, e1, n1⟩ := blocks_parse (k := k) c2
      have e2 := bracks_deep (k := k) (by omega) h4
      have f1 : (k : Int) ≤ 200 := by omega
      have f2 : ¬ 200 < (k : Int) := by omega
      have f3 : ¬ (k : Int) ≤ 198 := by omega
      have p1 := fun (W : World) (h : TabHere W) => nested_ok (nested_z1 h4) ((congrArg parseP (nested_s1 k)).trans e1) n1 W h
      have p2 := fun (W : World) (h : TabHere W) => nested_err (nested_z2 h4) ((congrArg parseP (nested_s2 k)).trans e2) W h
      go_enter Tryz.func7, Tryz.ntmps7
      go_wp2_with (go_at_call 13; refine ka.mono ?_; rintro e w1 ⟨rfl, h1⟩)
      rw [hk]
      clear hk
      go_wp2_with (first
        | (go_at_call 11; (with_reducible refine (m1 _).mono ?_); rintro e w2 ⟨rfl, h2⟩)
        | (go_at_call 11; (with_reducible refine (m2 _).mono ?_); rintro e w3 ⟨rfl, h3⟩)
        | (go_at_call 11; (with_reducible refine (m3 _).mono ?_); rintro e w5 ⟨rfl, h5⟩)
        | (go_at_call 11; (with_reducible refine (m4 _).mono ?_); rintro e w6 ⟨rfl, h6⟩)
        | (go_at_call 14; (with_reducible refine (p1 _ (tab_below htab (below_up (below_up h1 h2) h3))).mono ?_); rintro e w4 ⟨A1, c1, rfl, h4⟩)
        | (go_at_call 14; (with_reducible refine (p2 _ (tab_below htab (below_up (below_up (below_up (below_up (below_up h1 h2) h3) (h4.alloc h4.size _)) h5) h6))).mono ?_); rintro e w7 ⟨rfl, h7⟩; obtain ⟨v0, vl⟩ := nested_var h5 h6 h7))
      all_goals first
        | (exfalso; obtain ⟨z1, z2, z3, z4⟩ := HH.out; omega)
        | (go_ret; exact ⟨rfl, (below_up (below_up (below_up (below_up (below_up (below_up h1 h2) h3) (h4.alloc h4.size _)) h5) h6) h7).alloc (below_up (below_up (below_up (below_up (below_up (below_up h1 h2) h3) (h4.alloc h4.size _)) h5) h6) h7).size _⟩)
    · have e1 := blocks_deep (k := k) (by omega) h4
      have e2 := bracks_deep (k := k) (by omega) h4
      have f1 : ¬ (k : Int) ≤ 200 := by omega
      have f2 : 200 < (k : Int) := by omega
      have f3 : ¬ (k : Int) ≤ 198 := by omega
      have p1 := fun (W : World) (h : TabHere W) => nested_err (nested_z1 h4) ((congrArg parseP (nested_s1 k)).trans e1) W h
      have p2 := fun (W : World) (h : TabHere W) => nested_err (nested_z2 h4) ((congrArg parseP (nested_s2 k)).trans e2) W h
      go_enter Tryz.func7, Tryz.ntmps7
      go_wp2_with (go_at_call 13; refine ka.mono ?_; rintro e w1 ⟨rfl, h1⟩)
      rw [hk]
      clear hk
      go_wp2_with (first
        | (go_at_call 11; (with_reducible refine (m1 _).mono ?_); rintro e w2 ⟨rfl, h2⟩)
        | (go_at_call 11; (with_reducible refine (m2 _).mono ?_); rintro e w3 ⟨rfl, h3⟩)
        | (go_at_call 11; (with_reducible refine (m3 _).mono ?_); rintro e w5 ⟨rfl, h5⟩)
        | (go_at_call 11; (with_reducible refine (m4 _).mono ?_); rintro e w6 ⟨rfl, h6⟩)
        | (go_at_call 14; (with_reducible refine (p1 _ (tab_below htab (below_up (below_up h1 h2) h3))).mono ?_); rintro e w4 ⟨rfl, h4⟩)
        | (go_at_call 14; (with_reducible refine (p2 _ (tab_below htab (below_up (below_up (below_up (below_up (below_up h1 h2) h3) (h4.alloc h4.size _)) h5) h6))).mono ?_); rintro e w7 ⟨rfl, h7⟩; obtain ⟨v0, vl⟩ := nested_var h5 h6 h7))
      all_goals first
        | (exfalso; obtain ⟨z1, z2, z3, z4⟩ := HH.out; omega)
        | (go_ret; exact ⟨rfl, (below_up (below_up (below_up (below_up (below_up (below_up h1 h2) h3) (h4.alloc h4.size _)) h5) h6) h7).alloc (below_up (below_up (below_up (below_up (below_up (below_up h1 h2) h3) (h4.alloc h4.size _)) h5) h6) h7).size _⟩)
theorem ParseNested_walk (a : Int) (w : World) (ha : Lit.wf (.int .u16 a) = true) (htab : TabHere w) : Calls Tryz.prog 7 #[.int .u16 a] w fun e w' => e = .returned (.bool true) ∧ Below w.heap.size w w' := by
  have h := ha
  simp only [Lit.wf, Bool.and_eq_true, decide_eq_true_eq] at h
  have hmin : IntKind.u16.min = 0 := rfl
  have hmax : IntKind.u16.max = 65535 := rfl
  obtain ⟨n, rfl⟩ : ∃ n : Nat, a = (n : Int) := ⟨a.toNat, by omega⟩
  exact ParseNested_nat n w (by omega) htab
end Go.Proofs.YtjapainhlfedgaaGreatDoor.S
