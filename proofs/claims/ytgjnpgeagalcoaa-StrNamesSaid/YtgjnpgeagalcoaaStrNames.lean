/-
  StrNames: the limits and the errors have their numbers; examples of the chapter: walks.
-/
import Derived.Test.YtgjnpgeagalcoaaStrParts
namespace Go.Proofs.Ytgjnpgeagalcoaa
open Go.RowKit Fl

/-- an operation that has no answer gives some NaN -/
theorem sn_none {P : Program} {x y : Nat} (h : floatBits .quo .f64 x y = none) (w : World) :
    ∃ v, v < 2 ^ 64 ∧ IsNaN v ∧ ∀ t, (binOp .quo t (.float .f64 x) (.float .f64 y)).run P w = .ok (.float .f64 v) (w.drewN 1) := by
  refine ⟨(Question.nanBits .f64 x y).cut (w.tape w.drawn (.nanBits .f64 x y)), ?_, ?_, ?_⟩
  · unfold Question.cut; dsimp only; omega
  · unfold IsNaN rung Question.cut; dsimp only
    generalize w.tape w.drawn (Question.nanBits FloatKind.f64 x y) = t
    obtain ⟨a, ha, ha2⟩ : ∃ a, a = t % 2 ∧ a < 2 := ⟨_, rfl, Nat.mod_lt _ (by decide)⟩
    obtain ⟨b, hb, hb2⟩ : ∃ b, b = t / 2 % (2 ^ 52 - 1) ∧ b < 2 ^ 52 - 1 := ⟨_, rfl, Nat.mod_lt _ (by decide)⟩
    rw [← ha, ← hb]
    clear ha hb
    have : a = 0 ∨ a = 1 := by omega
    rcases this with c | c <;> subst c <;> omega
  · intro t
    unfold floatBits at h
    simp only at h
    simp [binOp, Op.floatArith, h, Question.forced, World.drewN]

/-- a whole part, reckoned -/
theorem gint_of {x : Nat} {k : Int} (hn : ¬ IsNaN x) (h1 : Ieee.double.order x (F 100) ≠ some .gt) (h2 : Ieee.double.order x (F (-100)) ≠ some .lt) (hi : floatToIntVal .f64 x .i64 = some k) : gint x = k.natAbs := by
  rcases three x with h | h | h
  · exact absurd h hn
  · exfalso
    cases hs : sgn x
    · apply h1; rw [(order_big h 100 (by decide)).1, hs]; rfl
    · apply h2; rw [(order_big h (-100) (by decide)).1, hs]; rfl
  · have := small_toInt h
    rw [hi] at this
    have e := Option.some.inj this
    rw [e]; split <;> omega
theorem place_below {x : Nat} {k : Int} (n : Nat) (hn : ¬ IsNaN x) (h1 : Ieee.double.order x (F 100) ≠ some .gt) (h2 : Ieee.double.order x (F (-100)) ≠ some .lt) (hi : floatToIntVal .f64 x .i64 = some k) (hs : sgn x = true) (hr : rung x ≠ 0) : placeN n x = n - k.natAbs := by
  rw [placeN_neg hn hs hr, gint_of hn h1 h2 hi]
theorem place_above {x : Nat} {k : Int} (n : Nat) (hn : ¬ IsNaN x) (h1 : Ieee.double.order x (F 100) ≠ some .gt) (h2 : Ieee.double.order x (F (-100)) ≠ some .lt) (hi : floatToIntVal .f64 x .i64 = some k) (hs : sgn x = false) : placeN n x = min k.natAbs n := by
  rw [placeN_pos hn (Or.inl hs), gint_of hn h1 h2 hi]

theorem nm1 (v : Nat) (hv : IsNaN v) (w : World) : Calls Try.prog 9 #[.string ⟨#[97, 98, 99, 100, 101]⟩, .float .f64 13835058055282163712, .float .f64 v] w (StrTo ⟨#[]⟩ w) := by
  have h := Part_any ⟨#[97, 98, 99, 100, 101]⟩ 13835058055282163712 v w (by decide)
  have e : partT ⟨#[97, 98, 99, 100, 101]⟩ 13835058055282163712 v = ⟨#[]⟩ := by
    have p1 : placeN 5 13835058055282163712 = 3 := place_below 5 (by unfold IsNaN; decide) (by decide) (by decide) (show floatToIntVal .f64 13835058055282163712 .i64 = some (-2) by decide) (by decide) (by decide)
    have p2 : placeN 5 v = 0 := placeN_nan hv
    unfold partT
    rw [show (⟨#[97, 98, 99, 100, 101]⟩ : ByteArray).size = 5 from rfl, p1, p2]
    decide
  rw [e] at h; exact h

theorem nm2 (w : World) : Calls Try.prog 9 #[.string ⟨#[97, 98, 99, 100, 101]⟩, .float .f64 13835058055282163712, .float .f64 4636666922610458624] w (StrTo ⟨#[100, 101]⟩ w) := by
  have h := Part_any ⟨#[97, 98, 99, 100, 101]⟩ 13835058055282163712 4636666922610458624 w (by decide)
  have e : partT ⟨#[97, 98, 99, 100, 101]⟩ 13835058055282163712 4636666922610458624 = ⟨#[100, 101]⟩ := by
    have p1 : placeN 5 13835058055282163712 = 3 := place_below 5 (by unfold IsNaN; decide) (by decide) (by decide) (show floatToIntVal .f64 13835058055282163712 .i64 = some (-2) by decide) (by decide) (by decide)
    have p2 : placeN 5 4636666922610458624 = 5 := place_above 5 (by unfold IsNaN; decide) (by decide) (by decide) (show floatToIntVal .f64 4636666922610458624 .i64 = some (99) by decide) (by decide)
    unfold partT
    rw [show (⟨#[97, 98, 99, 100, 101]⟩ : ByteArray).size = 5 from rfl, p1, p2]
    decide
  rw [e] at h; exact h

theorem nm3 (w : World) : Calls Try.prog 9 #[.string ⟨#[97, 98, 99]⟩, .float .f64 4611686018427387904, .float .f64 4607182418800017408] w (StrTo ⟨#[]⟩ w) := by
  have h := Part_any ⟨#[97, 98, 99]⟩ 4611686018427387904 4607182418800017408 w (by decide)
  have e : partT ⟨#[97, 98, 99]⟩ 4611686018427387904 4607182418800017408 = ⟨#[]⟩ := by
    have p1 : placeN 3 4611686018427387904 = 2 := place_above 3 (by unfold IsNaN; decide) (by decide) (by decide) (show floatToIntVal .f64 4611686018427387904 .i64 = some (2) by decide) (by decide)
    have p2 : placeN 3 4607182418800017408 = 1 := place_above 3 (by unfold IsNaN; decide) (by decide) (by decide) (show floatToIntVal .f64 4607182418800017408 .i64 = some (1) by decide) (by decide)
    unfold partT
    rw [show (⟨#[97, 98, 99]⟩ : ByteArray).size = 3 from rfl, p1, p2]
    decide
  rw [e] at h; exact h

theorem nm4 (v : Nat) (hv : IsNaN v) (w : World) : Calls Try.prog 9 #[.string ⟨#[97, 98, 99]⟩, .float .f64 v, .float .f64 4613712638259704627] w (StrTo ⟨#[97, 98]⟩ w) := by
  have h := Part_any ⟨#[97, 98, 99]⟩ v 4613712638259704627 w (by decide)
  have e : partT ⟨#[97, 98, 99]⟩ v 4613712638259704627 = ⟨#[97, 98]⟩ := by
    have p1 : placeN 3 v = 0 := placeN_nan hv
    have p2 : placeN 3 4613712638259704627 = 2 := place_above 3 (by unfold IsNaN; decide) (by decide) (by decide) (show floatToIntVal .f64 4613712638259704627 .i64 = some (2) by decide) (by decide)
    unfold partT
    rw [show (⟨#[97, 98, 99]⟩ : ByteArray).size = 3 from rfl, p1, p2]
    decide
  rw [e] at h; exact h

theorem nm5 (w : World) : Calls Try.prog 9 #[.string ⟨#[97, 98, 99]⟩, .float .f64 13844628204490326016, .float .f64 13832806255468478464] w (StrTo ⟨#[97, 98]⟩ w) := by
  have h := Part_any ⟨#[97, 98, 99]⟩ 13844628204490326016 13832806255468478464 w (by decide)
  have e : partT ⟨#[97, 98, 99]⟩ 13844628204490326016 13832806255468478464 = ⟨#[97, 98]⟩ := by
    have p1 : placeN 3 13844628204490326016 = 0 := place_below 3 (by unfold IsNaN; decide) (by decide) (by decide) (show floatToIntVal .f64 13844628204490326016 .i64 = some (-9) by decide) (by decide) (by decide)
    have p2 : placeN 3 13832806255468478464 = 2 := place_below 3 (by unfold IsNaN; decide) (by decide) (by decide) (show floatToIntVal .f64 13832806255468478464 .i64 = some (-1) by decide) (by decide) (by decide)
    unfold partT
    rw [show (⟨#[97, 98, 99]⟩ : ByteArray).size = 3 from rfl, p1, p2]
    decide
  rw [e] at h; exact h

theorem nm6 (w : World) (hw : ML w) : Calls Try.prog 10 #[.string ⟨#[98, 97, 110, 97, 110, 97]⟩, .string ⟨#[97, 110]⟩, .int .i64 (2)] w fun e w' => e = .returned (.int .i64 (3)) ∧ w = w' := by
  have h := Find_any ⟨#[98, 97, 110, 97, 110, 97]⟩ ⟨#[97, 110]⟩ (2) w hw (by decide)
  rw [show findI ⟨#[98, 97, 110, 97, 110, 97]⟩ ⟨#[97, 110]⟩ (2) = 3 by decide] at h; exact h

theorem nm7 (w : World) (hw : ML w) : Calls Try.prog 10 #[.string ⟨#[97, 98, 99]⟩, .string ⟨#[]⟩, .int .i64 (9)] w fun e w' => e = .returned (.int .i64 (3)) ∧ w = w' := by
  have h := Find_any ⟨#[97, 98, 99]⟩ ⟨#[]⟩ (9) w hw (by decide)
  rw [show findI ⟨#[97, 98, 99]⟩ ⟨#[]⟩ (9) = 3 by decide] at h; exact h

theorem nm8 (w : World) (hw : ML w) : Calls Try.prog 10 #[.string ⟨#[97, 98, 99]⟩, .string ⟨#[100]⟩, .int .i64 (-1)] w fun e w' => e = .returned (.int .i64 (-1)) ∧ w = w' := by
  have h := Find_any ⟨#[97, 98, 99]⟩ ⟨#[100]⟩ (-1) w hw (by decide)
  rw [show findI ⟨#[97, 98, 99]⟩ ⟨#[100]⟩ (-1) = -1 by decide] at h; exact h

theorem nm9 (w : World) (hw : ML w) : Calls Try.prog 10 #[.string ⟨#[]⟩, .string ⟨#[]⟩, .int .i64 (0)] w fun e w' => e = .returned (.int .i64 (0)) ∧ w = w' := by
  have h := Find_any ⟨#[]⟩ ⟨#[]⟩ (0) w hw (by decide)
  rw [show findI ⟨#[]⟩ ⟨#[]⟩ (0) = 0 by decide] at h; exact h

theorem nm10 (w : World) : Calls Try.prog 11 #[.string ⟨#[92, 120, 52, 49, 98]⟩] w (Str3To (⟨#[65, 98]⟩, 0, 0) w) := by
  have h := Plain_any ⟨#[92, 120, 52, 49, 98]⟩ w (by decide)
  rw [show plainO ⟨#[92, 120, 52, 49, 98]⟩ = (⟨#[65, 98]⟩, 0, 0) by decide] at h; exact h

theorem nm11 (w : World) : Calls Try.prog 11 #[.string ⟨#[97, 92, 113]⟩] w (Str3To (⟨#[]⟩, 1, 5) w) := by
  have h := Plain_any ⟨#[97, 92, 113]⟩ w (by decide)
  rw [show plainO ⟨#[97, 92, 113]⟩ = (⟨#[]⟩, 1, 5) by decide] at h; exact h

theorem nm12 (w : World) : Calls Try.prog 11 #[.string ⟨#[92, 120, 52]⟩] w (Str3To (⟨#[]⟩, 0, 5) w) := by
  have h := Plain_any ⟨#[92, 120, 52]⟩ w (by decide)
  rw [show plainO ⟨#[92, 120, 52]⟩ = (⟨#[]⟩, 0, 5) by decide] at h; exact h

theorem nm13 (w : World) : Calls Try.prog 12 #[.string ⟨#[97, 34, 10, 255]⟩] w (StrTo ⟨#[34, 97, 92, 34, 92, 110, 92, 120, 102, 102, 34]⟩ w) := by
  have h := Quote_any ⟨#[97, 34, 10, 255]⟩ w (by decide)
  rw [show (⟨(quoteL (⟨#[97, 34, 10, 255]⟩ : ByteArray).data.toList).toArray⟩ : ByteArray) = ⟨#[34, 97, 92, 34, 92, 110, 92, 120, 102, 102, 34]⟩ by decide] at h; exact h

theorem nm14 (w : World) : Calls Try.prog 13 #[.string ⟨#[97, 98]⟩, .int .i64 (2)] w (StrIntTo ⟨#[97, 98, 97, 98]⟩ 0 w) := by
  have h := Repeat_any ⟨#[97, 98]⟩ (2) w (by decide) (by omega)
  rw [show repT ⟨#[97, 98]⟩ (2) = ⟨#[97, 98, 97, 98]⟩ by decide, show repE ⟨#[97, 98]⟩ (2) = 0 by decide] at h; exact h

theorem nm15 (w : World) : Calls Try.prog 13 #[.string ⟨#[97]⟩, .int .i64 (-1)] w (StrIntTo ⟨#[]⟩ 2 w) := by
  have h := Repeat_any ⟨#[97]⟩ (-1) w (by decide) (by omega)
  rw [show repT ⟨#[97]⟩ (-1) = ⟨#[]⟩ by decide, show repE ⟨#[97]⟩ (-1) = 2 by decide] at h; exact h

theorem nm16 (w : World) : Calls Try.prog 13 #[.string ⟨#[97]⟩, .int .i64 (4097)] w (StrIntTo ⟨#[]⟩ 20 w) := by
  have h := Repeat_any ⟨#[97]⟩ (4097) w (by decide) (by omega)
  rw [show repT ⟨#[97]⟩ (4097) = ⟨#[]⟩ by decide, show repE ⟨#[97]⟩ (4097) = 20 by decide] at h; exact h

theorem nm17 (w : World) : Calls Try.prog 13 #[.string ⟨#[]⟩, .int .i64 (9)] w (StrIntTo ⟨#[]⟩ 0 w) := by
  have h := Repeat_any ⟨#[]⟩ (9) w (by decide) (by omega)
  rw [show repT ⟨#[]⟩ (9) = ⟨#[]⟩ by decide, show repE ⟨#[]⟩ (9) = 0 by decide] at h; exact h

theorem nm18 (w : World) : Calls Try.prog 14 #[.string ⟨#[97, 98, 99]⟩, .int .i64 (2)] w (StrBoolTo ⟨#[99]⟩ true w) := by
  have h := At_any ⟨#[97, 98, 99]⟩ (2) w (by decide)
  rw [show atT ⟨#[97, 98, 99]⟩ (2) = ⟨#[99]⟩ by decide, show atB ⟨#[97, 98, 99]⟩ (2) = true by decide] at h; exact h

theorem nm19 (w : World) : Calls Try.prog 14 #[.string ⟨#[97, 98, 99]⟩, .int .i64 (3)] w (StrBoolTo ⟨#[]⟩ false w) := by
  have h := At_any ⟨#[97, 98, 99]⟩ (3) w (by decide)
  rw [show atT ⟨#[97, 98, 99]⟩ (3) = ⟨#[]⟩ by decide, show atB ⟨#[97, 98, 99]⟩ (3) = false by decide] at h; exact h

theorem nm20 (w : World) : Calls Try.prog 15 #[.string ⟨#[32, 97, 32, 13, 10]⟩] w (StrTo ⟨#[97]⟩ w) := by
  have h := Trim_any ⟨#[32, 97, 32, 13, 10]⟩ w (by decide)
  rw [show trimT ⟨#[32, 97, 32, 13, 10]⟩ = ⟨#[97]⟩ by decide] at h; exact h

theorem nm21 (w : World) : Calls Try.prog 16 #[.string ⟨#[97]⟩, .string ⟨#[97, 98]⟩] w fun e w' => e = .returned (.bool true) ∧ w = w' := by
  have h := Less_any ⟨#[97]⟩ ⟨#[97, 98]⟩ w
  rw [show Op.bytesLess (⟨#[97]⟩ : ByteArray).data.toList (⟨#[97, 98]⟩ : ByteArray).data.toList = true by decide] at h; exact h

theorem nm22 (w : World) : Calls Try.prog 16 #[.string ⟨#[98]⟩, .string ⟨#[97, 98]⟩] w fun e w' => e = .returned (.bool false) ∧ w = w' := by
  have h := Less_any ⟨#[98]⟩ ⟨#[97, 98]⟩ w
  rw [show Op.bytesLess (⟨#[98]⟩ : ByteArray).data.toList (⟨#[97, 98]⟩ : ByteArray).data.toList = false by decide] at h; exact h

set_option maxHeartbeats 4000000 in
set_option maxRecDepth 1000000 in
theorem StrNames_walk (w : World) (hsh : w.ShapedOpen Try.prog) :
    Calls Try.prog 3 #[] w fun e w' => e = .returned (.bool true) ∧ Below w.heap.size w w' := by
  have m0 := ml_shaped hsh
  obtain ⟨v, _, hv, hr0⟩ := sn_none (P := Try.prog) (x := 0) (y := 0) (by decide) w
  have hr := hr0 22
  have b := World.drewN_below (Below.refl w.heap.size w) 1
  clear hsh hr0
  go_enter Try.func3, Try.ntmps3
  go_wp2_with (first
    | (go_at_call 9; ((with_reducible refine (nm1 _ hv _).mono ?_); rintro e w1 ⟨rfl, h1⟩; have b := below_up b h1; clear h1))
    | (go_at_call 9; ((with_reducible refine (nm2 _).mono ?_); rintro e w1 ⟨rfl, h1⟩; have b := below_up b h1; clear h1))
    | (go_at_call 9; ((with_reducible refine (nm3 _).mono ?_); rintro e w1 ⟨rfl, h1⟩; have b := below_up b h1; clear h1))
    | (go_at_call 9; ((with_reducible refine (nm4 _ hv _).mono ?_); rintro e w1 ⟨rfl, h1⟩; have b := below_up b h1; clear h1))
    | (go_at_call 9; ((with_reducible refine (nm5 _).mono ?_); rintro e w1 ⟨rfl, h1⟩; have b := below_up b h1; clear h1))
    | (go_at_call 10; ((with_reducible refine (nm6 _ (m0.below b)).mono ?_); rintro e w1 ⟨rfl, rfl⟩))
    | (go_at_call 10; ((with_reducible refine (nm7 _ (m0.below b)).mono ?_); rintro e w1 ⟨rfl, rfl⟩))
    | (go_at_call 10; ((with_reducible refine (nm8 _ (m0.below b)).mono ?_); rintro e w1 ⟨rfl, rfl⟩))
    | (go_at_call 10; ((with_reducible refine (nm9 _ (m0.below b)).mono ?_); rintro e w1 ⟨rfl, rfl⟩))
    | (go_at_call 11; ((with_reducible refine (nm10 _).mono ?_); rintro e w1 ⟨rfl, h1⟩; have b := below_up b h1; clear h1))
    | (go_at_call 11; ((with_reducible refine (nm11 _).mono ?_); rintro e w1 ⟨rfl, h1⟩; have b := below_up b h1; clear h1))
    | (go_at_call 11; ((with_reducible refine (nm12 _).mono ?_); rintro e w1 ⟨rfl, h1⟩; have b := below_up b h1; clear h1))
    | (go_at_call 12; ((with_reducible refine (nm13 _).mono ?_); rintro e w1 ⟨rfl, h1⟩; have b := below_up b h1; clear h1))
    | (go_at_call 13; ((with_reducible refine (nm14 _).mono ?_); rintro e w1 ⟨rfl, h1⟩; have b := below_up b h1; clear h1))
    | (go_at_call 13; ((with_reducible refine (nm15 _).mono ?_); rintro e w1 ⟨rfl, h1⟩; have b := below_up b h1; clear h1))
    | (go_at_call 13; ((with_reducible refine (nm16 _).mono ?_); rintro e w1 ⟨rfl, h1⟩; have b := below_up b h1; clear h1))
    | (go_at_call 13; ((with_reducible refine (nm17 _).mono ?_); rintro e w1 ⟨rfl, h1⟩; have b := below_up b h1; clear h1))
    | (go_at_call 14; ((with_reducible refine (nm18 _).mono ?_); rintro e w1 ⟨rfl, h1⟩; have b := below_up b h1; clear h1))
    | (go_at_call 14; ((with_reducible refine (nm19 _).mono ?_); rintro e w1 ⟨rfl, h1⟩; have b := below_up b h1; clear h1))
    | (go_at_call 15; ((with_reducible refine (nm20 _).mono ?_); rintro e w1 ⟨rfl, h1⟩; have b := below_up b h1; clear h1))
    | (go_at_call 16; ((with_reducible refine (nm21 _).mono ?_); rintro e w1 ⟨rfl, rfl⟩))
    | (go_at_call 16; ((with_reducible refine (nm22 _).mono ?_); rintro e w1 ⟨rfl, rfl⟩))
    | (go_at_call 17; ((with_reducible refine (alive_any _).mono ?_); rintro e w1 ⟨rfl, h1⟩; have b := below_up b h1; clear h1)))
  go_ret
  exact ⟨rfl, b⟩
end Go.Proofs.Ytgjnpgeagalcoaa
