/-
  NumBack, its ways: one theorem for each way through the Go text; the results of the calls are given as hypotheses.
-/
import Derived.Test.YtggcepoolcfpgaaNumBack
namespace Go.Proofs.Ytggcepoolcfpgaa
open Go.RowKit Fl

def BadAt (w : World) (e : Ending) (w' : World) : Prop := ∃ v m, e = .returned (.tuple #[.float .f64 v, .int .i64 10]) ∧ w' = w.drewN m
theorem badAt {w : World} {e : Ending} {w' : World} (h : RetR (.err 10) w e w') : BadAt w e w' := by
  obtain ⟨v, k, m, ⟨rfl, rfl⟩, h2, h3⟩ := h
  exact ⟨0, m, h2, h3⟩
def CallsOk (f : FuncId) (x y z : Nat) : Prop := ∀ w, Calls Try.prog f #[.float .f64 x, .float .f64 y] w (OkAt z w)
def CallsBad (f : FuncId) (x y : Nat) : Prop := ∀ w, Calls Try.prog f #[.float .f64 x, .float .f64 y] w (BadAt w)

set_option maxHeartbeats 1000000 in
set_option maxRecDepth 100000 in
theorem nb_111err (x y fs fp fq : Nat) (m1 : ∀ w, Calls Try.prog 20 #[.float .f64 x] w fun e w' => e = .returned (.bool true) ∧ w = w')
    (m2 : ∀ w, Calls Try.prog 20 #[.float .f64 y] w fun e w' => e = .returned (.bool true) ∧ w = w')
    (hx : FloatKind.f64.format.order x x = some .eq) (hy : FloatKind.f64.format.order y y = some .eq)
    (ox2 : (FloatKind.f64.format.order x 0 != some Ordering.eq) = true)
    (oy2 : (FloatKind.f64.format.order y 0 != some Ordering.eq) = true)
    (c1 : CallsOk 7 x y fs)
    (c2 : CallsOk 8 fs y x)
    (c3 : CallsOk 9 x y fp)
    (c4 : CallsOk 10 fp y x)
    (c5 : CallsOk 10 x y fq)
    (hq : FloatKind.f64.format.order fq fq = some .eq)
    (c6 : CallsOk 9 fq y x)
    (c7 : CallsBad 11 x y) (w : World) :
    Calls Try.prog 6 #[.float .f64 x, .float .f64 y] w fun e w' => e = .returned (.bool true) ∧ Below w.heap.size w w' := by
  have c1 : ∀ w, Calls Try.prog 7 #[.float .f64 x, .float .f64 y] w (OkAt fs w) := c1
  have c2 : ∀ w, Calls Try.prog 8 #[.float .f64 fs, .float .f64 y] w (OkAt x w) := c2
  have c3 : ∀ w, Calls Try.prog 9 #[.float .f64 x, .float .f64 y] w (OkAt fp w) := c3
  have c4 : ∀ w, Calls Try.prog 10 #[.float .f64 fp, .float .f64 y] w (OkAt x w) := c4
  have c5 : ∀ w, Calls Try.prog 10 #[.float .f64 x, .float .f64 y] w (OkAt fq w) := c5
  have c6 : ∀ w, Calls Try.prog 9 #[.float .f64 fq, .float .f64 y] w (OkAt x w) := c6
  have c7 : ∀ w, Calls Try.prog 11 #[.float .f64 x, .float .f64 y] w (BadAt w) := c7
  go_enter Try.func6, Try.ntmps6
  go_wp2_with (first
    | (go_at_call 30; refine (alive_any _).mono ?_; rintro e w' ⟨n1, rfl, rfl⟩)
    | (go_at_call 20; ((with_reducible refine (m1 _).mono ?_); rintro e w' ⟨rfl, rfl⟩))
    | (go_at_call 20; ((with_reducible refine (m2 _).mono ?_); rintro e w' ⟨rfl, rfl⟩))
    | (go_at_call 31; refine (lawnone_any _ _).mono ?_; rintro e w' ⟨rfl, rfl⟩)
    | (go_at_call 7; ((with_reducible refine (c1 _).mono ?_); rintro e w' ⟨p1, rfl, rfl⟩))
    | (go_at_call 8; ((with_reducible refine (c2 _).mono ?_); rintro e w' ⟨p2, rfl, rfl⟩))
    | (go_at_call 9; ((with_reducible refine (c3 _).mono ?_); rintro e w' ⟨p3, rfl, rfl⟩))
    | (go_at_call 10; ((with_reducible refine (c4 _).mono ?_); rintro e w' ⟨p4, rfl, rfl⟩))
    | (go_at_call 10; ((with_reducible refine (c5 _).mono ?_); rintro e w' ⟨p5, rfl, rfl⟩))
    | (go_at_call 9; ((with_reducible refine (c6 _).mono ?_); rintro e w' ⟨p6, rfl, rfl⟩))
    | (go_at_call 11; ((with_reducible refine (c7 _).mono ?_); rintro e w' ⟨v7, p7, rfl, rfl⟩)))
  go_ret
  exact ⟨rfl, below_drawn _ _⟩

set_option maxHeartbeats 1000000 in
set_option maxRecDepth 100000 in
theorem nb_111eq (x y fs fp fq fr ft fz fn : Nat) (m1 : ∀ w, Calls Try.prog 20 #[.float .f64 x] w fun e w' => e = .returned (.bool true) ∧ w = w')
    (m2 : ∀ w, Calls Try.prog 20 #[.float .f64 y] w fun e w' => e = .returned (.bool true) ∧ w = w')
    (hx : FloatKind.f64.format.order x x = some .eq) (hy : FloatKind.f64.format.order y y = some .eq)
    (ox2 : (FloatKind.f64.format.order x 0 != some Ordering.eq) = true)
    (oy1 : (FloatKind.f64.format.order y 0 == some Ordering.eq) = false)
    (oy2 : (FloatKind.f64.format.order y 0 != some Ordering.eq) = true)
    (c1 : CallsOk 7 x y fs)
    (c2 : CallsOk 8 fs y x)
    (c3 : CallsOk 9 x y fp)
    (c4 : CallsOk 10 fp y x)
    (c5 : CallsOk 10 x y fq)
    (hq : FloatKind.f64.format.order fq fq = some .eq)
    (c6 : CallsOk 9 fq y x)
    (c7 : CallsOk 11 x y fr)
    (c8 : CallsOk 8 x fr ft)
    (ot1 : (FloatKind.f64.format.order ft 0 == some Ordering.eq) = false)
    (c9 : CallsOk 10 ft y fz)
    (hz : FloatKind.f64.format.order fz fz = some .eq)
    (hr : FloatKind.f64.format.order fr 0 = some .eq)
    (hsz : ∀ w, Calls Try.prog 32 #[.float .f64 y] w fun e w' => e = .returned (.float .f64 fn) ∧ w = w')
    (hl1 : FloatKind.f64.format.order fr fn = some .lt) (hl2 : FloatKind.f64.format.order fr (Op.negFloat .f64 fn) = some .gt) (w : World) :
    Calls Try.prog 6 #[.float .f64 x, .float .f64 y] w fun e w' => e = .returned (.bool true) ∧ Below w.heap.size w w' := by
  have c1 : ∀ w, Calls Try.prog 7 #[.float .f64 x, .float .f64 y] w (OkAt fs w) := c1
  have c2 : ∀ w, Calls Try.prog 8 #[.float .f64 fs, .float .f64 y] w (OkAt x w) := c2
  have c3 : ∀ w, Calls Try.prog 9 #[.float .f64 x, .float .f64 y] w (OkAt fp w) := c3
  have c4 : ∀ w, Calls Try.prog 10 #[.float .f64 fp, .float .f64 y] w (OkAt x w) := c4
  have c5 : ∀ w, Calls Try.prog 10 #[.float .f64 x, .float .f64 y] w (OkAt fq w) := c5
  have c6 : ∀ w, Calls Try.prog 9 #[.float .f64 fq, .float .f64 y] w (OkAt x w) := c6
  have c7 : ∀ w, Calls Try.prog 11 #[.float .f64 x, .float .f64 y] w (OkAt fr w) := c7
  have c8 : ∀ w, Calls Try.prog 8 #[.float .f64 x, .float .f64 fr] w (OkAt ft w) := c8
  have c9 : ∀ w, Calls Try.prog 10 #[.float .f64 ft, .float .f64 y] w (OkAt fz w) := c9
  go_enter Try.func6, Try.ntmps6
  go_wp2_with (first
    | (go_at_call 30; refine (alive_any _).mono ?_; rintro e w' ⟨n1, rfl, rfl⟩)
    | (go_at_call 20; ((with_reducible refine (m1 _).mono ?_); rintro e w' ⟨rfl, rfl⟩))
    | (go_at_call 20; ((with_reducible refine (m2 _).mono ?_); rintro e w' ⟨rfl, rfl⟩))
    | (go_at_call 31; refine (lawnone_any _ _).mono ?_; rintro e w' ⟨rfl, rfl⟩)
    | (go_at_call 7; ((with_reducible refine (c1 _).mono ?_); rintro e w' ⟨p1, rfl, rfl⟩))
    | (go_at_call 8; ((with_reducible refine (c2 _).mono ?_); rintro e w' ⟨p2, rfl, rfl⟩))
    | (go_at_call 9; ((with_reducible refine (c3 _).mono ?_); rintro e w' ⟨p3, rfl, rfl⟩))
    | (go_at_call 10; ((with_reducible refine (c4 _).mono ?_); rintro e w' ⟨p4, rfl, rfl⟩))
    | (go_at_call 10; ((with_reducible refine (c5 _).mono ?_); rintro e w' ⟨p5, rfl, rfl⟩))
    | (go_at_call 9; ((with_reducible refine (c6 _).mono ?_); rintro e w' ⟨p6, rfl, rfl⟩))
    | (go_at_call 11; ((with_reducible refine (c7 _).mono ?_); rintro e w' ⟨p7, rfl, rfl⟩))
    | (go_at_call 8; ((with_reducible refine (c8 _).mono ?_); rintro e w' ⟨p8, rfl, rfl⟩))
    | (go_at_call 10; ((with_reducible refine (c9 _).mono ?_); rintro e w' ⟨p9, rfl, rfl⟩))
    | (go_at_call 32; refine (hsz _).mono ?_; rintro e w' ⟨rfl, rfl⟩))
  go_ret
  exact ⟨rfl, below_drawn _ _⟩

set_option maxHeartbeats 1000000 in
set_option maxRecDepth 100000 in
theorem nb_110t0 (x y fs fp fr ft : Nat) (m1 : ∀ w, Calls Try.prog 20 #[.float .f64 x] w fun e w' => e = .returned (.bool true) ∧ w = w')
    (m2 : ∀ w, Calls Try.prog 20 #[.float .f64 y] w fun e w' => e = .returned (.bool true) ∧ w = w')
    (hx : FloatKind.f64.format.order x x = some .eq) (hy : FloatKind.f64.format.order y y = some .eq)
    (ox2 : (FloatKind.f64.format.order x 0 != some Ordering.eq) = true)
    (oy1 : (FloatKind.f64.format.order y 0 == some Ordering.eq) = false)
    (oy2 : (FloatKind.f64.format.order y 0 != some Ordering.eq) = true)
    (c1 : CallsOk 7 x y fs)
    (c2 : CallsOk 8 fs y x)
    (c3 : CallsOk 9 x y fp)
    (c4 : CallsOk 10 fp y x)
    (c5 : CallsBad 10 x y)
    (c7 : CallsOk 11 x y fr)
    (c8 : CallsOk 8 x fr ft)
    (ht : FloatKind.f64.format.order ft 0 = some .eq) (hr : FloatKind.f64.format.order fr x = some .eq) (w : World) :
    Calls Try.prog 6 #[.float .f64 x, .float .f64 y] w fun e w' => e = .returned (.bool true) ∧ Below w.heap.size w w' := by
  have c1 : ∀ w, Calls Try.prog 7 #[.float .f64 x, .float .f64 y] w (OkAt fs w) := c1
  have c2 : ∀ w, Calls Try.prog 8 #[.float .f64 fs, .float .f64 y] w (OkAt x w) := c2
  have c3 : ∀ w, Calls Try.prog 9 #[.float .f64 x, .float .f64 y] w (OkAt fp w) := c3
  have c4 : ∀ w, Calls Try.prog 10 #[.float .f64 fp, .float .f64 y] w (OkAt x w) := c4
  have c5 : ∀ w, Calls Try.prog 10 #[.float .f64 x, .float .f64 y] w (BadAt w) := c5
  have c7 : ∀ w, Calls Try.prog 11 #[.float .f64 x, .float .f64 y] w (OkAt fr w) := c7
  have c8 : ∀ w, Calls Try.prog 8 #[.float .f64 x, .float .f64 fr] w (OkAt ft w) := c8
  go_enter Try.func6, Try.ntmps6
  go_wp2_with (first
    | (go_at_call 30; refine (alive_any _).mono ?_; rintro e w' ⟨n1, rfl, rfl⟩)
    | (go_at_call 20; ((with_reducible refine (m1 _).mono ?_); rintro e w' ⟨rfl, rfl⟩))
    | (go_at_call 20; ((with_reducible refine (m2 _).mono ?_); rintro e w' ⟨rfl, rfl⟩))
    | (go_at_call 31; refine (lawnone_any _ _).mono ?_; rintro e w' ⟨rfl, rfl⟩)
    | (go_at_call 7; ((with_reducible refine (c1 _).mono ?_); rintro e w' ⟨p1, rfl, rfl⟩))
    | (go_at_call 8; ((with_reducible refine (c2 _).mono ?_); rintro e w' ⟨p2, rfl, rfl⟩))
    | (go_at_call 9; ((with_reducible refine (c3 _).mono ?_); rintro e w' ⟨p3, rfl, rfl⟩))
    | (go_at_call 10; ((with_reducible refine (c4 _).mono ?_); rintro e w' ⟨p4, rfl, rfl⟩))
    | (go_at_call 10; ((with_reducible refine (c5 _).mono ?_); rintro e w' ⟨v5, p5, rfl, rfl⟩))
    | (go_at_call 11; ((with_reducible refine (c7 _).mono ?_); rintro e w' ⟨p7, rfl, rfl⟩))
    | (go_at_call 8; ((with_reducible refine (c8 _).mono ?_); rintro e w' ⟨p8, rfl, rfl⟩)))
  go_ret
  exact ⟨rfl, below_drawn _ _⟩

set_option maxHeartbeats 1000000 in
set_option maxRecDepth 100000 in
theorem nb_110gt (x y fs fp fr ft fz fn : Nat) (m1 : ∀ w, Calls Try.prog 20 #[.float .f64 x] w fun e w' => e = .returned (.bool true) ∧ w = w')
    (m2 : ∀ w, Calls Try.prog 20 #[.float .f64 y] w fun e w' => e = .returned (.bool true) ∧ w = w')
    (hx : FloatKind.f64.format.order x x = some .eq) (hy : FloatKind.f64.format.order y y = some .eq)
    (ox : FloatKind.f64.format.order x 0 = some .gt)
    (oy1 : (FloatKind.f64.format.order y 0 == some Ordering.eq) = false)
    (oy2 : (FloatKind.f64.format.order y 0 != some Ordering.eq) = true)
    (c1 : CallsOk 7 x y fs)
    (c2 : CallsOk 8 fs y x)
    (c3 : CallsOk 9 x y fp)
    (c4 : CallsOk 10 fp y x)
    (c5 : CallsBad 10 x y)
    (c7 : CallsOk 11 x y fr)
    (c8 : CallsOk 8 x fr ft)
    (ot1 : (FloatKind.f64.format.order ft 0 == some Ordering.eq) = false)
    (c9 : CallsOk 10 ft y fz)
    (hz : FloatKind.f64.format.order fz fz = some .eq)
    (hr : FloatKind.f64.format.order fr 0 = some .gt)
    (hsz : ∀ w, Calls Try.prog 32 #[.float .f64 y] w fun e w' => e = .returned (.float .f64 fn) ∧ w = w')
    (hl1 : FloatKind.f64.format.order fr fn = some .lt) (hl2 : FloatKind.f64.format.order fr (Op.negFloat .f64 fn) = some .gt) (w : World) :
    Calls Try.prog 6 #[.float .f64 x, .float .f64 y] w fun e w' => e = .returned (.bool true) ∧ Below w.heap.size w w' := by
  have c1 : ∀ w, Calls Try.prog 7 #[.float .f64 x, .float .f64 y] w (OkAt fs w) := c1
  have c2 : ∀ w, Calls Try.prog 8 #[.float .f64 fs, .float .f64 y] w (OkAt x w) := c2
  have c3 : ∀ w, Calls Try.prog 9 #[.float .f64 x, .float .f64 y] w (OkAt fp w) := c3
  have c4 : ∀ w, Calls Try.prog 10 #[.float .f64 fp, .float .f64 y] w (OkAt x w) := c4
  have c5 : ∀ w, Calls Try.prog 10 #[.float .f64 x, .float .f64 y] w (BadAt w) := c5
  have c7 : ∀ w, Calls Try.prog 11 #[.float .f64 x, .float .f64 y] w (OkAt fr w) := c7
  have c8 : ∀ w, Calls Try.prog 8 #[.float .f64 x, .float .f64 fr] w (OkAt ft w) := c8
  have c9 : ∀ w, Calls Try.prog 10 #[.float .f64 ft, .float .f64 y] w (OkAt fz w) := c9
  go_enter Try.func6, Try.ntmps6
  go_wp2_with (first
    | (go_at_call 30; refine (alive_any _).mono ?_; rintro e w' ⟨n1, rfl, rfl⟩)
    | (go_at_call 20; ((with_reducible refine (m1 _).mono ?_); rintro e w' ⟨rfl, rfl⟩))
    | (go_at_call 20; ((with_reducible refine (m2 _).mono ?_); rintro e w' ⟨rfl, rfl⟩))
    | (go_at_call 31; refine (lawnone_any _ _).mono ?_; rintro e w' ⟨rfl, rfl⟩)
    | (go_at_call 7; ((with_reducible refine (c1 _).mono ?_); rintro e w' ⟨p1, rfl, rfl⟩))
    | (go_at_call 8; ((with_reducible refine (c2 _).mono ?_); rintro e w' ⟨p2, rfl, rfl⟩))
    | (go_at_call 9; ((with_reducible refine (c3 _).mono ?_); rintro e w' ⟨p3, rfl, rfl⟩))
    | (go_at_call 10; ((with_reducible refine (c4 _).mono ?_); rintro e w' ⟨p4, rfl, rfl⟩))
    | (go_at_call 10; ((with_reducible refine (c5 _).mono ?_); rintro e w' ⟨v5, p5, rfl, rfl⟩))
    | (go_at_call 11; ((with_reducible refine (c7 _).mono ?_); rintro e w' ⟨p7, rfl, rfl⟩))
    | (go_at_call 8; ((with_reducible refine (c8 _).mono ?_); rintro e w' ⟨p8, rfl, rfl⟩))
    | (go_at_call 10; ((with_reducible refine (c9 _).mono ?_); rintro e w' ⟨p9, rfl, rfl⟩))
    | (go_at_call 32; refine (hsz _).mono ?_; rintro e w' ⟨rfl, rfl⟩))
  go_ret
  exact ⟨rfl, below_drawn _ _⟩

set_option maxHeartbeats 1000000 in
set_option maxRecDepth 100000 in
theorem nb_110lt (x y fs fp fr ft fz fn : Nat) (m1 : ∀ w, Calls Try.prog 20 #[.float .f64 x] w fun e w' => e = .returned (.bool true) ∧ w = w')
    (m2 : ∀ w, Calls Try.prog 20 #[.float .f64 y] w fun e w' => e = .returned (.bool true) ∧ w = w')
    (hx : FloatKind.f64.format.order x x = some .eq) (hy : FloatKind.f64.format.order y y = some .eq)
    (ox : FloatKind.f64.format.order x 0 = some .lt)
    (oy1 : (FloatKind.f64.format.order y 0 == some Ordering.eq) = false)
    (oy2 : (FloatKind.f64.format.order y 0 != some Ordering.eq) = true)
    (c1 : CallsOk 7 x y fs)
    (c2 : CallsOk 8 fs y x)
    (c3 : CallsOk 9 x y fp)
    (c4 : CallsOk 10 fp y x)
    (c5 : CallsBad 10 x y)
    (c7 : CallsOk 11 x y fr)
    (c8 : CallsOk 8 x fr ft)
    (ot1 : (FloatKind.f64.format.order ft 0 == some Ordering.eq) = false)
    (c9 : CallsOk 10 ft y fz)
    (hz : FloatKind.f64.format.order fz fz = some .eq)
    (hr : FloatKind.f64.format.order fr 0 = some .lt)
    (hsz : ∀ w, Calls Try.prog 32 #[.float .f64 y] w fun e w' => e = .returned (.float .f64 fn) ∧ w = w')
    (hl1 : FloatKind.f64.format.order fr fn = some .lt) (hl2 : FloatKind.f64.format.order fr (Op.negFloat .f64 fn) = some .gt) (w : World) :
    Calls Try.prog 6 #[.float .f64 x, .float .f64 y] w fun e w' => e = .returned (.bool true) ∧ Below w.heap.size w w' := by
  have c1 : ∀ w, Calls Try.prog 7 #[.float .f64 x, .float .f64 y] w (OkAt fs w) := c1
  have c2 : ∀ w, Calls Try.prog 8 #[.float .f64 fs, .float .f64 y] w (OkAt x w) := c2
  have c3 : ∀ w, Calls Try.prog 9 #[.float .f64 x, .float .f64 y] w (OkAt fp w) := c3
  have c4 : ∀ w, Calls Try.prog 10 #[.float .f64 fp, .float .f64 y] w (OkAt x w) := c4
  have c5 : ∀ w, Calls Try.prog 10 #[.float .f64 x, .float .f64 y] w (BadAt w) := c5
  have c7 : ∀ w, Calls Try.prog 11 #[.float .f64 x, .float .f64 y] w (OkAt fr w) := c7
  have c8 : ∀ w, Calls Try.prog 8 #[.float .f64 x, .float .f64 fr] w (OkAt ft w) := c8
  have c9 : ∀ w, Calls Try.prog 10 #[.float .f64 ft, .float .f64 y] w (OkAt fz w) := c9
  go_enter Try.func6, Try.ntmps6
  go_wp2_with (first
    | (go_at_call 30; refine (alive_any _).mono ?_; rintro e w' ⟨n1, rfl, rfl⟩)
    | (go_at_call 20; ((with_reducible refine (m1 _).mono ?_); rintro e w' ⟨rfl, rfl⟩))
    | (go_at_call 20; ((with_reducible refine (m2 _).mono ?_); rintro e w' ⟨rfl, rfl⟩))
    | (go_at_call 31; refine (lawnone_any _ _).mono ?_; rintro e w' ⟨rfl, rfl⟩)
    | (go_at_call 7; ((with_reducible refine (c1 _).mono ?_); rintro e w' ⟨p1, rfl, rfl⟩))
    | (go_at_call 8; ((with_reducible refine (c2 _).mono ?_); rintro e w' ⟨p2, rfl, rfl⟩))
    | (go_at_call 9; ((with_reducible refine (c3 _).mono ?_); rintro e w' ⟨p3, rfl, rfl⟩))
    | (go_at_call 10; ((with_reducible refine (c4 _).mono ?_); rintro e w' ⟨p4, rfl, rfl⟩))
    | (go_at_call 10; ((with_reducible refine (c5 _).mono ?_); rintro e w' ⟨v5, p5, rfl, rfl⟩))
    | (go_at_call 11; ((with_reducible refine (c7 _).mono ?_); rintro e w' ⟨p7, rfl, rfl⟩))
    | (go_at_call 8; ((with_reducible refine (c8 _).mono ?_); rintro e w' ⟨p8, rfl, rfl⟩))
    | (go_at_call 10; ((with_reducible refine (c9 _).mono ?_); rintro e w' ⟨p9, rfl, rfl⟩))
    | (go_at_call 32; refine (hsz _).mono ?_; rintro e w' ⟨rfl, rfl⟩))
  go_ret
  exact ⟨rfl, below_drawn _ _⟩

set_option maxHeartbeats 1000000 in
set_option maxRecDepth 100000 in
theorem nb_101err (x y fs fq : Nat) (m1 : ∀ w, Calls Try.prog 20 #[.float .f64 x] w fun e w' => e = .returned (.bool true) ∧ w = w')
    (m2 : ∀ w, Calls Try.prog 20 #[.float .f64 y] w fun e w' => e = .returned (.bool true) ∧ w = w')
    (hx : FloatKind.f64.format.order x x = some .eq) (hy : FloatKind.f64.format.order y y = some .eq)
    (oy2 : (FloatKind.f64.format.order y 0 != some Ordering.eq) = true)
    (c1 : CallsOk 7 x y fs)
    (c2 : CallsOk 8 fs y x)
    (c3 : CallsBad 9 x y)
    (c5 : CallsOk 10 x y fq)
    (hq : FloatKind.f64.format.order fq fq = some .eq)
    (c6 : CallsOk 9 fq y x)
    (c7 : CallsBad 11 x y) (w : World) :
    Calls Try.prog 6 #[.float .f64 x, .float .f64 y] w fun e w' => e = .returned (.bool true) ∧ Below w.heap.size w w' := by
  have c1 : ∀ w, Calls Try.prog 7 #[.float .f64 x, .float .f64 y] w (OkAt fs w) := c1
  have c2 : ∀ w, Calls Try.prog 8 #[.float .f64 fs, .float .f64 y] w (OkAt x w) := c2
  have c3 : ∀ w, Calls Try.prog 9 #[.float .f64 x, .float .f64 y] w (BadAt w) := c3
  have c5 : ∀ w, Calls Try.prog 10 #[.float .f64 x, .float .f64 y] w (OkAt fq w) := c5
  have c6 : ∀ w, Calls Try.prog 9 #[.float .f64 fq, .float .f64 y] w (OkAt x w) := c6
  have c7 : ∀ w, Calls Try.prog 11 #[.float .f64 x, .float .f64 y] w (BadAt w) := c7
  go_enter Try.func6, Try.ntmps6
  go_wp2_with (first
    | (go_at_call 30; refine (alive_any _).mono ?_; rintro e w' ⟨n1, rfl, rfl⟩)
    | (go_at_call 20; ((with_reducible refine (m1 _).mono ?_); rintro e w' ⟨rfl, rfl⟩))
    | (go_at_call 20; ((with_reducible refine (m2 _).mono ?_); rintro e w' ⟨rfl, rfl⟩))
    | (go_at_call 31; refine (lawnone_any _ _).mono ?_; rintro e w' ⟨rfl, rfl⟩)
    | (go_at_call 7; ((with_reducible refine (c1 _).mono ?_); rintro e w' ⟨p1, rfl, rfl⟩))
    | (go_at_call 8; ((with_reducible refine (c2 _).mono ?_); rintro e w' ⟨p2, rfl, rfl⟩))
    | (go_at_call 9; ((with_reducible refine (c3 _).mono ?_); rintro e w' ⟨v3, p3, rfl, rfl⟩))
    | (go_at_call 10; ((with_reducible refine (c5 _).mono ?_); rintro e w' ⟨p5, rfl, rfl⟩))
    | (go_at_call 9; ((with_reducible refine (c6 _).mono ?_); rintro e w' ⟨p6, rfl, rfl⟩))
    | (go_at_call 11; ((with_reducible refine (c7 _).mono ?_); rintro e w' ⟨v7, p7, rfl, rfl⟩)))
  go_ret
  exact ⟨rfl, below_drawn _ _⟩

set_option maxHeartbeats 1000000 in
set_option maxRecDepth 100000 in
theorem nb_101eq (x y fs fq fr ft fz fn : Nat) (m1 : ∀ w, Calls Try.prog 20 #[.float .f64 x] w fun e w' => e = .returned (.bool true) ∧ w = w')
    (m2 : ∀ w, Calls Try.prog 20 #[.float .f64 y] w fun e w' => e = .returned (.bool true) ∧ w = w')
    (hx : FloatKind.f64.format.order x x = some .eq) (hy : FloatKind.f64.format.order y y = some .eq)
    (oy1 : (FloatKind.f64.format.order y 0 == some Ordering.eq) = false)
    (oy2 : (FloatKind.f64.format.order y 0 != some Ordering.eq) = true)
    (c1 : CallsOk 7 x y fs)
    (c2 : CallsOk 8 fs y x)
    (c3 : CallsBad 9 x y)
    (c5 : CallsOk 10 x y fq)
    (hq : FloatKind.f64.format.order fq fq = some .eq)
    (c6 : CallsOk 9 fq y x)
    (c7 : CallsOk 11 x y fr)
    (c8 : CallsOk 8 x fr ft)
    (ot1 : (FloatKind.f64.format.order ft 0 == some Ordering.eq) = false)
    (c9 : CallsOk 10 ft y fz)
    (hz : FloatKind.f64.format.order fz fz = some .eq)
    (hr : FloatKind.f64.format.order fr 0 = some .eq)
    (hsz : ∀ w, Calls Try.prog 32 #[.float .f64 y] w fun e w' => e = .returned (.float .f64 fn) ∧ w = w')
    (hl1 : FloatKind.f64.format.order fr fn = some .lt) (hl2 : FloatKind.f64.format.order fr (Op.negFloat .f64 fn) = some .gt) (w : World) :
    Calls Try.prog 6 #[.float .f64 x, .float .f64 y] w fun e w' => e = .returned (.bool true) ∧ Below w.heap.size w w' := by
  have c1 : ∀ w, Calls Try.prog 7 #[.float .f64 x, .float .f64 y] w (OkAt fs w) := c1
  have c2 : ∀ w, Calls Try.prog 8 #[.float .f64 fs, .float .f64 y] w (OkAt x w) := c2
  have c3 : ∀ w, Calls Try.prog 9 #[.float .f64 x, .float .f64 y] w (BadAt w) := c3
  have c5 : ∀ w, Calls Try.prog 10 #[.float .f64 x, .float .f64 y] w (OkAt fq w) := c5
  have c6 : ∀ w, Calls Try.prog 9 #[.float .f64 fq, .float .f64 y] w (OkAt x w) := c6
  have c7 : ∀ w, Calls Try.prog 11 #[.float .f64 x, .float .f64 y] w (OkAt fr w) := c7
  have c8 : ∀ w, Calls Try.prog 8 #[.float .f64 x, .float .f64 fr] w (OkAt ft w) := c8
  have c9 : ∀ w, Calls Try.prog 10 #[.float .f64 ft, .float .f64 y] w (OkAt fz w) := c9
  go_enter Try.func6, Try.ntmps6
  go_wp2_with (first
    | (go_at_call 30; refine (alive_any _).mono ?_; rintro e w' ⟨n1, rfl, rfl⟩)
    | (go_at_call 20; ((with_reducible refine (m1 _).mono ?_); rintro e w' ⟨rfl, rfl⟩))
    | (go_at_call 20; ((with_reducible refine (m2 _).mono ?_); rintro e w' ⟨rfl, rfl⟩))
    | (go_at_call 31; refine (lawnone_any _ _).mono ?_; rintro e w' ⟨rfl, rfl⟩)
    | (go_at_call 7; ((with_reducible refine (c1 _).mono ?_); rintro e w' ⟨p1, rfl, rfl⟩))
    | (go_at_call 8; ((with_reducible refine (c2 _).mono ?_); rintro e w' ⟨p2, rfl, rfl⟩))
    | (go_at_call 9; ((with_reducible refine (c3 _).mono ?_); rintro e w' ⟨v3, p3, rfl, rfl⟩))
    | (go_at_call 10; ((with_reducible refine (c5 _).mono ?_); rintro e w' ⟨p5, rfl, rfl⟩))
    | (go_at_call 9; ((with_reducible refine (c6 _).mono ?_); rintro e w' ⟨p6, rfl, rfl⟩))
    | (go_at_call 11; ((with_reducible refine (c7 _).mono ?_); rintro e w' ⟨p7, rfl, rfl⟩))
    | (go_at_call 8; ((with_reducible refine (c8 _).mono ?_); rintro e w' ⟨p8, rfl, rfl⟩))
    | (go_at_call 10; ((with_reducible refine (c9 _).mono ?_); rintro e w' ⟨p9, rfl, rfl⟩))
    | (go_at_call 32; refine (hsz _).mono ?_; rintro e w' ⟨rfl, rfl⟩))
  go_ret
  exact ⟨rfl, below_drawn _ _⟩

set_option maxHeartbeats 1000000 in
set_option maxRecDepth 100000 in
theorem nb_100t0 (x y fs fr ft : Nat) (m1 : ∀ w, Calls Try.prog 20 #[.float .f64 x] w fun e w' => e = .returned (.bool true) ∧ w = w')
    (m2 : ∀ w, Calls Try.prog 20 #[.float .f64 y] w fun e w' => e = .returned (.bool true) ∧ w = w')
    (hx : FloatKind.f64.format.order x x = some .eq) (hy : FloatKind.f64.format.order y y = some .eq)
    (oy1 : (FloatKind.f64.format.order y 0 == some Ordering.eq) = false)
    (c1 : CallsOk 7 x y fs)
    (c2 : CallsOk 8 fs y x)
    (c3 : CallsBad 9 x y)
    (c5 : CallsBad 10 x y)
    (c7 : CallsOk 11 x y fr)
    (c8 : CallsOk 8 x fr ft)
    (ht : FloatKind.f64.format.order ft 0 = some .eq) (hr : FloatKind.f64.format.order fr x = some .eq) (w : World) :
    Calls Try.prog 6 #[.float .f64 x, .float .f64 y] w fun e w' => e = .returned (.bool true) ∧ Below w.heap.size w w' := by
  have c1 : ∀ w, Calls Try.prog 7 #[.float .f64 x, .float .f64 y] w (OkAt fs w) := c1
  have c2 : ∀ w, Calls Try.prog 8 #[.float .f64 fs, .float .f64 y] w (OkAt x w) := c2
  have c3 : ∀ w, Calls Try.prog 9 #[.float .f64 x, .float .f64 y] w (BadAt w) := c3
  have c5 : ∀ w, Calls Try.prog 10 #[.float .f64 x, .float .f64 y] w (BadAt w) := c5
  have c7 : ∀ w, Calls Try.prog 11 #[.float .f64 x, .float .f64 y] w (OkAt fr w) := c7
  have c8 : ∀ w, Calls Try.prog 8 #[.float .f64 x, .float .f64 fr] w (OkAt ft w) := c8
  go_enter Try.func6, Try.ntmps6
  go_wp2_with (first
    | (go_at_call 30; refine (alive_any _).mono ?_; rintro e w' ⟨n1, rfl, rfl⟩)
    | (go_at_call 20; ((with_reducible refine (m1 _).mono ?_); rintro e w' ⟨rfl, rfl⟩))
    | (go_at_call 20; ((with_reducible refine (m2 _).mono ?_); rintro e w' ⟨rfl, rfl⟩))
    | (go_at_call 31; refine (lawnone_any _ _).mono ?_; rintro e w' ⟨rfl, rfl⟩)
    | (go_at_call 7; ((with_reducible refine (c1 _).mono ?_); rintro e w' ⟨p1, rfl, rfl⟩))
    | (go_at_call 8; ((with_reducible refine (c2 _).mono ?_); rintro e w' ⟨p2, rfl, rfl⟩))
    | (go_at_call 9; ((with_reducible refine (c3 _).mono ?_); rintro e w' ⟨v3, p3, rfl, rfl⟩))
    | (go_at_call 10; ((with_reducible refine (c5 _).mono ?_); rintro e w' ⟨v5, p5, rfl, rfl⟩))
    | (go_at_call 11; ((with_reducible refine (c7 _).mono ?_); rintro e w' ⟨p7, rfl, rfl⟩))
    | (go_at_call 8; ((with_reducible refine (c8 _).mono ?_); rintro e w' ⟨p8, rfl, rfl⟩)))
  go_ret
  exact ⟨rfl, below_drawn _ _⟩

set_option maxHeartbeats 1000000 in
set_option maxRecDepth 100000 in
theorem nb_100gt (x y fs fr ft fz fn : Nat) (m1 : ∀ w, Calls Try.prog 20 #[.float .f64 x] w fun e w' => e = .returned (.bool true) ∧ w = w')
    (m2 : ∀ w, Calls Try.prog 20 #[.float .f64 y] w fun e w' => e = .returned (.bool true) ∧ w = w')
    (hx : FloatKind.f64.format.order x x = some .eq) (hy : FloatKind.f64.format.order y y = some .eq)
    (ox : FloatKind.f64.format.order x 0 = some .gt)
    (oy1 : (FloatKind.f64.format.order y 0 == some Ordering.eq) = false)
    (c1 : CallsOk 7 x y fs)
    (c2 : CallsOk 8 fs y x)
    (c3 : CallsBad 9 x y)
    (c5 : CallsBad 10 x y)
    (c7 : CallsOk 11 x y fr)
    (c8 : CallsOk 8 x fr ft)
    (ot1 : (FloatKind.f64.format.order ft 0 == some Ordering.eq) = false)
    (c9 : CallsOk 10 ft y fz)
    (hz : FloatKind.f64.format.order fz fz = some .eq)
    (hr : FloatKind.f64.format.order fr 0 = some .gt)
    (hsz : ∀ w, Calls Try.prog 32 #[.float .f64 y] w fun e w' => e = .returned (.float .f64 fn) ∧ w = w')
    (hl1 : FloatKind.f64.format.order fr fn = some .lt) (hl2 : FloatKind.f64.format.order fr (Op.negFloat .f64 fn) = some .gt) (w : World) :
    Calls Try.prog 6 #[.float .f64 x, .float .f64 y] w fun e w' => e = .returned (.bool true) ∧ Below w.heap.size w w' := by
  have c1 : ∀ w, Calls Try.prog 7 #[.float .f64 x, .float .f64 y] w (OkAt fs w) := c1
  have c2 : ∀ w, Calls Try.prog 8 #[.float .f64 fs, .float .f64 y] w (OkAt x w) := c2
  have c3 : ∀ w, Calls Try.prog 9 #[.float .f64 x, .float .f64 y] w (BadAt w) := c3
  have c5 : ∀ w, Calls Try.prog 10 #[.float .f64 x, .float .f64 y] w (BadAt w) := c5
  have c7 : ∀ w, Calls Try.prog 11 #[.float .f64 x, .float .f64 y] w (OkAt fr w) := c7
  have c8 : ∀ w, Calls Try.prog 8 #[.float .f64 x, .float .f64 fr] w (OkAt ft w) := c8
  have c9 : ∀ w, Calls Try.prog 10 #[.float .f64 ft, .float .f64 y] w (OkAt fz w) := c9
  go_enter Try.func6, Try.ntmps6
  go_wp2_with (first
    | (go_at_call 30; refine (alive_any _).mono ?_; rintro e w' ⟨n1, rfl, rfl⟩)
    | (go_at_call 20; ((with_reducible refine (m1 _).mono ?_); rintro e w' ⟨rfl, rfl⟩))
    | (go_at_call 20; ((with_reducible refine (m2 _).mono ?_); rintro e w' ⟨rfl, rfl⟩))
    | (go_at_call 31; refine (lawnone_any _ _).mono ?_; rintro e w' ⟨rfl, rfl⟩)
    | (go_at_call 7; ((with_reducible refine (c1 _).mono ?_); rintro e w' ⟨p1, rfl, rfl⟩))
    | (go_at_call 8; ((with_reducible refine (c2 _).mono ?_); rintro e w' ⟨p2, rfl, rfl⟩))
    | (go_at_call 9; ((with_reducible refine (c3 _).mono ?_); rintro e w' ⟨v3, p3, rfl, rfl⟩))
    | (go_at_call 10; ((with_reducible refine (c5 _).mono ?_); rintro e w' ⟨v5, p5, rfl, rfl⟩))
    | (go_at_call 11; ((with_reducible refine (c7 _).mono ?_); rintro e w' ⟨p7, rfl, rfl⟩))
    | (go_at_call 8; ((with_reducible refine (c8 _).mono ?_); rintro e w' ⟨p8, rfl, rfl⟩))
    | (go_at_call 10; ((with_reducible refine (c9 _).mono ?_); rintro e w' ⟨p9, rfl, rfl⟩))
    | (go_at_call 32; refine (hsz _).mono ?_; rintro e w' ⟨rfl, rfl⟩))
  go_ret
  exact ⟨rfl, below_drawn _ _⟩

set_option maxHeartbeats 1000000 in
set_option maxRecDepth 100000 in
theorem nb_100lt (x y fs fr ft fz fn : Nat) (m1 : ∀ w, Calls Try.prog 20 #[.float .f64 x] w fun e w' => e = .returned (.bool true) ∧ w = w')
    (m2 : ∀ w, Calls Try.prog 20 #[.float .f64 y] w fun e w' => e = .returned (.bool true) ∧ w = w')
    (hx : FloatKind.f64.format.order x x = some .eq) (hy : FloatKind.f64.format.order y y = some .eq)
    (ox : FloatKind.f64.format.order x 0 = some .lt)
    (oy1 : (FloatKind.f64.format.order y 0 == some Ordering.eq) = false)
    (c1 : CallsOk 7 x y fs)
    (c2 : CallsOk 8 fs y x)
    (c3 : CallsBad 9 x y)
    (c5 : CallsBad 10 x y)
    (c7 : CallsOk 11 x y fr)
    (c8 : CallsOk 8 x fr ft)
    (ot1 : (FloatKind.f64.format.order ft 0 == some Ordering.eq) = false)
    (c9 : CallsOk 10 ft y fz)
    (hz : FloatKind.f64.format.order fz fz = some .eq)
    (hr : FloatKind.f64.format.order fr 0 = some .lt)
    (hsz : ∀ w, Calls Try.prog 32 #[.float .f64 y] w fun e w' => e = .returned (.float .f64 fn) ∧ w = w')
    (hl1 : FloatKind.f64.format.order fr fn = some .lt) (hl2 : FloatKind.f64.format.order fr (Op.negFloat .f64 fn) = some .gt) (w : World) :
    Calls Try.prog 6 #[.float .f64 x, .float .f64 y] w fun e w' => e = .returned (.bool true) ∧ Below w.heap.size w w' := by
  have c1 : ∀ w, Calls Try.prog 7 #[.float .f64 x, .float .f64 y] w (OkAt fs w) := c1
  have c2 : ∀ w, Calls Try.prog 8 #[.float .f64 fs, .float .f64 y] w (OkAt x w) := c2
  have c3 : ∀ w, Calls Try.prog 9 #[.float .f64 x, .float .f64 y] w (BadAt w) := c3
  have c5 : ∀ w, Calls Try.prog 10 #[.float .f64 x, .float .f64 y] w (BadAt w) := c5
  have c7 : ∀ w, Calls Try.prog 11 #[.float .f64 x, .float .f64 y] w (OkAt fr w) := c7
  have c8 : ∀ w, Calls Try.prog 8 #[.float .f64 x, .float .f64 fr] w (OkAt ft w) := c8
  have c9 : ∀ w, Calls Try.prog 10 #[.float .f64 ft, .float .f64 y] w (OkAt fz w) := c9
  go_enter Try.func6, Try.ntmps6
  go_wp2_with (first
    | (go_at_call 30; refine (alive_any _).mono ?_; rintro e w' ⟨n1, rfl, rfl⟩)
    | (go_at_call 20; ((with_reducible refine (m1 _).mono ?_); rintro e w' ⟨rfl, rfl⟩))
    | (go_at_call 20; ((with_reducible refine (m2 _).mono ?_); rintro e w' ⟨rfl, rfl⟩))
    | (go_at_call 31; refine (lawnone_any _ _).mono ?_; rintro e w' ⟨rfl, rfl⟩)
    | (go_at_call 7; ((with_reducible refine (c1 _).mono ?_); rintro e w' ⟨p1, rfl, rfl⟩))
    | (go_at_call 8; ((with_reducible refine (c2 _).mono ?_); rintro e w' ⟨p2, rfl, rfl⟩))
    | (go_at_call 9; ((with_reducible refine (c3 _).mono ?_); rintro e w' ⟨v3, p3, rfl, rfl⟩))
    | (go_at_call 10; ((with_reducible refine (c5 _).mono ?_); rintro e w' ⟨v5, p5, rfl, rfl⟩))
    | (go_at_call 11; ((with_reducible refine (c7 _).mono ?_); rintro e w' ⟨p7, rfl, rfl⟩))
    | (go_at_call 8; ((with_reducible refine (c8 _).mono ?_); rintro e w' ⟨p8, rfl, rfl⟩))
    | (go_at_call 10; ((with_reducible refine (c9 _).mono ?_); rintro e w' ⟨p9, rfl, rfl⟩))
    | (go_at_call 32; refine (hsz _).mono ?_; rintro e w' ⟨rfl, rfl⟩))
  go_ret
  exact ⟨rfl, below_drawn _ _⟩

set_option maxHeartbeats 1000000 in
set_option maxRecDepth 100000 in
theorem nb_011err (x y fp fq : Nat) (m1 : ∀ w, Calls Try.prog 20 #[.float .f64 x] w fun e w' => e = .returned (.bool true) ∧ w = w')
    (m2 : ∀ w, Calls Try.prog 20 #[.float .f64 y] w fun e w' => e = .returned (.bool true) ∧ w = w')
    (hx : FloatKind.f64.format.order x x = some .eq) (hy : FloatKind.f64.format.order y y = some .eq)
    (ox2 : (FloatKind.f64.format.order x 0 != some Ordering.eq) = true)
    (oy2 : (FloatKind.f64.format.order y 0 != some Ordering.eq) = true)
    (c1 : CallsBad 7 x y)
    (c3 : CallsOk 9 x y fp)
    (c4 : CallsOk 10 fp y x)
    (c5 : CallsOk 10 x y fq)
    (hq : FloatKind.f64.format.order fq fq = some .eq)
    (c6 : CallsOk 9 fq y x)
    (c7 : CallsBad 11 x y) (w : World) :
    Calls Try.prog 6 #[.float .f64 x, .float .f64 y] w fun e w' => e = .returned (.bool true) ∧ Below w.heap.size w w' := by
  have c1 : ∀ w, Calls Try.prog 7 #[.float .f64 x, .float .f64 y] w (BadAt w) := c1
  have c3 : ∀ w, Calls Try.prog 9 #[.float .f64 x, .float .f64 y] w (OkAt fp w) := c3
  have c4 : ∀ w, Calls Try.prog 10 #[.float .f64 fp, .float .f64 y] w (OkAt x w) := c4
  have c5 : ∀ w, Calls Try.prog 10 #[.float .f64 x, .float .f64 y] w (OkAt fq w) := c5
  have c6 : ∀ w, Calls Try.prog 9 #[.float .f64 fq, .float .f64 y] w (OkAt x w) := c6
  have c7 : ∀ w, Calls Try.prog 11 #[.float .f64 x, .float .f64 y] w (BadAt w) := c7
  go_enter Try.func6, Try.ntmps6
  go_wp2_with (first
    | (go_at_call 30; refine (alive_any _).mono ?_; rintro e w' ⟨n1, rfl, rfl⟩)
    | (go_at_call 20; ((with_reducible refine (m1 _).mono ?_); rintro e w' ⟨rfl, rfl⟩))
    | (go_at_call 20; ((with_reducible refine (m2 _).mono ?_); rintro e w' ⟨rfl, rfl⟩))
    | (go_at_call 31; refine (lawnone_any _ _).mono ?_; rintro e w' ⟨rfl, rfl⟩)
    | (go_at_call 7; ((with_reducible refine (c1 _).mono ?_); rintro e w' ⟨v1, p1, rfl, rfl⟩))
    | (go_at_call 9; ((with_reducible refine (c3 _).mono ?_); rintro e w' ⟨p3, rfl, rfl⟩))
    | (go_at_call 10; ((with_reducible refine (c4 _).mono ?_); rintro e w' ⟨p4, rfl, rfl⟩))
    | (go_at_call 10; ((with_reducible refine (c5 _).mono ?_); rintro e w' ⟨p5, rfl, rfl⟩))
    | (go_at_call 9; ((with_reducible refine (c6 _).mono ?_); rintro e w' ⟨p6, rfl, rfl⟩))
    | (go_at_call 11; ((with_reducible refine (c7 _).mono ?_); rintro e w' ⟨v7, p7, rfl, rfl⟩)))
  go_ret
  exact ⟨rfl, below_drawn _ _⟩

set_option maxHeartbeats 1000000 in
set_option maxRecDepth 100000 in
theorem nb_011eq (x y fp fq fr ft fz fn : Nat) (m1 : ∀ w, Calls Try.prog 20 #[.float .f64 x] w fun e w' => e = .returned (.bool true) ∧ w = w')
    (m2 : ∀ w, Calls Try.prog 20 #[.float .f64 y] w fun e w' => e = .returned (.bool true) ∧ w = w')
    (hx : FloatKind.f64.format.order x x = some .eq) (hy : FloatKind.f64.format.order y y = some .eq)
    (ox2 : (FloatKind.f64.format.order x 0 != some Ordering.eq) = true)
    (oy1 : (FloatKind.f64.format.order y 0 == some Ordering.eq) = false)
    (oy2 : (FloatKind.f64.format.order y 0 != some Ordering.eq) = true)
    (c1 : CallsBad 7 x y)
    (c3 : CallsOk 9 x y fp)
    (c4 : CallsOk 10 fp y x)
    (c5 : CallsOk 10 x y fq)
    (hq : FloatKind.f64.format.order fq fq = some .eq)
    (c6 : CallsOk 9 fq y x)
    (c7 : CallsOk 11 x y fr)
    (c8 : CallsOk 8 x fr ft)
    (ot1 : (FloatKind.f64.format.order ft 0 == some Ordering.eq) = false)
    (c9 : CallsOk 10 ft y fz)
    (hz : FloatKind.f64.format.order fz fz = some .eq)
    (hr : FloatKind.f64.format.order fr 0 = some .eq)
    (hsz : ∀ w, Calls Try.prog 32 #[.float .f64 y] w fun e w' => e = .returned (.float .f64 fn) ∧ w = w')
    (hl1 : FloatKind.f64.format.order fr fn = some .lt) (hl2 : FloatKind.f64.format.order fr (Op.negFloat .f64 fn) = some .gt) (w : World) :
    Calls Try.prog 6 #[.float .f64 x, .float .f64 y] w fun e w' => e = .returned (.bool true) ∧ Below w.heap.size w w' := by
  have c1 : ∀ w, Calls Try.prog 7 #[.float .f64 x, .float .f64 y] w (BadAt w) := c1
  have c3 : ∀ w, Calls Try.prog 9 #[.float .f64 x, .float .f64 y] w (OkAt fp w) := c3
  have c4 : ∀ w, Calls Try.prog 10 #[.float .f64 fp, .float .f64 y] w (OkAt x w) := c4
  have c5 : ∀ w, Calls Try.prog 10 #[.float .f64 x, .float .f64 y] w (OkAt fq w) := c5
  have c6 : ∀ w, Calls Try.prog 9 #[.float .f64 fq, .float .f64 y] w (OkAt x w) := c6
  have c7 : ∀ w, Calls Try.prog 11 #[.float .f64 x, .float .f64 y] w (OkAt fr w) := c7
  have c8 : ∀ w, Calls Try.prog 8 #[.float .f64 x, .float .f64 fr] w (OkAt ft w) := c8
  have c9 : ∀ w, Calls Try.prog 10 #[.float .f64 ft, .float .f64 y] w (OkAt fz w) := c9
  go_enter Try.func6, Try.ntmps6
  go_wp2_with (first
    | (go_at_call 30; refine (alive_any _).mono ?_; rintro e w' ⟨n1, rfl, rfl⟩)
    | (go_at_call 20; ((with_reducible refine (m1 _).mono ?_); rintro e w' ⟨rfl, rfl⟩))
    | (go_at_call 20; ((with_reducible refine (m2 _).mono ?_); rintro e w' ⟨rfl, rfl⟩))
    | (go_at_call 31; refine (lawnone_any _ _).mono ?_; rintro e w' ⟨rfl, rfl⟩)
    | (go_at_call 7; ((with_reducible refine (c1 _).mono ?_); rintro e w' ⟨v1, p1, rfl, rfl⟩))
    | (go_at_call 9; ((with_reducible refine (c3 _).mono ?_); rintro e w' ⟨p3, rfl, rfl⟩))
    | (go_at_call 10; ((with_reducible refine (c4 _).mono ?_); rintro e w' ⟨p4, rfl, rfl⟩))
    | (go_at_call 10; ((with_reducible refine (c5 _).mono ?_); rintro e w' ⟨p5, rfl, rfl⟩))
    | (go_at_call 9; ((with_reducible refine (c6 _).mono ?_); rintro e w' ⟨p6, rfl, rfl⟩))
    | (go_at_call 11; ((with_reducible refine (c7 _).mono ?_); rintro e w' ⟨p7, rfl, rfl⟩))
    | (go_at_call 8; ((with_reducible refine (c8 _).mono ?_); rintro e w' ⟨p8, rfl, rfl⟩))
    | (go_at_call 10; ((with_reducible refine (c9 _).mono ?_); rintro e w' ⟨p9, rfl, rfl⟩))
    | (go_at_call 32; refine (hsz _).mono ?_; rintro e w' ⟨rfl, rfl⟩))
  go_ret
  exact ⟨rfl, below_drawn _ _⟩

set_option maxHeartbeats 1000000 in
set_option maxRecDepth 100000 in
theorem nb_010t0 (x y fp fr ft : Nat) (m1 : ∀ w, Calls Try.prog 20 #[.float .f64 x] w fun e w' => e = .returned (.bool true) ∧ w = w')
    (m2 : ∀ w, Calls Try.prog 20 #[.float .f64 y] w fun e w' => e = .returned (.bool true) ∧ w = w')
    (hx : FloatKind.f64.format.order x x = some .eq) (hy : FloatKind.f64.format.order y y = some .eq)
    (ox2 : (FloatKind.f64.format.order x 0 != some Ordering.eq) = true)
    (oy1 : (FloatKind.f64.format.order y 0 == some Ordering.eq) = false)
    (oy2 : (FloatKind.f64.format.order y 0 != some Ordering.eq) = true)
    (c1 : CallsBad 7 x y)
    (c3 : CallsOk 9 x y fp)
    (c4 : CallsOk 10 fp y x)
    (c5 : CallsBad 10 x y)
    (c7 : CallsOk 11 x y fr)
    (c8 : CallsOk 8 x fr ft)
    (ht : FloatKind.f64.format.order ft 0 = some .eq) (hr : FloatKind.f64.format.order fr x = some .eq) (w : World) :
    Calls Try.prog 6 #[.float .f64 x, .float .f64 y] w fun e w' => e = .returned (.bool true) ∧ Below w.heap.size w w' := by
  have c1 : ∀ w, Calls Try.prog 7 #[.float .f64 x, .float .f64 y] w (BadAt w) := c1
  have c3 : ∀ w, Calls Try.prog 9 #[.float .f64 x, .float .f64 y] w (OkAt fp w) := c3
  have c4 : ∀ w, Calls Try.prog 10 #[.float .f64 fp, .float .f64 y] w (OkAt x w) := c4
  have c5 : ∀ w, Calls Try.prog 10 #[.float .f64 x, .float .f64 y] w (BadAt w) := c5
  have c7 : ∀ w, Calls Try.prog 11 #[.float .f64 x, .float .f64 y] w (OkAt fr w) := c7
  have c8 : ∀ w, Calls Try.prog 8 #[.float .f64 x, .float .f64 fr] w (OkAt ft w) := c8
  go_enter Try.func6, Try.ntmps6
  go_wp2_with (first
    | (go_at_call 30; refine (alive_any _).mono ?_; rintro e w' ⟨n1, rfl, rfl⟩)
    | (go_at_call 20; ((with_reducible refine (m1 _).mono ?_); rintro e w' ⟨rfl, rfl⟩))
    | (go_at_call 20; ((with_reducible refine (m2 _).mono ?_); rintro e w' ⟨rfl, rfl⟩))
    | (go_at_call 31; refine (lawnone_any _ _).mono ?_; rintro e w' ⟨rfl, rfl⟩)
    | (go_at_call 7; ((with_reducible refine (c1 _).mono ?_); rintro e w' ⟨v1, p1, rfl, rfl⟩))
    | (go_at_call 9; ((with_reducible refine (c3 _).mono ?_); rintro e w' ⟨p3, rfl, rfl⟩))
    | (go_at_call 10; ((with_reducible refine (c4 _).mono ?_); rintro e w' ⟨p4, rfl, rfl⟩))
    | (go_at_call 10; ((with_reducible refine (c5 _).mono ?_); rintro e w' ⟨v5, p5, rfl, rfl⟩))
    | (go_at_call 11; ((with_reducible refine (c7 _).mono ?_); rintro e w' ⟨p7, rfl, rfl⟩))
    | (go_at_call 8; ((with_reducible refine (c8 _).mono ?_); rintro e w' ⟨p8, rfl, rfl⟩)))
  go_ret
  exact ⟨rfl, below_drawn _ _⟩

set_option maxHeartbeats 1000000 in
set_option maxRecDepth 100000 in
theorem nb_010gt (x y fp fr ft fz fn : Nat) (m1 : ∀ w, Calls Try.prog 20 #[.float .f64 x] w fun e w' => e = .returned (.bool true) ∧ w = w')
    (m2 : ∀ w, Calls Try.prog 20 #[.float .f64 y] w fun e w' => e = .returned (.bool true) ∧ w = w')
    (hx : FloatKind.f64.format.order x x = some .eq) (hy : FloatKind.f64.format.order y y = some .eq)
    (ox : FloatKind.f64.format.order x 0 = some .gt)
    (oy1 : (FloatKind.f64.format.order y 0 == some Ordering.eq) = false)
    (oy2 : (FloatKind.f64.format.order y 0 != some Ordering.eq) = true)
    (c1 : CallsBad 7 x y)
    (c3 : CallsOk 9 x y fp)
    (c4 : CallsOk 10 fp y x)
    (c5 : CallsBad 10 x y)
    (c7 : CallsOk 11 x y fr)
    (c8 : CallsOk 8 x fr ft)
    (ot1 : (FloatKind.f64.format.order ft 0 == some Ordering.eq) = false)
    (c9 : CallsOk 10 ft y fz)
    (hz : FloatKind.f64.format.order fz fz = some .eq)
    (hr : FloatKind.f64.format.order fr 0 = some .gt)
    (hsz : ∀ w, Calls Try.prog 32 #[.float .f64 y] w fun e w' => e = .returned (.float .f64 fn) ∧ w = w')
    (hl1 : FloatKind.f64.format.order fr fn = some .lt) (hl2 : FloatKind.f64.format.order fr (Op.negFloat .f64 fn) = some .gt) (w : World) :
    Calls Try.prog 6 #[.float .f64 x, .float .f64 y] w fun e w' => e = .returned (.bool true) ∧ Below w.heap.size w w' := by
  have c1 : ∀ w, Calls Try.prog 7 #[.float .f64 x, .float .f64 y] w (BadAt w) := c1
  have c3 : ∀ w, Calls Try.prog 9 #[.float .f64 x, .float .f64 y] w (OkAt fp w) := c3
  have c4 : ∀ w, Calls Try.prog 10 #[.float .f64 fp, .float .f64 y] w (OkAt x w) := c4
  have c5 : ∀ w, Calls Try.prog 10 #[.float .f64 x, .float .f64 y] w (BadAt w) := c5
  have c7 : ∀ w, Calls Try.prog 11 #[.float .f64 x, .float .f64 y] w (OkAt fr w) := c7
  have c8 : ∀ w, Calls Try.prog 8 #[.float .f64 x, .float .f64 fr] w (OkAt ft w) := c8
  have c9 : ∀ w, Calls Try.prog 10 #[.float .f64 ft, .float .f64 y] w (OkAt fz w) := c9
  go_enter Try.func6, Try.ntmps6
  go_wp2_with (first
    | (go_at_call 30; refine (alive_any _).mono ?_; rintro e w' ⟨n1, rfl, rfl⟩)
    | (go_at_call 20; ((with_reducible refine (m1 _).mono ?_); rintro e w' ⟨rfl, rfl⟩))
    | (go_at_call 20; ((with_reducible refine (m2 _).mono ?_); rintro e w' ⟨rfl, rfl⟩))
    | (go_at_call 31; refine (lawnone_any _ _).mono ?_; rintro e w' ⟨rfl, rfl⟩)
    | (go_at_call 7; ((with_reducible refine (c1 _).mono ?_); rintro e w' ⟨v1, p1, rfl, rfl⟩))
    | (go_at_call 9; ((with_reducible refine (c3 _).mono ?_); rintro e w' ⟨p3, rfl, rfl⟩))
    | (go_at_call 10; ((with_reducible refine (c4 _).mono ?_); rintro e w' ⟨p4, rfl, rfl⟩))
    | (go_at_call 10; ((with_reducible refine (c5 _).mono ?_); rintro e w' ⟨v5, p5, rfl, rfl⟩))
    | (go_at_call 11; ((with_reducible refine (c7 _).mono ?_); rintro e w' ⟨p7, rfl, rfl⟩))
    | (go_at_call 8; ((with_reducible refine (c8 _).mono ?_); rintro e w' ⟨p8, rfl, rfl⟩))
    | (go_at_call 10; ((with_reducible refine (c9 _).mono ?_); rintro e w' ⟨p9, rfl, rfl⟩))
    | (go_at_call 32; refine (hsz _).mono ?_; rintro e w' ⟨rfl, rfl⟩))
  go_ret
  exact ⟨rfl, below_drawn _ _⟩

set_option maxHeartbeats 1000000 in
set_option maxRecDepth 100000 in
theorem nb_010lt (x y fp fr ft fz fn : Nat) (m1 : ∀ w, Calls Try.prog 20 #[.float .f64 x] w fun e w' => e = .returned (.bool true) ∧ w = w')
    (m2 : ∀ w, Calls Try.prog 20 #[.float .f64 y] w fun e w' => e = .returned (.bool true) ∧ w = w')
    (hx : FloatKind.f64.format.order x x = some .eq) (hy : FloatKind.f64.format.order y y = some .eq)
    (ox : FloatKind.f64.format.order x 0 = some .lt)
    (oy1 : (FloatKind.f64.format.order y 0 == some Ordering.eq) = false)
    (oy2 : (FloatKind.f64.format.order y 0 != some Ordering.eq) = true)
    (c1 : CallsBad 7 x y)
    (c3 : CallsOk 9 x y fp)
    (c4 : CallsOk 10 fp y x)
    (c5 : CallsBad 10 x y)
    (c7 : CallsOk 11 x y fr)
    (c8 : CallsOk 8 x fr ft)
    (ot1 : (FloatKind.f64.format.order ft 0 == some Ordering.eq) = false)
    (c9 : CallsOk 10 ft y fz)
    (hz : FloatKind.f64.format.order fz fz = some .eq)
    (hr : FloatKind.f64.format.order fr 0 = some .lt)
    (hsz : ∀ w, Calls Try.prog 32 #[.float .f64 y] w fun e w' => e = .returned (.float .f64 fn) ∧ w = w')
    (hl1 : FloatKind.f64.format.order fr fn = some .lt) (hl2 : FloatKind.f64.format.order fr (Op.negFloat .f64 fn) = some .gt) (w : World) :
    Calls Try.prog 6 #[.float .f64 x, .float .f64 y] w fun e w' => e = .returned (.bool true) ∧ Below w.heap.size w w' := by
  have c1 : ∀ w, Calls Try.prog 7 #[.float .f64 x, .float .f64 y] w (BadAt w) := c1
  have c3 : ∀ w, Calls Try.prog 9 #[.float .f64 x, .float .f64 y] w (OkAt fp w) := c3
  have c4 : ∀ w, Calls Try.prog 10 #[.float .f64 fp, .float .f64 y] w (OkAt x w) := c4
  have c5 : ∀ w, Calls Try.prog 10 #[.float .f64 x, .float .f64 y] w (BadAt w) := c5
  have c7 : ∀ w, Calls Try.prog 11 #[.float .f64 x, .float .f64 y] w (OkAt fr w) := c7
  have c8 : ∀ w, Calls Try.prog 8 #[.float .f64 x, .float .f64 fr] w (OkAt ft w) := c8
  have c9 : ∀ w, Calls Try.prog 10 #[.float .f64 ft, .float .f64 y] w (OkAt fz w) := c9
  go_enter Try.func6, Try.ntmps6
  go_wp2_with (first
    | (go_at_call 30; refine (alive_any _).mono ?_; rintro e w' ⟨n1, rfl, rfl⟩)
    | (go_at_call 20; ((with_reducible refine (m1 _).mono ?_); rintro e w' ⟨rfl, rfl⟩))
    | (go_at_call 20; ((with_reducible refine (m2 _).mono ?_); rintro e w' ⟨rfl, rfl⟩))
    | (go_at_call 31; refine (lawnone_any _ _).mono ?_; rintro e w' ⟨rfl, rfl⟩)
    | (go_at_call 7; ((with_reducible refine (c1 _).mono ?_); rintro e w' ⟨v1, p1, rfl, rfl⟩))
    | (go_at_call 9; ((with_reducible refine (c3 _).mono ?_); rintro e w' ⟨p3, rfl, rfl⟩))
    | (go_at_call 10; ((with_reducible refine (c4 _).mono ?_); rintro e w' ⟨p4, rfl, rfl⟩))
    | (go_at_call 10; ((with_reducible refine (c5 _).mono ?_); rintro e w' ⟨v5, p5, rfl, rfl⟩))
    | (go_at_call 11; ((with_reducible refine (c7 _).mono ?_); rintro e w' ⟨p7, rfl, rfl⟩))
    | (go_at_call 8; ((with_reducible refine (c8 _).mono ?_); rintro e w' ⟨p8, rfl, rfl⟩))
    | (go_at_call 10; ((with_reducible refine (c9 _).mono ?_); rintro e w' ⟨p9, rfl, rfl⟩))
    | (go_at_call 32; refine (hsz _).mono ?_; rintro e w' ⟨rfl, rfl⟩))
  go_ret
  exact ⟨rfl, below_drawn _ _⟩

set_option maxHeartbeats 1000000 in
set_option maxRecDepth 100000 in
theorem nb_001err (x y fq : Nat) (m1 : ∀ w, Calls Try.prog 20 #[.float .f64 x] w fun e w' => e = .returned (.bool true) ∧ w = w')
    (m2 : ∀ w, Calls Try.prog 20 #[.float .f64 y] w fun e w' => e = .returned (.bool true) ∧ w = w')
    (hx : FloatKind.f64.format.order x x = some .eq) (hy : FloatKind.f64.format.order y y = some .eq)
    (oy2 : (FloatKind.f64.format.order y 0 != some Ordering.eq) = true)
    (c1 : CallsBad 7 x y)
    (c3 : CallsBad 9 x y)
    (c5 : CallsOk 10 x y fq)
    (hq : FloatKind.f64.format.order fq fq = some .eq)
    (c6 : CallsOk 9 fq y x)
    (c7 : CallsBad 11 x y) (w : World) :
    Calls Try.prog 6 #[.float .f64 x, .float .f64 y] w fun e w' => e = .returned (.bool true) ∧ Below w.heap.size w w' := by
  have c1 : ∀ w, Calls Try.prog 7 #[.float .f64 x, .float .f64 y] w (BadAt w) := c1
  have c3 : ∀ w, Calls Try.prog 9 #[.float .f64 x, .float .f64 y] w (BadAt w) := c3
  have c5 : ∀ w, Calls Try.prog 10 #[.float .f64 x, .float .f64 y] w (OkAt fq w) := c5
  have c6 : ∀ w, Calls Try.prog 9 #[.float .f64 fq, .float .f64 y] w (OkAt x w) := c6
  have c7 : ∀ w, Calls Try.prog 11 #[.float .f64 x, .float .f64 y] w (BadAt w) := c7
  go_enter Try.func6, Try.ntmps6
  go_wp2_with (first
    | (go_at_call 30; refine (alive_any _).mono ?_; rintro e w' ⟨n1, rfl, rfl⟩)
    | (go_at_call 20; ((with_reducible refine (m1 _).mono ?_); rintro e w' ⟨rfl, rfl⟩))
    | (go_at_call 20; ((with_reducible refine (m2 _).mono ?_); rintro e w' ⟨rfl, rfl⟩))
    | (go_at_call 31; refine (lawnone_any _ _).mono ?_; rintro e w' ⟨rfl, rfl⟩)
    | (go_at_call 7; ((with_reducible refine (c1 _).mono ?_); rintro e w' ⟨v1, p1, rfl, rfl⟩))
    | (go_at_call 9; ((with_reducible refine (c3 _).mono ?_); rintro e w' ⟨v3, p3, rfl, rfl⟩))
    | (go_at_call 10; ((with_reducible refine (c5 _).mono ?_); rintro e w' ⟨p5, rfl, rfl⟩))
    | (go_at_call 9; ((with_reducible refine (c6 _).mono ?_); rintro e w' ⟨p6, rfl, rfl⟩))
    | (go_at_call 11; ((with_reducible refine (c7 _).mono ?_); rintro e w' ⟨v7, p7, rfl, rfl⟩)))
  go_ret
  exact ⟨rfl, below_drawn _ _⟩

set_option maxHeartbeats 1000000 in
set_option maxRecDepth 100000 in
theorem nb_001eq (x y fq fr ft fz fn : Nat) (m1 : ∀ w, Calls Try.prog 20 #[.float .f64 x] w fun e w' => e = .returned (.bool true) ∧ w = w')
    (m2 : ∀ w, Calls Try.prog 20 #[.float .f64 y] w fun e w' => e = .returned (.bool true) ∧ w = w')
    (hx : FloatKind.f64.format.order x x = some .eq) (hy : FloatKind.f64.format.order y y = some .eq)
    (oy1 : (FloatKind.f64.format.order y 0 == some Ordering.eq) = false)
    (oy2 : (FloatKind.f64.format.order y 0 != some Ordering.eq) = true)
    (c1 : CallsBad 7 x y)
    (c3 : CallsBad 9 x y)
    (c5 : CallsOk 10 x y fq)
    (hq : FloatKind.f64.format.order fq fq = some .eq)
    (c6 : CallsOk 9 fq y x)
    (c7 : CallsOk 11 x y fr)
    (c8 : CallsOk 8 x fr ft)
    (ot1 : (FloatKind.f64.format.order ft 0 == some Ordering.eq) = false)
    (c9 : CallsOk 10 ft y fz)
    (hz : FloatKind.f64.format.order fz fz = some .eq)
    (hr : FloatKind.f64.format.order fr 0 = some .eq)
    (hsz : ∀ w, Calls Try.prog 32 #[.float .f64 y] w fun e w' => e = .returned (.float .f64 fn) ∧ w = w')
    (hl1 : FloatKind.f64.format.order fr fn = some .lt) (hl2 : FloatKind.f64.format.order fr (Op.negFloat .f64 fn) = some .gt) (w : World) :
    Calls Try.prog 6 #[.float .f64 x, .float .f64 y] w fun e w' => e = .returned (.bool true) ∧ Below w.heap.size w w' := by
  have c1 : ∀ w, Calls Try.prog 7 #[.float .f64 x, .float .f64 y] w (BadAt w) := c1
  have c3 : ∀ w, Calls Try.prog 9 #[.float .f64 x, .float .f64 y] w (BadAt w) := c3
  have c5 : ∀ w, Calls Try.prog 10 #[.float .f64 x, .float .f64 y] w (OkAt fq w) := c5
  have c6 : ∀ w, Calls Try.prog 9 #[.float .f64 fq, .float .f64 y] w (OkAt x w) := c6
  have c7 : ∀ w, Calls Try.prog 11 #[.float .f64 x, .float .f64 y] w (OkAt fr w) := c7
  have c8 : ∀ w, Calls Try.prog 8 #[.float .f64 x, .float .f64 fr] w (OkAt ft w) := c8
  have c9 : ∀ w, Calls Try.prog 10 #[.float .f64 ft, .float .f64 y] w (OkAt fz w) := c9
  go_enter Try.func6, Try.ntmps6
  go_wp2_with (first
    | (go_at_call 30; refine (alive_any _).mono ?_; rintro e w' ⟨n1, rfl, rfl⟩)
    | (go_at_call 20; ((with_reducible refine (m1 _).mono ?_); rintro e w' ⟨rfl, rfl⟩))
    | (go_at_call 20; ((with_reducible refine (m2 _).mono ?_); rintro e w' ⟨rfl, rfl⟩))
    | (go_at_call 31; refine (lawnone_any _ _).mono ?_; rintro e w' ⟨rfl, rfl⟩)
    | (go_at_call 7; ((with_reducible refine (c1 _).mono ?_); rintro e w' ⟨v1, p1, rfl, rfl⟩))
    | (go_at_call 9; ((with_reducible refine (c3 _).mono ?_); rintro e w' ⟨v3, p3, rfl, rfl⟩))
    | (go_at_call 10; ((with_reducible refine (c5 _).mono ?_); rintro e w' ⟨p5, rfl, rfl⟩))
    | (go_at_call 9; ((with_reducible refine (c6 _).mono ?_); rintro e w' ⟨p6, rfl, rfl⟩))
    | (go_at_call 11; ((with_reducible refine (c7 _).mono ?_); rintro e w' ⟨p7, rfl, rfl⟩))
    | (go_at_call 8; ((with_reducible refine (c8 _).mono ?_); rintro e w' ⟨p8, rfl, rfl⟩))
    | (go_at_call 10; ((with_reducible refine (c9 _).mono ?_); rintro e w' ⟨p9, rfl, rfl⟩))
    | (go_at_call 32; refine (hsz _).mono ?_; rintro e w' ⟨rfl, rfl⟩))
  go_ret
  exact ⟨rfl, below_drawn _ _⟩

set_option maxHeartbeats 1000000 in
set_option maxRecDepth 100000 in
theorem nb_000t0 (x y fr ft : Nat) (m1 : ∀ w, Calls Try.prog 20 #[.float .f64 x] w fun e w' => e = .returned (.bool true) ∧ w = w')
    (m2 : ∀ w, Calls Try.prog 20 #[.float .f64 y] w fun e w' => e = .returned (.bool true) ∧ w = w')
    (hx : FloatKind.f64.format.order x x = some .eq) (hy : FloatKind.f64.format.order y y = some .eq)
    (oy1 : (FloatKind.f64.format.order y 0 == some Ordering.eq) = false)
    (c1 : CallsBad 7 x y)
    (c3 : CallsBad 9 x y)
    (c5 : CallsBad 10 x y)
    (c7 : CallsOk 11 x y fr)
    (c8 : CallsOk 8 x fr ft)
    (ht : FloatKind.f64.format.order ft 0 = some .eq) (hr : FloatKind.f64.format.order fr x = some .eq) (w : World) :
    Calls Try.prog 6 #[.float .f64 x, .float .f64 y] w fun e w' => e = .returned (.bool true) ∧ Below w.heap.size w w' := by
  have c1 : ∀ w, Calls Try.prog 7 #[.float .f64 x, .float .f64 y] w (BadAt w) := c1
  have c3 : ∀ w, Calls Try.prog 9 #[.float .f64 x, .float .f64 y] w (BadAt w) := c3
  have c5 : ∀ w, Calls Try.prog 10 #[.float .f64 x, .float .f64 y] w (BadAt w) := c5
  have c7 : ∀ w, Calls Try.prog 11 #[.float .f64 x, .float .f64 y] w (OkAt fr w) := c7
  have c8 : ∀ w, Calls Try.prog 8 #[.float .f64 x, .float .f64 fr] w (OkAt ft w) := c8
  go_enter Try.func6, Try.ntmps6
  go_wp2_with (first
    | (go_at_call 30; refine (alive_any _).mono ?_; rintro e w' ⟨n1, rfl, rfl⟩)
    | (go_at_call 20; ((with_reducible refine (m1 _).mono ?_); rintro e w' ⟨rfl, rfl⟩))
    | (go_at_call 20; ((with_reducible refine (m2 _).mono ?_); rintro e w' ⟨rfl, rfl⟩))
    | (go_at_call 31; refine (lawnone_any _ _).mono ?_; rintro e w' ⟨rfl, rfl⟩)
    | (go_at_call 7; ((with_reducible refine (c1 _).mono ?_); rintro e w' ⟨v1, p1, rfl, rfl⟩))
    | (go_at_call 9; ((with_reducible refine (c3 _).mono ?_); rintro e w' ⟨v3, p3, rfl, rfl⟩))
    | (go_at_call 10; ((with_reducible refine (c5 _).mono ?_); rintro e w' ⟨v5, p5, rfl, rfl⟩))
    | (go_at_call 11; ((with_reducible refine (c7 _).mono ?_); rintro e w' ⟨p7, rfl, rfl⟩))
    | (go_at_call 8; ((with_reducible refine (c8 _).mono ?_); rintro e w' ⟨p8, rfl, rfl⟩)))
  go_ret
  exact ⟨rfl, below_drawn _ _⟩

set_option maxHeartbeats 1000000 in
set_option maxRecDepth 100000 in
theorem nb_000gt (x y fr ft fz fn : Nat) (m1 : ∀ w, Calls Try.prog 20 #[.float .f64 x] w fun e w' => e = .returned (.bool true) ∧ w = w')
    (m2 : ∀ w, Calls Try.prog 20 #[.float .f64 y] w fun e w' => e = .returned (.bool true) ∧ w = w')
    (hx : FloatKind.f64.format.order x x = some .eq) (hy : FloatKind.f64.format.order y y = some .eq)
    (ox : FloatKind.f64.format.order x 0 = some .gt)
    (oy1 : (FloatKind.f64.format.order y 0 == some Ordering.eq) = false)
    (c1 : CallsBad 7 x y)
    (c3 : CallsBad 9 x y)
    (c5 : CallsBad 10 x y)
    (c7 : CallsOk 11 x y fr)
    (c8 : CallsOk 8 x fr ft)
    (ot1 : (FloatKind.f64.format.order ft 0 == some Ordering.eq) = false)
    (c9 : CallsOk 10 ft y fz)
    (hz : FloatKind.f64.format.order fz fz = some .eq)
    (hr : FloatKind.f64.format.order fr 0 = some .gt)
    (hsz : ∀ w, Calls Try.prog 32 #[.float .f64 y] w fun e w' => e = .returned (.float .f64 fn) ∧ w = w')
    (hl1 : FloatKind.f64.format.order fr fn = some .lt) (hl2 : FloatKind.f64.format.order fr (Op.negFloat .f64 fn) = some .gt) (w : World) :
    Calls Try.prog 6 #[.float .f64 x, .float .f64 y] w fun e w' => e = .returned (.bool true) ∧ Below w.heap.size w w' := by
  have c1 : ∀ w, Calls Try.prog 7 #[.float .f64 x, .float .f64 y] w (BadAt w) := c1
  have c3 : ∀ w, Calls Try.prog 9 #[.float .f64 x, .float .f64 y] w (BadAt w) := c3
  have c5 : ∀ w, Calls Try.prog 10 #[.float .f64 x, .float .f64 y] w (BadAt w) := c5
  have c7 : ∀ w, Calls Try.prog 11 #[.float .f64 x, .float .f64 y] w (OkAt fr w) := c7
  have c8 : ∀ w, Calls Try.prog 8 #[.float .f64 x, .float .f64 fr] w (OkAt ft w) := c8
  have c9 : ∀ w, Calls Try.prog 10 #[.float .f64 ft, .float .f64 y] w (OkAt fz w) := c9
  go_enter Try.func6, Try.ntmps6
  go_wp2_with (first
    | (go_at_call 30; refine (alive_any _).mono ?_; rintro e w' ⟨n1, rfl, rfl⟩)
    | (go_at_call 20; ((with_reducible refine (m1 _).mono ?_); rintro e w' ⟨rfl, rfl⟩))
    | (go_at_call 20; ((with_reducible refine (m2 _).mono ?_); rintro e w' ⟨rfl, rfl⟩))
    | (go_at_call 31; refine (lawnone_any _ _).mono ?_; rintro e w' ⟨rfl, rfl⟩)
    | (go_at_call 7; ((with_reducible refine (c1 _).mono ?_); rintro e w' ⟨v1, p1, rfl, rfl⟩))
    | (go_at_call 9; ((with_reducible refine (c3 _).mono ?_); rintro e w' ⟨v3, p3, rfl, rfl⟩))
    | (go_at_call 10; ((with_reducible refine (c5 _).mono ?_); rintro e w' ⟨v5, p5, rfl, rfl⟩))
    | (go_at_call 11; ((with_reducible refine (c7 _).mono ?_); rintro e w' ⟨p7, rfl, rfl⟩))
    | (go_at_call 8; ((with_reducible refine (c8 _).mono ?_); rintro e w' ⟨p8, rfl, rfl⟩))
    | (go_at_call 10; ((with_reducible refine (c9 _).mono ?_); rintro e w' ⟨p9, rfl, rfl⟩))
    | (go_at_call 32; refine (hsz _).mono ?_; rintro e w' ⟨rfl, rfl⟩))
  go_ret
  exact ⟨rfl, below_drawn _ _⟩

set_option maxHeartbeats 1000000 in
set_option maxRecDepth 100000 in
theorem nb_000lt (x y fr ft fz fn : Nat) (m1 : ∀ w, Calls Try.prog 20 #[.float .f64 x] w fun e w' => e = .returned (.bool true) ∧ w = w')
    (m2 : ∀ w, Calls Try.prog 20 #[.float .f64 y] w fun e w' => e = .returned (.bool true) ∧ w = w')
    (hx : FloatKind.f64.format.order x x = some .eq) (hy : FloatKind.f64.format.order y y = some .eq)
    (ox : FloatKind.f64.format.order x 0 = some .lt)
    (oy1 : (FloatKind.f64.format.order y 0 == some Ordering.eq) = false)
    (c1 : CallsBad 7 x y)
    (c3 : CallsBad 9 x y)
    (c5 : CallsBad 10 x y)
    (c7 : CallsOk 11 x y fr)
    (c8 : CallsOk 8 x fr ft)
    (ot1 : (FloatKind.f64.format.order ft 0 == some Ordering.eq) = false)
    (c9 : CallsOk 10 ft y fz)
    (hz : FloatKind.f64.format.order fz fz = some .eq)
    (hr : FloatKind.f64.format.order fr 0 = some .lt)
    (hsz : ∀ w, Calls Try.prog 32 #[.float .f64 y] w fun e w' => e = .returned (.float .f64 fn) ∧ w = w')
    (hl1 : FloatKind.f64.format.order fr fn = some .lt) (hl2 : FloatKind.f64.format.order fr (Op.negFloat .f64 fn) = some .gt) (w : World) :
    Calls Try.prog 6 #[.float .f64 x, .float .f64 y] w fun e w' => e = .returned (.bool true) ∧ Below w.heap.size w w' := by
  have c1 : ∀ w, Calls Try.prog 7 #[.float .f64 x, .float .f64 y] w (BadAt w) := c1
  have c3 : ∀ w, Calls Try.prog 9 #[.float .f64 x, .float .f64 y] w (BadAt w) := c3
  have c5 : ∀ w, Calls Try.prog 10 #[.float .f64 x, .float .f64 y] w (BadAt w) := c5
  have c7 : ∀ w, Calls Try.prog 11 #[.float .f64 x, .float .f64 y] w (OkAt fr w) := c7
  have c8 : ∀ w, Calls Try.prog 8 #[.float .f64 x, .float .f64 fr] w (OkAt ft w) := c8
  have c9 : ∀ w, Calls Try.prog 10 #[.float .f64 ft, .float .f64 y] w (OkAt fz w) := c9
  go_enter Try.func6, Try.ntmps6
  go_wp2_with (first
    | (go_at_call 30; refine (alive_any _).mono ?_; rintro e w' ⟨n1, rfl, rfl⟩)
    | (go_at_call 20; ((with_reducible refine (m1 _).mono ?_); rintro e w' ⟨rfl, rfl⟩))
    | (go_at_call 20; ((with_reducible refine (m2 _).mono ?_); rintro e w' ⟨rfl, rfl⟩))
    | (go_at_call 31; refine (lawnone_any _ _).mono ?_; rintro e w' ⟨rfl, rfl⟩)
    | (go_at_call 7; ((with_reducible refine (c1 _).mono ?_); rintro e w' ⟨v1, p1, rfl, rfl⟩))
    | (go_at_call 9; ((with_reducible refine (c3 _).mono ?_); rintro e w' ⟨v3, p3, rfl, rfl⟩))
    | (go_at_call 10; ((with_reducible refine (c5 _).mono ?_); rintro e w' ⟨v5, p5, rfl, rfl⟩))
    | (go_at_call 11; ((with_reducible refine (c7 _).mono ?_); rintro e w' ⟨p7, rfl, rfl⟩))
    | (go_at_call 8; ((with_reducible refine (c8 _).mono ?_); rintro e w' ⟨p8, rfl, rfl⟩))
    | (go_at_call 10; ((with_reducible refine (c9 _).mono ?_); rintro e w' ⟨p9, rfl, rfl⟩))
    | (go_at_call 32; refine (hsz _).mono ?_; rintro e w' ⟨rfl, rfl⟩))
  go_ret
  exact ⟨rfl, below_drawn _ _⟩

set_option maxHeartbeats 1000000 in
set_option maxRecDepth 100000 in
theorem nb_zp (x y fs fp fq fr ft : Nat) (m1 : ∀ w, Calls Try.prog 20 #[.float .f64 x] w fun e w' => e = .returned (.bool true) ∧ w = w')
    (m2 : ∀ w, Calls Try.prog 20 #[.float .f64 y] w fun e w' => e = .returned (.bool true) ∧ w = w')
    (hx : FloatKind.f64.format.order x x = some .eq) (hy : FloatKind.f64.format.order y y = some .eq)
    (ox : FloatKind.f64.format.order x 0 = some .eq)
    (oy : FloatKind.f64.format.order y 0 = some .gt)
    (c1 : CallsOk 7 x y fs)
    (c2 : CallsOk 8 fs y x)
    (c3 : CallsOk 9 x y fp)
    (c4 : CallsOk 10 fp y x)
    (c5 : CallsOk 10 x y fq)
    (hq : FloatKind.f64.format.order fq fq = some .eq)
    (c6 : CallsOk 9 fq y x)
    (c7 : CallsOk 11 x y fr)
    (c8 : CallsOk 8 x fr ft)
    (ht : FloatKind.f64.format.order ft 0 = some .eq) (hr : FloatKind.f64.format.order fr x = some .eq) (w : World) :
    Calls Try.prog 6 #[.float .f64 x, .float .f64 y] w fun e w' => e = .returned (.bool true) ∧ Below w.heap.size w w' := by
  have c1 : ∀ w, Calls Try.prog 7 #[.float .f64 x, .float .f64 y] w (OkAt fs w) := c1
  have c2 : ∀ w, Calls Try.prog 8 #[.float .f64 fs, .float .f64 y] w (OkAt x w) := c2
  have c3 : ∀ w, Calls Try.prog 9 #[.float .f64 x, .float .f64 y] w (OkAt fp w) := c3
  have c4 : ∀ w, Calls Try.prog 10 #[.float .f64 fp, .float .f64 y] w (OkAt x w) := c4
  have c5 : ∀ w, Calls Try.prog 10 #[.float .f64 x, .float .f64 y] w (OkAt fq w) := c5
  have c6 : ∀ w, Calls Try.prog 9 #[.float .f64 fq, .float .f64 y] w (OkAt x w) := c6
  have c7 : ∀ w, Calls Try.prog 11 #[.float .f64 x, .float .f64 y] w (OkAt fr w) := c7
  have c8 : ∀ w, Calls Try.prog 8 #[.float .f64 x, .float .f64 fr] w (OkAt ft w) := c8
  go_enter Try.func6, Try.ntmps6
  go_wp2_with (first
    | (go_at_call 30; refine (alive_any _).mono ?_; rintro e w' ⟨n1, rfl, rfl⟩)
    | (go_at_call 20; ((with_reducible refine (m1 _).mono ?_); rintro e w' ⟨rfl, rfl⟩))
    | (go_at_call 20; ((with_reducible refine (m2 _).mono ?_); rintro e w' ⟨rfl, rfl⟩))
    | (go_at_call 31; refine (lawnone_any _ _).mono ?_; rintro e w' ⟨rfl, rfl⟩)
    | (go_at_call 7; ((with_reducible refine (c1 _).mono ?_); rintro e w' ⟨p1, rfl, rfl⟩))
    | (go_at_call 8; ((with_reducible refine (c2 _).mono ?_); rintro e w' ⟨p2, rfl, rfl⟩))
    | (go_at_call 9; ((with_reducible refine (c3 _).mono ?_); rintro e w' ⟨p3, rfl, rfl⟩))
    | (go_at_call 10; ((with_reducible refine (c4 _).mono ?_); rintro e w' ⟨p4, rfl, rfl⟩))
    | (go_at_call 10; ((with_reducible refine (c5 _).mono ?_); rintro e w' ⟨p5, rfl, rfl⟩))
    | (go_at_call 9; ((with_reducible refine (c6 _).mono ?_); rintro e w' ⟨p6, rfl, rfl⟩))
    | (go_at_call 11; ((with_reducible refine (c7 _).mono ?_); rintro e w' ⟨p7, rfl, rfl⟩))
    | (go_at_call 8; ((with_reducible refine (c8 _).mono ?_); rintro e w' ⟨p8, rfl, rfl⟩)))
  go_ret
  exact ⟨rfl, below_drawn _ _⟩

set_option maxHeartbeats 1000000 in
set_option maxRecDepth 100000 in
theorem nb_zn (x y fs fr ft : Nat) (m1 : ∀ w, Calls Try.prog 20 #[.float .f64 x] w fun e w' => e = .returned (.bool true) ∧ w = w')
    (m2 : ∀ w, Calls Try.prog 20 #[.float .f64 y] w fun e w' => e = .returned (.bool true) ∧ w = w')
    (hx : FloatKind.f64.format.order x x = some .eq) (hy : FloatKind.f64.format.order y y = some .eq)
    (oy : FloatKind.f64.format.order y 0 = some .lt)
    (c1 : CallsOk 7 x y fs)
    (c2 : CallsOk 8 fs y x)
    (c3 : CallsBad 9 x y)
    (c5 : CallsBad 10 x y)
    (c7 : CallsOk 11 x y fr)
    (c8 : CallsOk 8 x fr ft)
    (ht : FloatKind.f64.format.order ft 0 = some .eq) (hr : FloatKind.f64.format.order fr x = some .eq) (w : World) :
    Calls Try.prog 6 #[.float .f64 x, .float .f64 y] w fun e w' => e = .returned (.bool true) ∧ Below w.heap.size w w' := by
  have c1 : ∀ w, Calls Try.prog 7 #[.float .f64 x, .float .f64 y] w (OkAt fs w) := c1
  have c2 : ∀ w, Calls Try.prog 8 #[.float .f64 fs, .float .f64 y] w (OkAt x w) := c2
  have c3 : ∀ w, Calls Try.prog 9 #[.float .f64 x, .float .f64 y] w (BadAt w) := c3
  have c5 : ∀ w, Calls Try.prog 10 #[.float .f64 x, .float .f64 y] w (BadAt w) := c5
  have c7 : ∀ w, Calls Try.prog 11 #[.float .f64 x, .float .f64 y] w (OkAt fr w) := c7
  have c8 : ∀ w, Calls Try.prog 8 #[.float .f64 x, .float .f64 fr] w (OkAt ft w) := c8
  go_enter Try.func6, Try.ntmps6
  go_wp2_with (first
    | (go_at_call 30; refine (alive_any _).mono ?_; rintro e w' ⟨n1, rfl, rfl⟩)
    | (go_at_call 20; ((with_reducible refine (m1 _).mono ?_); rintro e w' ⟨rfl, rfl⟩))
    | (go_at_call 20; ((with_reducible refine (m2 _).mono ?_); rintro e w' ⟨rfl, rfl⟩))
    | (go_at_call 31; refine (lawnone_any _ _).mono ?_; rintro e w' ⟨rfl, rfl⟩)
    | (go_at_call 7; ((with_reducible refine (c1 _).mono ?_); rintro e w' ⟨p1, rfl, rfl⟩))
    | (go_at_call 8; ((with_reducible refine (c2 _).mono ?_); rintro e w' ⟨p2, rfl, rfl⟩))
    | (go_at_call 9; ((with_reducible refine (c3 _).mono ?_); rintro e w' ⟨v3, p3, rfl, rfl⟩))
    | (go_at_call 10; ((with_reducible refine (c5 _).mono ?_); rintro e w' ⟨v5, p5, rfl, rfl⟩))
    | (go_at_call 11; ((with_reducible refine (c7 _).mono ?_); rintro e w' ⟨p7, rfl, rfl⟩))
    | (go_at_call 8; ((with_reducible refine (c8 _).mono ?_); rintro e w' ⟨p8, rfl, rfl⟩)))
  go_ret
  exact ⟨rfl, below_drawn _ _⟩

end Go.Proofs.Ytggcepoolcfpgaa
