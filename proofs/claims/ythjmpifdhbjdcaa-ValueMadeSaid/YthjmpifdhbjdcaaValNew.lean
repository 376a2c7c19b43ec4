/-
  Values made of any float, string, boolean: walks.
-/
import Derived.Test.YthjmpifdhbjdcaaChecked
import Derived.Test.YthjmpifdhbjdcaaFloat
import Derived.WalkKit
import Derived.WalkSpells
import Derived.WalkLawsBesides
import Derived.Lib.Hide
import Derived.Below
import Derived.Deep.Draws
namespace Go.Proofs.Ythjmpifdhbjdcaa.S
open Go.RowKit Fl

/-- a store of a float into a cell (the walk has no law of its own for it) -/
theorem vstore (a : Addr) (x : Nat) (m : Mode) (w : World) : (store a (.float .f64 x) m).run Try.prog w = stored Try.prog w a (.float .f64 x) m := run_store Try.prog w a _ m rfl
theorem vzero (w : World) (o : Obj) : Below w.heap.size w (w.alloc o) := (Below.refl _ _).alloc (Nat.le_refl _) o
def valG (k x : Nat) (s : ByteArray) (r : Int) : Value := .agg #[.int .u8 (k : Int), .float .f64 x, .string s, .int .i64 r]

theorem Num_v (x : Nat) (w : World) : Calls Try.prog 5 #[.float .f64 x] w fun e w' => e = .returned (.agg #[.int .u8 3, .float .f64 x, .string ⟨#[]⟩, .int .i64 0]) ∧ Below w.heap.size w w' := by
  have hst := vstore
  go_enter Try.func5, Try.ntmps5
  go_wp2
  refine bodyPost_ret (v := .agg #[.int .u8 3, .float .f64 x, .string ⟨#[]⟩, .int .i64 0]) (by simp [results, Try.results5, go_sem]) rfl ⟨rfl, ?_⟩
  exact vzero _ _
theorem Str_v (s : ByteArray) (w : World) : Calls Try.prog 7 #[.string s] w fun e w' => e = .returned (.agg #[.int .u8 4, .float .f64 0, .string s, .int .i64 0]) ∧ Below w.heap.size w w' := by
  have hst := vstore
  go_enter Try.func7, Try.ntmps7
  go_wp2
  refine bodyPost_ret (v := .agg #[.int .u8 4, .float .f64 0, .string s, .int .i64 0]) (by simp [results, Try.results7, go_sem]) rfl ⟨rfl, ?_⟩
  exact vzero _ _
def oneB (b : Bool) : Nat := if b then 4607182418800017408 else 0
theorem Bool_v (b : Bool) (w : World) : Calls Try.prog 9 #[.bool b] w fun e w' => e = .returned (.agg #[.int .u8 2, .float .f64 (oneB b), .string ⟨#[]⟩, .int .i64 0]) ∧ Below w.heap.size w w' := by
  have hst := vstore
  cases b
  all_goals
    go_enter Try.func9, Try.ntmps9
    go_wp2
  · refine bodyPost_ret (v := .agg #[.int .u8 2, .float .f64 0, .string ⟨#[]⟩, .int .i64 0]) (by simp [results, Try.results9, go_sem]) rfl ⟨rfl, ?_⟩
    exact vzero _ _
  · refine bodyPost_ret (v := .agg #[.int .u8 2, .float .f64 4607182418800017408, .string ⟨#[]⟩, .int .i64 0]) (by simp [results, Try.results9, go_sem]) rfl ⟨rfl, ?_⟩
    exact vzero _ _
theorem refNum_v (x : Nat) (w : World) : Calls Try.prog 6 #[.float .f64 x] w fun e w' => e = .returned (.agg #[.int .u8 3, .float .f64 x, .string ⟨#[]⟩, .int .i64 0]) ∧ Below w.heap.size w w' := by
  have hst := vstore
  go_enter Try.func6, Try.ntmps6
  go_wp2
  refine bodyPost_ret (v := .agg #[.int .u8 3, .float .f64 x, .string ⟨#[]⟩, .int .i64 0]) (by simp [results, Try.results6, go_sem]) rfl ⟨rfl, ?_⟩
  exact vzero _ _
theorem refStr_v (s : ByteArray) (w : World) : Calls Try.prog 8 #[.string s] w fun e w' => e = .returned (.agg #[.int .u8 4, .float .f64 0, .string s, .int .i64 0]) ∧ Below w.heap.size w w' := by
  have hst := vstore
  go_enter Try.func8, Try.ntmps8
  go_wp2
  refine bodyPost_ret (v := .agg #[.int .u8 4, .float .f64 0, .string s, .int .i64 0]) (by simp [results, Try.results8, go_sem]) rfl ⟨rfl, ?_⟩
  exact vzero _ _
theorem refBool_v (b : Bool) (w : World) : Calls Try.prog 10 #[.bool b] w fun e w' => e = .returned (.agg #[.int .u8 2, .float .f64 (oneB b), .string ⟨#[]⟩, .int .i64 0]) ∧ Below w.heap.size w w' := by
  have hst := vstore
  cases b
  all_goals
    go_enter Try.func10, Try.ntmps10
    go_wp2
  · refine bodyPost_ret (v := .agg #[.int .u8 2, .float .f64 0, .string ⟨#[]⟩, .int .i64 0]) (by simp [results, Try.results10, go_sem]) rfl ⟨rfl, ?_⟩
    exact vzero _ _
  · refine bodyPost_ret (v := .agg #[.int .u8 2, .float .f64 4607182418800017408, .string ⟨#[]⟩, .int .i64 0]) (by simp [results, Try.results10, go_sem]) rfl ⟨rfl, ?_⟩
    exact vzero _ _
end Go.Proofs.Ythjmpifdhbjdcaa.S
