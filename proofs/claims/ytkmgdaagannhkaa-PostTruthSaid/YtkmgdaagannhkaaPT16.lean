/-
  PostTruth: any input.
-/
import Derived.Test.YtkmgdaagannhkaaPT15
import Derived.Test.YtkmgdaagannhkaaRows
import Derived.ProofKit
import Derived.OpenShut
import Derived.ShutString
import Derived.ChangeOld
import Derived.Below
import Derived.Carry
namespace Go.Proofs.Ytkmgdaagannhkaa.S
open Go.RowKit Go.Lib Fl

theorem long_le {n : Nat} (h : longN n = false) : n ≤ 1100 := by
  unfold longN at h
  have := of_decide_eq_false h
  omega
theorem PostTruth_walk (a : Ak) (q : Oq) (f : Fq) (K L : List Ky) (D : List Dq) (w : World) (h : SIn w a q f K L D) : Calls Try.prog 4 #[.agg (clA a q f)] w fun e w' => e = .returned (.bool true) ∧ Below w.heap.size w w' := by
  cases hn : longN (max (max q.kn f.kn) f.on) with
  | true => exact truth_long a q f w hn
  | false =>
    have := long_le hn
    have h1 := h.kn
    have h2 := h.fk
    have h3 := h.fn
    exact truth_p a q f K L D w h (by omega) (by omega) hn
end Go.Proofs.Ytkmgdaagannhkaa.S
/-
  PostTruth: whatever the input, the Go function returns true and leaves its input as it was: the walk, carried into the row.
-/
namespace Go.Proofs.Ytkmgdaagannhkaa
open Go.ChangeShapes Go.WideShapes Go.ChangeAt Go.RowKit
open Go.ChangeMaps (open_string shut_string)

theorem PostTruth_own : ownKnob Try.prog.godebug = none := by kernel_rfl

theorem laidOut : laidOutB Try.prog = true := by kernel_rfl
set_option maxRecDepth 100000 in
theorem PostTruth_lifted (os : Os) (started : os.Started) (H : Type) (enc : TypeId × Value → H) :
    ReturnsInHanded {} Try.checked os 4 .any (Rows.postTruthSpec.pre6 enc Try.prog Try.f4 Rows.postTruthRow.domain false) (Rows.postTruthSpec.post enc Try.prog Try.f4 false true false false) := by
  refine returnsInHanded_of_change (C := Try.checked) PostTruth_own started (by kernel_rfl) Try.func4
    (ChangeSpec.witness6 (enc := enc) (C := Try.checked) false ⟨#[], #[.agg #[.int .u8 0, .int .i64 0, .string ByteArray.empty, .int .i64 0, .int .u8 0, .int .u8 0, .float .f64 0, .string ByteArray.empty, .int .i64 0, .int .u8 0, .float .f64 0, .string ByteArray.empty, .int .i64 0, .int .u8 0, .float .f64 0, .string ByteArray.empty, .int .i64 0, .bool false, .bool false, .bool false, .int .u8 0, .float .f64 0, .string ByteArray.empty, .int .i64 0, .int .u8 0, .float .f64 0, .string ByteArray.empty, .int .i64 0, .slice none 0 0, .int .u8 0, .int .u8 0, .float .f64 0, .string ByteArray.empty, .int .i64 0, .bool false, .bool false, .int .u8 0, .int .u8 0, .float .f64 0, .string ByteArray.empty, .int .i64 0, .int .u8 0, .float .f64 0, .string ByteArray.empty, .int .i64 0, .int .u8 0, .float .f64 0, .string ByteArray.empty, .int .i64 0, .bool false, .bool false, .bool false, .slice none 0 0, .int .u8 0, .string ByteArray.empty, .bool false, .int .u8 0, .float .f64 0, .string ByteArray.empty, .int .i64 0, .bool false, .int .u8 0, .int .u8 0, .float .f64 0, .string ByteArray.empty, .int .i64 0, .int .u8 0, .float .f64 0, .string ByteArray.empty, .int .i64 0, .int .u8 0, .float .f64 0, .string ByteArray.empty, .int .i64 0, .bool false, .bool false, .bool false, .slice none 0 0, .slice none 0 0]], []⟩ 8 (by kernel_rfl) (by kernel_rfl) (by kernel_rfl) (by kernel_rfl)) ?_
  intro W base args ds gs before hval0 hW hcnd _
  have hval : ∀ (j : Nat) t v, Try.f4.params[j]? = some t → args[j]? = some v → Value.okWide Try.prog W .any base t v := hval0
  have hW' := hW
  obtain ⟨p, q, hA0, hV, rfl, hfz, hnd⟩ := hW
  have hA : DataW.TrodAll enc Try.prog W 0 (fun _ => true) true Try.f4.params.toList args.toList ds p := hA0
  rw [Try.params4] at hA hval
  obtain ⟨v0, vs0, d0, ds0, p0, q0, hargs, rfl, rfl, h0, r0⟩ := trodAll_cons hA
  obtain ⟨rfl, rfl, rfl⟩ := trodAll_nil r0
  obtain rfl : args = #[v0] := by cases args; simp_all
  obtain ⟨rfl, rfl⟩ := trodVars_none hV
  have h0k := h0
  obtain ⟨a0, q0, f0, K0, L0, D0, rfl, hk0⟩ := S.open_asked (hval 0 52 v0 rfl rfl) h0
  have hlt0 : ∀ x ∈ p0, x.block < W.heap.size := fun x hx => hW'.lt x (by simp [hx])
  clear hA0 hval0
  refine (S.PostTruth_walk a0 q0 f0 K0 L0 D0 W hk0).mono fun e W' ⟨he, bel⟩ => ?_
  subst he
  exact ⟨_, rfl, _, _, _, [], _, [], hW', trodAll_mk1 (shut_bool Try.underlying4 _), (trodAll_cons_mk (Below.trod laidOut (by kernel_rfl) (of_decide_eq_true (by kernel_rfl)) h0k bel hlt0) trodAll_mk0), rfl, bel.frame _, fun h => by cases h⟩

theorem PostTruth_holds : Rows.PostTruthSaid :=
  OpenClaim.holds_of_wide 4 Try.f4 rfl rfl rfl rfl rfl rfl rfl ⟨rfl, rfl, rfl, rfl, rfl⟩ rfl rfl rfl rfl rfl (by kernel_rfl) Try.func4 (by kernel_rfl)
    (of_decide_eq_true (by kernel_rfl)) (by unfold Func.isWrapper; first | (rw [if_pos (by decide +kernel)]; kernel_rfl) | (rw [if_neg (by decide +kernel)]; exact ⟨rfl, rfl⟩))
    (fun os started H enc _ => PostTruth_lifted os started H enc)
#print axioms PostTruth_holds
end Go.Proofs.Ytkmgdaagannhkaa
