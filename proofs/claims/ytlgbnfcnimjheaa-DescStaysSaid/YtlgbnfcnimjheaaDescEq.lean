/-
  Two descriptors compared by ==, the second with no field but its Has.
-/
import Derived.Test.YtlgbnfcnimjheaaDescVal
namespace Go.Proofs.Ytlgbnfcnimjheaa.S
open Go.RowKit Fl

def zV (k : Int) (x : Nat) (s : ByteArray) (r : Int) : Bool := k == 0 && (feq x 0 && (s.toList.isEmpty && r == 0))
theorem eq_val (d : Nat) (ka : Int) (xa : Nat) (sa : ByteArray) (ra : Int) (w : World) : (Op.equalIn (d + 2) 24 (.agg #[.int .u8 ka, .float .f64 xa, .string sa, .int .i64 ra]) (.agg #[.int .u8 0, .float .f64 0, .string ⟨#[]⟩, .int .i64 0])).run Try.prog w = .ok (zV ka xa sa ra) w := by
  have hv := veq_float d xa 0 w
  have z3 : (⟨#[]⟩ : ByteArray).toList = [] := by rw [toList_data]
  simp only [zV]
  by_cases h1 : ka = 0 <;> cases h2 : feq xa 0 <;> by_cases h3 : sa.toList = [] <;> by_cases h4 : ra = 0 <;> (rw [h2] at hv; simp [go_sem, run_equalIn_struct, Try.underlying24, hv, z3, h1, h3, h4])
def zD (o h : Int) (va vb vc p q z : Bool) : Bool := o == h && (va && (vb && (vc && (!p && (!q && !z)))))
theorem fields_step {d : Nat} {xs ys : Array Value} {f : Field} {fs : List Field} {a b : Value} {r : Bool} {w : World} (hn : f.name ≠ "_") (ha : (part f.type xs f.offset).run Try.prog w = .ok a w) (hb : (part f.type ys f.offset).run Try.prog w = .ok b w)
    (hr : (Op.equalIn d f.type a b).run Try.prog w = .ok r w) {t : Bool} (h : (Op.eqFields d xs ys fs).run Try.prog w = .ok t w) : (Op.eqFields d xs ys (f :: fs)).run Try.prog w = .ok (r && t) w := by
  simp only [Op.eqFields, if_pos hn, Sem.run_bind, ha, hb, hr, Result.andThen_ok]
  cases r <;> simp [h]
theorem eq_desc (d : Nat) (o h : Int) (ka : Int) (xa : Nat) (sa : ByteArray) (ra : Int) (kb : Int) (xb : Nat) (sb : ByteArray) (rb : Int) (kc : Int) (xc : Nat) (sc : ByteArray) (rc : Int) (p q z : Bool) (w : World) : (Op.equalIn (d + 3) 26 (.agg #[.int .u8 o, .int .u8 ka, .float .f64 xa, .string sa, .int .i64 ra, .int .u8 kb, .float .f64 xb, .string sb, .int .i64 rb, .int .u8 kc, .float .f64 xc, .string sc, .int .i64 rc, .bool p, .bool q, .bool z]) (.agg #[.int .u8 h, .int .u8 0, .float .f64 0, .string ⟨#[]⟩, .int .i64 0, .int .u8 0, .float .f64 0, .string ⟨#[]⟩, .int .i64 0, .int .u8 0, .float .f64 0, .string ⟨#[]⟩, .int .i64 0, .bool false, .bool false, .bool false])).run Try.prog w = .ok (zD o h (zV ka xa sa ra) (zV kb xb sb rb) (zV kc xc sc rc) p q z) w := by
  rw [run_equalIn_struct _ _ _ _ _ (by kernel_rfl) (by kernel_rfl)]
  simp only [Program.fieldsOf, Try.underlying26]
  unfold zD
  refine fields_step (by decide) (a := .int .u8 o) (b := .int .u8 h) (by simp [go_sem]) (by simp [go_sem]) (by simp [go_sem]) ?_
  refine fields_step (by decide) (a := .agg #[.int .u8 ka, .float .f64 xa, .string sa, .int .i64 ra]) (b := .agg #[.int .u8 0, .float .f64 0, .string ⟨#[]⟩, .int .i64 0]) (by simp [go_sem]) (by simp [go_sem]) (eq_val d ka xa sa ra w) ?_
  refine fields_step (by decide) (a := .agg #[.int .u8 kb, .float .f64 xb, .string sb, .int .i64 rb]) (b := .agg #[.int .u8 0, .float .f64 0, .string ⟨#[]⟩, .int .i64 0]) (by simp [go_sem]) (by simp [go_sem]) (eq_val d kb xb sb rb w) ?_
  refine fields_step (by decide) (a := .agg #[.int .u8 kc, .float .f64 xc, .string sc, .int .i64 rc]) (b := .agg #[.int .u8 0, .float .f64 0, .string ⟨#[]⟩, .int .i64 0]) (by simp [go_sem]) (by simp [go_sem]) (eq_val d kc xc sc rc w) ?_
  refine fields_step (by decide) (a := .bool p) (b := .bool false) (by simp [go_sem]) (by simp [go_sem]) (by cases p <;> simp [go_sem]) ?_
  refine fields_step (by decide) (a := .bool q) (b := .bool false) (by simp [go_sem]) (by simp [go_sem]) (by cases q <;> simp [go_sem]) ?_
  have h0 : (Op.eqFields (d + 2) (#[.int .u8 o, .int .u8 ka, .float .f64 xa, .string sa, .int .i64 ra, .int .u8 kb, .float .f64 xb, .string sb, .int .i64 rb, .int .u8 kc, .float .f64 xc, .string sc, .int .i64 rc, .bool p, .bool q, .bool z]) (#[.int .u8 h, .int .u8 0, .float .f64 0, .string ⟨#[]⟩, .int .i64 0, .int .u8 0, .float .f64 0, .string ⟨#[]⟩, .int .i64 0, .int .u8 0, .float .f64 0, .string ⟨#[]⟩, .int .i64 0, .bool false, .bool false, .bool false]) []).run Try.prog w = .ok true w := by simp [Op.eqFields]
  have := fields_step (f := { name := "Configurable", type := 4, offset := 15, embedded := false, tag := "", pkgPath := "", byteOffset := 130 }) (by decide) (a := .bool z) (b := .bool false) (by simp [go_sem]) (by simp [go_sem]) (r := !z) (by cases z <;> simp [go_sem]) h0
  rw [Bool.and_true] at this
  exact this
end Go.Proofs.Ytlgbnfcnimjheaa.S
