/-
  == of values that are no objects: mathematics.
-/
import Derived.Test.YthjmpifdhbjdcaaDoorValPlain2
namespace Go.Proofs.YthjmpifdhbjdcaaDoor.S
open Go.RowKit Fl

theorem num_strict {x y : Nat} {o p : Option Int} (h : NV x o) (g : NV y p) : ((feq x y || (!feq x x && !feq y y)) && !(true && !feq x x)) = feq x y := by
  rw [feq_nv h g, feq_nv h h, feq_nv g g]
  cases o <;> cases p <;> simp
theorem int_symm (s t : Int) : (s == t) = (t == s) := by
  rw [Bool.eq_iff_iff]; simp only [beq_iff_eq]; exact eq_comm
theorem feq_symm {x y : Nat} {o p : Option Int} (h : NV x o) (g : NV y p) : feq x y = feq y x := by
  rw [feq_nv h g, feq_nv g h]
  cases o <;> cases p <;> first | rfl | (simp; exact int_symm _ _)
theorem plain_num {x y : Nat} {o p : Option Int} (h : NV x o) (g : NV y p) : plainW (.num x) (.num y) = (feq x y, 0) := by
  show (((feq x y || (!feq x x && !feq y y)) && !(true && !feq x x)), (0 : Int)) = _
  rw [num_strict h g]
theorem nv_of {v : Vl} (h : v.ok) {x : Nat} (e : cnt v = .num x) : ∃ o, NV x o := by
  cases v with
  | boo y => obtain ⟨o, ho, _⟩ := boo_nv h; cases e; exact ⟨o, ho⟩
  | num y => obtain ⟨o, ho⟩ := num_nv h; cases e; exact ⟨o, ho⟩
  | _ => cases e
theorem kd_ne (v : Vl) (h : v.ok) (ho : objB v.kd = false) : ¬ ∃ k r, cnt v = .obj k r := by
  rintro ⟨k, r, e⟩
  cases v with
  | obj j q => rw [show (Vl.obj j q).kd = j from rfl, obj_kd h.1] at ho; cases ho
  | _ => cases e
theorem cnt_boo (v : Vl) : ¬ ∃ x, cnt v = .boo x := by
  rintro ⟨x, e⟩
  cases v <;> cases e
theorem str_symm (s t : ByteArray) : (s.data.toList == t.data.toList) = (t.data.toList == s.data.toList) := by
  rw [Bool.eq_iff_iff]; simp only [beq_iff_eq]; exact eq_comm
theorem plainW_symm {a b : Vl} (ha : a.ok) (hb : b.ok) (oa : objB a.kd = false) (ob : objB b.kd = false) : plainW (cnt a) (cnt b) = plainW (cnt b) (cnt a) := by
  have a1 := fun x e => nv_of ha (x := x) e
  have b1 := fun x e => nv_of hb (x := x) e
  have a2 := kd_ne a ha oa
  have b2 := kd_ne b hb ob
  have a3 := cnt_boo a
  have b3 := cnt_boo b
  generalize cnt a = u at *
  generalize cnt b = v at *
  cases u with
  | boo x => exact absurd ⟨_, rfl⟩ a3
  | obj k r => exact absurd ⟨_, _, rfl⟩ a2
  | num x =>
    obtain ⟨o, ho⟩ := a1 x rfl
    cases v with
    | boo x => exact absurd ⟨_, rfl⟩ b3
    | obj k r => exact absurd ⟨_, _, rfl⟩ b2
    | num y =>
      obtain ⟨p, hp⟩ := b1 y rfl
      rw [plain_num ho hp, plain_num hp ho, feq_symm ho hp]
    | _ => rfl
  | str s =>
    cases v with
    | boo x => exact absurd ⟨_, rfl⟩ b3
    | obj k r => exact absurd ⟨_, _, rfl⟩ b2
    | str t => show ((s.data.toList == t.data.toList) && true, (0 : Int)) = ((t.data.toList == s.data.toList) && true, 0); rw [str_symm]
    | _ => rfl
  | sym r =>
    cases v with
    | boo x => exact absurd ⟨_, rfl⟩ b3
    | obj k r => exact absurd ⟨_, _, rfl⟩ b2
    | sym t => show ((r == t) && true, (0 : Int)) = ((t == r) && true, 0); rw [int_symm]
    | _ => rfl
  | _ =>
    cases v with
    | boo x => exact absurd ⟨_, rfl⟩ b3
    | obj k r => exact absurd ⟨_, _, rfl⟩ b2
    | _ => rfl
theorem plainV_symm {a b : Vl} (ha : a.ok) (hb : b.ok) : plainV a b = plainV b a := by
  unfold plainV
  rw [Bool.or_comm (objB b.kd)]
  cases oa : objB a.kd <;> cases ob : objB b.kd
  · exact plainW_symm ha hb oa ob
  all_goals rfl
theorem strict_plain {a b : Vl} (ha : a.ok) (hb : b.ok) (oa : objB a.kd = false) (ob : objB b.kd = false) (h : (sameV a b && !noneV a) = true) : plainV a b = (true, 0) := by
  rw [Bool.and_eq_true] at h
  obtain ⟨h1, h2⟩ := h
  have hs := (same_sm ha hb).1 h1
  unfold plainV
  rw [oa, ob, if_neg (by decide)]
  cases a <;> cases b <;> first | exact hs.elim | rfl | skip
  case boo.boo x y =>
    obtain ⟨o, n1, n2⟩ := hs
    show plainW (.num x) (.num y) = _
    rw [plain_num n1 n2]
    have h1 : feq x y = true := h1
    rw [h1]
  case num.num x y =>
    obtain ⟨o, n1, n2⟩ := hs
    show plainW (.num x) (.num y) = _
    rw [plain_num n1 n2]
    have h1 : (feq x y || (!feq x x && !feq y y)) = true := h1
    have h2 : (!(true && !feq x x)) = true := h2
    have e := num_strict n1 n2
    rw [h1, h2] at e
    rw [← e]; rfl
  case str.str s t =>
    have h1 : (s.data.toList == t.data.toList) = true := h1
    show ((s.data.toList == t.data.toList) && true, (0 : Int)) = _
    rw [h1]; rfl
  case sym.sym s t =>
    have h1 : (s == t) = true := h1
    show ((s == t) && true, (0 : Int)) = _
    rw [h1]; rfl
  case obj.obj k r j q =>
    rw [show (Vl.obj k r).kd = k from rfl, obj_kd ha.1] at oa; cases oa
end Go.Proofs.YthjmpifdhbjdcaaDoor.S
