/-
  value.Truth, Type, Text: walks, for any value that may be.
-/
import Derived.Test.YtlgbnfcnimjheaaValMay3
import Derived.Test.YtlgbnfcnimjheaaValShelf
namespace Go.Proofs.Ytlgbnfcnimjheaa.S
open Go.RowKit Fl

theorem May_ok {v : Vl} (h : v.ok) (w : World) : Calls Try.prog 24 #[v.val] w fun e w' => e = .returned (.bool true) ∧ Below w.heap.size w w' := by
  have z : restB 0 ⟨#[]⟩ 0 = true := by
    have z3 : (⟨#[]⟩ : ByteArray).toList = [] := by rw [toList_data]
    unfold restB; rw [z3]; decide
  have fin : ∀ {b : Bool} {e : Ending} {w' : World}, b = true → (e = .returned (.bool b) ∧ Below w.heap.size w w') → (e = .returned (.bool true) ∧ Below w.heap.size w w') := fun hb h => ⟨by rw [h.1, hb], h.2⟩
  cases v with
  | und => exact (May_k0 0 ⟨#[]⟩ 0 w (by decide)).mono fun e w' => fin (by rw [z]; rfl)
  | nul => exact (May_k1 0 ⟨#[]⟩ 0 w (by decide)).mono fun e w' => fin (by rw [z]; rfl)
  | boo x => exact (May_k2 x ⟨#[]⟩ 0 w).mono fun e w' => fin (by
      rw [z, Bool.and_true]
      rcases h with rfl | rfl | rfl <;> decide)
  | num x =>
    obtain ⟨c, hc, hm⟩ := h
    exact (May_k3 x ⟨#[]⟩ 0 w hc).mono fun e w' => fin (by rw [z, hm]; rfl)
  | str s => exact (May_k4 0 s 0 w (by decide)).mono fun e w' => fin (by
      have h : s.size ≤ 4096 := h
      rw [z, Bool.and_true]; exact decide_eq_true (by omega))
  | sym r => exact (May_k5 0 ⟨#[]⟩ r w (by decide)).mono fun e w' => fin (by rw [z, Bool.and_true]; exact decide_eq_true h.1)
  | obj k r =>
    have hk := h.1
    exact (May_obj 0 ⟨#[]⟩ r w k (by decide) (by rw [beq_eq_false_iff_ne]; omega) (by rw [beq_eq_false_iff_ne]; omega) (by rw [beq_eq_false_iff_ne]; omega) (by rw [beq_eq_false_iff_ne]; omega) (by rw [beq_eq_false_iff_ne]; omega) (by rw [beq_eq_false_iff_ne]; omega) (obj_kd hk)).mono fun e w' => fin (by rw [z, Bool.and_true]; exact decide_eq_true h.2.1)
theorem obj_facts {k : Nat} (h : k = 6 ∨ k = 7 ∨ k = 8) : ((k : Int) == 0) = false ∧ ((k : Int) == 1) = false ∧ ((k : Int) == 2) = false ∧ ((k : Int) == 3) = false ∧ ((k : Int) == 4) = false ∧ ((k : Int) == 5) = false := by
  refine ⟨?_, ?_, ?_, ?_, ?_, ?_⟩ <;> (rw [beq_eq_false_iff_ne]; omega)

end Go.Proofs.Ytlgbnfcnimjheaa.S
