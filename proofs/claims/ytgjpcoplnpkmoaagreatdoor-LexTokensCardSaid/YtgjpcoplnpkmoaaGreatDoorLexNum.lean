/-
  The numbers of a text's tokens are no NaN.
-/
import Derived.Test.YtgjpcoplnpkmoaaGreatDoorLexTokens
namespace Go.Proofs.YtgjpcoplnpkmoaaGreatDoor.S
open Go.RowKit Fl

def numOk (x : Nat) : Prop := FloatKind.f64.format.order x x = some .eq
theorem numOk_0 : numOk 0 := by unfold numOk; decide
theorem pieceL_num {l : List UInt8} {k : Nat} {t : ByteArray} {n wd : Nat} (h : pieceL l = .tok k t n wd) : numOk n := by
  cases l with
  | nil => cases h
  | cons c r =>
    rw [pieceL_cons] at h
    split at h
    · unfold nameL at h
      split at h
      · cases h
      · cases h; exact numOk_0
    · split at h
      · rename_i hd
        unfold numberL at h
        split at h
        · cases h
        · have hne : (c :: r).take (runL isDig (c :: r)) ≠ [] := by
            rw [runL_cons, if_pos hd, List.take_succ_cons]; simp
          rw [readR_dig hne (run_take_all isDig (c :: r))] at h
          by_cases hv : valD ((c :: r).take (runL isDig (c :: r))) ≤ 9007199254740991
          · rw [if_pos hv] at h
            cases h
            unfold numOk
            refine (order_F (valD ((c :: r).take (runL isDig (c :: r))) : Int) _ (by omega) (by omega)).trans ?_
            simp
          · rw [if_neg hv] at h; cases h
      · split at h
        · unfold literalL at h
          split at h
          · cases h
          · rw [(plainP_le h).2.2.1]; exact numOk_0
        · unfold signL at h
          split at h
          · cases h
          · cases h; exact numOk_0
theorem toksF_num : ∀ (f i : Nat) (l : List UInt8) (acc r : List Tk), (∀ t ∈ acc, numOk t.num) → toksF f i l acc = .ok r → ∀ t ∈ r, numOk t.num
  | 0, _, _, _, _, _, h => by cases h
  | f + 1, i, l, acc, r, ha, h => by
    unfold toksF at h
    split at h
    · cases h
    · split at h
      · cases h
        intro t ht
        rw [List.mem_append, List.mem_singleton] at ht
        rcases ht with ht | rfl
        · exact ha t ht
        · exact numOk_0
      · split at h
        · cases h
        · rename_i hp
          split at h
          · cases h
          · refine toksF_num f _ _ _ r (fun t ht => ?_) h
            rw [List.mem_append, List.mem_singleton] at ht
            rcases ht with ht | rfl
            · exact ha t ht
            · exact pieceL_num hp
theorem toks_num {l : List UInt8} {r : List Tk} (h : toks l = .ok r) : ∀ t ∈ r, numOk t.num := by
  unfold toks at h
  split at h
  · cases h
  · exact toksF_num _ _ _ _ r (fun t ht => by cases ht) h
end Go.Proofs.YtgjpcoplnpkmoaaGreatDoor.S
