/-
  What is refused is refused with an error. Plain mathematics.
-/
import Derived.Test.YtablckajobefeaaGreatDoorPN07
namespace Go.Proofs.YtablckajobefeaaGreatDoor.S
open Go.RowKit Fl

def NB {α : Type} (r : Rs α) : Prop := ∀ p k, r = .bad p k → k ≠ 0
theorem nb_ok {α : Type} (a : α) (s : Ps) : NB (Rs.ok a s) := fun p k h => by cases h
theorem nb_out {α : Type} : NB (Rs.out : Rs α) := fun p k h => by cases h
theorem nb_bad {α : Type} (p k : Int) (hk : k ≠ 0) : NB (Rs.bad p k : Rs α) := fun q j h => by injection h with _ h2; subst h2; exact hk
theorem nb_bind {α β : Type} {r : Rs α} {f : α → Ps → Rs β} (h : NB r) (g : ∀ a s, NB (f a s)) : NB (r.bind f) := by
  cases r with
  | ok a s => exact g a s
  | bad p k => exact fun q j e => h q j (by injection e with e1 e2; rw [e1, e2])
  | out => exact nb_out
theorem nb_ite {α : Type} {c : Prop} [Decidable c] {a b : Rs α} (h : NB a) (g : NB b) : NB (if c then a else b) := by
  split
  · exact h
  · exact g
section
variable {T : List Tk}
theorem nb_take1 (c : ByteArray) (s : Ps) : NB (take1 T c s) := nb_ite (nb_ok _ _) (nb_bad _ _ (by decide))
theorem nb_takes : ∀ (l : List ByteArray) (s : Ps), NB (takes T l s)
  | [], _ => nb_ok _ _
  | c :: l, s => nb_bind (nb_take1 c s) fun _ s1 => nb_takes l s1
theorem nb_mkP (k : Nat) (p : Int) (t : ByteArray) (x : Nat) (l : List Tr) (s : Ps) : NB (mkP k p t x l s) := nb_ok _ _
theorem nb_name (s : Ps) : NB (nameR T s) := nb_ite (nb_ok _ _) (nb_bad _ _ (by decide))
theorem nb_word (s : Ps) : NB (wordR T s) := nb_ite (nb_ok _ _) (nb_name _)
theorem nb_deeper {f : Ps → Rs Tr} (h : ∀ s, NB (f s)) (s : Ps) : NB (deeperR T f s) := nb_ite (nb_bad _ _ (by decide)) (nb_bind (h _) fun _ _ => nb_ok _ _)
theorem nb_bare (k : Nat) (l : List ByteArray) (s : Ps) : NB (bareR T k l s) := nb_bind (nb_takes _ _) fun _ _ => nb_mkP _ _ _ _ _ _
theorem nb_decl (s : Ps) : NB (declR T s) := nb_ite (nb_bind (nb_name _) fun _ _ => nb_mkP _ _ _ _ _ _) (nb_bind (nb_take1 _ _) fun _ _ => nb_bind (nb_name _) fun _ _ => nb_mkP _ _ _ _ _ _)
theorem nb_param (s : Ps) : NB (paramR T s) := nb_bind (nb_name _) fun _ _ => nb_mkP _ _ _ _ _ _
theorem nb_num (s : Ps) : NB (numR T s) := nb_mkP _ _ _ _ _ _
theorem nb_listed {f : Ps → Rs Tr} (h : ∀ s, NB (f s)) (c : ByteArray) (M : Nat) : ∀ (n : Nat) (l : List Tr) (s : Ps), NB (listedR T c M f n l s)
  | 0, _, _ => nb_out
  | n + 1, l, s => by
    unfold listedR
    exact nb_ite (nb_bad _ _ (by decide)) (nb_bind (h _) fun _ _ => nb_ite (nb_ok _ _) (nb_bind (nb_take1 _ _) fun _ _ => nb_listed h c M n _ _))
theorem nb_list {f : Ps → Rs Tr} (h : ∀ s, NB (f s)) (c : ByteArray) (M : Nat) (s : Ps) : NB (listR T c M f s) := nb_ite (nb_ok _ _) (nb_listed h c M _ _ _)
theorem nb_block {f : Ps → Rs Tr} (h : ∀ s, NB (f s)) : ∀ (n : Nat) (l : List Tr) (s : Ps), NB (blockL T f n l s)
  | 0, _, _ => nb_out
  | n + 1, l, s => by
    unfold blockL
    exact nb_ite (nb_ok _ _) (nb_bind (h _) fun _ _ => nb_block h n _ _)
theorem nb_script {f : Ps → Rs Tr} (h : ∀ s, NB (f s)) : ∀ (n : Nat) (l : List Tr) (s : Ps), NB (scriptL T f n l s)
  | 0, _, _ => nb_out
  | n + 1, l, s => by
    unfold scriptL
    exact nb_ite (nb_ok _ _) (nb_bind (h _) fun _ _ => nb_script h n _ _)
theorem nb_args {r : Mth → Ps → Rs Tr} (h : ∀ m s, NB (r m s)) (x : Tr) (s : Ps) : NB (argsR T r x s) := nb_bind (nb_take1 _ _) fun _ _ => nb_bind (nb_list (h _) _ _ _) fun _ _ => nb_ok _ _
theorem nb_sides {r : Mth → Ps → Rs Tr} (h : ∀ m s, NB (r m s)) (p : Int) (k : Nat) : ∀ (n : Nat) (x : Tr) (s : Ps), NB (sidesL T r p k n x s)
  | 0, _, _ => nb_out
  | n + 1, x, s => by
    unfold sidesL
    exact nb_ite (nb_ok _ _) (nb_bind (h _ _) fun _ _ => nb_bind (nb_mkP _ _ _ _ _ _) fun _ _ => nb_sides h p k n _ _)
theorem nb_chain {r : Mth → Ps → Rs Tr} (h : ∀ m s, NB (r m s)) (p : Int) (c : Bool) : ∀ (n : Nat) (x : Tr) (s : Ps), NB (chainL T r p c n x s)
  | 0, _, _ => nb_out
  | n + 1, x, s => by
    unfold chainL
    exact nb_ite (nb_bind (nb_word _) fun _ _ => nb_bind (nb_mkP _ _ _ _ _ _) fun _ _ => nb_chain h p c n _ _) (nb_ite (nb_bind (h _ _) fun _ _ => nb_bind (nb_take1 _ _) fun _ _ => nb_bind (nb_mkP _ _ _ _ _ _) fun _ _ => nb_chain h p c n _ _)
      (nb_ite (nb_bind (nb_args h _ _) fun _ _ => nb_bind (nb_mkP _ _ _ _ _ _) fun _ _ => nb_chain h p c n _ _) (nb_ok _ _)))
set_option maxHeartbeats 2000000 in
theorem nb_step {r : Mth → Ps → Rs Tr} (h : ∀ m s, NB (r m s)) : ∀ m s, NB (step T r m s) := by
  intro m s
  cases m <;> dsimp only [step]
  case declaration =>
    refine nb_bind (nb_decl _) fun x s1 => ?_
    cases x
    exact nb_ite (nb_ok _ _) (nb_bind (nb_take1 _ _) fun _ _ => nb_bind (h _ _) fun _ _ => nb_ok _ _)
  all_goals repeat' (first | exact h _ _ | exact nb_take1 _ _ | exact nb_takes _ _ | exact nb_mkP _ _ _ _ _ _ | exact nb_name _ | exact nb_word _ | exact nb_deeper (h _) _ | exact nb_bare _ _ _ | exact nb_decl _ | exact nb_param _ | exact nb_num _ | exact nb_list (h _) _ _ _ | exact nb_list nb_param _ _ _ | exact nb_block (h _) _ _ _ | exact nb_args h _ _ | exact nb_sides h _ _ _ _ _ | exact nb_chain h _ _ _ _ _ | exact nb_ok _ _ | exact nb_bad _ _ (by decide) | refine nb_ite ?_ ?_ | refine nb_bind ?_ fun _ _ => ?_)
theorem nb_run : ∀ n m s, NB (run T n m s)
  | 0, _, _ => nb_out
  | n + 1, m, s => nb_step (nb_run n) m s
theorem nb_tree {n : Nat} {s : Ps} {p k : Int} (h : scriptR T n s = .bad p k) : k ≠ 0 := nb_bind (nb_script (nb_run n .statement) _ _ _) (fun _ _ => nb_mkP _ _ _ _ _ _) p k h
end
end Go.Proofs.YtablckajobefeaaGreatDoor.S
