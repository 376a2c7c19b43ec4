/-
  Package parse's caught, of Tree's own closure.
-/
import Derived.Test.YtablckajobefeaaGreatDoorPN22
import Derived.Defers
import Derived.Test.YtablckajobefeaaGreatDoorPN21
import Derived.Test.YtablckajobefeaaGreatDoorPN09
namespace Go.Proofs.YtablckajobefeaaGreatDoor.S
open Go.RowKit Fl

set_option maxHeartbeats 2000000 in
set_option maxRecDepth 100000 in
/-- what runs to its end -/
theorem caught_ret {p q : Nat} {w : World} {K : World → Prop}
    (hr : Calls Tryz.prog 25 #[.pointer (some ⟨p, 0, none⟩), .pointer (some ⟨q, 0, none⟩)] (w.alloc (.cells #[.int .i64 0, .int .i64 0] 67)) fun e w' =>
      e = .returned (.tuple #[]) ∧ w'.heap[w.heap.size]? = some (.cells #[.int .i64 0, .int .i64 0] 67 (0, 0)) ∧ K w') :
    Calls Tryz.prog 24 #[.func (.func 25) #[] #[.pointer (some ⟨p, 0, none⟩), .pointer (some ⟨q, 0, none⟩)]] w fun e w' => e = .returned (.agg #[.int .i64 0, .int .i64 0]) ∧ ∃ w1, K w1 ∧ w1.grownBy w' (some w.heap.size) := by
  have hmf : ∀ (fn : Fn) (first cap : Array Value) (w : World), (Instr.makeFunc fn first cap).run Tryz.prog w = .ok (.func fn first cap) w := fun _ _ _ _ => rfl
  go_enter_defers Tryz.func24, Tryz.ntmps24
  go_wp2_with (go_at_call 25; refine hr.mono ?_; rintro e w1 ⟨rfl, hb, hk⟩; have c0 := blk_cell hb 0; have c1 := blk_cell hb 1; have fz := fun i => fz_blk hb i; have hlt := lt_of_blk hb)
  have hb2 : ((w1.setCell ⟨w.heap.size, 0, none⟩ (.int .i64 0)).setCell ⟨w.heap.size, 1, none⟩ (.int .i64 0)).heap[w.heap.size]? = some (.cells #[.int .i64 0, .int .i64 0] 67 (0, 0)) := set_blk (set_blk hb 0 (.int .i64 0)) 1 (.int .i64 0)
  have hg : w1.grownBy ((w1.setCell ⟨w.heap.size, 0, none⟩ (.int .i64 0)).setCell ⟨w.heap.size, 1, none⟩ (.int .i64 0)) (some w.heap.size) := (grown_set _ _ _ _).trans (grown_set _ _ _ _)
  clear c0 c1
  generalize (w1.setCell ⟨w.heap.size, 0, none⟩ (.int .i64 0)).setCell ⟨w.heap.size, 1, none⟩ (.int .i64 0) = W at hb2 hg ⊢
  refine leaves_cons (f := 46) (args := #[.pointer (some ⟨w.heap.size, 0, none⟩)]) (by simp) (by simp [go_sem]) ?_
  refine c1_idle.mono ?_
  rintro e u' w'' ⟨rfl, rfl, rfl⟩
  have c0 := blk_cell hb2 0
  have c1 := blk_cell hb2 1
  simp [Leaves, settle, results, Tryz.results24, go_sem, c0, c1]
  exact ⟨w1, hk, hg⟩
set_option maxHeartbeats 2000000 in
set_option maxRecDepth 100000 in
/-- what panics with a fault -/
theorem caught_bad {p q : Nat} {w : World} {x y : Int} {K : World → Prop}
    (hr : Calls Tryz.prog 25 #[.pointer (some ⟨p, 0, none⟩), .pointer (some ⟨q, 0, none⟩)] (w.alloc (.cells #[.int .i64 0, .int .i64 0] 67)) fun e w' =>
      e = .panicked (faultC x y) ∧ w'.heap[w.heap.size]? = some (.cells #[.int .i64 0, .int .i64 0] 67 (0, 0)) ∧ K w') :
    Calls Tryz.prog 24 #[.func (.func 25) #[] #[.pointer (some ⟨p, 0, none⟩), .pointer (some ⟨q, 0, none⟩)]] w fun e w' => e = .returned (.agg #[.int .i64 x, .int .i64 y]) ∧ ∃ w1, K w1 ∧ w1.grownBy w' (some w.heap.size) := by
  have hmf : ∀ (fn : Fn) (first cap : Array Value) (w : World), (Instr.makeFunc fn first cap).run Tryz.prog w = .ok (.func fn first cap) w := fun _ _ _ _ => rfl
  go_enter_defers Tryz.func24, Tryz.ntmps24
  go_wp2_with (go_at_call 25; refine hr.mono ?_; rintro e w1 ⟨rfl, hb, hk⟩)
  refine leaves_cons (f := 46) (args := #[.pointer (some ⟨w.heap.size, 0, none⟩)]) (by simp) (by simp [go_sem]) ?_
  refine (c1_caught [] hb).mono ?_
  rintro e u' w'' ⟨rfl, rfl, hb2, hg⟩
  have c0 := blk_cell hb2 0
  have c1 := blk_cell hb2 1
  simp [Leaves, settle, results, Tryz.results24, go_sem, c0, c1]
  exact ⟨w1, hk, hg⟩
end Go.Proofs.YtablckajobefeaaGreatDoor.S
/-
  The closure that Tree hands to caught: the script read, its part laid into a variable.
-/
namespace Go.Proofs.YtablckajobefeaaGreatDoor.S
open Go.RowKit Fl

/-- what stays but for two blocks -/
structure Kept2 (b q : Nat) (w w' : World) : Prop where
  os : w'.os = w.os
  tape : w'.tape = w.tape
  output : w'.output = w.output
  size : w.heap.size ≤ w'.heap.size
  block : ∀ k, k < w.heap.size → k ≠ b → k ≠ q → w'.heap[k]? = w.heap[k]?
/-- what the closure comes to -/
def T1To (z : Pz) (qb : Nat) (w : World) (r : Rs Tr) (e : Ending) (w' : World) : Prop :=
  match r with
  | .ok t s => e = .returned (.tuple #[]) ∧ ∃ g, PartAt w' (From w.heap.size) t (.pointer (some ⟨g, 0, none⟩)) ∧ At z s w' ∧ w'.heap[qb]? = some (.cells #[.pointer (some ⟨g, 0, none⟩)] 65 (0, 0)) ∧ Kept2 z.b qb w w'
  | .bad p k => e = .panicked (faultC p k) ∧ w.grownBy w' (some z.b)
  | .out => False
theorem t1_ok {z : Pz} {qb : Nat} {w w' : World} {r : Rs Tr} {t : Tr} {s : Ps} {g : Nat} (hr : r = .ok t s) (h1 : PartAt w' (From w.heap.size) t (.pointer (some ⟨g, 0, none⟩))) (h2 : At z s w') (h3 : w'.heap[qb]? = some (.cells #[.pointer (some ⟨g, 0, none⟩)] 65 (0, 0))) (h4 : Kept2 z.b qb w w') :
    T1To z qb w r (.returned (.tuple #[])) w' := by rw [hr]; exact ⟨rfl, g, h1, h2, h3, h4⟩
theorem t1_bad {z : Pz} {qb : Nat} {w w' : World} {r : Rs Tr} {p k : Int} (hr : r = .bad p k) (g : w.grownBy w' (some z.b)) : T1To z qb w r (.panicked (faultC p k)) w' := by rw [hr]; exact ⟨rfl, g⟩
set_option maxHeartbeats 1000000 in
theorem tree1_any {z : Pz} {pb qb : Nat} {w : World} (h : At z ⟨0, 0, 0⟩ w) (hp : w.heap[pb]? = some (.cells #[.pointer (some ⟨z.b, 0, none⟩)] 62 (0, 0))) (hq : w.heap[qb]? = some (.cells #[.pointer none] 65 (0, 0))) (hqz : qb ≠ z.b) (hqA : ∀ a, z.A = some a → a.block ≠ qb) :
    Calls Tryz.prog 25 #[.pointer (some ⟨pb, 0, none⟩), .pointer (some ⟨qb, 0, none⟩)] w (T1To z qb w (scriptR z.T (depthOf z.T) ⟨0, 0, 0⟩)) := by
  have k := script_any h
  have no := gd_not_out (script_gd h.may)
  have c0 := blk_cell hp 0
  have hzb := at_lt h
  have hql := lt_of_blk hq
  generalize hR : scriptR z.T (depthOf z.T) ⟨0, 0, 0⟩ = R at k no ⊢
  go_enter Tryz.func25, Tryz.ntmps25
  go_wp2_with (fail)
  go_at_call 26
  refine k.mono ?_
  rintro e w1 hr
  cases R with
  | out => exact absurd rfl no
  | bad p q => obtain ⟨rfl, g⟩ := hr; exact ⟨rfl, t1_bad rfl g⟩
  | ok t s =>
    obtain ⟨v, rfl, hpt, ha, g⟩ := hr
    obtain ⟨gv, rfl⟩ := part_ptr hpt
    have hq1 := (g.block qb hql (fun e => hqz (Option.some.inj e))).trans hq
    have q0 := blk_cell hq1 0
    have qz := fun i => fz_blk hq1 i
    have hs1 := g.size
    go_wp2_with (fail)
    go_end0
    refine t1_ok rfl (part_up (by simp) (fun j hj hlt => ⟨hj, Go.Deep.blk_setCell_other _ _ _ _ (by show j ≠ qb; have : w.heap.size ≤ j := hj; omega)⟩) _ _ hpt) (at_up ha (by simp) (Go.Deep.blk_setCell_other _ _ _ _ (fun e => hqz e.symm)) fun a hA => Go.Deep.blk_setCell_other _ _ _ _ (hqA a hA)) (set_blk hq1 0 _) ?_
    exact ⟨g.os, g.tape, g.output, by simpa using hs1, fun j hj h1 h2 => (Go.Deep.blk_setCell_other _ _ _ _ h2).trans (g.block j hj (fun e => h1 (Option.some.inj e)))⟩
end Go.Proofs.YtablckajobefeaaGreatDoor.S
/-
  caught of Tree's own closure, whatever the script comes to.
-/
namespace Go.Proofs.YtablckajobefeaaGreatDoor.S
open Go.RowKit Fl

/-- what caught comes to -/
def CtTo (z : Pz) (qb : Nat) (w : World) (r : Rs Tr) (e : Ending) (w' : World) : Prop :=
  match r with
  | .ok t s => e = .returned (.agg #[.int .i64 0, .int .i64 0]) ∧ ∃ g, PartAt w' (From w.heap.size) t (.pointer (some ⟨g, 0, none⟩)) ∧ At z s w' ∧ w'.heap[qb]? = some (.cells #[.pointer (some ⟨g, 0, none⟩)] 65 (0, 0)) ∧ Kept2 z.b qb w w'
  | .bad p k => e = .returned (.agg #[.int .i64 p, .int .i64 k]) ∧ w.grownBy w' (some z.b)
  | .out => False
theorem caught_tree {z : Pz} {pb qb : Nat} {w : World} (h : At z ⟨0, 0, 0⟩ w) (hp : w.heap[pb]? = some (.cells #[.pointer (some ⟨z.b, 0, none⟩)] 62 (0, 0))) (hq : w.heap[qb]? = some (.cells #[.pointer none] 65 (0, 0))) (hqz : qb ≠ z.b) (hqA : ∀ a, z.A = some a → a.block ≠ qb) :
    Calls Tryz.prog 24 #[.func (.func 25) #[] #[.pointer (some ⟨pb, 0, none⟩), .pointer (some ⟨qb, 0, none⟩)]] w (CtTo z qb w (scriptR z.T (depthOf z.T) ⟨0, 0, 0⟩)) := by
  have low : ∀ o k, k < w.heap.size → (w.alloc o).heap[k]? = w.heap[k]? := fun o k hk => (World.grownBy_alloc w o none).block k hk (by simp)
  have hzb := at_lt h
  have hpl := lt_of_blk hp
  have hql := lt_of_blk hq
  obtain ⟨a, hA, hal⟩ := at_row h
  have k := tree1_any (at_alloc h (.cells #[.int .i64 0, .int .i64 0] 67)) ((low _ pb hpl).trans hp) ((low _ qb hql).trans hq) hqz hqA
  have hn := heap_alloc_new w (.cells #[.int .i64 0, .int .i64 0] 67)
  have low := low (.cells #[.int .i64 0, .int .i64 0] 67)
  have hz : (w.alloc (.cells #[.int .i64 0, .int .i64 0] 67)).heap.size = w.heap.size + 1 := by simp
  generalize hW : w.alloc (.cells #[.int .i64 0, .int .i64 0] 67) = W at k hn low hz
  have hos : W.os = w.os ∧ W.tape = w.tape ∧ W.output = w.output := by subst hW; exact ⟨rfl, rfl, rfl⟩
  generalize hR : scriptR z.T (depthOf z.T) ⟨0, 0, 0⟩ = R at k ⊢
  cases R with
  | out => 
    exact absurd hR (gd_not_out (script_gd h.may))
  | bad p q =>
    refine (caught_bad (p := pb) (q := qb) (x := p) (y := q) (K := fun w1 => w.grownBy w1 (some z.b)) ?_).mono ?_
    · rw [hW]
      refine k.mono ?_
      rintro e w1 ⟨rfl, g⟩
      exact ⟨rfl, (g.block w.heap.size (by omega) (fun e => by have := Option.some.inj e; omega)).trans hn, g.os.trans hos.1, g.tape.trans hos.2.1, g.output.trans hos.2.2, by have := g.size; omega, fun j hj hne => (g.block j (by omega) hne).trans (low j hj)⟩
    · rintro e w' ⟨rfl, w1, g, g2⟩
      exact ⟨rfl, g2.os.trans g.os, g2.tape.trans g.tape, g2.output.trans g.output, Nat.le_trans g.size g2.size, fun j hj hne => (g2.block j (Nat.lt_of_lt_of_le hj g.size) (fun e => by have := Option.some.inj e; omega)).trans (g.block j hj hne)⟩
  | ok t s =>
    refine (caught_ret (p := pb) (q := qb) (K := fun w1 => ∃ g, PartAt w1 (From (w.heap.size + 1)) t (.pointer (some ⟨g, 0, none⟩)) ∧ At z s w1 ∧ w1.heap[qb]? = some (.cells #[.pointer (some ⟨g, 0, none⟩)] 65 (0, 0)) ∧ Kept2 z.b qb w w1) ?_).mono ?_
    · rw [hW]
      refine k.mono ?_
      rintro e w1 ⟨rfl, g, h1, h2, h3, h4⟩
      rw [hz] at h1
      exact ⟨rfl, (h4.block w.heap.size (by omega) (by omega) (by omega)).trans hn, g, h1, h2, h3, h4.os.trans hos.1, h4.tape.trans hos.2.1, h4.output.trans hos.2.2, by have := h4.size; omega, fun j hj n1 n2 => (h4.block j (by omega) n1 n2).trans (low j hj)⟩
    · rintro e w' ⟨rfl, w1, ⟨g, h1, h2, h3, h4⟩, g2⟩
      have keep : ∀ j, j < w1.heap.size → j ≠ w.heap.size → w'.heap[j]? = w1.heap[j]? := fun j hj hne => g2.block j hj (fun e => hne (Option.some.inj e))
      have hs := h4.size
      refine ⟨rfl, g, part_up g2.size (fun j hj hlt => ⟨by have : w.heap.size + 1 ≤ j := hj; show w.heap.size ≤ j; omega, keep j hlt (by have : w.heap.size + 1 ≤ j := hj; omega)⟩) _ _ h1, at_up h2 g2.size (keep _ (by omega) (by omega)) (fun a' e => ?_), (keep qb (by omega) (by omega)).trans h3, g2.os.trans h4.os, g2.tape.trans h4.tape, g2.output.trans h4.output, Nat.le_trans h4.size g2.size, fun j hj n1 n2 => (keep j (by omega) (by omega)).trans (h4.block j hj n1 n2)⟩
      rw [hA] at e
      cases e
      exact keep _ (by omega) (by omega)
end Go.Proofs.YtablckajobefeaaGreatDoor.S
/-
  LexBack: tokens written are read back, and stand at their places: facts, and the walk of same.
-/
namespace Go.Proofs.YtablckajobefeaaGreatDoor.S
open Go.RowKit Fl

theorem tok_text {t : Tk} (h : TokP t) : t.text.size ≤ 20000 := by
  have hw := writ_len h
  rcases h with ⟨hk, hs, hz⟩ | ⟨hk, hs, m, hm, hn⟩ | ⟨hk, hs, hz⟩ | ⟨hk, hz, tt, n, ha⟩
  · rw [hs]; decide
  · rw [hs]; decide
  · omega
  · have : writL t = t.text.data.toList := by unfold writL; rw [if_neg (by omega), if_neg (by omega)]
    rw [this, ← size_len] at hw
    exact hw
theorem good_in {t : Tk} (h : TokP t) (hx : t.num < 2 ^ 64) : TkIn t := by
  refine ⟨?_, by have := tok_text h; omega, hx⟩
  rcases h with ⟨hk, _⟩ | ⟨hk, _⟩ | ⟨hk, _⟩ | ⟨hk, _⟩ <;> omega
theorem told_in {L : List UInt8} {r : List Tk} (h : toks L = .ok r) : (∀ t ∈ r, TkIn t) ∧ MayP r ∧ r.length ≤ 16385 := by
  obtain ⟨b, rfl, hb, hl, _⟩ := toks_told h
  refine ⟨fun t ht => ?_, told_may fun t ht => (hb.1 t ht).1, by simp; omega⟩
  rw [List.mem_append, List.mem_singleton] at ht
  rcases ht with ht | rfl
  · have := (hb.1 t ht).1
    exact good_in this.1 this.2.2
  · exact ⟨by show (0 : Nat) < 256; decide, by show (⟨#[]⟩ : ByteArray).size ≤ _; decide, by show (0 : Nat) < 2 ^ 64; decide⟩
theorem toksF_err (L : List UInt8) : ∀ (f i : Nat) (acc : List Tk) (a k : Int), i ≤ L.length → L.length < i + f → toksF f i (L.drop i) acc = .err a k → k = 4 ∨ k = 5
  | 0, i, _, _, _, hi, hf, _ => by omega
  | f + 1, i, acc, a, k, hi, hf, h => by
    have hge := passM_ge (L.drop i) 0 i i
    have hle := (passM_le (L.drop i) 0 i i (Nat.le_refl _)).2
    rw [List.length_drop] at hle
    obtain ⟨⟨p, y⟩, hp⟩ : ∃ x, passM 0 i i (L.drop i) = x := ⟨_, rfl⟩
    rw [hp] at hge hle
    dsimp only at hge hle
    cases y with
    | false => rw [toks_stop hp] at h; cases h; exact Or.inr rfl
    | true =>
      have hip := hge rfl
      by_cases he : L.length ≤ p
      · rw [toks_end hip hp he] at h; cases h
      · cases hk : pieceL (L.drop p) with
        | bad j => rw [toks_bad hip hp (by omega) hk] at h; cases h; exact Or.inr rfl
        | tok kd t n wd =>
          by_cases hm : acc.length = 16384
          · rw [toks_many hip hp (by omega) hk hm] at h; cases h; exact Or.inl rfl
          · rw [toks_step hip hp (by omega) hk hm] at h
            obtain ⟨hw1, hw2⟩ := pieceL_wide hk
            rw [List.length_drop] at hw2
            exact toksF_err L f (p + wd) _ a k (by omega) (by omega) h
theorem toks_err {L : List UInt8} {a k : Int} (h : toks L = .err a k) : ¬ k = 0 := by
  unfold toks at h
  split at h
  · cases h; decide
  · have := toksF_err L _ 0 [] a k (Nat.zero_le _) (by omega) h
    omega
end Go.Proofs.YtablckajobefeaaGreatDoor.S
