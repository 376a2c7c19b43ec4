/-
  Rows of parts of a method's own: what they hold, what stays, what an append makes of them.
-/
import Derived.Test.YtablckajobefeaaGreatDoorPN10
import Derived.Laws.AppendOwnNone
namespace Go.Proofs.YtablckajobefeaaGreatDoor.S
open Go.RowKit Fl

/-- from fresh blocks on, but the row's own one -/
def Off (B : Nat) (v : Value) : Nat → Prop := fun k => B ≤ k ∧ v.ownBlock ≠ some k
/-- v is a row of the call's own that holds parts that read as l -/
def LI (z : Pz) (B : Nat) (v : Value) (l : List Tr) (w : World) : Prop := ∃ vs, w.ownsRow B 65 1 v l.length vs ∧ PartsAt w (Off B v) l vs ∧ z.b < B ∧ B ≤ w.heap.size
theorem li_nil {z : Pz} {B : Nat} {w : World} (hb : z.b < B) (hB : B ≤ w.heap.size) : LI z B (.slice none 0 0) [] w := ⟨[], World.ownsRow_nil _ _ _ _, parts_nil, hb, hB⟩
theorem li_own {z : Pz} {B : Nat} {v : Value} {l : List Tr} {w : World} (h : LI z B v l w) : v.ownBlock ≠ some z.b := by
  obtain ⟨vs, h1, _, hb, _⟩ := h
  intro e
  have := (h1.lt _ e).1
  omega
theorem li_on {z : Pz} {B : Nat} {v : Value} {l : List Tr} {w w' : World} (h : LI z B v l w) (g : w.grownBy w' (some z.b)) : LI z B v l w' := by
  have ho := li_own h
  obtain ⟨vs, h1, h2, hb, hB⟩ := h
  exact ⟨vs, h1.kept g (Or.inr ho), parts_up g.size (fun k hk hlt => ⟨hk, g.block k hlt (fun e => by have := Option.some.inj e; have := hk.1; omega)⟩) l vs h2, hb, Nat.le_trans hB g.size⟩
theorem li_low {z : Pz} {B B' : Nat} {v : Value} {l : List Tr} {w : World} (h : LI z B' v l w) (hB : B ≤ B') (hb : z.b < B) : LI z B v l w := by
  obtain ⟨vs, h1, h2, _, hB2⟩ := h
  refine ⟨vs, ⟨h1.1, ?_⟩, parts_up (Nat.le_refl _) (fun k hk _ => ⟨⟨Nat.le_trans hB hk.1, hk.2⟩, rfl⟩) l vs h2, hb, Nat.le_trans hB hB2⟩
  rcases h1.2 with hn | ⟨g, cap, cur, h3, h4, h5⟩
  · exact .inl hn
  · exact .inr ⟨g, cap, cur, h3, Nat.le_trans hB h4, h5⟩
theorem li_shape {z : Pz} {B : Nat} {v : Value} {l : List Tr} {w : World} (h : LI z B v l w) : ∃ A cap, v = .slice A l.length cap := by
  obtain ⟨vs, h1, _⟩ := h
  rcases h1.2 with ⟨rfl, h2⟩ | ⟨g, cap, cur, rfl, _⟩
  · exact ⟨none, 0, by rw [h2]⟩
  · exact ⟨_, cap, rfl⟩
/-- such a row as a part's kids -/
theorem li_row {z : Pz} {B : Nat} {A : Option Addr} {n cap : Nat} {l : List Tr} {w : World} (h : LI z B (.slice A n cap) l w) : ∃ vs, RowV w (From B) A vs ∧ PartsAt w (From B) l vs := by
  obtain ⟨vs, h1, h2, hb, hB⟩ := h
  refine ⟨vs, fun hp => ?_, parts_up (Nat.le_refl _) (fun k hk _ => ⟨hk.1, rfl⟩) l vs h2⟩
  rcases h1.2 with ⟨e, h3⟩ | ⟨g, cap', cur, e, h4, h5, _⟩
  · have := h1.1; omega
  · injection e with e1 e2 e3
    subst e1
    refine ⟨g, rfl, h4, lt_of_blk h5, fun i u hu => ?_⟩
    have := h1.cells (g := g) rfl i u hu
    rwa [show (⟨g, 0, none⟩ : Addr).add i = ⟨g, i, none⟩ by unfold Addr.add; split <;> simp_all] at this
theorem ptr_info : (Tryz.prog.info? 65).map (fun i => (i.zero, i.size, i.bytes)) = some (some (.pointer none), 1, 8) := by kernel_rfl
theorem part_ptr {w : World} {ok : Nat → Prop} {t : Tr} {v : Value} (h : PartAt w ok t v) : ∃ g, v = .pointer (some ⟨g, 0, none⟩) := by
  cases t
  unfold PartAt at h
  obtain ⟨g, _, _, _, h1, _⟩ := h
  exact ⟨g, h1⟩
/-- one part more: 'l = append(l, x)' -/
theorem li_app {ops : Array Oper} {rest : List Oper} {o : Oper} {a : Act} {Q : Exit → Act → World → Prop} (hgd : o.guard = none) (s x : Operand)
    (ho : o.op = .call { callee := .builtin .append, args := #[s, x], argTypes := #[93, 93] })
    {z : Pz} {B D : Nat} {v u : Value} {l : List Tr} {t : Tr} {wr : World} (h : LI z B v l wr) (hp : PartAt wr (From D) t u) (hD : ∀ k, v.ownBlock = some k → k < D) (hBD : B ≤ D)
    (hs : a.eval s = v) (hx : a.eval x = .slice (some ⟨wr.heap.size, 0, none⟩) 1 1) (hl : l.length ≤ 100000)
    (kk : ∀ v' w', LI z B v' (l ++ [t]) w' → wr.grownBy w' v.ownBlock → wpList Tryz.prog ops Q rest (a.put o.dst v') w') : wpList Tryz.prog ops Q (o :: rest) a (wr.alloc (.cells #[u] 65)) := by
  obtain ⟨vs, h1, h2, hb, hB⟩ := h
  obtain ⟨i0, hi, hz0, hz1, hz2⟩ := info_parts ptr_info
  obtain ⟨g, rfl⟩ := part_ptr hp
  refine wpList_append_own_at _ hgd s x 93 ho B 65 i0 (.pointer none) 1 8 Tryz.underlying93 hi hz0 hz1 hz2 rfl (by decide) v l.length vs hs (h1.alloc _) ⟨wr.heap.size, 0, none⟩ 1 1 [.pointer (some ⟨g, 0, none⟩)] hx rfl (cell_one_new _ _ _) ?_ ?_ ?_ ?_ ?_
  · intro u hu; simp at hu; subst hu; rfl
  · unfold maxLen; omega
  · omega
  · simp; omega
  · intro v' w' hown hgrow _ hat
    have hg2 : wr.grownBy w' v.ownBlock := (World.grownBy_alloc _ _ _).trans hgrow
    have key : ∀ k, k < wr.heap.size → v.ownBlock ≠ some k → v'.ownBlock ≠ some k ∧ w'.heap[k]? = wr.heap[k]? := by
      intro k hk hne
      refine ⟨?_, hg2.block k hk (fun e => hne e.symm)⟩
      rcases hat with e | e
      · rw [e]; exact hne
      · rw [e]; intro e2; have := Option.some.inj e2; simp at this; omega
    refine kk v' w' ⟨vs ++ [.pointer (some ⟨g, 0, none⟩)], ?_, parts_snoc ?_ l vs ?_, hb, Nat.le_trans hB hg2.size⟩ hg2
    · rw [List.length_append]; exact hown
    · refine part_up hg2.size (fun k hk hlt => ?_) t _ hp
      have hk : D ≤ k := hk
      obtain ⟨k1, k2⟩ := key k hlt (fun e => by have := hD k e; omega)
      exact ⟨⟨Nat.le_trans hBD hk, k1⟩, k2⟩
    · refine parts_up hg2.size (fun k hk hlt => ?_) l vs h2
      obtain ⟨k1, k2⟩ := key k hlt hk.2
      exact ⟨⟨hk.1, k1⟩, k2⟩
theorem li_lt {z : Pz} {B : Nat} {v : Value} {l : List Tr} {w : World} (h : LI z B v l w) : ∀ k, v.ownBlock = some k → B ≤ k ∧ k < w.heap.size := by
  obtain ⟨vs, h1, _⟩ := h
  exact h1.lt
/-- what is grown but in a row that is fresh is grown but in the parser's block -/
theorem grown_own {z : Pz} {w w1 w2 : World} {v : Value} (g : w.grownBy w1 (some z.b)) (g2 : w1.grownBy w2 v.ownBlock) (hv : ∀ k, v.ownBlock = some k → w.heap.size ≤ k) : w.grownBy w2 (some z.b) :=
  ⟨g2.os.trans g.os, g2.tape.trans g.tape, g2.output.trans g.output, Nat.le_trans g.size g2.size, fun k hk hne => (g2.block k (Nat.lt_of_lt_of_le hk g.size) (fun e => by have := hv k e.symm; omega)).trans (g.block k hk hne)⟩
/-- the parser stays when a fresh row is written -/
theorem at_own {z : Pz} {s0 s : Ps} {w w1 w2 : World} {v : Value} (h0 : At z s0 w) (h : At z s w1) (g2 : w1.grownBy w2 v.ownBlock) (hv : ∀ k, v.ownBlock = some k → w.heap.size ≤ k) (g1 : w.heap.size ≤ w1.heap.size) : At z s w2 := by
  obtain ⟨a, e, hlt⟩ := at_row h0
  have hb := at_lt h0
  exact at_up h g2.size (g2.block _ (by omega) (fun e => by have := hv _ e.symm; omega)) fun a' e' => by
    rw [e] at e'; cases e'
    exact g2.block _ (by omega) (fun e => by have := hv _ e.symm; omega)

/-- what a method that reads a list comes to -/
def ResL (z : Pz) (w : World) (r : Rs (List Tr)) (e : Ending) (w' : World) : Prop :=
  match r with
  | .ok l s => ∃ v, e = .returned v ∧ LI z w.heap.size v l w' ∧ At z s w' ∧ w.grownBy w' (some z.b)
  | .bad p k => e = .panicked (faultC p k) ∧ w.grownBy w' (some z.b)
  | .out => False
theorem resl_ok {z : Pz} {w w' : World} {R : Rs (List Tr)} {l : List Tr} {s : Ps} {v : Value} (hR : R = .ok l s) (hv : LI z w.heap.size v l w') (h : At z s w') (g : w.grownBy w' (some z.b)) : ResL z w R (.returned v) w' := by
  rw [hR]; exact ⟨v, rfl, hv, h, g⟩
theorem resl_bad {z : Pz} {w w' : World} {R : Rs (List Tr)} {p k : Int} (hR : R = .bad p k) (g : w.grownBy w' (some z.b)) : ResL z w R (.panicked (faultC p k)) w' := by rw [hR]; exact ⟨rfl, g⟩
/-- the next token's number, as the world has it -/
def nextIn (z : Pz) (w : World) : Nat := match w.cell? ⟨z.b, 1, none⟩ with | some v => (intOf v).toNat | none => 0
theorem next_at {z : Pz} {s : Ps} {w : World} (h : At z s w) : nextIn z w = s.next := by
  unfold nextIn
  rw [(at_cells h).2.1]
  simp [intOf]
def ProgF (T : List Tk) (f : Ps → Rs Tr) : Prop := ∀ s t s1, s.next < T.length → f s = .ok t s1 → s.next < s1.next
end Go.Proofs.YtablckajobefeaaGreatDoor.S
/-
  Parts between commas: walks of the parser's listed, one for each function that it is handed. Generated: gen_parse.py.
-/
namespace Go.Proofs.YtablckajobefeaaGreatDoor.S
open Go.RowKit Fl

set_option maxHeartbeats 4000000 in
set_option maxRecDepth 100000 in
theorem listed_param {z : Pz} {f : Ps → Rs Tr} (k : ∀ (s1 : Ps) (w1 : World), At z s1 w1 → f s1 ≠ .out → Calls Tryz.prog 131 #[.pointer (some ⟨z.b, 0, none⟩)] w1 (Res z w1 (f s1))) (hpr : ProgF z.T f) {s : Ps} {w : World} (h : At z s w)
    (c : ByteArray) (hc : c ≠ ⟨#[]⟩) (most : Nat) (hmost : most ≤ 16384) (ho : listR z.T c most f s ≠ .out) :
    Calls Tryz.prog 130 #[.pointer (some ⟨z.b, 0, none⟩), .string c, .int .i64 (most : Int), .func (.func 131) #[.pointer (some ⟨z.b, 0, none⟩)] #[]] w (ResL z w (listR z.T c most f s)) := by
  cases hs : (sd z.T s == c) with
  | true =>
    have hn := tok_end h.may h.lt (kind_of_sd h.may h.lt hs hc)
    have HE : Hid (listR z.T c most f s = .ok [] s.on) := Lib.hid (by unfold listR; rw [if_pos hs])
    go_enter Tryz.func130, Tryz.ntmps130
    go_wp2_with (go_at_call 128; refine (skip_yes h hs hn).mono ?_; rintro e w1 ⟨rfl, h1, g1⟩)
    go_ret
    exact resl_ok HE.out (li_nil (at_lt h) g1.size) h1 g1
  | false =>
    have he : listR z.T c most f s = listedR z.T c most f (z.T.length + 1) [] s := by unfold listR; rw [if_neg (by rw [hs]; decide)]
    generalize hR : listR z.T c most f s = R at ho he ⊢
    have HE := Lib.hid he.symm
    have HO := Lib.hid ho
    clear hR he ho
    go_enter Tryz.func130, Tryz.ntmps130
    go_wp2_with (go_at_call 128; refine (skip_no h hs).mono ?_; rintro e w1 ⟨rfl, hb⟩)
    obtain ⟨h1, g1⟩ := at_below h hb
    go_loopw [9] (fun v wr => ∃ (n : Nat) (l : List Tr) (s1 : Ps), Hid (LI z w.heap.size v l wr ∧ At z s1 wr ∧ w.grownBy wr (some z.b) ∧ listedR z.T c most f n l s1 = R ∧ l.length ≤ most)) (fun _ wr => z.T.length - nextIn z wr)
    case atStart => exact ⟨_, [], s, Lib.hid ⟨li_nil (at_lt h) g1.size, h1, g1, HE.out, Nat.zero_le _⟩⟩
    case round =>
      obtain ⟨n, l, s1, H⟩ := hrel
      obtain ⟨L1, a1, g2, e1, hle⟩ := H.out
      clear H HE hb h1 g1 hs
      cases n with
      | zero => exact absurd e1.symm HO.out
      | succ n =>
        obtain ⟨A, cap, rfl⟩ := li_shape L1
        unfold listedR at e1
        by_cases hlen : l.length = most
        · rw [if_pos hlen] at e1
          have E1 := Lib.hid e1.symm
          have t1 : ((l.length : Int) == (most : Int)) = true := by rw [beq_iff_eq]; omega
          clear e1 hlen
          go_wp2_with (go_at_call 95; refine (refuse_p a1 5).mono ?_; rintro e w2 ⟨rfl, g3⟩)
          exact ⟨rfl, resl_bad E1.out (g2.trans g3)⟩
        · rw [if_neg hlen] at e1
          have E1 := Lib.hid e1
          have t1 : ((l.length : Int) == (most : Int)) = false := by rw [beq_eq_false_iff_ne]; omega
          have hno : f s1 ≠ .out := fun e => HO.out (by rw [← E1.out, e]; rfl)
          have hlt1 : l.length + 1 ≤ most := by omega
          clear e1 hlen
          go_wp2_with (fail)
          go_at_call 131
          refine (k _ _ a1 hno).mono ?_
          rintro e w2 hr
          cases hf : f s1 with
          | ok t s2 =>
            rw [hf] at hr
            obtain ⟨u, rfl, p2, a2, g3⟩ := hr
            obtain ⟨gu, rfl⟩ := part_ptr p2
            have E2 : Hid ((if (sd z.T s2 == c) = true then Rs.ok (l ++ [t]) s2.on else (take1 z.T (⟨#[44]⟩ : ByteArray) s2).bind fun _ s3 => listedR z.T c most f n (l ++ [t]) s3) = R) := Lib.hid (by rw [← E1.out, hf]; rfl)
            have hprog := hpr s1 t s2 a1.lt hf
            have hown := li_lt L1
            have L2 := li_on L1 g3
            have hgt := at_lt h
            cases hs2 : (sd z.T s2 == c) with
            | true =>
              have hn := tok_end a2.may a2.lt (kind_of_sd a2.may a2.lt hs2 hc)
              have E3 : Hid (R = .ok (l ++ [t]) s2.on) := Lib.hid (by rw [← E2.out, if_pos hs2])
              clear E1 E2 hf
              go_wp2_with (first
                | (at_builtin; refine li_app rfl _ _ rfl L2 p2 (fun j hj => (hown j hj).2) g2.size rfl (by simp [Act.eval]) (by omega) ?_; intro v' w3 L3 g4)
                | (go_at_call 128; refine (skip_yes (at_own h a2 g4 (fun j hj => (hown j hj).1) (g2.trans g3).size) hs2 hn).mono ?_; rintro e w4 ⟨rfl, a4, g5⟩))
              go_ret
              exact resl_ok E3.out (li_on L3 g5) a4 ((grown_own (g2.trans g3) g4 (fun j hj => (hown j hj).1)).trans g5)
            | false =>
              have E3 : Hid (((take1 z.T (⟨#[44]⟩ : ByteArray) s2).bind fun _ s3 => listedR z.T c most f n (l ++ [t]) s3) = R) := Lib.hid (by rw [← E2.out, if_neg (by rw [hs2]; decide)])
              clear E1 E2 hf
              go_wp2_with (first
                | (at_builtin; refine li_app rfl _ _ rfl L2 p2 (fun j hj => (hown j hj).2) g2.size rfl (by simp [Act.eval]) (by omega) ?_; intro v' w3 L3 g4)
                | (go_at_call 128; refine (skip_no (at_own h a2 g4 (fun j hj => (hown j hj).1) (g2.trans g3).size) hs2).mono ?_; rintro e w4 ⟨rfl, hb4⟩))
              obtain ⟨a4, g5⟩ := at_below (at_own h a2 g4 (fun j hj => (hown j hj).1) (g2.trans g3).size) hb4
              have g14 := (grown_own (g2.trans g3) g4 (fun j hj => (hown j hj).1)).trans g5
              go_at_call 100
              refine (take_one a4 (⟨#[44]⟩ : ByteArray) _ (by decide)).mono ?_
              rintro e w5 hr
              cases hm : take1 z.T (⟨#[44]⟩ : ByteArray) s2 with
              | ok _ s3 =>
                rw [hm] at hr
                obtain ⟨rfl, a5, g6⟩ := hr
                have hlt3 : s2.next ≤ s3.next := by
                  have := gd_take1 a2.may (c := (⟨#[44]⟩ : ByteArray)) (by decide) a2.lt
                  rw [hm] at this
                  have := this.1
                  omega
                have E4 : Hid (listedR z.T c most f n (l ++ [t]) s3 = R) := Lib.hid (by rw [← E3.out, hm]; rfl)
                clear E3 hm
                go_wp2_with (fail)
                go_roundw
                case rel => exact ⟨n, l ++ [t], s3, Lib.hid ⟨li_on (li_on L3 g5) g6, a5, g14.trans g6, E4.out, by rw [List.length_append]; exact hlt1⟩⟩
                case measure => rw [next_at a5, next_at a1]; have := a5.lt; omega
              | bad p q =>
                rw [hm] at hr
                obtain ⟨rfl, g6⟩ := hr
                exact ⟨rfl, resl_bad (by rw [← E3.out, hm]; rfl) (g14.trans g6)⟩
              | out => rw [hm] at hr; exact hr.elim
          | bad p q =>
            rw [hf] at hr
            obtain ⟨rfl, g3⟩ := hr
            exact ⟨rfl, resl_bad (by rw [← E1.out, hf]; rfl) (g2.trans g3)⟩
          | out => exact absurd hf hno
end Go.Proofs.YtablckajobefeaaGreatDoor.S
/-
  Parts between commas: walks of the parser's listed, one for each function that it is handed. Generated: gen_parse.py.
-/
namespace Go.Proofs.YtablckajobefeaaGreatDoor.S
open Go.RowKit Fl

set_option maxHeartbeats 4000000 in
set_option maxRecDepth 100000 in
theorem listed_assign {z : Pz} {f : Ps → Rs Tr} (k : ∀ (s1 : Ps) (w1 : World), At z s1 w1 → f s1 ≠ .out → Calls Tryz.prog 133 #[.pointer (some ⟨z.b, 0, none⟩)] w1 (Res z w1 (f s1))) (hpr : ProgF z.T f) {s : Ps} {w : World} (h : At z s w)
    (c : ByteArray) (hc : c ≠ ⟨#[]⟩) (most : Nat) (hmost : most ≤ 16384) (ho : listR z.T c most f s ≠ .out) :
    Calls Tryz.prog 130 #[.pointer (some ⟨z.b, 0, none⟩), .string c, .int .i64 (most : Int), .func (.func 133) #[.pointer (some ⟨z.b, 0, none⟩)] #[]] w (ResL z w (listR z.T c most f s)) := by
  cases hs : (sd z.T s == c) with
  | true =>
    have hn := tok_end h.may h.lt (kind_of_sd h.may h.lt hs hc)
    have HE : Hid (listR z.T c most f s = .ok [] s.on) := Lib.hid (by unfold listR; rw [if_pos hs])
    go_enter Tryz.func130, Tryz.ntmps130
    go_wp2_with (go_at_call 128; refine (skip_yes h hs hn).mono ?_; rintro e w1 ⟨rfl, h1, g1⟩)
    go_ret
    exact resl_ok HE.out (li_nil (at_lt h) g1.size) h1 g1
  | false =>
    have he : listR z.T c most f s = listedR z.T c most f (z.T.length + 1) [] s := by unfold listR; rw [if_neg (by rw [hs]; decide)]
    generalize hR : listR z.T c most f s = R at ho he ⊢
    have HE := Lib.hid he.symm
    have HO := Lib.hid ho
    clear hR he ho
    go_enter Tryz.func130, Tryz.ntmps130
    go_wp2_with (go_at_call 128; refine (skip_no h hs).mono ?_; rintro e w1 ⟨rfl, hb⟩)
    obtain ⟨h1, g1⟩ := at_below h hb
    go_loopw [9] (fun v wr => ∃ (n : Nat) (l : List Tr) (s1 : Ps), Hid (LI z w.heap.size v l wr ∧ At z s1 wr ∧ w.grownBy wr (some z.b) ∧ listedR z.T c most f n l s1 = R ∧ l.length ≤ most)) (fun _ wr => z.T.length - nextIn z wr)
    case atStart => exact ⟨_, [], s, Lib.hid ⟨li_nil (at_lt h) g1.size, h1, g1, HE.out, Nat.zero_le _⟩⟩
    case round =>
      obtain ⟨n, l, s1, H⟩ := hrel
      obtain ⟨L1, a1, g2, e1, hle⟩ := H.out
      clear H HE hb h1 g1 hs
      cases n with
      | zero => exact absurd e1.symm HO.out
      | succ n =>
        obtain ⟨A, cap, rfl⟩ := li_shape L1
        unfold listedR at e1
        by_cases hlen : l.length = most
        · rw [if_pos hlen] at e1
          have E1 := Lib.hid e1.symm
          have t1 : ((l.length : Int) == (most : Int)) = true := by rw [beq_iff_eq]; omega
          clear e1 hlen
          go_wp2_with (go_at_call 95; refine (refuse_p a1 5).mono ?_; rintro e w2 ⟨rfl, g3⟩)
          exact ⟨rfl, resl_bad E1.out (g2.trans g3)⟩
        · rw [if_neg hlen] at e1
          have E1 := Lib.hid e1
          have t1 : ((l.length : Int) == (most : Int)) = false := by rw [beq_eq_false_iff_ne]; omega
          have hno : f s1 ≠ .out := fun e => HO.out (by rw [← E1.out, e]; rfl)
          have hlt1 : l.length + 1 ≤ most := by omega
          clear e1 hlen
          go_wp2_with (fail)
          go_at_call 133
          refine (k _ _ a1 hno).mono ?_
          rintro e w2 hr
          cases hf : f s1 with
          | ok t s2 =>
            rw [hf] at hr
            obtain ⟨u, rfl, p2, a2, g3⟩ := hr
            obtain ⟨gu, rfl⟩ := part_ptr p2
            have E2 : Hid ((if (sd z.T s2 == c) = true then Rs.ok (l ++ [t]) s2.on else (take1 z.T (⟨#[44]⟩ : ByteArray) s2).bind fun _ s3 => listedR z.T c most f n (l ++ [t]) s3) = R) := Lib.hid (by rw [← E1.out, hf]; rfl)
            have hprog := hpr s1 t s2 a1.lt hf
            have hown := li_lt L1
            have L2 := li_on L1 g3
            have hgt := at_lt h
            cases hs2 : (sd z.T s2 == c) with
            | true =>
              have hn := tok_end a2.may a2.lt (kind_of_sd a2.may a2.lt hs2 hc)
              have E3 : Hid (R = .ok (l ++ [t]) s2.on) := Lib.hid (by rw [← E2.out, if_pos hs2])
              clear E1 E2 hf
              go_wp2_with (first
                | (at_builtin; refine li_app rfl _ _ rfl L2 p2 (fun j hj => (hown j hj).2) g2.size rfl (by simp [Act.eval]) (by omega) ?_; intro v' w3 L3 g4)
                | (go_at_call 128; refine (skip_yes (at_own h a2 g4 (fun j hj => (hown j hj).1) (g2.trans g3).size) hs2 hn).mono ?_; rintro e w4 ⟨rfl, a4, g5⟩))
              go_ret
              exact resl_ok E3.out (li_on L3 g5) a4 ((grown_own (g2.trans g3) g4 (fun j hj => (hown j hj).1)).trans g5)
            | false =>
              have E3 : Hid (((take1 z.T (⟨#[44]⟩ : ByteArray) s2).bind fun _ s3 => listedR z.T c most f n (l ++ [t]) s3) = R) := Lib.hid (by rw [← E2.out, if_neg (by rw [hs2]; decide)])
              clear E1 E2 hf
              go_wp2_with (first
                | (at_builtin; refine li_app rfl _ _ rfl L2 p2 (fun j hj => (hown j hj).2) g2.size rfl (by simp [Act.eval]) (by omega) ?_; intro v' w3 L3 g4)
                | (go_at_call 128; refine (skip_no (at_own h a2 g4 (fun j hj => (hown j hj).1) (g2.trans g3).size) hs2).mono ?_; rintro e w4 ⟨rfl, hb4⟩))
              obtain ⟨a4, g5⟩ := at_below (at_own h a2 g4 (fun j hj => (hown j hj).1) (g2.trans g3).size) hb4
              have g14 := (grown_own (g2.trans g3) g4 (fun j hj => (hown j hj).1)).trans g5
              go_at_call 100
              refine (take_one a4 (⟨#[44]⟩ : ByteArray) _ (by decide)).mono ?_
              rintro e w5 hr
              cases hm : take1 z.T (⟨#[44]⟩ : ByteArray) s2 with
              | ok _ s3 =>
                rw [hm] at hr
                obtain ⟨rfl, a5, g6⟩ := hr
                have hlt3 : s2.next ≤ s3.next := by
                  have := gd_take1 a2.may (c := (⟨#[44]⟩ : ByteArray)) (by decide) a2.lt
                  rw [hm] at this
                  have := this.1
                  omega
                have E4 : Hid (listedR z.T c most f n (l ++ [t]) s3 = R) := Lib.hid (by rw [← E3.out, hm]; rfl)
                clear E3 hm
                go_wp2_with (fail)
                go_roundw
                case rel => exact ⟨n, l ++ [t], s3, Lib.hid ⟨li_on (li_on L3 g5) g6, a5, g14.trans g6, E4.out, by rw [List.length_append]; exact hlt1⟩⟩
                case measure => rw [next_at a5, next_at a1]; have := a5.lt; omega
              | bad p q =>
                rw [hm] at hr
                obtain ⟨rfl, g6⟩ := hr
                exact ⟨rfl, resl_bad (by rw [← E3.out, hm]; rfl) (g14.trans g6)⟩
              | out => rw [hm] at hr; exact hr.elim
          | bad p q =>
            rw [hf] at hr
            obtain ⟨rfl, g3⟩ := hr
            exact ⟨rfl, resl_bad (by rw [← E1.out, hf]; rfl) (g2.trans g3)⟩
          | out => exact absurd hf hno

set_option maxHeartbeats 4000000 in
set_option maxRecDepth 100000 in
theorem listed_pair {z : Pz} {f : Ps → Rs Tr} (k : ∀ (s1 : Ps) (w1 : World), At z s1 w1 → f s1 ≠ .out → Calls Tryz.prog 198 #[.pointer (some ⟨z.b, 0, none⟩)] w1 (Res z w1 (f s1))) (hpr : ProgF z.T f) {s : Ps} {w : World} (h : At z s w)
    (c : ByteArray) (hc : c ≠ ⟨#[]⟩) (most : Nat) (hmost : most ≤ 16384) (ho : listR z.T c most f s ≠ .out) :
    Calls Tryz.prog 130 #[.pointer (some ⟨z.b, 0, none⟩), .string c, .int .i64 (most : Int), .func (.func 198) #[.pointer (some ⟨z.b, 0, none⟩)] #[]] w (ResL z w (listR z.T c most f s)) := by
  cases hs : (sd z.T s == c) with
  | true =>
    have hn := tok_end h.may h.lt (kind_of_sd h.may h.lt hs hc)
    have HE : Hid (listR z.T c most f s = .ok [] s.on) := Lib.hid (by unfold listR; rw [if_pos hs])
    go_enter Tryz.func130, Tryz.ntmps130
    go_wp2_with (go_at_call 128; refine (skip_yes h hs hn).mono ?_; rintro e w1 ⟨rfl, h1, g1⟩)
    go_ret
    exact resl_ok HE.out (li_nil (at_lt h) g1.size) h1 g1
  | false =>
    have he : listR z.T c most f s = listedR z.T c most f (z.T.length + 1) [] s := by unfold listR; rw [if_neg (by rw [hs]; decide)]
    generalize hR : listR z.T c most f s = R at ho he ⊢
    have HE := Lib.hid he.symm
    have HO := Lib.hid ho
    clear hR he ho
    go_enter Tryz.func130, Tryz.ntmps130
    go_wp2_with (go_at_call 128; refine (skip_no h hs).mono ?_; rintro e w1 ⟨rfl, hb⟩)
    obtain ⟨h1, g1⟩ := at_below h hb
    go_loopw [9] (fun v wr => ∃ (n : Nat) (l : List Tr) (s1 : Ps), Hid (LI z w.heap.size v l wr ∧ At z s1 wr ∧ w.grownBy wr (some z.b) ∧ listedR z.T c most f n l s1 = R ∧ l.length ≤ most)) (fun _ wr => z.T.length - nextIn z wr)
    case atStart => exact ⟨_, [], s, Lib.hid ⟨li_nil (at_lt h) g1.size, h1, g1, HE.out, Nat.zero_le _⟩⟩
    case round =>
      obtain ⟨n, l, s1, H⟩ := hrel
      obtain ⟨L1, a1, g2, e1, hle⟩ := H.out
      clear H HE hb h1 g1 hs
      cases n with
      | zero => exact absurd e1.symm HO.out
      | succ n =>
        obtain ⟨A, cap, rfl⟩ := li_shape L1
        unfold listedR at e1
        by_cases hlen : l.length = most
        · rw [if_pos hlen] at e1
          have E1 := Lib.hid e1.symm
          have t1 : ((l.length : Int) == (most : Int)) = true := by rw [beq_iff_eq]; omega
          clear e1 hlen
          go_wp2_with (go_at_call 95; refine (refuse_p a1 5).mono ?_; rintro e w2 ⟨rfl, g3⟩)
          exact ⟨rfl, resl_bad E1.out (g2.trans g3)⟩
        · rw [if_neg hlen] at e1
          have E1 := Lib.hid e1
          have t1 : ((l.length : Int) == (most : Int)) = false := by rw [beq_eq_false_iff_ne]; omega
          have hno : f s1 ≠ .out := fun e => HO.out (by rw [← E1.out, e]; rfl)
          have hlt1 : l.length + 1 ≤ most := by omega
          clear e1 hlen
          go_wp2_with (fail)
          go_at_call 198
          refine (k _ _ a1 hno).mono ?_
          rintro e w2 hr
          cases hf : f s1 with
          | ok t s2 =>
            rw [hf] at hr
            obtain ⟨u, rfl, p2, a2, g3⟩ := hr
            obtain ⟨gu, rfl⟩ := part_ptr p2
            have E2 : Hid ((if (sd z.T s2 == c) = true then Rs.ok (l ++ [t]) s2.on else (take1 z.T (⟨#[44]⟩ : ByteArray) s2).bind fun _ s3 => listedR z.T c most f n (l ++ [t]) s3) = R) := Lib.hid (by rw [← E1.out, hf]; rfl)
            have hprog := hpr s1 t s2 a1.lt hf
            have hown := li_lt L1
            have L2 := li_on L1 g3
            have hgt := at_lt h
            cases hs2 : (sd z.T s2 == c) with
            | true =>
              have hn := tok_end a2.may a2.lt (kind_of_sd a2.may a2.lt hs2 hc)
              have E3 : Hid (R = .ok (l ++ [t]) s2.on) := Lib.hid (by rw [← E2.out, if_pos hs2])
              clear E1 E2 hf
              go_wp2_with (first
                | (at_builtin; refine li_app rfl _ _ rfl L2 p2 (fun j hj => (hown j hj).2) g2.size rfl (by simp [Act.eval]) (by omega) ?_; intro v' w3 L3 g4)
                | (go_at_call 128; refine (skip_yes (at_own h a2 g4 (fun j hj => (hown j hj).1) (g2.trans g3).size) hs2 hn).mono ?_; rintro e w4 ⟨rfl, a4, g5⟩))
              go_ret
              exact resl_ok E3.out (li_on L3 g5) a4 ((grown_own (g2.trans g3) g4 (fun j hj => (hown j hj).1)).trans g5)
            | false =>
              have E3 : Hid (((take1 z.T (⟨#[44]⟩ : ByteArray) s2).bind fun _ s3 => listedR z.T c most f n (l ++ [t]) s3) = R) := Lib.hid (by rw [← E2.out, if_neg (by rw [hs2]; decide)])
              clear E1 E2 hf
              go_wp2_with (first
                | (at_builtin; refine li_app rfl _ _ rfl L2 p2 (fun j hj => (hown j hj).2) g2.size rfl (by simp [Act.eval]) (by omega) ?_; intro v' w3 L3 g4)
                | (go_at_call 128; refine (skip_no (at_own h a2 g4 (fun j hj => (hown j hj).1) (g2.trans g3).size) hs2).mono ?_; rintro e w4 ⟨rfl, hb4⟩))
              obtain ⟨a4, g5⟩ := at_below (at_own h a2 g4 (fun j hj => (hown j hj).1) (g2.trans g3).size) hb4
              have g14 := (grown_own (g2.trans g3) g4 (fun j hj => (hown j hj).1)).trans g5
              go_at_call 100
              refine (take_one a4 (⟨#[44]⟩ : ByteArray) _ (by decide)).mono ?_
              rintro e w5 hr
              cases hm : take1 z.T (⟨#[44]⟩ : ByteArray) s2 with
              | ok _ s3 =>
                rw [hm] at hr
                obtain ⟨rfl, a5, g6⟩ := hr
                have hlt3 : s2.next ≤ s3.next := by
                  have := gd_take1 a2.may (c := (⟨#[44]⟩ : ByteArray)) (by decide) a2.lt
                  rw [hm] at this
                  have := this.1
                  omega
                have E4 : Hid (listedR z.T c most f n (l ++ [t]) s3 = R) := Lib.hid (by rw [← E3.out, hm]; rfl)
                clear E3 hm
                go_wp2_with (fail)
                go_roundw
                case rel => exact ⟨n, l ++ [t], s3, Lib.hid ⟨li_on (li_on L3 g5) g6, a5, g14.trans g6, E4.out, by rw [List.length_append]; exact hlt1⟩⟩
                case measure => rw [next_at a5, next_at a1]; have := a5.lt; omega
              | bad p q =>
                rw [hm] at hr
                obtain ⟨rfl, g6⟩ := hr
                exact ⟨rfl, resl_bad (by rw [← E3.out, hm]; rfl) (g14.trans g6)⟩
              | out => rw [hm] at hr; exact hr.elim
          | bad p q =>
            rw [hf] at hr
            obtain ⟨rfl, g3⟩ := hr
            exact ⟨rfl, resl_bad (by rw [← E1.out, hf]; rfl) (g2.trans g3)⟩
          | out => exact absurd hf hno
end Go.Proofs.YtablckajobefeaaGreatDoor.S
