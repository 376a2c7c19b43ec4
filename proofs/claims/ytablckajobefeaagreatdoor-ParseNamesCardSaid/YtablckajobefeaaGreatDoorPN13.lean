/-
  What is asked of all methods that read by one another; parts of kids that lie ready.
-/
import Derived.Test.YtablckajobefeaaGreatDoorPN11
import Derived.Test.YtablckajobefeaaGreatDoorPN12
namespace Go.Proofs.YtablckajobefeaaGreatDoor.S
open Go.RowKit Fl

def Ps.made (s : Ps) : Ps := { s with parts := w64 (s.parts + 1) }
theorem part_kids {z : Pz} {s : Ps} {w : World} (h : At z s w) (k : Nat) (p : Int) (t : ByteArray) {B : Nat} {A : Option Addr} (cap : Nat) {l : List Tr} {vs : List Value} (hr : RowV w (From B) A vs) (hp : PartsAt w (From B) l vs) (hB : B ≤ w.heap.size) (hb : z.b < B) :
    Calls Tryz.prog 50 #[.pointer (some ⟨z.b, 0, none⟩), .int .u8 (k : Int), .int .i64 p, .string t, .slice A l.length cap] w fun e w' =>
      ∃ x, e = .returned x ∧ PartAt w' (From B) (.mk k p t 0 l) x ∧ At z s.made w' ∧ w.grownBy w' (some z.b) := by
  refine (part_p h k p t A l.length cap).mono ?_
  rintro e w' ⟨g, rfl, hg, hb1, h1, g1⟩
  have hk : ∀ j, From B j → j < w.heap.size → From B j ∧ w'.heap[j]? = w.heap[j]? := fun j hj hlt => ⟨hj, g1.block j hlt (fun e => by have := Option.some.inj e; have : B ≤ j := hj; omega)⟩
  exact ⟨_, rfl, part_mk hb1 (Nat.le_trans hB hg) (rowv_up hr g1.size hk) (parts_up g1.size hk l vs hp), h1, g1⟩
theorem part_none {z : Pz} {s : Ps} {w : World} (h : At z s w) (k : Nat) (p : Int) (t : ByteArray) {B : Nat} (hB : B ≤ w.heap.size) (hb : z.b < B) :
    Calls Tryz.prog 50 #[.pointer (some ⟨z.b, 0, none⟩), .int .u8 (k : Int), .int .i64 p, .string t, .slice none 0 0] w fun e w' =>
      ∃ x, e = .returned x ∧ PartAt w' (From B) (.mk k p t 0 []) x ∧ At z s.made w' ∧ w.grownBy w' (some z.b) :=
  part_kids (l := []) h k p t 0 (rowv_nil _ _ _) parts_nil hB hb
theorem row_new {w : World} {B : Nat} {vs : List Value} (t : TypeId) (hB : B ≤ w.heap.size) : RowV (w.alloc (.cells vs.toArray t)) (From B) (some ⟨w.heap.size, 0, none⟩) vs := fun _ =>
  ⟨w.heap.size, rfl, hB, by simp, fun i v hv => by rw [blk_cell (heap_alloc_new w _) i]; simpa using hv⟩
theorem part_new {w : World} {B : Nat} {t : Tr} {v : Value} (h : PartAt w (From B) t v) (o : Obj) : PartAt (w.alloc o) (From B) t v :=
  part_up (by simp) (fun k hk hlt => ⟨hk, (World.grownBy_alloc w o none).block k hlt (by simp)⟩) t v h
theorem part_one {z : Pz} {s : Ps} {w : World} (h : At z s w) (k : Nat) (p : Int) (t : ByteArray) {B : Nat} {a : Tr} {u : Value} (pa : PartAt w (From B) a u) (hB : B ≤ w.heap.size) (hb : z.b < B) :
    Calls Tryz.prog 50 #[.pointer (some ⟨z.b, 0, none⟩), .int .u8 (k : Int), .int .i64 p, .string t, .slice (some ⟨w.heap.size, 0, none⟩) 1 1] (w.alloc (.cells #[u] 65)) fun e w' =>
      ∃ x, e = .returned x ∧ PartAt w' (From B) (.mk k p t 0 [a]) x ∧ At z s.made w' ∧ w.grownBy w' (some z.b) :=
  (part_kids (l := [a]) (at_alloc h _) k p t 1 (row_new (vs := [u]) _ hB) (parts_cons (part_new pa _) parts_nil) (by simp; omega) hb).mono fun e w' ⟨x, h1, h2, h3, h4⟩ => ⟨x, h1, h2, h3, (World.grownBy_alloc _ _ _).trans h4⟩
theorem part_two {z : Pz} {s : Ps} {w : World} (h : At z s w) (k : Nat) (p : Int) (t : ByteArray) {B : Nat} {a b : Tr} {u v : Value} (pa : PartAt w (From B) a u) (pb : PartAt w (From B) b v) (hB : B ≤ w.heap.size) (hb : z.b < B) :
    Calls Tryz.prog 50 #[.pointer (some ⟨z.b, 0, none⟩), .int .u8 (k : Int), .int .i64 p, .string t, .slice (some ⟨w.heap.size, 0, none⟩) 2 2] (w.alloc (.cells #[u, v] 65)) fun e w' =>
      ∃ x, e = .returned x ∧ PartAt w' (From B) (.mk k p t 0 [a, b]) x ∧ At z s.made w' ∧ w.grownBy w' (some z.b) :=
  (part_kids (l := [a, b]) (at_alloc h _) k p t 2 (row_new (vs := [u, v]) _ hB) (parts_cons (part_new pa _) (parts_cons (part_new pb _) parts_nil)) (by simp; omega) hb).mono fun e w' ⟨x, h1, h2, h3, h4⟩ => ⟨x, h1, h2, h3, (World.grownBy_alloc _ _ _).trans h4⟩
theorem part_three {z : Pz} {s : Ps} {w : World} (h : At z s w) (k : Nat) (p : Int) (t : ByteArray) {B : Nat} {a b c : Tr} {u v x : Value} (pa : PartAt w (From B) a u) (pb : PartAt w (From B) b v) (pc : PartAt w (From B) c x) (hB : B ≤ w.heap.size) (hb : z.b < B) :
    Calls Tryz.prog 50 #[.pointer (some ⟨z.b, 0, none⟩), .int .u8 (k : Int), .int .i64 p, .string t, .slice (some ⟨w.heap.size, 0, none⟩) 3 3] (w.alloc (.cells #[u, v, x] 65)) fun e w' =>
      ∃ y, e = .returned y ∧ PartAt w' (From B) (.mk k p t 0 [a, b, c]) y ∧ At z s.made w' ∧ w.grownBy w' (some z.b) :=
  (part_kids (l := [a, b, c]) (at_alloc h _) k p t 3 (row_new (vs := [u, v, x]) _ hB) (parts_cons (part_new pa _) (parts_cons (part_new pb _) (parts_cons (part_new pc _) parts_nil))) (by simp; omega) hb).mono fun e w' ⟨x, h1, h2, h3, h4⟩ => ⟨x, h1, h2, h3, (World.grownBy_alloc _ _ _).trans h4⟩
theorem part_list {z : Pz} {s : Ps} {w : World} (h : At z s w) (k : Nat) (p : Int) (t : ByteArray) {B : Nat} {A : Option Addr} {n cap : Nat} {l : List Tr} (hl : LI z B (.slice A n cap) l w) (hn : n = l.length) :
    Calls Tryz.prog 50 #[.pointer (some ⟨z.b, 0, none⟩), .int .u8 (k : Int), .int .i64 p, .string t, .slice A n cap] w fun e w' =>
      ∃ x, e = .returned x ∧ PartAt w' (From B) (.mk k p t 0 l) x ∧ At z s.made w' ∧ w.grownBy w' (some z.b) := by
  subst hn
  obtain ⟨vs, hr, hp⟩ := li_row hl
  obtain ⟨_, _, _, hb, hB⟩ := hl
  exact part_kids h k p t cap hr hp hB hb
theorem is_yes {z : Pz} {s : Ps} {w : World} (h : At z s w) {c : ByteArray} (hc : (sd z.T s == c) = true) : Calls Tryz.prog 135 #[.pointer (some ⟨z.b, 0, none⟩), .string c] w fun e w' => e = .returned (.bool true) ∧ Below w.heap.size w w' := by
  rw [← hc]; exact is_p h c
theorem is_no {z : Pz} {s : Ps} {w : World} (h : At z s w) {c : ByteArray} (hc : (sd z.T s == c) = false) : Calls Tryz.prog 135 #[.pointer (some ⟨z.b, 0, none⟩), .string c] w fun e w' => e = .returned (.bool false) ∧ Below w.heap.size w w' := by
  rw [← hc]; exact is_p h c
theorem said_lit {t : Tk} {c : ByteArray} (hc : saidT t = c) (w : World) : Calls Tryz.prog 96 #[.agg #[.int .u8 (t.kind : Int), .int .i64 t.pos, .string t.text, .float .f64 t.num]] w fun e w' => e = .returned (.string c) ∧ Below w.heap.size w w' := by
  rw [← hc]; exact said_p t w
/-- all methods that read by one another keep what they promise -/
structure AllW (z : Pz) (r : Mth → Ps → Rs Tr) : Prop where
  prog : ∀ (m : Mth) (s : Ps) (t : Tr) (s1 : Ps), preM z.T m s → s.next < z.T.length → r m s = .ok t s1 → s.next < s1.next
  within : ∀ (m : Mth) (s : Ps) (t : Tr) (s1 : Ps), preM z.T m s → s.next < z.T.length → r m s = .ok t s1 → s1.next < z.T.length
  statement : ∀ {s : Ps} {w : World}, At z s w → r .statement s ≠ .out → Calls Tryz.prog 49 #[.pointer (some ⟨z.b, 0, none⟩)] w (Res z w (r .statement s))
  stated : ∀ {s : Ps} {w : World}, At z s w → r .stated s ≠ .out → Calls Tryz.prog 69 #[.pointer (some ⟨z.b, 0, none⟩)] w (Res z w (r .stated s))
  body : ∀ {s : Ps} {w : World}, At z s w → r .body s ≠ .out → Calls Tryz.prog 105 #[.pointer (some ⟨z.b, 0, none⟩)] w (Res z w (r .body s))
  block : ∀ {s : Ps} {w : World}, At z s w → r .block s ≠ .out → Calls Tryz.prog 97 #[.pointer (some ⟨z.b, 0, none⟩)] w (Res z w (r .block s))
  declaration : ∀ {s : Ps} {w : World}, At z s w → r .declaration s ≠ .out → Calls Tryz.prog 99 #[.pointer (some ⟨z.b, 0, none⟩)] w (Res z w (r .declaration s))
  branch : ∀ {s : Ps} {w : World}, At z s w → r .branch s ≠ .out → Calls Tryz.prog 103 #[.pointer (some ⟨z.b, 0, none⟩)] w (Res z w (r .branch s))
  loop : ∀ {s : Ps} {w : World}, At z s w → r .loop s ≠ .out → Calls Tryz.prog 106 #[.pointer (some ⟨z.b, 0, none⟩)] w (Res z w (r .loop s))
  answer : ∀ {s : Ps} {w : World}, At z s w → r .answer s ≠ .out → Calls Tryz.prog 107 #[.pointer (some ⟨z.b, 0, none⟩)] w (Res z w (r .answer s))
  guarded : ∀ {s : Ps} {w : World}, At z s w → r .guarded s ≠ .out → Calls Tryz.prog 109 #[.pointer (some ⟨z.b, 0, none⟩)] w (Res z w (r .guarded s))
  test : ∀ {s : Ps} {w : World}, At z s w → r .test s ≠ .out → Calls Tryz.prog 104 #[.pointer (some ⟨z.b, 0, none⟩)] w (Res z w (r .test s))
  ended : ∀ {s : Ps} {w : World}, At z s w → r .ended s ≠ .out → Calls Tryz.prog 108 #[.pointer (some ⟨z.b, 0, none⟩)] w (Res z w (r .ended s))
  assign : ∀ {s : Ps} {w : World}, At z s w → r .assign s ≠ .out → Calls Tryz.prog 133 #[.pointer (some ⟨z.b, 0, none⟩)] w (Res z w (r .assign s))
  assigned : ∀ {s : Ps} {w : World}, At z s w → r .assigned s ≠ .out → Calls Tryz.prog 152 #[.pointer (some ⟨z.b, 0, none⟩)] w (Res z w (r .assigned s))
  cond : ∀ {s : Ps} {w : World}, At z s w → r .cond s ≠ .out → Calls Tryz.prog 172 #[.pointer (some ⟨z.b, 0, none⟩)] w (Res z w (r .cond s))
  unary : ∀ {s : Ps} {w : World}, At z s w → r .unary s ≠ .out → Calls Tryz.prog 187 #[.pointer (some ⟨z.b, 0, none⟩)] w (Res z w (r .unary s))
  head : ∀ {s : Ps} {w : World}, At z s w → r .head s ≠ .out → Calls Tryz.prog 191 #[.pointer (some ⟨z.b, 0, none⟩)] w (Res z w (r .head s))
  primary : ∀ {s : Ps} {w : World}, At z s w → r .primary s ≠ .out → Calls Tryz.prog 194 #[.pointer (some ⟨z.b, 0, none⟩)] w (Res z w (r .primary s))
  nested : ∀ {s : Ps} {w : World}, At z s w → r .nested s ≠ .out → Calls Tryz.prog 197 #[.pointer (some ⟨z.b, 0, none⟩)] w (Res z w (r .nested s))
  pair : ∀ {s : Ps} {w : World}, At z s w → r .pair s ≠ .out → Calls Tryz.prog 198 #[.pointer (some ⟨z.b, 0, none⟩)] w (Res z w (r .pair s))
  key : ∀ {s : Ps} {w : World}, At z s w → r .key s ≠ .out → Calls Tryz.prog 200 #[.pointer (some ⟨z.b, 0, none⟩)] w (Res z w (r .key s))
  led : ∀ {s : Ps} {w : World}, At z s w → (tok z.T s).kind ≠ 0 → r .led s ≠ .out → Calls Tryz.prog 189 #[.pointer (some ⟨z.b, 0, none⟩)] w (Res z w (r .led s))
  bodyIn : ∀ {s : Ps} {w : World} {g : Nat}, At z s w → BoxAt z w g → r .bodyIn s ≠ .out → Calls Tryz.prog 134 #[.pointer (some ⟨g, 0, none⟩)] w (Res z w (r .bodyIn s))
  newIn : ∀ {s : Ps} {w : World} {g : Nat}, At z s w → BoxAt z w g → r .newIn s ≠ .out → Calls Tryz.prog 195 #[.pointer (some ⟨g, 0, none⟩)] w (Res z w (r .newIn s))
  function : ∀ {s : Ps} {w : World} (k : Nat) (p : Int) (n : ByteArray), At z s w → r (.function k p n) s ≠ .out → Calls Tryz.prog 101 #[.pointer (some ⟨z.b, 0, none⟩), .int .u8 (k : Int), .int .i64 p, .string n] w (Res z w (r (.function k p n) s))
  sides : ∀ {s : Ps} {w : World} (n : Nat), 1 ≤ n → n ≤ 20 → At z s w → r (.sides n) s ≠ .out → Calls Tryz.prog 185 #[.pointer (some ⟨z.b, 0, none⟩), .int .i64 (n : Int)] w (Res z w (r (.sides n) s))
  chain : ∀ {s : Ps} {w : World} (c : Bool), At z s w → r (.chain c) s ≠ .out → Calls Tryz.prog 190 #[.pointer (some ⟨z.b, 0, none⟩), .bool c] w (Res z w (r (.chain c) s))
  accessor : ∀ {s : Ps} {w : World} (k : Nat), k = 30 ∨ k = 31 → At z s w → (tok z.T s).kind ≠ 0 → r (.accessor k) s ≠ .out → Calls Tryz.prog 199 #[.pointer (some ⟨z.b, 0, none⟩), .int .u8 (k : Int)] w (Res z w (r (.accessor k) s))
end Go.Proofs.YtablckajobefeaaGreatDoor.S
/-
  Rows of parts that begin with one or two, rows joined; what a part's first cell holds.
-/
namespace Go.Proofs.YtablckajobefeaaGreatDoor.S
open Go.RowKit Fl

theorem off_new {B D : Nat} {w : World} {v : Value} (hv : v.ownBlock = some w.heap.size) {k : Nat} (hk : D ≤ k) (hB : B ≤ D) (hlt : k < w.heap.size) : Off B v k := ⟨Nat.le_trans hB hk, by rw [hv]; intro e; have := Option.some.inj e; omega⟩
theorem li_one {z : Pz} {B : Nat} {w : World} {a : Tr} {u : Value} (pa : PartAt w (From B) a u) (hB : B ≤ w.heap.size) (hb : z.b < B) : LI z B (.slice (some ⟨w.heap.size, 0, none⟩) 1 1) [a] (w.alloc (.cells #[u] 65)) := by
  have hk : ∀ k, From B k → k < w.heap.size → Off B (.slice (some ⟨w.heap.size, 0, none⟩) 1 1) k ∧ (w.alloc (.cells #[u] 65)).heap[k]? = w.heap[k]? := fun k hk hlt => ⟨off_new rfl hk (Nat.le_refl _) hlt, (World.grownBy_alloc w _ none).block k hlt (by simp)⟩
  exact ⟨[u], ⟨rfl, .inr ⟨w.heap.size, 1, #[u], rfl, hB, heap_alloc_new w _, Nat.le_refl _, by decide, rfl, rfl⟩⟩, parts_cons (part_up (by simp) hk a u pa) parts_nil, hb, by simp; omega⟩
theorem li_two {z : Pz} {B : Nat} {w : World} {a b : Tr} {u v : Value} (pa : PartAt w (From B) a u) (pb : PartAt w (From B) b v) (hB : B ≤ w.heap.size) (hb : z.b < B) : LI z B (.slice (some ⟨w.heap.size, 0, none⟩) 2 2) [a, b] (w.alloc (.cells #[u, v] 65)) := by
  have hk : ∀ k, From B k → k < w.heap.size → Off B (.slice (some ⟨w.heap.size, 0, none⟩) 2 2) k ∧ (w.alloc (.cells #[u, v] 65)).heap[k]? = w.heap[k]? := fun k hk hlt => ⟨off_new rfl hk (Nat.le_refl _) hlt, (World.grownBy_alloc w _ none).block k hlt (by simp)⟩
  exact ⟨[u, v], ⟨rfl, .inr ⟨w.heap.size, 2, #[u, v], rfl, hB, heap_alloc_new w _, Nat.le_refl _, by decide, rfl, rfl⟩⟩, parts_cons (part_up (by simp) hk a u pa) (parts_cons (part_up (by simp) hk b v pb) parts_nil), hb, by simp; omega⟩
theorem parts_app {w : World} {ok : Nat → Prop} {m : List Tr} {us : List Value} (hm : PartsAt w ok m us) : ∀ (l : List Tr) (vs : List Value), PartsAt w ok l vs → PartsAt w ok (l ++ m) (vs ++ us)
  | [], vs, h => by unfold PartsAt at h; subst h; exact hm
  | t :: l, vs, h => by
    unfold PartsAt at h
    obtain ⟨v, r, rfl, h2, h3⟩ := h
    simp only [List.cons_append]
    exact parts_cons h2 (parts_app hm l r h3)
theorem parts_one {w : World} {ok : Nat → Prop} : ∀ (l : List Tr) (vs : List Value), PartsAt w ok l vs → ∀ u ∈ vs, u.oneCell' = true
  | [], vs, h => by unfold PartsAt at h; subst h; intro u hu; cases hu
  | t :: l, vs, h => by
    unfold PartsAt at h
    obtain ⟨v, r, rfl, h2, h3⟩ := h
    intro u hu
    cases hu with
    | head => obtain ⟨g, rfl⟩ := part_ptr h2; rfl
    | tail _ hu => exact parts_one l r h3 u hu
/-- a row with another behind it: 'append(l, m...)' -/
theorem li_append {ops : Array Oper} {rest : List Oper} {o : Oper} {a : Act} {Q : Exit → Act → World → Prop} (hgd : o.guard = none) (s x : Operand)
    (ho : o.op = .call { callee := .builtin .append, args := #[s, x], argTypes := #[93, 93] })
    {z : Pz} {B D : Nat} {v v2 : Value} {l m : List Tr} {wr : World} (h : LI z B v l wr) (h2 : LI z D v2 m wr) (hD : ∀ k, v.ownBlock = some k → k < D) (hBD : B ≤ D)
    (hs : a.eval s = v) (hx : a.eval x = v2) (hl : l.length + m.length ≤ 100000)
    (kk : ∀ v' w', LI z B v' (l ++ m) w' → wr.grownBy w' v.ownBlock → wpList Tryz.prog ops Q rest (a.put o.dst v') w') : wpList Tryz.prog ops Q (o :: rest) a wr := by
  obtain ⟨vs, h1, hp, hb, hB⟩ := h
  obtain ⟨us, k1, kp, _, kB⟩ := h2
  obtain ⟨i0, hi, hz0, hz1, hz2⟩ := info_parts ptr_info
  rcases k1.2 with ⟨rfl, h0⟩ | ⟨g, cap, cur, rfl, hg, hgg, _⟩
  · have hm : m = [] := List.eq_nil_of_length_eq_zero h0
    subst hm
    refine wpList_append_own_none hgd s x 93 ho B 65 i0 1 Tryz.underlying93 hi v l.length vs hs h1 hx ?_
    exact kk v wr ⟨vs, by rw [List.append_nil]; exact h1, by rw [List.append_nil]; exact hp, hb, hB⟩ (World.grownBy.refl _ _)
  · refine wpList_append_own_at _ hgd s x 93 ho B 65 i0 (.pointer none) 1 8 Tryz.underlying93 hi hz0 hz1 hz2 rfl (by decide) v l.length vs hs h1 ⟨g, 0, none⟩ m.length cap us hx (by rw [k1.1]) (k1.cells (g := g) rfl) (parts_one m us kp) ?_ ?_ hB ?_
    · unfold maxLen; omega
    · omega
    · intro v' w' hown hgrow _ hat
      have key : ∀ k, k < wr.heap.size → v.ownBlock ≠ some k → v'.ownBlock ≠ some k ∧ w'.heap[k]? = wr.heap[k]? := by
        intro k hk hne
        refine ⟨?_, hgrow.block k hk (fun e => hne e.symm)⟩
        rcases hat with e | e
        · rw [e]; exact hne
        · rw [e]; intro e2; have := Option.some.inj e2; omega
      refine kk v' w' ⟨vs ++ us, ?_, parts_app ?_ l vs ?_, hb, Nat.le_trans hB hgrow.size⟩ hgrow
      · rw [List.length_append]; exact hown
      · refine parts_up hgrow.size (fun k hk hlt => ?_) m us kp
        have hk1 : D ≤ k := hk.1
        obtain ⟨k1, k2⟩ := key k hlt (fun e => by have := hD k e; omega)
        exact ⟨⟨Nat.le_trans hBD hk1, k1⟩, k2⟩
      · refine parts_up hgrow.size (fun k hk hlt => ?_) l vs hp
        obtain ⟨k1, k2⟩ := key k hlt hk.2
        exact ⟨⟨hk.1, k1⟩, k2⟩
theorem listed_len {T : List Tk} {c : ByteArray} {most : Nat} {f : Ps → Rs Tr} : ∀ (n : Nat) (l : List Tr) (s : Ps), l.length ≤ most → ∀ (m : List Tr) (s1 : Ps), listedR T c most f n l s = .ok m s1 → m.length ≤ most
  | 0, _, _, _, _, _, h => by cases h
  | n + 1, l, s, hl, m, s1, h => by
    unfold listedR at h
    split at h
    · cases h
    · rename_i hne
      cases hf : f s with
      | bad p q => rw [hf] at h; cases h
      | out => rw [hf] at h; cases h
      | ok t s2 =>
        rw [hf] at h
        have h : (if (sd T s2 == c) = true then Rs.ok (l ++ [t]) s2.on else (take1 T (⟨#[44]⟩ : ByteArray) s2).bind fun _ s2 => listedR T c most f n (l ++ [t]) s2) = .ok m s1 := h
        split at h
        · injection h with e1 e2
          subst e1
          rw [List.length_append]; show l.length + 1 ≤ most; omega
        · cases hm : take1 T (⟨#[44]⟩ : ByteArray) s2 with
          | bad p q => rw [hm] at h; cases h
          | out => rw [hm] at h; cases h
          | ok u s3 =>
            rw [hm] at h
            exact listed_len n (l ++ [t]) s3 (by rw [List.length_append]; show l.length + 1 ≤ most; omega) m s1 h
theorem list_len {T : List Tk} {c : ByteArray} {most : Nat} {f : Ps → Rs Tr} {s : Ps} {m : List Tr} {s1 : Ps} (h : listR T c most f s = .ok m s1) : m.length ≤ most := by
  unfold listR at h
  split at h
  · injection h with e1 _; subst e1; exact Nat.zero_le _
  · exact listed_len _ _ _ (Nat.zero_le _) m s1 h
theorem prog_param {T : List Tk} (hm : MayP T) : ProgF T (paramR T) := fun s t s1 hs h => by
  have := gd_param hm hs
  rw [h] at this
  exact this.1
theorem part_kind {w : World} {ok : Nat → Prop} {t : Tr} {g : Nat} (h : PartAt w ok t (.pointer (some ⟨g, 0, none⟩))) : w.cell? ⟨g, 0, none⟩ = some (.int .u8 (t.kind : Int)) := by
  cases t
  unfold PartAt at h
  obtain ⟨g', _, _, _, h1, _, h2, _⟩ := h
  injection h1 with h1; injection h1 with h1; injection h1 with h1
  subst h1
  exact blk_cell h2 0
theorem level_le (c : ByteArray) : levelOf c ≤ 10 := by
  unfold levelOf
  repeat' split
  all_goals omega
theorem prog_listed {T : List Tk} (hm : MayP T) {c : ByteArray} (hc : c ≠ ⟨#[]⟩) {most : Nat} {f : Ps → Rs Tr} (hf : ∀ s t s1, s.next < T.length → f s = .ok t s1 → s.next < s1.next) (hlt : ∀ s t s1, s.next < T.length → f s = .ok t s1 → s1.next < T.length) :
    ∀ (n : Nat) (l : List Tr) (s : Ps), s.next < T.length → ∀ (m : List Tr) (s1 : Ps), listedR T c most f n l s = .ok m s1 → s.next < s1.next
  | 0, _, _, _, _, _, h => by cases h
  | n + 1, l, s, hs, m, s1, h => by
    unfold listedR at h
    split at h
    · cases h
    · cases hfs : f s with
      | bad p q => rw [hfs] at h; cases h
      | out => rw [hfs] at h; cases h
      | ok t s2 =>
        rw [hfs] at h
        have h1 := hf s t s2 hs hfs
        have h2 := hlt s t s2 hs hfs
        have h : (if (sd T s2 == c) = true then Rs.ok (l ++ [t]) s2.on else (take1 T (⟨#[44]⟩ : ByteArray) s2).bind fun _ s2 => listedR T c most f n (l ++ [t]) s2) = .ok m s1 := h
        split at h
        · injection h with e1 e2
          subst e2
          show s.next < s2.next + 1
          omega
        · have hg := gd_take1 hm (c := (⟨#[44]⟩ : ByteArray)) (by decide) h2
          cases hm2 : take1 T (⟨#[44]⟩ : ByteArray) s2 with
          | bad p q => rw [hm2] at h; cases h
          | out => rw [hm2] at h; cases h
          | ok u s3 =>
            rw [hm2] at h hg
            have := prog_listed hm hc hf hlt n (l ++ [t]) s3 hg.2 m s1 h
            have := hg.1
            omega
theorem args_prog {z : Pz} {r : Mth → Ps → Rs Tr} (A : AllW z r) (hm : MayP z.T) {x : Tr} {s s2 : Ps} {l : List Tr} (hs : s.next < z.T.length) (h : argsR z.T r x s = .ok l s2) : s.next < s2.next := by
  unfold argsR at h
  have hg := gd_take1 hm (c := (⟨#[40]⟩ : ByteArray)) (by decide) hs
  cases h1 : take1 z.T (⟨#[40]⟩ : ByteArray) s with
  | bad p q => rw [h1] at h; cases h
  | out => rw [h1] at h; cases h
  | ok u s1 =>
    rw [h1] at h hg
    have hg : s.next + 1 ≤ s1.next ∧ s1.next < z.T.length := hg
    have h : (listR z.T (⟨#[41]⟩ : ByteArray) 64 (r .assign) s1).bind (fun l s3 => .ok (x :: l) s3) = .ok l s2 := h
    cases h2 : listR z.T (⟨#[41]⟩ : ByteArray) 64 (r .assign) s1 with
    | bad p q => rw [h2] at h; cases h
    | out => rw [h2] at h; cases h
    | ok m s3 =>
      rw [h2] at h
      injection h with _ e2
      subst e2
      unfold listR at h2
      split at h2
      · injection h2 with _ e3
        subst e3
        show s.next < s1.next + 1
        omega
      · have := prog_listed hm (c := (⟨#[41]⟩ : ByteArray)) (by decide) (fun s t s1 hs h => A.prog .assign s t s1 trivial hs h) (fun s t s1 hs h => A.within .assign s t s1 trivial hs h) _ _ _ hg.2 _ _ h2
        omega
theorem take_at {z : Pz} {s : Ps} {w : World} (h : At z s w) (c : ByteArray) (t : TypeId) (hc : c ≠ ⟨#[]⟩) {n : Nat} (hn : n = w.heap.size) :
    Calls Tryz.prog 100 #[.pointer (some ⟨z.b, 0, none⟩), .slice (some ⟨n, 0, none⟩) 1 1] (w.alloc (.cells #[.string c] t)) (TakeTo z w (take1 z.T c s)) := by subst hn; exact take_one h c t hc
theorem bare_at {z : Pz} {s : Ps} {w : World} (h : At z s w) (k : Nat) (c : ByteArray) (t : TypeId) (hc : c ≠ ⟨#[]⟩) {n : Nat} (hn : n = w.heap.size) :
    Calls Tryz.prog 98 #[.pointer (some ⟨z.b, 0, none⟩), .int .u8 (k : Int), .slice (some ⟨n, 0, none⟩) 1 1] (w.alloc (.cells #[.string c] t)) (Res z w (bareR z.T k [c] s)) := by subst hn; exact bare_one h k c t hc
theorem part_drew {w : World} {ok : Nat → Prop} {t : Tr} {v : Value} (h : PartAt w ok t v) : PartAt w.drew ok t v := part_up (w := w) (w' := w.drew) (Nat.le_refl _) (fun _ hk _ => ⟨hk, rfl⟩) t v h
theorem grown_drew {w w' : World} {b : Option Nat} (h : w.grownBy w' b) : w.grownBy w'.drew b := ⟨h.os, h.tape, h.output, h.size, h.block⟩
theorem box_drew {z : Pz} {w : World} {g : Nat} (h : BoxAt z w g) : BoxAt z w.drew g := h
theorem fz_blk {w : World} {g : Nat} {cs : Array Value} {t : TypeId} (h : w.heap[g]? = some (.cells cs t (0, 0))) (i : Nat) : w.frozen? ⟨g, i, none⟩ = false := by
  unfold World.frozen?
  rw [h]
  simp
theorem part_blk {w : World} {ok : Nat → Prop} {k : Nat} {p : Int} {t : ByteArray} {x : Nat} {l : List Tr} {g : Nat} (h : PartAt w ok (.mk k p t x l) (.pointer (some ⟨g, 0, none⟩))) :
    ∃ A cap, w.heap[g]? = some (.cells #[.int .u8 (k : Int), .int .i64 p, .string t, .float .f64 x, .slice none 0 0, .slice A l.length cap] 98 (0, 0)) ∧ ok g := by
  unfold PartAt at h
  obtain ⟨g', A, cap, vs, h1, h2, h3, _⟩ := h
  injection h1 with h1; injection h1 with h1; injection h1 with h1
  subst h1
  exact ⟨A, cap, h3, h2⟩
/-- a declaration's value becomes its only kid -/
theorem decl_end {z : Pz} {s0 s : Ps} {w W : World} (h0 : At z s0 w) (h : At z s W) (G : w.grownBy W (some z.b)) {g D : Nat} (hg : w.heap.size ≤ g) (hgD : g < D) {k : Nat} {p : Int} {t : ByteArray} {x : Nat} {A : Option Addr} {n cap : Nat}
    (hb : W.heap[g]? = some (.cells #[.int .u8 (k : Int), .int .i64 p, .string t, .float .f64 x, .slice none 0 0, .slice A n cap] 98 (0, 0))) {y : Tr} {u : Value} (py : PartAt W (From D) y u) :
    PartAt ((W.setCell ⟨g, 5, none⟩ (.slice (some ⟨W.heap.size, 0, none⟩) 1 1)).alloc (.cells #[u] 65)) (From w.heap.size) (.mk k p t x [y]) (.pointer (some ⟨g, 0, none⟩)) ∧
      At z s ((W.setCell ⟨g, 5, none⟩ (.slice (some ⟨W.heap.size, 0, none⟩) 1 1)).alloc (.cells #[u] 65)) ∧ w.grownBy ((W.setCell ⟨g, 5, none⟩ (.slice (some ⟨W.heap.size, 0, none⟩) 1 1)).alloc (.cells #[u] 65)) (some z.b) := by
  have hgW := lt_of_blk hb
  have hs : (W.setCell ⟨g, 5, none⟩ (.slice (some ⟨W.heap.size, 0, none⟩) 1 1)).heap.size = W.heap.size := by simp
  have old : ∀ j, j < W.heap.size → ((W.setCell ⟨g, 5, none⟩ (.slice (some ⟨W.heap.size, 0, none⟩) 1 1)).alloc (.cells #[u] 65)).heap[j]? = (W.setCell ⟨g, 5, none⟩ (.slice (some ⟨W.heap.size, 0, none⟩) 1 1)).heap[j]? :=
    fun j hj => (World.grownBy_alloc _ _ none).block j (by rw [hs]; exact hj) (by simp)
  have hGs := G.size
  refine ⟨part_mk (l := [y]) (vs := [u]) (cap := 1) ((old g hgW).trans (set_blk hb 5 _)) hg ?_ (parts_cons ?_ parts_nil), at_alloc (at_fresh h0 h hg _ _) _, (grown_fresh G hg _ _).trans (World.grownBy_alloc _ _ _)⟩
  · have := row_new (w := W.setCell ⟨g, 5, none⟩ (.slice (some ⟨W.heap.size, 0, none⟩) 1 1)) (B := w.heap.size) (vs := [u]) 65 (by rw [hs]; exact hGs)
    rw [hs] at this
    exact this
  · refine part_up (by simp) (fun j hj hlt => ⟨?_, (old j hlt).trans (Go.Deep.blk_setCell_other _ _ _ _ ?_)⟩) y u py
    · have : D ≤ j := hj; show w.heap.size ≤ j; omega
    · have : D ≤ j := hj; show j ≠ g; omega
theorem Rs.bind_assoc {α β γ : Type} (r : Rs α) (f : α → Ps → Rs β) (g : β → Ps → Rs γ) : (r.bind f).bind g = r.bind fun a s => (f a s).bind g := by cases r <;> rfl
theorem mkP_bind {β : Type} (k : Nat) (p : Int) (t : ByteArray) (x : Nat) (l : List Tr) (s : Ps) (f : Tr → Ps → Rs β) : (mkP k p t x l s).bind f = f (.mk k p t x l) s.made := rfl
theorem ok_bind {α β : Type} (a : α) (s : Ps) (f : α → Ps → Rs β) : (Rs.ok a s).bind f = f a s := rfl
theorem Rs.bind_if_pos {α β : Type} {c : Prop} [Decidable c] (h : c) {a b : Rs α} {f : α → Ps → Rs β} : (if c then a else b).bind f = a.bind f := by rw [if_pos h]
theorem Rs.bind_if_neg {α β : Type} {c : Prop} [Decidable c] (h : ¬ c) {a b : Rs α} {f : α → Ps → Rs β} : (if c then a else b).bind f = b.bind f := by rw [if_neg h]
/-- what a method that reads a list comes to, the parts from B on -/
def ResB (z : Pz) (B : Nat) (w : World) (r : Rs (List Tr)) (e : Ending) (w' : World) : Prop :=
  match r with
  | .ok l s => ∃ v, e = .returned v ∧ LI z B v l w' ∧ At z s w' ∧ w.grownBy w' (some z.b)
  | .bad p k => e = .panicked (faultC p k) ∧ w.grownBy w' (some z.b)
  | .out => False
theorem resb_ok {z : Pz} {B : Nat} {w w' : World} {R : Rs (List Tr)} {l : List Tr} {s : Ps} {v : Value} (hR : R = .ok l s) (hv : LI z B v l w') (h : At z s w') (g : w.grownBy w' (some z.b)) : ResB z B w R (.returned v) w' := by
  rw [hR]; exact ⟨v, rfl, hv, h, g⟩
theorem resb_bad {z : Pz} {B : Nat} {w w' : World} {R : Rs (List Tr)} {p k : Int} (hR : R = .bad p k) (g : w.grownBy w' (some z.b)) : ResB z B w R (.panicked (faultC p k)) w' := by rw [hR]; exact ⟨rfl, g⟩
end Go.Proofs.YtablckajobefeaaGreatDoor.S
/-
  Walks of the parser's methods, from what each does in turn. Generated: gen_step.py.
-/
namespace Go.Proofs.YtablckajobefeaaGreatDoor.S
open Go.RowKit Fl

set_option maxHeartbeats 4000000 in
set_option maxRecDepth 100000 in
theorem w_accessor30 {z : Pz} {r : Mth → Ps → Rs Tr} (A : AllW z r) {s : Ps} {w : World} (h : At z s w) (hk0 : (tok z.T s).kind ≠ 0) (ho : step z.T r (.accessor 30) s ≠ .out) :
    Calls Tryz.prog 199 #[.pointer (some ⟨z.b, 0, none⟩), .int .u8 30] w (Res z w (step z.T r (.accessor 30) s)) := by
  have hzb := at_lt h
  generalize hR : step z.T r (.accessor 30) s = R at ho ⊢
  have HO := Lib.hid ho
  dsimp only [step] at hR
  have E := Lib.hid hR.symm
  clear hR ho
  have hc := h
  have G : w.grownBy w (some z.b) := World.grownBy.refl _ _
  have hn := tok_end hc.may hc.lt hk0
  have hfew := h.few
  go_enter Tryz.func199, Tryz.ntmps199
  go_wp2_with (go_at_call 47; refine (at_p hc).mono ?_; rintro e wx ⟨rfl, hb⟩; obtain ⟨hc, gx⟩ := at_below hc hb; have G := G.trans gx; obtain ⟨_, c1, _, _, fzz, hltt⟩ := at_cells hc)
  have hc := at_next hc hn
  have G := G.trans (grown_set wx z.b 1 (.int .i64 ((s.next : Int) + 1)))
  clear c1 fzz hltt
  have hno1 : r .key s.on ≠ .out := fun e => HO.out (E.out.trans (Rs.bind_out e _))
  go_at_call 200
  refine (A.key hc hno1).mono ?_
  rintro e wx hr
  cases hm1 : r .key s.on with
  | out => exact absurd hm1 hno1
  | bad p q => rw [hm1] at hr; obtain ⟨rfl, gx⟩ := hr; exact ⟨rfl, res_bad (E.out.trans (Rs.bind_bad hm1 _)) (G.trans gx)⟩
  | ok t1 s1 =>
    rw [hm1] at hr
    obtain ⟨v1, rfl, p1, hc, gx⟩ := hr
    have p1 := part_low p1 G.size
    obtain ⟨gv1, rfl⟩ := part_ptr p1
    have G := G.trans gx
    have E := Lib.hid (E.out.trans (Rs.bind_ok hm1 _))
    go_wp2_with (go_at_call 47; refine (at_p hc).mono ?_; rintro e wx ⟨rfl, hb⟩; obtain ⟨hc, gx⟩ := at_below hc hb; have G := G.trans gx; have p1 := part_on p1 (Nat.le_refl _) gx hzb)
    go_at_call 100
    refine (take_one hc (⟨#[40]⟩ : ByteArray) _ (by decide)).mono ?_
    rintro e wx hr
    cases hm2 : take1 z.T (⟨#[40]⟩ : ByteArray) s1 with
    | out => rw [hm2] at hr; exact hr.elim
    | bad p q => rw [hm2] at hr; obtain ⟨rfl, gx⟩ := hr; exact ⟨rfl, res_bad (E.out.trans (Rs.bind_bad hm2 _)) (G.trans gx)⟩
    | ok u s2 =>
      rw [hm2] at hr
      obtain ⟨rfl, hc, gx⟩ := hr
      have G := G.trans gx; have p1 := part_on p1 (Nat.le_refl _) gx hzb
      have E := Lib.hid (E.out.trans (Rs.bind_ok hm2 _))
      obtain ⟨B1, hB1⟩ : ∃ B, B = wx.heap.size := ⟨_, rfl⟩
      have hBle : B1 ≤ wx.heap.size := Nat.le_of_eq hB1
      have hBge : wx.heap.size ≤ B1 := Nat.le_of_eq hB1.symm
      have hBw : w.heap.size ≤ B1 := by rw [hB1]; exact G.size
      have p1k := p1
      have K := World.grownBy.refl wx (some z.b)
      have lx := li_nil (z := z) (B := B1) (w := wx) (by omega) hBle
      clear hB1
      have E := Lib.hid (E.out.trans (Rs.bind_if_neg (by decide)))
      have E := Lib.hid (E.out.trans (ok_bind [] s2 _))
      go_wp2_with (fail)
      go_at_call 100
      refine (take_one hc (⟨#[41]⟩ : ByteArray) _ (by decide)).mono ?_
      rintro e wx hr
      cases hm3 : take1 z.T (⟨#[41]⟩ : ByteArray) s2 with
      | out => rw [hm3] at hr; exact hr.elim
      | bad p q => rw [hm3] at hr; obtain ⟨rfl, gx⟩ := hr; exact ⟨rfl, res_bad (E.out.trans (Rs.bind_bad hm3 _)) (G.trans gx)⟩
      | ok u s3 =>
        rw [hm3] at hr
        obtain ⟨rfl, hc, gx⟩ := hr
        have G := G.trans gx; have lx := li_on lx gx; have K := K.trans gx
        have E := Lib.hid (E.out.trans (Rs.bind_ok hm3 _))
        have ho9 := li_lt lx
        have gs9 := Nat.le_trans hBle K.size
        go_wp2_with (fail)
        have hno4 : r .block s3 ≠ .out := fun e => HO.out (E.out.trans (Rs.bind_out e _))
        go_at_call 97
        refine (A.block hc hno4).mono ?_
        rintro e wx hr
        cases hm4 : r .block s3 with
        | out => exact absurd hm4 hno4
        | bad p q => rw [hm4] at hr; obtain ⟨rfl, gx⟩ := hr; exact ⟨rfl, res_bad (E.out.trans (Rs.bind_bad hm4 _)) (G.trans gx)⟩
        | ok t4 s4 =>
          rw [hm4] at hr
          obtain ⟨v4, rfl, p4, hc, gx⟩ := hr
          have q4 := p4
          have gq4 := gx.size
          have p4 := part_low p4 G.size
          obtain ⟨gv4, rfl⟩ := part_ptr p4
          have G := G.trans gx; have lx := li_on lx gx; have K := K.trans gx
          have E := Lib.hid (E.out.trans (Rs.bind_ok hm4 _))
          have E : Hid (R = mkP 30 (here z.T s) ⟨#[]⟩ 0 [t1, .mk 27 (here z.T s1) ⟨#[]⟩ 0 [t4]] s4.made) := Lib.hid (E.out.trans rfl)
          go_wp2_with (at_builtin; refine li_app rfl _ _ rfl lx q4 (fun j hj => (ho9 j hj).2) gs9 rfl (by simp [Act.eval]) (by first | omega | (simp; done)) ?_; intro v' wa lz g4; have hc := at_own h hc g4 (fun j hj => Nat.le_trans hBw (ho9 j hj).1) G.size; have G := grown_own G g4 (fun j hj => Nat.le_trans hBw (ho9 j hj).1); have K := grown_own K g4 (fun j hj => Nat.le_trans hBge (ho9 j hj).1); obtain ⟨Az, capz, hz⟩ := li_shape lz; have hz : v' = .slice Az 1 capz := hz; subst hz; have lz : LI z B1 (.slice Az 1 capz) [t4] wa := lz)
          go_at_call 50
          refine (part_list hc 27 _ ⟨#[]⟩ lz (by simp)).mono ?_
          rintro e wx ⟨xv, rfl, px, hc, gx⟩
          have G := G.trans gx
          have K := K.trans gx
          have px := part_low px hBw
          have p1 := part_on p1k (Nat.le_refl _) K hzb
          obtain ⟨gp, rfl⟩ := part_ptr px
          go_wp2_with (fail)
          go_at_call 50
          refine (part_two hc 30 _ ⟨#[]⟩ p1 px G.size hzb).mono ?_
          rintro e wx ⟨xv, rfl, pz, hc, gx⟩
          have G := G.trans gx
          go_wp2_with (fail)
          go_ret
          exact res_ok E.out pz hc G

set_option maxHeartbeats 4000000 in
set_option maxRecDepth 100000 in
theorem w_accessor31 {z : Pz} {r : Mth → Ps → Rs Tr} (A : AllW z r) {s : Ps} {w : World} (h : At z s w) (hk0 : (tok z.T s).kind ≠ 0) (ho : step z.T r (.accessor 31) s ≠ .out) :
    Calls Tryz.prog 199 #[.pointer (some ⟨z.b, 0, none⟩), .int .u8 31] w (Res z w (step z.T r (.accessor 31) s)) := by
  have hzb := at_lt h
  generalize hR : step z.T r (.accessor 31) s = R at ho ⊢
  have HO := Lib.hid ho
  dsimp only [step] at hR
  have E := Lib.hid hR.symm
  clear hR ho
  have hc := h
  have G : w.grownBy w (some z.b) := World.grownBy.refl _ _
  have hn := tok_end hc.may hc.lt hk0
  have hfew := h.few
  go_enter Tryz.func199, Tryz.ntmps199
  go_wp2_with (go_at_call 47; refine (at_p hc).mono ?_; rintro e wx ⟨rfl, hb⟩; obtain ⟨hc, gx⟩ := at_below hc hb; have G := G.trans gx; obtain ⟨_, c1, _, _, fzz, hltt⟩ := at_cells hc)
  have hc := at_next hc hn
  have G := G.trans (grown_set wx z.b 1 (.int .i64 ((s.next : Int) + 1)))
  clear c1 fzz hltt
  have hno1 : r .key s.on ≠ .out := fun e => HO.out (E.out.trans (Rs.bind_out e _))
  go_at_call 200
  refine (A.key hc hno1).mono ?_
  rintro e wx hr
  cases hm1 : r .key s.on with
  | out => exact absurd hm1 hno1
  | bad p q => rw [hm1] at hr; obtain ⟨rfl, gx⟩ := hr; exact ⟨rfl, res_bad (E.out.trans (Rs.bind_bad hm1 _)) (G.trans gx)⟩
  | ok t1 s1 =>
    rw [hm1] at hr
    obtain ⟨v1, rfl, p1, hc, gx⟩ := hr
    have p1 := part_low p1 G.size
    obtain ⟨gv1, rfl⟩ := part_ptr p1
    have G := G.trans gx
    have E := Lib.hid (E.out.trans (Rs.bind_ok hm1 _))
    go_wp2_with (go_at_call 47; refine (at_p hc).mono ?_; rintro e wx ⟨rfl, hb⟩; obtain ⟨hc, gx⟩ := at_below hc hb; have G := G.trans gx; have p1 := part_on p1 (Nat.le_refl _) gx hzb)
    go_at_call 100
    refine (take_one hc (⟨#[40]⟩ : ByteArray) _ (by decide)).mono ?_
    rintro e wx hr
    cases hm2 : take1 z.T (⟨#[40]⟩ : ByteArray) s1 with
    | out => rw [hm2] at hr; exact hr.elim
    | bad p q => rw [hm2] at hr; obtain ⟨rfl, gx⟩ := hr; exact ⟨rfl, res_bad (E.out.trans (Rs.bind_bad hm2 _)) (G.trans gx)⟩
    | ok u s2 =>
      rw [hm2] at hr
      obtain ⟨rfl, hc, gx⟩ := hr
      have G := G.trans gx; have p1 := part_on p1 (Nat.le_refl _) gx hzb
      have E := Lib.hid (E.out.trans (Rs.bind_ok hm2 _))
      obtain ⟨B1, hB1⟩ : ∃ B, B = wx.heap.size := ⟨_, rfl⟩
      have hBle : B1 ≤ wx.heap.size := Nat.le_of_eq hB1
      have hBge : wx.heap.size ≤ B1 := Nat.le_of_eq hB1.symm
      have hBw : w.heap.size ≤ B1 := by rw [hB1]; exact G.size
      have p1k := p1
      have K := World.grownBy.refl wx (some z.b)
      have lx := li_nil (z := z) (B := B1) (w := wx) (by omega) hBle
      clear hB1
      have E := Lib.hid (by have e := E.out; simp only [if_true] at e; exact e)
      have E := Lib.hid (E.out.trans (Rs.bind_assoc _ _ _))
      have ho := li_lt lx
      have gs := Nat.le_trans hBle K.size
      go_wp2_with (fail)
      have hno3 : paramR z.T s2 ≠ .out := fun e => HO.out (E.out.trans (Rs.bind_out e _))
      go_at_call 131
      refine (param_p hc).mono ?_
      rintro e wx hr
      cases hm3 : paramR z.T s2 with
      | out => exact absurd hm3 hno3
      | bad p q => rw [hm3] at hr; obtain ⟨rfl, gx⟩ := hr; exact ⟨rfl, res_bad (E.out.trans (Rs.bind_bad hm3 _)) (G.trans gx)⟩
      | ok t3 s3 =>
        rw [hm3] at hr
        obtain ⟨v3, rfl, p3, hc, gx⟩ := hr
        have q3 := p3
        have gq3 := gx.size
        have p3 := part_low p3 G.size
        obtain ⟨gv3, rfl⟩ := part_ptr p3
        have G := G.trans gx; have lx := li_on lx gx; have K := K.trans gx
        have E := Lib.hid (E.out.trans (Rs.bind_ok hm3 _))
        have E := Lib.hid (E.out.trans (ok_bind [t3] s3 _))
        go_wp2_with (at_builtin; refine li_app rfl _ _ rfl lx q3 (fun j hj => (ho j hj).2) gs rfl (by simp [Act.eval]) (by first | omega | (simp; done)) ?_; intro v' wa ly g4; have hc := at_own h hc g4 (fun j hj => Nat.le_trans hBw (ho j hj).1) G.size; have G := grown_own G g4 (fun j hj => Nat.le_trans hBw (ho j hj).1); have K := grown_own K g4 (fun j hj => Nat.le_trans hBge (ho j hj).1); obtain ⟨Az, capz, hz⟩ := li_shape ly; have hz : v' = .slice Az 1 capz := hz; subst hz; have ly : LI z B1 (.slice Az 1 capz) [t3] wa := ly)
        go_wp2_with (fail)
        go_at_call 100
        refine (take_one hc (⟨#[41]⟩ : ByteArray) _ (by decide)).mono ?_
        rintro e wx hr
        cases hm4 : take1 z.T (⟨#[41]⟩ : ByteArray) s3 with
        | out => rw [hm4] at hr; exact hr.elim
        | bad p q => rw [hm4] at hr; obtain ⟨rfl, gx⟩ := hr; exact ⟨rfl, res_bad (E.out.trans (Rs.bind_bad hm4 _)) (G.trans gx)⟩
        | ok u s4 =>
          rw [hm4] at hr
          obtain ⟨rfl, hc, gx⟩ := hr
          have G := G.trans gx; have ly := li_on ly gx; have K := K.trans gx
          have E := Lib.hid (E.out.trans (Rs.bind_ok hm4 _))
          have ho9 := li_lt ly
          have gs9 := Nat.le_trans hBle K.size
          go_wp2_with (fail)
          have hno5 : r .block s4 ≠ .out := fun e => HO.out (E.out.trans (Rs.bind_out e _))
          go_at_call 97
          refine (A.block hc hno5).mono ?_
          rintro e wx hr
          cases hm5 : r .block s4 with
          | out => exact absurd hm5 hno5
          | bad p q => rw [hm5] at hr; obtain ⟨rfl, gx⟩ := hr; exact ⟨rfl, res_bad (E.out.trans (Rs.bind_bad hm5 _)) (G.trans gx)⟩
          | ok t5 s5 =>
            rw [hm5] at hr
            obtain ⟨v5, rfl, p5, hc, gx⟩ := hr
            have q5 := p5
            have gq5 := gx.size
            have p5 := part_low p5 G.size
            obtain ⟨gv5, rfl⟩ := part_ptr p5
            have G := G.trans gx; have ly := li_on ly gx; have K := K.trans gx
            have E := Lib.hid (E.out.trans (Rs.bind_ok hm5 _))
            have E : Hid (R = mkP 31 (here z.T s) ⟨#[]⟩ 0 [t1, .mk 27 (here z.T s1) ⟨#[]⟩ 0 [t3, t5]] s5.made) := Lib.hid (E.out.trans rfl)
            go_wp2_with (at_builtin; refine li_app rfl _ _ rfl ly q5 (fun j hj => (ho9 j hj).2) gs9 rfl (by simp [Act.eval]) (by first | omega | (simp; done)) ?_; intro v' wa lz g4; have hc := at_own h hc g4 (fun j hj => Nat.le_trans hBw (ho9 j hj).1) G.size; have G := grown_own G g4 (fun j hj => Nat.le_trans hBw (ho9 j hj).1); have K := grown_own K g4 (fun j hj => Nat.le_trans hBge (ho9 j hj).1); obtain ⟨Az, capz, hz⟩ := li_shape lz; have hz : v' = .slice Az 2 capz := hz; subst hz; have lz : LI z B1 (.slice Az 2 capz) [t3, t5] wa := lz)
            go_at_call 50
            refine (part_list hc 27 _ ⟨#[]⟩ lz (by simp)).mono ?_
            rintro e wx ⟨xv, rfl, px, hc, gx⟩
            have G := G.trans gx
            have K := K.trans gx
            have px := part_low px hBw
            have p1 := part_on p1k (Nat.le_refl _) K hzb
            obtain ⟨gp, rfl⟩ := part_ptr px
            go_wp2_with (fail)
            go_at_call 50
            refine (part_two hc 31 _ ⟨#[]⟩ p1 px G.size hzb).mono ?_
            rintro e wx ⟨xv, rfl, pz, hc, gx⟩
            have G := G.trans gx
            go_wp2_with (fail)
            go_ret
            exact res_ok E.out pz hc G
end Go.Proofs.YtablckajobefeaaGreatDoor.S
/-
  Walks of the parser's methods, from what each does in turn. Generated: gen_step.py.
-/
namespace Go.Proofs.YtablckajobefeaaGreatDoor.S
open Go.RowKit Fl

set_option maxHeartbeats 4000000 in
set_option maxRecDepth 100000 in
theorem w_args {z : Pz} {r : Mth → Ps → Rs Tr} (A : AllW z r) {s : Ps} {w : World} {B : Nat} {x : Tr} {u : Value} (h : At z s w) (px : PartAt w (From B) x u) (hB : B ≤ w.heap.size) (hzB : z.b < B) (ho : argsR z.T r x s ≠ .out) :
    Calls Tryz.prog 193 #[.pointer (some ⟨z.b, 0, none⟩), u] w (ResB z B w (argsR z.T r x s)) := by
  obtain ⟨gu, rfl⟩ := part_ptr px
  have hzb := at_lt h
  have hmf : ∀ (fn : Fn) (first cap : Array Value) (w : World), (Instr.makeFunc fn first cap).run Tryz.prog w = .ok (.func fn first cap) w := fun _ _ _ _ => rfl
  generalize hR : argsR z.T r x s = R at ho ⊢
  have HO := Lib.hid ho
  unfold argsR at hR
  have E := Lib.hid hR.symm
  clear hR ho
  have G : w.grownBy w (some z.b) := World.grownBy.refl _ _
  go_enter Tryz.func193, Tryz.ntmps193
  go_wp2_with (fail)
  go_at_call 100
  refine (take_one h (⟨#[40]⟩ : ByteArray) _ (by decide)).mono ?_
  rintro e w1 hr
  cases hm1 : take1 z.T (⟨#[40]⟩ : ByteArray) s with
  | out => rw [hm1] at hr; exact hr.elim
  | bad p q => rw [hm1] at hr; obtain ⟨rfl, gx⟩ := hr; exact ⟨rfl, resb_bad (E.out.trans (Rs.bind_bad hm1 _)) gx⟩
  | ok u1 s1 =>
    rw [hm1] at hr
    obtain ⟨rfl, hc, g1⟩ := hr
    have px := part_on px (Nat.le_refl _) g1 hzB
    have E := Lib.hid (E.out.trans (Rs.bind_ok hm1 _))
    have lx := li_one px (Nat.le_trans hB g1.size) hzB
    have ho1 := li_lt lx
    have hc := at_alloc hc (.cells #[.pointer (some ⟨gu, 0, none⟩)] 65)
    have hno2 : listR z.T (⟨#[41]⟩ : ByteArray) 64 (r .assign) s1 ≠ .out := fun e => HO.out (E.out.trans (Rs.bind_out e _))
    have hs1 := g1.size
    go_wp2_with (fail)
    go_at_call 130
    refine (listed_assign (fun _ _ h1 hn => A.assign h1 hn) (fun s t s1 hs h => A.prog .assign s t s1 trivial hs h) hc (⟨#[41]⟩ : ByteArray) (by decide) 64 (by decide) hno2).mono ?_
    rintro e w2 hr
    have g12 := g1.trans (World.grownBy_alloc w1 (.cells #[.pointer (some ⟨gu, 0, none⟩)] 65) (some z.b))
    cases hm2 : listR z.T (⟨#[41]⟩ : ByteArray) 64 (r .assign) s1 with
    | out => exact absurd hm2 hno2
    | bad p q => rw [hm2] at hr; obtain ⟨rfl, gx⟩ := hr; exact ⟨rfl, resb_bad (E.out.trans (Rs.bind_bad hm2 _)) (g12.trans gx)⟩
    | ok m s2 =>
      rw [hm2] at hr
      obtain ⟨v2, rfl, l2, hc2, g2⟩ := hr
      obtain ⟨A2, cap2, rfl⟩ := li_shape l2
      have lx := li_on lx g2
      have hlen := list_len hm2
      have E := Lib.hid (E.out.trans (Rs.bind_ok hm2 _))
      have hbd : B ≤ (w1.alloc (.cells #[.pointer (some ⟨gu, 0, none⟩)] 65)).heap.size := Nat.le_trans hB g12.size
      go_wp2_with (at_builtin; refine li_append rfl _ _ rfl lx l2 (fun j hj => (ho1 j hj).2) hbd rfl (by simp [Act.eval]) (by simp; omega) ?_; intro v' w3 l3 g4)
      have hown : ∀ j, (Value.slice (some ⟨w1.heap.size, 0, none⟩) 1 1).ownBlock = some j → w.heap.size ≤ j := fun j hj => by have := Option.some.inj hj; subst this; exact hs1
      go_ret
      exact resb_ok E.out l3 (at_own h hc2 g4 hown (g12.trans g2).size) (grown_own (g12.trans g2) g4 hown)

set_option maxHeartbeats 4000000 in
set_option maxRecDepth 100000 in
theorem w_function {z : Pz} {r : Mth → Ps → Rs Tr} (A : AllW z r) {s : Ps} {w : World} (k : Nat) (p : Int) (n : ByteArray) (h : At z s w) (ho : step z.T r (.function k p n) s ≠ .out) :
    Calls Tryz.prog 101 #[.pointer (some ⟨z.b, 0, none⟩), .int .u8 (k : Int), .int .i64 p, .string n] w (Res z w (step z.T r (.function k p n) s)) := by
  have hzb := at_lt h
  have hmf : ∀ (fn : Fn) (first cap : Array Value) (w : World), (Instr.makeFunc fn first cap).run Tryz.prog w = .ok (.func fn first cap) w := fun _ _ _ _ => rfl
  generalize hR : step z.T r (.function k p n) s = R at ho ⊢
  have HO := Lib.hid ho
  dsimp only [step] at hR
  have E := Lib.hid hR.symm
  clear hR ho
  have hc := h
  have G : w.grownBy w (some z.b) := World.grownBy.refl _ _
  go_enter Tryz.func101, Tryz.ntmps101
  go_wp2_with (fail)
  go_at_call 100
  refine (take_one hc (⟨#[40]⟩ : ByteArray) _ (by decide)).mono ?_
  rintro e wx hr
  cases hm1 : take1 z.T (⟨#[40]⟩ : ByteArray) s with
  | out => rw [hm1] at hr; exact hr.elim
  | bad p q => rw [hm1] at hr; obtain ⟨rfl, gx⟩ := hr; exact ⟨rfl, res_bad (E.out.trans (Rs.bind_bad hm1 _)) (G.trans gx)⟩
  | ok u s1 =>
    rw [hm1] at hr
    obtain ⟨rfl, hc, gx⟩ := hr
    have G := G.trans gx
    have E := Lib.hid (E.out.trans (Rs.bind_ok hm1 _))
    go_wp2_with (fail)
    have hno2 : listR z.T (⟨#[41]⟩ : ByteArray) 64 (paramR z.T) s1 ≠ .out := fun e => HO.out (E.out.trans (Rs.bind_out e _))
    go_at_call 130
    refine (listed_param (fun _ _ h1 _ => param_p h1) (prog_param hc.may) hc (⟨#[41]⟩ : ByteArray) (by decide) 64 (by decide) hno2).mono ?_
    rintro e wx hr
    cases hm2 : listR z.T (⟨#[41]⟩ : ByteArray) 64 (paramR z.T) s1 with
    | out => exact absurd hm2 hno2
    | bad p q => rw [hm2] at hr; obtain ⟨rfl, gx⟩ := hr; exact ⟨rfl, res_bad (E.out.trans (Rs.bind_bad hm2 _)) (G.trans gx)⟩
    | ok t2 s2 =>
      rw [hm2] at hr
      obtain ⟨v2, rfl, l2, hc, gx⟩ := hr
      have l2 := li_low l2 G.size hzb
      obtain ⟨A2, cap2, rfl⟩ := li_shape l2
      have G := G.trans gx
      have E := Lib.hid (E.out.trans (Rs.bind_ok hm2 _))
      have hlen := list_len hm2
      have ho2 := li_lt l2
      have gs := G.size
      go_wp2_with (fail)
      have hno3 : r .block s2 ≠ .out := fun e => HO.out (E.out.trans (Rs.bind_out e _))
      go_at_call 97
      refine (A.block hc hno3).mono ?_
      rintro e wx hr
      cases hm3 : r .block s2 with
      | out => exact absurd hm3 hno3
      | bad p q => rw [hm3] at hr; obtain ⟨rfl, gx⟩ := hr; exact ⟨rfl, res_bad (E.out.trans (Rs.bind_bad hm3 _)) (G.trans gx)⟩
      | ok t3 s3 =>
        rw [hm3] at hr
        obtain ⟨v3, rfl, p3, hc, gx⟩ := hr
        have q3 := p3
        have gq3 := gx.size
        have p3 := part_low p3 G.size
        obtain ⟨gv3, rfl⟩ := part_ptr p3
        have G := G.trans gx; have l2 := li_on l2 gx
        have E := Lib.hid (E.out.trans (Rs.bind_ok hm3 _))
        go_wp2_with (first
          | (at_builtin; refine li_app rfl _ _ rfl l2 q3 (fun j hj => (ho2 j hj).2) gs rfl (by simp [Act.eval]) (by first | omega | (simp; done)) ?_; intro v' wa la g4; have hc := at_own h hc g4 (fun j hj => (ho2 j hj).1) G.size; have G := grown_own G g4 (fun j hj => (ho2 j hj).1); generalize hlz : t2 ++ [t3] = lz at la; obtain ⟨Az, capz, rfl⟩ := li_shape la)
          | (go_at_call 50; refine (part_list hc k _ n la (by simp)).mono ?_; rintro e wx ⟨xv, rfl, px, hc, gx⟩; have G := G.trans gx; obtain ⟨gp, rfl⟩ := part_ptr px))
        subst hlz
        go_ret
        exact res_ok E.out px hc G
end Go.Proofs.YtablckajobefeaaGreatDoor.S
