/-
  Keys: what post wants of them. Generated: gen_postkey.py.
-/
import Derived.Test.YtkmgdaagannhkaaPT06
import Derived.Deep.QuietTactic
import Derived.Deep.RegionHeld3
import Derived.Deep.LoopGhost
import Derived.Test.YtkmgdaagannhkaaPT04
namespace Go.Proofs.Ytkmgdaagannhkaa.S
open Go.RowKit Fl

structure Ky where
  str : ByteArray
  sym : Int
def KyIn (k : Ky) : Prop := k.str.size ≤ maxLen ∧ -2 ^ 63 ≤ k.sym ∧ k.sym < 2 ^ 63
def RK (w : World) (A : Option Addr) (L : List Ky) : Prop := 0 < L.length → ∃ a, A = some a ∧ a.block < w.heap.size ∧ ∀ i (h : i < L.length), w.cell? (a.add (i * 2)) = some (.string L[i].str) ∧ w.cell? ⟨(a.add (i * 2)).block, (a.add (i * 2)).off + 1, none⟩ = some (.int .i64 L[i].sym)
theorem rk_up {w wr : World} {A : Option Addr} {L : List Ky} (h : RK w A L) (hb : Below w.heap.size w wr) : RK wr A L := fun hp => by
  obtain ⟨a, h1, h2, h3⟩ := h hp
  have ha : ∀ k, (a.add k).block = a.block := fun k => by unfold Addr.add; split <;> rfl
  refine ⟨a, h1, Nat.lt_of_lt_of_le h2 hb.size, fun i hi => ⟨?_, ?_⟩⟩
  · rw [hb.cell (by rw [ha]; exact h2)]; exact (h3 i hi).1
  · rw [hb.cell (by show (a.add (i * 2)).block < _; rw [ha]; exact h2)]; exact (h3 i hi).2
def kyCells (L : List Ky) : List Value := L.flatMap fun k => [.string k.str, .int .i64 k.sym]
theorem lt_blk {w : World} {g : Nat} {o : Obj} (hb : w.heap[g]? = some o) : g < w.heap.size := by
  rcases Nat.lt_or_ge g w.heap.size with c | c
  · exact c
  · rw [Array.getElem?_eq_none c] at hb; cases hb
theorem keysymbol_k (s : ByteArray) (y : Int) (w : World) : Calls Try.prog 65 #[.agg #[.string s, .int .i64 y]] w fun e w' => e = .returned (.bool (decide (0 < y))) ∧ Below w.heap.size w w' := by
  go_enter Try.func65, Try.ntmps65
  go_wp2
  go_ret
  exact ⟨rfl, vzero _ _⟩
theorem kc2 {w : World} {g : Nat} {t : TypeId} {c0 c1 : Value} (h : w.heap[g]? = some (.cells #[c0, c1] t (0, 0))) :
    w.cell? ⟨g, 0, none⟩ = some c0 ∧ w.cell? ⟨g, 1, none⟩ = some c1 ∧ ∀ i, w.frozen? ⟨g, i, none⟩ = false := ⟨vcells h 0, vcells h 1, vfz h⟩
theorem eq_strs (d : Nat) (s t : ByteArray) (W : World) : (Op.equalIn (d + 1) 9 (.string s) (.string t)).run Try.prog W = .ok (s == t) W := by
  simp [Op.equalIn, run_underlying Try.underlying9]
theorem eq_ints (d : Nat) (s t : Int) (W : World) : (Op.equalIn (d + 1) 3 (.int .i64 s) (.int .i64 t)).run Try.prog W = .ok (s == t) W := by
  simp [Op.equalIn, run_underlying Try.underlying3]
theorem part_0 (s : ByteArray) (m : Int) (W : World) : (part 9 #[.string s, .int .i64 m] 0).run Try.prog W = .ok (.string s) W := by
  simp [part, Try.isAgg9]
theorem part_1 (s : ByteArray) (m : Int) (W : World) : (part 3 #[.string s, .int .i64 m] 1).run Try.prog W = .ok (.int .i64 m) W := by
  simp [part, Try.isAgg3]
theorem key_eq (d : Nat) (s t : ByteArray) (m k : Int) (W : World) : (Op.equalIn (d + 2) 29 (.agg #[.string s, .int .i64 m]) (.agg #[.string t, .int .i64 k])).run Try.prog W = .ok ((s == t) && (m == k)) W := by
  have e1 := eq_strs d s t
  have e2 := eq_ints d m k
  have p0 := part_0
  have p1 := part_1
  generalize (s == t) = b1 at *
  generalize (m == k) = b2 at *
  unfold Op.equalIn
  simp [run_underlying Try.underlying29, e1, e2, p0, p1]
  cases b1 <;> cases b2 <;> simp
theorem str_beq {a b : ByteArray} (h : (a == b) = true) : a = b := by
  cases a; cases b
  exact congrArg ByteArray.mk (eq_of_beq h)
theorem str_same (a : ByteArray) : (a == a) = true := by
  cases a with
  | mk d => exact beq_self_eq_true d
theorem complete_h {x : Dq} (g : x.h ∈ allH) (h : x.h = 51 ∨ x.h = 60) : (completeQ x).h = x.h := by
  rw [complete_eq g]
  dsimp only
  rcases h with e | e <;> rw [e] <;> decide
def eqK (a b : Ky) : Bool := (a.str == b.str) && (a.sym == b.sym)
theorem eqK_iff {a b : Ky} : eqK a b = true ↔ a = b := by
  unfold eqK
  rw [Bool.and_eq_true]
  constructor
  · rintro ⟨h1, h2⟩
    cases a; cases b
    have := str_beq h1
    have := eq_of_beq h2
    simp_all
  · rintro rfl
    exact ⟨str_same _, beq_self_eq_true _⟩
def mayKy (k : Ky) : Prop := 0 ≤ k.sym ∧ k.str.size ≤ 4096 ∧ (0 < k.sym → k.str = ⟨#[]⟩)
theorem empty_is (s : ByteArray) : s = ⟨#[]⟩ ↔ s.toList.isEmpty = true := by
  rw [List.isEmpty_iff, toList_data]
  constructor
  · intro h; rw [h]
  · intro h; exact bytes_ext (by rw [h])
theorem keyCheck_bad (s : ByteArray) (y : Int) (w : World) (h : ¬ mayKy ⟨s, y⟩) : Calls Try.prog 52 #[.agg #[.string s, .int .i64 y]] w fun e w' => e = .returned (.int .i64 9) ∧ Below w.heap.size w w' := by
  have hS := fun w => keysymbol_k s y w
  by_cases c1 : y < 0
  · go_enter Try.func52, Try.ntmps52
    go_wp2_with (fail)
    go_ret
    exact ⟨rfl, vzero _ _⟩
  · by_cases c2 : 4096 < s.size
    · go_enter Try.func52, Try.ntmps52
      go_wp2_with (fail)
      go_ret
      exact ⟨rfl, vzero _ _⟩
    · have c3 : 0 < y ∧ s ≠ ⟨#[]⟩ := by
        refine Classical.byContradiction fun g => h ⟨by show 0 ≤ y; omega, by show s.size ≤ 4096; omega, fun hy => ?_⟩
        exact Classical.byContradiction fun g2 => g ⟨hy, g2⟩
      obtain ⟨c3, c4⟩ := c3
      have c5 : s.toList.isEmpty = false := by
        cases e : s.toList.isEmpty
        · rfl
        · exact absurd ((empty_is s).2 e) c4
      have hd : decide (0 < y) = true := by simp; exact c3
      rw [hd] at hS
      clear h c4 hd
      go_enter Try.func52, Try.ntmps52
      go_wp2_with (go_at_call 65; refine (hS _).mono ?_; rintro e w1 ⟨rfl, h1⟩; have hb1 := vblk1 h1; have hz1 := vlt1 h1; obtain ⟨hc0, hc1, hfr⟩ := kc2 hb1; clear hb1; have H1 := Lib.hid (vafter h1); clear h1)
      go_ret
      exact ⟨rfl, H1.out⟩
theorem keyCheck_ok (s : ByteArray) (y : Int) (w : World) (h : mayKy ⟨s, y⟩) : Calls Try.prog 52 #[.agg #[.string s, .int .i64 y]] w fun e w' => e = .returned (.int .i64 0) ∧ Below w.heap.size w w' := by
  have hS := fun w => keysymbol_k s y w
  obtain ⟨c1, c2, c3⟩ := h
  have c1 : ¬ y < 0 := by have : 0 ≤ y := c1; omega
  have c2 : ¬ 4096 < s.size := by have : s.size ≤ 4096 := c2; omega
  have c3 : 0 < y → s = ⟨#[]⟩ := c3
  by_cases d : 0 < y
  · have hs := c3 d
    subst hs
    have hd : decide (0 < y) = true := by simp; exact d
    rw [hd] at hS
    clear c3 hd c2
    go_enter Try.func52, Try.ntmps52
    go_wp2_with (go_at_call 65; refine (hS _).mono ?_; rintro e w1 ⟨rfl, h1⟩; have hb1 := vblk1 h1; have hz1 := vlt1 h1; obtain ⟨hc0, hc1, hfr⟩ := kc2 hb1; clear hb1; have H1 := Lib.hid (vafter h1); clear h1)
    go_ret
    exact ⟨rfl, H1.out⟩
  · have hd : decide (0 < y) = false := by simp; omega
    rw [hd] at hS
    clear c3 hd
    go_enter Try.func52, Try.ntmps52
    go_wp2_with (go_at_call 65; refine (hS _).mono ?_; rintro e w1 ⟨rfl, h1⟩; have hb1 := vblk1 h1; have hz1 := vlt1 h1; obtain ⟨hc0, hc1, hfr⟩ := kc2 hb1; clear hb1; have H1 := Lib.hid (vafter h1); clear h1)
    go_ret
    exact ⟨rfl, H1.out⟩
instance : Inhabited Ky := ⟨⟨⟨#[]⟩, 0⟩⟩
theorem ksz : (Try.prog.info? 29).map (·.size) = some 2 := by kernel_rfl
theorem add_blk (a : Addr) (k : Nat) : (a.add k).block = a.block := by unfold Addr.add; split <;> rfl
def objQ (v : Vq) : Bool := v.k == 6 || (v.k == 7 || v.k == 8)
theorem IsObject_q (v : Vq) (h : 0 ≤ v.k) (w : World) : Calls Try.prog 24 #[.agg #[.int .u8 v.k, .float .f64 v.x, .string v.s, .int .i64 v.r]] w fun e w' => e = .returned (.bool (objQ v)) ∧ Below w.heap.size w w' := by
  obtain ⟨k, x, s, r⟩ := v
  obtain ⟨n, rfl⟩ := Int.eq_ofNat_of_zero_le h
  have := IsObject_v n x s r w
  unfold objQ
  unfold objB at this
  dsimp only at this ⊢
  refine this.mono fun e w' ⟨he, hb⟩ => ⟨he.trans ?_, hb⟩
  have k6 : ((n : Int) == 6) = (n == 6) := kd_eq n 6
  have k7 : ((n : Int) == 7) = (n == 7) := kd_eq n 7
  have k8 : ((n : Int) == 8) = (n == 8) := kd_eq n 8
  rw [k6, k7, k8, Bool.or_assoc]
structure Ak where
  m : Int
  n : Int
  k : Ky
  d : Dq
  v : Vq
  rv : Vq
  aa : Option Addr
  an : Nat
  ac : Nat
def akl (a : Ak) : List Value := [.int .u8 a.m, .int .i64 a.n, .string a.k.str, .int .i64 a.k.sym, .int .u8 a.d.h, .int .u8 a.d.a.k, .float .f64 a.d.a.x, .string a.d.a.s, .int .i64 a.d.a.r, .int .u8 a.d.b.k, .float .f64 a.d.b.x, .string a.d.b.s, .int .i64 a.d.b.r, .int .u8 a.d.c.k, .float .f64 a.d.c.x, .string a.d.c.s, .int .i64 a.d.c.r, .bool a.d.p, .bool a.d.q, .bool a.d.z,
  .int .u8 a.v.k, .float .f64 a.v.x, .string a.v.s, .int .i64 a.v.r, .int .u8 a.rv.k, .float .f64 a.rv.x, .string a.rv.s, .int .i64 a.rv.r, .slice a.aa a.an a.ac]
def akA (a : Ak) : Array Value := (akl a).toArray
theorem ask_sz : (Try.prog.info? 39).map (·.size) = some 29 := by kernel_rfl
theorem akA_one (a : Ak) : (akA a).all (·.oneCell') = true := cells_one (l := akl a) rfl
structure Oq where
  kind : Int
  v : Vq
  b : Bool
  found : Bool
  d : Dq
  ka : Option Addr
  kn : Nat
  kc : Nat
  err : Int
  text : ByteArray
def oql (o : Oq) : List Value := [.int .u8 o.kind, .int .u8 o.v.k, .float .f64 o.v.x, .string o.v.s, .int .i64 o.v.r, .bool o.b, .bool o.found, .int .u8 o.d.h, .int .u8 o.d.a.k, .float .f64 o.d.a.x, .string o.d.a.s, .int .i64 o.d.a.r, .int .u8 o.d.b.k, .float .f64 o.d.b.x, .string o.d.b.s, .int .i64 o.d.b.r, .int .u8 o.d.c.k, .float .f64 o.d.c.x, .string o.d.c.s, .int .i64 o.d.c.r, .bool o.d.p, .bool o.d.q, .bool o.d.z,
  .slice o.ka o.kn o.kc, .int .u8 o.err, .string o.text]
def oqA (o : Oq) : Array Value := (oql o).toArray
theorem out_sz : (Try.prog.info? 33).map (·.size) = some 26 := by kernel_rfl
theorem oqA_one (o : Oq) : (oqA o).all (·.oneCell') = true := cells_one (l := oql o) rfl
theorem oq_info (o : Oq) : (Try.prog.info? 33).map (·.size) = some (oqA o).size := out_sz
def yesO (b : Bool) : Oq := ⟨1, v0, b, false, dz 0, none, 0, 0, 0, ⟨#[]⟩⟩
theorem oq_end {f : Func} {i : Nat} {t : TypeId} {Q : Ending → World → Prop} {tmps : Array Value} {W : World} {g : Nat} {o : Oq} (hf : f.results = #[.cell i 33]) (h2 : tmps.getD i undef = .pointer (some ⟨g, 0, none⟩)) (hb : W.heap[g]? = some (.cells (oqA o) t (0, 0)))
    (hQ : Q (.returned (.agg (oqA o))) W) : bodyPost Try.prog f Q .ret { tmps := tmps, defers := [] } W :=
  bodyPost_ret (results_cell_row hf tmps W g t _ (0, 0) _ h2 hb Try.underlying33 rfl out_sz) rfl hQ
abbrev oz26 : Array Value := #[.int .u8 0, .int .u8 0, .float .f64 0, .string ⟨#[]⟩, .int .i64 0, .bool false, .bool false, .int .u8 0, .int .u8 0, .float .f64 0, .string ⟨#[]⟩, .int .i64 0, .int .u8 0, .float .f64 0, .string ⟨#[]⟩, .int .i64 0, .int .u8 0, .float .f64 0, .string ⟨#[]⟩, .int .i64 0, .bool false, .bool false, .bool false, .slice none 0 0, .int .u8 0, .string ⟨#[]⟩]
structure Ak.In (a : Ak) : Prop where
  k : KyIn a.k
  d : a.d.In
  v : a.v.In
def foundO (f : Bool) (d : Dq) : Oq := ⟨1, v0, false, f, d, none, 0, 0, 0, ⟨#[]⟩⟩
section
variable {ops : Array Oper} {rest : List Oper} {o : Oper} {a : Act} {w : World} {Q : Exit → Act → World → Prop} {x y : Operand} {g i : Nat} {t : TypeId}
theorem run_loadVar_at {A : Addr} {ty : TypeId} {cs : List Value} {d : TypeDesc} (hc : ∀ j v, cs[j]? = some v → w.cell? (A.add j) = some v) (hu : Try.prog.underlying ty = some d) (hd : d.isRow = true) (hi : (Try.prog.info? ty).map (·.size) = some cs.length) :
    (loadVar ty A).run Try.prog w = .ok (.agg cs.toArray) w := by
  have hl : (loadCells A cs.length).run Try.prog w = .ok cs.toArray w := run_loadCells_list (P := Try.prog) w A cs hc
  cases hq : Try.prog.info? ty with
  | none => simp [hq] at hi
  | some i =>
    have hs : i.size = cs.length := by simpa [hq] using hi
    have hagg : (isAgg ty).run Try.prog w = .ok true w := by
      unfold isAgg
      rw [Sem.run_bind, run_underlying hu w]
      cases d <;> simp_all
    simp [loadVar, Sem.run_bind, hagg, sizeOf, typeInfo, hq, hs, hl]
theorem run_loadAt_at {A : Addr} {ty : TypeId} {cs : List Value} {d : TypeDesc} (hc : ∀ j v, cs[j]? = some v → w.cell? (A.add j) = some v) (hu : Try.prog.underlying ty = some d) (hd : d.isRow = true) (hi : (Try.prog.info? ty).map (·.size) = some cs.length) :
    (Instr.loadAt ty (.pointer (some A))).run Try.prog w = .ok (.agg cs.toArray) w := by
  simp only [Instr.loadAt, Instr.sureAddr, Sem.run_bind, Sem.run_pure, Result.andThen_ok, run_loadVar_at hc hu hd hi]
theorem wp_load_at {K : Act → World → Prop} {A : Addr} {ty : TypeId} {cs : List Value} {d : TypeDesc} (ho : o.op = .load ty x) (hx : a.eval x = .pointer (some A)) (hc : ∀ j v, cs[j]? = some v → w.cell? (A.add j) = some v)
    (hu : Try.prog.underlying ty = some d) (hd : d.isRow = true) (hi : (Try.prog.info? ty).map (·.size) = some cs.length) (h : K (a.put o.dst (.agg cs.toArray)) w) : o.wp Try.prog a w K Q := by
  unfold Oper.wp execOp
  simp only [ho, hx, run_loadAt_at hc hu hd hi, Sem.run_bind, Sem.run_pure, Result.andThen_ok]
  exact h
theorem dq_load {d : Dq} (hw : Region.wanted o (yielded ops a.tmps) = true) (ho : o.op = .load 27 x) (hx : a.eval x = .pointer (some ⟨g, 0, none⟩)) (hg : w.heap[g]? = some (.cells d.cells t (0, 0)))
    (h : wpList Try.prog ops Q rest (a.put o.dst (.agg d.cells)) w) : wpList Try.prog ops Q (o :: rest) a w :=
  wpList_wanted hw fun _ hK => wp_load_row 27 x ho g hx t _ (0, 0) _ hg Try.underlying27 rfl dsz (hK _ _ h)
theorem t_store {ty : TypeId} {cs old : Array Value} {B : Nat} {w0 : World} (hgd : o.guard = none) (ho : o.op = .store ty x y) (hx : a.eval x = .pointer (some ⟨g, 0, none⟩)) (hy : a.eval y = .agg cs) (hg : w.heap[g]? = some (.cells old t (0, 0))) (hi : (Try.prog.info? ty).map (·.size) = some cs.size) (hold : old.size = cs.size)
    (h1 : cs.all (·.oneCell') = true) (hB : Below B w0 w) (hBg : B ≤ g)
    (h : ∀ W : World, Below B w0 W → W.heap[g]? = some (.cells cs t (0, 0)) → (∀ j, j ≠ g → W.heap[j]? = w.heap[j]?) → W.heap.size = w.heap.size → wpList Try.prog ops Q rest (a.put o.dst undef) W) : wpList Try.prog ops Q (o :: rest) a w :=
  wpList_store_row hgd ty x y ho g cs hx hy t old hg hi hold h1 (h _ (below_row hB hBg cs) (setRow_heap _ _ _ _ _ _ hg) (fun j hj => setRow_other w g j cs hj) (by simp [World.setRow]))
theorem kk_load {ops : Array Oper} {rest : List Oper} {o : Oper} {a : Act} {w : World} {Q : Exit → Act → World → Prop} {x : Operand} {g : Nat} {k : Ky} (hw : Region.wanted o (yielded ops a.tmps) = true) (ho : o.op = .load 29 x) (hx : a.eval x = .pointer (some ⟨g, 0, none⟩)) (hg : w.heap[g]? = some (.cells #[.string k.str, .int .i64 k.sym] 29 (0, 0)))
    (h : wpList Try.prog ops Q rest (a.put o.dst (.agg #[.string k.str, .int .i64 k.sym])) w) : wpList Try.prog ops Q (o :: rest) a w :=
  wpList_wanted hw fun _ hK => wp_load_row 29 x ho g hx 29 _ (0, 0) _ hg Try.underlying29 rfl ksz (hK _ _ h)
theorem k2_at {W : World} {A : Addr} {s : ByteArray} {y : Int} (h0 : W.cell? A = some (.string s)) (h1 : W.cell? ⟨A.block, A.off + 1, none⟩ = some (.int .i64 y)) : (Instr.loadAt 29 (.pointer (some A))).run Try.prog W = .ok (.agg #[.string s, .int .i64 y]) W :=
  run_loadAt_at (cs := [.string s, .int .i64 y]) (fun j v hv => by
    match j, hv with
    | 0, hv => cases hv; exact h0
    | 1, hv => cases hv; exact h1
    | n + 2, hv => cases hv) Try.underlying29 rfl ksz
theorem ex_load_at {a : Act} {o : Oper} {w : World} {x : Operand} {ty : TypeId} {A : Addr} {v : Value} (h : (Instr.loadAt ty (.pointer (some A))).run Try.prog w = .ok v w) (ho : o.op = .load ty x) (hx : a.eval x = .pointer (some A)) : (execOp a.eval o).run Try.prog w = .ok (.value v) w := by
  unfold execOp
  simp only [ho, hx, h, Sem.run_bind, Sem.run_pure, Result.andThen_ok]
end
end Go.Proofs.Ytkmgdaagannhkaa.S
/-
  post.Name, post.Method, and the document's own: traps have their names.
-/
namespace Go.Proofs.Ytkmgdaagannhkaa.S
open Go.RowKit Go.Lib Fl

def namesB : List ByteArray := [⟨#[]⟩, (⟨#[103, 101, 116, 80, 114, 111, 116, 111, 116, 121, 112, 101, 79, 102]⟩ : ByteArray), (⟨#[115, 101, 116, 80, 114, 111, 116, 111, 116, 121, 112, 101, 79, 102]⟩ : ByteArray), (⟨#[105, 115, 69, 120, 116, 101, 110, 115, 105, 98, 108, 101]⟩ : ByteArray), (⟨#[112, 114, 101, 118, 101, 110, 116, 69, 120, 116, 101, 110, 115, 105, 111, 110, 115]⟩ : ByteArray), (⟨#[103, 101, 116, 79, 119, 110, 80, 114, 111, 112, 101, 114, 116, 121, 68, 101, 115, 99, 114, 105, 112, 116, 111, 114]⟩ : ByteArray), (⟨#[100, 101, 102, 105, 110, 101, 80, 114, 111, 112, 101, 114, 116, 121]⟩ : ByteArray), (⟨#[104, 97, 115]⟩ : ByteArray), (⟨#[103, 101, 116]⟩ : ByteArray), (⟨#[115, 101, 116]⟩ : ByteArray), (⟨#[100, 101, 108, 101, 116, 101, 80, 114, 111, 112, 101, 114, 116, 121]⟩ : ByteArray), (⟨#[111, 119, 110, 75, 101, 121, 115]⟩ : ByteArray), (⟨#[97, 112, 112, 108, 121]⟩ : ByteArray), (⟨#[99, 111, 110, 115, 116, 114, 117, 99, 116]⟩ : ByteArray)]
def nameB (m : Nat) : ByteArray := namesB[m]?.getD ⟨#[]⟩
def nameA : Array Value := (namesB.map Value.string).toArray
section
variable {ops : Array Oper} {rest : List Oper} {o : Oper} {a : Act} {w : World} {Q : Exit → Act → World → Prop} {x y : Operand} {g : Nat} {t : TypeId}
theorem w_val {v : Value} (hw : Region.wanted o (yielded ops a.tmps) = true) (he : (execOp a.eval o).run Try.prog w = .ok (.value v) w) (h : wpList Try.prog ops Q rest (a.put o.dst v) w) : wpList Try.prog ops Q (o :: rest) a w :=
  wpList_wanted hw fun K hK => by
    unfold Oper.wp
    rw [he]
    exact hK _ _ h
end
def methR (s : ByteArray) : Nat → Nat → Nat × Bool
  | 0, _ => (0, false)
  | n + 1, k => if nameB k = s then (k, true) else methR s n (k + 1)

end Go.Proofs.Ytkmgdaagannhkaa.S
/-
  post: a claim in memory: what is loaded out of it.
-/
namespace Go.Proofs.Ytkmgdaagannhkaa.S
open Go.RowKit Go.Lib Fl

/-- the facts -/
structure Fq where
  ext : Bool
  proto : Vq
  found : Bool
  d : Dq
  ka : Option Addr
  kn : Nat
  kc : Nat
  oa : Option Addr
  on : Nat
  oc : Nat
def fql (f : Fq) : List Value := [.bool f.ext, .int .u8 f.proto.k, .float .f64 f.proto.x, .string f.proto.s, .int .i64 f.proto.r, .bool f.found, .int .u8 f.d.h, .int .u8 f.d.a.k, .float .f64 f.d.a.x, .string f.d.a.s, .int .i64 f.d.a.r, .int .u8 f.d.b.k, .float .f64 f.d.b.x, .string f.d.b.s, .int .i64 f.d.b.r, .int .u8 f.d.c.k, .float .f64 f.d.c.x, .string f.d.c.s, .int .i64 f.d.c.r, .bool f.d.p, .bool f.d.q, .bool f.d.z, .slice f.ka f.kn f.kc, .slice f.oa f.on f.oc]
abbrev fqA (f : Fq) : Array Value := (fql f).toArray
theorem fq_sz : (Try.prog.info? 43).map (·.size) = some 24 := by kernel_rfl
theorem fqA_one (f : Fq) : (fqA f).all (·.oneCell') = true := cells_one (l := fql f) rfl
/-- a claim -/
def cll (a : Ak) (q : Oq) (f : Fq) : List Value := akl a ++ oql q ++ fql f
abbrev clA (a : Ak) (q : Oq) (f : Fq) : Array Value := (cll a q f).toArray
theorem cl_sz : (Try.prog.info? 59).map (·.size) = some 79 := by kernel_rfl
theorem clA_one (a : Ak) (q : Oq) (f : Fq) : (clA a q f).all (·.oneCell') = true := cells_one (l := cll a q f) rfl
theorem sub_of {all cs : List Value} {i : Nat} (h : (all.drop i).take cs.length = cs) : ∀ j v, cs[j]? = some v → all[i + j]? = some v := fun j v hv => by
  rw [← h] at hv
  rw [List.getElem?_take] at hv
  split at hv
  · rwa [List.getElem?_drop] at hv
  · cases hv
section
variable {ops : Array Oper} {rest : List Oper} {o : Oper} {a : Act} {w : World} {Q : Exit → Act → World → Prop} {x y : Operand} {g i : Nat} {t : TypeId} {all : List Value}
/-- a part of a row, loaded -/
theorem sub_load {ty : TypeId} {cs : List Value} {d : TypeDesc} (hw : Region.wanted o (yielded ops a.tmps) = true) (ho : o.op = .load ty x) (hx : a.eval x = .pointer (some ⟨g, i, none⟩)) (hg : w.heap[g]? = some (.cells all.toArray t (0, 0)))
    (hs : (all.drop i).take cs.length = cs) (hu : Try.prog.underlying ty = some d) (hd : d.isRow = true) (hi : (Try.prog.info? ty).map (·.size) = some cs.length) (h : wpList Try.prog ops Q rest (a.put o.dst (.agg cs.toArray)) w) : wpList Try.prog ops Q (o :: rest) a w :=
  wpList_wanted hw fun _ hK => wp_load_at (cs := cs) ho hx (fun j v hv => by
    rw [Addr.add_mid, vcells hg (i + j), List.getElem?_toArray]
    exact sub_of hs j v hv) hu hd hi (hK _ _ h)
theorem cv_ld {v : Vq} (hw : Region.wanted o (yielded ops a.tmps) = true) (ho : o.op = .load 24 x) (hx : a.eval x = .pointer (some ⟨g, i, none⟩)) (hg : w.heap[g]? = some (.cells all.toArray t (0, 0)))
    (hs : (all.drop i).take 4 = [.int .u8 v.k, .float .f64 v.x, .string v.s, .int .i64 v.r]) (h : wpList Try.prog ops Q rest (a.put o.dst (.agg #[.int .u8 v.k, .float .f64 v.x, .string v.s, .int .i64 v.r])) w) : wpList Try.prog ops Q (o :: rest) a w :=
  sub_load (cs := [.int .u8 v.k, .float .f64 v.x, .string v.s, .int .i64 v.r]) hw ho hx hg hs Try.underlying24 rfl vsz h
theorem cd_ld {d : Dq} (hw : Region.wanted o (yielded ops a.tmps) = true) (ho : o.op = .load 27 x) (hx : a.eval x = .pointer (some ⟨g, i, none⟩)) (hg : w.heap[g]? = some (.cells all.toArray t (0, 0)))
    (hs : (all.drop i).take 16 = d.cells.toList) (h : wpList Try.prog ops Q rest (a.put o.dst (.agg d.cells)) w) : wpList Try.prog ops Q (o :: rest) a w :=
  sub_load (cs := d.cells.toList) hw ho hx hg hs Try.underlying27 rfl dsz h
theorem co_ld {q : Oq} (hw : Region.wanted o (yielded ops a.tmps) = true) (ho : o.op = .load 33 x) (hx : a.eval x = .pointer (some ⟨g, i, none⟩)) (hg : w.heap[g]? = some (.cells all.toArray t (0, 0)))
    (hs : (all.drop i).take 26 = oql q) (h : wpList Try.prog ops Q rest (a.put o.dst (.agg (oqA q))) w) : wpList Try.prog ops Q (o :: rest) a w :=
  sub_load (cs := oql q) hw ho hx hg hs Try.underlying33 rfl out_sz h
theorem cf_ld {f : Fq} (hw : Region.wanted o (yielded ops a.tmps) = true) (ho : o.op = .load 43 x) (hx : a.eval x = .pointer (some ⟨g, i, none⟩)) (hg : w.heap[g]? = some (.cells all.toArray t (0, 0)))
    (hs : (all.drop i).take 24 = fql f) (h : wpList Try.prog ops Q rest (a.put o.dst (.agg (fqA f))) w) : wpList Try.prog ops Q (o :: rest) a w :=
  sub_load (cs := fql f) hw ho hx hg hs Try.underlying43 rfl fq_sz h
theorem ca_ld {k : Ak} (hw : Region.wanted o (yielded ops a.tmps) = true) (ho : o.op = .load 39 x) (hx : a.eval x = .pointer (some ⟨g, i, none⟩)) (hg : w.heap[g]? = some (.cells all.toArray t (0, 0)))
    (hs : (all.drop i).take 29 = akl k) (h : wpList Try.prog ops Q rest (a.put o.dst (.agg (akA k))) w) : wpList Try.prog ops Q (o :: rest) a w :=
  sub_load (cs := akl k) hw ho hx hg hs Try.underlying39 rfl ask_sz h
theorem cc_ld {k : Ak} {q : Oq} {f : Fq} (hw : Region.wanted o (yielded ops a.tmps) = true) (ho : o.op = .load 59 x) (hx : a.eval x = .pointer (some ⟨g, 0, none⟩)) (hg : w.heap[g]? = some (.cells (clA k q f) t (0, 0)))
    (h : wpList Try.prog ops Q rest (a.put o.dst (.agg (clA k q f))) w) : wpList Try.prog ops Q (o :: rest) a w :=
  sub_load (all := cll k q f) (cs := cll k q f) hw ho hx hg rfl Try.underlying59 rfl cl_sz h
theorem n_u8 {W : World} {n : Nat} {b : Int} (h : W.cell? ⟨g, n, none⟩ = some (.int .u8 b)) : (Instr.loadAt 5 (.pointer (some ⟨g, n, none⟩))).run Try.prog W = .ok (.int .u8 b) W := by simp [go_sem, h]
theorem n_bl {W : World} {n : Nat} {b : Bool} (h : W.cell? ⟨g, n, none⟩ = some (.bool b)) : (Instr.loadAt 4 (.pointer (some ⟨g, n, none⟩))).run Try.prog W = .ok (.bool b) W := by simp [go_sem, h]
theorem n_ks {W : World} {n : Nat} {A : Option Addr} {l c : Nat} (h : W.cell? ⟨g, n, none⟩ = some (.slice A l c)) : (Instr.loadAt 31 (.pointer (some ⟨g, n, none⟩))).run Try.prog W = .ok (.slice A l c) W := by simp [go_sem, h]
theorem n_ds {W : World} {n : Nat} {A : Option Addr} {l c : Nat} (h : W.cell? ⟨g, n, none⟩ = some (.slice A l c)) : (Instr.loadAt 41 (.pointer (some ⟨g, n, none⟩))).run Try.prog W = .ok (.slice A l c) W := by simp [go_sem, h]
theorem x_load {ty : TypeId} {v : Value} (ho : o.op = .load ty x) (hx : a.eval x = .pointer (some ⟨g, i, none⟩)) (hr : (Instr.loadAt ty (.pointer (some ⟨g, i, none⟩))).run Try.prog w = .ok v w) : (execOp a.eval o).run Try.prog w = .ok (.value v) w := by
  unfold execOp
  simp only [ho, hx, hr, Sem.run_bind, Sem.run_pure, Result.andThen_ok]
theorem lb_ld {b : Bool} (hw : Region.wanted o (yielded ops a.tmps) = true) (ho : o.op = .load 4 x) (hx : a.eval x = .pointer (some ⟨g, i, none⟩)) (hg : w.heap[g]? = some (.cells all.toArray t (0, 0)))
    (hs : all[i]? = some (.bool b)) (h : wpList Try.prog ops Q rest (a.put o.dst (.bool b)) w) : wpList Try.prog ops Q (o :: rest) a w :=
  w_val hw (x_load ho hx (n_bl (by rw [vcells hg i, List.getElem?_toArray]; exact hs))) h
theorem lu_ld {b : Int} (hw : Region.wanted o (yielded ops a.tmps) = true) (ho : o.op = .load 5 x) (hx : a.eval x = .pointer (some ⟨g, i, none⟩)) (hg : w.heap[g]? = some (.cells all.toArray t (0, 0)))
    (hs : all[i]? = some (.int .u8 b)) (h : wpList Try.prog ops Q rest (a.put o.dst (.int .u8 b)) w) : wpList Try.prog ops Q (o :: rest) a w :=
  w_val hw (x_load ho hx (n_u8 (by rw [vcells hg i, List.getElem?_toArray]; exact hs))) h
theorem lk_ld {A : Option Addr} {l c : Nat} (hw : Region.wanted o (yielded ops a.tmps) = true) (ho : o.op = .load 31 x) (hx : a.eval x = .pointer (some ⟨g, i, none⟩)) (hg : w.heap[g]? = some (.cells all.toArray t (0, 0)))
    (hs : all[i]? = some (.slice A l c)) (h : wpList Try.prog ops Q rest (a.put o.dst (.slice A l c)) w) : wpList Try.prog ops Q (o :: rest) a w :=
  w_val hw (x_load ho hx (n_ks (by rw [vcells hg i, List.getElem?_toArray]; exact hs))) h
theorem ld_ld {A : Option Addr} {l c : Nat} (hw : Region.wanted o (yielded ops a.tmps) = true) (ho : o.op = .load 41 x) (hx : a.eval x = .pointer (some ⟨g, i, none⟩)) (hg : w.heap[g]? = some (.cells all.toArray t (0, 0)))
    (hs : all[i]? = some (.slice A l c)) (h : wpList Try.prog ops Q rest (a.put o.dst (.slice A l c)) w) : wpList Try.prog ops Q (o :: rest) a w :=
  w_val hw (x_load ho hx (n_ds (by rw [vcells hg i, List.getElem?_toArray]; exact hs))) h
theorem lb_l2 (hw : Region.wanted o (yielded ops a.tmps) = true) (ho : o.op = .load 4 x) (hx : a.eval x = .pointer (some ⟨g, i, none⟩)) (hg : w.heap[g]? = some (.cells all.toArray t (0, 0)))
    (h : ∃ b, all[i]? = some (.bool b) ∧ wpList Try.prog ops Q rest (a.put o.dst (.bool b)) w) : wpList Try.prog ops Q (o :: rest) a w := by
  obtain ⟨b, hs, h⟩ := h
  exact lb_ld hw ho hx hg hs h
theorem lu_l2 (hw : Region.wanted o (yielded ops a.tmps) = true) (ho : o.op = .load 5 x) (hx : a.eval x = .pointer (some ⟨g, i, none⟩)) (hg : w.heap[g]? = some (.cells all.toArray t (0, 0)))
    (h : ∃ b, all[i]? = some (.int .u8 b) ∧ wpList Try.prog ops Q rest (a.put o.dst (.int .u8 b)) w) : wpList Try.prog ops Q (o :: rest) a w := by
  obtain ⟨b, hs, h⟩ := h
  exact lu_ld hw ho hx hg hs h
theorem lb_d2 {d : Dq} (hw : Region.wanted o (yielded ops a.tmps) = true) (ho : o.op = .load 4 x) (hx : a.eval x = .pointer (some ⟨g, i, none⟩)) (hg : w.heap[g]? = some (.cells d.cells t (0, 0)))
    (h : ∃ b, d.cells.toList[i]? = some (.bool b) ∧ wpList Try.prog ops Q rest (a.put o.dst (.bool b)) w) : wpList Try.prog ops Q (o :: rest) a w := by
  obtain ⟨b, hs, h⟩ := h
  exact lb_ld (all := d.cells.toList) hw ho hx hg hs h
theorem lu_d2 {d : Dq} (hw : Region.wanted o (yielded ops a.tmps) = true) (ho : o.op = .load 5 x) (hx : a.eval x = .pointer (some ⟨g, i, none⟩)) (hg : w.heap[g]? = some (.cells d.cells t (0, 0)))
    (h : ∃ b, d.cells.toList[i]? = some (.int .u8 b) ∧ wpList Try.prog ops Q rest (a.put o.dst (.int .u8 b)) w) : wpList Try.prog ops Q (o :: rest) a w := by
  obtain ⟨b, hs, h⟩ := h
  exact lu_ld (all := d.cells.toList) hw ho hx hg hs h
theorem dv_l2 {d : Dq} {v : Vq} (hw : Region.wanted o (yielded ops a.tmps) = true) (ho : o.op = .load 24 x) (hx : a.eval x = .pointer (some ⟨g, i, none⟩)) (hg : w.heap[g]? = some (.cells d.cells t (0, 0)))
    (hs : (d.cells.toList.drop i).take 4 = [.int .u8 v.k, .float .f64 v.x, .string v.s, .int .i64 v.r]) (h : wpList Try.prog ops Q rest (a.put o.dst (.agg #[.int .u8 v.k, .float .f64 v.x, .string v.s, .int .i64 v.r])) w) : wpList Try.prog ops Q (o :: rest) a w :=
  cv_ld (all := d.cells.toList) hw ho hx hg hs h
end
/-- the one block of a call's own, with what lies in it -/
structure Ow (w : World) (c : Array Value) (ty : TypeId) (W : World) : Prop where
  below : Below w.heap.size w W
  c : W.heap[w.heap.size]? = some (.cells c ty (0, 0))
theorem Ow.up {w : World} {c : Array Value} {ty : TypeId} {W W' : World} (h : Ow w c ty W) (hb : Below W.heap.size W W') : Ow w c ty W' := ⟨vb h.below hb, vblkn hb h.c⟩
theorem ow_start (w : World) (c : Array Value) (ty : TypeId) : Ow w c ty (w.alloc (.cells c ty)) := ⟨vzero _ _, heap_alloc_new w _⟩
end Go.Proofs.Ytkmgdaagannhkaa.S
/-
  post: its small functions.
-/
namespace Go.Proofs.Ytkmgdaagannhkaa.S
open Go.RowKit Go.Lib Fl
open Classical

theorem mayv {v : Vq} (hv : v.In) (W : World) : Calls Try.prog 47 #[.agg #[.int .u8 v.k, .float .f64 v.x, .string v.s, .int .i64 v.r]] W fun e w' => e = .returned (.bool v.may) ∧ Below W.heap.size W w' := may_i hv W
theorem samev {a b : Vq} (h : 0 ≤ a.k ∧ a.k ≤ 8) (h' : 0 ≤ b.k) (W : World) : Calls Try.prog 18 #[.agg #[.int .u8 a.k, .float .f64 a.x, .string a.s, .int .i64 a.r], .agg #[.int .u8 b.k, .float .f64 b.x, .string b.s, .int .i64 b.r]] W fun e w' => e = .returned (.bool (sameQ a b)) ∧ Below W.heap.size W w' := same_i h h' W
noncomputable def whatE (v : Vq) : Int := bif v.may then 0 else 9
set_option maxHeartbeats 4000000 in
set_option maxRecDepth 1000000 in
theorem what_p {v : Vq} (hv : v.In) (w : World) : Calls Try.prog 28 #[.agg #[.int .u8 v.k, .float .f64 v.x, .string v.s, .int .i64 v.r]] w fun e w' => e = .returned (.int .i64 (whatE v)) ∧ Below w.heap.size w w' := by
  have HS := Lib.hid (ow_start w (#[.int .u8 v.k, .float .f64 v.x, .string v.s, .int .i64 v.r]) 24)
  have cM := fun W => mayv hv W
  unfold whatE
  generalize v.may = b at *
  cases b
  · go_enter Try.func28, Try.ntmps28
    go_wp2_with (first
      | ((with_reducible refine cv_ld (v := v) ?_ rfl rfl HS.out.c ?_ ?_); (rfl); (rfl))
      | (go_at_call 47; (with_reducible refine (cM _).mono ?_); rintro e w1 ⟨rfl, h9⟩; have HS := Lib.hid (HS.out.up h9); clear h9))
    go_ret
    exact ⟨rfl, HS.out.below⟩
  · go_enter Try.func28, Try.ntmps28
    go_wp2_with (first
      | ((with_reducible refine cv_ld (v := v) ?_ rfl rfl HS.out.c ?_ ?_); (rfl); (rfl))
      | (go_at_call 47; (with_reducible refine (cM _).mono ?_); rintro e w1 ⟨rfl, h9⟩; have HS := Lib.hid (HS.out.up h9); clear h9))
    go_ret
    exact ⟨rfl, HS.out.below⟩
def leadsB (v : Vq) : Bool := v.k == 1 || objQ v
set_option maxHeartbeats 4000000 in
set_option maxRecDepth 1000000 in
theorem leads_p {v : Vq} (h0 : 0 ≤ v.k) (w : World) : Calls Try.prog 35 #[.agg #[.int .u8 v.k, .float .f64 v.x, .string v.s, .int .i64 v.r]] w fun e w' => e = .returned (.bool (leadsB v)) ∧ Below w.heap.size w w' := by
  have HS := Lib.hid (ow_start w (#[.int .u8 v.k, .float .f64 v.x, .string v.s, .int .i64 v.r]) 24)
  have cI := fun W => IsObject_q v h0 W
  unfold leadsB
  generalize objQ v = b at *
  cases hk : (v.k == 1)
  · go_enter Try.func35, Try.ntmps35
    go_wp2_with (first
      | ((with_reducible refine cv_ld (v := v) ?_ rfl rfl HS.out.c ?_ ?_); (rfl); (rfl))
      | ((refine lu_ld (all := [.int .u8 v.k, .float .f64 v.x, .string v.s, .int .i64 v.r]) ?_ rfl rfl HS.out.c rfl ?_); (rfl))
      | (go_at_call 24; (with_reducible refine (cI _).mono ?_); rintro e w1 ⟨rfl, h9⟩; have HS := Lib.hid (HS.out.up h9); clear h9))
    go_ret
    exact ⟨rfl, HS.out.below⟩
  · go_enter Try.func35, Try.ntmps35
    go_wp2_with (first
      | ((with_reducible refine cv_ld (v := v) ?_ rfl rfl HS.out.c ?_ ?_); (rfl); (rfl))
      | ((refine lu_ld (all := [.int .u8 v.k, .float .f64 v.x, .string v.s, .int .i64 v.r]) ?_ rfl rfl HS.out.c rfl ?_); (rfl))
      | (go_at_call 24; (with_reducible refine (cI _).mono ?_); rintro e w1 ⟨rfl, h9⟩; have HS := Lib.hid (HS.out.up h9); clear h9))
    go_ret
    exact ⟨rfl, HS.out.below⟩
noncomputable def parE (v : Vq) : Int := bif leadsB v then whatE v else 9
set_option maxHeartbeats 4000000 in
set_option maxRecDepth 1000000 in
theorem parent_p {v : Vq} (hv : v.In) (w : World) : Calls Try.prog 29 #[.agg #[.int .u8 v.k, .float .f64 v.x, .string v.s, .int .i64 v.r]] w fun e w' => e = .returned (.int .i64 (parE v)) ∧ Below w.heap.size w w' := by
  have HS := Lib.hid (ow_start w (#[.int .u8 v.k, .float .f64 v.x, .string v.s, .int .i64 v.r]) 24)
  have cL := fun W => leads_p hv.1 W
  have cW := fun W => what_p hv W
  unfold parE
  generalize whatE v = x at *
  generalize leadsB v = b at *
  cases b
  · go_enter Try.func29, Try.ntmps29
    go_wp2_with (first
      | ((with_reducible refine cv_ld (v := v) ?_ rfl rfl HS.out.c ?_ ?_); (rfl); (rfl))
      | (go_at_call 35; (with_reducible refine (cL _).mono ?_); rintro e w1 ⟨rfl, h9⟩; have HS := Lib.hid (HS.out.up h9); clear h9)
      | (go_at_call 28; (with_reducible refine (cW _).mono ?_); rintro e w2 ⟨rfl, h9⟩; have HS := Lib.hid (HS.out.up h9); clear h9))
    go_ret
    exact ⟨rfl, HS.out.below⟩
  · go_enter Try.func29, Try.ntmps29
    go_wp2_with (first
      | ((with_reducible refine cv_ld (v := v) ?_ rfl rfl HS.out.c ?_ ?_); (rfl); (rfl))
      | (go_at_call 35; (with_reducible refine (cL _).mono ?_); rintro e w1 ⟨rfl, h9⟩; have HS := Lib.hid (HS.out.up h9); clear h9)
      | (go_at_call 28; (with_reducible refine (cW _).mono ?_); rintro e w2 ⟨rfl, h9⟩; have HS := Lib.hid (HS.out.up h9); clear h9))
    go_ret
    exact ⟨rfl, HS.out.below⟩
theorem chkd {d : Dq} (hd : d.In) (W : World) : Calls Try.prog 32 #[.agg d.cells] W fun e w' => e = .returned (.int .i64 (errI (chkQ d))) ∧ Below W.heap.size W w' := Check_q hd W
noncomputable def descE (q : Oq) : Int := bif q.found then errI (chkQ q.d) else 0
set_option maxHeartbeats 4000000 in
set_option maxRecDepth 1000000 in
theorem described_p {q : Oq} (hd : q.d.In) (w : World) : Calls Try.prog 30 #[.agg (oqA q)] w fun e w' => e = .returned (.int .i64 (descE q)) ∧ Below w.heap.size w w' := by
  have HS := Lib.hid (ow_start w (oqA q) 33)
  have cK := fun W => chkd hd W
  unfold descE
  generalize errI (chkQ q.d) = x at *
  cases hf : q.found
  · go_enter Try.func30, Try.ntmps30
    go_wp2_with (first
      | ((refine lb_ld (all := oql q) ?_ rfl rfl HS.out.c rfl ?_); (rfl))
      | ((refine cd_ld (d := q.d) (all := oql q) ?_ rfl rfl HS.out.c rfl ?_); (rfl))
      | (go_at_call 32; (with_reducible refine (cK _).mono ?_); rintro e w1 ⟨rfl, h9⟩; have HS := Lib.hid (HS.out.up h9); clear h9))
    go_ret
    exact ⟨rfl, HS.out.below⟩
  · go_enter Try.func30, Try.ntmps30
    go_wp2_with (first
      | ((refine lb_ld (all := oql q) ?_ rfl rfl HS.out.c rfl ?_); (rfl))
      | ((refine cd_ld (d := q.d) (all := oql q) ?_ rfl rfl HS.out.c rfl ?_); (rfl))
      | (go_at_call 32; (with_reducible refine (cK _).mono ?_); rintro e w1 ⟨rfl, h9⟩; have HS := Lib.hid (HS.out.up h9); clear h9))
    go_ret
    exact ⟨rfl, HS.out.below⟩
theorem complete_p {d : Dq} (hd : d.In) (W : World) : Calls Try.prog 61 #[.agg d.cells] W fun e w' => e = .returned (.tuple #[.agg (bif chkQ d then completeQ d else dz 0).cells, .int .i64 (errI (chkQ d))]) ∧ Below W.heap.size W w' := by
  generalize hX : completeQ d = X
  refine (Complete_x d.h X.h d.a.k d.a.x d.a.s d.a.r d.b.k d.b.x d.b.s d.b.r d.c.k d.c.x d.c.s d.c.r X.a.k X.a.x X.a.s X.a.r X.b.k X.b.x X.b.s X.b.r X.c.k X.c.x X.c.s X.c.r d.p d.q d.z X.p X.q X.z (ck := chkQ d) (fun w => Check_q hd w) (fun w => hX ▸ complete_q d w) W).mono fun e w' ⟨h1, h2, hb⟩ => ⟨?_, hb⟩
  cases hc : chkQ d with
  | false => exact h1 hc
  | true => exact h2 hc
theorem complete_hh {d : Dq} (hd : d.In) (hc : chkQ d = true) : ((completeQ d).h != d.h) = !(d.h == 51 || d.h == 60) := by
  have g := good_of hd hc
  obtain ⟨_, h5⟩ := complete_good g
  by_cases c : d.h = 51 ∨ d.h = 60
  · rw [complete_h g.mem c]
    rcases c with c | c <;> rw [c] <;> rfl
  · have e1 : (d.h == 51 || d.h == 60) = false := by
      rw [Bool.or_eq_false_iff, beq_eq_false_iff_ne, beq_eq_false_iff_ne]
      exact ⟨fun h => c (.inl h), fun h => c (.inr h)⟩
    rw [e1]
    show (!((completeQ d).h == d.h)) = true
    rw [Bool.not_eq_true', beq_eq_false_iff_ne]
    intro e
    rw [e] at h5
    exact c h5
noncomputable def wholeE (d : Dq) : Int := bif wholeQ d then 0 else 90
theorem dc_size (d : Dq) : (Try.prog.info? 27).map (·.size) = some d.cells.size := dsz
theorem dc_one (d : Dq) : d.cells.all (·.oneCell') = true := cells_one (l := d.cells.toList) rfl
set_option maxHeartbeats 4000000 in
set_option maxRecDepth 1000000 in
theorem whole_p {d : Dq} (hd : d.In) (w : World) : Calls Try.prog 48 #[.agg d.cells] w fun e w' => e = .returned (.int .i64 (wholeE d)) ∧ Below w.heap.size w w' := by
  have HS := Lib.hid (ow_start w (d.cells) 27)
  have cC := fun W => complete_p hd W
  have hdi := dc_size
  have hdo := dc_one
  unfold wholeE wholeQ
  have hh := fun h => complete_hh hd h
  generalize completeQ d = Y at *
  obtain ⟨X, hX⟩ : ∃ X, X = (bif chkQ d then Y else dz 0) := ⟨_, rfl⟩
  rw [← hX] at cC
  cases hc : chkQ d
  · rw [hc] at cC hX
    replace cC : ∀ W, Calls Try.prog 61 #[.agg d.cells] W fun e w' => e = .returned (.tuple #[.agg X.cells, .int .i64 90]) ∧ Below W.heap.size W w' := cC
    clear hX hh
    go_enter Try.func48, Try.ntmps48
    go_wp2_with (first
      | ((with_reducible refine dq_load (d := d) ?_ rfl rfl HS.out.c ?_); (rfl))
      | (go_at_call 61; (with_reducible refine (cC _).mono ?_); rintro e w1 ⟨rfl, h9⟩; have HS := Lib.hid (HS.out.up h9); clear h9)
      | ((with_reducible refine t_store (cs := X.cells) rfl rfl rfl rfl (heap_alloc_new w1 _) (hdi X) ?_ (hdo X) (vzero w1 _) (Nat.le_refl _) ?_); (rfl); intro W2 hb2 hW2 _ _; have HS := Lib.hid (HS.out.up hb2); clear hb2)
      | ((refine lu_ld (all := X.cells.toList) ?_ rfl rfl hW2 rfl ?_); (rfl))
      | ((refine lu_ld (all := d.cells.toList) ?_ rfl rfl HS.out.c rfl ?_); (rfl)))
    go_ret
    exact ⟨rfl, HS.out.below⟩
  · rw [hc] at cC hX
    replace cC : ∀ W, Calls Try.prog 61 #[.agg d.cells] W fun e w' => e = .returned (.tuple #[.agg X.cells, .int .i64 0]) ∧ Below W.heap.size W w' := cC
    replace hX : X = Y := hX
    replace hh := hh hc
    rw [← hX] at hh
    clear hX hc
    generalize (d.h == 51 || d.h == 60) = b at *
    cases b
    · replace hh : (X.h != d.h) = true := hh
      go_enter Try.func48, Try.ntmps48
      go_wp2_with (first
        | ((with_reducible refine dq_load (d := d) ?_ rfl rfl HS.out.c ?_); (rfl))
        | (go_at_call 61; (with_reducible refine (cC _).mono ?_); rintro e w1 ⟨rfl, h9⟩; have HS := Lib.hid (HS.out.up h9); clear h9)
        | ((with_reducible refine t_store (cs := X.cells) rfl rfl rfl rfl (heap_alloc_new w1 _) (hdi X) ?_ (hdo X) (vzero w1 _) (Nat.le_refl _) ?_); (rfl); intro W2 hb2 hW2 _ _; have HS := Lib.hid (HS.out.up hb2); clear hb2)
        | ((refine lu_ld (all := X.cells.toList) ?_ rfl rfl hW2 rfl ?_); (rfl))
        | ((refine lu_ld (all := d.cells.toList) ?_ rfl rfl HS.out.c rfl ?_); (rfl)))
      go_ret
      exact ⟨rfl, HS.out.below⟩
    · replace hh : (X.h != d.h) = false := hh
      go_enter Try.func48, Try.ntmps48
      go_wp2_with (first
        | ((with_reducible refine dq_load (d := d) ?_ rfl rfl HS.out.c ?_); (rfl))
        | (go_at_call 61; (with_reducible refine (cC _).mono ?_); rintro e w1 ⟨rfl, h9⟩; have HS := Lib.hid (HS.out.up h9); clear h9)
        | ((with_reducible refine t_store (cs := X.cells) rfl rfl rfl rfl (heap_alloc_new w1 _) (hdi X) ?_ (hdo X) (vzero w1 _) (Nat.le_refl _) ?_); (rfl); intro W2 hb2 hW2 _ _; have HS := Lib.hid (HS.out.up hb2); clear hb2)
        | ((refine lu_ld (all := X.cells.toList) ?_ rfl rfl hW2 rfl ?_); (rfl))
        | ((refine lu_ld (all := d.cells.toList) ?_ rfl rfl HS.out.c rfl ?_); (rfl)))
      go_ret
      exact ⟨rfl, HS.out.below⟩
noncomputable def thereE (f : Fq) : Int := bif f.found then wholeE f.d else 0
set_option maxHeartbeats 4000000 in
set_option maxRecDepth 1000000 in
theorem there_p {f : Fq} (hd : f.d.In) (w : World) : Calls Try.prog 31 #[.agg (fqA f)] w fun e w' => e = .returned (.int .i64 (thereE f)) ∧ Below w.heap.size w w' := by
  have HS := Lib.hid (ow_start w (fqA f) 43)
  have cK := fun W => whole_p hd W
  unfold thereE
  generalize wholeE f.d = x at *
  cases hf : f.found
  · go_enter Try.func31, Try.ntmps31
    go_wp2_with (first
      | ((with_reducible refine lb_l2 (all := fql f) ?_ rfl rfl HS.out.c ?_); (rfl); refine ⟨_, rfl, ?_⟩)
      | ((with_reducible refine cd_ld (d := f.d) (all := fql f) ?_ rfl rfl HS.out.c ?_ ?_); (rfl); (rfl))
      | (go_at_call 48; (with_reducible refine (cK _).mono ?_); rintro e w1 ⟨rfl, h9⟩; have HS := Lib.hid (HS.out.up h9); clear h9))
    go_ret
    exact ⟨rfl, HS.out.below⟩
  · go_enter Try.func31, Try.ntmps31
    go_wp2_with (first
      | ((with_reducible refine lb_l2 (all := fql f) ?_ rfl rfl HS.out.c ?_); (rfl); refine ⟨_, rfl, ?_⟩)
      | ((with_reducible refine cd_ld (d := f.d) (all := fql f) ?_ rfl rfl HS.out.c ?_ ?_); (rfl); (rfl))
      | (go_at_call 48; (with_reducible refine (cK _).mono ?_); rintro e w1 ⟨rfl, h9⟩; have HS := Lib.hid (HS.out.up h9); clear h9))
    go_ret
    exact ⟨rfl, HS.out.below⟩
def fixedB (f : Fq) : Bool := f.found && !f.d.z
set_option maxHeartbeats 4000000 in
set_option maxRecDepth 1000000 in
theorem fixed_p (a : Ak) (q : Oq) (f : Fq) (w : World) : Calls Try.prog 57 #[.agg (clA a q f)] w fun e w' => e = .returned (.bool (fixedB f)) ∧ Below w.heap.size w w' := by
  have HS := Lib.hid (ow_start w (clA a q f) 59)
  unfold fixedB
  cases hf : f.found
  · go_enter Try.func57, Try.ntmps57
    go_wp2_with ((with_reducible refine lb_l2 (all := cll a q f) ?_ rfl rfl HS.out.c ?_); (rfl); refine ⟨_, rfl, ?_⟩)
    go_ret
    exact ⟨rfl, HS.out.below⟩
  · go_enter Try.func57, Try.ntmps57
    go_wp2_with ((with_reducible refine lb_l2 (all := cll a q f) ?_ rfl rfl HS.out.c ?_); (rfl); refine ⟨_, rfl, ?_⟩)
    go_ret
    exact ⟨rfl, HS.out.below⟩
def freeB (f : Fq) : Bool := !f.found || (f.ext && !fixedB f)
set_option maxHeartbeats 4000000 in
set_option maxRecDepth 1000000 in
theorem free_p (a : Ak) (q : Oq) (f : Fq) (w : World) : Calls Try.prog 39 #[.agg (clA a q f)] w fun e w' => e = .returned (.bool (freeB f)) ∧ Below w.heap.size w w' := by
  have HS := Lib.hid (ow_start w (clA a q f) 59)
  have cF := fun W => fixed_p a q f W
  unfold freeB
  generalize fixedB f = b at *
  cases hf : f.found
  · go_enter Try.func39, Try.ntmps39
    go_wp2_with (first
      | ((with_reducible refine lb_l2 (all := cll a q f) ?_ rfl rfl HS.out.c ?_); (rfl); refine ⟨_, rfl, ?_⟩)
      | ((with_reducible refine cc_ld (k := a) (q := q) (f := f) ?_ rfl rfl HS.out.c ?_); (rfl))
      | (go_at_call 57; (with_reducible refine (cF _).mono ?_); rintro e w1 ⟨rfl, h9⟩; have HS := Lib.hid (HS.out.up h9); clear h9))
    go_ret
    exact ⟨rfl, HS.out.below⟩
  · cases hx : f.ext
    · go_enter Try.func39, Try.ntmps39
      go_wp2_with (first
        | ((with_reducible refine lb_l2 (all := cll a q f) ?_ rfl rfl HS.out.c ?_); (rfl); refine ⟨_, rfl, ?_⟩)
        | ((with_reducible refine cc_ld (k := a) (q := q) (f := f) ?_ rfl rfl HS.out.c ?_); (rfl))
        | (go_at_call 57; (with_reducible refine (cF _).mono ?_); rintro e w1 ⟨rfl, h9⟩; have HS := Lib.hid (HS.out.up h9); clear h9))
      go_ret
      exact ⟨rfl, HS.out.below⟩
    · go_enter Try.func39, Try.ntmps39
      go_wp2_with (first
        | ((with_reducible refine lb_l2 (all := cll a q f) ?_ rfl rfl HS.out.c ?_); (rfl); refine ⟨_, rfl, ?_⟩)
        | ((with_reducible refine cc_ld (k := a) (q := q) (f := f) ?_ rfl rfl HS.out.c ?_); (rfl))
        | (go_at_call 57; (with_reducible refine (cF _).mono ?_); rintro e w1 ⟨rfl, h9⟩; have HS := Lib.hid (HS.out.up h9); clear h9))
      go_ret
      exact ⟨rfl, HS.out.below⟩
def keepsB (f : Fq) (v : Vq) : Bool := f.ext || sameQ v f.proto
set_option maxHeartbeats 4000000 in
set_option maxRecDepth 1000000 in
theorem keeps_p (a : Ak) (q : Oq) (f : Fq) {v : Vq} (h : 0 ≤ v.k ∧ v.k ≤ 8) (h2 : 0 ≤ f.proto.k) (w : World) : Calls Try.prog 36 #[.agg (clA a q f), .agg #[.int .u8 v.k, .float .f64 v.x, .string v.s, .int .i64 v.r]] w fun e w' => e = .returned (.bool (keepsB f v)) ∧ Below w.heap.size w w' := by
  obtain ⟨b1, b2⟩ := vblk2 (w := w) (Below.refl _ ((w.alloc (.cells (clA a q f) 59)).alloc (.cells #[.int .u8 v.k, .float .f64 v.x, .string v.s, .int .i64 v.r] 24)))
  have HS := Lib.hid (show Ow w (clA a q f) 59 _ from ⟨vafter (vzero _ _), b1⟩)
  have cS := fun W => samev h h2 W
  unfold keepsB
  generalize sameQ v f.proto = b at *
  cases hf : f.ext
  · go_enter Try.func36, Try.ntmps36
    go_wp2_with (first
      | ((with_reducible refine lb_l2 (all := cll a q f) ?_ rfl rfl HS.out.c ?_); (rfl); refine ⟨_, rfl, ?_⟩)
      | ((with_reducible refine cv_ld (v := v) ?_ rfl rfl b2 ?_ ?_); (rfl); (rfl))
      | ((with_reducible refine cv_ld (v := f.proto) (all := cll a q f) ?_ rfl rfl HS.out.c ?_ ?_); (rfl); (rfl))
      | (go_at_call 18; (with_reducible refine (cS _).mono ?_); rintro e w1 ⟨rfl, h9⟩; have HS := Lib.hid (HS.out.up h9); clear h9))
    go_ret
    exact ⟨rfl, HS.out.below⟩
  · go_enter Try.func36, Try.ntmps36
    go_wp2_with (first
      | ((with_reducible refine lb_l2 (all := cll a q f) ?_ rfl rfl HS.out.c ?_); (rfl); refine ⟨_, rfl, ?_⟩)
      | ((with_reducible refine cv_ld (v := v) ?_ rfl rfl b2 ?_ ?_); (rfl); (rfl))
      | ((with_reducible refine cv_ld (v := f.proto) (all := cll a q f) ?_ rfl rfl HS.out.c ?_ ?_); (rfl); (rfl))
      | (go_at_call 18; (with_reducible refine (cS _).mono ?_); rintro e w1 ⟨rfl, h9⟩; have HS := Lib.hid (HS.out.up h9); clear h9))
    go_ret
    exact ⟨rfl, HS.out.below⟩
noncomputable def fitsB (f : Fq) (d : Dq) : Bool := (compatQ f.ext d f.found f.d).1
end Go.Proofs.Ytkmgdaagannhkaa.S
