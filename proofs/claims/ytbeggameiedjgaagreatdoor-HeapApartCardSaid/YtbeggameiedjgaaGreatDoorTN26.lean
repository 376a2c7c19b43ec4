/-
  Properties and their lists: which may be, where a key stands, what Put and Drop make of a list: plain functions.
-/
import Derived.Test.YtbeggameiedjgaaGreatDoorTN20
import Derived.Test.YtbeggameiedjgaaGreatDoorTN21
import Derived.Test.YtbeggameiedjgaaGreatDoorTN25
import Derived.Deep.RegionHeld3
namespace Go.Proofs.YtbeggameiedjgaaGreatDoor.S
open Go.RowKit Fl
open Classical

structure Pq where
  k : Ky
  d : Dq
instance : Inhabited Pq := ⟨⟨⟨⟨#[]⟩, 0⟩, dz 0⟩⟩
def pcl (p : Pq) : List Value := .string p.k.str :: .int .i64 p.k.sym :: p.d.cells.toList
def Pq.In (p : Pq) : Prop := KyIn p.k ∧ p.d.In
def Pq.Ok (p : Pq) : Prop := mayKy p.k ∧ wholeQ p.d = true
noncomputable def mayT (p : Pq) : Int := if mayKy p.k then (if wholeQ p.d = true then 0 else 90) else 9
theorem mayT_ok {p : Pq} : mayT p = 0 ↔ p.Ok := by
  unfold mayT Pq.Ok
  by_cases h : mayKy p.k
  · rw [if_pos h]
    by_cases g : wholeQ p.d = true
    · rw [if_pos g]; exact ⟨fun _ => ⟨h, g⟩, fun _ => rfl⟩
    · rw [if_neg g]; exact ⟨fun e => absurd e (by decide), fun e => absurd e.2 g⟩
  · rw [if_neg h]; exact ⟨fun e => absurd e (by decide), fun e => absurd e.1 h⟩
/-- is the key on the list? -/
def hasK (S : List Pq) (k : Ky) : Bool := S.any fun x => eqK x.k k
theorem hasK_iff {S : List Pq} {k : Ky} : hasK S k = true ↔ ∃ x ∈ S, x.k = k := by
  unfold hasK
  rw [List.any_eq_true]
  exact ⟨fun ⟨x, h, e⟩ => ⟨x, h, eqK_iff.1 e⟩, fun ⟨x, h, e⟩ => ⟨x, h, eqK_iff.2 e⟩⟩
theorem hasK_no {S : List Pq} {k : Ky} (h : ∀ x ∈ S, x.k ≠ k) : hasK S k = false := by
  cases e : hasK S k with
  | false => rfl
  | true => obtain ⟨x, hx, he⟩ := hasK_iff.1 e; exact absurd he (h x hx)
noncomputable def chkL : List Pq → List Pq → Int
  | _, [] => 0
  | S, p :: r => if mayT p = 0 then (bif hasK S p.k then 100 else chkL (S ++ [p]) r) else mayT p
noncomputable def chkT (L : List Pq) : Int := if 1024 < L.length then 4 else chkL [] L
structure TabOk (L : List Pq) : Prop where
  len : L.length ≤ 1024
  all : ∀ p ∈ L, p.Ok
  one : L.Pairwise fun a b => a.k ≠ b.k
theorem chkL_ok : ∀ (r S : List Pq), chkL S r = 0 ↔ (∀ p ∈ r, p.Ok) ∧ r.Pairwise (fun a b => a.k ≠ b.k) ∧ ∀ p ∈ r, ∀ x ∈ S, x.k ≠ p.k
  | [], S => by unfold chkL; simp
  | p :: r, S => by
    unfold chkL
    by_cases h : mayT p = 0
    · rw [if_pos h]
      cases e : hasK S p.k with
      | true =>
        obtain ⟨x, hx, he⟩ := hasK_iff.1 e
        exact ⟨fun a => absurd (show (100 : Int) = 0 from a) (by decide), fun a => absurd he (a.2.2 p (List.mem_cons_self) x hx)⟩
      | false =>
        have hn : ∀ x ∈ S, x.k ≠ p.k := fun x hx he => by rw [hasK_iff.2 ⟨x, hx, he⟩] at e; cases e
        refine (chkL_ok r (S ++ [p])).trans ?_
        constructor
        · rintro ⟨h1, h2, h3⟩
          refine ⟨fun q hq => ?_, List.pairwise_cons.2 ⟨fun b hb => h3 b hb p (by simp), h2⟩, fun q hq x hx => ?_⟩
          · rcases List.mem_cons.1 hq with rfl | hq
            · exact mayT_ok.1 h
            · exact h1 q hq
          · rcases List.mem_cons.1 hq with rfl | hq
            · exact hn x hx
            · exact h3 q hq x (by simp [hx])
        · rintro ⟨h1, h2, h3⟩
          obtain ⟨g1, g2⟩ := List.pairwise_cons.1 h2
          refine ⟨fun q hq => h1 q (List.mem_cons_of_mem _ hq), g2, fun q hq x hx => ?_⟩
          rcases List.mem_append.1 hx with hx | hx
          · exact h3 q (List.mem_cons_of_mem _ hq) x hx
          · obtain rfl := List.mem_singleton.1 hx
            exact g1 q hq
    · rw [if_neg h]
      exact ⟨fun a => absurd a h, fun a => absurd (mayT_ok.2 (a.1 p (List.mem_cons_self))) h⟩
theorem chkT_ok {L : List Pq} : chkT L = 0 ↔ TabOk L := by
  unfold chkT
  by_cases h : 1024 < L.length
  · rw [if_pos h]; exact ⟨fun a => absurd a (by decide), fun a => absurd a.len (by omega)⟩
  · rw [if_neg h]
    refine (chkL_ok L []).trans ⟨fun a => ⟨by omega, a.1, a.2.1⟩, fun a => ⟨a.all, a.one, fun _ _ x hx => by cases hx⟩⟩
theorem chkT_yes {L : List Pq} (h : TabOk L) : chkT L = 0 := chkT_ok.2 h
/-- where a key stands: the list's length where it doesn't -/
def cutN : List Pq → Ky → Nat
  | [], _ => 0
  | p :: r, k => bif eqK p.k k then 0 else cutN r k + 1
theorem cutN_le : ∀ (L : List Pq) (k : Ky), cutN L k ≤ L.length
  | [], _ => Nat.le_refl _
  | p :: r, k => by
    unfold cutN
    cases eqK p.k k with
    | true => exact Nat.zero_le _
    | false => have := cutN_le r k; simp; omega
theorem cutN_mid : ∀ {A : List Pq} {x : Pq} {B : List Pq} {k : Ky}, (∀ y ∈ A, y.k ≠ k) → x.k = k → cutN (A ++ x :: B) k = A.length
  | [], x, B, k, _, h => by show (bif eqK x.k k then 0 else _) = 0; rw [eqK_iff.2 h]; rfl
  | y :: A, x, B, k, h0, h => by
    show (bif eqK y.k k then 0 else cutN (A ++ x :: B) k + 1) = _
    rw [eqK_no (h0 y (List.mem_cons_self)), cutN_mid (fun z hz => h0 z (List.mem_cons_of_mem _ hz)) h]; rfl
theorem cutN_none : ∀ {L : List Pq} {k : Ky}, (∀ y ∈ L, y.k ≠ k) → cutN L k = L.length
  | [], _, _ => rfl
  | y :: L, k, h0 => by
    show (bif eqK y.k k then 0 else cutN L k + 1) = _
    rw [eqK_no (h0 y (List.mem_cons_self)), cutN_none (fun z hz => h0 z (List.mem_cons_of_mem _ hz))]; rfl
theorem cut_ways : ∀ (L : List Pq) (k : Ky), (∀ y ∈ L, y.k ≠ k) ∨ ∃ A x B, L = A ++ x :: B ∧ x.k = k ∧ ∀ y ∈ A, y.k ≠ k
  | [], k => .inl fun y hy => by cases hy
  | p :: r, k => by
    by_cases h : p.k = k
    · exact .inr ⟨[], p, r, rfl, h, fun y hy => by cases hy⟩
    · rcases cut_ways r k with h1 | ⟨A, x, B, rfl, h2, h3⟩
      · exact .inl fun y hy => by
          rcases List.mem_cons.1 hy with rfl | hy
          · exact h
          · exact h1 y hy
      · exact .inr ⟨p :: A, x, B, rfl, h2, fun y hy => by
          rcases List.mem_cons.1 hy with rfl | hy
          · exact h
          · exact h3 y hy⟩
/-- the property of a key -/
def findT (L : List Pq) (k : Ky) : Option Pq := L[cutN L k]?
def putT (L : List Pq) (p : Pq) : List Pq := L.take (cutN L p.k) ++ p :: L.drop (cutN L p.k + 1)
def dropT (L : List Pq) (k : Ky) : List Pq := L.take (cutN L k) ++ L.drop (cutN L k + 1)
theorem find_none {L : List Pq} {k : Ky} (h : ∀ y ∈ L, y.k ≠ k) : findT L k = none := by unfold findT; rw [cutN_none h]; simp
theorem find_mid {A : List Pq} {x : Pq} {B : List Pq} {k : Ky} (h0 : ∀ y ∈ A, y.k ≠ k) (h : x.k = k) : findT (A ++ x :: B) k = some x := by unfold findT; rw [cutN_mid h0 h]; simp
theorem put_none {L : List Pq} {p : Pq} (h : ∀ y ∈ L, y.k ≠ p.k) : putT L p = L ++ [p] := by unfold putT; rw [cutN_none h, List.take_length, List.drop_eq_nil_of_le (Nat.le_succ _)]
theorem put_mid {A : List Pq} {x p : Pq} {B : List Pq} (h0 : ∀ y ∈ A, y.k ≠ p.k) (h : x.k = p.k) : putT (A ++ x :: B) p = A ++ p :: B := by unfold putT; rw [cutN_mid h0 h]; simp
theorem drop_none {L : List Pq} {k : Ky} (h : ∀ y ∈ L, y.k ≠ k) : dropT L k = L := by unfold dropT; rw [cutN_none h, List.take_length, List.drop_eq_nil_of_le (Nat.le_succ _), List.append_nil]
theorem drop_mid {A : List Pq} {x : Pq} {B : List Pq} {k : Ky} (h0 : ∀ y ∈ A, y.k ≠ k) (h : x.k = k) : dropT (A ++ x :: B) k = A ++ B := by unfold dropT; rw [cutN_mid h0 h]; simp
/-- a property that stands under another key is neither here nor there -/
theorem find_skip : ∀ {A : List Pq} {x : Pq} {B : List Pq} {k : Ky}, x.k ≠ k → findT (A ++ x :: B) k = findT (A ++ B) k
  | [], x, B, k, h => by
    unfold findT
    show (x :: B)[bif eqK x.k k then 0 else cutN B k + 1]? = _
    rw [eqK_no h]; rfl
  | y :: A, x, B, k, h => by
    have := find_skip (A := A) (B := B) h
    unfold findT at this ⊢
    show (y :: (A ++ x :: B))[bif eqK y.k k then 0 else cutN (A ++ x :: B) k + 1]? = (y :: (A ++ B))[bif eqK y.k k then 0 else cutN (A ++ B) k + 1]?
    cases eqK y.k k with
    | true => rfl
    | false => simpa using this
theorem pair_mid {A : List Pq} {x : Pq} {B : List Pq} (h : (A ++ x :: B).Pairwise fun a b => a.k ≠ b.k) : (∀ y ∈ A, y.k ≠ x.k) ∧ (∀ y ∈ B, y.k ≠ x.k) ∧ (A ++ B).Pairwise fun a b => a.k ≠ b.k := by
  obtain ⟨h1, h2, h3⟩ := List.pairwise_append.1 h
  obtain ⟨h4, h5⟩ := List.pairwise_cons.1 h2
  exact ⟨fun y hy => h3 y hy x (List.mem_cons_self), fun y hy e => h4 y hy e.symm, List.pairwise_append.2 ⟨h1, h5, fun a ha b hb => h3 a ha b (List.mem_cons_of_mem _ hb)⟩⟩
/-- what Put comes to -/
structure PutTo (L : List Pq) (p : Pq) (M : List Pq) : Prop where
  ok : TabOk M
  found : findT M p.k = some p
  other : ∀ k, k ≠ p.k → findT M k = findT L k
  len : M.length = if (findT L p.k).isSome then L.length else L.length + 1
  keys : ∀ i (h : i < L.length) (h' : i < M.length), M[i].k = L[i].k
theorem put_to {L : List Pq} {p : Pq} (hL : TabOk L) (hp : p.Ok) (hn : cutN L p.k ≠ 1024) : PutTo L p (putT L p) := by
  rcases cut_ways L p.k with h | ⟨A, x, B, rfl, h1, h2⟩
  · rw [put_none h]
    rw [cutN_none h] at hn
    refine ⟨⟨?_, ?_, ?_⟩, find_mid h rfl, fun k hk => ?_, ?_, fun i hi hi' => ?_⟩
    · have := hL.len; simp; omega
    · intro q hq
      rcases List.mem_append.1 hq with hq | hq
      · exact hL.all q hq
      · obtain rfl := List.mem_singleton.1 hq; exact hp
    · refine List.pairwise_append.2 ⟨hL.one, List.pairwise_singleton _ _, fun a ha b hb => ?_⟩
      obtain rfl := List.mem_singleton.1 hb
      exact h a ha
    · rw [find_skip (Ne.symm hk), List.append_nil]
    · rw [find_none h]; simp
    · rw [List.getElem_append_left hi]
  · rw [put_mid h2 h1]
    obtain ⟨g1, g2, g3⟩ := pair_mid hL.one
    refine ⟨⟨?_, ?_, ?_⟩, find_mid h2 rfl, fun k hk => ?_, ?_, fun i hi hi' => ?_⟩
    · have := hL.len; simp at this ⊢; omega
    · intro q hq
      rcases List.mem_append.1 hq with hq | hq
      · exact hL.all q (by simp [hq])
      · rcases List.mem_cons.1 hq with rfl | hq
        · exact hp
        · exact hL.all q (by simp [hq])
    · obtain ⟨p1, p2, p3⟩ := List.pairwise_append.1 g3
      refine List.pairwise_append.2 ⟨p1, List.pairwise_cons.2 ⟨fun b hb e => g2 b hb (by rw [h1]; exact e.symm), p2⟩, fun a ha b hb => ?_⟩
      rcases List.mem_cons.1 hb with rfl | hb
      · exact h2 a ha
      · exact p3 a ha b hb
    · rw [find_skip (Ne.symm hk), find_skip (by rw [h1]; exact Ne.symm hk)]
    · rw [find_mid h2 h1]; simp
    · by_cases c : i < A.length
      · rw [List.getElem_append_left c, List.getElem_append_left c]
      · by_cases e : i = A.length
        · subst e; simp [h1]
        · obtain ⟨j, hj⟩ : ∃ j, i - A.length = j + 1 := ⟨i - A.length - 1, by omega⟩
          rw [List.getElem_append_right (by omega), List.getElem_append_right (by omega)]
          simp only [hj, List.getElem_cons_succ]
/-- what Drop comes to -/
structure DropTo (L : List Pq) (k : Ky) (M : List Pq) : Prop where
  ok : TabOk M
  gone : findT M k = none
  other : ∀ c, c ≠ k → findT M c = findT L c
  rest : L.filter (fun p => !eqK p.k k) = M
theorem fil_all {L : List Pq} {k : Ky} (h : ∀ y ∈ L, y.k ≠ k) : L.filter (fun p => !eqK p.k k) = L := List.filter_eq_self.2 fun y hy => by rw [eqK_no (h y hy)]; rfl
theorem drop_to {L : List Pq} {k : Ky} (hL : TabOk L) : DropTo L k (dropT L k) := by
  rcases cut_ways L k with h | ⟨A, x, B, rfl, h1, h2⟩
  · rw [drop_none h]
    exact ⟨hL, find_none h, fun _ _ => rfl, fil_all h⟩
  · rw [drop_mid h2 h1]
    obtain ⟨g1, g2, g3⟩ := pair_mid hL.one
    have hB : ∀ y ∈ B, y.k ≠ k := fun y hy => by rw [← h1]; exact g2 y hy
    refine ⟨⟨?_, ?_, g3⟩, find_none fun y hy => ?_, fun c hc => ?_, ?_⟩
    · have := hL.len; simp at this ⊢; omega
    · intro q hq
      rcases List.mem_append.1 hq with hq | hq
      · exact hL.all q (by simp [hq])
      · exact hL.all q (by simp [hq])
    · rcases List.mem_append.1 hy with hy | hy
      · exact h2 y hy
      · exact hB y hy
    · rw [find_skip (by rw [h1]; exact Ne.symm hc)]
    · rw [List.filter_append, List.filter_cons_of_neg (by rw [eqK_iff.2 h1]; simp), fil_all h2, fil_all hB]
end Go.Proofs.YtbeggameiedjgaaGreatDoor.S
/-
  Properties in memory: loads and stores of a whole property, of its key, of its descriptor, as laws of one operation; a row of properties wherever it lies.
-/
namespace Go.Proofs.YtbeggameiedjgaaGreatDoor.S
open Go.RowKit Fl

theorem psz : (Tryz.prog.info? 30).map (·.size) = some 18 := by kernel_rfl
theorem ksz : (Tryz.prog.info? 23).map (·.size) = some 2 := by kernel_rfl
def prA (p : Pq) : Array Value := (pcl p).toArray
theorem pcl_len (p : Pq) : (pcl p).length = 18 := rfl
theorem prA_size (p : Pq) : (prA p).size = 18 := rfl
theorem prA_one (p : Pq) : (prA p).all (·.oneCell') = true := cells_one (l := pcl p) rfl
theorem add_blk (a : Addr) (k : Nat) : (a.add k).block = a.block := by unfold Addr.add; split <;> rfl
theorem add_add (a : Addr) (m j : Nat) : (a.add m).add j = a.add (m + j) := by
  unfold Addr.add
  by_cases h : m = 0
  · subst h; simp
  · by_cases g : j = 0
    · subst g; simp [h]
    · simp [h, g, Nat.add_assoc]
/-- properties in a row, wherever it lies -/
def PR (w : World) (A : Option Addr) (L : List Pq) : Prop := 0 < L.length → ∃ a, A = some a ∧ a.block < w.heap.size ∧ ∀ i (h : i < L.length) j u, (pcl L[i])[j]? = some u → w.cell? (a.add (i * 18 + j)) = some u
theorem pr_up {w wr : World} {A : Option Addr} {L : List Pq} (h : PR w A L) (hb : Below w.heap.size w wr) : PR wr A L := fun hp => by
  obtain ⟨a, h1, h2, h3⟩ := h hp
  refine ⟨a, h1, Nat.lt_of_lt_of_le h2 hb.size, fun i hi j u hu => ?_⟩
  rw [hb.cell (by rw [add_blk]; exact h2)]
  exact h3 i hi j u hu
section
variable {ops : Array Oper} {rest : List Oper} {o : Oper} {a : Act} {w : World} {Q : Exit → Act → World → Prop} {x y : Operand} {g i : Nat} {t : TypeId}
theorem run_loadVar_at {A : Addr} {ty : TypeId} {cs : List Value} {d : TypeDesc} (hc : ∀ j v, cs[j]? = some v → w.cell? (A.add j) = some v) (hu : Tryz.prog.underlying ty = some d) (hd : d.isRow = true) (hi : (Tryz.prog.info? ty).map (·.size) = some cs.length) :
    (loadVar ty A).run Tryz.prog w = .ok (.agg cs.toArray) w := by
  have hl : (loadCells A cs.length).run Tryz.prog w = .ok cs.toArray w := run_loadCells_list (P := Tryz.prog) w A cs hc
  cases hq : Tryz.prog.info? ty with
  | none => simp [hq] at hi
  | some i =>
    have hs : i.size = cs.length := by simpa [hq] using hi
    have hagg : (isAgg ty).run Tryz.prog w = .ok true w := by
      unfold isAgg
      rw [Sem.run_bind, run_underlying hu w]
      cases d <;> simp_all
    simp [loadVar, Sem.run_bind, hagg, sizeOf, typeInfo, hq, hs, hl]
theorem run_loadAt_at {A : Addr} {ty : TypeId} {cs : List Value} {d : TypeDesc} (hc : ∀ j v, cs[j]? = some v → w.cell? (A.add j) = some v) (hu : Tryz.prog.underlying ty = some d) (hd : d.isRow = true) (hi : (Tryz.prog.info? ty).map (·.size) = some cs.length) :
    (Instr.loadAt ty (.pointer (some A))).run Tryz.prog w = .ok (.agg cs.toArray) w := by
  simp only [Instr.loadAt, Instr.sureAddr, Sem.run_bind, Sem.run_pure, Result.andThen_ok, run_loadVar_at hc hu hd hi]
theorem wp_load_at {K : Act → World → Prop} {A : Addr} {ty : TypeId} {cs : List Value} {d : TypeDesc} (ho : o.op = .load ty x) (hx : a.eval x = .pointer (some A)) (hc : ∀ j v, cs[j]? = some v → w.cell? (A.add j) = some v)
    (hu : Tryz.prog.underlying ty = some d) (hd : d.isRow = true) (hi : (Tryz.prog.info? ty).map (·.size) = some cs.length) (h : K (a.put o.dst (.agg cs.toArray)) w) : o.wp Tryz.prog a w K Q := by
  unfold Oper.wp execOp
  simp only [ho, hx, run_loadAt_at hc hu hd hi, Sem.run_bind, Sem.run_pure, Result.andThen_ok]
  exact h
/-- a property out of a row -/
theorem p_load {A : Addr} {p : Pq} (hw : Region.wanted o (yielded ops a.tmps) = true) (ho : o.op = .load 30 x) (hx : a.eval x = .pointer (some A)) (hc : ∀ j u, (pcl p)[j]? = some u → w.cell? (A.add j) = some u)
    (h : wpList Tryz.prog ops Q rest (a.put o.dst (.agg (prA p))) w) : wpList Tryz.prog ops Q (o :: rest) a w :=
  wpList_wanted hw fun _ hK => wp_load_at ho hx hc Tryz.underlying30 rfl psz (hK _ _ h)
theorem pb_cells {p : Pq} (hg : w.heap[g]? = some (.cells (prA p) t (0, 0))) (j : Nat) (u : Value) (hu : (pcl p)[j]? = some u) : w.cell? ⟨g, j, none⟩ = some u := by
  rw [vcells hg j]
  simpa [prA] using hu
/-- the key of a property in a block of its own -/
theorem pk_load {p : Pq} (hw : Region.wanted o (yielded ops a.tmps) = true) (ho : o.op = .load 23 x) (hx : a.eval x = .pointer (some ⟨g, 0, none⟩)) (hg : w.heap[g]? = some (.cells (prA p) t (0, 0)))
    (h : wpList Tryz.prog ops Q rest (a.put o.dst (.agg #[.string p.k.str, .int .i64 p.k.sym])) w) : wpList Tryz.prog ops Q (o :: rest) a w :=
  wpList_wanted hw fun _ hK => wp_load_at (cs := [.string p.k.str, .int .i64 p.k.sym]) ho hx (fun j v hv => by
    rw [show ((⟨g, 0, none⟩ : Addr).add j) = ⟨g, 0 + j, none⟩ from Addr.add_mid g 0 j, Nat.zero_add]
    refine pb_cells hg j v ?_
    match j, hv with
    | 0, hv => exact hv
    | 1, hv => exact hv
    | n + 2, hv => cases hv) Tryz.underlying23 rfl ksz (hK _ _ h)
/-- its descriptor -/
theorem pd_load {p : Pq} (hw : Region.wanted o (yielded ops a.tmps) = true) (ho : o.op = .load 28 x) (hx : a.eval x = .pointer (some ⟨g, 2, none⟩)) (hg : w.heap[g]? = some (.cells (prA p) t (0, 0)))
    (h : wpList Tryz.prog ops Q rest (a.put o.dst (.agg p.d.cells)) w) : wpList Tryz.prog ops Q (o :: rest) a w :=
  wpList_wanted hw fun _ hK => wp_load_at (cs := p.d.cells.toList) ho hx (fun j v hv => by
    rw [show ((⟨g, 2, none⟩ : Addr).add j) = ⟨g, 2 + j, none⟩ from Addr.add_mid g 2 j]
    refine pb_cells hg (2 + j) v ?_
    rw [show 2 + j = j + 1 + 1 by omega]
    exact hv) Tryz.underlying28 rfl dsz (hK _ _ h)
/-- a descriptor in a block of its own -/
theorem dq_load {d : Dq} (hw : Region.wanted o (yielded ops a.tmps) = true) (ho : o.op = .load 28 x) (hx : a.eval x = .pointer (some ⟨g, 0, none⟩)) (hg : w.heap[g]? = some (.cells d.cells t (0, 0)))
    (h : wpList Tryz.prog ops Q rest (a.put o.dst (.agg d.cells)) w) : wpList Tryz.prog ops Q (o :: rest) a w :=
  wpList_wanted hw fun _ hK => wp_load_row 28 x ho g hx t _ (0, 0) _ hg Tryz.underlying28 rfl dsz (hK _ _ h)
/-- a whole thing stored into a block of the call's own -/
theorem t_store {ty : TypeId} {cs old : Array Value} {B : Nat} {w0 : World} (hgd : o.guard = none) (ho : o.op = .store ty x y) (hx : a.eval x = .pointer (some ⟨g, 0, none⟩)) (hy : a.eval y = .agg cs) (hg : w.heap[g]? = some (.cells old t (0, 0))) (hi : (Tryz.prog.info? ty).map (·.size) = some cs.size) (hold : old.size = cs.size)
    (h1 : cs.all (·.oneCell') = true) (hB : Below B w0 w) (hBg : B ≤ g)
    (h : ∀ W : World, Below B w0 W → W.heap[g]? = some (.cells cs t (0, 0)) → (∀ j, j ≠ g → W.heap[j]? = w.heap[j]?) → W.heap.size = w.heap.size → wpList Tryz.prog ops Q rest (a.put o.dst undef) W) : wpList Tryz.prog ops Q (o :: rest) a w :=
  wpList_store_row hgd ty x y ho g cs hx hy t old hg hi hold h1 (h _ (below_row hB hBg cs) (setRow_heap _ _ _ _ _ _ hg) (fun j hj => setRow_other w g j cs hj) (by simp [World.setRow]))
end
end Go.Proofs.YtbeggameiedjgaaGreatDoor.S
