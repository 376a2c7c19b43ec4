/-
  Properties and their lists: which may be, where a key stands, what Put and Drop make of a list: plain functions.
-/
import Derived.Test.YtlfbflclefndjaaGreatDoorKE11
import Derived.Test.YtlfbflclefndjaaGreatDoorKE12
import Derived.Deep.RegionHeld3
namespace Go.Proofs.YtlfbflclefndjaaGreatDoor.S
open Go.RowKit Fl
open Classical

structure Pq where
  k : Ky
  d : Dq
instance : Inhabited Pq := ⟨⟨⟨⟨#[]⟩, 0⟩, dz 0⟩⟩
def pcl (p : Pq) : List Value := .string p.k.str :: .int .i64 p.k.sym :: p.d.cells.toList
def Pq.In (p : Pq) : Prop := KyIn p.k ∧ p.d.In
def Pq.Ok (p : Pq) : Prop := mayKy p.k ∧ wholeQ p.d = true
noncomputable def mayT (p : Pq) : Int := if mayKy p.k then (if wholeQ p.d = true then 0 else 90) else 9
theorem mayT_ok {p : Pq} : mayT p = 0 ↔ p.Ok := by
  unfold mayT Pq.Ok
  by_cases h : mayKy p.k
  · rw [if_pos h]
    by_cases g : wholeQ p.d = true
    · rw [if_pos g]; exact ⟨fun _ => ⟨h, g⟩, fun _ => rfl⟩
    · rw [if_neg g]; exact ⟨fun e => absurd e (by decide), fun e => absurd e.2 g⟩
  · rw [if_neg h]; exact ⟨fun e => absurd e (by decide), fun e => absurd e.1 h⟩
/-- is the key on the list? -/
def hasK (S : List Pq) (k : Ky) : Bool := S.any fun x => eqK x.k k
theorem hasK_iff {S : List Pq} {k : Ky} : hasK S k = true ↔ ∃ x ∈ S, x.k = k := by
  unfold hasK
  rw [List.any_eq_true]
  exact ⟨fun ⟨x, h, e⟩ => ⟨x, h, eqK_iff.1 e⟩, fun ⟨x, h, e⟩ => ⟨x, h, eqK_iff.2 e⟩⟩
noncomputable def chkL : List Pq → List Pq → Int
  | _, [] => 0
  | S, p :: r => if mayT p = 0 then (bif hasK S p.k then 100 else chkL (S ++ [p]) r) else mayT p
noncomputable def chkT (L : List Pq) : Int := if 1024 < L.length then 4 else chkL [] L
structure TabOk (L : List Pq) : Prop where
  len : L.length ≤ 1024
  all : ∀ p ∈ L, p.Ok
  one : L.Pairwise fun a b => a.k ≠ b.k
theorem chkL_ok : ∀ (r S : List Pq), chkL S r = 0 ↔ (∀ p ∈ r, p.Ok) ∧ r.Pairwise (fun a b => a.k ≠ b.k) ∧ ∀ p ∈ r, ∀ x ∈ S, x.k ≠ p.k
  | [], S => by unfold chkL; simp
  | p :: r, S => by
    unfold chkL
    by_cases h : mayT p = 0
    · rw [if_pos h]
      cases e : hasK S p.k with
      | true =>
        obtain ⟨x, hx, he⟩ := hasK_iff.1 e
        exact ⟨fun a => absurd (show (100 : Int) = 0 from a) (by decide), fun a => absurd he (a.2.2 p (List.mem_cons_self) x hx)⟩
      | false =>
        have hn : ∀ x ∈ S, x.k ≠ p.k := fun x hx he => by rw [hasK_iff.2 ⟨x, hx, he⟩] at e; cases e
        refine (chkL_ok r (S ++ [p])).trans ?_
        constructor
        · rintro ⟨h1, h2, h3⟩
          refine ⟨fun q hq => ?_, List.pairwise_cons.2 ⟨fun b hb => h3 b hb p (by simp), h2⟩, fun q hq x hx => ?_⟩
          · rcases List.mem_cons.1 hq with rfl | hq
            · exact mayT_ok.1 h
            · exact h1 q hq
          · rcases List.mem_cons.1 hq with rfl | hq
            · exact hn x hx
            · exact h3 q hq x (by simp [hx])
        · rintro ⟨h1, h2, h3⟩
          obtain ⟨g1, g2⟩ := List.pairwise_cons.1 h2
          refine ⟨fun q hq => h1 q (List.mem_cons_of_mem _ hq), g2, fun q hq x hx => ?_⟩
          rcases List.mem_append.1 hx with hx | hx
          · exact h3 q (List.mem_cons_of_mem _ hq) x hx
          · obtain rfl := List.mem_singleton.1 hx
            exact g1 q hq
    · rw [if_neg h]
      exact ⟨fun a => absurd a h, fun a => absurd (mayT_ok.2 (a.1 p (List.mem_cons_self))) h⟩
theorem chkT_ok {L : List Pq} : chkT L = 0 ↔ TabOk L := by
  unfold chkT
  by_cases h : 1024 < L.length
  · rw [if_pos h]; exact ⟨fun a => absurd a (by decide), fun a => absurd a.len (by omega)⟩
  · rw [if_neg h]
    refine (chkL_ok L []).trans ⟨fun a => ⟨by omega, a.1, a.2.1⟩, fun a => ⟨a.all, a.one, fun _ _ x hx => by cases hx⟩⟩
theorem chkT_yes {L : List Pq} (h : TabOk L) : chkT L = 0 := chkT_ok.2 h
/-- where a key stands: the list's length where it doesn't -/
def cutN : List Pq → Ky → Nat
  | [], _ => 0
  | p :: r, k => bif eqK p.k k then 0 else cutN r k + 1
theorem cutN_le : ∀ (L : List Pq) (k : Ky), cutN L k ≤ L.length
  | [], _ => Nat.le_refl _
  | p :: r, k => by
    unfold cutN
    cases eqK p.k k with
    | true => exact Nat.zero_le _
    | false => have := cutN_le r k; simp; omega
theorem cutN_mid : ∀ {A : List Pq} {x : Pq} {B : List Pq} {k : Ky}, (∀ y ∈ A, y.k ≠ k) → x.k = k → cutN (A ++ x :: B) k = A.length
  | [], x, B, k, _, h => by show (bif eqK x.k k then 0 else _) = 0; rw [eqK_iff.2 h]; rfl
  | y :: A, x, B, k, h0, h => by
    show (bif eqK y.k k then 0 else cutN (A ++ x :: B) k + 1) = _
    rw [eqK_no (h0 y (List.mem_cons_self)), cutN_mid (fun z hz => h0 z (List.mem_cons_of_mem _ hz)) h]; rfl
theorem cutN_none : ∀ {L : List Pq} {k : Ky}, (∀ y ∈ L, y.k ≠ k) → cutN L k = L.length
  | [], _, _ => rfl
  | y :: L, k, h0 => by
    show (bif eqK y.k k then 0 else cutN L k + 1) = _
    rw [eqK_no (h0 y (List.mem_cons_self)), cutN_none (fun z hz => h0 z (List.mem_cons_of_mem _ hz))]; rfl
theorem cut_ways : ∀ (L : List Pq) (k : Ky), (∀ y ∈ L, y.k ≠ k) ∨ ∃ A x B, L = A ++ x :: B ∧ x.k = k ∧ ∀ y ∈ A, y.k ≠ k
  | [], k => .inl fun y hy => by cases hy
  | p :: r, k => by
    by_cases h : p.k = k
    · exact .inr ⟨[], p, r, rfl, h, fun y hy => by cases hy⟩
    · rcases cut_ways r k with h1 | ⟨A, x, B, rfl, h2, h3⟩
      · exact .inl fun y hy => by
          rcases List.mem_cons.1 hy with rfl | hy
          · exact h
          · exact h1 y hy
      · exact .inr ⟨p :: A, x, B, rfl, h2, fun y hy => by
          rcases List.mem_cons.1 hy with rfl | hy
          · exact h
          · exact h3 y hy⟩
/-- the property of a key -/
def findT (L : List Pq) (k : Ky) : Option Pq := L[cutN L k]?
def putT (L : List Pq) (p : Pq) : List Pq := L.take (cutN L p.k) ++ p :: L.drop (cutN L p.k + 1)
def dropT (L : List Pq) (k : Ky) : List Pq := L.take (cutN L k) ++ L.drop (cutN L k + 1)
theorem find_none {L : List Pq} {k : Ky} (h : ∀ y ∈ L, y.k ≠ k) : findT L k = none := by unfold findT; rw [cutN_none h]; simp
theorem find_mid {A : List Pq} {x : Pq} {B : List Pq} {k : Ky} (h0 : ∀ y ∈ A, y.k ≠ k) (h : x.k = k) : findT (A ++ x :: B) k = some x := by unfold findT; rw [cutN_mid h0 h]; simp
theorem put_none {L : List Pq} {p : Pq} (h : ∀ y ∈ L, y.k ≠ p.k) : putT L p = L ++ [p] := by unfold putT; rw [cutN_none h, List.take_length, List.drop_eq_nil_of_le (Nat.le_succ _)]
theorem put_mid {A : List Pq} {x p : Pq} {B : List Pq} (h0 : ∀ y ∈ A, y.k ≠ p.k) (h : x.k = p.k) : putT (A ++ x :: B) p = A ++ p :: B := by unfold putT; rw [cutN_mid h0 h]; simp
theorem drop_none {L : List Pq} {k : Ky} (h : ∀ y ∈ L, y.k ≠ k) : dropT L k = L := by unfold dropT; rw [cutN_none h, List.take_length, List.drop_eq_nil_of_le (Nat.le_succ _), List.append_nil]
theorem drop_mid {A : List Pq} {x : Pq} {B : List Pq} {k : Ky} (h0 : ∀ y ∈ A, y.k ≠ k) (h : x.k = k) : dropT (A ++ x :: B) k = A ++ B := by unfold dropT; rw [cutN_mid h0 h]; simp
/-- a property that stands under another key is neither here nor there -/
theorem find_skip : ∀ {A : List Pq} {x : Pq} {B : List Pq} {k : Ky}, x.k ≠ k → findT (A ++ x :: B) k = findT (A ++ B) k
  | [], x, B, k, h => by
    unfold findT
    show (x :: B)[bif eqK x.k k then 0 else cutN B k + 1]? = _
    rw [eqK_no h]; rfl
  | y :: A, x, B, k, h => by
    have := find_skip (A := A) (B := B) h
    unfold findT at this ⊢
    show (y :: (A ++ x :: B))[bif eqK y.k k then 0 else cutN (A ++ x :: B) k + 1]? = (y :: (A ++ B))[bif eqK y.k k then 0 else cutN (A ++ B) k + 1]?
    cases eqK y.k k with
    | true => rfl
    | false => simpa using this
theorem pair_mid {A : List Pq} {x : Pq} {B : List Pq} (h : (A ++ x :: B).Pairwise fun a b => a.k ≠ b.k) : (∀ y ∈ A, y.k ≠ x.k) ∧ (∀ y ∈ B, y.k ≠ x.k) ∧ (A ++ B).Pairwise fun a b => a.k ≠ b.k := by
  obtain ⟨h1, h2, h3⟩ := List.pairwise_append.1 h
  obtain ⟨h4, h5⟩ := List.pairwise_cons.1 h2
  exact ⟨fun y hy => h3 y hy x (List.mem_cons_self), fun y hy e => h4 y hy e.symm, List.pairwise_append.2 ⟨h1, h5, fun a ha b hb => h3 a ha b (List.mem_cons_of_mem _ hb)⟩⟩
/-- what Put comes to -/
structure PutTo (L : List Pq) (p : Pq) (M : List Pq) : Prop where
  ok : TabOk M
  found : findT M p.k = some p
  other : ∀ k, k ≠ p.k → findT M k = findT L k
  len : M.length = if (findT L p.k).isSome then L.length else L.length + 1
  keys : ∀ i (h : i < L.length) (h' : i < M.length), M[i].k = L[i].k
theorem put_to {L : List Pq} {p : Pq} (hL : TabOk L) (hp : p.Ok) (hn : cutN L p.k ≠ 1024) : PutTo L p (putT L p) := by
  rcases cut_ways L p.k with h | ⟨A, x, B, rfl, h1, h2⟩
  · rw [put_none h]
    rw [cutN_none h] at hn
    refine ⟨⟨?_, ?_, ?_⟩, find_mid h rfl, fun k hk => ?_, ?_, fun i hi hi' => ?_⟩
    · have := hL.len; simp; omega
    · intro q hq
      rcases List.mem_append.1 hq with hq | hq
      · exact hL.all q hq
      · obtain rfl := List.mem_singleton.1 hq; exact hp
    · refine List.pairwise_append.2 ⟨hL.one, List.pairwise_singleton _ _, fun a ha b hb => ?_⟩
      obtain rfl := List.mem_singleton.1 hb
      exact h a ha
    · rw [find_skip (Ne.symm hk), List.append_nil]
    · rw [find_none h]; simp
    · rw [List.getElem_append_left hi]
  · rw [put_mid h2 h1]
    obtain ⟨g1, g2, g3⟩ := pair_mid hL.one
    refine ⟨⟨?_, ?_, ?_⟩, find_mid h2 rfl, fun k hk => ?_, ?_, fun i hi hi' => ?_⟩
    · have := hL.len; simp at this ⊢; omega
    · intro q hq
      rcases List.mem_append.1 hq with hq | hq
      · exact hL.all q (by simp [hq])
      · rcases List.mem_cons.1 hq with rfl | hq
        · exact hp
        · exact hL.all q (by simp [hq])
    · obtain ⟨p1, p2, p3⟩ := List.pairwise_append.1 g3
      refine List.pairwise_append.2 ⟨p1, List.pairwise_cons.2 ⟨fun b hb e => g2 b hb (by rw [h1]; exact e.symm), p2⟩, fun a ha b hb => ?_⟩
      rcases List.mem_cons.1 hb with rfl | hb
      · exact h2 a ha
      · exact p3 a ha b hb
    · rw [find_skip (Ne.symm hk), find_skip (by rw [h1]; exact Ne.symm hk)]
    · rw [find_mid h2 h1]; simp
    · by_cases c : i < A.length
      · rw [List.getElem_append_left c, List.getElem_append_left c]
      · by_cases e : i = A.length
        · subst e; simp [h1]
        · obtain ⟨j, hj⟩ : ∃ j, i - A.length = j + 1 := ⟨i - A.length - 1, by omega⟩
          rw [List.getElem_append_right (by omega), List.getElem_append_right (by omega)]
          simp only [hj, List.getElem_cons_succ]
/-- what Drop comes to -/
structure DropTo (L : List Pq) (k : Ky) (M : List Pq) : Prop where
  ok : TabOk M
  gone : findT M k = none
  other : ∀ c, c ≠ k → findT M c = findT L c
  rest : L.filter (fun p => !eqK p.k k) = M
theorem fil_all {L : List Pq} {k : Ky} (h : ∀ y ∈ L, y.k ≠ k) : L.filter (fun p => !eqK p.k k) = L := List.filter_eq_self.2 fun y hy => by rw [eqK_no (h y hy)]; rfl
theorem drop_to {L : List Pq} {k : Ky} (hL : TabOk L) : DropTo L k (dropT L k) := by
  rcases cut_ways L k with h | ⟨A, x, B, rfl, h1, h2⟩
  · rw [drop_none h]
    exact ⟨hL, find_none h, fun _ _ => rfl, fil_all h⟩
  · rw [drop_mid h2 h1]
    obtain ⟨g1, g2, g3⟩ := pair_mid hL.one
    have hB : ∀ y ∈ B, y.k ≠ k := fun y hy => by rw [← h1]; exact g2 y hy
    refine ⟨⟨?_, ?_, g3⟩, find_none fun y hy => ?_, fun c hc => ?_, ?_⟩
    · have := hL.len; simp at this ⊢; omega
    · intro q hq
      rcases List.mem_append.1 hq with hq | hq
      · exact hL.all q (by simp [hq])
      · exact hL.all q (by simp [hq])
    · rcases List.mem_append.1 hy with hy | hy
      · exact h2 y hy
      · exact hB y hy
    · rw [find_skip (by rw [h1]; exact Ne.symm hc)]
    · rw [List.filter_append, List.filter_cons_of_neg (by rw [eqK_iff.2 h1]; simp), fil_all h2, fil_all hB]
end Go.Proofs.YtlfbflclefndjaaGreatDoor.S
/-
  Properties in memory: loads and stores of a whole property, of its key, of its descriptor, as laws of one operation; a row of properties wherever it lies.
-/
namespace Go.Proofs.YtlfbflclefndjaaGreatDoor.S
open Go.RowKit Fl

theorem psz : (Tryz.prog.info? 68).map (·.size) = some 18 := by kernel_rfl
theorem ksz : (Tryz.prog.info? 26).map (·.size) = some 2 := by kernel_rfl
def prA (p : Pq) : Array Value := (pcl p).toArray
theorem pcl_len (p : Pq) : (pcl p).length = 18 := rfl
theorem prA_size (p : Pq) : (prA p).size = 18 := rfl
theorem prA_one (p : Pq) : (prA p).all (·.oneCell') = true := cells_one (l := pcl p) rfl
theorem add_blk (a : Addr) (k : Nat) : (a.add k).block = a.block := by unfold Addr.add; split <;> rfl
theorem add_add (a : Addr) (m j : Nat) : (a.add m).add j = a.add (m + j) := by
  unfold Addr.add
  by_cases h : m = 0
  · subst h; simp
  · by_cases g : j = 0
    · subst g; simp [h]
    · simp [h, g, Nat.add_assoc]
/-- properties in a row, wherever it lies -/
def PR (w : World) (A : Option Addr) (L : List Pq) : Prop := 0 < L.length → ∃ a, A = some a ∧ a.block < w.heap.size ∧ ∀ i (h : i < L.length) j u, (pcl L[i])[j]? = some u → w.cell? (a.add (i * 18 + j)) = some u
theorem pr_up {w wr : World} {A : Option Addr} {L : List Pq} (h : PR w A L) (hb : Below w.heap.size w wr) : PR wr A L := fun hp => by
  obtain ⟨a, h1, h2, h3⟩ := h hp
  refine ⟨a, h1, Nat.lt_of_lt_of_le h2 hb.size, fun i hi j u hu => ?_⟩
  rw [hb.cell (by rw [add_blk]; exact h2)]
  exact h3 i hi j u hu
section
variable {ops : Array Oper} {rest : List Oper} {o : Oper} {a : Act} {w : World} {Q : Exit → Act → World → Prop} {x y : Operand} {g i : Nat} {t : TypeId}
theorem run_loadVar_at {A : Addr} {ty : TypeId} {cs : List Value} {d : TypeDesc} (hc : ∀ j v, cs[j]? = some v → w.cell? (A.add j) = some v) (hu : Tryz.prog.underlying ty = some d) (hd : d.isRow = true) (hi : (Tryz.prog.info? ty).map (·.size) = some cs.length) :
    (loadVar ty A).run Tryz.prog w = .ok (.agg cs.toArray) w := by
  have hl : (loadCells A cs.length).run Tryz.prog w = .ok cs.toArray w := run_loadCells_list (P := Tryz.prog) w A cs hc
  cases hq : Tryz.prog.info? ty with
  | none => simp [hq] at hi
  | some i =>
    have hs : i.size = cs.length := by simpa [hq] using hi
    have hagg : (isAgg ty).run Tryz.prog w = .ok true w := by
      unfold isAgg
      rw [Sem.run_bind, run_underlying hu w]
      cases d <;> simp_all
    simp [loadVar, Sem.run_bind, hagg, sizeOf, typeInfo, hq, hs, hl]
theorem run_loadAt_at {A : Addr} {ty : TypeId} {cs : List Value} {d : TypeDesc} (hc : ∀ j v, cs[j]? = some v → w.cell? (A.add j) = some v) (hu : Tryz.prog.underlying ty = some d) (hd : d.isRow = true) (hi : (Tryz.prog.info? ty).map (·.size) = some cs.length) :
    (Instr.loadAt ty (.pointer (some A))).run Tryz.prog w = .ok (.agg cs.toArray) w := by
  simp only [Instr.loadAt, Instr.sureAddr, Sem.run_bind, Sem.run_pure, Result.andThen_ok, run_loadVar_at hc hu hd hi]
theorem wp_load_at {K : Act → World → Prop} {A : Addr} {ty : TypeId} {cs : List Value} {d : TypeDesc} (ho : o.op = .load ty x) (hx : a.eval x = .pointer (some A)) (hc : ∀ j v, cs[j]? = some v → w.cell? (A.add j) = some v)
    (hu : Tryz.prog.underlying ty = some d) (hd : d.isRow = true) (hi : (Tryz.prog.info? ty).map (·.size) = some cs.length) (h : K (a.put o.dst (.agg cs.toArray)) w) : o.wp Tryz.prog a w K Q := by
  unfold Oper.wp execOp
  simp only [ho, hx, run_loadAt_at hc hu hd hi, Sem.run_bind, Sem.run_pure, Result.andThen_ok]
  exact h
/-- a property out of a row -/
theorem p_load {A : Addr} {p : Pq} (hw : Region.wanted o (yielded ops a.tmps) = true) (ho : o.op = .load 68 x) (hx : a.eval x = .pointer (some A)) (hc : ∀ j u, (pcl p)[j]? = some u → w.cell? (A.add j) = some u)
    (h : wpList Tryz.prog ops Q rest (a.put o.dst (.agg (prA p))) w) : wpList Tryz.prog ops Q (o :: rest) a w :=
  wpList_wanted hw fun _ hK => wp_load_at ho hx hc Tryz.underlying68 rfl psz (hK _ _ h)
theorem pb_cells {p : Pq} (hg : w.heap[g]? = some (.cells (prA p) t (0, 0))) (j : Nat) (u : Value) (hu : (pcl p)[j]? = some u) : w.cell? ⟨g, j, none⟩ = some u := by
  rw [vcells hg j]
  simpa [prA] using hu
/-- the key of a property in a block of its own -/
theorem pk_load {p : Pq} (hw : Region.wanted o (yielded ops a.tmps) = true) (ho : o.op = .load 26 x) (hx : a.eval x = .pointer (some ⟨g, 0, none⟩)) (hg : w.heap[g]? = some (.cells (prA p) t (0, 0)))
    (h : wpList Tryz.prog ops Q rest (a.put o.dst (.agg #[.string p.k.str, .int .i64 p.k.sym])) w) : wpList Tryz.prog ops Q (o :: rest) a w :=
  wpList_wanted hw fun _ hK => wp_load_at (cs := [.string p.k.str, .int .i64 p.k.sym]) ho hx (fun j v hv => by
    rw [show ((⟨g, 0, none⟩ : Addr).add j) = ⟨g, 0 + j, none⟩ from Addr.add_mid g 0 j, Nat.zero_add]
    refine pb_cells hg j v ?_
    match j, hv with
    | 0, hv => exact hv
    | 1, hv => exact hv
    | n + 2, hv => cases hv) Tryz.underlying26 rfl ksz (hK _ _ h)
/-- its descriptor -/
theorem pd_load {p : Pq} (hw : Region.wanted o (yielded ops a.tmps) = true) (ho : o.op = .load 41 x) (hx : a.eval x = .pointer (some ⟨g, 2, none⟩)) (hg : w.heap[g]? = some (.cells (prA p) t (0, 0)))
    (h : wpList Tryz.prog ops Q rest (a.put o.dst (.agg p.d.cells)) w) : wpList Tryz.prog ops Q (o :: rest) a w :=
  wpList_wanted hw fun _ hK => wp_load_at (cs := p.d.cells.toList) ho hx (fun j v hv => by
    rw [show ((⟨g, 2, none⟩ : Addr).add j) = ⟨g, 2 + j, none⟩ from Addr.add_mid g 2 j]
    refine pb_cells hg (2 + j) v ?_
    rw [show 2 + j = j + 1 + 1 by omega]
    exact hv) Tryz.underlying41 rfl dsz (hK _ _ h)
/-- a descriptor in a block of its own -/
theorem dq_load {d : Dq} (hw : Region.wanted o (yielded ops a.tmps) = true) (ho : o.op = .load 41 x) (hx : a.eval x = .pointer (some ⟨g, 0, none⟩)) (hg : w.heap[g]? = some (.cells d.cells t (0, 0)))
    (h : wpList Tryz.prog ops Q rest (a.put o.dst (.agg d.cells)) w) : wpList Tryz.prog ops Q (o :: rest) a w :=
  wpList_wanted hw fun _ hK => wp_load_row 41 x ho g hx t _ (0, 0) _ hg Tryz.underlying41 rfl dsz (hK _ _ h)
/-- a whole thing stored into a block of the call's own -/
theorem t_store {ty : TypeId} {cs old : Array Value} {B : Nat} {w0 : World} (hgd : o.guard = none) (ho : o.op = .store ty x y) (hx : a.eval x = .pointer (some ⟨g, 0, none⟩)) (hy : a.eval y = .agg cs) (hg : w.heap[g]? = some (.cells old t (0, 0))) (hi : (Tryz.prog.info? ty).map (·.size) = some cs.size) (hold : old.size = cs.size)
    (h1 : cs.all (·.oneCell') = true) (hB : Below B w0 w) (hBg : B ≤ g)
    (h : ∀ W : World, Below B w0 W → W.heap[g]? = some (.cells cs t (0, 0)) → (∀ j, j ≠ g → W.heap[j]? = w.heap[j]?) → W.heap.size = w.heap.size → wpList Tryz.prog ops Q rest (a.put o.dst undef) W) : wpList Tryz.prog ops Q (o :: rest) a w :=
  wpList_store_row hgd ty x y ho g cs hx hy t old hg hi hold h1 (h _ (below_row hB hBg cs) (setRow_heap _ _ _ _ _ _ hg) (fun j hj => setRow_other w g j cs hj) (by simp [World.setRow]))
end
end Go.Proofs.YtlfbflclefndjaaGreatDoor.S
/-
  Descriptors: complete, become, whole, changes, Compatible, Apply, Complete: walks. Generated: gen_descwalk.py.
-/
namespace Go.Proofs.YtlfbflclefndjaaGreatDoor.S
open Go.RowKit Fl

set_option maxRecDepth 1000000 in
set_option maxHeartbeats 4000000 in
theorem complete_x (h n : Int) (ka : Int) (xa : Nat) (sa : ByteArray) (ra : Int) (kb : Int) (xb : Nat) (sb : ByteArray) (rb : Int) (kc : Int) (xc : Nat) (sc : ByteArray) (rc : Int) (kg : Int) (xg : Nat) (sg : ByteArray) (rg : Int) (ki : Int) (xi : Nat) (si : ByteArray) (ri : Int) (kj : Int) (xj : Nat) (sj : ByteArray) (rj : Int) (p q z p1 q1 z1 : Bool) {acc : Bool} (ha : ∀ w, Calls Tryz.prog 66 #[.agg #[.int .u8 h, .int .u8 ka, .float .f64 xa, .string sa, .int .i64 ra, .int .u8 kb, .float .f64 xb, .string sb, .int .i64 rb, .int .u8 kc, .float .f64 xc, .string sc, .int .i64 rc, .bool p, .bool q, .bool z]] w fun e w' => e = .returned (.bool acc) ∧ Below w.heap.size w w') (l1 : acc = true → ∀ w, Calls Tryz.prog 67 #[.agg #[.int .u8 60, .int .u8 0, .float .f64 0, .string ⟨#[]⟩, .int .i64 0, .int .u8 0, .float .f64 0, .string ⟨#[]⟩, .int .i64 0, .int .u8 0, .float .f64 0, .string ⟨#[]⟩, .int .i64 0, .bool false, .bool false, .bool false], .agg #[.int .u8 h, .int .u8 ka, .float .f64 xa, .string sa, .int .i64 ra, .int .u8 kb, .float .f64 xb, .string sb, .int .i64 rb, .int .u8 kc, .float .f64 xc, .string sc, .int .i64 rc, .bool p, .bool q, .bool z]] w fun e w' => e = .returned (.agg #[.int .u8 n, .int .u8 kg, .float .f64 xg, .string sg, .int .i64 rg, .int .u8 ki, .float .f64 xi, .string si, .int .i64 ri, .int .u8 kj, .float .f64 xj, .string sj, .int .i64 rj, .bool p1, .bool q1, .bool z1]) ∧ Below w.heap.size w w') (l2 : acc = false → ∀ w, Calls Tryz.prog 67 #[.agg #[.int .u8 51, .int .u8 0, .float .f64 0, .string ⟨#[]⟩, .int .i64 0, .int .u8 0, .float .f64 0, .string ⟨#[]⟩, .int .i64 0, .int .u8 0, .float .f64 0, .string ⟨#[]⟩, .int .i64 0, .bool false, .bool false, .bool false], .agg #[.int .u8 h, .int .u8 ka, .float .f64 xa, .string sa, .int .i64 ra, .int .u8 kb, .float .f64 xb, .string sb, .int .i64 rb, .int .u8 kc, .float .f64 xc, .string sc, .int .i64 rc, .bool p, .bool q, .bool z]] w fun e w' => e = .returned (.agg #[.int .u8 n, .int .u8 kg, .float .f64 xg, .string sg, .int .i64 rg, .int .u8 ki, .float .f64 xi, .string si, .int .i64 ri, .int .u8 kj, .float .f64 xj, .string sj, .int .i64 rj, .bool p1, .bool q1, .bool z1]) ∧ Below w.heap.size w w') (w : World) : Calls Tryz.prog 91 #[.agg #[.int .u8 h, .int .u8 ka, .float .f64 xa, .string sa, .int .i64 ra, .int .u8 kb, .float .f64 xb, .string sb, .int .i64 rb, .int .u8 kc, .float .f64 xc, .string sc, .int .i64 rc, .bool p, .bool q, .bool z]] w fun e w' => e = .returned (.agg #[.int .u8 n, .int .u8 kg, .float .f64 xg, .string sg, .int .i64 rg, .int .u8 ki, .float .f64 xi, .string si, .int .i64 ri, .int .u8 kj, .float .f64 xj, .string sj, .int .i64 rj, .bool p1, .bool q1, .bool z1]) ∧ Below w.heap.size w w' := by
  have hB0 : Below w.heap.size w ((w.alloc (.cells #[.int .u8 h, .int .u8 ka, .float .f64 xa, .string sa, .int .i64 ra, .int .u8 kb, .float .f64 xb, .string sb, .int .i64 rb, .int .u8 kc, .float .f64 xc, .string sc, .int .i64 rc, .bool p, .bool q, .bool z] 41)).alloc (.cells #[.int .u8 0, .int .u8 0, .float .f64 0, .string ⟨#[]⟩, .int .i64 0, .int .u8 0, .float .f64 0, .string ⟨#[]⟩, .int .i64 0, .int .u8 0, .float .f64 0, .string ⟨#[]⟩, .int .i64 0, .bool false, .bool false, .bool false] 41)) := vafter (vzero _ _)
  obtain ⟨b1, b2⟩ := vblk2 (w := w) (Below.refl _ ((w.alloc (.cells #[.int .u8 h, .int .u8 ka, .float .f64 xa, .string sa, .int .i64 ra, .int .u8 kb, .float .f64 xb, .string sb, .int .i64 rb, .int .u8 kc, .float .f64 xc, .string sc, .int .i64 rc, .bool p, .bool q, .bool z] 41)).alloc (.cells #[.int .u8 0, .int .u8 0, .float .f64 0, .string ⟨#[]⟩, .int .i64 0, .int .u8 0, .float .f64 0, .string ⟨#[]⟩, .int .i64 0, .int .u8 0, .float .f64 0, .string ⟨#[]⟩, .int .i64 0, .bool false, .bool false, .bool false] 41)))
  cases acc
  · have L := l2 rfl
    clear l1 l2
    go_enter Tryz.func91, Tryz.ntmps91
    go_wp2_with (first | ((with_reducible refine d_load ?_ rfl rfl b1 ?_); (rfl)) | (go_at_call 66; (with_reducible refine (ha _).mono ?_); rintro e w1 ⟨rfl, h1⟩; have b1 := vblkn h1 b1; have b2 := vblkn h1 b2; have hB0 := vb hB0 h1) | (go_at_call 67; (with_reducible refine (L _).mono ?_); rintro e w1 ⟨rfl, h1⟩; have b1 := vblkn h1 b1; have b2 := vblkn h1 b2; have hB0 := vb hB0 h1) | ((with_reducible refine d_store rfl rfl rfl rfl b2 ?_ ?_ ?_); (rfl); (rfl)))
    exact d_end Tryz.results91 rfl (setRow_heap _ _ _ _ _ _ b2) ⟨rfl, below_row hB0 (by omega) _⟩
  · have L := l1 rfl
    clear l1 l2
    go_enter Tryz.func91, Tryz.ntmps91
    go_wp2_with (first | ((with_reducible refine d_load ?_ rfl rfl b1 ?_); (rfl)) | (go_at_call 66; (with_reducible refine (ha _).mono ?_); rintro e w1 ⟨rfl, h1⟩; have b1 := vblkn h1 b1; have b2 := vblkn h1 b2; have hB0 := vb hB0 h1) | (go_at_call 67; (with_reducible refine (L _).mono ?_); rintro e w1 ⟨rfl, h1⟩; have b1 := vblkn h1 b1; have b2 := vblkn h1 b2; have hB0 := vb hB0 h1) | ((with_reducible refine d_store rfl rfl rfl rfl b2 ?_ ?_ ?_); (rfl); (rfl)))
    exact d_end Tryz.results91 rfl (setRow_heap _ _ _ _ _ _ b2) ⟨rfl, below_row hB0 (by omega) _⟩
theorem complete_q (d : Dq) (w : World) : Calls Tryz.prog 91 #[d.val] w fun e w' => e = .returned (completeQ d).val ∧ Below w.heap.size w w' := by
  refine complete_x d.h (completeQ d).h d.a.k d.a.x d.a.s d.a.r d.b.k d.b.x d.b.s d.b.r d.c.k d.c.x d.c.s d.c.r (completeQ d).a.k (completeQ d).a.x (completeQ d).a.s (completeQ d).a.r (completeQ d).b.k (completeQ d).b.x (completeQ d).b.s (completeQ d).b.r (completeQ d).c.k (completeQ d).c.x (completeQ d).c.s (completeQ d).c.r d.p d.q d.z (completeQ d).p (completeQ d).q (completeQ d).z (fun w => IsAccess_q d w) (fun hac w => ?_) (fun hac w => ?_) w
  · have e1 : completeQ d = layQ (dz 60) d := by unfold completeQ; rw [hac]; rfl
    have := lay_q (dz 60) d w
    rw [← e1] at this
    exact this
  · have e1 : completeQ d = layQ (dz 51) d := by unfold completeQ; rw [hac]; rfl
    have := lay_q (dz 51) d w
    rw [← e1] at this
    exact this
section
variable {f : Func} {i j k : Nat} {t : TypeId} {Q : Ending → World → Prop} {tmps : Array Value} {W : World} {g : Nat} {c0 c1 c2 c3 c4 c5 c6 c7 c8 c9 c10 c11 c12 c13 c14 c15 v u : Value}
theorem dldv (h : W.heap[g]? = some (.cells #[c0, c1, c2, c3, c4, c5, c6, c7, c8, c9, c10, c11, c12, c13, c14, c15] t (0, 0))) :
    (loadVar 41 ⟨g, 0, none⟩).run Tryz.prog W = .ok (.agg #[c0, c1, c2, c3, c4, c5, c6, c7, c8, c9, c10, c11, c12, c13, c14, c15]) W := run_loadVar_row W g t 41 _ (0, 0) _ h Tryz.underlying41 rfl dsz
theorem d_end2 (hf : f.results = #[.cell i 41, .tmp j]) (h2 : tmps[i]?.getD undef = .pointer (some ⟨g, 0, none⟩)) (h3 : tmps[j]?.getD undef = v) (hb : W.heap[g]? = some (.cells #[c0, c1, c2, c3, c4, c5, c6, c7, c8, c9, c10, c11, c12, c13, c14, c15] t (0, 0)))
    (hQ : Q (.returned (.tuple #[.agg #[c0, c1, c2, c3, c4, c5, c6, c7, c8, c9, c10, c11, c12, c13, c14, c15], v])) W) : bodyPost Tryz.prog f Q .ret { tmps := tmps, defers := [] } W := by
  have e := dldv hb
  refine bodyPost_ret (v := .tuple #[.agg #[c0, c1, c2, c3, c4, c5, c6, c7, c8, c9, c10, c11, c12, c13, c14, c15], v]) ?_ rfl hQ
  simp [results, hf, h2, h3, asAddr, e]
theorem d_end3 (hf : f.results = #[.cell i 41, .tmp j, .tmp k]) (h2 : tmps[i]?.getD undef = .pointer (some ⟨g, 0, none⟩)) (h3 : tmps[j]?.getD undef = v) (h4 : tmps[k]?.getD undef = u) (hb : W.heap[g]? = some (.cells #[c0, c1, c2, c3, c4, c5, c6, c7, c8, c9, c10, c11, c12, c13, c14, c15] t (0, 0)))
    (hQ : Q (.returned (.tuple #[.agg #[c0, c1, c2, c3, c4, c5, c6, c7, c8, c9, c10, c11, c12, c13, c14, c15], v, u])) W) : bodyPost Tryz.prog f Q .ret { tmps := tmps, defers := [] } W := by
  have e := dldv hb
  refine bodyPost_ret (v := .tuple #[.agg #[c0, c1, c2, c3, c4, c5, c6, c7, c8, c9, c10, c11, c12, c13, c14, c15], v, u]) ?_ rfl hQ
  simp [results, hf, h2, h3, h4, asAddr, e]
end
set_option maxRecDepth 1000000 in
set_option maxHeartbeats 4000000 in
theorem become_x (h m m' n n2 : Int) (ka : Int) (xa : Nat) (sa : ByteArray) (ra : Int) (kb : Int) (xb : Nat) (sb : ByteArray) (rb : Int) (kc : Int) (xc : Nat) (sc : ByteArray) (rc : Int) (kd : Int) (xd : Nat) (sd : ByteArray) (rd : Int) (ke : Int) (xe : Nat) (se : ByteArray) (re : Int) (kf : Int) (xf : Nat) (sf : ByteArray) (rf : Int) (kg : Int) (xg : Nat) (sg : ByteArray) (rg : Int) (ki : Int) (xi : Nat) (si : ByteArray) (ri : Int) (kj : Int) (xj : Nat) (sj : ByteArray) (rj : Int) (kl : Int) (xl : Nat) (sl : ByteArray) (rl : Int) (ko : Int) (xo : Nat) (so : ByteArray) (ro : Int) (kt : Int) (xt : Nat) (st : ByteArray) (rt : Int) (p q z p' q' z' p1 q1 z1 p2 q2 z2 : Bool) {bd ba : Bool} (hd : ∀ w, Calls Tryz.prog 12 #[.agg #[.int .u8 h, .int .u8 ka, .float .f64 xa, .string sa, .int .i64 ra, .int .u8 kb, .float .f64 xb, .string sb, .int .i64 rb, .int .u8 kc, .float .f64 xc, .string sc, .int .i64 rc, .bool p, .bool q, .bool z]] w fun e w' => e = .returned (.bool bd) ∧ Below w.heap.size w w') (ha : ∀ w, Calls Tryz.prog 66 #[.agg #[.int .u8 h, .int .u8 ka, .float .f64 xa, .string sa, .int .i64 ra, .int .u8 kb, .float .f64 xb, .string sb, .int .i64 rb, .int .u8 kc, .float .f64 xc, .string sc, .int .i64 rc, .bool p, .bool q, .bool z]] w fun e w' => e = .returned (.bool ba) ∧ Below w.heap.size w w') (hm : m' = bif bd then bits .andNot .u8 m 12 else bif ba then bits .andNot .u8 m 3 else m) (hl : ∀ w, Calls Tryz.prog 67 #[.agg #[.int .u8 m', .int .u8 kd, .float .f64 xd, .string sd, .int .i64 rd, .int .u8 ke, .float .f64 xe, .string se, .int .i64 re, .int .u8 kf, .float .f64 xf, .string sf, .int .i64 rf, .bool p', .bool q', .bool z'], .agg #[.int .u8 h, .int .u8 ka, .float .f64 xa, .string sa, .int .i64 ra, .int .u8 kb, .float .f64 xb, .string sb, .int .i64 rb, .int .u8 kc, .float .f64 xc, .string sc, .int .i64 rc, .bool p, .bool q, .bool z]] w fun e w' => e = .returned (.agg #[.int .u8 n, .int .u8 kg, .float .f64 xg, .string sg, .int .i64 rg, .int .u8 ki, .float .f64 xi, .string si, .int .i64 ri, .int .u8 kj, .float .f64 xj, .string sj, .int .i64 rj, .bool p1, .bool q1, .bool z1]) ∧ Below w.heap.size w w') (hc : ∀ w, Calls Tryz.prog 91 #[.agg #[.int .u8 n, .int .u8 kg, .float .f64 xg, .string sg, .int .i64 rg, .int .u8 ki, .float .f64 xi, .string si, .int .i64 ri, .int .u8 kj, .float .f64 xj, .string sj, .int .i64 rj, .bool p1, .bool q1, .bool z1]] w fun e w' => e = .returned (.agg #[.int .u8 n2, .int .u8 kl, .float .f64 xl, .string sl, .int .i64 rl, .int .u8 ko, .float .f64 xo, .string so, .int .i64 ro, .int .u8 kt, .float .f64 xt, .string st, .int .i64 rt, .bool p2, .bool q2, .bool z2]) ∧ Below w.heap.size w w') (w : World) : Calls Tryz.prog 92 #[.agg #[.int .u8 h, .int .u8 ka, .float .f64 xa, .string sa, .int .i64 ra, .int .u8 kb, .float .f64 xb, .string sb, .int .i64 rb, .int .u8 kc, .float .f64 xc, .string sc, .int .i64 rc, .bool p, .bool q, .bool z], .agg #[.int .u8 m, .int .u8 kd, .float .f64 xd, .string sd, .int .i64 rd, .int .u8 ke, .float .f64 xe, .string se, .int .i64 re, .int .u8 kf, .float .f64 xf, .string sf, .int .i64 rf, .bool p', .bool q', .bool z']] w fun e w' => e = .returned (.agg #[.int .u8 n2, .int .u8 kl, .float .f64 xl, .string sl, .int .i64 rl, .int .u8 ko, .float .f64 xo, .string so, .int .i64 ro, .int .u8 kt, .float .f64 xt, .string st, .int .i64 rt, .bool p2, .bool q2, .bool z2]) ∧ Below w.heap.size w w' := by
  have hB0 : Below w.heap.size w (((w.alloc (.cells #[.int .u8 h, .int .u8 ka, .float .f64 xa, .string sa, .int .i64 ra, .int .u8 kb, .float .f64 xb, .string sb, .int .i64 rb, .int .u8 kc, .float .f64 xc, .string sc, .int .i64 rc, .bool p, .bool q, .bool z] 41)).alloc (.cells #[.int .u8 m, .int .u8 kd, .float .f64 xd, .string sd, .int .i64 rd, .int .u8 ke, .float .f64 xe, .string se, .int .i64 re, .int .u8 kf, .float .f64 xf, .string sf, .int .i64 rf, .bool p', .bool q', .bool z'] 41)).alloc (.cells #[.int .u8 0, .int .u8 0, .float .f64 0, .string ⟨#[]⟩, .int .i64 0, .int .u8 0, .float .f64 0, .string ⟨#[]⟩, .int .i64 0, .int .u8 0, .float .f64 0, .string ⟨#[]⟩, .int .i64 0, .bool false, .bool false, .bool false] 41)) := vafter2 (vzero _ _)
  obtain ⟨b1, b2, b3⟩ := vblk3 (w := w) (Below.refl _ (((w.alloc (.cells #[.int .u8 h, .int .u8 ka, .float .f64 xa, .string sa, .int .i64 ra, .int .u8 kb, .float .f64 xb, .string sb, .int .i64 rb, .int .u8 kc, .float .f64 xc, .string sc, .int .i64 rc, .bool p, .bool q, .bool z] 41)).alloc (.cells #[.int .u8 m, .int .u8 kd, .float .f64 xd, .string sd, .int .i64 rd, .int .u8 ke, .float .f64 xe, .string se, .int .i64 re, .int .u8 kf, .float .f64 xf, .string sf, .int .i64 rf, .bool p', .bool q', .bool z'] 41)).alloc (.cells #[.int .u8 0, .int .u8 0, .float .f64 0, .string ⟨#[]⟩, .int .i64 0, .int .u8 0, .float .f64 0, .string ⟨#[]⟩, .int .i64 0, .int .u8 0, .float .f64 0, .string ⟨#[]⟩, .int .i64 0, .bool false, .bool false, .bool false] 41)))
  cases bd
  · cases ba
    · replace hm : m' = m := hm
      subst hm
      go_enter Tryz.func92, Tryz.ntmps92
      go_upto_region 5 with (first | ((with_reducible refine d_load ?_ rfl rfl b1 ?_); (rfl)) | (go_at_call 12; (with_reducible refine (hd _).mono ?_); rintro e w1 ⟨rfl, h1⟩; have b1 := vblkn h1 b1; have b2 := vblkn h1 b2; have b3 := vblkn h1 b3; have hB0 := vb hB0 h1) | (go_at_call 66; (with_reducible refine (ha _).mono ?_); rintro e w1 ⟨rfl, h1⟩; have b1 := vblkn h1 b1; have b2 := vblkn h1 b2; have b3 := vblkn h1 b3; have hB0 := vb hB0 h1))
      go_wp2_with (first | ((with_reducible refine d_load ?_ rfl rfl b1 ?_); (rfl)) | ((with_reducible refine d_load ?_ rfl rfl b2 ?_); (rfl)) | (go_at_call 67; (with_reducible refine (hl _).mono ?_); rintro e w1 ⟨rfl, h1⟩; have b1 := vblkn h1 b1; have b2 := vblkn h1 b2; have b3 := vblkn h1 b3; have hB0 := vb hB0 h1) | (go_at_call 91; (with_reducible refine (hc _).mono ?_); rintro e w1 ⟨rfl, h1⟩; have b1 := vblkn h1 b1; have b2 := vblkn h1 b2; have b3 := vblkn h1 b3; have hB0 := vb hB0 h1) | ((with_reducible refine d_store rfl rfl rfl rfl b3 ?_ ?_ ?_); (rfl); (rfl)))
      exact d_end Tryz.results92 rfl (setRow_heap _ _ _ _ _ _ b3) ⟨rfl, below_row hB0 (by omega) _⟩
    · replace hm : m' = bits .andNot .u8 m 3 := hm
      subst hm
      have f2 := fun (W : World) (b2 : W.heap[w.heap.size + 1]? = some (.cells #[.int .u8 m, .int .u8 kd, .float .f64 xd, .string sd, .int .i64 rd, .int .u8 ke, .float .f64 xe, .string se, .int .i64 re, .int .u8 kf, .float .f64 xf, .string sf, .int .i64 rf, .bool p', .bool q', .bool z'] 41 (0, 0))) => (⟨vcells b2 0, vfz b2 0⟩ : W.cell? ⟨w.heap.size + 1, 0, none⟩ = _ ∧ W.frozen? ⟨w.heap.size + 1, 0, none⟩ = _)
      go_enter Tryz.func92, Tryz.ntmps92
      go_upto_region 5 with (first | ((with_reducible refine d_load ?_ rfl rfl b1 ?_); (rfl)) | (go_at_call 12; (with_reducible refine (hd _).mono ?_); rintro e w1 ⟨rfl, h1⟩; have b1 := vblkn h1 b1; have b2 := vblkn h1 b2; have b3 := vblkn h1 b3; obtain ⟨e0, e1⟩ := f2 _ b2; have hB0 := vb hB0 h1) | (go_at_call 66; (with_reducible refine (ha _).mono ?_); rintro e w1 ⟨rfl, h1⟩; have b1 := vblkn h1 b1; have b2 := vblkn h1 b2; have b3 := vblkn h1 b3; obtain ⟨e0, e1⟩ := f2 _ b2; have hB0 := vb hB0 h1))
      have b1 := vset1o (j := w.heap.size + 1) b1 (by omega) 0 (.int .u8 (bits .andNot .u8 m 3))
      have b3 := vset1o (j := w.heap.size + 1) b3 (by omega) 0 (.int .u8 (bits .andNot .u8 m 3))
      have hB0 := hB0.setCell (p := ⟨w.heap.size + 1, 0, none⟩) (Nat.le_succ _) (.int .u8 (bits .andNot .u8 m 3))
      have b2 : (World.setCell _ ⟨w.heap.size + 1, 0, none⟩ (.int .u8 (bits .andNot .u8 m 3))).heap[w.heap.size + 1]? = some (.cells #[.int .u8 (bits .andNot .u8 m 3), .int .u8 kd, .float .f64 xd, .string sd, .int .i64 rd, .int .u8 ke, .float .f64 xe, .string se, .int .i64 re, .int .u8 kf, .float .f64 xf, .string sf, .int .i64 rf, .bool p', .bool q', .bool z'] 41 (0, 0)) := vset1 b2 0 _
      go_wp2_with (first | ((with_reducible refine d_load ?_ rfl rfl b1 ?_); (rfl)) | ((with_reducible refine d_load ?_ rfl rfl b2 ?_); (rfl)) | (go_at_call 67; (with_reducible refine (hl _).mono ?_); rintro e w1 ⟨rfl, h1⟩; have b1 := vblkn h1 b1; have b2 := vblkn h1 b2; have b3 := vblkn h1 b3; have hB0 := vb hB0 h1) | (go_at_call 91; (with_reducible refine (hc _).mono ?_); rintro e w1 ⟨rfl, h1⟩; have b1 := vblkn h1 b1; have b2 := vblkn h1 b2; have b3 := vblkn h1 b3; have hB0 := vb hB0 h1) | ((with_reducible refine d_store rfl rfl rfl rfl b3 ?_ ?_ ?_); (rfl); (rfl)))
      exact d_end Tryz.results92 rfl (setRow_heap _ _ _ _ _ _ b3) ⟨rfl, below_row hB0 (by omega) _⟩
  · replace hm : m' = bits .andNot .u8 m 12 := hm
    subst hm
    have f2 := fun (W : World) (b2 : W.heap[w.heap.size + 1]? = some (.cells #[.int .u8 m, .int .u8 kd, .float .f64 xd, .string sd, .int .i64 rd, .int .u8 ke, .float .f64 xe, .string se, .int .i64 re, .int .u8 kf, .float .f64 xf, .string sf, .int .i64 rf, .bool p', .bool q', .bool z'] 41 (0, 0))) => (⟨vcells b2 0, vfz b2 0⟩ : W.cell? ⟨w.heap.size + 1, 0, none⟩ = _ ∧ W.frozen? ⟨w.heap.size + 1, 0, none⟩ = _)
    go_enter Tryz.func92, Tryz.ntmps92
    go_upto_region 5 with (first | ((with_reducible refine d_load ?_ rfl rfl b1 ?_); (rfl)) | (go_at_call 12; (with_reducible refine (hd _).mono ?_); rintro e w1 ⟨rfl, h1⟩; have b1 := vblkn h1 b1; have b2 := vblkn h1 b2; have b3 := vblkn h1 b3; obtain ⟨e0, e1⟩ := f2 _ b2; have hB0 := vb hB0 h1) | (go_at_call 66; (with_reducible refine (ha _).mono ?_); rintro e w1 ⟨rfl, h1⟩; have b1 := vblkn h1 b1; have b2 := vblkn h1 b2; have b3 := vblkn h1 b3; obtain ⟨e0, e1⟩ := f2 _ b2; have hB0 := vb hB0 h1))
    have b1 := vset1o (j := w.heap.size + 1) b1 (by omega) 0 (.int .u8 (bits .andNot .u8 m 12))
    have b3 := vset1o (j := w.heap.size + 1) b3 (by omega) 0 (.int .u8 (bits .andNot .u8 m 12))
    have hB0 := hB0.setCell (p := ⟨w.heap.size + 1, 0, none⟩) (Nat.le_succ _) (.int .u8 (bits .andNot .u8 m 12))
    have b2 : (World.setCell _ ⟨w.heap.size + 1, 0, none⟩ (.int .u8 (bits .andNot .u8 m 12))).heap[w.heap.size + 1]? = some (.cells #[.int .u8 (bits .andNot .u8 m 12), .int .u8 kd, .float .f64 xd, .string sd, .int .i64 rd, .int .u8 ke, .float .f64 xe, .string se, .int .i64 re, .int .u8 kf, .float .f64 xf, .string sf, .int .i64 rf, .bool p', .bool q', .bool z'] 41 (0, 0)) := vset1 b2 0 _
    go_wp2_with (first | ((with_reducible refine d_load ?_ rfl rfl b1 ?_); (rfl)) | ((with_reducible refine d_load ?_ rfl rfl b2 ?_); (rfl)) | (go_at_call 67; (with_reducible refine (hl _).mono ?_); rintro e w1 ⟨rfl, h1⟩; have b1 := vblkn h1 b1; have b2 := vblkn h1 b2; have b3 := vblkn h1 b3; have hB0 := vb hB0 h1) | (go_at_call 91; (with_reducible refine (hc _).mono ?_); rintro e w1 ⟨rfl, h1⟩; have b1 := vblkn h1 b1; have b2 := vblkn h1 b2; have b3 := vblkn h1 b3; have hB0 := vb hB0 h1) | ((with_reducible refine d_store rfl rfl rfl rfl b3 ?_ ?_ ?_); (rfl); (rfl)))
    exact d_end Tryz.results92 rfl (setRow_heap _ _ _ _ _ _ b3) ⟨rfl, below_row hB0 (by omega) _⟩
end Go.Proofs.YtlfbflclefndjaaGreatDoor.S
/-
  Descriptors: whole, changes, Compatible, Apply, Complete: walks. Generated: gen_descwalk2.py.
-/
namespace Go.Proofs.YtlfbflclefndjaaGreatDoor.S
open Go.RowKit Fl

theorem become_q (d now : Dq) (w : World) : Calls Tryz.prog 92 #[d.val, now.val] w fun e w' => e = .returned (becomeQ d now).val ∧ Below w.heap.size w w' := by
  generalize hX : layQ { now with h := bif hasB d.h 3 then bits .andNot .u8 now.h 12 else bif hasB d.h 12 then bits .andNot .u8 now.h 3 else now.h } d = X
  have e1 : becomeQ d now = completeQ X := by unfold becomeQ; rw [hX]
  rw [e1]
  generalize hY : completeQ X = Y
  exact become_x d.h now.h _ X.h Y.h d.a.k d.a.x d.a.s d.a.r d.b.k d.b.x d.b.s d.b.r d.c.k d.c.x d.c.s d.c.r now.a.k now.a.x now.a.s now.a.r now.b.k now.b.x now.b.s now.b.r now.c.k now.c.x now.c.s now.c.r X.a.k X.a.x X.a.s X.a.r X.b.k X.b.x X.b.s X.b.r X.c.k X.c.x X.c.s X.c.r Y.a.k Y.a.x Y.a.s Y.a.r Y.b.k Y.b.x Y.b.s Y.b.r Y.c.k Y.c.x Y.c.s Y.c.r d.p d.q d.z now.p now.q now.z X.p X.q X.z Y.p Y.q Y.z (fun w => IsData_q d w) (fun w => IsAccess_q d w) rfl (fun w => hX ▸ lay_q _ d w) (fun w => hY ▸ complete_q X w) w
set_option maxRecDepth 1000000 in
set_option maxHeartbeats 4000000 in
theorem whole_x (h : Int) (ka : Int) (xa : Nat) (sa : ByteArray) (ra : Int) (kb : Int) (xb : Nat) (sb : ByteArray) (rb : Int) (kc : Int) (xc : Nat) (sc : ByteArray) (rc : Int) (p q z : Bool) {ck : Bool} (hc : ∀ w, Calls Tryz.prog 40 #[.agg #[.int .u8 h, .int .u8 ka, .float .f64 xa, .string sa, .int .i64 ra, .int .u8 kb, .float .f64 xb, .string sb, .int .i64 rb, .int .u8 kc, .float .f64 xc, .string sc, .int .i64 rc, .bool p, .bool q, .bool z]] w fun e w' => e = .returned (.int .i64 (errI ck)) ∧ Below w.heap.size w w') (w : World) : Calls Tryz.prog 102 #[.agg #[.int .u8 h, .int .u8 ka, .float .f64 xa, .string sa, .int .i64 ra, .int .u8 kb, .float .f64 xb, .string sb, .int .i64 rb, .int .u8 kc, .float .f64 xc, .string sc, .int .i64 rc, .bool p, .bool q, .bool z]] w fun e w' => e = .returned (.bool (ck && (h == 51 || h == 60))) ∧ Below w.heap.size w w' := by
  have hB0 : Below w.heap.size w (w.alloc (.cells #[.int .u8 h, .int .u8 ka, .float .f64 xa, .string sa, .int .i64 ra, .int .u8 kb, .float .f64 xb, .string sb, .int .i64 rb, .int .u8 kc, .float .f64 xc, .string sc, .int .i64 rc, .bool p, .bool q, .bool z] 41)) := vzero _ _
  have b1 := heap_alloc_new w (.cells #[.int .u8 h, .int .u8 ka, .float .f64 xa, .string sa, .int .i64 ra, .int .u8 kb, .float .f64 xb, .string sb, .int .i64 rb, .int .u8 kc, .float .f64 xc, .string sc, .int .i64 rc, .bool p, .bool q, .bool z] 41)
  cases ck
  · have hc : ∀ w, Calls Tryz.prog 40 #[.agg #[.int .u8 h, .int .u8 ka, .float .f64 xa, .string sa, .int .i64 ra, .int .u8 kb, .float .f64 xb, .string sb, .int .i64 rb, .int .u8 kc, .float .f64 xc, .string sc, .int .i64 rc, .bool p, .bool q, .bool z]] w fun e w' => e = .returned (.int .i64 90) ∧ Below w.heap.size w w' := hc
    go_enter Tryz.func102, Tryz.ntmps102
    go_wp2_with (first | ((with_reducible refine d_load ?_ rfl rfl b1 ?_); (rfl)) | (go_at_call 40; (with_reducible refine (hc _).mono ?_); rintro e w1 ⟨rfl, h9⟩; have b1 := vblkn h9 b1; have hB0 := vb hB0 h9))
    go_ret
    exact ⟨rfl, hB0⟩
  · have hc : ∀ w, Calls Tryz.prog 40 #[.agg #[.int .u8 h, .int .u8 ka, .float .f64 xa, .string sa, .int .i64 ra, .int .u8 kb, .float .f64 xb, .string sb, .int .i64 rb, .int .u8 kc, .float .f64 xc, .string sc, .int .i64 rc, .bool p, .bool q, .bool z]] w fun e w' => e = .returned (.int .i64 0) ∧ Below w.heap.size w w' := hc
    rcases Bool.eq_false_or_eq_true (h == 51) with n0 | n0
    all_goals
      go_enter Tryz.func102, Tryz.ntmps102
      go_wp2_with (first | ((with_reducible refine d_load ?_ rfl rfl b1 ?_); (rfl)) | (go_at_call 40; (with_reducible refine (hc _).mono ?_); rintro e w1 ⟨rfl, h9⟩; have b1 := vblkn h9 b1; have e0 := vcells b1 0; have hB0 := vb hB0 h9))
      go_ret
      exact ⟨dret (by rw [n0]; rfl), hB0⟩
theorem whole_q {d : Dq} (hd : d.In) (w : World) : Calls Tryz.prog 102 #[d.val] w fun e w' => e = .returned (.bool (wholeQ d)) ∧ Below w.heap.size w w' :=
  whole_x d.h d.a.k d.a.x d.a.s d.a.r d.b.k d.b.x d.b.s d.b.r d.c.k d.c.x d.c.s d.c.r d.p d.q d.z (fun w => Check_q hd w) w
set_option maxRecDepth 1000000 in
set_option maxHeartbeats 4000000 in
theorem Compatible_x (ext found : Bool) (h m : Int) (ka : Int) (xa : Nat) (sa : ByteArray) (ra : Int) (kb : Int) (xb : Nat) (sb : ByteArray) (rb : Int) (kc : Int) (xc : Nat) (sc : ByteArray) (rc : Int) (kd : Int) (xd : Nat) (sd : ByteArray) (rd : Int) (ke : Int) (xe : Nat) (se : ByteArray) (re : Int) (kf : Int) (xf : Nat) (sf : ByteArray) (rf : Int) (p q z p' q' z' : Bool) {ck wh ch : Bool} (hc : ∀ w, Calls Tryz.prog 40 #[.agg #[.int .u8 h, .int .u8 ka, .float .f64 xa, .string sa, .int .i64 ra, .int .u8 kb, .float .f64 xb, .string sb, .int .i64 rb, .int .u8 kc, .float .f64 xc, .string sc, .int .i64 rc, .bool p, .bool q, .bool z]] w fun e w' => e = .returned (.int .i64 (errI ck)) ∧ Below w.heap.size w w') (hw : found = true → ∀ w, Calls Tryz.prog 102 #[.agg #[.int .u8 m, .int .u8 kd, .float .f64 xd, .string sd, .int .i64 rd, .int .u8 ke, .float .f64 xe, .string se, .int .i64 re, .int .u8 kf, .float .f64 xf, .string sf, .int .i64 rf, .bool p', .bool q', .bool z']] w fun e w' => e = .returned (.bool wh) ∧ Below w.heap.size w w') (hg : ck = true → found = true → wh = true → ∀ w, Calls Tryz.prog 103 #[.agg #[.int .u8 h, .int .u8 ka, .float .f64 xa, .string sa, .int .i64 ra, .int .u8 kb, .float .f64 xb, .string sb, .int .i64 rb, .int .u8 kc, .float .f64 xc, .string sc, .int .i64 rc, .bool p, .bool q, .bool z], .agg #[.int .u8 m, .int .u8 kd, .float .f64 xd, .string sd, .int .i64 rd, .int .u8 ke, .float .f64 xe, .string se, .int .i64 re, .int .u8 kf, .float .f64 xf, .string sf, .int .i64 rf, .bool p', .bool q', .bool z']] w fun e w' => e = .returned (.bool ch) ∧ Below w.heap.size w w') (w : World) : Calls Tryz.prog 90 #[.bool ext, .agg #[.int .u8 h, .int .u8 ka, .float .f64 xa, .string sa, .int .i64 ra, .int .u8 kb, .float .f64 xb, .string sb, .int .i64 rb, .int .u8 kc, .float .f64 xc, .string sc, .int .i64 rc, .bool p, .bool q, .bool z], .bool found, .agg #[.int .u8 m, .int .u8 kd, .float .f64 xd, .string sd, .int .i64 rd, .int .u8 ke, .float .f64 xe, .string se, .int .i64 re, .int .u8 kf, .float .f64 xf, .string sf, .int .i64 rf, .bool p', .bool q', .bool z']] w fun e w' => e = .returned (.tuple #[.bool (bif !ck || (found && !wh) then false else bif !found then ext else ch), .int .i64 (bif !ck || (found && !wh) then 90 else 0)]) ∧ Below w.heap.size w w' := by
  have hB0 : Below w.heap.size w ((w.alloc (.cells #[.int .u8 h, .int .u8 ka, .float .f64 xa, .string sa, .int .i64 ra, .int .u8 kb, .float .f64 xb, .string sb, .int .i64 rb, .int .u8 kc, .float .f64 xc, .string sc, .int .i64 rc, .bool p, .bool q, .bool z] 41)).alloc (.cells #[.int .u8 m, .int .u8 kd, .float .f64 xd, .string sd, .int .i64 rd, .int .u8 ke, .float .f64 xe, .string se, .int .i64 re, .int .u8 kf, .float .f64 xf, .string sf, .int .i64 rf, .bool p', .bool q', .bool z'] 41)) := vafter (vzero _ _)
  obtain ⟨b1, b2⟩ := vblk2 (w := w) (Below.refl _ ((w.alloc (.cells #[.int .u8 h, .int .u8 ka, .float .f64 xa, .string sa, .int .i64 ra, .int .u8 kb, .float .f64 xb, .string sb, .int .i64 rb, .int .u8 kc, .float .f64 xc, .string sc, .int .i64 rc, .bool p, .bool q, .bool z] 41)).alloc (.cells #[.int .u8 m, .int .u8 kd, .float .f64 xd, .string sd, .int .i64 rd, .int .u8 ke, .float .f64 xe, .string se, .int .i64 re, .int .u8 kf, .float .f64 xf, .string sf, .int .i64 rf, .bool p', .bool q', .bool z'] 41)))
  cases ck
  · clear hg hw
    have hc : ∀ w, Calls Tryz.prog 40 #[.agg #[.int .u8 h, .int .u8 ka, .float .f64 xa, .string sa, .int .i64 ra, .int .u8 kb, .float .f64 xb, .string sb, .int .i64 rb, .int .u8 kc, .float .f64 xc, .string sc, .int .i64 rc, .bool p, .bool q, .bool z]] w fun e w' => e = .returned (.int .i64 90) ∧ Below w.heap.size w w' := hc
    go_enter Tryz.func90, Tryz.ntmps90
    go_wp2_with (first | ((with_reducible refine d_load ?_ rfl rfl b1 ?_); (rfl)) | ((with_reducible refine d_load ?_ rfl rfl b2 ?_); (rfl)) | (go_at_call 40; (with_reducible refine (hc _).mono ?_); rintro e w1 ⟨rfl, h9⟩; have b1 := vblkn h9 b1; have b2 := vblkn h9 b2; have hB0 := vb hB0 h9))
    go_ret2
    exact ⟨rfl, hB0⟩
  · have hc : ∀ w, Calls Tryz.prog 40 #[.agg #[.int .u8 h, .int .u8 ka, .float .f64 xa, .string sa, .int .i64 ra, .int .u8 kb, .float .f64 xb, .string sb, .int .i64 rb, .int .u8 kc, .float .f64 xc, .string sc, .int .i64 rc, .bool p, .bool q, .bool z]] w fun e w' => e = .returned (.int .i64 0) ∧ Below w.heap.size w w' := hc
    cases found
    · clear hg hw
      go_enter Tryz.func90, Tryz.ntmps90
      go_wp2_with (first | ((with_reducible refine d_load ?_ rfl rfl b1 ?_); (rfl)) | ((with_reducible refine d_load ?_ rfl rfl b2 ?_); (rfl)) | (go_at_call 40; (with_reducible refine (hc _).mono ?_); rintro e w1 ⟨rfl, h9⟩; have b1 := vblkn h9 b1; have b2 := vblkn h9 b2; have hB0 := vb hB0 h9))
      go_ret2
      exact ⟨rfl, hB0⟩
    · have HW := hw rfl
      clear hw
      cases wh
      · clear hg
        go_enter Tryz.func90, Tryz.ntmps90
        go_wp2_with (first | ((with_reducible refine d_load ?_ rfl rfl b1 ?_); (rfl)) | ((with_reducible refine d_load ?_ rfl rfl b2 ?_); (rfl)) | (go_at_call 40; (with_reducible refine (hc _).mono ?_); rintro e w1 ⟨rfl, h9⟩; have b1 := vblkn h9 b1; have b2 := vblkn h9 b2; have hB0 := vb hB0 h9) | (go_at_call 102; (with_reducible refine (HW _).mono ?_); rintro e w1 ⟨rfl, h9⟩; have b1 := vblkn h9 b1; have b2 := vblkn h9 b2; have hB0 := vb hB0 h9))
        go_ret2
        exact ⟨rfl, hB0⟩
      · have HG := hg rfl rfl rfl
        clear hg
        go_enter Tryz.func90, Tryz.ntmps90
        go_wp2_with (first | ((with_reducible refine d_load ?_ rfl rfl b1 ?_); (rfl)) | ((with_reducible refine d_load ?_ rfl rfl b2 ?_); (rfl)) | (go_at_call 40; (with_reducible refine (hc _).mono ?_); rintro e w1 ⟨rfl, h9⟩; have b1 := vblkn h9 b1; have b2 := vblkn h9 b2; have hB0 := vb hB0 h9) | (go_at_call 102; (with_reducible refine (HW _).mono ?_); rintro e w1 ⟨rfl, h9⟩; have b1 := vblkn h9 b1; have b2 := vblkn h9 b2; have hB0 := vb hB0 h9) | (go_at_call 103; (with_reducible refine (HG _).mono ?_); rintro e w1 ⟨rfl, h9⟩; have b1 := vblkn h9 b1; have b2 := vblkn h9 b2; have hB0 := vb hB0 h9))
        go_ret2
        exact ⟨rfl, hB0⟩
set_option maxRecDepth 1000000 in
set_option maxHeartbeats 4000000 in
theorem Apply_x (ext found : Bool) (h m n : Int) (ka : Int) (xa : Nat) (sa : ByteArray) (ra : Int) (kb : Int) (xb : Nat) (sb : ByteArray) (rb : Int) (kc : Int) (xc : Nat) (sc : ByteArray) (rc : Int) (kd : Int) (xd : Nat) (sd : ByteArray) (rd : Int) (ke : Int) (xe : Nat) (se : ByteArray) (re : Int) (kf : Int) (xf : Nat) (sf : ByteArray) (rf : Int) (kg : Int) (xg : Nat) (sg : ByteArray) (rg : Int) (ki : Int) (xi : Nat) (si : ByteArray) (ri : Int) (kj : Int) (xj : Nat) (sj : ByteArray) (rj : Int) (p q z p' q' z' p1 q1 z1 : Bool) {may : Bool} {er : Int} (hc : ∀ w, Calls Tryz.prog 90 #[.bool ext, .agg #[.int .u8 h, .int .u8 ka, .float .f64 xa, .string sa, .int .i64 ra, .int .u8 kb, .float .f64 xb, .string sb, .int .i64 rb, .int .u8 kc, .float .f64 xc, .string sc, .int .i64 rc, .bool p, .bool q, .bool z], .bool found, .agg #[.int .u8 m, .int .u8 kd, .float .f64 xd, .string sd, .int .i64 rd, .int .u8 ke, .float .f64 xe, .string se, .int .i64 re, .int .u8 kf, .float .f64 xf, .string sf, .int .i64 rf, .bool p', .bool q', .bool z']] w fun e w' => e = .returned (.tuple #[.bool may, .int .i64 er]) ∧ Below w.heap.size w w') (h1 : found = false → ∀ w, Calls Tryz.prog 91 #[.agg #[.int .u8 h, .int .u8 ka, .float .f64 xa, .string sa, .int .i64 ra, .int .u8 kb, .float .f64 xb, .string sb, .int .i64 rb, .int .u8 kc, .float .f64 xc, .string sc, .int .i64 rc, .bool p, .bool q, .bool z]] w fun e w' => e = .returned (.agg #[.int .u8 n, .int .u8 kg, .float .f64 xg, .string sg, .int .i64 rg, .int .u8 ki, .float .f64 xi, .string si, .int .i64 ri, .int .u8 kj, .float .f64 xj, .string sj, .int .i64 rj, .bool p1, .bool q1, .bool z1]) ∧ Below w.heap.size w w') (h2 : found = true → ∀ w, Calls Tryz.prog 92 #[.agg #[.int .u8 h, .int .u8 ka, .float .f64 xa, .string sa, .int .i64 ra, .int .u8 kb, .float .f64 xb, .string sb, .int .i64 rb, .int .u8 kc, .float .f64 xc, .string sc, .int .i64 rc, .bool p, .bool q, .bool z], .agg #[.int .u8 m, .int .u8 kd, .float .f64 xd, .string sd, .int .i64 rd, .int .u8 ke, .float .f64 xe, .string se, .int .i64 re, .int .u8 kf, .float .f64 xf, .string sf, .int .i64 rf, .bool p', .bool q', .bool z']] w fun e w' => e = .returned (.agg #[.int .u8 n, .int .u8 kg, .float .f64 xg, .string sg, .int .i64 rg, .int .u8 ki, .float .f64 xi, .string si, .int .i64 ri, .int .u8 kj, .float .f64 xj, .string sj, .int .i64 rj, .bool p1, .bool q1, .bool z1]) ∧ Below w.heap.size w w') (he : may = true → er = 0) (w : World) : Calls Tryz.prog 73 #[.bool ext, .agg #[.int .u8 h, .int .u8 ka, .float .f64 xa, .string sa, .int .i64 ra, .int .u8 kb, .float .f64 xb, .string sb, .int .i64 rb, .int .u8 kc, .float .f64 xc, .string sc, .int .i64 rc, .bool p, .bool q, .bool z], .bool found, .agg #[.int .u8 m, .int .u8 kd, .float .f64 xd, .string sd, .int .i64 rd, .int .u8 ke, .float .f64 xe, .string se, .int .i64 re, .int .u8 kf, .float .f64 xf, .string sf, .int .i64 rf, .bool p', .bool q', .bool z']] w fun e w' => (may = false → e = .returned (.tuple #[.agg #[.int .u8 0, .int .u8 0, .float .f64 0, .string ⟨#[]⟩, .int .i64 0, .int .u8 0, .float .f64 0, .string ⟨#[]⟩, .int .i64 0, .int .u8 0, .float .f64 0, .string ⟨#[]⟩, .int .i64 0, .bool false, .bool false, .bool false], .bool false, .int .i64 er])) ∧ (may = true → e = .returned (.tuple #[.agg #[.int .u8 n, .int .u8 kg, .float .f64 xg, .string sg, .int .i64 rg, .int .u8 ki, .float .f64 xi, .string si, .int .i64 ri, .int .u8 kj, .float .f64 xj, .string sj, .int .i64 rj, .bool p1, .bool q1, .bool z1], .bool true, .int .i64 0])) ∧ Below w.heap.size w w' := by
  have hB0 : Below w.heap.size w (((w.alloc (.cells #[.int .u8 h, .int .u8 ka, .float .f64 xa, .string sa, .int .i64 ra, .int .u8 kb, .float .f64 xb, .string sb, .int .i64 rb, .int .u8 kc, .float .f64 xc, .string sc, .int .i64 rc, .bool p, .bool q, .bool z] 41)).alloc (.cells #[.int .u8 m, .int .u8 kd, .float .f64 xd, .string sd, .int .i64 rd, .int .u8 ke, .float .f64 xe, .string se, .int .i64 re, .int .u8 kf, .float .f64 xf, .string sf, .int .i64 rf, .bool p', .bool q', .bool z'] 41)).alloc (.cells #[.int .u8 0, .int .u8 0, .float .f64 0, .string ⟨#[]⟩, .int .i64 0, .int .u8 0, .float .f64 0, .string ⟨#[]⟩, .int .i64 0, .int .u8 0, .float .f64 0, .string ⟨#[]⟩, .int .i64 0, .bool false, .bool false, .bool false] 41)) := vafter2 (vzero _ _)
  obtain ⟨b1, b2, b3⟩ := vblk3 (w := w) (Below.refl _ (((w.alloc (.cells #[.int .u8 h, .int .u8 ka, .float .f64 xa, .string sa, .int .i64 ra, .int .u8 kb, .float .f64 xb, .string sb, .int .i64 rb, .int .u8 kc, .float .f64 xc, .string sc, .int .i64 rc, .bool p, .bool q, .bool z] 41)).alloc (.cells #[.int .u8 m, .int .u8 kd, .float .f64 xd, .string sd, .int .i64 rd, .int .u8 ke, .float .f64 xe, .string se, .int .i64 re, .int .u8 kf, .float .f64 xf, .string sf, .int .i64 rf, .bool p', .bool q', .bool z'] 41)).alloc (.cells #[.int .u8 0, .int .u8 0, .float .f64 0, .string ⟨#[]⟩, .int .i64 0, .int .u8 0, .float .f64 0, .string ⟨#[]⟩, .int .i64 0, .int .u8 0, .float .f64 0, .string ⟨#[]⟩, .int .i64 0, .bool false, .bool false, .bool false] 41)))
  cases may
  · clear h1 h2 he
    go_enter Tryz.func73, Tryz.ntmps73
    go_wp2_with (first | ((with_reducible refine d_load ?_ rfl rfl b1 ?_); (rfl)) | ((with_reducible refine d_load ?_ rfl rfl b2 ?_); (rfl)) | (go_at_call 90; (with_reducible refine (hc _).mono ?_); rintro e w1 ⟨rfl, h9⟩; have b1 := vblkn h9 b1; have b2 := vblkn h9 b2; have b3 := vblkn h9 b3; have hB0 := vb hB0 h9) | ((with_reducible refine d_store rfl rfl rfl rfl b3 ?_ ?_ ?_); (rfl); (rfl)))
    exact d_end3 Tryz.results73 rfl rfl rfl (setRow_heap _ _ _ _ _ _ b3) ⟨fun _ => rfl, (fun h => by cases h), below_row hB0 (by omega) _⟩
  · obtain rfl := he rfl
    cases found
    · have L1 := h1 rfl
      clear h1
      clear h2
      go_enter Tryz.func73, Tryz.ntmps73
      go_wp2_with (first | ((with_reducible refine d_load ?_ rfl rfl b1 ?_); (rfl)) | ((with_reducible refine d_load ?_ rfl rfl b2 ?_); (rfl)) | (go_at_call 90; (with_reducible refine (hc _).mono ?_); rintro e w1 ⟨rfl, h9⟩; have b1 := vblkn h9 b1; have b2 := vblkn h9 b2; have b3 := vblkn h9 b3; have hB0 := vb hB0 h9) | ((with_reducible refine d_store rfl rfl rfl rfl b3 ?_ ?_ ?_); (rfl); (rfl)) | (go_at_call 91; (with_reducible refine (L1 _).mono ?_); rintro e w1 ⟨rfl, h9⟩; have b1 := vblkn h9 b1; have b2 := vblkn h9 b2; have b3 := vblkn h9 b3; have hB0 := vb hB0 h9))
      exact d_end3 Tryz.results73 rfl rfl rfl (setRow_heap _ _ _ _ _ _ b3) ⟨(fun h => by cases h), fun _ => rfl, below_row hB0 (by omega) _⟩
    · have L1 := h2 rfl
      clear h2
      clear h1
      go_enter Tryz.func73, Tryz.ntmps73
      go_wp2_with (first | ((with_reducible refine d_load ?_ rfl rfl b1 ?_); (rfl)) | ((with_reducible refine d_load ?_ rfl rfl b2 ?_); (rfl)) | (go_at_call 90; (with_reducible refine (hc _).mono ?_); rintro e w1 ⟨rfl, h9⟩; have b1 := vblkn h9 b1; have b2 := vblkn h9 b2; have b3 := vblkn h9 b3; have hB0 := vb hB0 h9) | ((with_reducible refine d_store rfl rfl rfl rfl b3 ?_ ?_ ?_); (rfl); (rfl)) | (go_at_call 92; (with_reducible refine (L1 _).mono ?_); rintro e w1 ⟨rfl, h9⟩; have b1 := vblkn h9 b1; have b2 := vblkn h9 b2; have b3 := vblkn h9 b3; have hB0 := vb hB0 h9))
      exact d_end3 Tryz.results73 rfl rfl rfl (setRow_heap _ _ _ _ _ _ b3) ⟨(fun h => by cases h), fun _ => rfl, below_row hB0 (by omega) _⟩
set_option maxRecDepth 1000000 in
set_option maxHeartbeats 4000000 in
theorem Complete_x (h n : Int) (ka : Int) (xa : Nat) (sa : ByteArray) (ra : Int) (kb : Int) (xb : Nat) (sb : ByteArray) (rb : Int) (kc : Int) (xc : Nat) (sc : ByteArray) (rc : Int) (kg : Int) (xg : Nat) (sg : ByteArray) (rg : Int) (ki : Int) (xi : Nat) (si : ByteArray) (ri : Int) (kj : Int) (xj : Nat) (sj : ByteArray) (rj : Int) (p q z p1 q1 z1 : Bool) {ck : Bool} (hc : ∀ w, Calls Tryz.prog 40 #[.agg #[.int .u8 h, .int .u8 ka, .float .f64 xa, .string sa, .int .i64 ra, .int .u8 kb, .float .f64 xb, .string sb, .int .i64 rb, .int .u8 kc, .float .f64 xc, .string sc, .int .i64 rc, .bool p, .bool q, .bool z]] w fun e w' => e = .returned (.int .i64 (errI ck)) ∧ Below w.heap.size w w') (h1 : ∀ w, Calls Tryz.prog 91 #[.agg #[.int .u8 h, .int .u8 ka, .float .f64 xa, .string sa, .int .i64 ra, .int .u8 kb, .float .f64 xb, .string sb, .int .i64 rb, .int .u8 kc, .float .f64 xc, .string sc, .int .i64 rc, .bool p, .bool q, .bool z]] w fun e w' => e = .returned (.agg #[.int .u8 n, .int .u8 kg, .float .f64 xg, .string sg, .int .i64 rg, .int .u8 ki, .float .f64 xi, .string si, .int .i64 ri, .int .u8 kj, .float .f64 xj, .string sj, .int .i64 rj, .bool p1, .bool q1, .bool z1]) ∧ Below w.heap.size w w') (w : World) : Calls Tryz.prog 97 #[.agg #[.int .u8 h, .int .u8 ka, .float .f64 xa, .string sa, .int .i64 ra, .int .u8 kb, .float .f64 xb, .string sb, .int .i64 rb, .int .u8 kc, .float .f64 xc, .string sc, .int .i64 rc, .bool p, .bool q, .bool z]] w fun e w' => (ck = false → e = .returned (.tuple #[.agg #[.int .u8 0, .int .u8 0, .float .f64 0, .string ⟨#[]⟩, .int .i64 0, .int .u8 0, .float .f64 0, .string ⟨#[]⟩, .int .i64 0, .int .u8 0, .float .f64 0, .string ⟨#[]⟩, .int .i64 0, .bool false, .bool false, .bool false], .int .i64 90])) ∧ (ck = true → e = .returned (.tuple #[.agg #[.int .u8 n, .int .u8 kg, .float .f64 xg, .string sg, .int .i64 rg, .int .u8 ki, .float .f64 xi, .string si, .int .i64 ri, .int .u8 kj, .float .f64 xj, .string sj, .int .i64 rj, .bool p1, .bool q1, .bool z1], .int .i64 0])) ∧ Below w.heap.size w w' := by
  have hB0 : Below w.heap.size w ((w.alloc (.cells #[.int .u8 h, .int .u8 ka, .float .f64 xa, .string sa, .int .i64 ra, .int .u8 kb, .float .f64 xb, .string sb, .int .i64 rb, .int .u8 kc, .float .f64 xc, .string sc, .int .i64 rc, .bool p, .bool q, .bool z] 41)).alloc (.cells #[.int .u8 0, .int .u8 0, .float .f64 0, .string ⟨#[]⟩, .int .i64 0, .int .u8 0, .float .f64 0, .string ⟨#[]⟩, .int .i64 0, .int .u8 0, .float .f64 0, .string ⟨#[]⟩, .int .i64 0, .bool false, .bool false, .bool false] 41)) := vafter (vzero _ _)
  obtain ⟨b1, b2⟩ := vblk2 (w := w) (Below.refl _ ((w.alloc (.cells #[.int .u8 h, .int .u8 ka, .float .f64 xa, .string sa, .int .i64 ra, .int .u8 kb, .float .f64 xb, .string sb, .int .i64 rb, .int .u8 kc, .float .f64 xc, .string sc, .int .i64 rc, .bool p, .bool q, .bool z] 41)).alloc (.cells #[.int .u8 0, .int .u8 0, .float .f64 0, .string ⟨#[]⟩, .int .i64 0, .int .u8 0, .float .f64 0, .string ⟨#[]⟩, .int .i64 0, .int .u8 0, .float .f64 0, .string ⟨#[]⟩, .int .i64 0, .bool false, .bool false, .bool false] 41)))
  cases ck
  · have hc : ∀ w, Calls Tryz.prog 40 #[.agg #[.int .u8 h, .int .u8 ka, .float .f64 xa, .string sa, .int .i64 ra, .int .u8 kb, .float .f64 xb, .string sb, .int .i64 rb, .int .u8 kc, .float .f64 xc, .string sc, .int .i64 rc, .bool p, .bool q, .bool z]] w fun e w' => e = .returned (.int .i64 90) ∧ Below w.heap.size w w' := hc
    go_enter Tryz.func97, Tryz.ntmps97
    go_wp2_with (first | ((with_reducible refine d_load ?_ rfl rfl b1 ?_); (rfl)) | (go_at_call 40; (with_reducible refine (hc _).mono ?_); rintro e w1 ⟨rfl, h9⟩; have b1 := vblkn h9 b1; have b2 := vblkn h9 b2; have hB0 := vb hB0 h9) | (go_at_call 91; (with_reducible refine (h1 _).mono ?_); rintro e w1 ⟨rfl, h9⟩; have b1 := vblkn h9 b1; have b2 := vblkn h9 b2; have hB0 := vb hB0 h9) | ((with_reducible refine d_store rfl rfl rfl rfl b2 ?_ ?_ ?_); (rfl); (rfl)))
    exact d_end2 Tryz.results97 rfl rfl (setRow_heap _ _ _ _ _ _ b2) ⟨fun _ => rfl, (fun h => by cases h), below_row hB0 (by omega) _⟩
  · have hc : ∀ w, Calls Tryz.prog 40 #[.agg #[.int .u8 h, .int .u8 ka, .float .f64 xa, .string sa, .int .i64 ra, .int .u8 kb, .float .f64 xb, .string sb, .int .i64 rb, .int .u8 kc, .float .f64 xc, .string sc, .int .i64 rc, .bool p, .bool q, .bool z]] w fun e w' => e = .returned (.int .i64 0) ∧ Below w.heap.size w w' := hc
    go_enter Tryz.func97, Tryz.ntmps97
    go_wp2_with (first | ((with_reducible refine d_load ?_ rfl rfl b1 ?_); (rfl)) | (go_at_call 40; (with_reducible refine (hc _).mono ?_); rintro e w1 ⟨rfl, h9⟩; have b1 := vblkn h9 b1; have b2 := vblkn h9 b2; have hB0 := vb hB0 h9) | (go_at_call 91; (with_reducible refine (h1 _).mono ?_); rintro e w1 ⟨rfl, h9⟩; have b1 := vblkn h9 b1; have b2 := vblkn h9 b2; have hB0 := vb hB0 h9) | ((with_reducible refine d_store rfl rfl rfl rfl b2 ?_ ?_ ?_); (rfl); (rfl)))
    exact d_end2 Tryz.results97 rfl rfl (setRow_heap _ _ _ _ _ _ b2) ⟨(fun h => by cases h), fun _ => rfl, below_row hB0 (by omega) _⟩
end Go.Proofs.YtlfbflclefndjaaGreatDoor.S
