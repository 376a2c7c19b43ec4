/-
  post.Name, post.Method, and the document's own: traps have their names.
-/
import Derived.Test.YtlfbflclefndjaaDescOps
import Derived.Deep.LoopGhost
namespace Go.Proofs.Ytlfbflclefndjaa.S
open Go.RowKit Go.Lib Fl

def namesB : List ByteArray := [⟨#[]⟩, (⟨#[103, 101, 116, 80, 114, 111, 116, 111, 116, 121, 112, 101, 79, 102]⟩ : ByteArray), (⟨#[115, 101, 116, 80, 114, 111, 116, 111, 116, 121, 112, 101, 79, 102]⟩ : ByteArray), (⟨#[105, 115, 69, 120, 116, 101, 110, 115, 105, 98, 108, 101]⟩ : ByteArray), (⟨#[112, 114, 101, 118, 101, 110, 116, 69, 120, 116, 101, 110, 115, 105, 111, 110, 115]⟩ : ByteArray), (⟨#[103, 101, 116, 79, 119, 110, 80, 114, 111, 112, 101, 114, 116, 121, 68, 101, 115, 99, 114, 105, 112, 116, 111, 114]⟩ : ByteArray), (⟨#[100, 101, 102, 105, 110, 101, 80, 114, 111, 112, 101, 114, 116, 121]⟩ : ByteArray), (⟨#[104, 97, 115]⟩ : ByteArray), (⟨#[103, 101, 116]⟩ : ByteArray), (⟨#[115, 101, 116]⟩ : ByteArray), (⟨#[100, 101, 108, 101, 116, 101, 80, 114, 111, 112, 101, 114, 116, 121]⟩ : ByteArray), (⟨#[111, 119, 110, 75, 101, 121, 115]⟩ : ByteArray), (⟨#[97, 112, 112, 108, 121]⟩ : ByteArray), (⟨#[99, 111, 110, 115, 116, 114, 117, 99, 116]⟩ : ByteArray)]
def nameB (m : Nat) : ByteArray := namesB[m]?.getD ⟨#[]⟩
def nameA : Array Value := (namesB.map Value.string).toArray
theorem nm_sz : (Try.prog.info? 63).map (·.size) = some 14 := by kernel_rfl
theorem nm_rb (w : World) : (Instr.build 63 #[(1, .string (⟨#[103, 101, 116, 80, 114, 111, 116, 111, 116, 121, 112, 101, 79, 102]⟩ : ByteArray)), (2, .string (⟨#[115, 101, 116, 80, 114, 111, 116, 111, 116, 121, 112, 101, 79, 102]⟩ : ByteArray)), (3, .string (⟨#[105, 115, 69, 120, 116, 101, 110, 115, 105, 98, 108, 101]⟩ : ByteArray)), (4, .string (⟨#[112, 114, 101, 118, 101, 110, 116, 69, 120, 116, 101, 110, 115, 105, 111, 110, 115]⟩ : ByteArray)), (5, .string (⟨#[103, 101, 116, 79, 119, 110, 80, 114, 111, 112, 101, 114, 116, 121, 68, 101, 115, 99, 114, 105, 112, 116, 111, 114]⟩ : ByteArray)), (6, .string (⟨#[100, 101, 102, 105, 110, 101, 80, 114, 111, 112, 101, 114, 116, 121]⟩ : ByteArray)), (7, .string (⟨#[104, 97, 115]⟩ : ByteArray)), (8, .string (⟨#[103, 101, 116]⟩ : ByteArray)), (9, .string (⟨#[115, 101, 116]⟩ : ByteArray)), (10, .string (⟨#[100, 101, 108, 101, 116, 101, 80, 114, 111, 112, 101, 114, 116, 121]⟩ : ByteArray)), (11, .string (⟨#[111, 119, 110, 75, 101, 121, 115]⟩ : ByteArray)), (12, .string (⟨#[97, 112, 112, 108, 121]⟩ : ByteArray)), (13, .string (⟨#[99, 111, 110, 115, 116, 114, 117, 99, 116]⟩ : ByteArray))]).run Try.prog w = .ok (.agg nameA) w := by kernel_rfl
theorem nm_rb0 (w : World) : (Instr.build 63 #[(0, .string ⟨#[]⟩), (1, .string (⟨#[103, 101, 116, 80, 114, 111, 116, 111, 116, 121, 112, 101, 79, 102]⟩ : ByteArray)), (2, .string (⟨#[115, 101, 116, 80, 114, 111, 116, 111, 116, 121, 112, 101, 79, 102]⟩ : ByteArray)), (3, .string (⟨#[105, 115, 69, 120, 116, 101, 110, 115, 105, 98, 108, 101]⟩ : ByteArray)), (4, .string (⟨#[112, 114, 101, 118, 101, 110, 116, 69, 120, 116, 101, 110, 115, 105, 111, 110, 115]⟩ : ByteArray)), (5, .string (⟨#[103, 101, 116, 79, 119, 110, 80, 114, 111, 112, 101, 114, 116, 121, 68, 101, 115, 99, 114, 105, 112, 116, 111, 114]⟩ : ByteArray)), (6, .string (⟨#[100, 101, 102, 105, 110, 101, 80, 114, 111, 112, 101, 114, 116, 121]⟩ : ByteArray)), (7, .string (⟨#[104, 97, 115]⟩ : ByteArray)), (8, .string (⟨#[103, 101, 116]⟩ : ByteArray)), (9, .string (⟨#[115, 101, 116]⟩ : ByteArray)), (10, .string (⟨#[100, 101, 108, 101, 116, 101, 80, 114, 111, 112, 101, 114, 116, 121]⟩ : ByteArray)), (11, .string (⟨#[111, 119, 110, 75, 101, 121, 115]⟩ : ByteArray)), (12, .string (⟨#[97, 112, 112, 108, 121]⟩ : ByteArray)), (13, .string (⟨#[99, 111, 110, 115, 116, 114, 117, 99, 116]⟩ : ByteArray))]).run Try.prog w = .ok (.agg nameA) w := by kernel_rfl
section
variable {ops : Array Oper} {rest : List Oper} {o : Oper} {a : Act} {w : World} {Q : Exit → Act → World → Prop} {x y : Operand} {g : Nat} {t : TypeId}
theorem w_val {v : Value} (hw : Region.wanted o (yielded ops a.tmps) = true) (he : (execOp a.eval o).run Try.prog w = .ok (.value v) w) (h : wpList Try.prog ops Q rest (a.put o.dst v) w) : wpList Try.prog ops Q (o :: rest) a w :=
  wpList_wanted hw fun K hK => by
    unfold Oper.wp
    rw [he]
    exact hK _ _ h
theorem nm_ea (ho : o.op = .build 63 #[(1, .const (.string (⟨#[103, 101, 116, 80, 114, 111, 116, 111, 116, 121, 112, 101, 79, 102]⟩ : ByteArray))), (2, .const (.string (⟨#[115, 101, 116, 80, 114, 111, 116, 111, 116, 121, 112, 101, 79, 102]⟩ : ByteArray))), (3, .const (.string (⟨#[105, 115, 69, 120, 116, 101, 110, 115, 105, 98, 108, 101]⟩ : ByteArray))), (4, .const (.string (⟨#[112, 114, 101, 118, 101, 110, 116, 69, 120, 116, 101, 110, 115, 105, 111, 110, 115]⟩ : ByteArray))), (5, .const (.string (⟨#[103, 101, 116, 79, 119, 110, 80, 114, 111, 112, 101, 114, 116, 121, 68, 101, 115, 99, 114, 105, 112, 116, 111, 114]⟩ : ByteArray))), (6, .const (.string (⟨#[100, 101, 102, 105, 110, 101, 80, 114, 111, 112, 101, 114, 116, 121]⟩ : ByteArray))), (7, .const (.string (⟨#[104, 97, 115]⟩ : ByteArray))), (8, .const (.string (⟨#[103, 101, 116]⟩ : ByteArray))), (9, .const (.string (⟨#[115, 101, 116]⟩ : ByteArray))), (10, .const (.string (⟨#[100, 101, 108, 101, 116, 101, 80, 114, 111, 112, 101, 114, 116, 121]⟩ : ByteArray))), (11, .const (.string (⟨#[111, 119, 110, 75, 101, 121, 115]⟩ : ByteArray))), (12, .const (.string (⟨#[97, 112, 112, 108, 121]⟩ : ByteArray))), (13, .const (.string (⟨#[99, 111, 110, 115, 116, 114, 117, 99, 116]⟩ : ByteArray)))]) : (execOp a.eval o).run Try.prog w = .ok (.value (.agg nameA)) w := by
  unfold execOp
  simp only [ho, List.map_toArray, List.map_cons, List.map_nil, show ∀ v, a.eval (.const v) = v from fun _ => rfl, nm_rb, Sem.run_bind, Sem.run_pure, Result.andThen_ok]
theorem nm_ea0 (ho : o.op = .build 63 #[(0, .const (.string ⟨#[]⟩)), (1, .const (.string (⟨#[103, 101, 116, 80, 114, 111, 116, 111, 116, 121, 112, 101, 79, 102]⟩ : ByteArray))), (2, .const (.string (⟨#[115, 101, 116, 80, 114, 111, 116, 111, 116, 121, 112, 101, 79, 102]⟩ : ByteArray))), (3, .const (.string (⟨#[105, 115, 69, 120, 116, 101, 110, 115, 105, 98, 108, 101]⟩ : ByteArray))), (4, .const (.string (⟨#[112, 114, 101, 118, 101, 110, 116, 69, 120, 116, 101, 110, 115, 105, 111, 110, 115]⟩ : ByteArray))), (5, .const (.string (⟨#[103, 101, 116, 79, 119, 110, 80, 114, 111, 112, 101, 114, 116, 121, 68, 101, 115, 99, 114, 105, 112, 116, 111, 114]⟩ : ByteArray))), (6, .const (.string (⟨#[100, 101, 102, 105, 110, 101, 80, 114, 111, 112, 101, 114, 116, 121]⟩ : ByteArray))), (7, .const (.string (⟨#[104, 97, 115]⟩ : ByteArray))), (8, .const (.string (⟨#[103, 101, 116]⟩ : ByteArray))), (9, .const (.string (⟨#[115, 101, 116]⟩ : ByteArray))), (10, .const (.string (⟨#[100, 101, 108, 101, 116, 101, 80, 114, 111, 112, 101, 114, 116, 121]⟩ : ByteArray))), (11, .const (.string (⟨#[111, 119, 110, 75, 101, 121, 115]⟩ : ByteArray))), (12, .const (.string (⟨#[97, 112, 112, 108, 121]⟩ : ByteArray))), (13, .const (.string (⟨#[99, 111, 110, 115, 116, 114, 117, 99, 116]⟩ : ByteArray)))]) : (execOp a.eval o).run Try.prog w = .ok (.value (.agg nameA)) w := by
  unfold execOp
  simp only [ho, List.map_toArray, List.map_cons, List.map_nil, show ∀ v, a.eval (.const v) = v from fun _ => rfl, nm_rb0, Sem.run_bind, Sem.run_pure, Result.andThen_ok]
theorem nm_store {old : Array Value} {B : Nat} {w0 : World} (hgd : o.guard = none) (ho : o.op = .store 63 x y) (hx : a.eval x = .pointer (some ⟨g, 0, none⟩)) (hy : a.eval y = .agg nameA) (hg : w.heap[g]? = some (.cells old t (0, 0))) (hold : old.size = 14) (hB : Below B w0 w) (hBg : B ≤ g)
    (h : ∀ W : World, Below B w0 W → W.heap[g]? = some (.cells nameA t (0, 0)) → wpList Try.prog ops Q rest (a.put o.dst undef) W) : wpList Try.prog ops Q (o :: rest) a w :=
  wpList_store_row hgd 63 x y ho g nameA hx hy t old hg nm_sz hold (cells_one (l := namesB.map Value.string) rfl) (h _ (below_row hB hBg nameA) (setRow_heap _ _ _ _ _ _ hg))
end
theorem nm_cell {w : World} {g : Nat} {t : TypeId} (h : w.heap[g]? = some (.cells nameA t (0, 0))) {m : Nat} (hm : m < 14) : w.cell? ⟨g, m, none⟩ = some (.string (nameB m)) := by
  rw [vcells h m]
  have e : (namesB.map Value.string).length = 14 := rfl
  show (namesB.map Value.string).toArray[m]? = _
  rw [List.getElem?_toArray, List.getElem?_map]
  have h2 : m < namesB.length := hm
  unfold nameB
  rw [List.getElem?_eq_getElem h2]
  rfl

theorem nm_no {t s : ByteArray} (h : t ≠ s) : (t.toList == s.toList) = false := by
  rw [beq_eq_false_iff_ne]
  intro e
  rw [Go.ByteArray.toList_eq, Go.ByteArray.toList_eq] at e
  exact h (Go.WideShapes.bytes_inj e)
theorem two_end {f : Func} {i j : Nat} {Q : Ending → World → Prop} {tmps : Array Value} {W : World} {u v : Value} (hf : f.results = #[.tmp i, .tmp j]) (h2 : tmps[i]?.getD undef = u) (h3 : tmps[j]?.getD undef = v) (hQ : Q (.returned (.tuple #[u, v])) W) :
    bodyPost Try.prog f Q .ret { tmps := tmps, defers := [] } W := by
  refine bodyPost_ret (v := .tuple #[u, v]) ?_ rfl hQ
  simp [h2, h3, results, hf, go_sem]
def methR (s : ByteArray) : Nat → Nat → Nat × Bool
  | 0, _ => (0, false)
  | n + 1, k => if nameB k = s then (k, true) else methR s n (k + 1)

set_option maxRecDepth 100000 in
theorem pName (m : Nat) (hm : m < 256) (w : World) : Calls Try.prog 16 #[.int .u8 (m : Int)] w fun e w' => e = .returned (.string (nameB m)) ∧ Below w.heap.size w w' := by
  by_cases c : m < 14
  · have hc : (m : Int) < 14 := by omega
    go_enter Try.func16, Try.ntmps16
    go_wp2_with (first
      | (refine w_val ?_ (nm_ea rfl) ?_; (rfl))
      | (refine nm_store rfl rfl rfl rfl (heap_alloc_new _ _) rfl (vzero _ _) (Nat.le_refl _) ?_; intro W hb hW; have hc1 := nm_cell hW c; clear hW))
    go_ret
    exact ⟨rfl, hb⟩
  · have hn : nameB m = ⟨#[]⟩ := by
      unfold nameB
      rw [List.getElem?_eq_none (by show 14 ≤ m; omega)]
      rfl
    have hc : ¬ (m : Int) < 14 := by omega
    rw [hn]
    go_enter Try.func16, Try.ntmps16
    go_wp2_with (first
      | (refine w_val ?_ (nm_ea rfl) ?_; (rfl))
      | (refine nm_store rfl rfl rfl rfl (heap_alloc_new _ _) rfl (vzero _ _) (Nat.le_refl _) ?_; intro W hb hW; clear hW))
    go_ret
    exact ⟨rfl, hb⟩
set_option maxRecDepth 100000 in
theorem pMethod (s : ByteArray) (w : World) : Calls Try.prog 14 #[.string s] w fun e w' => e = .returned (.tuple #[.int .u8 ((methR s 13 1).1 : Nat), .bool (methR s 13 1).2]) ∧ Below w.heap.size w w' := by
  obtain ⟨R, hR⟩ : ∃ R, R = methR s 13 1 := ⟨_, rfl⟩
  rw [← hR]
  have cN := fun (m : Nat) (hm : m < 256) W => pName m hm W
  go_enter Try.func14, Try.ntmps14
  go_wp2
  go_loopg [4] 13 (fun kx s4 wr => ∃ i : Nat, s4 = .int .u8 i ∧ i + kx = 14 ∧ Hid (methR s kx i = R ∧ Below w.heap.size w wr))
  case atStart => exact ⟨1, rfl, by omega, Lib.hid ⟨hR.symm, Below.refl _ _⟩⟩
  case round =>
    obtain ⟨i, rfl, hik, H⟩ := hrel
    cases gk with
    | zero =>
      obtain rfl : i = 14 := by omega
      obtain ⟨h1, h2⟩ := H.out
      clear cN hR
      go_wp2
      refine two_end Try.results14 rfl rfl ?_
      rw [← h1]
      exact ⟨rfl, h2⟩
    | succ kx =>
      have hi : (i : Int) ≤ 13 := by omega
      have hi2 : i < 256 := by omega
      obtain ⟨h1, h2⟩ := H.out
      unfold methR at h1
      by_cases e : nameB i = s
      · rw [if_pos e] at h1
        have cN2 := fun W => cN i hi2 W
        rw [e] at cN2
        clear cN H hR
        go_wp2_with (go_at_call 16; (with_reducible refine (cN2 _).mono ?_); rintro e w1 ⟨rfl, h9⟩)
        refine two_end Try.results14 rfl rfl ?_
        rw [← h1]
        exact ⟨rfl, vb h2 h9⟩
      · rw [if_neg e] at h1
        have cN2 := fun W => cN i hi2 W
        have e2 := nm_no e
        generalize nameB i = t at *
        have H2 := Lib.hid (And.intro h1 h2)
        clear cN H hR h1 h2
        go_wp2_with (go_at_call 16; (with_reducible refine (cN2 _).mono ?_); rintro e w1 ⟨rfl, h9⟩)
        go_roundg kx
        case measure => omega
        case rel => exact ⟨i + 1, by congr 1, by omega, Lib.hid ⟨H2.out.1, vb H2.out.2 h9⟩⟩

set_option maxRecDepth 100000 in
theorem rName (m : Nat) (hm : m < 256) (w : World) : Calls Try.prog 18 #[.int .u8 (m : Int)] w fun e w' => e = .returned (.string (nameB m)) ∧ Below w.heap.size w w' := by
  by_cases c : m < 14
  · by_cases c0 : m = 0
    · subst c0
      go_enter Try.func18, Try.ntmps18
      go_wp2_with (fail)
      go_ret
      exact ⟨rfl, Below.refl _ _⟩
    · have h0 : ¬ (m : Int) < 1 := by omega
      have h1 : ¬ (13 : Int) < (m : Int) := by omega
      have hc : (m : Int) < 14 := by omega
      go_enter Try.func18, Try.ntmps18
      go_wp2_with (first
      | (refine w_val ?_ (nm_ea0 rfl) ?_; (rfl))
      | (refine nm_store rfl rfl rfl rfl (heap_alloc_new _ _) rfl (vzero _ _) (Nat.le_refl _) ?_; intro W hb hW; have hc1 := nm_cell hW c; clear hW))
      go_ret
      exact ⟨rfl, hb⟩
  · have hn : nameB m = ⟨#[]⟩ := by
      unfold nameB
      rw [List.getElem?_eq_none (by show 14 ≤ m; omega)]
      rfl
    have h0 : ¬ (m : Int) < 1 := by omega
    have h1 : (13 : Int) < (m : Int) := by omega
    rw [hn]
    go_enter Try.func18, Try.ntmps18
    go_wp2_with (fail)
    go_ret
    exact ⟨rfl, Below.refl _ _⟩
set_option maxRecDepth 100000 in
theorem rMethod (s : ByteArray) (w : World) : Calls Try.prog 17 #[.string s] w fun e w' => e = .returned (.tuple #[.int .u8 ((methR s 13 1).1 : Nat), .bool (methR s 13 1).2]) ∧ Below w.heap.size w w' := by
  obtain ⟨R, hR⟩ : ∃ R, R = methR s 13 1 := ⟨_, rfl⟩
  rw [← hR]
  have cN := fun (m : Nat) (hm : m < 256) W => rName m hm W
  go_enter Try.func17, Try.ntmps17
  go_wp2
  go_loopg [4] 13 (fun kx s4 wr => ∃ i : Nat, s4 = .int .u8 i ∧ i + kx = 14 ∧ Hid (methR s kx i = R ∧ Below w.heap.size w wr))
  case atStart => exact ⟨1, rfl, by omega, Lib.hid ⟨hR.symm, Below.refl _ _⟩⟩
  case round =>
    obtain ⟨i, rfl, hik, H⟩ := hrel
    cases gk with
    | zero =>
      obtain rfl : i = 14 := by omega
      obtain ⟨h1, h2⟩ := H.out
      clear cN hR
      go_wp2
      refine two_end Try.results17 rfl rfl ?_
      rw [← h1]
      exact ⟨rfl, h2⟩
    | succ kx =>
      have hi : (i : Int) ≤ 13 := by omega
      have hi2 : i < 256 := by omega
      obtain ⟨h1, h2⟩ := H.out
      unfold methR at h1
      by_cases e : nameB i = s
      · rw [if_pos e] at h1
        have cN2 := fun W => cN i hi2 W
        rw [e] at cN2
        clear cN H hR
        go_wp2_with (go_at_call 18; (with_reducible refine (cN2 _).mono ?_); rintro e w1 ⟨rfl, h9⟩)
        refine two_end Try.results17 rfl rfl ?_
        rw [← h1]
        exact ⟨rfl, vb h2 h9⟩
      · rw [if_neg e] at h1
        have cN2 := fun W => cN i hi2 W
        have e2 := nm_no e
        generalize nameB i = t at *
        have H2 := Lib.hid (And.intro h1 h2)
        clear cN H hR h1 h2
        go_wp2_with (go_at_call 18; (with_reducible refine (cN2 _).mono ?_); rintro e w1 ⟨rfl, h9⟩)
        go_roundg kx
        case measure => omega
        case rel => exact ⟨i + 1, by congr 1, by omega, Lib.hid ⟨H2.out.1, vb H2.out.2 h9⟩⟩
set_option maxRecDepth 100000 in
theorem PostCalled_walk (m : Int) (s : ByteArray) (w : World) (h0 : 0 ≤ m) (h1 : m < 256) : Calls Try.prog 4 #[.int .u8 m, .string s] w fun e w' => e = .returned (.bool true) ∧ Below w.heap.size w w' := by
  obtain ⟨n, rfl⟩ := Int.eq_ofNat_of_zero_le h0
  have c1 := fun W => pMethod s W
  have c2 := fun W => rMethod s W
  have c3 := fun W => pName n (by omega) W
  have c4 := fun W => rName n (by omega) W
  generalize methR s 13 1 = R at *
  obtain ⟨a, b⟩ := R
  generalize nameB n = t at *
  go_enter Try.func4, Try.ntmps4
  go_wp2_with (first
    | (go_at_call 14; (with_reducible refine (c1 _).mono ?_); rintro e w1 ⟨rfl, h9⟩; have H1 := Lib.hid h9; clear h9)
    | (go_at_call 17; (with_reducible refine (c2 _).mono ?_); rintro e w2 ⟨rfl, h9⟩; have H2 := Lib.hid (vb H1.out h9); clear h9)
    | (go_at_call 16; (with_reducible refine (c3 _).mono ?_); rintro e w3 ⟨rfl, h9⟩; have H3 := Lib.hid (vb H2.out h9); clear h9)
    | (go_at_call 18; (with_reducible refine (c4 _).mono ?_); rintro e w4 ⟨rfl, h9⟩; have H4 := Lib.hid (vb H3.out h9); clear h9))
  go_ret
  exact ⟨by simp, H4.out⟩
end Go.Proofs.Ytlfbflclefndjaa.S
