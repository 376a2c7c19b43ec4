/-
  post: lists of keys.
-/
import Derived.Test.YtkmgdaagannhkaaPT07
import Derived.OneCell
import Derived.Laws.AppendOwn
import Derived.Laws.OwnMore
import Derived.OwnWalk
import Derived.Laws.AppendOwnNone
namespace Go.Proofs.Ytkmgdaagannhkaa.S
open Go.RowKit Go.Lib Fl
open Classical

section
variable {ops : Array Oper} {rest : List Oper} {o : Oper} {a : Act} {w : World} {Q : Exit → Act → World → Prop} {x y : Operand}
theorem kA_ld {A : Addr} {k : Ky} (hw : Region.wanted o (yielded ops a.tmps) = true) (ho : o.op = .load 29 x) (hx : a.eval x = .pointer (some A)) (h0 : w.cell? A = some (.string k.str)) (h1 : w.cell? ⟨A.block, A.off + 1, none⟩ = some (.int .i64 k.sym))
    (h : wpList Try.prog ops Q rest (a.put o.dst (.agg #[.string k.str, .int .i64 k.sym])) w) : wpList Try.prog ops Q (o :: rest) a w :=
  w_val hw (ex_load_at (k2_at h0 h1) ho hx) h
end
theorem dz_rb (w : World) : (Instr.build 27 #[]).run Try.prog w = .ok (.agg (dz 0).cells) w := by kernel_rfl
theorem dz_ea {o : Oper} {a : Act} {w : World} (ho : o.op = .build 27 #[]) : (execOp a.eval o).run Try.prog w = .ok (.value (.agg (dz 0).cells)) w := by
  unfold execOp
  simp only [ho, List.map_toArray, List.map_nil, dz_rb, Sem.run_bind, Sem.run_pure, Result.andThen_ok]
theorem key_size (k : Ky) : (Try.prog.info? 29).map (·.size) = some (#[.string k.str, .int .i64 k.sym] : Array Value).size := ksz
theorem key_one (k : Ky) : (#[.string k.str, .int .i64 k.sym] : Array Value).all (·.oneCell') = true := cells_one (l := [.string k.str, .int .i64 k.sym]) rfl
set_option maxHeartbeats 4000000 in
set_option maxRecDepth 1000000 in
theorem same_p (a b : Ky) (w : World) : Calls Try.prog 54 #[.agg #[.string a.str, .int .i64 a.sym], .agg #[.string b.str, .int .i64 b.sym]] w fun e w' => e = .returned (.bool (eqK a b)) ∧ Below w.heap.size w w' := by
  have hB : Below w.heap.size w ((w.alloc (.cells #[.string a.str, .int .i64 a.sym] 29)).alloc (.cells #[.string b.str, .int .i64 b.sym] 29)) := vafter (vzero _ _)
  obtain ⟨b1, b2⟩ := vblk2 (w := w) (Below.refl _ ((w.alloc (.cells #[.string a.str, .int .i64 a.sym] 29)).alloc (.cells #[.string b.str, .int .i64 b.sym] 29)))
  have qe : ∀ W : World, (Op.equalIn (9998 + 2) 29 (.agg #[.string a.str, .int .i64 a.sym]) (.agg #[.string b.str, .int .i64 b.sym])).run Try.prog W = .ok (eqK a b) W := fun W => key_eq 9998 a.str b.str a.sym b.sym W
  have HB := Lib.hid hB
  clear hB
  go_enter Try.func54, Try.ntmps54
  go_wp2_with (first
    | ((with_reducible refine kk_load (k := a) ?_ rfl rfl b1 ?_); (rfl))
    | ((with_reducible refine kk_load (k := b) ?_ rfl rfl b2 ?_); (rfl)))
  go_ret
  exact ⟨rfl, HB.out⟩
/-- a key in a list -/
def inB (L : List Ky) (x : Ky) : Bool := L.any fun y => eqK x y
theorem inB_iff {L : List Ky} {x : Ky} : inB L x = true ↔ x ∈ L := by
  unfold inB
  rw [List.any_eq_true]
  constructor
  · rintro ⟨y, hy, he⟩
    rw [eqK_iff.1 he]
    exact hy
  · exact fun h => ⟨x, h, eqK_iff.2 rfl⟩
theorem inB_hit {L : List Ky} {x : Ky} {i : Nat} (hi : i < L.length) (e : eqK x L[i] = true) : inB L x = true := by
  unfold inB
  exact List.any_eq_true.2 ⟨L[i], List.getElem_mem hi, e⟩
theorem inB_miss {L : List Ky} {x : Ky} {i : Nat} (hi : i < L.length) (h : inB (L.take i) x = false) (e : eqK x L[i] = false) : inB (L.take (i + 1)) x = false := by
  unfold inB at h ⊢
  rw [List.take_succ_eq_append_getElem hi, List.any_append, h]
  show (false || (eqK x L[i] || false)) = false
  rw [e]
  rfl
set_option maxHeartbeats 4000000 in
set_option maxRecDepth 1000000 in
theorem has_p (A : Option Addr) (L : List Ky) (cap : Nat) (x : Ky) (w : World) (hl : L.length < 1000000000000) (hL : RK w A L) : Calls Try.prog 66 #[.slice A L.length cap, .agg #[.string x.str, .int .i64 x.sym], .func (.func 54) #[] #[]] w fun e w' => e = .returned (.bool (inB L x)) ∧ Below w.heap.size w w' := by
  have HS := Lib.hid (ow_start w #[.string x.str, .int .i64 x.sym] 29)
  go_enter Try.func66, Try.ntmps66
  go_wp2
  go_loopg [11] L.length (fun kx s wr => ∃ i : Nat, s = .int .i64 i ∧ i + kx = L.length ∧ Hid (inB (L.take i) x = false ∧ Ow w #[.string x.str, .int .i64 x.sym] 29 wr))
  case atStart => exact ⟨0, rfl, by omega, Lib.hid ⟨rfl, HS.out⟩⟩
  case round =>
    obtain ⟨i, rfl, hik, H⟩ := hrel
    cases gk with
    | zero =>
      obtain rfl : i = L.length := by omega
      have hn := H.out.1
      rw [List.take_length] at hn
      go_wp2
      go_ret
      exact ⟨by rw [hn]; rfl, H.out.2.below⟩
    | succ kx =>
      have hlt : i < L.length := by omega
      have hlz : (i : Int) < (L.length : Int) := by omega
      have hw1 : wrap64 ((i : Int) + 1) = (i : Int) + 1 := by unfold wrap64; omega
      obtain ⟨ad, rfl, hab, hrow⟩ := rk_up hL H.out.2.below (by omega)
      obtain ⟨c0, c1⟩ := hrow i hlt
      obtain ⟨P, hP⟩ : ∃ P, P = L[i] := ⟨_, rfl⟩
      rw [← hP] at c0 c1
      have HP := Lib.hid hP
      have HL := Lib.hid hlt
      have HH := Lib.hid H.out
      have cS := fun W => same_p x P W
      clear hrow hP H hL HS
      cases he : eqK x P with
      | true =>
        rw [he] at cS
        go_wp2_with (first
          | ((refine kA_ld (k := P) ?_ rfl rfl c0 c1 ?_); (rfl))
          | ((with_reducible refine t_store (cs := #[.string P.str, .int .i64 P.sym]) rfl rfl rfl rfl (heap_alloc_new wr _) (key_size P) ?_ (key_one P) (vzero wr _) (Nat.le_refl _) ?_); (rfl); intro W2 hb2 hW2 _ _; have HO := Lib.hid (HH.out.2.up hb2); clear hb2)
          | ((with_reducible refine kk_load (k := x) ?_ rfl rfl HO.out.c ?_); (rfl))
          | ((with_reducible refine kk_load (k := P) ?_ rfl rfl hW2 ?_); (rfl)))
        refine (cS _).mono ?_
        rintro e w3 ⟨rfl, h9⟩
        have HO := Lib.hid (HO.out.up h9)
        clear h9
        dsimp only
        go_wp2_with (fail)
        go_ret
        exact ⟨by rw [inB_hit HL.out (by rw [← HP.out]; exact he)]; rfl, HO.out.below⟩
      | false =>
        rw [he] at cS
        go_wp2_with (first
          | ((refine kA_ld (k := P) ?_ rfl rfl c0 c1 ?_); (rfl))
          | ((with_reducible refine t_store (cs := #[.string P.str, .int .i64 P.sym]) rfl rfl rfl rfl (heap_alloc_new wr _) (key_size P) ?_ (key_one P) (vzero wr _) (Nat.le_refl _) ?_); (rfl); intro W2 hb2 hW2 _ _; have HO := Lib.hid (HH.out.2.up hb2); clear hb2)
          | ((with_reducible refine kk_load (k := x) ?_ rfl rfl HO.out.c ?_); (rfl))
          | ((with_reducible refine kk_load (k := P) ?_ rfl rfl hW2 ?_); (rfl)))
        refine (cS _).mono ?_
        rintro e w3 ⟨rfl, h9⟩
        have HO := Lib.hid (HO.out.up h9)
        clear h9
        dsimp only
        go_wp2_with (fail)
        go_roundg kx
        case measure => omega
        case rel => exact ⟨i + 1, by congr 1, by omega, Lib.hid ⟨inB_miss HL.out HH.out.1 (by rw [← HP.out]; exact he), HO.out⟩⟩
/-- the error of a list of keys -/
noncomputable def keysE (L : List Ky) : Int := if 1024 < L.length then 4 else if ∀ k ∈ L, mayKy k then 0 else 9
theorem keysE_many {L : List Ky} (h : 1024 < L.length) : keysE L = 4 := by unfold keysE; rw [if_pos h]
theorem keysE_ok {L : List Ky} (h : ¬ 1024 < L.length) (g : ∀ k ∈ L, mayKy k) : keysE L = 0 := by unfold keysE; rw [if_neg h, if_pos g]
theorem keysE_bad {L : List Ky} (h : ¬ 1024 < L.length) {k : Ky} (hk : k ∈ L) (g : ¬ mayKy k) : keysE L = 9 := by unfold keysE; rw [if_neg h, if_neg fun f => g (f k hk)]
set_option maxHeartbeats 4000000 in
set_option maxRecDepth 1000000 in
theorem keys_p (A : Option Addr) (L : List Ky) (cap : Nat) (w : World) (hl : L.length < 1000000000000) (hL : RK w A L) : Calls Try.prog 33 #[.slice A L.length cap] w fun e w' => e = .returned (.int .i64 (keysE L)) ∧ Below w.heap.size w w' := by
  obtain ⟨E, hE⟩ : ∃ E, E = keysE L := ⟨_, rfl⟩
  rw [← hE]
  have HE := Lib.hid hE
  clear hE
  by_cases c : 1024 < L.length
  · have cz : (1024 : Int) < (L.length : Int) := by omega
    obtain rfl : E = 4 := HE.out.trans (keysE_many c)
    clear HE
    go_enter Try.func33, Try.ntmps33
    go_wp2
    go_ret
    exact ⟨rfl, Below.refl _ _⟩
  · have cz : ¬ (1024 : Int) < (L.length : Int) := by omega
    have HC := Lib.hid c
    clear c
    go_enter Try.func33, Try.ntmps33
    go_wp2
    go_loopg [11] L.length (fun kx s wr => ∃ i : Nat, s = .int .i64 i ∧ i + kx = L.length ∧ Hid ((∀ k ∈ L.take i, mayKy k) ∧ Below w.heap.size w wr))
    case atStart => exact ⟨0, rfl, by omega, Lib.hid ⟨fun k hk => by simp at hk, Below.refl _ _⟩⟩
    case round =>
    obtain ⟨i, rfl, hik, H⟩ := hrel
    cases gk with
    | zero =>
      obtain rfl : i = L.length := by omega
      go_wp2
      go_ret
      have hn := H.out.1
      rw [List.take_length] at hn
      exact ⟨by rw [HE.out, keysE_ok HC.out hn]; rfl, H.out.2⟩
    | succ kx =>
      have hlt : i < L.length := by omega
      have hlz : (i : Int) < (L.length : Int) := by omega
      have hw1 : wrap64 ((i : Int) + 1) = (i : Int) + 1 := by unfold wrap64; omega
      obtain ⟨ad, rfl, hab, hrow⟩ := rk_up hL H.out.2 (by omega)
      obtain ⟨c0, c1⟩ := hrow i hlt
      obtain ⟨P, hP⟩ : ∃ P, P = L[i] := ⟨_, rfl⟩
      rw [← hP] at c0 c1
      have HP := Lib.hid hP
      have HL := Lib.hid hlt
      have HH := Lib.hid H.out
      clear hrow hP H hL
      by_cases he : mayKy P
      · have cS := fun W => keyCheck_ok P.str P.sym W he
        have HM := Lib.hid he
        clear he
        go_wp2_with (first
          | ((refine kA_ld (k := P) ?_ rfl rfl c0 c1 ?_); (rfl))
          | ((with_reducible refine t_store (cs := #[.string P.str, .int .i64 P.sym]) rfl rfl rfl rfl (heap_alloc_new wr _) (key_size P) ?_ (key_one P) (vzero wr _) (Nat.le_refl _) ?_); (rfl); intro W2 hb2 hW2 _ _; have HO := Lib.hid (vb HH.out.2 hb2); clear hb2)
          | ((with_reducible refine kk_load (k := P) ?_ rfl rfl hW2 ?_); (rfl))
          | (go_at_call 52; (with_reducible refine (cS _).mono ?_); rintro e w3 ⟨rfl, h9⟩; have HO := Lib.hid (vb HO.out h9); clear h9))
        go_roundg kx
        case measure => omega
        case rel =>
          refine ⟨i + 1, by congr 1, by omega, Lib.hid ⟨fun k hk => ?_, HO.out⟩⟩
          rw [List.take_succ_eq_append_getElem HL.out, List.mem_append] at hk
          rcases hk with hk | hk
          · exact HH.out.1 k hk
          · rw [List.mem_singleton] at hk
            rw [hk, ← HP.out]
            exact HM.out
      · have cS := fun W => keyCheck_bad P.str P.sym W he
        obtain rfl : E = 9 := HE.out.trans (keysE_bad HC.out (List.getElem_mem HL.out) (by rw [← HP.out]; exact he))
        clear he HE
        go_wp2_with (first
          | ((refine kA_ld (k := P) ?_ rfl rfl c0 c1 ?_); (rfl))
          | ((with_reducible refine t_store (cs := #[.string P.str, .int .i64 P.sym]) rfl rfl rfl rfl (heap_alloc_new wr _) (key_size P) ?_ (key_one P) (vzero wr _) (Nat.le_refl _) ?_); (rfl); intro W2 hb2 hW2 _ _; have HO := Lib.hid (vb HH.out.2 hb2); clear hb2)
          | ((with_reducible refine kk_load (k := P) ?_ rfl rfl hW2 ?_); (rfl))
          | (go_at_call 52; (with_reducible refine (cS _).mono ?_); rintro e w3 ⟨rfl, h9⟩; have HO := Lib.hid (vb HO.out h9); clear h9))
        go_ret
        exact ⟨rfl, HO.out⟩
def allB (L T : List Ky) : Bool := T.all fun x => inB L x
set_option maxHeartbeats 4000000 in
set_option maxRecDepth 1000000 in
theorem all_p (A : Option Addr) (M : List Ky) (cap : Nat) (A2 : Option Addr) (L : List Ky) (cap2 : Nat) (w : World) (hm : M.length < 1000000000000) (hM : RK w A M) (hl : L.length < 1000000000000) (hL : RK w A2 L) : Calls Try.prog 59 #[.slice A M.length cap, .slice A2 L.length cap2, .func (.func 54) #[] #[]] w fun e w' => e = .returned (.bool (allB M L)) ∧ Below w.heap.size w w' := by
  go_enter Try.func59, Try.ntmps59
  go_wp2
  go_loopg [11] L.length (fun kx s wr => ∃ i : Nat, s = .int .i64 i ∧ i + kx = L.length ∧ Hid (allB M (L.take i) = true ∧ Below w.heap.size w wr))
  case atStart => exact ⟨0, rfl, by omega, Lib.hid ⟨rfl, Below.refl _ _⟩⟩
  case round =>
    obtain ⟨i, rfl, hik, H⟩ := hrel
    cases gk with
    | zero =>
      obtain rfl : i = L.length := by omega
      have hn := H.out.1
      rw [List.take_length] at hn
      go_wp2
      go_ret
      exact ⟨by rw [hn]; rfl, H.out.2⟩
    | succ kx =>
      have hlt : i < L.length := by omega
      have hlz : (i : Int) < (L.length : Int) := by omega
      have hw1 : wrap64 ((i : Int) + 1) = (i : Int) + 1 := by unfold wrap64; omega
      obtain ⟨ad, rfl, hab, hrow⟩ := rk_up hL H.out.2 (by omega)
      obtain ⟨c0, c1⟩ := hrow i hlt
      obtain ⟨P, hP⟩ : ∃ P, P = L[i] := ⟨_, rfl⟩
      rw [← hP] at c0 c1
      have HP := Lib.hid hP
      have HL := Lib.hid hlt
      have HH := Lib.hid H.out
      have cS := fun W (hb : Below w.heap.size w W) => has_p A M cap P W hm (rk_up hM hb)
      clear hrow hP H hL hM
      have hstep : allB M (L.take (i + 1)) = inB M P := by
        unfold allB
        rw [List.take_succ_eq_append_getElem HL.out, List.all_append]
        have := HH.out.1
        unfold allB at this
        rw [this, ← HP.out]
        show (true && (inB M P && true)) = _
        rw [Bool.true_and, Bool.and_true]
      have HT := Lib.hid hstep
      clear hstep
      cases he : inB M P with
      | true =>
        rw [he] at cS
        go_wp2_with (first
          | ((refine kA_ld (k := P) ?_ rfl rfl c0 c1 ?_); (rfl))
          | ((with_reducible refine t_store (cs := #[.string P.str, .int .i64 P.sym]) rfl rfl rfl rfl (heap_alloc_new wr _) (key_size P) ?_ (key_one P) (vzero wr _) (Nat.le_refl _) ?_); (rfl); intro W2 hb2 hW2 _ _; have HO := Lib.hid (vb HH.out.2 hb2); clear hb2)
          | ((with_reducible refine kk_load (k := P) ?_ rfl rfl hW2 ?_); (rfl))
          | (go_at_call 66; (with_reducible refine (cS _ HO.out).mono ?_); rintro e w3 ⟨rfl, h9⟩; have HO := Lib.hid (vb HO.out h9); clear h9))
        go_roundg kx
        case measure => omega
        case rel => exact ⟨i + 1, by congr 1, by omega, Lib.hid ⟨HT.out.trans he, HO.out⟩⟩
      | false =>
        rw [he] at cS
        go_wp2_with (first
          | ((refine kA_ld (k := P) ?_ rfl rfl c0 c1 ?_); (rfl))
          | ((with_reducible refine t_store (cs := #[.string P.str, .int .i64 P.sym]) rfl rfl rfl rfl (heap_alloc_new wr _) (key_size P) ?_ (key_one P) (vzero wr _) (Nat.le_refl _) ?_); (rfl); intro W2 hb2 hW2 _ _; have HO := Lib.hid (vb HH.out.2 hb2); clear hb2)
          | ((with_reducible refine kk_load (k := P) ?_ rfl rfl hW2 ?_); (rfl))
          | (go_at_call 66; (with_reducible refine (cS _ HO.out).mono ?_); rintro e w3 ⟨rfl, h9⟩; have HO := Lib.hid (vb HO.out h9); clear h9))
        go_ret
        refine ⟨?_, HO.out⟩
        have : allB M L = false := by
          unfold allB
          rw [List.all_eq_false]
          exact ⟨P, by rw [HP.out]; exact List.getElem_mem HL.out, by rw [he]; decide⟩
        rw [this]
        rfl
def goneB (d : Dq) : Bool := zD d.h 0 d.a.z d.b.z d.c.z d.p d.q d.z
set_option maxHeartbeats 4000000 in
set_option maxRecDepth 1000000 in
theorem gone_p (d : Dq) (w : World) : Calls Try.prog 55 #[.agg d.cells] w fun e w' => e = .returned (.bool (goneB d)) ∧ Below w.heap.size w w' := by
  have HS := Lib.hid (ow_start w d.cells 27)
  have qe : ∀ W : World, (Op.equalIn (9997 + 3) 27 (.agg d.cells) (.agg (dz 0).cells)).run Try.prog W = .ok (goneB d) W := fun W => eq_desc 9997 d.h 0 d.a.k d.a.x d.a.s d.a.r d.b.k d.b.x d.b.s d.b.r d.c.k d.c.x d.c.s d.c.r d.p d.q d.z W
  go_enter Try.func55, Try.ntmps55
  go_wp2_with (first
    | ((with_reducible refine dq_load (d := d) ?_ rfl rfl HS.out.c ?_); (rfl))
    | ((refine w_val ?_ (dz_ea rfl) ?_); (rfl)))
  go_ret
  exact ⟨rfl, HS.out.below⟩
end Go.Proofs.Ytkmgdaagannhkaa.S
/-
  Rows of keys of the call's own: what post wants of them. Generated: gen_postrow.py.
-/
namespace Go.Proofs.Ytkmgdaagannhkaa.S
open Go.RowKit Fl

theorem key_info : (Try.prog.info? 29).map (fun i => (i.zero, i.size, i.bytes)) = some (some (.agg #[.string ⟨#[]⟩, .int .i64 0]), 2, 24) := by kernel_rfl
theorem kyCells_at (L : List Ky) : ∀ (j : Nat) (hj : j < L.length), (kyCells L)[j * 2]? = some (.string L[j].str) ∧ (kyCells L)[j * 2 + 1]? = some (.int .i64 L[j].sym) := by
  induction L with
  | nil => intro j hj; simp at hj
  | cons k L ih =>
    intro j hj
    show (Value.string k.str :: Value.int .i64 k.sym :: kyCells L)[j * 2]? = _ ∧ (Value.string k.str :: Value.int .i64 k.sym :: kyCells L)[j * 2 + 1]? = _
    cases j with
    | zero => exact ⟨rfl, rfl⟩
    | succ j =>
      have := ih j (by simpa using hj)
      rw [show (j + 1) * 2 = j * 2 + 1 + 1 by omega]
      simpa using this
def nCells (N : List Nat) : List Value := N.map fun n => .int .i64 (n : Nat)
theorem ky_len (X : List Ky) : (kyCells X).length = X.length * 2 := by
  induction X with
  | nil => rfl
  | cons t r ih => unfold kyCells at *; rw [List.flatMap_cons, List.length_append, ih, List.length_cons]; simp; omega
theorem ky_snoc (X : List Ky) (k : Ky) : kyCells (X ++ [k]) = kyCells X ++ [.string k.str, .int .i64 k.sym] := by unfold kyCells; rw [List.flatMap_append]; simp
structure Rw (B : Nat) (v u : Value) (X : List Ky) (N : List Nat) (w0 w : World) : Prop where
  out : w.ownsRow B 29 2 v X.length (kyCells X)
  num : w.ownsRow B 3 1 u N.length (nCells N)
  below : Below B w0 w
  le : B ≤ w.heap.size
theorem rw_nil (w : World) : Rw w.heap.size (.slice none 0 0) (.slice none 0 0) [] [] w w := ⟨World.ownsRow_nil _ _ _ _, World.ownsRow_nil _ _ _ _, Below.refl _ _, Nat.le_refl _⟩
section
variable {B : Nat} {v u : Value} {X : List Ky} {N : List Nat} {w0 w w' : World}
theorem own_up {e : TypeId} {size n : Nat} {xs : List Value} (h : w.ownsRow B e size v n xs) (hb : Below w.heap.size w w') : w'.ownsRow B e size v n xs :=
  h.kept (row := none) ⟨hb.os, hb.tape, hb.output, hb.size, fun k hk _ => hb.block k hk⟩ (by
    rcases h.2 with ⟨rfl, _⟩ | ⟨g, cap, cur, rfl, _⟩
    · exact Or.inl rfl
    · exact Or.inr (by simp [Value.ownBlock]))
theorem rw_up (h : Rw B v u X N w0 w) (hb : Below w.heap.size w w') : Rw B v u X N w0 w' :=
  ⟨own_up h.out hb, own_up h.num hb, h.below.trans (hb.mono h.le), Nat.le_trans h.le hb.size⟩
theorem own_ty {e : TypeId} {size n : Nat} {xs : List Value} (h : w.ownsRow B e size v n xs) : v.ownBlock = none ∨ ∃ g cur, v.ownBlock = some g ∧ w.heap[g]? = some (.cells cur e (0, 0)) := by
  rcases h.2 with ⟨rfl, _⟩ | ⟨g, cap, cur, rfl, _, hg, _⟩
  · exact Or.inl rfl
  · exact Or.inr ⟨g, cur, rfl, hg⟩
theorem rw_ne (h : Rw B v u X N w0 w) : v.ownBlock = none ∨ v.ownBlock ≠ u.ownBlock := by
  rcases own_ty h.out with c | ⟨g, cur, c, hg⟩
  · exact Or.inl c
  · refine Or.inr fun e => ?_
    rcases own_ty h.num with d | ⟨g2, cur2, d, hg2⟩
    · rw [c, d] at e; cases e
    · rw [c, d] at e
      cases e
      rw [hg] at hg2
      injection hg2 with h1
      injection h1 with _ h2 _
      exact absurd h2 (by decide)
theorem rw_ne2 (h : Rw B v u X N w0 w) : u.ownBlock = none ∨ u.ownBlock ≠ v.ownBlock := by
  rcases rw_ne h with c | c
  · rcases own_ty h.num with d | ⟨g2, cur2, d, hg2⟩
    · exact Or.inl d
    · exact Or.inr (by rw [c, d]; exact fun e => by cases e)
  · exact Or.inr fun e => c e.symm
theorem rw_shape (h : Rw B v u X N w0 w) : (∃ A cap, v = .slice A X.length cap) ∧ ∃ A cap, u = .slice A N.length cap := by
  refine ⟨?_, ?_⟩
  · rcases h.out.2 with ⟨rfl, h1⟩ | ⟨g, cap, cur, rfl, _⟩
    · exact ⟨none, 0, by rw [h1]⟩
    · exact ⟨_, cap, rfl⟩
  · rcases h.num.2 with ⟨rfl, h1⟩ | ⟨g, cap, cur, rfl, _⟩
    · exact ⟨none, 0, by rw [h1]⟩
    · exact ⟨_, cap, rfl⟩
theorem own_pos {e : TypeId} {size n : Nat} {xs : List Value} (h : w.ownsRow B e size v n xs) (hn : 0 < n) : ∃ g cap, v = .slice (some ⟨g, 0, none⟩) n cap ∧ B ≤ g ∧ g < w.heap.size ∧ n ≤ cap := by
  rcases h.2 with ⟨_, h1⟩ | ⟨g, cap, cur, rfl, hb, hg, hc, _⟩
  · omega
  · exact ⟨g, cap, rfl, hb, lt_blk hg, hc⟩
end
theorem own_grown {B : Nat} {e : TypeId} {size n : Nat} {xs : List Value} {v : Value} {w0 w w' : World} (h : w.ownsRow B e size v n xs) (hb : Below B w0 w) (hle : B ≤ w.heap.size) (hg : w.grownBy w' v.ownBlock) : Below B w0 w' :=
  hb.grown hg hle fun k hk => (h.lt k hk).1
theorem rw_app {ops : Array Oper} {rest : List Oper} {o : Oper} {a : Act} {Q : Exit → Act → World → Prop} (hgd : o.guard = none) (s x : Operand)
    (ho : o.op = .call { callee := .builtin .append, args := #[s, x], argTypes := #[31, 31] })
    {B : Nat} {v u : Value} {X : List Ky} {N : List Nat} {w0 wr : World} (h : Rw B v u X N w0 wr) (hs : a.eval s = v) (st : ByteArray) (sy : Int) (hx : a.eval x = .slice (some ⟨wr.heap.size, 0, none⟩) 1 1)
    (hl : X.length ≤ 70000)
    (kk : ∀ v' w', Rw B v' u (X ++ [⟨st, sy⟩]) N w0 w' → wpList Try.prog ops Q rest (a.put o.dst v') w') : wpList Try.prog ops Q (o :: rest) a (wr.alloc (.cells #[.string st, .int .i64 sy] 29)) := by
  obtain ⟨i0, hi, hz0, hz1, hz2⟩ := info_parts key_info
  have hA := rw_up h (vzero wr (.cells #[.string st, .int .i64 sy] 29))
  refine wpList_append_own _ hgd s x 31 ho B 29 i0 (.agg #[.string ⟨#[]⟩, .int .i64 0]) 2 24 Try.underlying31 hi hz0 hz1 hz2 rfl (by decide) v X.length (kyCells X) hs hA.out ⟨wr.heap.size, 0, none⟩ 1 1 [.string st, .int .i64 sy] hx rfl ?_ ?_ ?_ ?_ ?_ ?_
  · intro j c hj
    have e : (⟨wr.heap.size, 0, none⟩ : Addr).add j = ⟨wr.heap.size, j, none⟩ := by unfold Addr.add; split <;> simp_all
    rw [e, vcells (heap_alloc_new wr _) j, ← hj]
    match j with
    | 0 => rfl
    | 1 => rfl
    | j + 2 => rfl
  · intro c hc; simp at hc; rcases hc with rfl | rfl <;> rfl
  · unfold maxLen; omega
  · omega
  · exact hA.le
  · intro v' w' hown hgrow _
    refine kk v' w' ⟨?_, ?_, ?_, ?_⟩
    · rw [ky_snoc, List.length_append]; exact hown
    · exact hA.num.kept hgrow (rw_ne2 hA)
    · exact own_grown hA.out hA.below hA.le hgrow
    · exact Nat.le_trans hA.le hgrow.size
theorem add_one (a : Addr) (m : Nat) : a.add (m + 1) = ⟨(a.add m).block, (a.add m).off + 1, none⟩ := by
  unfold Addr.add
  rw [if_neg (Nat.succ_ne_zero m)]
  split
  · rename_i e; rw [e]
  · rfl
theorem rk_cells {w : World} {a : Addr} {L : List Ky} (h : RK w (some a) L) (j : Nat) (u : Value) (hj : (kyCells L)[j]? = some u) : w.cell? (a.add j) = some u := by
  have hlt : j < (kyCells L).length := (List.getElem?_eq_some_iff.1 hj).1
  rw [ky_len] at hlt
  obtain ⟨b, hb, _, hc⟩ := h (by omega)
  injection hb with hb; subst hb
  have hi : j / 2 < L.length := by omega
  obtain ⟨k0, k1⟩ := kyCells_at L (j / 2) hi
  obtain ⟨c0, c1⟩ := hc (j / 2) hi
  rcases Nat.mod_two_eq_zero_or_one j with e | e
  · have ej : j = j / 2 * 2 := by omega
    rw [← ej] at k0 c0
    rw [c0, ← k0, hj]
  · have ej : j = j / 2 * 2 + 1 := by omega
    rw [← ej] at k1
    have ea : a.add j = ⟨(a.add (j / 2 * 2)).block, (a.add (j / 2 * 2)).off + 1, none⟩ := by
      conv => lhs; rw [ej]
      exact add_one a _
    rw [ea, c1, ← k1, hj]
theorem own_rk {B n cap g : Nat} {M : List Ky} {w : World} (h : w.ownsRow B 29 2 (.slice (some ⟨g, 0, none⟩) n cap) M.length (kyCells M)) {L : List Ky} {r : List Ky} (hM : M = L ++ r) : RK w (some ⟨g, 0, none⟩) L := fun hp => by
  have hc := h.cells (g := g) rfl
  have hadd : ∀ k, (⟨g, 0, none⟩ : Addr).add k = ⟨g, k, none⟩ := fun k => by unfold Addr.add; split <;> simp_all
  refine ⟨⟨g, 0, none⟩, rfl, (h.lt g rfl).2, fun i hi => ?_⟩
  have hi' : i < M.length := by rw [hM, List.length_append]; omega
  obtain ⟨k0, k1⟩ := kyCells_at M i hi'
  have e : M[i] = L[i] := by subst hM; exact List.getElem_append_left hi
  rw [e] at k0 k1
  have c0 := hc _ _ k0
  have c1 := hc _ _ k1
  rw [hadd] at c0 c1 ⊢
  exact ⟨c0, c1⟩
end Go.Proofs.Ytkmgdaagannhkaa.S
