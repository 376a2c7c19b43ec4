/-
  A tree that was parsed as the writer's nodes.
-/
import Derived.Test.YtablckajobefeaaGreatDoorPN32
import Derived.Test.YtablckajobefeaaGreatDoorPN25
import Derived.Test.YtablckajobefeaaGreatDoorPN22
import Derived.Defers
import Derived.Test.YtablckajobefeaaGreatDoorPN06
namespace Go.Proofs.YtablckajobefeaaGreatDoor.S
open Go.RowKit Fl

def niOf (c : Nd) : Ni := ⟨c.kind, c.p, c.text, c.num, c.kids.map fun (k : Nat) => (k : Int)⟩
mutual
theorem subT_flat : ∀ (t : Tr) (pre post : List Nd), SubT ((pre ++ (flatT pre.length t ++ post)).map niOf) pre.length t
  | .mk k p c x l, pre, post => by
    unfold SubT
    refine ⟨?_, ?_⟩
    · rw [List.getElem?_map, List.getElem?_append_right (Nat.le_refl _), Nat.sub_self]
      rfl
    · have h := subL_flat l (pre ++ [⟨k, p, c, x, starts (pre.length + 1) l⟩]) post
      rw [List.length_append, List.length_singleton, List.append_assoc] at h
      exact h
theorem subL_flat : ∀ (l : List Tr) (pre post : List Nd), SubL ((pre ++ (flatL pre.length l ++ post)).map niOf) pre.length l
  | [], _, _ => by unfold SubL; trivial
  | t :: l, pre, post => by
    unfold SubL
    have e : flatL pre.length (t :: l) = flatT pre.length t ++ flatL (pre.length + t.size) l := rfl
    rw [e]
    refine ⟨?_, ?_⟩
    · have h := subT_flat t pre (flatL (pre.length + t.size) l ++ post)
      rw [List.append_assoc]
      exact h
    · have h := subL_flat l (pre ++ flatT pre.length t) post
      rw [List.length_append, flatT_len, List.append_assoc] at h
      rw [List.append_assoc]
      exact h
end
theorem subT_all (t : Tr) : SubT ((flatT 0 t).map niOf) 0 t := by
  have h := subT_flat t [] []
  rwa [List.nil_append, List.append_nil] at h
theorem ints_eq (l : List Nat) : intsI (l.map fun (k : Nat) => (k : Int)) = intsV l := by
  unfold intsI intsV
  rw [List.map_map]
  rfl
theorem nodesA_of {n0 : Nat} {l : List Nd} {A : Option Addr} {cap : Nat} {w : World} (h : TreeAt n0 l (.agg #[.slice A l.length cap]) w) : NodesA w (fun k => k < w.heap.size) A (l.map niOf) := fun hp => by
  rw [List.length_map] at hp
  obtain ⟨g, h1, _, h3, h4⟩ := tree_cells2 h hp
  refine ⟨⟨g, 0, none⟩, h1, h3, h3, fun i hi => ?_⟩
  rw [List.length_map] at hi
  have e : (⟨g, 0, none⟩ : Addr).add (i * 5) = ⟨g, i * 5, none⟩ := by unfold Addr.add; split <;> simp_all
  rw [e]
  obtain ⟨a0, a1, a2, a3, K, ck, a4, ac, a5⟩ := h4 i hi
  simp only [List.getElem_map, niOf, List.length_map]
  refine ⟨a0, a1, a2, a3, K, ck, a4, by rw [ints_eq]; unfold intsV; rw [List.length_map]; exact ac, ?_⟩
  rw [ints_eq]
  refine rowi_of fun hp2 => ?_
  obtain ⟨gk, k1, k2, k3, k4⟩ := a5 hp2
  exact ⟨gk, k1, k3, k3, k4⟩
end Go.Proofs.YtablckajobefeaaGreatDoor.S
/-
  Package parse's built: whether nodes are numbered as a tree's are; walks.
-/
namespace Go.Proofs.YtablckajobefeaaGreatDoor.S
open Go.RowKit Fl

def rowedN (c : Ni) : Bool := kidsI c.kind c.kids.length && textB c.kind c.text
mutual
/-- the number behind a node and all below it, if it is numbered so -/
def bF (N : List Ni) : Nat → Int → Nat → Option Nat
  | 0, _, _ => none
  | f + 1, n, next => if n ≠ (next : Int) then none else
    match N[next]? with
    | none => none
    | some c => if rowedN c then bL N f c.kids (next + 1) else none
def bL (N : List Ni) : Nat → List Int → Nat → Option Nat
  | _, [], next => some next
  | f, k :: l, next => match bF N f k next with
    | none => none
    | some m => bL N f l m
end
mutual
theorem bF_le (N : List Ni) : ∀ (f : Nat) (n : Int) (a m : Nat), bF N f n a = some m → a < m ∧ m ≤ N.length
  | 0, n, a, m, h => by unfold bF at h; cases h
  | f + 1, n, a, m, h => by
    unfold bF at h
    split at h
    · cases h
    · cases hN : N[a]? with
      | none => rw [hN] at h; cases h
      | some c =>
        rw [hN] at h
        have hl := (List.getElem?_eq_some_iff.1 hN).1
        dsimp only at h
        split at h
        · have := bL_le N f c.kids (a + 1) m (by omega) h
          omega
        · cases h
theorem bL_le (N : List Ni) : ∀ (f : Nat) (l : List Int) (a m : Nat), a ≤ N.length → bL N f l a = some m → a ≤ m ∧ m ≤ N.length
  | _, [], a, m, ha, h => by unfold bL at h; cases h; exact ⟨Nat.le_refl _, ha⟩
  | f, k :: l, a, m, ha, h => by
    unfold bL at h
    cases hb : bF N f k a with
    | none => rw [hb] at h; cases h
    | some q =>
      rw [hb] at h
      dsimp only at h
      have h1 := bF_le N f k a q hb
      have h2 := bL_le N f l q m h1.2 h
      omega
end
theorem kidsI_few {k n : Nat} (h : kidsI k n = true) : n ≤ 16384 := by
  unfold kidsI at h
  rw [Bool.and_eq_true] at h
  have h2 : ¬ mostI k < (n : Int) := by simpa using h.2
  have h3 : mostI k ≤ 16384 := by
    by_cases hk : k < 44
    · exact (show ∀ j, j < 44 → mostI j ≤ 16384 by decide) k hk
    · unfold mostI
      rw [List.getD_eq_getElem?_getD, List.getElem?_eq_none (by simpa using hk)]
      decide
  omega
theorem rowedN_few {c : Ni} (h : rowedN c = true) : c.kids.length ≤ 16384 := by
  unfold rowedN at h
  rw [Bool.and_eq_true] at h
  exact kidsI_few h.1
/-- where built's variables lie -/
structure Bz where
  nx : Nat
  tb : Nat
  wk : Nat
  A : Option Addr
  cap : Nat
  N : List Ni
def Bz.args (b : Bz) : Array Value := #[.pointer (some ⟨b.nx, 0, none⟩), .pointer (some ⟨b.tb, 0, none⟩), .pointer (some ⟨b.wk, 0, none⟩)]
structure Bs (b : Bz) (next : Nat) (w : World) : Prop where
  b1 : w.heap[b.nx]? = some (.cells #[.int .i64 (next : Int)] 3 (0, 0))
  b2 : w.heap[b.tb]? = some (.cells #[.slice b.A b.N.length b.cap] 32 (0, 0))
  b3 : w.heap[b.wk]? = some (.cells #[.func (.func 53) #[] #[.pointer (some ⟨b.nx, 0, none⟩), .pointer (some ⟨b.tb, 0, none⟩), .pointer (some ⟨b.wk, 0, none⟩)]] 99 (0, 0))
  nodes : NodesA w (fun k => k < b.nx) b.A b.N
  n1 : b.nx ≠ b.tb
  n2 : b.nx ≠ b.wk
  few : b.N.length ≤ 16384
  le : next ≤ b.N.length
theorem bs_up {b : Bz} {next : Nat} {w w' : World} (h : Bs b next w) (g : Below w.heap.size w w') : Bs b next w' :=
  ⟨blk_up g h.b1, blk_up g h.b2, blk_up g h.b3, nodesA_up h.nodes g.size fun k hk hlt => ⟨hk, g.block k hlt⟩, h.n1, h.n2, h.few, h.le⟩
theorem bs_next {b : Bz} {next : Nat} {w : World} (h : Bs b next w) (hn : next < b.N.length) : Bs b (next + 1) (w.setCell ⟨b.nx, 0, none⟩ (.int .i64 ((next : Int) + 1))) ∧ w.grownBy (w.setCell ⟨b.nx, 0, none⟩ (.int .i64 ((next : Int) + 1))) (some b.nx) := by
  have g := grown_set w b.nx 0 (.int .i64 ((next : Int) + 1))
  have hk : ∀ k, k < w.heap.size → k ≠ b.nx → (w.setCell ⟨b.nx, 0, none⟩ (.int .i64 ((next : Int) + 1))).heap[k]? = w.heap[k]? := fun k hk hne => g.block k hk fun e => hne (Option.some.inj e)
  refine ⟨⟨set_blk h.b1 0 _, (hk _ (lt_of_blk h.b2) h.n1.symm).trans h.b2, (hk _ (lt_of_blk h.b3) h.n2.symm).trans h.b3, nodesA_up h.nodes g.size fun k hlt hs => ⟨hlt, hk k hs (Nat.ne_of_lt hlt)⟩, h.n1, h.n2, h.few, hn⟩, g⟩
/-- what it comes to -/
def BRes (b : Bz) (w : World) (r : Option Nat) (e : Ending) (w' : World) : Prop := w.grownBy w' (some b.nx) ∧ match r with
  | some m => e = .returned (.bool true) ∧ Bs b m w'
  | none => e = .returned (.bool false)
theorem br_no {b : Bz} {w w' : World} {r : Option Nat} (hr : r = none) (g : w.grownBy w' (some b.nx)) : BRes b w r (.returned (.bool false)) w' := by rw [hr]; exact ⟨g, rfl⟩
theorem br_yes {b : Bz} {w w' : World} {r : Option Nat} {m : Nat} (hr : r = some m) (g : w.grownBy w' (some b.nx)) (h : Bs b m w') : BRes b w r (.returned (.bool true)) w' := by rw [hr]; exact ⟨g, rfl, h⟩
theorem grown_of_below {w w' : World} {o : Option Nat} (g : Below w.heap.size w w') : w.grownBy w' o := ⟨g.os, g.tape, g.output, g.size, fun k hk _ => g.block k hk⟩
set_option maxHeartbeats 8000000 in
set_option maxRecDepth 100000 in
theorem built1 (b : Bz) : ∀ (f : Nat) (n : Int) (next : Nat) (w : World), b.N.length < f + next → Bs b next w → Calls Tryz.prog 53 #[.int .i64 n, .pointer (some ⟨b.nx, 0, none⟩), .pointer (some ⟨b.tb, 0, none⟩), .pointer (some ⟨b.wk, 0, none⟩)] w (BRes b w (bF b.N f n next))
  | 0, n, next, w, hf, h => by have := h.le; omega
  | f + 1, n, next, w, hf, h => by
    have ih := built1 b f
    generalize hR : bF b.N (f + 1) n next = R
    unfold bF at hR
    have c1 := blk_cell h.b1 0
    have c2 := blk_cell h.b2 0
    have z1 := fun i => fz_blk h.b1 i
    have l1 := lt_of_blk h.b1
    by_cases hn : n = (next : Int)
    · subst hn
      rw [if_neg (fun h => h rfl)] at hR
      by_cases hl : next < b.N.length
      · rw [List.getElem?_eq_getElem hl] at hR
        dsimp only at hR
        obtain ⟨a, hA, _, hal, hc⟩ := h.nodes (by omega)
        obtain ⟨a0, a1, a2, a3, K, ck, a4, hK⟩ := hc next hl
        have hab : (a.add (next * 5)).block < w.heap.size := by rw [block_of_add]; exact hal
        have hlz : (next : Int) < (b.N.length : Int) := by omega
        have hlq : ((next : Int) == (b.N.length : Int)) = false := by rw [beq_eq_false_iff_ne]; omega
        have hrw := fun W => rowed_w b.N[next].kind b.N[next].p b.N[next].text b.N[next].num K b.N[next].kids.length ck W
        rw [show (kidsI b.N[next].kind b.N[next].kids.length && textB b.N[next].kind b.N[next].text) = rowedN b.N[next] from rfl] at hrw
        rw [hA] at c2
        replace hab := Lib.hid hab
        have hb64 : (next : Int) ≤ 16384 := by have := h.few; omega
        have hb0 : (0 : Int) ≤ (next : Int) := by omega
        have HS := Lib.hid h
        have hkn := Lib.hid (rowedN_few (c := b.N[next]))
        cases hro : rowedN b.N[next] with
        | false =>
          rw [hro] at hrw hR
          have HR := Lib.hid (show R = none from hR.symm)
          clear h hR hro hK hc hA
          have hab := hab.out
          go_enter Tryz.func53, Tryz.ntmps53
          go_wp2_with (go_at_call 54; refine (hrw _).mono ?_; rintro e w1 ⟨rfl, g1⟩)
          go_ret
          exact br_no HR.out (grown_of_below g1)
        | true =>
          rw [hro] at hrw hR
          have HR := Lib.hid (show R = bL b.N f b.N[next].kids (next + 1) from hR.symm)
          have hro2 := Lib.hid hro
          clear h hR hro hc hA
          have hab := hab.out
          go_enter Tryz.func53, Tryz.ntmps53
          go_upto_region 4 with (go_at_call 54; refine (hrw _).mono ?_; rintro e w1 ⟨rfl, g1⟩; have B1 := Lib.hid (bs_up HS.out g1); have c1 := blk_cell B1.out.b1 0; have z1 := fun i => fz_blk B1.out.b1 i; have l1 := lt_of_blk B1.out.b1)
          obtain ⟨B2, g2⟩ := bs_next B1.out hl
          have HB := Lib.hid (And.intro B2 ((grown_of_below (o := some b.nx) g1).trans g2))
          clear g1 B2 g2 c1 z1 l1 c2 a0 a1 a2 a3 a4 hK hal hab hlq B1
          generalize w1.setCell ⟨b.nx, 0, none⟩ (.int .i64 ((next : Int) + 1)) = W at HB ⊢
          obtain ⟨a', hA', _, hal, hc⟩ := HB.out.1.nodes (by omega)
          obtain ⟨_, _, _, _, K, ck, a4, hK⟩ := hc next hl
          have hab : (a'.add (next * 5)).block < W.heap.size := by rw [block_of_add]; exact hal
          have c2 := blk_cell HB.out.1.b2 0
          rw [hA'] at c2
          have hfew : b.N[next].kids.length ≤ ck := by have := hK.1; unfold intsI at this; rwa [List.length_map] at this
          have hkfew : b.N[next].kids.length ≤ 16384 := hkn.out hro2.out
          generalize b.N[next].kids = kids at *
          have HK := Lib.hid hK.2
          clear hc hA' hK
          go_wp2_with (fail)
          have HE := Lib.hid (And.intro HB.out.1 (And.intro HB.out.2 (And.intro HK.out (show R = bL b.N f (kids.drop 0) (next + 1) from HR.out))))
          have hfk := Lib.hid hf
          have hkf : kids.length ≤ 16384 := hkfew
          clear HB HK HR c2 a4 hal hab hfew hf HS hrw
          go_loopw [36] (fun i wr => ∃ (k m : Nat), i = .int .i64 k ∧ k ≤ kids.length ∧ Hid (Bs b m wr ∧ w.grownBy wr (some b.nx) ∧ RowI wr (fun k => k < b.nx) K (intsI kids) ∧ R = bL b.N f (kids.drop k) m ∧ next + 1 ≤ m)) (fun i _ => kids.length - (intOf i).toNat)
          case atStart => exact ⟨0, next + 1, rfl, Nat.zero_le _, Lib.hid ⟨HE.out.1, HE.out.2.1, HE.out.2.2.1, HE.out.2.2.2, Nat.le_refl _⟩⟩
          case round =>
            clear HE
            obtain ⟨k, m, rfl, hk2, HH⟩ := hrel
            by_cases hlt : k < kids.length
            · obtain ⟨B4, G4, K4, E4, M4⟩ := HH.out
              obtain ⟨la, rfl, hlo, hla, hcc⟩ := K4 (by unfold intsI; rw [List.length_map]; omega)
              have kc : wr.cell? (la.add k) = some (.int .i64 kids[k]) := hcc k _ (by unfold intsI; rw [List.getElem?_map, List.getElem?_eq_getElem hlt]; rfl)
              have d3 := blk_cell B4.b3 0
              have ky := ih kids[k] m wr (by have := hfk.out; omega) B4
              rw [List.drop_eq_getElem_cons hlt] at E4
              unfold bL at E4
              generalize kids[k] = q at *
              have E := Lib.hid E4
              have HK := Lib.hid (And.intro K4 (And.intro G4 M4))
              have hl1 := Lib.hid hlt
              have hlz2 : (k : Int) < (kids.length : Int) := by omega
              clear B4 G4 K4 E4 M4 hcc HH hlt
              cases hb : bF b.N f q m with
              | none =>
                rw [hb] at ky
                have E5 := Lib.hid (show R = none by rw [E.out, hb])
                clear hb E
                go_wp2_with (go_at_call 53; refine ky.mono ?_; rintro e w5 ⟨g5, rfl⟩)
                go_ret
                exact br_no E5.out (HK.out.2.1.trans g5)
              | some m5 =>
                rw [hb] at ky
                have E5 := Lib.hid (show R = bL b.N f (kids.drop (k + 1)) m5 by rw [E.out, hb])
                have hm5 := Lib.hid (bF_le b.N f q m m5 hb)
                clear hb E
                go_wp2_with (go_at_call 53; refine ky.mono ?_; rintro e w5 ⟨g5, rfl, B5⟩; have HN := Lib.hid (And.intro B5 (And.intro (HK.out.2.1.trans g5) (And.intro (rowi_up (ok' := fun k => k < b.nx) HK.out.1 g5.size fun j h1 h2 => ⟨h1, g5.block j h2 (fun e => by have := Option.some.inj e; omega)⟩) E5.out))); clear B5 g5)
                go_roundw
                case rel => exact ⟨k + 1, m5, by go_num, hl1.out, Lib.hid ⟨HN.out.1, HN.out.2.1, HN.out.2.2.1, HN.out.2.2.2, by have := hm5.out; have := HK.out.2.2; omega⟩⟩
                case measure => have := hl1.out; simp [intOf]; omega
            · obtain rfl : k = kids.length := by omega
              have E5 := Lib.hid (show R = some m by rw [HH.out.2.2.2.1, List.drop_length]; unfold bL; rfl)
              go_wp2_with (fail)
              go_ret
              exact br_yes E5.out HH.out.2.1 HH.out.1
      · have hnn : b.N[next]? = none := List.getElem?_eq_none (by omega)
        rw [hnn] at hR
        have HR := Lib.hid (show R = none from hR.symm)
        obtain rfl : next = b.N.length := by have := h.le; omega
        clear h hR hl hnn
        go_enter Tryz.func53, Tryz.ntmps53
        go_wp2_with (fail)
        go_ret
        exact br_no HR.out (grown_of_below (Below.refl _ _))
    · have HR := Lib.hid (show R = none by rw [← hR, if_pos hn])
      have hq : (n == (next : Int)) = false := by rw [beq_eq_false_iff_ne]; exact hn
      have hq2 : (n != (next : Int)) = true := by rw [bne, hq]; rfl
      clear h hR hn
      go_enter Tryz.func53, Tryz.ntmps53
      go_wp2_with (fail)
      go_ret
      exact br_no HR.out (grown_of_below (Below.refl _ _))
end Go.Proofs.YtablckajobefeaaGreatDoor.S
/-
  Package parse's built: a walk.
-/
namespace Go.Proofs.YtablckajobefeaaGreatDoor.S
open Go.RowKit Fl

/-- whether nodes are numbered as a tree's are -/
def builtB (N : List Ni) : Bool := match bF N (N.length + 1) 0 0 with
  | none => false
  | some m => m == N.length && match N[0]? with
    | none => false
    | some c => c.kind == 1
theorem built_bs {A : Option Addr} {N : List Ni} {cap : Nat} {w : World} (hN : NodesA w (fun k => k < w.heap.size) A N) (hf : N.length ≤ 16384) :
    Bs ⟨w.heap.size + 1, w.heap.size, w.heap.size + 1 + 1, A, cap, N⟩ 0 (((w.alloc (.cells #[.slice A N.length cap] 32)).alloc (.cells #[.int .i64 0] 3)).alloc (.cells #[.func (.func 53) #[] #[.pointer (some ⟨w.heap.size + 1, 0, none⟩), .pointer (some ⟨w.heap.size, 0, none⟩), .pointer (some ⟨w.heap.size + 1 + 1, 0, none⟩)]] 99)) ∧
      Below w.heap.size w (((w.alloc (.cells #[.slice A N.length cap] 32)).alloc (.cells #[.int .i64 0] 3)).alloc (.cells #[.func (.func 53) #[] #[.pointer (some ⟨w.heap.size + 1, 0, none⟩), .pointer (some ⟨w.heap.size, 0, none⟩), .pointer (some ⟨w.heap.size + 1 + 1, 0, none⟩)]] 99)) := by
  generalize ho3 : (Obj.cells #[.func (.func 53) #[] #[.pointer (some ⟨w.heap.size + 1, 0, none⟩), .pointer (some ⟨w.heap.size, 0, none⟩), .pointer (some ⟨w.heap.size + 1 + 1, 0, none⟩)]] 99) = o3
  generalize ho2 : (Obj.cells #[.int .i64 0] 3) = o2
  generalize ho1 : (Obj.cells #[.slice A N.length cap] 32) = o1
  have s1 : (w.alloc o1).heap.size = w.heap.size + 1 := by simp
  have s2 : ((w.alloc o1).alloc o2).heap.size = w.heap.size + 1 + 1 := by simp
  have s3 : (((w.alloc o1).alloc o2).alloc o3).heap.size = w.heap.size + 1 + 1 + 1 := by simp
  have k3 : ∀ k, k < w.heap.size + 1 + 1 → (((w.alloc o1).alloc o2).alloc o3).heap[k]? = ((w.alloc o1).alloc o2).heap[k]? := fun k hk => (World.grownBy_alloc _ o3 none).block k (by omega) (by simp)
  have k2 : ∀ k, k < w.heap.size + 1 → ((w.alloc o1).alloc o2).heap[k]? = (w.alloc o1).heap[k]? := fun k hk => (World.grownBy_alloc _ o2 none).block k (by omega) (by simp)
  have b1 : (((w.alloc o1).alloc o2).alloc o3).heap[w.heap.size + 1]? = some o2 := (k3 _ (by omega)).trans (alloc_at s1.symm)
  have b0 : (((w.alloc o1).alloc o2).alloc o3).heap[w.heap.size]? = some o1 := (k3 _ (by omega)).trans ((k2 _ (by omega)).trans (alloc_at rfl))
  have b2 : (((w.alloc o1).alloc o2).alloc o3).heap[w.heap.size + 1 + 1]? = some o3 := alloc_at s2.symm
  have low : ∀ k, k < w.heap.size → (((w.alloc o1).alloc o2).alloc o3).heap[k]? = w.heap[k]? := fun k hk => (k3 _ (by omega)).trans ((k2 _ (by omega)).trans ((World.grownBy_alloc _ o1 none).block k hk (by simp)))
  have hb : Below w.heap.size w (((w.alloc o1).alloc o2).alloc o3) := ⟨rfl, rfl, rfl, by omega, low⟩
  subst ho1 ho2 ho3
  exact ⟨⟨b1, b0, b2, nodesA_up hN hb.size fun k hk hlt => ⟨by show k < w.heap.size + 1; omega, low k hlt⟩, by show w.heap.size + 1 ≠ w.heap.size; omega, by show w.heap.size + 1 ≠ w.heap.size + 1 + 1; omega, hf, Nat.zero_le _⟩, hb⟩
theorem below_of_grown {w w1 w' : World} {o : Nat} (h : Below w.heap.size w w1) (g : w1.grownBy w' (some o)) (ho : w.heap.size ≤ o) : Below w.heap.size w w' :=
  h.grown g h.size fun k hk => by have := Option.some.inj hk; omega
set_option maxHeartbeats 4000000 in
set_option maxRecDepth 100000 in
theorem built_w {A : Option Addr} {N : List Ni} {cap : Nat} {w : World} (hN : NodesA w (fun k => k < w.heap.size) A N) (hf : N.length ≤ 16384) :
    Calls Tryz.prog 28 #[.agg #[.slice A N.length cap]] w fun e w' => e = .returned (.bool (builtB N)) ∧ Below w.heap.size w w' := by
  have hmf : ∀ (fn : Fn) (first cap : Array Value) (w : World), (Instr.makeFunc fn first cap).run Tryz.prog w = .ok (.func fn first cap) w := fun _ _ _ _ => rfl
  have hsf := store_fn
  obtain ⟨B0, g0⟩ := built_bs (cap := cap) hN hf
  have ky := built1 ⟨w.heap.size + 1, w.heap.size, w.heap.size + 1 + 1, A, cap, N⟩ (N.length + 1) 0 0 _ (by show N.length < N.length + 1 + 0; omega) B0
  have HS := Lib.hid (And.intro B0 g0)
  clear B0 g0 hN
  dsimp only at ky
  generalize hR : builtB N = R
  unfold builtB at hR
  go_enter Tryz.func28, Tryz.ntmps28
  go_upto_region 4 with (fail)
  generalize (((w.alloc (.cells #[.slice A N.length cap] 32)).alloc (.cells #[.int .i64 0] 3)).alloc (.cells #[.func (.func 53) #[] #[.pointer (some ⟨w.heap.size + 1, 0, none⟩), .pointer (some ⟨w.heap.size, 0, none⟩), .pointer (some ⟨w.heap.size + 1 + 1, 0, none⟩)]] 99)) = W at HS ky ⊢
  have d3 := blk_cell HS.out.1.b3 0
  dsimp only at d3
  cases hb : bF N (N.length + 1) 0 0 with
  | none =>
    rw [hb] at ky hR
    have HR := Lib.hid hR
    clear hR hb
    go_wp2_with (go_at_call 53; refine ky.mono ?_; rintro e w5 ⟨g5, rfl⟩)
    go_ret
    obtain rfl : false = R := HR.out
    exact ⟨rfl, below_of_grown HS.out.2 g5 (by show w.heap.size ≤ w.heap.size + 1; omega)⟩
  | some m =>
    rw [hb] at ky hR
    have hm := bF_le N _ _ _ _ hb
    have hpos : 0 < N.length := by omega
    rw [List.getElem?_eq_getElem hpos] at hR
    dsimp only at hR
    have HR := Lib.hid hR
    clear hR hb
    by_cases hml : m = N.length
    · subst hml
      have hq : ∃ q, ((N[0].kind : Int) == 1) = q ∧ R = q := by
        refine ⟨N[0].kind == 1, ?_, ?_⟩
        · rw [Bool.eq_iff_iff]; simp only [beq_iff_eq]; omega
        · rw [← HR.out, show (N.length == N.length) = true from beq_self_eq_true _]; rfl
      obtain ⟨q, hq1, hq2⟩ := hq
      have HQ := Lib.hid hq2
      have hpz : (0 : Int) < (N.length : Int) := by omega
      clear hq2 hm HR
      go_wp2_with (go_at_call 53; refine ky.mono ?_; rintro e w5 ⟨g5, rfl, B5⟩; have c1 := blk_cell B5.b1 0; have c2 := blk_cell B5.b2 0; dsimp only at c1 c2; obtain ⟨a, hA, _, hal, hc⟩ := B5.nodes hpos; obtain ⟨a0, _⟩ := hc 0 hpos; have a0 : w5.cell? a = some (.int .u8 (N[0].kind : Int)) := a0; have hA : A = some a := hA; rw [hA] at c2; have HB := Lib.hid (And.intro B5 g5); clear B5 g5 hc hA)
      go_ret
      obtain rfl : R = q := HQ.out
      exact ⟨rfl, below_of_grown HS.out.2 HB.out.2 (by show w.heap.size ≤ w.heap.size + 1; omega)⟩
    · have hmq : ((m : Int) == (N.length : Int)) = false := by rw [beq_eq_false_iff_ne]; omega
      have hR2 := Lib.hid (show R = false by rw [← HR.out, show (m == N.length) = false by rw [beq_eq_false_iff_ne]; exact hml]; rfl)
      go_wp2_with (go_at_call 53; refine ky.mono ?_; rintro e w5 ⟨g5, rfl, B5⟩; have c1 := blk_cell B5.b1 0; have c2 := blk_cell B5.b2 0; dsimp only at c1 c2; have HB := Lib.hid (And.intro B5 g5); clear B5 g5)
      go_ret
      obtain rfl : R = false := hR2.out
      exact ⟨rfl, below_of_grown HS.out.2 HB.out.2 (by show w.heap.size ≤ w.heap.size + 1; omega)⟩
end Go.Proofs.YtablckajobefeaaGreatDoor.S
/-
  Package parse's caught, of the writer's script.
-/
namespace Go.Proofs.YtablckajobefeaaGreatDoor.S
open Go.RowKit Fl

set_option maxHeartbeats 2000000 in
set_option maxRecDepth 100000 in
/-- what runs to its end -/
theorem caughtw_ret {b : Nat} {w : World} {K : World → Prop}
    (hr : Calls Tryz.prog 29 #[.pointer (some ⟨b, 0, none⟩)] (w.alloc (.cells #[.int .i64 0, .int .i64 0] 67)) fun e w' =>
      e = .returned (.tuple #[]) ∧ w'.heap[w.heap.size]? = some (.cells #[.int .i64 0, .int .i64 0] 67 (0, 0)) ∧ K w') :
    Calls Tryz.prog 24 #[.func (.func 29) #[.pointer (some ⟨b, 0, none⟩)] #[]] w fun e w' => e = .returned (.agg #[.int .i64 0, .int .i64 0]) ∧ ∃ w1, K w1 ∧ w1.grownBy w' (some w.heap.size) := by
  have hmf : ∀ (fn : Fn) (first cap : Array Value) (w : World), (Instr.makeFunc fn first cap).run Tryz.prog w = .ok (.func fn first cap) w := fun _ _ _ _ => rfl
  go_enter_defers Tryz.func24, Tryz.ntmps24
  go_wp2_with (go_at_call 29; refine hr.mono ?_; rintro e w1 ⟨rfl, hb, hk⟩; have c0 := blk_cell hb 0; have c1 := blk_cell hb 1; have fz := fun i => fz_blk hb i; have hlt := lt_of_blk hb)
  have hb2 : ((w1.setCell ⟨w.heap.size, 0, none⟩ (.int .i64 0)).setCell ⟨w.heap.size, 1, none⟩ (.int .i64 0)).heap[w.heap.size]? = some (.cells #[.int .i64 0, .int .i64 0] 67 (0, 0)) := set_blk (set_blk hb 0 (.int .i64 0)) 1 (.int .i64 0)
  have hg : w1.grownBy ((w1.setCell ⟨w.heap.size, 0, none⟩ (.int .i64 0)).setCell ⟨w.heap.size, 1, none⟩ (.int .i64 0)) (some w.heap.size) := (grown_set _ _ _ _).trans (grown_set _ _ _ _)
  clear c0 c1
  generalize (w1.setCell ⟨w.heap.size, 0, none⟩ (.int .i64 0)).setCell ⟨w.heap.size, 1, none⟩ (.int .i64 0) = W at hb2 hg ⊢
  refine leaves_cons (f := 46) (args := #[.pointer (some ⟨w.heap.size, 0, none⟩)]) (by simp) (by simp [go_sem]) ?_
  refine c1_idle.mono ?_
  rintro e u' w'' ⟨rfl, rfl, rfl⟩
  have c0 := blk_cell hb2 0
  have c1 := blk_cell hb2 1
  simp [Leaves, settle, results, Tryz.results24, go_sem, c0, c1]
  exact ⟨w1, hk, hg⟩
end Go.Proofs.YtablckajobefeaaGreatDoor.S
/-
  What every statement of the chapter begins with: an assignment of a sum.
-/
namespace Go.Proofs.YtablckajobefeaaGreatDoor.S
open Go.RowKit Fl

def alivN : List Nd := [⟨1, 0, ⟨#[]⟩, 0, [1]⟩, ⟨6, 0, ⟨#[]⟩, 0, [2]⟩, ⟨43, 0, (⟨#[61]⟩ : ByteArray), 0, [3, 4]⟩, ⟨26, 0, (⟨#[97]⟩ : ByteArray), 0, []⟩, ⟨39, 4, (⟨#[43]⟩ : ByteArray), 0, [5, 6]⟩, ⟨26, 4, (⟨#[98]⟩ : ByteArray), 0, []⟩, ⟨20, 8, ⟨#[]⟩, 4607182418800017408, []⟩]
set_option maxRecDepth 100000 in
theorem alive_parse : parseP [97, 32, 61, 32, 98, 32, 43, 32, 49, 59] = .ok alivN := by kernel_rfl
/-- the cells of the tree that alive looks at -/
def AliveAt (g cap : Nat) (w : World) : Prop := w.cell? ⟨g, 12, none⟩ = some (.string (⟨#[61]⟩ : ByteArray)) ∧ w.cell? ⟨g, 22, none⟩ = some (.string (⟨#[43]⟩ : ByteArray)) ∧ w.cell? ⟨g, 21, none⟩ = some (.int .i64 4) ∧ w.cell? ⟨g, 33, none⟩ = some (.float .f64 4607182418800017408) ∧ w.cell? ⟨g, 31, none⟩ = some (.int .i64 8) ∧
  ∃ h ck, w.cell? ⟨g, 14, none⟩ = some (.slice (some ⟨h, 0, none⟩) 2 ck) ∧ w.cell? ⟨h, 1, none⟩ = some (.int .i64 4) ∧ h < w.heap.size ∧ g < w.heap.size ∧ cap = cap
theorem aliveAt_up {g cap : Nat} {w w' : World} (h : AliveAt g cap w) (hs : w.heap.size ≤ w'.heap.size) (hb : ∀ k, k < w.heap.size → w'.heap[k]? = w.heap[k]?) : AliveAt g cap w' := by
  obtain ⟨h1, h2, h3, h4, h5, k, ck, h6, h7, h8, h9, _⟩ := h
  have e : ∀ i, w'.cell? ⟨g, i, none⟩ = w.cell? ⟨g, i, none⟩ := fun i => World.cell?_of_block (a := ⟨g, i, none⟩) (hb g h9)
  exact ⟨by rw [e]; exact h1, by rw [e]; exact h2, by rw [e]; exact h3, by rw [e]; exact h4, by rw [e]; exact h5, k, ck, by rw [e]; exact h6, by rw [World.cell?_of_block (a := ⟨k, 1, none⟩) (hb k h8)]; exact h7, by omega, by omega, rfl⟩
theorem alive_parsed (w : World) (htab : TabHere w) : Calls Tryz.prog 11 #[.string (⟨#[97, 32, 61, 32, 98, 32, 43, 32, 49, 59]⟩ : ByteArray)] w fun e w' => ∃ g cap, e = .returned (.tuple #[.agg #[.slice (some ⟨g, 0, none⟩) 7 cap], .int .i64 0, .int .i64 0]) ∧ AliveAt g cap w' ∧ Below w.heap.size w w' := by
  have := parse_any (⟨#[97, 32, 61, 32, 98, 32, 43, 32, 49, 59]⟩ : ByteArray) (by decide) w htab
  rw [show ((⟨#[97, 32, 61, 32, 98, 32, 43, 32, 49, 59]⟩ : ByteArray)).data.toList = [97, 32, 61, 32, 98, 32, 43, 32, 49, 59] from rfl, alive_parse] at this
  refine this.mono ?_
  rintro e w1 ⟨v, rfl, hT, h1⟩
  obtain ⟨A, cap, cs, rfl, hT2⟩ := hT
  obtain ⟨g, hA, hg, hgl, hc⟩ := tree_cells (A := A) (cap := cap) ⟨A, cap, cs, rfl, hT2⟩ (by decide)
  subst hA
  obtain ⟨_, _, a2, _, K, ck, a4, hr⟩ := hc 2 (by decide)
  obtain ⟨_, b1, b2, _⟩ := hc 4 (by decide)
  obtain ⟨_, c1, _, c3, _⟩ := hc 6 (by decide)
  obtain ⟨h, rfl, _, hl, hcell⟩ := hr (by decide)
  exact ⟨g, cap, rfl, ⟨a2, b2, b1, c3, c1, h, ck, a4, hcell 1 _ rfl, hl, hgl, rfl⟩, h1⟩
theorem alive_tab {w w1 : World} (htab : TabHere w) (h1 : Below w.heap.size w w1) (o1 o2 : Obj) : TabHere ((w1.alloc o1).alloc o2) := tab_below htab ((h1.alloc h1.size o1).alloc (by have := h1.size; simp; omega) o2)
theorem alive_arr {W : World} {t : TypeId} {a b c d e f g : Int} {ks : List Nat} {n : Nat} (hz : n = W.heap.size) (hk : ks = [a.toNat, b.toNat, c.toNat, d.toNat, e.toNat, f.toNat, g.toNat]) (hn : 0 ≤ a ∧ 0 ≤ b ∧ 0 ≤ c ∧ 0 ≤ d ∧ 0 ≤ e ∧ 0 ≤ f ∧ 0 ≤ g) : ∀ i (h : i < ks.length), (W.alloc (.cells #[.int .u8 a, .int .u8 b, .int .u8 c, .int .u8 d, .int .u8 e, .int .u8 f, .int .u8 g] t)).cell? ⟨n, i, none⟩ = some (.int .u8 (ks[i] : Int)) := fun i h => by
  subst hk hz
  rw [blk_cell (heap_alloc_new W _) i]
  match i, h with
  | 0, _ => simp; omega
  | 1, _ => simp; omega
  | 2, _ => simp; omega
  | 3, _ => simp; omega
  | 4, _ => simp; omega
  | 5, _ => simp; omega
  | 6, _ => simp; omega
  | i + 7, h => exact absurd h (by simp)
theorem alive_on {w w1 w2 : World} {g cap : Nat} {v : Value} {o2 : Obj} (hA : AliveAt g cap w1) (h1 : Below w.heap.size w w1) (h2 : Below ((w1.alloc (.cells #[v] 32)).alloc o2).heap.size ((w1.alloc (.cells #[v] 32)).alloc o2) w2) :
    w2.cell? ⟨w1.heap.size, 0, none⟩ = some v ∧ AliveAt g cap w2 ∧ Below w.heap.size w w2 := by
  have hs := h2.size
  have hz : ((w1.alloc (.cells #[v] 32)).alloc o2).heap.size = w1.heap.size + 1 + 1 := by simp
  have low : ∀ k, k < w1.heap.size → w2.heap[k]? = w1.heap[k]? := fun k hk => (h2.block k (by omega)).trans (((World.grownBy_alloc _ o2 none).block k (by simp; omega) (by simp)).trans ((World.grownBy_alloc w1 _ none).block k hk (by simp)))
  refine ⟨blk_cell ((h2.block w1.heap.size (by omega)).trans (((World.grownBy_alloc _ o2 none).block w1.heap.size (by simp) (by simp)).trans (heap_alloc_new w1 _))) 0, aliveAt_up hA (by omega) low, h2.os.trans h1.os, h2.tape.trans h1.tape, h2.output.trans h1.output, by have := h1.size; omega, fun k hk => (low k (by have := h1.size; omega)).trans (h1.block k hk)⟩
set_option maxHeartbeats 4000000 in
set_option maxRecDepth 1000000 in
theorem paralive_any (w : World) (htab : TabHere w) : Calls Tryz.prog 10 #[] w fun e w' => e = .returned (.bool true) ∧ Below w.heap.size w w' := by
  have kp := alive_parsed w htab
  have kk : ∀ (W : World) (b : Nat), TabHere W → b < W.heap.size → (∀ i (h : i < 7), W.cell? ⟨b, i, none⟩ = some (.int .u8 (([1, 6, 43, 26, 39, 26, 20] : List Nat)[i] : Int))) →
      Calls Tryz.prog 5 #[.string (⟨#[97, 32, 61, 32, 98, 32, 43, 32, 49, 59]⟩ : ByteArray), .slice (some ⟨b, 0, none⟩) 7 7] W fun e w' => e = .returned (.bool true) ∧ Below W.heap.size W w' := fun W b h1 h2 h3 => by
    have := kinds_any (⟨#[97, 32, 61, 32, 98, 32, 43, 32, 49, 59]⟩ : ByteArray) (by decide) [1, 6, 43, 26, 39, 26, 20] b W h1 h2 h3 (by decide)
    rw [show ((⟨#[97, 32, 61, 32, 98, 32, 43, 32, 49, 59]⟩ : ByteArray)).data.toList = [97, 32, 61, 32, 98, 32, 43, 32, 49, 59] from rfl, alive_parse] at this
    exact this
  have f1 := eq_float1
  go_enter Tryz.func10, Tryz.ntmps10
  go_wp2_with (first
    | (go_at_call 11; refine kp.mono ?_; rintro e w1 ⟨g, cap, rfl, hA, h1⟩)
    | (go_at_call 5; refine (kk _ _ (alive_tab htab h1 _ _) (by simp) (alive_arr (by simp) rfl (by decide))).mono ?_; rintro e w2 ⟨rfl, h2⟩; obtain ⟨r0, hA2, hB2⟩ := alive_on hA h1 h2; obtain ⟨q1, q2, q3, q4, q5, hh, ck, q6, q7, q8, q9, _⟩ := hA2; clear hA h2))
  go_ret
  exact ⟨rfl, hB2⟩
end Go.Proofs.YtablckajobefeaaGreatDoor.S
/-
  Package parse's told, of a tree that was parsed and whose tokens are read as that tree: a walk.
-/
namespace Go.Proofs.YtablckajobefeaaGreatDoor.S
open Go.RowKit Fl

theorem rda_own {B n cap : Nat} {A : Option Addr} {l : List Tk} {w : World} (h : w.ownsRow B 52 4 (.slice A n cap) l.length (tkCells l)) (hB : B ≤ w.heap.size) : RdA w A l ∧ l.length ≤ cap := by
  have ht : TB B (.slice A n cap) l w w := ⟨h, Below.refl _ _, hB⟩
  exact ⟨rda_tb ht, tb_cap ht⟩
theorem wa_grown {z : Wz} {s : Wr} {h : Nat} {w w' : World} {f : Nat} (H : WA z s h w) (g : w.grownBy w' (some f)) (h1 : z.b < f) (h2 : f ≠ h) : WA z s h w' := by
  obtain ⟨⟨v, b1, b2, b3⟩, h4, h5, h6, h7, h8⟩ := H
  have hne : ∀ k, k ≠ f → k < w.heap.size → w'.heap[k]? = w.heap[k]? := fun k hk hlt => g.block k hlt fun e => hk (Option.some.inj e)
  refine ⟨⟨v, (hne _ (by omega) (lt_of_blk b1)).trans b1, b2.kept g ?_, b3⟩, nodesA_up h4 g.size fun k hk hlt => ⟨hk, hne k (by omega) hlt⟩, h5, h6, Nat.lt_of_lt_of_le h7 g.size, h8⟩
  rcases b2.2 with ⟨rfl, _⟩ | ⟨g', cap, cur, rfl, hb, _⟩
  · exact Or.inl rfl
  · refine Or.inr ?_
    intro e
    have e1 := b3 f e
    exact h2 e1
def endTk : Tk := ⟨0, 0, ⟨#[]⟩, 0⟩
def faultO : Obj := .cells #[.int .i64 0, .int .i64 0] 67
/-- a writer that is just made -/
theorem wa_new {A : Option Addr} {cap : Nat} {N : List Ni} {w : World} (hN : NodesA w (fun k => k < w.heap.size) A N) (hf : N.length ≤ 16384) :
    WA ⟨w.heap.size, A, cap, N⟩ ⟨[], 0⟩ w.heap.size (w.alloc (.cells #[.slice A N.length cap, .slice none 0 0, .int .i64 0] 74)) := by
  have g := zero_alloc w (.cells #[.slice A N.length cap, .slice none 0 0, .int .i64 0] 74)
  exact ⟨⟨.slice none 0 0, heap_alloc_new _ _, World.ownsRow_nil _ _ _ _, fun k hk => by simp [Value.ownBlock] at hk⟩, nodesA_up hN g.size fun k hk hlt => ⟨hk, g.block k hlt⟩, hf, Nat.le_refl _, by simp, Nat.zero_le _⟩
/-- caught of the script, where it comes to an end -/
theorem caught_script {z : Wz} (d : Nat) {x : Tr} {w : World} {s : Wr} (hx : SubT z.N 0 x) (hrow : RowT x = true) (H : WA z ⟨[], 0⟩ z.b w) (hs : scriptW d x = .ok s) :
    Calls Tryz.prog 24 #[.func (.func 29) #[.pointer (some ⟨z.b, 0, none⟩)] #[]] w fun e w' => e = .returned (.agg #[.int .i64 0, .int .i64 0]) ∧ ∃ h', WA z s h' w' ∧ (h' = z.b ∨ w.heap.size ≤ h') ∧ w.grownBy w' (some z.b) := by
  have hzb := wa_lt H
  have gA := zero_alloc w (.cells #[.int .i64 0, .int .i64 0] 67)
  have sA : (w.alloc (.cells #[.int .i64 0, .int .i64 0] 67)).heap.size = w.heap.size + 1 := by simp
  refine (caughtw_ret (b := z.b) (w := w) (K := fun w1 => ∃ h', WA z s h' w1 ∧ (h' = z.b ∨ w.heap.size + 1 ≤ h') ∧ Fr z.b z.b (w.alloc (.cells #[.int .i64 0, .int .i64 0] 67)) w1) ?_).mono ?_
  · refine (wscript_w d hx hrow (wa_up H gA) (by rw [hs]; exact fun e => by cases e)).mono ?_
    intro e w' hr
    rw [hs] at hr
    obtain ⟨rfl, h', H', e', g'⟩ := hr
    refine ⟨rfl, ?_, h', H', by omega, g'⟩
    rw [g'.block w.heap.size (by omega) (by omega) (by omega)]
    exact heap_alloc_new _ _
  · rintro e w' ⟨rfl, w1, ⟨h', H', e', g'⟩, gg⟩
    refine ⟨rfl, h', wa_grown H' gg hzb (by omega), by omega, ?_⟩
    have g1 := g'.size
    refine ⟨gg.os.trans (g'.os.trans gA.os), gg.tape.trans (g'.tape.trans gA.tape), gg.output.trans (g'.output.trans gA.output), Nat.le_trans (by omega) gg.size, fun k hk hne => ?_⟩
    have hkz : k ≠ z.b := fun e => hne (by rw [e])
    rw [gg.block k (by omega) (fun e => by have := Option.some.inj e; omega), g'.block k (by omega) hkz hkz]
    exact gA.block k hk
theorem below_grow {w w1 w' : World} {o : Option Nat} (h : Below w.heap.size w w1) (g : w1.grownBy w' o) (ho : ∀ k, o = some k → w.heap.size ≤ k) : Below w.heap.size w w' := h.grown g h.size ho
set_option maxHeartbeats 8000000 in
set_option maxRecDepth 100000 in
theorem ptold_yes {n0 n d : Nat} {t : Tr} {A : Option Addr} {cap : Nat} {w : World} {s : Wr} {l : List Nd} (hT : TreeAt n0 (flatT 0 t) (.agg #[.slice A n cap]) w) (hn : (flatT 0 t).length = n) (hrow : RowT t = true) (hfew : n ≤ 16384) (hbt : builtB ((flatT 0 t).map niOf) = true)
    (hs : scriptW d t = .ok s) (hin : ∀ u ∈ s.toks ++ [endTk], TkIn u) (hm : MayP (s.toks ++ [endTk])) (htp : treeP (s.toks ++ [endTk]) = .ok l) (hlen : (flatT 0 t).length = l.length)
    (hnp : ∀ i (h1 : i < l.length) (h2 : i < (flatT 0 t).length), NpN l[i] (flatT 0 t)[i] ∧ l[i].kids.length ≤ 100000) (htab : TabHere w) :
    Calls Tryz.prog 18 #[.agg #[.slice A n cap]] w fun e w' => ∃ A' cap', e = .returned (.tuple #[.slice A' (s.toks.length + 1) cap', .int .i64 0]) ∧ s.toks.length + 1 ≤ cap' ∧ RdA w' A' (s.toks ++ [endTk]) ∧ Below w.heap.size w w' := by
  subst hn
  have hN := nodesA_of hT
  have hNl : ((flatT 0 t).map niOf).length = (flatT 0 t).length := List.length_map ..
  have hx := subT_all t
  have gA := zero_alloc w (.cells #[.slice A (flatT 0 t).length cap] 32)
  have ky := built_w (w := w.alloc (.cells #[.slice A (flatT 0 t).length cap] 32)) (A := A) (cap := cap) (nodesA_up (ok' := fun k => k < (w.alloc (.cells #[.slice A (flatT 0 t).length cap] 32)).heap.size) hN gA.size fun k hk hlt => ⟨by simp; omega, gA.block k hlt⟩) (by rw [hNl]; exact hfew)
  rw [hbt, hNl] at ky
  have HT := Lib.hid (And.intro hT (And.intro hN (And.intro hx (And.intro htab gA))))
  have HP := Lib.hid (And.intro hs (And.intro hin (And.intro hm (And.intro htp (And.intro hlen hnp)))))
  clear hN gA htab hT hs hin hm htp hlen hnp hx hbt
  generalize hL : flatT 0 t = L at *
  have hlz : decide ((16384 : Int) < (L.length : Int)) = false := by simp; omega
  go_enter Tryz.func18, Tryz.ntmps18
  go_wp2_with (go_at_call 28; refine ky.mono ?_; rintro e w2 ⟨rfl, g2⟩; have hb2 := blk_up g2 (heap_alloc_new w (.cells #[.slice A L.length cap] 32)); have c2 := blk_cell hb2 0; have l2 := lt_of_blk hb2)
  obtain ⟨hT, hN, hx, htab, gA⟩ := HT.out
  have B2 := Lib.hid (after_alloc g2)
  have W0 := wa_new (A := A) (cap := cap) (N := L.map niOf) (w := w2) (nodesA_up hN B2.out.size fun k hk hlt => ⟨Nat.lt_of_lt_of_le hk B2.out.size, B2.out.block k hlt⟩) (by rw [hNl]; exact hfew)
  rw [hNl] at W0
  have g3 := zero_alloc w2 (.cells #[.slice A L.length cap, .slice none 0 0, .int .i64 0] 74)
  have hb3 := blk_up g3 hb2
  have hs3 : (w2.alloc (.cells #[.slice A L.length cap, .slice none 0 0, .int .i64 0] 74)).heap.size = w2.heap.size + 1 := by simp
  have B3 := Lib.hid (show Below w.heap.size w _ from B2.out.trans (g3.mono B2.out.size))
  clear c2 hb2 g2 g3 hT hN htab gA
  generalize w2.alloc (.cells #[.slice A L.length cap, .slice none 0 0, .int .i64 0] 74) = W3 at W0 hb3 hs3 B3 ⊢
  have B2s := B2.out.size
  refine (caught_script d hx hrow W0 HP.out.1).mono ?_
  rintro e w4 ⟨rfl, h', H4, e4, g4⟩
  dsimp only at e4 g4
  have hzl : w2.heap.size < w4.heap.size := wa_lt H4
  have hb4 := (g4.block w.heap.size (by omega) (fun e => by have := Option.some.inj e; omega)).trans hb3
  have B4 := Lib.hid (below_grow B3.out g4 (fun k hk => by have := Option.some.inj hk; omega))
  clear W0 hb3 g4 B3 hx
  go_upto_region 7 with (fail)
  have g5 := zero_alloc w4 (.cells #[.int .i64 0, .int .i64 0] 67)
  have hf5 := heap_alloc_new w4 (.cells #[.int .i64 0, .int .i64 0] 67)
  have H5 := wa_up H4 g5
  have hb5 := blk_up g5 hb4
  have B5 := Lib.hid (show Below w.heap.size w _ from B4.out.trans (g5.mono B4.out.size))
  generalize w4.alloc (.cells #[.int .i64 0, .int .i64 0] 67) = W5 at H5 hb5 B5 hf5 ⊢
  clear g5 hb4 B4 H4
  have f0 := blk_cell hf5 0
  have f1 := blk_cell hf5 1
  have fl := lt_of_blk hf5
  obtain ⟨v, hvb, hown, hvh⟩ := H5.blk
  dsimp only at hvb hown
  obtain ⟨A', cap', rfl⟩ := wown_shape hown
  have t1 := blk_cell hvb 1
  have tl := lt_of_blk hvb
  have hsh := H5.short
  have HO := Lib.hid (And.intro hown hvh)
  clear hvb hown hvh hf5
  go_upto_region 10 with (at_builtin; refine wt_app rfl _ _ rfl HO.out.1 (by omega) rfl 0 ⟨#[]⟩ 0 rfl (by omega) ?_; intro v' w6 hown6 g6 hat6; obtain ⟨A6, cap6, rfl⟩ := wown_shape hown6)
  have hne6 : ∀ k, (Value.slice A' s.toks.length cap').ownBlock = some k → w2.heap.size ≤ k := fun k hk => by have := HO.out.2 k hk; omega
  have B6 := Lib.hid (below_grow B5.out g6 (fun k hk => by have := hne6 k hk; omega))
  have hb6 := (g6.block w.heap.size (by omega) (fun e => by have := hne6 _ e.symm; omega)).trans hb5
  have hlT : (s.toks ++ [endTk]).length = s.toks.length + 1 := by simp
  have hR6 := rda_own (B := w2.heap.size + 1) (l := s.toks ++ [endTk]) (by rw [hlT]; exact hown6) (by have := g6.size; omega)
  rw [hlT] at hR6
  have kt := tree_any (A := A6) (cap := cap6) (w := w6) hR6.1 HP.out.2.1 HP.out.2.2.1 (by rw [hlT]; omega) (by rw [hlT]; exact hR6.2) (fun u hu => HT.out.2.2.2.1 u (B6.out.trans (hu.mono B6.out.size)))
  rw [hlT, HP.out.2.2.2.1] at kt
  have HR6 := Lib.hid hR6
  clear hR6 g6 hown6 hat6 hb5 hne6 HO B5 H5 f0 f1 fl t1 tl
  go_wp2_with (fail)
  go_at_call 17
  refine kt.mono ?_
  rintro e w7 ⟨v7, rfl, hT7, g7⟩
  obtain ⟨A7, cap7, cs7, rfl, hq1, hq2⟩ := hT7
  have hT7 : TreeAt w6.heap.size l (.agg #[.slice A7 l.length cap7]) w7 := ⟨A7, cap7, cs7, rfl, hq1, hq2⟩
  clear hq1 hq2 kt
  have hb7 := blk_up g7 hb6
  go_upto_region 11 with (fail)
  have B7 := Lib.hid (show Below w.heap.size w w7 from B6.out.trans (g7.mono B6.out.size))
  have g8 := zero_alloc w7 (.cells #[.slice A7 l.length cap7] 32)
  have hv8 := heap_alloc_new w7 (.cells #[.slice A7 l.length cap7] 32)
  have hb8 := blk_up g8 hb7
  have B8 := Lib.hid (show Below w.heap.size w _ from B7.out.trans (g8.mono B7.out.size))
  have hpos : 0 < L.length := by rw [← hL, flatT_len]; exact Tr.size_pos t
  have hlen := HP.out.2.2.2.2.1
  obtain ⟨gl, rfl, cl⟩ := cs5_of hT7 (by omega)
  obtain ⟨gL, hA, cL⟩ := cs5_of HT.out.1 hpos
  have cl8 := cs5_up cl g8
  have cL8 := cs5_up cL B8.out
  have R8 := Lib.hid (rda_up HR6.out.1 (show Below w6.heap.size w6 _ from g7.trans (g8.mono g7.size)))
  subst hA
  generalize w7.alloc (.cells #[.slice (some ⟨gl, 0, none⟩) l.length cap7] 32) = W8 at hv8 hb8 B8 cl8 cL8 R8 ⊢
  have v8 := blk_cell hv8 0
  have b8 := blk_cell hb8 0
  have lv8 := lt_of_blk hv8
  have lb8 := lt_of_blk hb8
  have ks := same_any l L gl gL cap7 cap W8 cl8 cL8 (by omega) hlen (fun i h1 h2 => HP.out.2.2.2.2.2 i h1 h2)
  rw [show Value.slice (some ⟨gL, 0, none⟩) l.length cap = Value.slice (some ⟨gL, 0, none⟩) L.length cap by rw [hlen]] at ks
  have HB := Lib.hid (And.intro B8.out (And.intro R8.out HR6.out.2))
  clear g7 g8 hv8 hb8 B8 R8 hb7 hb6 cl cL cl8 cL8 hT7 B7 hlen
  go_wp2_with (go_at_call 15; refine ks.mono ?_; rintro e w9 ⟨rfl, g9⟩)
  go_ret2
  exact ⟨A6, cap6, rfl, HB.out.2.2, rda_up HB.out.2.1 g9, HB.out.1.trans (g9.mono HB.out.1.size)⟩
end Go.Proofs.YtablckajobefeaaGreatDoor.S
/-
  Package parse's Text of a parsed tree whose tokens are read as that tree; the law's text: walks.
-/
namespace Go.Proofs.YtablckajobefeaaGreatDoor.S
open Go.RowKit Fl

def zp (t : Tk) : Tk := { t with pos := 0 }
theorem tokP_zp {t : Tk} (h : TokP t) : TokP (zp t) := h
theorem may_zp {r : List Tk} (h : MayP r) : MayP (r.map zp) := by
  refine ⟨fun e => h.1 (List.map_eq_nil_iff.1 e), fun i t ht => ?_⟩
  rw [List.getElem?_map] at ht
  cases hr : r[i]? with
  | none => rw [hr] at ht; cases ht
  | some u =>
    rw [hr] at ht
    cases ht
    obtain ⟨h1, h2⟩ := h.2 i u hr
    exact ⟨tokP_zp h1, by rw [List.length_map]; exact h2⟩
theorem in_zp {r : List Tk} (h : ∀ t ∈ r, TkIn t) : ∀ t ∈ r.map zp, TkIn t := fun t ht => by
  obtain ⟨u, hu, rfl⟩ := List.mem_map.1 ht
  exact h u hu
def npB (c d : Nd) : Bool := c.kind == d.kind && c.text == d.text && c.num == d.num && c.kids == d.kids
def npsB : List Nd → List Nd → Bool
  | [], [] => true
  | c :: l, d :: m => npB c d && npsB l m
  | _, _ => false
theorem npsB_of : ∀ (l m : List Nd), npsB l m = true → m.length = l.length ∧ ∀ i (h1 : i < l.length) (h2 : i < m.length), NpN l[i] m[i]
  | [], [], _ => ⟨rfl, fun i h => by simp at h⟩
  | c :: l, d :: m, h => by
    unfold npsB npB at h
    simp only [Bool.and_eq_true] at h
    obtain ⟨⟨⟨⟨h1, h2⟩, h3⟩, h4⟩, h5⟩ := h
    obtain ⟨k1, k2⟩ := npsB_of l m h5
    refine ⟨by simp [k1], fun i a b => ?_⟩
    cases i with
    | zero => exact ⟨eq_of_beq h1, str_beq h2, eq_of_beq h3, eq_of_beq h4⟩
    | succ i => exact k2 i (by simpa using a) (by simpa using b)
  | [], _ :: _, h => by cases h
  | _ :: _, [], h => by cases h
/-- what is reckoned of a text whose tree is written so -/
structure Wt (src : ByteArray) (out : List UInt8) : Prop where
  ex : ∃ (t : Tr) (d : Nat) (s : Wr) (L : List UInt8) (r : List Tk) (l : List Nd), parseP src.data.toList = .ok (flatT 0 t) ∧ RowT t = true ∧ (flatT 0 t).length ≤ 16384 ∧ builtB ((flatT 0 t).map niOf) = true ∧ scriptW d t = .ok s ∧ toks L = .ok r ∧ r.map zp = s.toks ++ [endTk] ∧
    treeP (s.toks ++ [endTk]) = .ok l ∧ npsB l (flatT 0 t) = true ∧ (joinL s.toks).length ≤ 65536 ∧ s.toks.length ≤ 16384 ∧ joinL s.toks = out ∧ (l.all fun c => decide (c.kids.length ≤ 100000)) = true
theorem treeAt_below {n : Nat} {l : List Nd} {v : Value} {w w' : World} (h : TreeAt n l v w) (g : Below w.heap.size w w') : TreeAt n l v w' := treeAt_up h (Nat.le_refl _) g.size fun k _ hk => g.block k hk
set_option maxHeartbeats 4000000 in
set_option maxRecDepth 100000 in
theorem ptext_ok {n0 : Nat} {L : List Nd} {T : List Tk} {A : Option Addr} {cap : Nat} {out : List UInt8} {w : World} (hT : TreeAt n0 L (.agg #[.slice A L.length cap]) w) (htab : TabHere w)
    (kt : ∀ (W : World), TreeAt n0 L (.agg #[.slice A L.length cap]) W → TabHere W → Calls Tryz.prog 18 #[.agg #[.slice A L.length cap]] W fun e w' => ∃ A' cap', e = .returned (.tuple #[.slice A' T.length cap', .int .i64 0]) ∧ T.length ≤ cap' ∧ RdA w' A' T ∧ Below W.heap.size W w')
    (kx : ∀ (A : Option Addr) (cap : Nat) (W : World), RdA W A T → T.length ≤ cap → TabHere W → Calls Tryz.prog 19 #[.slice A T.length cap] W (TextTo' out 0 W)) :
    Calls Tryz.prog 14 #[.agg #[.slice A L.length cap]] w fun e w' => e = .returned (.tuple #[.string (mkB out), .int .i64 0]) ∧ Below w.heap.size w w' := by
  have gA := zero_alloc w (.cells #[.slice A L.length cap] 32)
  have tabU : ∀ W, Below w.heap.size w W → TabHere W := fun W g u hu => htab u (g.trans (hu.mono g.size))
  have ky := kt _ (treeAt_below hT gA) (tabU _ gA)
  have HA := Lib.hid (And.intro gA tabU)
  clear gA tabU hT htab kt
  generalize T.length = n at *
  go_enter Tryz.func14, Tryz.ntmps14
  go_wp2_with (fail)
  go_at_call 18
  refine ky.mono ?_
  rintro e w1 ⟨A1, cap1, rfl, hc1, hr1, g1⟩
  have B1 := Lib.hid (show Below w.heap.size w w1 from HA.out.1.trans (g1.mono HA.out.1.size))
  have kx1 := kx A1 cap1 w1 hr1 hc1 (HA.out.2 w1 B1.out)
  clear hc1 hr1 g1 kx
  go_wp2_with (fail)
  go_at_call 19
  refine kx1.mono ?_
  rintro e w2 ⟨rfl, g2⟩
  go_wp2_with (fail)
  go_ret2
  exact ⟨rfl, B1.out.trans (g2.mono B1.out.size)⟩
set_option maxHeartbeats 4000000 in
set_option maxRecDepth 100000 in
theorem lawtext_any {src : ByteArray} {out : List UInt8} (hsz : src.size ≤ 70000) (H : Wt src out) (w : World) (htab : TabHere w) : Calls Tryz.prog 7 #[.string src] w fun e w' => e = .returned (.string (mkB out)) ∧ Below w.heap.size w w' := by
  obtain ⟨t, d, s, L, r, l, h1, h2, h3, h4, h5, h6, h7, h8, h9, h10, h11, h12, h13⟩ := H.ex
  have kp := parse_any src hsz w htab
  rw [h1] at kp
  obtain ⟨hi, hm, _⟩ := told_in h6
  have hi2 := in_zp hi
  have hm2 := may_zp hm
  rw [h7] at hi2 hm2
  obtain ⟨n1, n2⟩ := npsB_of _ _ h9
  have hdl : (s.toks ++ [endTk]).dropLast = s.toks := List.dropLast_concat
  have hlT : (s.toks ++ [endTk]).length = s.toks.length + 1 := by simp
  have hTx : TextR (s.toks ++ [endTk]) out 0 := by
    refine Or.inr (Or.inr (Or.inr ⟨by rw [hlT]; omega, hm2, by rw [hdl]; exact h10, by rw [hdl]; exact h12.symm, rfl⟩))
  have HH := Lib.hid (fun (n0 : Nat) (A : Option Addr) (cap : Nat) (W : World) (hT : TreeAt n0 (flatT 0 t) (.agg #[.slice A (flatT 0 t).length cap]) W) (ht : TabHere W) => ptold_yes hT rfl h2 h3 h4 h5 hi2 hm2 h8 n1 (fun i a b => ⟨n2 i a b, by
    have := List.all_eq_true.1 h13 l[i] (List.getElem_mem a)
    exact of_decide_eq_true this⟩) ht)
  have HX := Lib.hid (fun (A : Option Addr) (cap : Nat) (W : World) (hr : RdA W A (s.toks ++ [endTk])) (hc : s.toks.length + 1 ≤ cap) (ht : TabHere W) => Text_any (s.toks ++ [endTk]) A cap W hr hi2 (by rw [hlT]; omega) (by rw [hlT]; exact hc) ht out 0 hTx)
  have HT := Lib.hid htab
  clear hi hm hi2 hm2 n1 n2 hTx h1 h2 h3 h4 h5 h6 h7 h8 h9 h10 h12 h13 htab hdl
  go_enter Tryz.func7, Tryz.ntmps7
  go_wp2_with (fail)
  go_at_call 11
  refine kp.mono ?_
  rintro e w1 ⟨v, rfl, hT1, g1⟩
  obtain ⟨A1, cap1, cs1, rfl, hq1, hq2⟩ := hT1
  have hT1 : TreeAt w.heap.size (flatT 0 t) (.agg #[.slice A1 (flatT 0 t).length cap1]) w1 := ⟨A1, cap1, cs1, rfl, hq1, hq2⟩
  clear hq1 hq2
  have g2 := zero_alloc w1 (.cells #[.slice A1 (flatT 0 t).length cap1] 32)
  have tabU : ∀ W, Below w.heap.size w W → TabHere W := fun W g u hu => HT.out u (g.trans (hu.mono g.size))
  have B2 := Lib.hid (show Below w.heap.size w _ from g1.trans (g2.mono g1.size))
  have kx := ptext_ok (T := s.toks ++ [endTk]) (treeAt_below hT1 g2) (tabU _ B2.out) (fun W hW ht => by rw [hlT]; exact HH.out _ _ _ W hW ht) (fun A cap W hr hc ht => HX.out A cap W hr (by rw [hlT] at hc; exact hc) ht)
  clear g2 hT1 tabU g1 hlT
  generalize (flatT 0 t).length = n at *
  go_wp2_with (fail)
  go_at_call 14
  refine kx.mono ?_
  rintro e w3 ⟨rfl, g3⟩
  go_wp2_with (fail)
  go_ret
  exact ⟨rfl, B2.out.trans (g3.mono B2.out.size)⟩
end Go.Proofs.YtablckajobefeaaGreatDoor.S
/-
  built of a tree's own nodes.
-/
namespace Go.Proofs.YtablckajobefeaaGreatDoor.S
open Go.RowKit Fl

theorem kidsB_lt {k n : Nat} (h : kidsB k n = true) : k < 44 := by
  unfold kidsB at h
  (repeat' split at h) <;> first | omega | exact absurd h (by decide)
set_option maxHeartbeats 4000000 in
theorem kidsI_of {k n : Nat} (h : kidsB k n = true) : kidsI k n = true := by
  have hk := kidsB_lt h
  have key : ∀ a b : Int, leastI k = a → mostI k = b → a ≤ (n : Int) → (n : Int) ≤ b → kidsI k n = true := by
    intro a b h1 h2 h3 h4
    unfold kidsI
    rw [h1, h2, Bool.and_eq_true]
    exact ⟨by simp; omega, by simp; omega⟩
  rcases (show k = 0 ∨ k = 1 ∨ k = 2 ∨ k = 3 ∨ k = 4 ∨ k = 5 ∨ k = 6 ∨ k = 7 ∨ k = 8 ∨ k = 9 ∨ k = 10 ∨ k = 11 ∨ k = 12 ∨ k = 13 ∨ k = 14 ∨ k = 15 ∨ k = 16 ∨ k = 17 ∨ k = 18 ∨ k = 19 ∨ k = 20 ∨ k = 21 ∨ k = 22 ∨ k = 23 ∨ k = 24 ∨ k = 25 ∨ k = 26 ∨ k = 27 ∨ k = 28 ∨ k = 29 ∨ k = 30 ∨ k = 31 ∨ k = 32 ∨ k = 33 ∨ k = 34 ∨ k = 35 ∨ k = 36 ∨ k = 37 ∨ k = 38 ∨ k = 39 ∨ k = 40 ∨ k = 41 ∨ k = 42 ∨ k = 43 by omega) with rfl | rfl | rfl | rfl | rfl | rfl | rfl | rfl | rfl | rfl | rfl | rfl | rfl | rfl | rfl | rfl | rfl | rfl | rfl | rfl | rfl | rfl | rfl | rfl | rfl | rfl | rfl | rfl | rfl | rfl | rfl | rfl | rfl | rfl | rfl | rfl | rfl | rfl | rfl | rfl | rfl | rfl | rfl | rfl
  all_goals
    unfold kidsB at h
    simp at h
    try (simp only [leastI, mostI, List.getD_cons_succ, List.getD_cons_zero] at key; refine key _ _ rfl rfl ?_ ?_ <;> omega)
mutual
theorem bF_tree {N : List Ni} : ∀ (t : Tr) (n f : Nat), SubT N n t → RowT t = true → t.size ≤ f → bF N f n n = some (n + t.size)
  | .mk k p c x l, n, f, hs, hr, hf => by
    rw [size_mk] at hf ⊢
    cases f with
    | zero => omega
    | succ f =>
      unfold SubT at hs
      unfold RowT rowedB at hr
      simp only [Bool.and_eq_true] at hr
      unfold bF
      rw [if_neg (fun h => h rfl), hs.1]
      dsimp only
      have hrow : rowedN ⟨k, p, c, x, KidsT (n + 1) l⟩ = true := by
        unfold rowedN
        dsimp only
        rw [kidsT_len, Bool.and_eq_true]
        exact ⟨kidsI_of hr.1.1, hr.1.2⟩
      rw [if_pos hrow, bL_tree l (n + 1) f hs.2 hr.2 (by omega), Nat.add_assoc]
theorem bL_tree {N : List Ni} : ∀ (l : List Tr) (n f : Nat), SubL N n l → RowTs l = true → Tr.sizes l ≤ f → bL N f (KidsT n l) n = some (n + Tr.sizes l)
  | [], n, f, _, _, _ => by
    show bL N f [] n = _
    unfold bL
    rfl
  | t :: l, n, f, hs, hr, hf => by
    unfold SubL at hs
    unfold RowTs at hr
    rw [Bool.and_eq_true] at hr
    have e : Tr.sizes (t :: l) = t.size + Tr.sizes l := by simp [Tr.sizes]
    rw [e] at hf ⊢
    show bL N f ((n : Int) :: KidsT (n + t.size) l) n = _
    unfold bL
    rw [bF_tree t n f hs.1 hr.1 (by omega)]
    dsimp only
    rw [bL_tree l (n + t.size) f hs.2 hr.2 (by omega), Nat.add_assoc]
end
/-- a tree's nodes are numbered as a tree's are -/
theorem built_flat {t : Tr} (hr : RowT t = true) (hk : t.kind = 1) : builtB ((flatT 0 t).map niOf) = true := by
  have hl : ((flatT 0 t).map niOf).length = t.size := by rw [List.length_map, flatT_len]
  have h := bF_tree t 0 (((flatT 0 t).map niOf).length + 1) (subT_all t) hr (by omega)
  rw [Nat.zero_add] at h
  have h0 : ((flatT 0 t).map niOf)[0]? = some ⟨t.kind, t.pos, t.text, t.num, KidsT (0 + 1) t.kids⟩ := (subT_node (subT_all t)).1
  unfold builtB
  rw [show ((0 : Nat) : Int) = 0 from rfl] at h
  rw [h, h0]
  dsimp only
  rw [hl, hk]
  simp
end Go.Proofs.YtablckajobefeaaGreatDoor.S
/-
  The law ParseNames: what it calls; its walk.
-/
namespace Go.Proofs.YtablckajobefeaaGreatDoor.S
open Go.RowKit Fl


set_option maxHeartbeats 4000000 in
set_option maxRecDepth 100000 in
theorem Kind_44 (w : World) : Calls Tryz.prog 9 #[.int .u8 44] w fun e w' => e = .returned (.string ⟨#[]⟩) ∧ Below w.heap.size w w' := by
  go_enter Tryz.func9, Tryz.ntmps9
  go_upto_region 1 with (fail)
  refine wp_region_lit ?_
  refine wpList_plain rfl (fun K1 hK1 => ?_)
  go_simp
  refine hK1 _ _ ?_
  clear hK1 K1
  refine wpList_plain rfl (fun K2 hK2 => ?_)
  go_simp
  refine hK2 _ _ ?_
  clear hK2 K2
  refine wpList_store_mid rfl 45 _ _ rfl w.heap.size 0 kindCells rfl rfl (there_new w #[.string ⟨#[]⟩, .string ⟨#[]⟩, .string ⟨#[]⟩, .string ⟨#[]⟩, .string ⟨#[]⟩, .string ⟨#[]⟩, .string ⟨#[]⟩, .string ⟨#[]⟩, .string ⟨#[]⟩, .string ⟨#[]⟩, .string ⟨#[]⟩, .string ⟨#[]⟩, .string ⟨#[]⟩, .string ⟨#[]⟩, .string ⟨#[]⟩, .string ⟨#[]⟩, .string ⟨#[]⟩, .string ⟨#[]⟩, .string ⟨#[]⟩, .string ⟨#[]⟩, .string ⟨#[]⟩, .string ⟨#[]⟩, .string ⟨#[]⟩, .string ⟨#[]⟩, .string ⟨#[]⟩, .string ⟨#[]⟩, .string ⟨#[]⟩, .string ⟨#[]⟩, .string ⟨#[]⟩, .string ⟨#[]⟩, .string ⟨#[]⟩, .string ⟨#[]⟩, .string ⟨#[]⟩, .string ⟨#[]⟩, .string ⟨#[]⟩, .string ⟨#[]⟩, .string ⟨#[]⟩, .string ⟨#[]⟩, .string ⟨#[]⟩, .string ⟨#[]⟩, .string ⟨#[]⟩, .string ⟨#[]⟩, .string ⟨#[]⟩, .string ⟨#[]⟩] 45) (by kernel_rfl) (by kernel_rfl) ?_
  have hB := Lib.hid (below_setCells (Nat.le_refl _) kindCells.toList 0 _ (nodeBox w (.cells #[.string ⟨#[]⟩, .string ⟨#[]⟩, .string ⟨#[]⟩, .string ⟨#[]⟩, .string ⟨#[]⟩, .string ⟨#[]⟩, .string ⟨#[]⟩, .string ⟨#[]⟩, .string ⟨#[]⟩, .string ⟨#[]⟩, .string ⟨#[]⟩, .string ⟨#[]⟩, .string ⟨#[]⟩, .string ⟨#[]⟩, .string ⟨#[]⟩, .string ⟨#[]⟩, .string ⟨#[]⟩, .string ⟨#[]⟩, .string ⟨#[]⟩, .string ⟨#[]⟩, .string ⟨#[]⟩, .string ⟨#[]⟩, .string ⟨#[]⟩, .string ⟨#[]⟩, .string ⟨#[]⟩, .string ⟨#[]⟩, .string ⟨#[]⟩, .string ⟨#[]⟩, .string ⟨#[]⟩, .string ⟨#[]⟩, .string ⟨#[]⟩, .string ⟨#[]⟩, .string ⟨#[]⟩, .string ⟨#[]⟩, .string ⟨#[]⟩, .string ⟨#[]⟩, .string ⟨#[]⟩, .string ⟨#[]⟩, .string ⟨#[]⟩, .string ⟨#[]⟩, .string ⟨#[]⟩, .string ⟨#[]⟩, .string ⟨#[]⟩, .string ⟨#[]⟩] 45)))
  generalize (w.alloc (.cells #[.string ⟨#[]⟩, .string ⟨#[]⟩, .string ⟨#[]⟩, .string ⟨#[]⟩, .string ⟨#[]⟩, .string ⟨#[]⟩, .string ⟨#[]⟩, .string ⟨#[]⟩, .string ⟨#[]⟩, .string ⟨#[]⟩, .string ⟨#[]⟩, .string ⟨#[]⟩, .string ⟨#[]⟩, .string ⟨#[]⟩, .string ⟨#[]⟩, .string ⟨#[]⟩, .string ⟨#[]⟩, .string ⟨#[]⟩, .string ⟨#[]⟩, .string ⟨#[]⟩, .string ⟨#[]⟩, .string ⟨#[]⟩, .string ⟨#[]⟩, .string ⟨#[]⟩, .string ⟨#[]⟩, .string ⟨#[]⟩, .string ⟨#[]⟩, .string ⟨#[]⟩, .string ⟨#[]⟩, .string ⟨#[]⟩, .string ⟨#[]⟩, .string ⟨#[]⟩, .string ⟨#[]⟩, .string ⟨#[]⟩, .string ⟨#[]⟩, .string ⟨#[]⟩, .string ⟨#[]⟩, .string ⟨#[]⟩, .string ⟨#[]⟩, .string ⟨#[]⟩, .string ⟨#[]⟩, .string ⟨#[]⟩, .string ⟨#[]⟩, .string ⟨#[]⟩] 45)).setCells w.heap.size 0 kindCells.toList = W at *
  go_wp2_with (fail)
  go_ret
  exact ⟨rfl, hB.out⟩


set_option maxHeartbeats 4000000 in
set_option maxRecDepth 100000 in
theorem wrong_any {src : ByteArray} {p k : Int} (hsz : src.size ≤ 70000) (h : parseP src.data.toList = .err p k) (w : World) (htab : TabHere w) : Calls Tryz.prog 6 #[.string src, .int .i64 p, .int .i64 k] w fun e w' => e = .returned (.bool true) ∧ Below w.heap.size w w' := by
  have kp := parse_any src hsz w htab
  rw [h] at kp
  clear h htab
  go_enter Tryz.func6, Tryz.ntmps6
  go_wp2_with (fail)
  go_at_call 11
  refine kp.mono ?_
  rintro e w1 ⟨rfl, g1⟩
  have B := Lib.hid (g1.trans ((zero_alloc w1 (.cells #[.slice none 0 0] 32)).mono g1.size))
  clear g1
  go_wp2_with (fail)
  go_ret
  exact ⟨rfl, B.out⟩

theorem kinds_1 (w : World) (htab : TabHere w) : Calls Tryz.prog 5 #[.string (⟨#[110, 101, 119, 32, 97, 46, 98, 40, 49, 41, 46, 99, 59]⟩ : ByteArray), .slice (some ⟨w.heap.size, 0, none⟩) 7 7] (w.alloc (.cells #[.int .u8 1, .int .u8 6, .int .u8 34, .int .u8 37, .int .u8 34, .int .u8 26, .int .u8 20] 5)) fun e w' => e = .returned (.bool true) ∧ Below w.heap.size w w' := by
  have g := zero_alloc w (.cells #[.int .u8 1, .int .u8 6, .int .u8 34, .int .u8 37, .int .u8 34, .int .u8 26, .int .u8 20] 5)
  have hb := heap_alloc_new w (.cells #[.int .u8 1, .int .u8 6, .int .u8 34, .int .u8 37, .int .u8 34, .int .u8 26, .int .u8 20] 5)
  refine (kinds_any (⟨#[110, 101, 119, 32, 97, 46, 98, 40, 49, 41, 46, 99, 59]⟩ : ByteArray) (by decide) [1, 6, 34, 37, 34, 26, 20] w.heap.size _ (fun u hu => htab u (g.trans (hu.mono g.size))) (by simp) (fun i h => ?_) (by decide)).mono ?_
  · rw [blk_cell hb i]
    match i, h with
    | 0, _ => rfl
    | 1, _ => rfl
    | 2, _ => rfl
    | 3, _ => rfl
    | 4, _ => rfl
    | 5, _ => rfl
    | 6, _ => rfl
    | i + 7, h => exact absurd h (show ¬ (i + 7 < 7) by omega)
  · rintro e w' ⟨rfl, g'⟩
    exact ⟨by rw [show kindsP (parseP ((⟨#[110, 101, 119, 32, 97, 46, 98, 40, 49, 41, 46, 99, 59]⟩ : ByteArray) : ByteArray).data.toList) [1, 6, 34, 37, 34, 26, 20] = true by kernel_rfl], g.trans (g'.mono g.size)⟩

theorem kinds_2 (w : World) (htab : TabHere w) : Calls Tryz.prog 5 #[.string ⟨#[]⟩, .slice (some ⟨w.heap.size, 0, none⟩) 1 1] (w.alloc (.cells #[.int .u8 1] 5)) fun e w' => e = .returned (.bool true) ∧ Below w.heap.size w w' := by
  have g := zero_alloc w (.cells #[.int .u8 1] 5)
  have hb := heap_alloc_new w (.cells #[.int .u8 1] 5)
  refine (kinds_any ⟨#[]⟩ (by decide) [1] w.heap.size _ (fun u hu => htab u (g.trans (hu.mono g.size))) (by simp) (fun i h => ?_) (by decide)).mono ?_
  · rw [blk_cell hb i]
    match i, h with
    | 0, _ => rfl
    | i + 1, h => exact absurd h (show ¬ (i + 1 < 1) by omega)
  · rintro e w' ⟨rfl, g'⟩
    exact ⟨by rw [show kindsP (parseP (⟨#[]⟩ : ByteArray).data.toList) [1] = true by kernel_rfl], g.trans (g'.mono g.size)⟩

theorem kinds_3 (w : World) (htab : TabHere w) : Calls Tryz.prog 5 #[.string (⟨#[123, 125]⟩ : ByteArray), .slice (some ⟨w.heap.size, 0, none⟩) 2 2] (w.alloc (.cells #[.int .u8 1, .int .u8 2] 5)) fun e w' => e = .returned (.bool true) ∧ Below w.heap.size w w' := by
  have g := zero_alloc w (.cells #[.int .u8 1, .int .u8 2] 5)
  have hb := heap_alloc_new w (.cells #[.int .u8 1, .int .u8 2] 5)
  refine (kinds_any (⟨#[123, 125]⟩ : ByteArray) (by decide) [1, 2] w.heap.size _ (fun u hu => htab u (g.trans (hu.mono g.size))) (by simp) (fun i h => ?_) (by decide)).mono ?_
  · rw [blk_cell hb i]
    match i, h with
    | 0, _ => rfl
    | 1, _ => rfl
    | i + 2, h => exact absurd h (show ¬ (i + 2 < 2) by omega)
  · rintro e w' ⟨rfl, g'⟩
    exact ⟨by rw [show kindsP (parseP ((⟨#[123, 125]⟩ : ByteArray) : ByteArray).data.toList) [1, 2] = true by kernel_rfl], g.trans (g'.mono g.size)⟩

theorem kinds_4 (w : World) (htab : TabHere w) : Calls Tryz.prog 5 #[.string (⟨#[40, 123, 125, 41, 59]⟩ : ByteArray), .slice (some ⟨w.heap.size, 0, none⟩) 3 3] (w.alloc (.cells #[.int .u8 1, .int .u8 6, .int .u8 28] 5)) fun e w' => e = .returned (.bool true) ∧ Below w.heap.size w w' := by
  have g := zero_alloc w (.cells #[.int .u8 1, .int .u8 6, .int .u8 28] 5)
  have hb := heap_alloc_new w (.cells #[.int .u8 1, .int .u8 6, .int .u8 28] 5)
  refine (kinds_any (⟨#[40, 123, 125, 41, 59]⟩ : ByteArray) (by decide) [1, 6, 28] w.heap.size _ (fun u hu => htab u (g.trans (hu.mono g.size))) (by simp) (fun i h => ?_) (by decide)).mono ?_
  · rw [blk_cell hb i]
    match i, h with
    | 0, _ => rfl
    | 1, _ => rfl
    | 2, _ => rfl
    | i + 3, h => exact absurd h (show ¬ (i + 3 < 3) by omega)
  · rintro e w' ⟨rfl, g'⟩
    exact ⟨by rw [show kindsP (parseP ((⟨#[40, 123, 125, 41, 59]⟩ : ByteArray) : ByteArray).data.toList) [1, 6, 28] = true by kernel_rfl], g.trans (g'.mono g.size)⟩

set_option maxRecDepth 100000 in
theorem wrong_1 : parseP ((⟨#[97]⟩ : ByteArray) : ByteArray).data.toList = .err 1 5 := by kernel_rfl
set_option maxRecDepth 100000 in
theorem wrong_2 : parseP ((⟨#[49, 32, 61, 32, 50, 59]⟩ : ByteArray) : ByteArray).data.toList = .err 2 5 := by kernel_rfl
set_option maxRecDepth 100000 in
theorem wrong_3 : parseP ((⟨#[105, 102, 32, 40, 97, 41, 32, 108, 101, 116, 32, 98, 59]⟩ : ByteArray) : ByteArray).data.toList = .err 7 5 := by kernel_rfl
set_option maxRecDepth 100000 in
theorem wrong_4 : parseP ((⟨#[116, 114, 121, 32, 123, 125]⟩ : ByteArray) : ByteArray).data.toList = .err 6 5 := by kernel_rfl
set_option maxRecDepth 100000 in
theorem wrong_5 : parseP ((⟨#[110, 101, 119, 32, 97, 59]⟩ : ByteArray) : ByteArray).data.toList = .err 5 5 := by kernel_rfl
set_option maxRecDepth 100000 in
theorem wrong_6 : parseP ((⟨#[102, 40, 49, 44, 41, 59]⟩ : ByteArray) : ByteArray).data.toList = .err 4 5 := by kernel_rfl
set_option maxRecDepth 1000000 in
theorem wrong_7 : parseP (mkB (manyL [40] 300)).data.toList = .err 199 6 := by kernel_rfl
set_option maxRecDepth 1000000 in
theorem wrong_8 : parseP (mkB (manyL [123] 300)).data.toList = .err 200 6 := by kernel_rfl
def treeOf (s : List UInt8) : Tr := match toks s with
  | .ok T => match scriptR T (depthOf T) ⟨0, 0, 0⟩ with
    | .ok t _ => t
    | _ => noTr
  | _ => noTr
def wrOf (d : Nat) (t : Tr) : Wr := match scriptW d t with
  | .ok s => s
  | _ => ⟨[], 0⟩
def tksOf (s : List UInt8) : List Tk := match toks s with
  | .ok T => T
  | _ => []
def ndsOf (T : List Tk) : List Nd := match treeP T with
  | .ok l => l
  | _ => []
set_option maxRecDepth 1000000 in
theorem wt_1 : Wt (⟨#[40, 97, 32, 43, 32, 98, 41, 32, 42, 32, 99, 59]⟩ : ByteArray) ((⟨#[40, 32, 97, 32, 43, 32, 98, 32, 41, 32, 42, 32, 99, 32, 59]⟩ : ByteArray) : ByteArray).data.toList :=
  ⟨treeOf ((⟨#[40, 97, 32, 43, 32, 98, 41, 32, 42, 32, 99, 59]⟩ : ByteArray) : ByteArray).data.toList, 60, wrOf 60 (treeOf ((⟨#[40, 97, 32, 43, 32, 98, 41, 32, 42, 32, 99, 59]⟩ : ByteArray) : ByteArray).data.toList), ((⟨#[40, 32, 97, 32, 43, 32, 98, 32, 41, 32, 42, 32, 99, 32, 59]⟩ : ByteArray) : ByteArray).data.toList, tksOf ((⟨#[40, 32, 97, 32, 43, 32, 98, 32, 41, 32, 42, 32, 99, 32, 59]⟩ : ByteArray) : ByteArray).data.toList,
    ndsOf ((wrOf 60 (treeOf ((⟨#[40, 97, 32, 43, 32, 98, 41, 32, 42, 32, 99, 59]⟩ : ByteArray) : ByteArray).data.toList)).toks ++ [endTk]), by kernel_rfl, by kernel_rfl, by decide +kernel, built_flat (by kernel_rfl) (by kernel_rfl), by kernel_rfl, by kernel_rfl, by kernel_rfl, by kernel_rfl, by kernel_rfl, by decide +kernel, by decide +kernel, by kernel_rfl, by kernel_rfl⟩
set_option maxRecDepth 1000000 in
theorem wt_2 : Wt (⟨#[97, 32, 43, 32, 40, 98, 32, 42, 32, 99, 41, 59]⟩ : ByteArray) ((⟨#[97, 32, 43, 32, 98, 32, 42, 32, 99, 32, 59]⟩ : ByteArray) : ByteArray).data.toList :=
  ⟨treeOf ((⟨#[97, 32, 43, 32, 40, 98, 32, 42, 32, 99, 41, 59]⟩ : ByteArray) : ByteArray).data.toList, 60, wrOf 60 (treeOf ((⟨#[97, 32, 43, 32, 40, 98, 32, 42, 32, 99, 41, 59]⟩ : ByteArray) : ByteArray).data.toList), ((⟨#[97, 32, 43, 32, 98, 32, 42, 32, 99, 32, 59]⟩ : ByteArray) : ByteArray).data.toList, tksOf ((⟨#[97, 32, 43, 32, 98, 32, 42, 32, 99, 32, 59]⟩ : ByteArray) : ByteArray).data.toList,
    ndsOf ((wrOf 60 (treeOf ((⟨#[97, 32, 43, 32, 40, 98, 32, 42, 32, 99, 41, 59]⟩ : ByteArray) : ByteArray).data.toList)).toks ++ [endTk]), by kernel_rfl, by kernel_rfl, by decide +kernel, built_flat (by kernel_rfl) (by kernel_rfl), by kernel_rfl, by kernel_rfl, by kernel_rfl, by kernel_rfl, by kernel_rfl, by decide +kernel, by decide +kernel, by kernel_rfl, by kernel_rfl⟩
theorem text_1 (w : World) (htab : TabHere w) : Calls Tryz.prog 7 #[.string (⟨#[40, 97, 32, 43, 32, 98, 41, 32, 42, 32, 99, 59]⟩ : ByteArray)] w fun e w' => e = .returned (.string (⟨#[40, 32, 97, 32, 43, 32, 98, 32, 41, 32, 42, 32, 99, 32, 59]⟩ : ByteArray)) ∧ Below w.heap.size w w' := lawtext_any (by decide) wt_1 w htab
theorem text_2 (w : World) (htab : TabHere w) : Calls Tryz.prog 7 #[.string (⟨#[97, 32, 43, 32, 40, 98, 32, 42, 32, 99, 41, 59]⟩ : ByteArray)] w fun e w' => e = .returned (.string (⟨#[97, 32, 43, 32, 98, 32, 42, 32, 99, 32, 59]⟩ : ByteArray)) ∧ Below w.heap.size w w' := lawtext_any (by decide) wt_2 w htab
def P300 : ByteArray := mkB (manyL [40] 300)
def Q300 : ByteArray := mkB (manyL [123] 300)
theorem many_1 (w : World) : Calls Tryz.prog 8 #[.string ⟨#[40]⟩, .int .i64 300] w fun e w' => e = .returned (.string P300) ∧ Below w.heap.size w w' := many_any [40] 300 w (by decide) (by decide)
theorem many_2 (w : World) : Calls Tryz.prog 8 #[.string ⟨#[123]⟩, .int .i64 300] w fun e w' => e = .returned (.string Q300) ∧ Below w.heap.size w w' := many_any [123] 300 w (by decide) (by decide)
theorem wrongc_7 (w : World) (htab : TabHere w) : Calls Tryz.prog 6 #[.string P300, .int .i64 199, .int .i64 6] w fun e w' => e = .returned (.bool true) ∧ Below w.heap.size w w' := wrong_any (by decide +kernel) wrong_7 w htab
theorem wrongc_8 (w : World) (htab : TabHere w) : Calls Tryz.prog 6 #[.string Q300, .int .i64 200, .int .i64 6] w fun e w' => e = .returned (.bool true) ∧ Below w.heap.size w w' := wrong_any (by decide +kernel) wrong_8 w htab
theorem kind_10 (w : World) : Calls Tryz.prog 9 #[.int .u8 10] w fun e w' => e = .returned (.string (⟨#[102, 111, 114, 111, 102]⟩ : ByteArray)) ∧ Below w.heap.size w w' := Kind_w 10 (by decide) w
theorem kind_19 (w : World) : Calls Tryz.prog 9 #[.int .u8 19] w fun e w' => e = .returned (.string ⟨#[]⟩) ∧ Below w.heap.size w w' := Kind_w 19 (by decide) w
end Go.Proofs.YtablckajobefeaaGreatDoor.S
/-
  The law ParseNames: its walk.
-/
namespace Go.Proofs.YtablckajobefeaaGreatDoor.S
open Go.RowKit Fl

theorem wrongc_1 (w : World) (htab : TabHere w) : Calls Tryz.prog 6 #[.string (⟨#[97]⟩ : ByteArray), .int .i64 1, .int .i64 5] w fun e w' => e = .returned (.bool true) ∧ Below w.heap.size w w' := wrong_any (by decide) wrong_1 w htab
theorem wrongc_2 (w : World) (htab : TabHere w) : Calls Tryz.prog 6 #[.string (⟨#[49, 32, 61, 32, 50, 59]⟩ : ByteArray), .int .i64 2, .int .i64 5] w fun e w' => e = .returned (.bool true) ∧ Below w.heap.size w w' := wrong_any (by decide) wrong_2 w htab
theorem wrongc_3 (w : World) (htab : TabHere w) : Calls Tryz.prog 6 #[.string (⟨#[105, 102, 32, 40, 97, 41, 32, 108, 101, 116, 32, 98, 59]⟩ : ByteArray), .int .i64 7, .int .i64 5] w fun e w' => e = .returned (.bool true) ∧ Below w.heap.size w w' := wrong_any (by decide) wrong_3 w htab
theorem wrongc_4 (w : World) (htab : TabHere w) : Calls Tryz.prog 6 #[.string (⟨#[116, 114, 121, 32, 123, 125]⟩ : ByteArray), .int .i64 6, .int .i64 5] w fun e w' => e = .returned (.bool true) ∧ Below w.heap.size w w' := wrong_any (by decide) wrong_4 w htab
theorem wrongc_5 (w : World) (htab : TabHere w) : Calls Tryz.prog 6 #[.string (⟨#[110, 101, 119, 32, 97, 59]⟩ : ByteArray), .int .i64 5, .int .i64 5] w fun e w' => e = .returned (.bool true) ∧ Below w.heap.size w w' := wrong_any (by decide) wrong_5 w htab
theorem wrongc_6 (w : World) (htab : TabHere w) : Calls Tryz.prog 6 #[.string (⟨#[102, 40, 49, 44, 41, 59]⟩ : ByteArray), .int .i64 4, .int .i64 5] w fun e w' => e = .returned (.bool true) ∧ Below w.heap.size w w' := wrong_any (by decide) wrong_6 w htab
set_option maxHeartbeats 8000000 in
set_option maxRecDepth 1000000 in
theorem ParseNames_walk (w : World) (htab : TabHere w) : Calls Tryz.prog 3 #[] w fun e w' => e = .returned (.bool true) ∧ Below w.heap.size w w' := by
  have tabU : ∀ W, Below w.heap.size w W → TabHere W := fun W g u hu => htab u (g.trans (hu.mono g.size))
  have B := Lib.hid (Below.refl w.heap.size w)
  clear htab
  go_enter Tryz.func3, Tryz.ntmps3
  go_wp2_with (first
      | (go_at_call 5; first
        | ((with_reducible refine (kinds_1 _ (tabU _ B.out)).mono ?_); rintro e w1 ⟨rfl, g1⟩; have B := Lib.hid (B.out.trans (g1.mono B.out.size)); clear g1)
        | ((with_reducible refine (kinds_2 _ (tabU _ B.out)).mono ?_); rintro e w1 ⟨rfl, g1⟩; have B := Lib.hid (B.out.trans (g1.mono B.out.size)); clear g1)
        | ((with_reducible refine (kinds_3 _ (tabU _ B.out)).mono ?_); rintro e w1 ⟨rfl, g1⟩; have B := Lib.hid (B.out.trans (g1.mono B.out.size)); clear g1)
        | ((with_reducible refine (kinds_4 _ (tabU _ B.out)).mono ?_); rintro e w1 ⟨rfl, g1⟩; have B := Lib.hid (B.out.trans (g1.mono B.out.size)); clear g1))
      | (go_at_call 6; first
        | ((with_reducible refine (wrongc_1 _ (tabU _ B.out)).mono ?_); rintro e w1 ⟨rfl, g1⟩; have B := Lib.hid (B.out.trans (g1.mono B.out.size)); clear g1)
        | ((with_reducible refine (wrongc_2 _ (tabU _ B.out)).mono ?_); rintro e w1 ⟨rfl, g1⟩; have B := Lib.hid (B.out.trans (g1.mono B.out.size)); clear g1)
        | ((with_reducible refine (wrongc_3 _ (tabU _ B.out)).mono ?_); rintro e w1 ⟨rfl, g1⟩; have B := Lib.hid (B.out.trans (g1.mono B.out.size)); clear g1)
        | ((with_reducible refine (wrongc_4 _ (tabU _ B.out)).mono ?_); rintro e w1 ⟨rfl, g1⟩; have B := Lib.hid (B.out.trans (g1.mono B.out.size)); clear g1)
        | ((with_reducible refine (wrongc_5 _ (tabU _ B.out)).mono ?_); rintro e w1 ⟨rfl, g1⟩; have B := Lib.hid (B.out.trans (g1.mono B.out.size)); clear g1)
        | ((with_reducible refine (wrongc_6 _ (tabU _ B.out)).mono ?_); rintro e w1 ⟨rfl, g1⟩; have B := Lib.hid (B.out.trans (g1.mono B.out.size)); clear g1)
        | ((with_reducible refine (wrongc_7 _ (tabU _ B.out)).mono ?_); rintro e w1 ⟨rfl, g1⟩; have B := Lib.hid (B.out.trans (g1.mono B.out.size)); clear g1)
        | ((with_reducible refine (wrongc_8 _ (tabU _ B.out)).mono ?_); rintro e w1 ⟨rfl, g1⟩; have B := Lib.hid (B.out.trans (g1.mono B.out.size)); clear g1))
      | (go_at_call 7; first
        | ((with_reducible refine (text_1 _ (tabU _ B.out)).mono ?_); rintro e w1 ⟨rfl, g1⟩; have B := Lib.hid (B.out.trans (g1.mono B.out.size)); clear g1)
        | ((with_reducible refine (text_2 _ (tabU _ B.out)).mono ?_); rintro e w1 ⟨rfl, g1⟩; have B := Lib.hid (B.out.trans (g1.mono B.out.size)); clear g1))
      | (go_at_call 8; first
        | ((with_reducible refine (many_1 _).mono ?_); rintro e w1 ⟨rfl, g1⟩; have B := Lib.hid (B.out.trans (g1.mono B.out.size)); clear g1)
        | ((with_reducible refine (many_2 _).mono ?_); rintro e w1 ⟨rfl, g1⟩; have B := Lib.hid (B.out.trans (g1.mono B.out.size)); clear g1))
      | (go_at_call 9; first
        | ((with_reducible refine (kind_10 _).mono ?_); rintro e w1 ⟨rfl, g1⟩; have B := Lib.hid (B.out.trans (g1.mono B.out.size)); clear g1)
        | ((with_reducible refine (kind_19 _).mono ?_); rintro e w1 ⟨rfl, g1⟩; have B := Lib.hid (B.out.trans (g1.mono B.out.size)); clear g1)
        | ((with_reducible refine (Kind_44 _).mono ?_); rintro e w1 ⟨rfl, g1⟩; have B := Lib.hid (B.out.trans (g1.mono B.out.size)); clear g1))
      | (go_at_call 10; (with_reducible refine (paralive_any _ (tabU _ B.out)).mono ?_); rintro e w1 ⟨rfl, g1⟩; have B := Lib.hid (B.out.trans (g1.mono B.out.size)); clear g1))
  go_ret
  exact ⟨rfl, B.out⟩
end Go.Proofs.YtablckajobefeaaGreatDoor.S
