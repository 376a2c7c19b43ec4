/-
  table.Keys where the properties may be.
-/
import Derived.Test.YtbeggameiedjgaaGreatDoorTN31
import Derived.OwnWalk
namespace Go.Proofs.YtbeggameiedjgaaGreatDoor.S
open Go.RowKit Go.Lib Fl
open Classical

theorem ktwo_one (k : Ky) : ∀ u ∈ ([.string k.str, .int .i64 k.sym] : List Value), u.oneCell' = true := List.all_eq_true.1 (rfl : ([.string k.str, .int .i64 k.sym] : List Value).all (·.oneCell') = true)
theorem ktwo_new (w : World) (k : Ky) (j : Nat) (u : Value) (hu : ([.string k.str, .int .i64 k.sym] : List Value)[j]? = some u) : (w.alloc (.cells #[.string k.str, .int .i64 k.sym] 23)).cell? ((⟨w.heap.size, 0, none⟩ : Addr).add j) = some u := by
  rw [Addr.add_mid, Nat.zero_add, vcells (heap_alloc_new w _)]
  simpa using hu
theorem kyCells_app (L M : List Ky) : kyCells (L ++ M) = kyCells L ++ kyCells M := List.flatMap_append
theorem own_keys {w : World} {B n : Nat} {v : Value} {K : List Ky} (h : w.ownsRow B 23 2 v n (kyCells K)) (hn : n = K.length) : ∃ A cap, v = .slice A K.length cap ∧ RK w A K := by
  subst hn
  obtain ⟨h1, h2⟩ := h
  rcases h2 with ⟨rfl, h0⟩ | ⟨g, cap, cur, rfl, hB, hg, hn, hc, hs, ht⟩
  · have : K = [] := List.length_eq_zero_iff.1 h0
    subst this
    exact ⟨none, 0, rfl, fun h => absurd h (Nat.lt_irrefl _)⟩
  · refine ⟨some ⟨g, 0, none⟩, cap, rfl, fun _ => ⟨_, rfl, lt_blk hg, fun i hi => ?_⟩⟩
    obtain ⟨q0, q1⟩ := kyCells_at K i hi
    rw [← ht, List.getElem?_take] at q0 q1
    rw [Addr.add_mid, Nat.zero_add, vcells hg]
    refine ⟨?_, ?_⟩
    · split at q0
      · simpa using q0
      · cases q0
    · show w.cell? ⟨g, i * 2 + 1, none⟩ = _
      rw [vcells hg]
      split at q1
      · simpa using q1
      · cases q1
theorem pw_load {ops : Array Oper} {rest : List Oper} {o : Oper} {a : Act} {w : World} {Q : Exit → Act → World → Prop} {x : Operand} {g : Nat} {p : Pq} (hw : Region.wanted o (yielded ops a.tmps) = true) (ho : o.op = .load 30 x) (hx : a.eval x = .pointer (some ⟨g, 0, none⟩)) (hg : w.heap[g]? = some (.cells (prA p) 30 (0, 0)))
    (h : wpList Tryz.prog ops Q rest (a.put o.dst (.agg (prA p))) w) : wpList Tryz.prog ops Q (o :: rest) a w :=
  wpList_wanted hw fun _ hK => wp_load_row 30 x ho g hx 30 _ (0, 0) _ hg Tryz.underlying30 rfl psz (hK _ _ h)
def keysL (L : List Pq) : List Ky := L.map (·.k)
theorem keysL_snoc {L : List Pq} {i : Nat} (h : i < L.length) : keysL (L.take (i + 1)) = keysL (L.take i) ++ [L[i].k] := by unfold keysL; rw [take_snoc h, List.map_append]; rfl
theorem keysL_len (L : List Pq) : (keysL L).length = L.length := by unfold keysL; simp
def KeysTo (L : List Pq) (w : World) (e : Ending) (w' : World) : Prop := ∃ M O, e = .returned (.tuple #[.slice (some ⟨O, 0, none⟩) L.length L.length, .int .i64 0]) ∧ OrdOf (keysL L) M ∧ w'.heap[O]? = some (.cells (kyCells M).toArray 23 (0, 0)) ∧ Below w.heap.size w w'
theorem below_gb {w w' : World} (h : Below w.heap.size w w') : w.grownBy w' none := ⟨h.os, h.tape, h.output, h.size, fun k hk _ => h.block k hk⟩
theorem grown_key {w wr w2 : World} {e : TypeId} {size n : Nat} {v : Value} {xs : List Value} (h : Below w.heap.size w wr) (ho : wr.ownsRow w.heap.size e size v n xs) (g : wr.grownBy w2 v.ownBlock) : Below w.heap.size w w2 :=
  ⟨g.os.trans h.os, g.tape.trans h.tape, g.output.trans h.output, Nat.le_trans h.size g.size, fun i hi => (g.block i (Nat.lt_of_lt_of_le hi h.size) (fun e => by have := (ho.lt i e.symm).1; omega)).trans (h.block i hi)⟩
theorem own_up {w w' : World} {B : Nat} {e : TypeId} {size n : Nat} {v : Value} {xs : List Value} (h : w.ownsRow B e size v n xs) (hb : Below w.heap.size w w') : w'.ownsRow B e size v n xs :=
  h.kept (below_gb hb) (by cases v.ownBlock <;> simp)
set_option maxHeartbeats 4000000 in
set_option maxRecDepth 100000 in
theorem keys_t (A : Option Addr) (L : List Pq) (cap : Nat) (w : World) (hT : TabIn w A L cap) (htab : TabHere w) : Calls Tryz.prog 34 #[.slice A L.length cap, .func (.func 35) #[] #[]] w (KeysTo L w) := by
  have cC := fun W hb => hT.check (W := W) hb
  have HB := Lib.hid (Below.refl w.heap.size w)
  have HT := Lib.hid hT
  have HTB := Lib.hid htab
  have hlen := hT.ok.len
  obtain ⟨i0, hi, hz0, hz1, hz2⟩ := info_parts key_info
  clear hT htab
  go_enter Tryz.func34, Tryz.ntmps34
  go_wp2_with (go_at_call 15; (with_reducible refine (cC _ HB.out).mono ?_); rintro e w1 ⟨rfl, h9⟩; have HB := Lib.hid (vb HB.out h9); clear h9)
  go_loopg [7, 17] L.length (fun kx s7 s17 wr => ∃ i : Nat, s17 = .int .i64 i ∧ i + kx = L.length ∧ Hid (wr.ownsRow w.heap.size 23 2 s7 i (kyCells (keysL (L.take i))) ∧ Below w.heap.size w wr))
  case atStart => exact ⟨0, rfl, by omega, Lib.hid ⟨World.ownsRow_nil _ _ _ _, HB.out⟩⟩
  case round =>
    clear HB cC
    obtain ⟨i, rfl, hik, H⟩ := hrel
    cases gk with
    | zero =>
      obtain rfl : i = L.length := by omega
      obtain ⟨A2, cap2, rfl, hRK⟩ := own_keys H.out.1 (by rw [List.take_length, keysL_len])
      rw [List.take_length] at hRK ⊢
      have hin : ∀ k ∈ keysL L, KyIn k := fun k hk => by
        obtain ⟨p, hp, rfl⟩ := List.mem_map.1 hk
        exact (HT.out.inn p hp).1
      have hO := Order_k A2 (keysL L) cap2 wr hin (by rw [keysL_len]; omega) hRK (tab_up HTB.out H.out.2)
      go_wp2_with (go_at_call 61; (with_reducible refine hO.mono ?_); rintro e w2 ⟨M, O, rfl, hM, _, hb, h9⟩)
      go_ret2
      exact ⟨M, O, by rw [keysL_len]; rfl, hM, hb, vb H.out.2 h9⟩
    | succ kx =>
      have hlt : i < L.length := by omega
      have hlz : (i : Int) < (L.length : Int) := by omega
      obtain ⟨a, rfl, hab, hrow⟩ := pr_up HT.out.row H.out.2 (by omega)
      have hc : ∀ j u, (pcl L[i])[j]? = some u → wr.cell? ((a.add (i * 18)).add j) = some u := fun j u hu => by rw [add_add]; exact hrow i hlt j u hu
      have hnext := keysL_snoc hlt
      obtain ⟨P, hP⟩ : ∃ P, P = L[i] := ⟨_, rfl⟩
      rw [← hP] at hc hnext
      have hi1 : (Tryz.prog.info? 30).map (·.size) = some (prA P).size := psz
      have hF := fun W => keysF P W
      have HNX := Lib.hid hnext
      have HL := Lib.hid (And.intro hlt hlen)
      clear hP hrow hnext hab
      go_wp2_with (first
        | ((with_reducible refine p_load ?_ rfl rfl hc ?_); (rfl))
        | ((with_reducible refine t_store rfl rfl rfl rfl (heap_alloc_new _ _) hi1 ?_ (prA_one P) (vzero wr _) (Nat.le_refl _) ?_); (rfl); intro W hBW hW _ _)
        | ((with_reducible refine pw_load ?_ rfl rfl hW ?_); (rfl)))
      refine (hF _).mono ?_
      rintro e w1 ⟨rfl, h9⟩
      have hW := vblkn h9 hW
      have hBW := vb hBW h9
      clear h9
      dsimp only
      go_wp2_with (first
        | ((with_reducible refine pk_load ?_ rfl rfl hW ?_); (rfl))
        | (at_builtin; refine wpList_append_own _ rfl _ _ 36 rfl w.heap.size 23 i0 (.agg #[.string ⟨#[]⟩, .int .i64 0]) 2 24 Tryz.underlying36 hi hz0 hz1 hz2 rfl (by decide) _ i _ rfl ((own_up H.out.1 hBW).alloc _) ⟨w1.heap.size, 0, none⟩ 1 1 [.string P.k.str, .int .i64 P.k.sym] rfl rfl (ktwo_new w1 P.k) (ktwo_one P.k) (by have := HL.out.1; unfold maxLen; omega) (by have := HL.out.1; have := HL.out.2; omega) (Nat.le_trans (vb H.out.2 hBW).size (Nat.le_of_lt (new_lt w1 _))) ?_; intro v' w3 hown' hgrow _; have HO := Lib.hid (And.intro hown' (grown_key ((vb H.out.2 hBW).alloc (vb H.out.2 hBW).size _) ((own_up H.out.1 hBW).alloc _) hgrow)); clear hown' hgrow))
      go_roundg kx
      case measure => omega
      case rel => exact ⟨i + 1, by congr 1, by omega, Lib.hid ⟨by rw [HNX.out, kyCells_app]; exact HO.out.1, HO.out.2⟩⟩
end Go.Proofs.YtbeggameiedjgaaGreatDoor.S
/-
  alive of the laws of table: put, and found.
-/
namespace Go.Proofs.YtbeggameiedjgaaGreatDoor.S
open Go.RowKit Go.Lib Fl
open Classical

theorem Data_t (ka : Int) (xa : Nat) (sa : ByteArray) (ra : Int) (w : World) : Calls Tryz.prog 10 #[.agg #[.int .u8 ka, .float .f64 xa, .string sa, .int .i64 ra]] w fun e w' => e = .returned (.agg #[.int .u8 51, .int .u8 ka, .float .f64 xa, .string sa, .int .i64 ra, .int .u8 0, .float .f64 0, .string ⟨#[]⟩, .int .i64 0, .int .u8 0, .float .f64 0, .string ⟨#[]⟩, .int .i64 0, .bool true, .bool true, .bool true]) ∧ Below w.heap.size w w' := by
  have hst := vstore
  have hB0 : Below w.heap.size w ((w.alloc (.cells #[.int .u8 ka, .float .f64 xa, .string sa, .int .i64 ra] 26)).alloc (.cells #[.int .u8 0, .int .u8 0, .float .f64 0, .string ⟨#[]⟩, .int .i64 0, .int .u8 0, .float .f64 0, .string ⟨#[]⟩, .int .i64 0, .int .u8 0, .float .f64 0, .string ⟨#[]⟩, .int .i64 0, .bool false, .bool false, .bool false] 28)) := vafter (vzero _ _)
  obtain ⟨b1, b2⟩ := vblk2 (w := w) (Below.refl _ ((w.alloc (.cells #[.int .u8 ka, .float .f64 xa, .string sa, .int .i64 ra] 26)).alloc (.cells #[.int .u8 0, .int .u8 0, .float .f64 0, .string ⟨#[]⟩, .int .i64 0, .int .u8 0, .float .f64 0, .string ⟨#[]⟩, .int .i64 0, .int .u8 0, .float .f64 0, .string ⟨#[]⟩, .int .i64 0, .bool false, .bool false, .bool false] 28)))
  go_enter Tryz.func10, Tryz.ntmps10
  go_wp2_with (first | ((with_reducible refine v_load ?_ rfl rfl b1 rfl rfl rfl rfl ?_); (rfl)) | ((with_reducible refine d_store rfl rfl rfl rfl b2 ?_ ?_ ?_); (rfl); (rfl)))
  exact d_end Tryz.results10 rfl (setRow_heap _ _ _ _ _ _ b2) ⟨rfl, below_row hB0 (by omega) _⟩
/-- the usual property of a number -/
def dN (x : Nat) : Dq := ⟨51, ⟨3, x, ⟨#[]⟩, 0⟩, v0, v0, true, true, true⟩
def pN (s : ByteArray) (y : Int) (x : Nat) : Pq := ⟨⟨s, y⟩, dN x⟩

theorem ok_in2 {v : Vq} (h : v.Ok) : v.In := by
  obtain ⟨u, ok, e1, e2, _, e4⟩ := h
  obtain ⟨k0, k8⟩ := vok_kind ⟨u, ok, e1, e2, rfl, e4⟩
  refine ⟨k0, by omega, ?_, ?_⟩
  · rw [← e2]
    cases u with
    | boo x => rcases ok with rfl | rfl | rfl <;> simp only [Vl.fl] <;> omega
    | num x => obtain ⟨c, hc, _⟩ := ok; simp only [Vl.fl]; exact hc.lt
    | _ => simp only [Vl.fl]; omega
  · rw [← e4]
    cases u with
    | sym r => exact ok.2
    | obj k r => exact ok.2.2
    | _ => simp only [Vl.rf]; omega
theorem pN_in {s : ByteArray} {y : Int} {x : Nat} (hs : s.size ≤ 4096) (hy : 0 ≤ y ∧ y < 100) (hv : (⟨3, x, ⟨#[]⟩, 0⟩ : Vq).Ok) : (pN s y x).In :=
  ⟨⟨by show s.size ≤ maxLen; unfold maxLen; omega, by show -2 ^ 63 ≤ y; omega, by show y < 2 ^ 63; omega⟩, by show (0 : Int) ≤ 51; decide, by show (51 : Int) < 256; decide, ok_in2 hv, ok_in2 v0_ok, ok_in2 v0_ok⟩
theorem pN_ok {s : ByteArray} {y : Int} {x : Nat} (hs : s.size ≤ 4096) (hy : 0 ≤ y ∧ y < 100) (hz : 0 < y → s = ⟨#[]⟩) (hv : (⟨3, x, ⟨#[]⟩, 0⟩ : Vq).Ok) : (pN s y x).Ok :=
  ⟨⟨hy.1, hs, hz⟩, (whole_iff (pN_in hs hy hv).2).2 ⟨good51 hv, .inl rfl⟩⟩
theorem out_tab {w : World} {v : Value} {M : List Pq} (h : OutS w v M) (ok : TabOk M) (hin : ∀ p ∈ M, p.In) : ∃ A c, v = .slice A M.length c ∧ TabIn w A M c := by
  obtain ⟨A, c, e, h1, h2, h3, h4⟩ := h.out
  exact ⟨A, c, e, ok, hin, h1, h2, by unfold maxLen at h3; omega, h4⟩
theorem tab_nil (w : World) : TabIn w none [] 0 := ⟨⟨Nat.zero_le _, (fun _ h => by cases h), List.Pairwise.nil⟩, (fun _ h => by cases h), pr_nil, Nat.le_refl _, by decide, fun _ => rfl⟩
theorem one_ok2 : (⟨3, 4607182418800017408, ⟨#[]⟩, 0⟩ : Vq).Ok := ⟨.num 4607182418800017408, ⟨.ours 1, ⟨by decide, by unfold SafeN; omega⟩, rfl⟩, rfl, rfl, rfl, rfl⟩
def pA : Pq := pN (⟨#[97]⟩ : ByteArray) 0 4607182418800017408
theorem pA_in : pA.In := pN_in (by decide) (by decide) one_ok2
theorem pA_ok : pA.Ok := pN_ok (by decide) (by decide) (fun h => absurd h (by decide)) one_ok2
theorem pA_put : PutTo [] pA [pA] := put_to (L := []) ⟨Nat.zero_le _, (fun _ h => by cases h), List.Pairwise.nil⟩ pA_ok (show (0 : Nat) ≠ 1024 by decide)
theorem pA_putE : putE [] pA = 0 := by unfold putE; rw [if_pos (mayT_ok.2 pA_ok), if_neg (show ¬ cutN [] pA.k = 1024 from (by decide : ¬ (0 : Nat) = 1024))]
theorem eq_flt (d a b : Nat) (w : World) : (Op.equalIn (d + 1) 24 (.float .f64 a) (.float .f64 b)).run Tryz.prog w = .ok (FloatKind.f64.format.order a b == some .eq) w := by
  simp [Op.equalIn, run_underlying Tryz.underlying24]; rfl
set_option maxHeartbeats 4000000 in
set_option maxRecDepth 100000 in
theorem tabalive_any (w : World) : Calls Tryz.prog 18 #[] w fun e w' => e = .returned (.bool true) ∧ Below w.heap.size w w' := by
  have hP : ∀ W, Calls Tryz.prog 44 #[.slice none 0 0, .agg #[.string (⟨#[97]⟩ : ByteArray), .int .i64 0], .agg #[.int .u8 51, .int .u8 3, .float .f64 4607182418800017408, .string ⟨#[]⟩, .int .i64 0, .int .u8 0, .float .f64 0, .string ⟨#[]⟩, .int .i64 0, .int .u8 0, .float .f64 0, .string ⟨#[]⟩, .int .i64 0, .bool true, .bool true, .bool true]] W fun e w' => ∃ A c, e = .returned (.tuple #[.slice A 1 c, .int .i64 0]) ∧ TabIn w' A [pA] c ∧ Below W.heap.size W w' := fun W =>
    (Put_t none [] 0 pA W (tab_nil W) pA_in).mono fun e w' ⟨v, he, ho, hb⟩ => by
      rw [pA_putE] at he
      obtain ⟨A, c, rfl, hT⟩ := out_tab (ho pA_putE) pA_put.ok (fun p hp => by obtain rfl := List.mem_singleton.1 hp; exact pA_in)
      exact ⟨A, c, he, hT, hb⟩
  have kO := fun W => keyOf_k (⟨#[97]⟩ : ByteArray) W
  have kN := fun W => Num_v 4607182418800017408 W
  have kD := fun W => Data_t 3 4607182418800017408 ⟨#[]⟩ 0 W
  have kF : ∀ A c W, TabIn W A [pA] c → Calls Tryz.prog 45 #[.slice A 1 c, .agg #[.string (⟨#[97]⟩ : ByteArray), .int .i64 0]] W fun e w' => e = .returned (.tuple #[.agg pA.d.cells, .bool true, .int .i64 0]) ∧ Below W.heap.size W w' := fun A c W hT =>
    (Find_t A [pA] c ⟨(⟨#[97]⟩ : ByteArray), 0⟩ W hT pA_ok.1).mono fun e w' ⟨he, hb⟩ => by
      have hf : findT [pA] ⟨(⟨#[97]⟩ : ByteArray), 0⟩ = some pA := pA_put.found
      refine ⟨he.trans ?_, hb⟩
      unfold fndD
      rw [hf]; rfl
  have kC : ∀ A c W, TabIn W A [pA] c → Calls Tryz.prog 15 #[.slice A 1 c] W fun e w' => e = .returned (.int .i64 0) ∧ Below W.heap.size W w' := fun A c W hT => hT.check (Below.refl _ _)
  have ef := eq_flt 9998 4607182418800017408 4607182418800017408
  rw [show (FloatKind.f64.format.order 4607182418800017408 4607182418800017408 == some .eq) = true by kernel_rfl] at ef
  have x2 : pA.d.cells[2]? = some (.float .f64 4607182418800017408) := rfl
  have hc1 := dc_one pA.d
  have hi1 := dc_size pA.d
  have HB := Lib.hid (Below.refl w.heap.size w)
  generalize pA.d = D at *
  go_enter Tryz.func18, Tryz.ntmps18
  go_wp2_with (first
    | (go_at_call 13; (with_reducible refine (kO _).mono ?_); rintro e w1 ⟨rfl, h9⟩; have HB := Lib.hid (vb HB.out h9); try (have HT := Lib.hid (HT.out.up h9)); clear h9)
    | (go_at_call 11; (with_reducible refine (kN _).mono ?_); rintro e w1 ⟨rfl, h9⟩; have HB := Lib.hid (vb HB.out h9); clear h9)
    | (go_at_call 10; (with_reducible refine (kD _).mono ?_); rintro e w1 ⟨rfl, h9⟩; have HB := Lib.hid (vb HB.out h9); clear h9)
    | (go_at_call 44; (with_reducible refine (hP _).mono ?_); rintro e w1 ⟨A, c, rfl, hT, h9⟩; have HB := Lib.hid (vb HB.out h9); have HT := Lib.hid hT; clear h9 hT)
    | (go_at_call 45; (with_reducible refine (kF _ _ _ HT.out).mono ?_); rintro e w1 ⟨rfl, h9⟩; have HB := Lib.hid (vb HB.out h9); have HT := Lib.hid (HT.out.up h9); clear h9)
    | ((with_reducible refine t_store (cs := D.cells) rfl rfl rfl rfl (heap_alloc_new _ _) hi1 ?_ hc1 (vzero _ _) (Nat.le_refl _) ?_); (rfl); intro W hBW hW _ _; have c2 := (vcells hW 2).trans x2; have HB := Lib.hid (vb HB.out hBW); have HT := Lib.hid (HT.out.up hBW))
    | (go_at_call 15; (with_reducible refine (kC _ _ _ HT.out).mono ?_); rintro e w1 ⟨rfl, h9⟩; have HB := Lib.hid (vb HB.out h9); clear h9))
  go_ret
  exact ⟨rfl, HB.out⟩
end Go.Proofs.YtbeggameiedjgaaGreatDoor.S
/-
  TableNames: the five properties, their order, what Drop makes of them; a property made.
-/
namespace Go.Proofs.YtbeggameiedjgaaGreatDoor.S
open Go.RowKit Go.Lib Fl
open Classical

def q1 : Pq := pN (⟨#[98]⟩ : ByteArray) 0 4607182418800017408
def q2 : Pq := pN (⟨#[50]⟩ : ByteArray) 0 4611686018427387904
def q3 : Pq := pN ⟨#[]⟩ 1 4613937818241073152
def q4 : Pq := pN (⟨#[49]⟩ : ByteArray) 0 4616189618054758400
def q5 : Pq := pN (⟨#[97]⟩ : ByteArray) 0 4617315517961601024
def L5 : List Pq := [q1, q2, q3, q4, q5]
theorem n2_ok : (⟨3, 4611686018427387904, ⟨#[]⟩, 0⟩ : Vq).Ok := ⟨.num 4611686018427387904, ⟨.ours 2, ⟨by decide, by unfold SafeN; omega⟩, rfl⟩, rfl, rfl, rfl, rfl⟩
theorem n3_ok : (⟨3, 4613937818241073152, ⟨#[]⟩, 0⟩ : Vq).Ok := ⟨.num 4613937818241073152, ⟨.ours 3, ⟨by decide, by unfold SafeN; omega⟩, rfl⟩, rfl, rfl, rfl, rfl⟩
theorem n4_ok : (⟨3, 4616189618054758400, ⟨#[]⟩, 0⟩ : Vq).Ok := ⟨.num 4616189618054758400, ⟨.ours 4, ⟨by decide, by unfold SafeN; omega⟩, rfl⟩, rfl, rfl, rfl, rfl⟩
theorem n5_ok : (⟨3, 4617315517961601024, ⟨#[]⟩, 0⟩ : Vq).Ok := ⟨.num 4617315517961601024, ⟨.ours 5, ⟨by decide, by unfold SafeN; omega⟩, rfl⟩, rfl, rfl, rfl, rfl⟩
theorem q_ok : q1.Ok ∧ q2.Ok ∧ q3.Ok ∧ q4.Ok ∧ q5.Ok :=
  ⟨pN_ok (by decide) (by decide) (fun h => absurd h (by decide)) one_ok2, pN_ok (by decide) (by decide) (fun h => absurd h (by decide)) n2_ok, pN_ok (by decide) (by decide) (fun _ => rfl) n3_ok, pN_ok (by decide) (by decide) (fun h => absurd h (by decide)) n4_ok, pN_ok (by decide) (by decide) (fun h => absurd h (by decide)) n5_ok⟩
theorem q_in : ∀ p ∈ L5, p.In := by
  intro p hp
  simp only [L5, List.mem_cons, List.not_mem_nil, or_false] at hp
  rcases hp with rfl | rfl | rfl | rfl | rfl
  · exact pN_in (by decide) (by decide) one_ok2
  · exact pN_in (by decide) (by decide) n2_ok
  · exact pN_in (by decide) (by decide) n3_ok
  · exact pN_in (by decide) (by decide) n4_ok
  · exact pN_in (by decide) (by decide) n5_ok
theorem tab5 : TabOk L5 := by
  refine ⟨by decide, ?_, ?_⟩
  · intro p hp
    simp only [L5, List.mem_cons, List.not_mem_nil, or_false] at hp
    obtain ⟨a, b, c, d, e⟩ := q_ok
    rcases hp with rfl | rfl | rfl | rfl | rfl <;> assumption
  · have ne : ∀ a b : Ky, eqK a b = false → a ≠ b := fun a b h e => by rw [eqK_iff.2 e] at h; cases h
    refine List.pairwise_cons.2 ⟨fun b hb => ?_, List.pairwise_cons.2 ⟨fun b hb => ?_, List.pairwise_cons.2 ⟨fun b hb => ?_, List.pairwise_cons.2 ⟨fun b hb => ?_, List.pairwise_singleton _ _⟩⟩⟩⟩
    all_goals
      simp only [List.mem_cons, List.not_mem_nil, or_false] at hb
      rcases hb with rfl | rfl | rfl | rfl <;> exact ne _ _ rfl
end Go.Proofs.YtbeggameiedjgaaGreatDoor.S
/-
  TableNames: the order of the five keys, and the three lists that may not be.
-/
namespace Go.Proofs.YtbeggameiedjgaaGreatDoor.S
open Go.RowKit Go.Lib Fl
open Classical

def M5 : List Ky := [⟨(⟨#[49]⟩ : ByteArray), 0⟩, ⟨(⟨#[50]⟩ : ByteArray), 0⟩, ⟨(⟨#[98]⟩ : ByteArray), 0⟩, ⟨(⟨#[97]⟩ : ByteArray), 0⟩, ⟨⟨#[]⟩, 1⟩]
theorem rk_1 : rkKy ⟨(⟨#[49]⟩ : ByteArray), 0⟩ = 1 := by kernel_rfl
theorem rk_2 : rkKy ⟨(⟨#[50]⟩ : ByteArray), 0⟩ = 2 := by kernel_rfl
theorem rk_b : rkKy ⟨(⟨#[98]⟩ : ByteArray), 0⟩ = 1024 := by kernel_rfl
theorem rk_a : rkKy ⟨(⟨#[97]⟩ : ByteArray), 0⟩ = 1024 := by kernel_rfl
theorem rk_s : rkKy ⟨⟨#[]⟩, 1⟩ = 1025 := by kernel_rfl
theorem ord5 : OrdOf (keysL L5) M5 := by
  have e : keysL L5 = [⟨(⟨#[98]⟩ : ByteArray), 0⟩, ⟨(⟨#[50]⟩ : ByteArray), 0⟩, ⟨⟨#[]⟩, 1⟩, ⟨(⟨#[49]⟩ : ByteArray), 0⟩, ⟨(⟨#[97]⟩ : ByteArray), 0⟩] := rfl
  rw [e]
  refine ⟨?_, fun r => ?_, rfl⟩
  · unfold M5
    simp [rk_1, rk_2, rk_b, rk_a, rk_s]
  · unfold M5
    simp only [List.filter_cons, List.filter_nil, rk_1, rk_2, rk_b, rk_a, rk_s]
    by_cases c1 : 1 = r
    · subst c1; rfl
    · by_cases c2 : 2 = r
      · subst c2; rfl
      · by_cases c3 : 1024 = r
        · subst c3; rfl
        · by_cases c4 : 1025 = r
          · subst c4; rfl
          · simp [c1, c2, c3, c4]
def twA : List Pq := [pN (⟨#[97]⟩ : ByteArray) 0 4607182418800017408, pN (⟨#[97]⟩ : ByteArray) 0 4611686018427387904]
theorem chk_tw : chkT twA = 100 := by
  have h1 : mayT (pN (⟨#[97]⟩ : ByteArray) 0 4607182418800017408) = 0 := mayT_ok.2 (pN_ok (by decide) (by decide) (fun h => absurd h (by decide)) one_ok2)
  have h2 : mayT (pN (⟨#[97]⟩ : ByteArray) 0 4611686018427387904) = 0 := mayT_ok.2 (pN_ok (by decide) (by decide) (fun h => absurd h (by decide)) n2_ok)
  unfold chkT twA
  rw [if_neg (by decide)]
  unfold chkL
  rw [if_pos h1]
  show (bif false then (100 : Int) else chkL [pN (⟨#[97]⟩ : ByteArray) 0 4607182418800017408] [pN (⟨#[97]⟩ : ByteArray) 0 4611686018427387904]) = 100
  show chkL [pN (⟨#[97]⟩ : ByteArray) 0 4607182418800017408] [pN (⟨#[97]⟩ : ByteArray) 0 4611686018427387904] = 100
  unfold chkL
  rw [if_pos h2]
  rfl
def onA : List Pq := [⟨⟨(⟨#[97]⟩ : ByteArray), 0⟩, ⟨1, v0, v0, v0, false, false, false⟩⟩]
theorem chk_on : chkT onA = 90 := by
  have hk : mayKy (⟨(⟨#[97]⟩ : ByteArray), 0⟩ : Ky) := ⟨by decide, by decide, fun h => absurd h (by decide)⟩
  have hw : wholeQ (⟨1, v0, v0, v0, false, false, false⟩ : Dq) ≠ true := fun h => by
    unfold wholeQ at h
    simp at h
  have hm : mayT ⟨⟨(⟨#[97]⟩ : ByteArray), 0⟩, ⟨1, v0, v0, v0, false, false, false⟩⟩ = 90 := by
    unfold mayT
    rw [if_pos hk, if_neg hw]
  unfold chkT onA
  rw [if_neg (by decide)]
  unfold chkL
  rw [hm]
  rfl
def noS : List Pq := [⟨⟨⟨#[]⟩, -1⟩, dz 0⟩]
theorem chk_no : chkT noS = 9 := by
  have hk : ¬ mayKy (⟨⟨#[]⟩, -1⟩ : Ky) := fun h => absurd h.1 (by decide)
  have hm : mayT ⟨⟨⟨#[]⟩, -1⟩, dz 0⟩ = 9 := by
    unfold mayT
    rw [if_neg hk]
  unfold chkT noS
  rw [if_neg (by decide)]
  unfold chkL
  rw [hm]
  rfl
/-- the blocks of such lists -/
theorem pr_blk {w : World} {g : Nat} {L : List Pq} (h : w.heap[g]? = some (.cells (prCells L).toArray 30 (0, 0))) : PR w (some ⟨g, 0, none⟩) L := fun _ => by
  refine ⟨_, rfl, lt_blk h, fun i hi j u hu => ?_⟩
  have hj : j < 18 := by have := (List.getElem?_eq_some_iff.1 hu).1; rw [pcl_len] at this; exact this
  rw [Addr.add_mid, Nat.zero_add, vcells h, ← hu, ← prCells_at L i hi j hj]
  simp
theorem tab_blk {w : World} {g : Nat} {L : List Pq} {c : Nat} (h : w.heap[g]? = some (.cells (prCells L).toArray 30 (0, 0))) (ok : TabOk L) (hin : ∀ p ∈ L, p.In) (hc : c = L.length) : TabIn w (some ⟨g, 0, none⟩) L c :=
  ⟨ok, hin, pr_blk h, by omega, by have := ok.len; omega, fun e => by cases e⟩
end Go.Proofs.YtbeggameiedjgaaGreatDoor.S
