/-
  key.Order: walk.
-/
import Derived.Test.YtmdmfjlmmojbgaaGreatDoorTF16
import Derived.Deep.RegionWith
import Derived.Shelf.Strings.Builder1
import Derived.Shelf.Strings.Builder2
import Derived.Shelf.Strings.Search3
import Derived.Shelf.Strings.Shaped
import Derived.Shelf.LaysM
import Derived.Test.YtmdmfjlmmojbgaaGreatDoorProg
import Derived.Test.YtmdmfjlmmojbgaaGreatDoorChecked
import Derived.WalkKit
import Derived.WalkSpells
import Derived.WalkLawsBesides
import Derived.BigCall
import Derived.Lib.Hide
namespace Go.Proofs.YtmdmfjlmmojbgaaGreatDoor.S
open Go.RowKit Go.Sort Fl

set_option maxHeartbeats 4000000 in
set_option maxRecDepth 1000000 in
theorem Order_k (A : Option Addr) (L : List Ky) (cap : Nat) (w : World) (hin : ∀ k ∈ L, KyIn k) (hl : L.length < 1000000000000) (hL : RK w A L) (htab : TabHere w) : Calls Tryz.prog 33 #[.slice A L.length cap] w (OrdTo L w) := by
  obtain ⟨i0, hi, hz0, hz1, hz2⟩ := info_parts row_info
  go_enter Tryz.func33, Tryz.ntmps33
  go_wp2_with (first
    | (refine wpList_make_full _ rfl _ _ 75 rfl 0 78 i0 _ 3 Tryz.underlying75 hi hz0 hz1 .i64 .i64 _ _ L.length rfl rfl rfl rfl (by rw [hz2]; omega) (by unfold maxLen; omega) (Nat.zero_le _) ?_; intro w2 hK gK; have HP := Lib.hid (lp1_start gK (own_blk hK rfl)); have hBw := gK.size; have hBW : w.heap.size < w2.heap.size := by obtain ⟨cs, _, h2⟩ := own_blk hK rfl; exact lt_blk h2))
  clear hK gK hi hz0 hz1 hz2
  go_loopg [15] L.length (fun kx s15 wr => ∃ i : Nat, s15 = .int .i64 i ∧ i + kx = L.length ∧ Hid (Lp1 L w w2.heap.size i wr))
  case atStart => exact ⟨0, rfl, by omega, HP⟩
  case round =>
    clear HP
    obtain ⟨i, rfl, hik, H⟩ := hrel
    cases gk with
    | zero =>
      obtain rfl : i = L.length := by omega
      have hHs := holds_rows H.out
      have hBb := H.out.box
      have cB := vcells hBb 0
      simp only [List.getElem?_toArray, List.getElem?_cons_zero] at cB
      have hBl := lt_blk hBb
      have hRl : w.heap.size < wr.heap.size := Nat.lt_trans hBW hBl
      have hsrt := sort_rows w.heap.size w2.heap.size L.toArray wr hHs (by rw [show L.toArray.size = L.length by simp]; exact cB) (by omega) hRl hBl (by simp; omega)
      rw [show L.toArray.size = L.length by simp] at hsrt
      have HW := Lib.hid H.out.below
      have HHs := Lib.hid hHs
      have HBb := Lib.hid hBb
      clear H hHs hBb hik
      obtain ⟨j0, hj, jz0, jz1, jz2⟩ := info_parts key_info
      go_wp2_with (fail)
      go_at_call 41
      refine hsrt.mono ?_
      rintro e w3 ⟨rfl, d', nd, os, s1, s2, rfl⟩
      have hB3 := (heap_sorted wr nd w.heap.size d' os w2.heap.size hBl (by omega)).trans HBb.out
      have hH3 := holds_sorted (n := nd) (os := os) hRl HHs.out s1.size
      have hb3 := HW.out.trans (below_sorted wr nd w.heap.size d' os hRl)
      have hR3 : w.heap.size < (grow (putRowK encR 3 (Sort.ahead wr nd) w.heap.size 0 d') os).heap.size := Nat.lt_of_lt_of_le hRl (below_sorted wr nd w.heap.size d' os hRl).size
      generalize grow (putRowK encR 3 (Sort.ahead wr nd) w.heap.size 0 d') os = w3 at *
      have cB := vcells hB3 0
      simp only [List.getElem?_toArray, List.getElem?_cons_zero] at cB
      have cB0 := cB
      have HS1 := Lib.hid (And.intro s1 s2)
      have HH3 := Lib.hid hH3
      have HB3 := Lib.hid hb3
      clear s1 s2 hH3 hb3
      go_wp2_with (refine wpList_make_full _ rfl _ _ 36 rfl 0 23 j0 _ 2 Tryz.underlying36 hj jz0 jz1 .i64 .i64 _ _ L.length rfl rfl rfl rfl (by rw [jz2]; omega) (by unfold maxLen; omega) (Nat.zero_le _) ?_; intro w4 hK gK; have HK := Lib.hid (own_blk hK rfl); have HG := Lib.hid (grown_below gK); have cB := (vcell (grown_below gK)).1 w2.heap.size 0 (lt_blk hB3); rw [cB0] at cB; clear hK gK)
      have hdz : d'.size = L.length := by have := HS1.out.1.size; simpa using this
      have hRO : w.heap.size < w3.heap.size := hR3
      have P0 : Hid (Lp2 d' w w.heap.size w3.heap.size 0 w4) := by
        obtain ⟨cs, h1, h2⟩ := HK.out
        exact Lib.hid ⟨vb HB3.out HG.out, holdsK_same HH3.out (HG.out.block _ hRO), cs, by rw [h1, hdz], h2, fun j _ h => absurd h (Nat.not_lt_zero _)⟩
      clear cB cB0 hj jz0 jz1 jz2 hB3
      go_loopg [38] L.length (fun kx s38 wr2 => ∃ i : Nat, s38 = .int .i64 i ∧ i + kx = L.length ∧ Hid (Lp2 d' w w.heap.size w3.heap.size i wr2))
      case atStart => exact ⟨0, rfl, by omega, P0⟩
      case round =>
        clear P0 HH3 HB3 HK HG HHs HBb HW
        obtain ⟨i, rfl, hik, H⟩ := hrel
        cases gk with
        | zero =>
          obtain rfl : i = L.length := by omega
          go_wp2
          go_ret
          have O1 := ord_of HS1.out.1 HS1.out.2
          have E1 := lp2_end (by rw [hdz]; exact H.out)
          exact ⟨d'.toList, w3.heap.size, rfl, O1, Nat.le_of_lt hRO, E1, H.out.below⟩
        | succ kx =>
          have hlt : i < L.length := by omega
          have hlz : (i : Int) < (L.length : Int) := by omega
          have hid : i < d'.size := by omega
          have q0 := (H.out.rows.cell (i := i) (c := 0) hid (by omega)).1
          have q1 := (H.out.rows.cell (i := i) (c := 1) hid (by omega)).1
          have q2 := (H.out.rows.cell (i := i) (c := 2) hid (by omega)).1
          rw [show 0 + i * 3 + 0 = i * 3 by omega, show (encR d'[i]!)[0]! = .int .i64 (rkKy d'[i]! : Nat) from rfl] at q0
          rw [show 0 + i * 3 + 1 = i * 3 + 1 by omega, show (encR d'[i]!)[1]! = .string d'[i]!.str from rfl] at q1
          rw [show 0 + i * 3 + 2 = i * 3 + 2 by omega, show (encR d'[i]!)[2]! = .int .i64 d'[i]!.sym from rfl] at q2
          obtain ⟨cs, hcz, hob, _⟩ := H.out.out
          have hRl := holdsK_lt H.out.rows (by omega)
          have hOl := lt_blk hob
          obtain ⟨x0, hx0⟩ : ∃ x, cs[i * 2]? = some x := ⟨_, Array.getElem?_eq_getElem (by omega)⟩
          obtain ⟨x1, hx1⟩ : ∃ x, cs[i * 2 + 1]? = some x := ⟨_, Array.getElem?_eq_getElem (by omega)⟩
          have o0 := (vcells hob (i * 2)).trans hx0
          have o1 := (vcells hob (i * 2 + 1)).trans hx1
          have oz := vfz hob
          have PP := fun o => Lib.hid (lp2_put H.out hid (Nat.le_of_lt hRO) (Nat.ne_of_lt hRO) o)
          clear hob hx0 hx1 H
          generalize rkKy d'[i]! = r at *
          generalize d'[i]!.str = s at *
          generalize d'[i]!.sym = y at *
          go_wp2
          go_roundg kx
          case measure => omega
          case rel => exact ⟨i + 1, by simp, by omega, PP _⟩
    | succ kx =>
      have hlt : i < L.length := by omega
      have hlz : (i : Int) < (L.length : Int) := by omega
      obtain ⟨a, rfl, ha, hcs⟩ := rk_up hL H.out.below (by omega)
      obtain ⟨c0, c1⟩ := hcs i hlt
      obtain ⟨hk1, hk2, hk3⟩ := hin L[i] (List.getElem_mem hlt)
      have hab : ∀ k, (a.add k).block < wr.heap.size := fun k => by
        have : (a.add k).block = a.block := by unfold Addr.add; split <;> rfl
        rw [this]; exact ha
      have cB := vcells H.out.box 0
      have hBr := lt_blk H.out.box
      clear hcs
      generalize hs : L[i].str = s at *
      generalize hy : L[i].sym = y at *
      go_wp2
      have HT1 := Lib.hid (tab_up htab (vb H.out.below (vzero wr (.cells #[.string s, .int .i64 y] 23))))
      have hbk := heap_alloc_new wr (.cells #[.string s, .int .i64 y] 23)
      have H1 : Hid (Lp1 L w w2.heap.size i (wr.alloc (.cells #[.string s, .int .i64 y] 23))) := Lib.hid (H.out.alloc _)
      have hz1 : wr.heap.size < (wr.alloc (.cells #[.string s, .int .i64 y] 23)).heap.size := by simp
      generalize wr.alloc (.cells #[.string s, .int .i64 y] 23) = W1 at *
      obtain ⟨k0, k1, kf⟩ := kc2 hbk
      have cB := vcells H1.out.box 0
      simp only [List.getElem?_toArray, List.getElem?_cons_zero] at cB
      obtain ⟨cs, hcz, hrb, hrj⟩ := H1.out.rows
      have HRJ := Lib.hid hrj
      have HB1 := Lib.hid H1.out.box
      have HW1 := Lib.hid H1.out.below
      obtain ⟨x0, hx0⟩ : ∃ x, cs[i * 3]? = some x := ⟨_, Array.getElem?_eq_getElem (by omega)⟩
      obtain ⟨x1, hx1⟩ : ∃ x, cs[i * 3 + 1]? = some x := ⟨_, Array.getElem?_eq_getElem (by omega)⟩
      obtain ⟨x2, hx2⟩ : ∃ x, cs[i * 3 + 2]? = some x := ⟨_, Array.getElem?_eq_getElem (by omega)⟩
      have rk := rank_k s y W1.drew hk1 ⟨hk2, hk3⟩ (tab_up (w := W1) HT1.out (Below.refl _ _).drew)
      have HCZ := Lib.hid hcz
      have HRB := Lib.hid hrb
      have HX := Lib.hid (And.intro hx0 (And.intro hx1 hx2))
      have HBK := Lib.hid hbk
      clear hrj hcz hrb hx0 hx1 hx2 H1 H hbk
      generalize hrk : rkK s y = r at *
      go_region_with (go_at_call 39; refine rk.mono ?_; rintro e w3 ⟨rfl, h3⟩; have hr3 := vblkn (w1 := W1.drew) h3 HRB.out; have hb3 := vblkn (w1 := W1.drew) h3 HB1.out; have hk3 := vblkn (w1 := W1.drew) h3 HBK.out; obtain ⟨k0, k1, kf⟩ := kc2 hk3; have cB := vcells hb3 0; have r0 := (vcells hr3 (i * 3)).trans HX.out.1; have r1 := (vcells hr3 (i * 3 + 1)).trans HX.out.2.1; have r2 := (vcells hr3 (i * 3 + 2)).trans HX.out.2.2; have rz := vfz hr3; have HR3 := Lib.hid hr3; have HB3 := Lib.hid hb3; have H3 := Lib.hid h3; clear hr3 hb3 hk3 h3)
      all_goals
        have P := Lib.hid (lp1_put hlt HW1.out hBW HCZ.out HRJ.out HR3.out HB3.out H3.out hs hy hrk)
        clear r0 r1 r2 rz cB k0 k1 kf
        generalize ((w3.setCell ⟨w.heap.size, i * 3, none⟩ (.int .i64 (r : Nat))).setCell ⟨w.heap.size, i * 3 + 1, none⟩ (.string s)).setCell ⟨w.heap.size, i * 3 + 2, none⟩ (.int .i64 y) = w4 at *
        go_wp2
        go_roundg kx
        case measure => omega
        case rel => exact ⟨i + 1, by simp, by omega, P⟩
end Go.Proofs.YtmdmfjlmmojbgaaGreatDoor.S
/-
  DERIVED: THE SHELF's CONTRACTS AT THIS DUMP, IN PLAIN WORDS (tools/lay-plain.mjs out of 'YtmdmfjlmmojbgaaGreatDoorStrShelfTry.lean', which tools/lay-shelf.mjs wrote): THE SAME DECLARATIONS UNDER THE SAME NAMES: 'import', 'namespace', 'open', 'def', 'theorem' AND NOTHING ELSE: no command of the shelf's: FOR A HAND-IN. Each laying: the table of numbers ('.._ren') and one theorem, a field a fact of the dump's own or the kernel's comparison; each contract: ONE APPLICATION.
-/
namespace Go.Proofs
open Go.Shelf
end Go.Proofs
/-
  The library's contracts of (*strings.Builder).WriteByte and WriteString laid at this seat by hand: the shelf's command lays them not where no body names the type of the panic's value.
-/
namespace Go.Proofs
open Go.Shelf
end Go.Proofs
/-
  The builder in the words of lists of bytes; a string laid anew: walks.
-/
namespace Go.Proofs.YtmdmfjlmmojbgaaGreatDoor.S
open Go.RowKit

theorem ret_bool {a b : Bool} (h : a = b) : Ending.returned (.bool a) = .returned (.bool b) := by rw [h]
theorem ret_int {k : IntKind} {a b : Int} (h : a = b) : Ending.returned (.int k a) = .returned (.int k b) := by rw [h]
theorem ret_str {a b : ByteArray} (h : a = b) : Ending.returned (.string a) = .returned (.string b) := by rw [h]

theorem size_len (t : ByteArray) : t.size = t.data.toList.length := by simp
theorem toList_data (s : ByteArray) : s.toList = s.data.toList := Go.ByteArray.toList_eq s
theorem mk_list (l : List UInt8) : (⟨l.toArray⟩ : ByteArray).data.toList = l := rfl
theorem mk_size (l : List UInt8) : (⟨l.toArray⟩ : ByteArray).size = l.length := by simp [ByteArray.size]
theorem str_ext {a b : ByteArray} (h : a.data.toList = b.data.toList) : a = b := by
  cases a with | mk a => cases b with | mk b => exact congrArg ByteArray.mk (Array.toList_inj.1 h)
theorem mk_of (s : ByteArray) : (⟨s.data.toList.toArray⟩ : ByteArray) = s := str_ext rfl
theorem getElem_list (s : ByteArray) (k : Nat) (h : k < s.size) : s.data.toList[k]? = some s[k] := by
  rw [List.getElem?_eq_getElem (by rw [← size_len]; exact h)]
  simp [ByteArray.getElem_eq_getElem_data]

/-- the answer is a string -/
def StrTo (t : ByteArray) (w : World) (e : Ending) (w' : World) : Prop := e = .returned (.string t) ∧ Below w.heap.size w w'
/-- the answer is a string and a number -/
def StrIntTo (t : ByteArray) (k : Int) (w : World) (e : Ending) (w' : World) : Prop := e = .returned (.tuple #[.string t, .int .i64 k]) ∧ Below w.heap.size w w'

theorem int_wf {n : Int} (h : (Lit.int .i64 n).wf = true) : -9223372036854775808 ≤ n ∧ n ≤ 9223372036854775807 := by
  have h2 : (decide (IntKind.i64.min ≤ n) && decide (n ≤ IntKind.i64.max)) = true := h
  rw [show IntKind.i64.min = -9223372036854775808 by decide, show IntKind.i64.max = 9223372036854775807 by decide] at h2
  simpa using h2
end Go.Proofs.YtmdmfjlmmojbgaaGreatDoor.S
/-
  StrMade: Join and Repeat, the program's and the document's own: walks.
-/
namespace Go.Proofs.YtmdmfjlmmojbgaaGreatDoor.S
open Go.RowKit

theorem append_list (a b : ByteArray) : (a ++ b).data.toList = a.data.toList ++ b.data.toList := by simp
theorem append_size (a b : ByteArray) : (a ++ b).size = a.size + b.size := by simp

def joinE (a b : ByteArray) : Int := if a.size + b.size > 4096 then 20 else 0
def joinT (a b : ByteArray) : ByteArray := if a.size + b.size > 4096 then ⟨#[]⟩ else ⟨(a.data.toList ++ b.data.toList).toArray⟩

/-- a list of bytes so many times -/
def reps (l : List UInt8) : Nat → List UInt8
  | 0 => []
  | k + 1 => reps l k ++ l
theorem reps_len (l : List UInt8) (k : Nat) : (reps l k).length = k * l.length := by
  induction k with
  | zero => simp [reps]
  | succ k ih => rw [reps, List.length_append, ih, Nat.succ_mul]

def repE (s : ByteArray) (n : Int) : Int := if n < 0 then 2 else if s.size = 0 then 0 else if n.toNat * s.size > 4096 then 20 else 0
def repT (s : ByteArray) (n : Int) : ByteArray := if n < 0 then ⟨#[]⟩ else if s.size = 0 then ⟨#[]⟩ else if n.toNat * s.size > 4096 then ⟨#[]⟩ else ⟨(reps s.data.toList n.toNat).toArray⟩

theorem over_div (n m : Nat) (hm : 0 < m) : n * m > 4096 ↔ 4096 / m < n := by
  rw [Nat.div_lt_iff_lt_mul hm]
theorem quo_nat (m : Nat) : (4096 : Int) / (m : Int) = ((4096 / m : Nat) : Int) := by rw [Int.natCast_ediv]; rfl
theorem mul_nat (k m : Nat) (h : k * m ≤ 4096) : wrap64 ((k : Int) * (m : Int)) = ((k * m : Nat) : Int) := by
  rw [← Int.natCast_mul]; generalize k * m = p at *; unfold wrap64; omega

theorem below_size {B : Nat} {w w' : World} (h : Below B w w') : w.heap.size ≤ w'.heap.size := h.size
theorem below_up {w w1 w2 : World} (h1 : Below w.heap.size w w1) (h2 : Below w1.heap.size w1 w2) : Below w.heap.size w w2 := h1.trans (h2.mono (below_size h1))

end Go.Proofs.YtmdmfjlmmojbgaaGreatDoor.S
/-
  Quote, the program's and the document's own: walks.
-/
namespace Go.Proofs.YtmdmfjlmmojbgaaGreatDoor.S
open Go.RowKit

/-- a sixteen's byte -/
def hexN (n : Nat) : Nat := if n < 10 then 48 + n else 87 + n
theorem hexN_lt (n : Nat) (h : n < 16) : hexN n < 256 := by unfold hexN; split <;> omega
/-- what stands for a byte between quotes -/
def qb (c : UInt8) : List UInt8 :=
  if c.toNat = 34 ∨ c.toNat = 92 then [92, c] else if c.toNat = 10 then [92, 110] else if c.toNat = 9 then [92, 116] else if c.toNat = 13 then [92, 114]
  else if c.toNat < 32 ∨ 126 < c.toNat then [92, 120, (hexN (c.toNat / 16)).toUInt8, (hexN (c.toNat % 16)).toUInt8] else [c]
theorem qb_len (c : UInt8) : 1 ≤ (qb c).length ∧ (qb c).length ≤ 4 := by
  unfold qb; repeat' split
  all_goals simp
def quoteI (l : List UInt8) : List UInt8 := l.flatMap qb
def quoteL (l : List UInt8) : List UInt8 := 34 :: (quoteI l ++ [34])
theorem quoteI_snoc (l : List UInt8) (c : UInt8) : quoteI (l ++ [c]) = quoteI l ++ qb c := by simp [quoteI]
theorem quoteI_len (l : List UInt8) : (quoteI l).length ≤ 4 * l.length := by
  induction l with
  | nil => simp [quoteI]
  | cons c r ih =>
    have e : quoteI (c :: r) = qb c ++ quoteI r := by simp [quoteI]
    have := (qb_len c).2
    rw [e, List.length_append, List.length_cons]; omega

theorem toNat_of (n : Nat) (h : n < 256) : (n.toUInt8).toNat = n := by simp; omega

theorem list_take_snoc (s : ByteArray) (k : Nat) (h : k < s.size) : s.data.toList.take (k + 1) = s.data.toList.take k ++ [s[k]] := by
  rw [List.take_add_one, getElem_list s k h]; rfl
theorem quote_step (s : ByteArray) (k : Nat) (h : k < s.size) : quoteI (s.data.toList.take (k + 1)) = quoteI (s.data.toList.take k) ++ qb s[k] := by
  rw [list_take_snoc s k h, quoteI_snoc]
theorem quote_take_len (s : ByteArray) (k : Nat) (h : k ≤ s.size) : (quoteI (s.data.toList.take k)).length ≤ 4 * k := by
  refine Nat.le_trans (quoteI_len _) ?_
  rw [List.length_take, ← size_len]; omega

/-- ### the document's own -/
theorem extract_list (s : ByteArray) (a b : Nat) : (s.extract a b).data.toList = (s.data.toList.drop a).take (b - a) := by
  rw [ByteArray.data_extract, Array.toList_extract, List.extract_eq_take_drop]
theorem extract_one (s : ByteArray) (k : Nat) (h : k < s.size) : (s.extract k (k + 1)).data.toList = [s[k]] := by
  rw [extract_list, Nat.add_sub_cancel_left]
  have h2 : k < s.data.toList.length := by rw [← size_len]; exact h
  rw [List.drop_eq_getElem_cons h2, List.take_succ_cons, List.take_zero]
  simp [ByteArray.getElem_eq_getElem_data]

def signT (n : Nat) : ByteArray := (⟨#[48, 49, 50, 51, 52, 53, 54, 55, 56, 57, 97, 98, 99, 100, 101, 102]⟩ : ByteArray).extract n (n + 1)
theorem signT_list (n : Nat) (h : n < 16) : (signT n).data.toList = [(hexN n).toUInt8] := by
  have : ∀ m : Fin 16, (signT m).data.toList = [(hexN m).toUInt8] := by decide
  exact this ⟨n, h⟩
theorem app2 (t : ByteArray) (l : List UInt8) (u : ByteArray) (m : List UInt8) (h : t.data.toList = l) (g : u.data.toList = m) : (t ++ u).data.toList = l ++ m := by rw [append_list, h, g]
theorem app3 (t : ByteArray) (l : List UInt8) (u v : ByteArray) (m n : List UInt8) (h : t.data.toList = l) (g : u.data.toList = m) (f : v.data.toList = n) : (t ++ u ++ v).data.toList = l ++ (m ++ n) := by rw [append_list, append_list, h, g, f, List.append_assoc]
theorem app4 (t : ByteArray) (l : List UInt8) (u v x : ByteArray) (m n o : List UInt8) (h : t.data.toList = l) (g : u.data.toList = m) (f : v.data.toList = n) (d : x.data.toList = o) : (t ++ u ++ v ++ x).data.toList = l ++ (m ++ n ++ o) := by rw [append_list, append_list, append_list, h, g, f, d]; simp only [List.append_assoc]

end Go.Proofs.YtmdmfjlmmojbgaaGreatDoor.S
