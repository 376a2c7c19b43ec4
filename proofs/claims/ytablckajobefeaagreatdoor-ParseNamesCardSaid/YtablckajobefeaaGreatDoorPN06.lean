/-
  The quote that ends a string: walks of package lex.
-/
import Derived.Test.YtablckajobefeaaGreatDoorPN04
import Derived.Test.YtablckajobefeaaGreatDoorPN05
import Derived.Test.YtablckajobefeaaGreatDoorPN03
import Derived.Laws.Bits64b
import Derived.Laws.AppendOwn
import Derived.Laws.OwnMore
import Derived.OwnWalk
import Derived.Deep.RegionHeld3
namespace Go.Proofs.YtablckajobefeaaGreatDoor.S
open Go.RowKit Fl

def optI : Option Nat → Int
  | some k => (k : Int)
  | none => -1
def closeTo (r : Option Nat) (w : World) (e : Ending) (w' : World) : Prop := e = .returned (.int .i64 (optI r)) ∧ w = w'
theorem ret_close {r q : Option Nat} {m : Int} {w : World} (h : Hid (q = r)) (hm : m = optI q) : closeTo r w (.returned (.int .i64 m)) w := by rw [← h.out, hm]; exact ⟨rfl, rfl⟩

section
variable (s : ByteArray) (q : UInt8) (t : Bool) (k : Nat)
theorem close_over (h : ¬ k < s.size) : closeL q t k (s.data.toList.drop k) = none := by rw [drop_over s k h]; rfl
theorem close_nl (h : k < s.size) (hn : s[k] = 10 ∨ s[k] = 13) : closeL q t k (s.data.toList.drop k) = none := by
  rw [drop_get s k h]; unfold closeL; rw [if_pos hn]
theorem close_taken (h : k < s.size) (hn : ¬ (s[k] = 10 ∨ s[k] = 13)) : closeL q true k (s.data.toList.drop k) = closeL q false (k + 1) (s.data.toList.drop (k + 1)) := by
  rw [drop_get s k h]; conv => lhs; unfold closeL
  rw [if_neg hn, if_pos rfl]
theorem close_back (h : k < s.size) (hn : ¬ (s[k] = 10 ∨ s[k] = 13)) (hb : s[k] = 92) : closeL q false k (s.data.toList.drop k) = closeL q true (k + 1) (s.data.toList.drop (k + 1)) := by
  rw [drop_get s k h]; conv => lhs; unfold closeL
  rw [if_neg hn, if_neg (by decide), if_pos hb]
theorem close_here (h : k < s.size) (hn : ¬ (s[k] = 10 ∨ s[k] = 13)) (hb : ¬ s[k] = 92) (hq : s[k] = q) : closeL q false k (s.data.toList.drop k) = some k := by
  rw [drop_get s k h]; unfold closeL
  rw [if_neg hn, if_neg (by decide), if_neg hb, if_pos hq]
theorem close_on (h : k < s.size) (hn : ¬ (s[k] = 10 ∨ s[k] = 13)) (hb : ¬ s[k] = 92) (hq : ¬ s[k] = q) : closeL q false k (s.data.toList.drop k) = closeL q false (k + 1) (s.data.toList.drop (k + 1)) := by
  rw [drop_get s k h]; conv => lhs; unfold closeL
  rw [if_neg hn, if_neg (by decide), if_neg hb, if_neg hq]
end
theorem byte_nb {c : UInt8} {n : Nat} {d : UInt8} (hd : d.toNat = n) (h : ¬ c = d) : (((c.toNat : Nat) : Int) == (n : Int)) = false := by rw [beq_eq_false_iff_ne]; exact byte_ne hd h
theorem byte_eq {c d : UInt8} : ((c.toNat : Nat) : Int) = ((d.toNat : Nat) : Int) ↔ c = d := ⟨fun h => UInt8.toNat_inj.1 (by omega), fun h => by rw [h]⟩

set_option maxHeartbeats 1000000 in
theorem closing_any (s : ByteArray) (q : UInt8) (h0 : 0 < s.size) (hq0 : s[0] = q) (hs : s.size ≤ 9223372036854775807) (w : World) :
    Calls Tryz.prog 65 #[.string s] w (closeTo (closeL q false 1 (s.data.toList.drop 1)) w) := by
  generalize hR : closeL q false 1 (s.data.toList.drop 1) = R
  have HR := Lib.hid hR
  have HQ := Lib.hid hq0
  clear hR hq0
  go_enter Tryz.func65, Tryz.ntmps65
  go_wp2_with (fail)
  go_loop [3, 4] (fun t i => ∃ (k : Nat) (b : Bool), 1 ≤ k ∧ k ≤ s.size ∧ t = .bool b ∧ i = .int .i64 k ∧ Hid (closeL q b k (s.data.toList.drop k) = R)) (fun _ i => s.size - (intOf i).toNat)
  case atStart => exact ⟨1, false, Nat.le_refl _, h0, rfl, rfl, HR⟩
  case round =>
    clear HR
    obtain ⟨k, b, hk1, hk, rfl, rfl, H⟩ := hrel
    by_cases hlt : k < s.size
    · by_cases hn : s[k] = 10 ∨ s[k] = 13
      · have H2 := Lib.hid ((close_nl s q b k hlt hn).symm.trans H.out)
        clear H HQ
        rcases hn with hn | hn
        · have t1 : ((s[k].toNat : Nat) : Int) = 10 := by rw [hn]; rfl
          clear hn
          go_wp2
          go_ret
          exact ret_close H2 rfl
        · have t1 : ((s[k].toNat : Nat) : Int) = 13 := by rw [hn]; rfl
          clear hn
          go_wp2
          go_ret
          exact ret_close H2 rfl
      · have t1 : (((s[k].toNat : Nat) : Int) == 10) = false := byte_nb rfl fun g => hn (Or.inl g)
        have t2 : (((s[k].toNat : Nat) : Int) == 13) = false := byte_nb rfl fun g => hn (Or.inr g)
        cases b with
        | true =>
          have H2 := Lib.hid ((close_taken s q k hlt hn).symm.trans H.out)
          clear H HQ hn
          go_wp2
          go_round
          case rel => exact ⟨k + 1, false, by omega, by omega, rfl, by go_num, H2⟩
          case measure => simp [intOf]; omega
        | false =>
          by_cases hb : s[k] = 92
          · have H2 := Lib.hid ((close_back s q k hlt hn hb).symm.trans H.out)
            have t3 : ((s[k].toNat : Nat) : Int) = 92 := by rw [hb]; rfl
            clear H HQ hn hb t1 t2
            go_wp2
            go_round
            case rel => exact ⟨k + 1, true, by omega, by omega, rfl, by go_num, H2⟩
            case measure => simp [intOf]; omega
          · have t3 : (((s[k].toNat : Nat) : Int) == 92) = false := byte_nb rfl hb
            by_cases hq : s[k] = q
            · have H2 := Lib.hid ((close_here s q k hlt hn hb hq).symm.trans H.out)
              have t4 : (((s[k].toNat : Nat) : Int) == ((s[0].toNat : Nat) : Int)) = true := by rw [hq, HQ.out]; simp
              clear H HQ hn hb hq
              go_wp2
              go_ret
              exact ret_close H2 rfl
            · have H2 := Lib.hid ((close_on s q k hlt hn hb hq).symm.trans H.out)
              have t4 : (((s[k].toNat : Nat) : Int) == ((s[0].toNat : Nat) : Int)) = false := by
                rw [HQ.out, beq_eq_false_iff_ne, ne_eq, byte_eq]; exact hq
              clear H HQ hn hb hq
              go_wp2
              go_round
              case rel => exact ⟨k + 1, false, by omega, by omega, rfl, by go_num, H2⟩
              case measure => simp [intOf]; omega
    · have H2 := Lib.hid ((close_over s q b k hlt).symm.trans H.out)
      clear H HQ
      go_wp2
      go_ret
      exact ret_close H2 rfl
end Go.Proofs.YtablckajobefeaaGreatDoor.S
/-
  What a text begins with: a name, a sign: walks of package lex.
-/
namespace Go.Proofs.YtablckajobefeaaGreatDoor.S
open Go.RowKit Fl

theorem Clone_any (s : ByteArray) (w : World) (hs : s.size ≤ 281474976710656) :
    Calls Tryz.prog 52 #[.string s] w fun e w' => e = .returned (.string s) ∧ Below w.heap.size w w' := by
  have k := fun w => Tryz.stringslite_Clone s w hs
  go_enter Tryz.func52, Tryz.ntmps52
  go_wp2_with (go_at_call 70; refine (k _).mono ?_; rintro e w1 ⟨rfl, h1⟩)
  go_ret
  exact ⟨rfl, h1⟩

theorem bcell {W w1 : World} {B : Nat} (hb : Below B W w1) : (∀ b o, b < B → w1.cell? ⟨b, o, none⟩ = W.cell? ⟨b, o, none⟩) ∧ (∀ b o, b < B → w1.frozen? ⟨b, o, none⟩ = W.frozen? ⟨b, o, none⟩) :=
  ⟨fun b o h => hb.cell (p := ⟨b, o, none⟩) h, fun b o h => hb.frozen (p := ⟨b, o, none⟩) h⟩

/-- a store of a float into a cell (the walk has no law of its own for it) -/
theorem store_f (a : Addr) (x : Nat) (m : Mode) (w : World) : (store a (.float .f64 x) m).run Tryz.prog w = stored Tryz.prog w a (.float .f64 x) m := run_store Tryz.prog w a _ m rfl

def tkV (k : Nat) (a : Int) (t : ByteArray) (n : Nat) : Value := .agg #[.int .u8 (k : Int), .int .i64 a, .string t, .float .f64 n]
def prT : PR → Value
  | .tok k t n _ => tkV k 0 t n
  | .bad _ => tkV 0 0 ⟨#[]⟩ 0
def prW : PR → Int
  | .tok _ _ _ wd => (wd : Int)
  | .bad _ => 0
def prF : PR → Int
  | .tok _ _ _ _ => 0
  | .bad f => f
def Piece2To (r : PR) (w : World) (e : Ending) (w' : World) : Prop := e = .returned (.tuple #[prT r, .int .i64 (prW r)]) ∧ Below w.heap.size w w'
def Piece3To (r : PR) (w : World) (e : Ending) (w' : World) : Prop := e = .returned (.tuple #[prT r, .int .i64 (prW r), .int .i64 (prF r)]) ∧ Below w.heap.size w w'

theorem set4 {B g : Nat} {w0 w : World} (h : Below B w0 w) (hg : B ≤ g) (a b c d : Value) :
    Below B w0 ((((w.setCell ⟨g, 0, none⟩ a).setCell ⟨g, 1, none⟩ b).setCell ⟨g, 2, none⟩ c).setCell ⟨g, 3, none⟩ d) :=
  (((h.setCell (p := ⟨g, 0, none⟩) hg a).setCell (p := ⟨g, 1, none⟩) hg b).setCell (p := ⟨g, 2, none⟩) hg c).setCell (p := ⟨g, 3, none⟩) hg d
theorem after_alloc {w w1 : World} {o : Obj} (h : Below (w.alloc o).heap.size (w.alloc o) w1) : Below w.heap.size w w1 := ((Below.refl _ _).alloc (Nat.le_refl _) o).trans (h.mono (by simp))
theorem alloc_of {B : Nat} {w0 w : World} (h : Below B w0 w) (hB : B ≤ w0.heap.size) (o : Obj) : Below B w0 (w.alloc o) := h.alloc (Nat.le_trans hB h.size) o
theorem piece2_ok {r : PR} {v x : Value} {w w' : World} (h1 : v = prT r) (h2 : x = .int .i64 (prW r)) (hb : Below w.heap.size w w') : Piece2To r w (.returned (.tuple #[v, x])) w' := ⟨by rw [h1, h2], hb⟩
theorem piece3_ok {r : PR} {v x y : Value} {w w' : World} (h1 : v = prT r) (h2 : x = .int .i64 (prW r)) (h3 : y = .int .i64 (prF r)) (hb : Below w.heap.size w w') : Piece3To r w (.returned (.tuple #[v, x, y])) w' := ⟨by rw [h1, h2, h3], hb⟩

theorem take_ext (s : ByteArray) (n : Nat) : s.extract 0 n = mkB (s.data.toList.take n) := by rw [mkB_ext]; rfl

set_option maxHeartbeats 1000000 in
theorem name_any (s : ByteArray) (hs : s.size ≤ 9223372036854775807) (w : World) : Calls Tryz.prog 41 #[.string s] w (Piece2To (nameL s.data.toList) w) := by
  have kr := fun w => run_inner s w (by unfold maxLen; omega)
  have hle := runL_le innB s.data.toList
  rw [← size_len] at hle
  unfold nameL
  have hx := take_ext s (runL innB s.data.toList)
  have hl : (s.extract 0 (runL innB s.data.toList)).data.toList = s.data.toList.take (runL innB s.data.toList) := by rw [hx, mkB_list]
  have kw := fun w => lexWord_any (s.extract 0 (runL innB s.data.toList)) w
  rw [hl] at kw
  rw [← hx]
  clear hx hl
  generalize wordB (s.data.toList.take (runL innB s.data.toList)) = b at *
  generalize runL innB s.data.toList = n at *
  have kc := fun (hn : ¬ n > 4096) w => Clone_any (s.extract 0 n) w (by simp; omega)
  by_cases hn : n > 4096
  · rw [if_pos hn]
    clear kc kw
    have hst := store_f
    go_enter Tryz.func41, Tryz.ntmps41
    go_wp2_with (go_at_call 61; refine (kr _).mono ?_; rintro e w1 ⟨rfl, rfl⟩)
    refine bodyPost_ret (v := .tuple #[tkV 0 0 ⟨#[]⟩ 0, .int .i64 0]) (by simp [tkV, results, Tryz.results41, go_sem]) rfl (piece2_ok rfl rfl ?_)
    exact (Below.refl _ _).alloc (Nat.le_refl _) _
  · rw [if_neg hn]
    have kc := kc hn
    cases b
    all_goals
      have hst := store_f
      go_enter Tryz.func41, Tryz.ntmps41
      go_wp2_with (first
        | (go_at_call 61; refine (kr _).mono ?_; rintro e w1 ⟨rfl, rfl⟩)
        | (go_at_call 52; refine (kc _).mono ?_; rintro e w1 ⟨rfl, h1⟩; obtain ⟨hc, hf⟩ := bcell h1; have hz : w.heap.size < w1.heap.size := by have := h1.size; simp at this; omega)
        | (go_at_call 63; refine (kw _).mono ?_; rintro e w1 ⟨rfl, rfl⟩))
    · refine bodyPost_ret (v := .tuple #[tkV 1 0 (s.extract 0 n) 0, .int .i64 n]) (by simp [tkV, hc, hz, results, Tryz.results41, go_sem]) rfl (piece2_ok rfl rfl ?_)
      exact alloc_of (set4 (after_alloc h1) (Nat.le_refl _) _ _ _ _) (Nat.le_refl _) _
    · refine bodyPost_ret (v := .tuple #[tkV 2 0 (s.extract 0 n) 0, .int .i64 n]) (by simp [tkV, hc, hz, results, Tryz.results41, go_sem]) rfl (piece2_ok rfl rfl ?_)
      exact alloc_of (set4 (after_alloc h1) (Nat.le_refl _) _ _ _ _) (Nat.le_refl _) _
end Go.Proofs.YtablckajobefeaaGreatDoor.S
/-
  The document's own Read at every text: a walk.
-/
namespace Go.Proofs.YtablckajobefeaaGreatDoor
open Go.RowKit Fl

def seg (t : ByteArray) (a k : Nat) : List UInt8 := (t.data.toList.take k).drop a
theorem below_draw2 {w W : World} (h : Below w.heap.size w W) (n : Nat) : Below w.heap.size w (W.drewN n) := ⟨h.os, h.tape, h.output, h.size, h.block⟩
theorem digR_big (neg : Bool) {l : List UInt8} (h1 : l ≠ []) (h2 : l.all isDig = true) (h3 : 9007199254740991 < valD l) : digR neg l = .err 10 := by
  unfold digR; rw [if_neg (by rintro (h | h); exact h1 h; rw [h2] at h; cases h), if_pos h3]
theorem digR_ok (neg : Bool) {l : List UInt8} (h1 : l ≠ []) (h2 : l.all isDig = true) (h3 : valD l ≤ 9007199254740991) (h4 : neg = true → valD l ≠ 0) : digR neg l = .ok (if neg then -(valD l : Int) else (valD l : Int)) := by
  unfold digR; rw [if_neg (by rintro (h | h); exact h1 h; rw [h2] at h; cases h), if_neg (by omega), if_neg (by rintro ⟨a, b⟩; exact h4 a b)]


end Go.Proofs.YtablckajobefeaaGreatDoor
/-
  Int and Bits of package num beside the document's own, for every byte and every two floats: walks.
-/
namespace Go.Proofs.YtablckajobefeaaGreatDoor
open Go.RowKit Fl

/-- the 32 bits of what a float is -/
def intC (c : Cl) : Int := wrap32 (wholeI c)

/-- what the operation of a byte makes of 32 bits and 32 bits -/
def bitsI (op a b : Int) : Int :=
  if op = 38 then bits .and .i32 a b else if op = 124 then bits .or .i32 a b else if op = 94 then bits .xor .i32 a b
  else if op = 60 then wrap32 (a * 2 ^ (b % 32).toNat) else if op = 62 then a / 2 ^ (b % 32).toNat else a % 4294967296 / 2 ^ (b % 32).toNat
def codeB (op : Int) : Bool := op == 38 || op == 124 || op == 94 || op == 60 || op == 62 || op == 117
def bitsR (op : Int) (c d : Cl) : Res := if mayC c && mayC d then (if codeB op then .ok (bitsI op (intC c) (intC d)) else .err 2) else .err 2

end Go.Proofs.YtablckajobefeaaGreatDoor
/-
  NumTexts and NumAgain: texts and what they are worth, beside the document's own, and back: walks.
-/
namespace Go.Proofs.YtablckajobefeaaGreatDoor
open Go.RowKit Fl

def TabHere (w : World) : Prop := Lib.TabBelow Tryz.prog w.heap.size w "internal/strconv.uint64pow10" .u64 Lib.pow10Tab

theorem below_size {w a b : World} (h1 : Below w.heap.size w a) (h2 : Below a.heap.size a b) : Below w.heap.size w b := h1.trans (h2.mono h1.size)

end Go.Proofs.YtablckajobefeaaGreatDoor
/-
  NumAgain: texts and bits come back, for every two floats: walks.
-/
namespace Go.Proofs.YtablckajobefeaaGreatDoor
open Go.RowKit Fl

theorem dig_no_blank (c : UInt8) (h : isDig c = true) : blanksL.contains c = false ∧ c ≠ 45 ∧ c ≠ 43 := by
  obtain ⟨h1, h2⟩ := (isDig_iff c).1 h
  have hb := blankB_eq c
  unfold blankB at hb
  refine ⟨?_, ?_, ?_⟩
  · rw [hb]
    have a : (c.toNat == 9) = false := by rw [beq_eq_false_iff_ne]; omega
    have b : (c.toNat == 10) = false := by rw [beq_eq_false_iff_ne]; omega
    have d : (c.toNat == 13) = false := by rw [beq_eq_false_iff_ne]; omega
    have e : (c.toNat == 32) = false := by rw [beq_eq_false_iff_ne]; omega
    rw [a, b, d, e]; rfl
  · intro e; rw [e] at h1 h2; revert h1; decide
  · intro e; rw [e] at h1 h2; revert h1; decide

theorem trim_none (l : List UInt8) (h : ∀ c ∈ l, blanksL.contains c = false) : Lib.trimS l blanksL = l := by
  have e := trim_at l 0 l.length (Nat.zero_le _) (Nat.le_refl _) (fun j b hj _ => by omega) (fun b hb => h b (List.mem_of_getElem? hb)) (fun j b hj hb => by rw [List.getElem?_eq_none hj] at hb; cases hb) (fun _ b hb => h b (List.mem_of_getElem? hb))
  rw [← e]; simp

end Go.Proofs.YtablckajobefeaaGreatDoor
/-
  What a text begins with: a sign, a number, a string: walks of package lex.
-/
namespace Go.Proofs.YtablckajobefeaaGreatDoor.S
open Go.RowKit Fl

theorem zero_alloc (w : World) (o : Obj) : Below w.heap.size w (w.alloc o) := (Below.refl _ _).alloc (Nat.le_refl _) o
theorem drawn_alloc {w : World} {o : Obj} (n : Nat) : Below w.heap.size w ((w.alloc o).drewN n) := below_draw2 (zero_alloc w o) n
theorem after_drawn {w w1 : World} {o : Obj} {n : Nat} (h : Below ((w.alloc o).drewN n).heap.size ((w.alloc o).drewN n) w1) : Below w.heap.size w w1 := (drawn_alloc n).trans (h.mono (drawn_alloc n).size)

theorem lt_after {w w1 : World} {o : Obj} (h : Below (w.alloc o).heap.size (w.alloc o) w1) : w.heap.size < w1.heap.size := by
  have := h.size
  have e : (w.alloc o).heap.size = w.heap.size + 1 := by simp
  omega
theorem lt_after_n {w w1 : World} {o : Obj} {n : Nat} (h : Below ((w.alloc o).drewN n).heap.size ((w.alloc o).drewN n) w1) : w.heap.size < w1.heap.size := by
  have := h.size
  have e : (w.alloc o).heap.size = w.heap.size + 1 := by simp
  have := (below_drawn (w.alloc o) n).size
  omega

theorem signN_3 (l : List UInt8) : signN l ≤ 3 := by unfold signN; split <;> (try split) <;> (try split) <;> omega
set_option maxHeartbeats 1000000 in
theorem lexsign_any (s : ByteArray) (h0 : 0 < s.size) (hs : s.size ≤ 9223372036854775807) (w : World) : Calls Tryz.prog 45 #[.string s] w (Piece2To (signL s.data.toList) w) := by
  have ks := fun w => signed_any s h0 (by omega) w
  have hle := signN_le s.data.toList
  have hle3 := signN_3 s.data.toList
  rw [← size_len] at hle
  unfold signL
  rw [← take_ext s (signN s.data.toList)]
  generalize signN s.data.toList = n at *
  have kc := fun w => Clone_any (s.extract 0 n) w (by simp; omega)
  by_cases hn : n = 0
  · rw [if_pos hn]
    subst hn
    clear kc hle
    have hst := store_f
    go_enter Tryz.func45, Tryz.ntmps45
    go_wp2_with (go_at_call 67; refine (ks _).mono ?_; rintro e w1 ⟨q, rfl, rfl⟩)
    refine bodyPost_ret (v := .tuple #[tkV 0 0 ⟨#[]⟩ 0, .int .i64 0]) (by simp [tkV, results, Tryz.results45, go_sem]) rfl (piece2_ok rfl rfl ?_)
    exact set4 (drawn_alloc q) (Nat.le_refl _) _ _ _ _
  · rw [if_neg hn]
    have hn' : ¬ (n : Int) = 0 := by omega
    clear hn
    have hst := store_f
    go_enter Tryz.func45, Tryz.ntmps45
    go_wp2_with (first
      | (go_at_call 67; refine (ks _).mono ?_; rintro e w1 ⟨q, rfl, rfl⟩)
      | (go_at_call 52; refine (kc _).mono ?_; rintro e w1 ⟨rfl, h1⟩; obtain ⟨hc, hf⟩ := bcell h1; have hz := lt_after_n h1))
    refine bodyPost_ret (v := .tuple #[tkV 5 0 (s.extract 0 n) 0, .int .i64 n]) (by simp [tkV, hc, results, Tryz.results45, go_sem]) rfl (piece2_ok rfl rfl ?_)
    exact set4 (after_drawn h1) (Nat.le_refl _) _ _ _ _

theorem readR_dig {l : List UInt8} (h : l ≠ []) (ha : l.all isDig = true) : readR l = if valD l ≤ 9007199254740991 then .ok (valD l : Int) else .err 10 := by
  have hm : ∀ c ∈ l, isDig c = true := List.all_eq_true.1 ha
  unfold readR
  rw [trim_none l fun c hc => (dig_no_blank c (hm c hc)).1]
  cases l with
  | nil => exact absurd rfl h
  | cons c r =>
    obtain ⟨_, h1, h2⟩ := dig_no_blank c (hm c List.mem_cons_self)
    rw [bareR_cons, if_neg h1, if_neg h2]
    split
    · rename_i hv; rw [digR_ok false h ha hv (by intro h; cases h)]; rfl
    · rename_i hv; exact digR_big false h ha (by omega)
theorem run_take_all (p : UInt8 → Bool) (l : List UInt8) : (l.take (runL p l)).all p = true := by
  induction l with
  | nil => rfl
  | cons c r ih =>
    rw [runL_cons]
    split
    · rename_i h; rw [List.take_succ_cons, List.all_cons, h, ih]; rfl
    · rfl

theorem numBad_eq (s : ByteArray) (h0 : 0 < s.size) : numBad s.data.toList = ((decide (runL isDig s.data.toList > 1) && decide (s[0] = 48)) || (if h : runL isDig s.data.toList < s.size then innB s[runL isDig s.data.toList] else false)) := by
  unfold numBad
  have e1 : decide (s.data.toList.head? = some 48) = decide (s[0] = 48) := by
    have := drop_get s 0 h0
    rw [List.drop_zero] at this
    rw [this, List.head?_cons]; simp
  rw [e1]
  congr 1
  by_cases h : runL isDig s.data.toList < s.size
  · rw [dif_pos h, getElem_list s _ h]
  · rw [dif_neg h, List.getElem?_eq_none (by rw [← size_len]; omega)]

set_option maxHeartbeats 2000000 in
theorem number_any (s : ByteArray) (h0 : 0 < s.size) (hd : isDig s[0] = true) (hs : s.size ≤ 9223372036854775807) (w : World) : Calls Tryz.prog 43 #[.string s] w (Piece2To (numberL s.data.toList) w) := by
  have kr := fun w => run_digit s w (by unfold maxLen; omega)
  have hle := runL_le isDig s.data.toList
  rw [← size_len] at hle
  have hpos : 0 < runL isDig s.data.toList := by
    have := drop_get s 0 h0
    rw [List.drop_zero] at this
    rw [this, runL_cons, if_pos hd]; omega
  have hbad := numBad_eq s h0
  have kd := fun w => Read_any (s.extract 0 (runL isDig s.data.toList)) w (by unfold maxLen; simp; omega)
  rw [take_ext s, mkB_list] at kd
  rw [← take_ext s] at kd
  have hrd := readR_dig (l := s.data.toList.take (runL isDig s.data.toList)) (by
    intro e
    have := congrArg List.length e
    rw [List.length_take, ← size_len, List.length_nil] at this
    omega) (run_take_all isDig s.data.toList)
  rw [hrd] at kd
  have HN : Hid (numberL s.data.toList = if numBad s.data.toList = true then PR.bad 0 else if valD (s.data.toList.take (runL isDig s.data.toList)) ≤ 9007199254740991 then .tok 3 ⟨#[]⟩ (F (valD (s.data.toList.take (runL isDig s.data.toList)) : Int)) (runL isDig s.data.toList) else .bad 0) := Lib.hid (by
    unfold numberL
    rw [hrd]
    by_cases hb : numBad s.data.toList = true
    · rw [if_pos hb, if_pos hb]
    · rw [if_neg hb, if_neg hb]
      by_cases hv : valD (s.data.toList.take (runL isDig s.data.toList)) ≤ 9007199254740991
      · rw [if_pos hv, if_pos hv]
      · rw [if_neg hv, if_neg hv])
  rw [hbad] at HN
  generalize valD (s.data.toList.take (runL isDig s.data.toList)) = v at *
  clear hbad hrd hd
  generalize runL isDig s.data.toList = n at *
  by_cases cA : 1 < n ∧ s[0] = 48
  · have HN2 : Hid (numberL s.data.toList = .bad 0) := Lib.hid (by rw [HN.out, if_pos (by rw [decide_eq_true cA.1, decide_eq_true cA.2]; rfl)])
    have t0 : ((s[0].toNat : Nat) : Int) = 48 := by rw [cA.2]; rfl
    have hn1 : 1 < n := cA.1
    rw [HN2.out]
    clear HN HN2 cA kd
    have hst := store_f
    go_enter Tryz.func43, Tryz.ntmps43
    go_wp2_with (go_at_call 61; refine (kr _).mono ?_; rintro e w1 ⟨rfl, rfl⟩)
    refine bodyPost_ret (v := .tuple #[tkV 0 0 ⟨#[]⟩ 0, .int .i64 0]) (by simp [tkV, results, Tryz.results43, go_sem]) rfl (piece2_ok rfl rfl ?_)
    exact zero_alloc _ _
  · have hA : (decide (n > 1) && decide (s[0] = 48)) = false := by
      rw [Bool.and_eq_false_iff]
      by_cases c1 : 1 < n
      · exact Or.inr (decide_eq_false fun g => cA ⟨c1, g⟩)
      · exact Or.inl (decide_eq_false (by omega))
    rw [hA, Bool.false_or] at HN
    have cA' : 1 < n ∧ (((s[0].toNat : Nat) : Int) == 48) = false ∨ ¬ 1 < n := by
      by_cases c1 : 1 < n
      · exact Or.inl ⟨c1, byte_nb rfl fun g => cA ⟨c1, g⟩⟩
      · exact Or.inr c1
    clear cA hA
    by_cases cB : n < s.size
    · rw [dif_pos cB] at HN
      have ki := fun w => lexinner_any s[n] w
      generalize innB s[n] = b at *
      cases b with
      | true =>
        have HN2 : Hid (numberL s.data.toList = .bad 0) := Lib.hid (by rw [HN.out, if_pos rfl])
        rw [HN2.out]
        clear HN HN2 kd
        rcases cA' with ⟨c1, c2⟩ | c1
        all_goals
          have hst := store_f
          go_enter Tryz.func43, Tryz.ntmps43
          go_wp2_with (first | (go_at_call 61; refine (kr _).mono ?_; rintro e w1 ⟨rfl, rfl⟩) | (go_at_call 62; refine (ki _).mono ?_; rintro e w1 ⟨rfl, rfl⟩))
          refine bodyPost_ret (v := .tuple #[tkV 0 0 ⟨#[]⟩ 0, .int .i64 0]) (by simp [tkV, results, Tryz.results43, go_sem]) rfl (piece2_ok rfl rfl ?_)
          exact zero_alloc _ _
      | false =>
        have HN2 : Hid (numberL s.data.toList = if v ≤ 9007199254740991 then .tok 3 ⟨#[]⟩ (F (v : Int)) n else .bad 0) := Lib.hid (by rw [HN.out, if_neg (by decide)])
        rw [HN2.out]
        clear HN HN2
        by_cases hv : v ≤ 9007199254740991
        · rw [if_pos hv]
          rw [if_pos hv] at kd
          rcases cA' with ⟨c1, c2⟩ | c1
          all_goals
            have hst := store_f
            go_enter Tryz.func43, Tryz.ntmps43
            go_wp2_with (first | (go_at_call 61; refine (kr _).mono ?_; rintro e w1 ⟨rfl, rfl⟩) | (go_at_call 62; refine (ki _).mono ?_; rintro e w1 ⟨rfl, rfl⟩) | (go_at_call 64; refine (kd _).mono ?_; rintro e w1 ⟨x, j, ⟨⟨rfl, _⟩, rfl⟩, rfl, h1⟩; obtain ⟨hc, hf⟩ := bcell h1; have hz := lt_after h1))
            refine bodyPost_ret (v := .tuple #[tkV 3 0 ⟨#[]⟩ (F (v : Int)), .int .i64 n]) (by simp [tkV, hc, results, Tryz.results43, go_sem]) rfl (piece2_ok rfl rfl ?_)
            exact set4 (after_alloc h1) (Nat.le_refl _) _ _ _ _
        · rw [if_neg hv]
          rw [if_neg hv] at kd
          rcases cA' with ⟨c1, c2⟩ | c1
          all_goals
            have hst := store_f
            go_enter Tryz.func43, Tryz.ntmps43
            go_wp2_with (first | (go_at_call 61; refine (kr _).mono ?_; rintro e w1 ⟨rfl, rfl⟩) | (go_at_call 62; refine (ki _).mono ?_; rintro e w1 ⟨rfl, rfl⟩) | (go_at_call 64; refine (kd _).mono ?_; rintro e w1 ⟨x, j, ⟨rfl, rfl⟩, rfl, h1⟩; obtain ⟨hc, hf⟩ := bcell h1; have hz := lt_after h1))
            refine bodyPost_ret (v := .tuple #[tkV 0 0 ⟨#[]⟩ 0, .int .i64 0]) (by simp [tkV, hc, results, Tryz.results43, go_sem]) rfl (piece2_ok rfl rfl ?_)
            exact set4 (after_alloc h1) (Nat.le_refl _) _ _ _ _
    · rw [dif_neg cB] at HN
      have HN2 : Hid (numberL s.data.toList = if v ≤ 9007199254740991 then .tok 3 ⟨#[]⟩ (F (v : Int)) n else .bad 0) := Lib.hid (by rw [HN.out, if_neg (by decide)])
      rw [HN2.out]
      clear HN HN2
      by_cases hv : v ≤ 9007199254740991
      · rw [if_pos hv]
        rw [if_pos hv] at kd
        rcases cA' with ⟨c1, c2⟩ | c1
        all_goals
          have hst := store_f
          go_enter Tryz.func43, Tryz.ntmps43
          go_wp2_with (first | (go_at_call 61; refine (kr _).mono ?_; rintro e w1 ⟨rfl, rfl⟩) | (go_at_call 64; refine (kd _).mono ?_; rintro e w1 ⟨x, j, ⟨⟨rfl, _⟩, rfl⟩, rfl, h1⟩; obtain ⟨hc, hf⟩ := bcell h1; have hz := lt_after h1))
          refine bodyPost_ret (v := .tuple #[tkV 3 0 ⟨#[]⟩ (F (v : Int)), .int .i64 n]) (by simp [tkV, hc, results, Tryz.results43, go_sem]) rfl (piece2_ok rfl rfl ?_)
          exact set4 (after_alloc h1) (Nat.le_refl _) _ _ _ _
      · rw [if_neg hv]
        rw [if_neg hv] at kd
        rcases cA' with ⟨c1, c2⟩ | c1
        all_goals
          have hst := store_f
          go_enter Tryz.func43, Tryz.ntmps43
          go_wp2_with (first | (go_at_call 61; refine (kr _).mono ?_; rintro e w1 ⟨rfl, rfl⟩) | (go_at_call 64; refine (kd _).mono ?_; rintro e w1 ⟨x, j, ⟨rfl, rfl⟩, rfl, h1⟩; obtain ⟨hc, hf⟩ := bcell h1; have hz := lt_after h1))
          refine bodyPost_ret (v := .tuple #[tkV 0 0 ⟨#[]⟩ 0, .int .i64 0]) (by simp [tkV, hc, results, Tryz.results43, go_sem]) rfl (piece2_ok rfl rfl ?_)
          exact set4 (after_alloc h1) (Nat.le_refl _) _ _ _ _
end Go.Proofs.YtablckajobefeaaGreatDoor.S
/-
  What a text begins with: a string, and any token: walks of package lex.
-/
namespace Go.Proofs.YtablckajobefeaaGreatDoor.S
open Go.RowKit Fl

theorem plainR_inl (s : ByteArray) : ∀ (f i : Nat) (acc : List UInt8) (j : Nat), plainR s f i acc = .inl j → j < s.size
  | 0, _, _, _, h => by cases h
  | f + 1, i, acc, j, h => by
    rw [plainR] at h
    split at h
    · split at h
      · cases h; assumption
      · exact plainR_inl s f _ _ j h
    · cases h
theorem plainO_at (s : ByteArray) : 0 ≤ (plainO s).2.1 ∧ (plainO s).2.1 ≤ s.size := by
  unfold plainO
  split
  · exact ⟨Int.le_refl _, by simp⟩
  · cases h : plainR s s.size 0 [] with
    | inl j => have := plainR_inl s _ _ _ _ h; unfold outOf; exact ⟨by simp, by simp; omega⟩
    | inr acc => unfold outOf; dsimp only; split <;> exact ⟨Int.le_refl _, by simp⟩

theorem plainO_at2 (s : ByteArray) : 0 ≤ (plainO s).2.1 ∧ (plainO s).2.1 ≤ 65536 := by
  have := plainO_at s
  by_cases h : s.size > 65536
  · unfold plainO; rw [if_pos h]; exact ⟨by decide, by decide⟩
  · exact ⟨this.1, by omega⟩

set_option maxHeartbeats 2000000 in
theorem literal_any (s : ByteArray) (q : UInt8) (h0 : 0 < s.size) (hq : s[0] = q) (hs : s.size ≤ 9223372036854775807) (w : World) : Calls Tryz.prog 44 #[.string s] w (Piece3To (literalL q s.data.toList) w) := by
  have kc := fun w => closing_any s q h0 hq hs w
  have hlt := fun e h => closeL_lt q (s.data.toList.drop 1) false 1 e h
  unfold literalL
  generalize closeL q false 1 (s.data.toList.drop 1) = R at *
  cases R with
  | none =>
    dsimp only
    have kc : ∀ w, Calls Tryz.prog 65 #[.string s] w (fun e w' => e = .returned (.int .i64 (-1)) ∧ w = w') := kc
    clear hlt hq
    have hst := store_f
    go_enter Tryz.func44, Tryz.ntmps44
    go_wp2_with (go_at_call 65; refine (kc _).mono ?_; rintro e w1 ⟨rfl, rfl⟩)
    refine bodyPost_ret (v := .tuple #[tkV 0 0 ⟨#[]⟩ 0, .int .i64 0, .int .i64 0]) (by simp [tkV, results, Tryz.results44, go_sem]) rfl (piece3_ok rfl rfl rfl ?_)
    first | exact zero_alloc _ _ | exact set4 (zero_alloc _ _) (Nat.le_refl _) _ _ _ _
  | some e =>
    dsimp only
    have kc : ∀ w, Calls Tryz.prog 65 #[.string s] w (fun e' w' => e' = .returned (.int .i64 (e : Int)) ∧ w = w') := kc
    obtain ⟨he1, he2⟩ := hlt e rfl
    rw [List.length_drop, ← size_len] at he2
    clear hlt hq
    have hx : mkB ((s.data.toList.drop 1).take (e - 1)) = s.extract 1 e := by rw [mkB_ext]
    rw [hx]
    have kp := fun w => Plain_all (s.extract 1 e) w (by simp; omega)
    have hat := plainO_at2 (s.extract 1 e)
    have hes : (e : Int) < (s.size : Int) := by omega
    generalize plainO (s.extract 1 e) = r at *
    obtain ⟨t, a, k⟩ := r
    dsimp only at hat
    obtain ⟨ha1, ha2⟩ := hat
    have ha3 : a ≤ 70000 := by omega
    clear hx ha2
    by_cases k0 : k = 0
    · subst k0
      have HP : Hid (plainP (t, a, 0) e = .tok 4 t 0 (e + 1)) := Lib.hid rfl
      rw [HP.out]
      clear HP
      have hst := store_f
      go_enter Tryz.func44, Tryz.ntmps44
      go_wp2_with (first | (go_at_call 65; refine (kc _).mono ?_; rintro e w1 ⟨rfl, rfl⟩) | (go_at_call 66; refine (kp _).mono ?_; rintro e w1 ⟨rfl, h1⟩; obtain ⟨hc, hf⟩ := bcell h1; have hz := lt_after h1))
      refine bodyPost_ret (v := .tuple #[tkV 4 0 t 0, .int .i64 (e + 1), .int .i64 0]) (by simp [tkV, hc, results, Tryz.results44, go_sem]) rfl (piece3_ok rfl rfl rfl ?_)
      exact set4 (after_alloc h1) (Nat.le_refl _) _ _ _ _
    · by_cases k5 : k = 5
      · subst k5
        have HP : Hid (plainP (t, a, 5) e = .bad (1 + a)) := Lib.hid rfl
        rw [HP.out]
        clear HP k0
        have hst := store_f
        go_enter Tryz.func44, Tryz.ntmps44
        go_wp2_with (first | (go_at_call 65; refine (kc _).mono ?_; rintro e w1 ⟨rfl, rfl⟩) | (go_at_call 66; refine (kp _).mono ?_; rintro e w1 ⟨rfl, h1⟩; obtain ⟨hc, hf⟩ := bcell h1; have hz := lt_after h1))
        refine bodyPost_ret (v := .tuple #[tkV 0 0 ⟨#[]⟩ 0, .int .i64 0, .int .i64 (1 + a)]) (by simp [tkV, hc, results, Tryz.results44, go_sem]) rfl (piece3_ok rfl rfl rfl ?_)
        first | exact after_alloc h1 | exact set4 (after_alloc h1) (Nat.le_refl _) _ _ _ _
      · have HP : Hid (plainP (t, a, k) e = .bad 0) := Lib.hid (by unfold plainP; rw [if_neg k0, if_neg k5])
        rw [HP.out]
        have k0' : (k == 0) = false := by simpa using k0
        have k5' : (k == 5) = false := by simpa using k5
        clear HP k0 k5
        have hst := store_f
        go_enter Tryz.func44, Tryz.ntmps44
        go_wp2_with (first | (go_at_call 65; refine (kc _).mono ?_; rintro e w1 ⟨rfl, rfl⟩) | (go_at_call 66; refine (kp _).mono ?_; rintro e w1 ⟨rfl, h1⟩; obtain ⟨hc, hf⟩ := bcell h1; have hz := lt_after h1))
        refine bodyPost_ret (v := .tuple #[tkV 0 0 ⟨#[]⟩ 0, .int .i64 0, .int .i64 0]) (by simp [tkV, hc, results, Tryz.results44, go_sem]) rfl (piece3_ok rfl rfl rfl ?_)
        first | exact after_alloc h1 | exact set4 (after_alloc h1) (Nat.le_refl _) _ _ _ _

end Go.Proofs.YtablckajobefeaaGreatDoor.S
/-
  What a text begins with: any token: walks of package lex.
-/
namespace Go.Proofs.YtablckajobefeaaGreatDoor.S
open Go.RowKit Fl

theorem set1_blk {w : World} {g i : Nat} {t : TypeId} {cs : Array Value} (h : w.heap[g]? = some (.cells cs t (0, 0))) (u : Value) :
    (w.setCell ⟨g, i, none⟩ u).heap[g]? = some (.cells (cs.setIfInBounds i u) t (0, 0)) := by
  simp [World.setCell, Array.getElem?_modify, h]
theorem set4_blk {w : World} {g : Nat} {t : TypeId} {c0 c1 c2 c3 : Value} (h : w.heap[g]? = some (.cells #[c0, c1, c2, c3] t (0, 0))) (a b c d : Value) :
    ((((w.setCell ⟨g, 0, none⟩ a).setCell ⟨g, 1, none⟩ b).setCell ⟨g, 2, none⟩ c).setCell ⟨g, 3, none⟩ d).heap[g]? = some (.cells #[a, b, c, d] t (0, 0)) :=
  set1_blk (set1_blk (set1_blk (set1_blk h a) b) c) d
theorem after_blk {w w1 : World} {o : Obj} (h : Below (w.alloc o).heap.size (w.alloc o) w1) : w1.heap[w.heap.size]? = some o := by
  have e : (w.alloc o).heap.size = w.heap.size + 1 := by simp
  rw [h.block w.heap.size (by omega)]; exact heap_alloc_new w o
theorem blk_cell {w : World} {g : Nat} {t : TypeId} {cs : Array Value} (h : w.heap[g]? = some (.cells cs t (0, 0))) (i : Nat) : w.cell? ⟨g, i, none⟩ = cs[i]? := cell_of_row w g i cs t (0, 0) h
theorem piece_end {Q : Ending → World → Prop} {tmps : Array Value} {W : World} {g : Nat} {a x y : Int} {b : ByteArray} {c : Nat}
    (h2 : tmps[2]?.getD undef = .pointer (some ⟨g, 0, none⟩)) (h3 : tmps[3]?.getD undef = .int .i64 x) (h4 : tmps[4]?.getD undef = .int .i64 y)
    (hb : W.heap[g]? = some (.cells #[.int .u8 a, .int .i64 0, .string b, .float .f64 c] 52 (0, 0)))
    (hQ : Q (.returned (.tuple #[.agg #[.int .u8 a, .int .i64 0, .string b, .float .f64 c], .int .i64 x, .int .i64 y])) W) :
    bodyPost Tryz.prog Tryz.f23 Q .ret { tmps := tmps, defers := [] } W := by
  have c0 : W.cell? ⟨g, 0, none⟩ = some (.int .u8 a) := blk_cell hb 0
  have c1 : W.cell? ⟨g, 1, none⟩ = some (.int .i64 0) := blk_cell hb 1
  have c2 : W.cell? ⟨g, 2, none⟩ = some (.string b) := blk_cell hb 2
  have c3 : W.cell? ⟨g, 3, none⟩ = some (.float .f64 c) := blk_cell hb 3
  clear hb
  refine bodyPost_ret (v := .tuple #[.agg #[.int .u8 a, .int .i64 0, .string b, .float .f64 c], .int .i64 x, .int .i64 y]) ?_ rfl hQ
  simp [h2, h3, h4, c0, c1, c2, c3, results, Tryz.results23, go_sem]

theorem pr_shape (r : PR) : ∃ (a : Int) (b : ByteArray) (c : Nat), prT r = .agg #[.int .u8 a, .int .i64 0, .string b, .float .f64 c] := by
  cases r with
  | tok k t n wd => exact ⟨k, t, n, rfl⟩
  | bad f => exact ⟨0, ⟨#[]⟩, 0, rfl⟩
theorem nameL_F (l : List UInt8) : prF (nameL l) = 0 := by unfold nameL; split <;> rfl
theorem signL_F (l : List UInt8) : prF (signL l) = 0 := by unfold signL; split <;> rfl
theorem numberL_F (l : List UInt8) : prF (numberL l) = 0 := by
  unfold numberL; split
  · rfl
  · split <;> rfl

set_option maxHeartbeats 2000000 in
theorem piece_any (s : ByteArray) (h0 : 0 < s.size) (hs : s.size ≤ 9223372036854775807) (w : World) : Calls Tryz.prog 23 #[.string s] w (Piece3To (pieceL s.data.toList) w) := by
  have hL : s.data.toList = s[0] :: s.data.toList.drop 1 := by have := drop_get s 0 h0; rwa [List.drop_zero] at this
  have hp : pieceL s.data.toList = if iniB s[0] then nameL s.data.toList else if isDig s[0] then numberL s.data.toList else if s[0] = 34 ∨ s[0] = 39 then literalL s[0] s.data.toList else signL s.data.toList := by
    conv => lhs; rw [hL]
    rw [pieceL_cons, ← hL]
  rw [hp]
  clear hp hL
  have k1 := fun w => lexinitial_any s[0] w
  have k2 := fun w => lexdigit_any s[0] w
  by_cases c1 : iniB s[0] = true
  · rw [if_pos c1]
    rw [c1] at k1
    have kn := fun w => name_any s hs w
    have hF := nameL_F s.data.toList
    generalize nameL s.data.toList = r at *
    have HX : Hid ((.int .i64 0 : Value) = .int .i64 (prF r)) := Lib.hid (by rw [hF])
    obtain ⟨a, b, c, ha⟩ := pr_shape r
    have kn : ∀ w, Calls Tryz.prog 41 #[.string s] w (fun e w' => e = .returned (.tuple #[.agg #[.int .u8 a, .int .i64 0, .string b, .float .f64 c], .int .i64 (prW r)]) ∧ Below w.heap.size w w') := fun w => (kn w).mono fun e w' h => ⟨by rw [h.1, ha], h.2⟩
    have HA := Lib.hid ha
    clear ha hF
    generalize hx : prW r = x at *
    have HW := Lib.hid hx
    clear hx
    have hst := store_f
    go_enter Tryz.func23, Tryz.ntmps23
    go_wp2_with (first | (go_at_call 40; refine (k1 _).mono ?_; rintro e w1 ⟨rfl, rfl⟩) | (go_at_call 41; refine (kn _).mono ?_; rintro e w1 ⟨rfl, h1⟩; obtain ⟨hc, hf⟩ := bcell h1; have hz := lt_after h1))
    refine piece_end (a := a) (b := b) (c := c) (x := x) rfl rfl rfl ?_ (piece3_ok HA.out.symm (by rw [HW.out]) HX.out ?_)
    · exact set4_blk (set4_blk (after_blk h1) _ _ _ _) _ _ _ _
    · exact set4 (set4 (after_alloc h1) (Nat.le_refl _) _ _ _ _) (Nat.le_refl _) _ _ _ _
  · rw [if_neg c1]
    rw [show iniB s[0] = false by simpa using c1] at k1
    by_cases c2 : isDig s[0] = true
    · rw [if_pos c2]
      have kn := fun w => number_any s h0 c2 hs w
      rw [c2] at k2
      have hF := numberL_F s.data.toList
      generalize numberL s.data.toList = r at *
      have HX : Hid ((.int .i64 0 : Value) = .int .i64 (prF r)) := Lib.hid (by rw [hF])
      obtain ⟨a, b, c, ha⟩ := pr_shape r
      have kn : ∀ w, Calls Tryz.prog 43 #[.string s] w (fun e w' => e = .returned (.tuple #[.agg #[.int .u8 a, .int .i64 0, .string b, .float .f64 c], .int .i64 (prW r)]) ∧ Below w.heap.size w w') := fun w => (kn w).mono fun e w' h => ⟨by rw [h.1, ha], h.2⟩
      have HA := Lib.hid ha
      clear ha hF
      generalize hx : prW r = x at *
      have HW := Lib.hid hx
      clear hx
      have hst := store_f
      go_enter Tryz.func23, Tryz.ntmps23
      go_wp2_with (first | (go_at_call 40; refine (k1 _).mono ?_; rintro e w1 ⟨rfl, rfl⟩) | (go_at_call 42; refine (k2 _).mono ?_; rintro e w1 ⟨rfl, rfl⟩) | (go_at_call 43; refine (kn _).mono ?_; rintro e w1 ⟨rfl, h1⟩; obtain ⟨hc, hf⟩ := bcell h1; have hz := lt_after h1))
      refine piece_end (a := a) (b := b) (c := c) (x := x) rfl rfl rfl ?_ (piece3_ok HA.out.symm (by rw [HW.out]) HX.out ?_)
      · exact set4_blk (set4_blk (after_blk h1) _ _ _ _) _ _ _ _
      · exact set4 (set4 (after_alloc h1) (Nat.le_refl _) _ _ _ _) (Nat.le_refl _) _ _ _ _
    · rw [if_neg c2]
      rw [show isDig s[0] = false by simpa using c2] at k2
      by_cases c3 : s[0] = 34 ∨ s[0] = 39
      · rw [if_pos c3]
        have kn := fun w => literal_any s s[0] h0 rfl hs w
        generalize literalL s[0] s.data.toList = r at *
        obtain ⟨a, b, c, ha⟩ := pr_shape r
        have kn : ∀ w, Calls Tryz.prog 44 #[.string s] w (fun e w' => e = .returned (.tuple #[.agg #[.int .u8 a, .int .i64 0, .string b, .float .f64 c], .int .i64 (prW r), .int .i64 (prF r)]) ∧ Below w.heap.size w w') := fun w => (kn w).mono fun e w' h => ⟨by rw [h.1, ha], h.2⟩
        have HA := Lib.hid ha
        clear ha
        generalize hx : prW r = x at *
        have HW := Lib.hid hx
        clear hx
        generalize hy : prF r = y at *
        have HY := Lib.hid hy
        clear hy
        have hst := store_f
        rcases c3 with c3 | c3
        all_goals
          first
          | have t3 : (((s[0].toNat : Nat) : Int) == 34) = true := by rw [c3]; rfl
          | have t3 : (((s[0].toNat : Nat) : Int) == 34) = false := by rw [c3]; rfl
          first
          | have t4 : (((s[0].toNat : Nat) : Int) == 39) = true := by rw [c3]; rfl
          | have t4 : (((s[0].toNat : Nat) : Int) == 39) = false := by rw [c3]; rfl
          clear c3
          go_enter Tryz.func23, Tryz.ntmps23
          go_wp2_with (first | (go_at_call 40; refine (k1 _).mono ?_; rintro e w1 ⟨rfl, rfl⟩) | (go_at_call 42; refine (k2 _).mono ?_; rintro e w1 ⟨rfl, rfl⟩) | (go_at_call 44; refine (kn _).mono ?_; rintro e w1 ⟨rfl, h1⟩; obtain ⟨hc, hf⟩ := bcell h1; have hz := lt_after h1))
          refine piece_end (a := a) (b := b) (c := c) (x := x) rfl rfl rfl ?_ (piece3_ok HA.out.symm (by rw [HW.out]) (by rw [HY.out]) ?_)
          · exact set4_blk (after_blk h1) _ _ _ _
          · exact set4 (after_alloc h1) (Nat.le_refl _) _ _ _ _
      · rw [if_neg c3]
        have t3 : (((s[0].toNat : Nat) : Int) == 34) = false := byte_nb rfl fun g => c3 (Or.inl g)
        have t4 : (((s[0].toNat : Nat) : Int) == 39) = false := byte_nb rfl fun g => c3 (Or.inr g)
        clear c3
        have kn := fun w => lexsign_any s h0 hs w
        have hF := signL_F s.data.toList
        generalize signL s.data.toList = r at *
        have HX : Hid ((.int .i64 0 : Value) = .int .i64 (prF r)) := Lib.hid (by rw [hF])
        obtain ⟨a, b, c, ha⟩ := pr_shape r
        have kn : ∀ w, Calls Tryz.prog 45 #[.string s] w (fun e w' => e = .returned (.tuple #[.agg #[.int .u8 a, .int .i64 0, .string b, .float .f64 c], .int .i64 (prW r)]) ∧ Below w.heap.size w w') := fun w => (kn w).mono fun e w' h => ⟨by rw [h.1, ha], h.2⟩
        have HA := Lib.hid ha
        clear ha hF
        generalize hx : prW r = x at *
        have HW := Lib.hid hx
        clear hx
        have hst := store_f
        go_enter Tryz.func23, Tryz.ntmps23
        go_wp2_with (first | (go_at_call 40; refine (k1 _).mono ?_; rintro e w1 ⟨rfl, rfl⟩) | (go_at_call 42; refine (k2 _).mono ?_; rintro e w1 ⟨rfl, rfl⟩) | (go_at_call 45; refine (kn _).mono ?_; rintro e w1 ⟨rfl, h1⟩; obtain ⟨hc, hf⟩ := bcell h1; have hz := lt_after h1))
        refine piece_end (a := a) (b := b) (c := c) (x := x) rfl rfl rfl ?_ (piece3_ok HA.out.symm (by rw [HW.out]) HX.out ?_)
        · exact set4_blk (set4_blk (after_blk h1) _ _ _ _) _ _ _ _
        · exact set4 (set4 (after_alloc h1) (Nat.le_refl _) _ _ _ _) (Nat.le_refl _) _ _ _ _
end Go.Proofs.YtablckajobefeaaGreatDoor.S
/-
  The tokens of a text: walk of package lex's Tokens.
-/
namespace Go.Proofs.YtablckajobefeaaGreatDoor.S
open Go.RowKit Fl

def tkC (t : Tk) : List Value := [.int .u8 (t.kind : Int), .int .i64 t.pos, .string t.text, .float .f64 t.num]
def tkCells (l : List Tk) : List Value := l.flatMap tkC
theorem tkCells_snoc (l : List Tk) (t : Tk) : tkCells (l ++ [t]) = tkCells l ++ tkC t := by unfold tkCells; rw [List.flatMap_append]; simp

/-- a slice of tokens of the call's own that holds the tokens l -/
def TB (B : Nat) (v : Value) (l : List Tk) (w0 w : World) : Prop := w.ownsRow B 52 4 v l.length (tkCells l) ∧ Below B w0 w ∧ B ≤ w.heap.size
theorem tb_nil (w : World) : TB w.heap.size (.slice none 0 0) [] w w := ⟨World.ownsRow_nil _ _ _ _, Below.refl _ _, Nat.le_refl _⟩
theorem tb_up {B : Nat} {v : Value} {l : List Tk} {w0 w w' : World} (h : TB B v l w0 w) (hb : Below w.heap.size w w') : TB B v l w0 w' :=
  ⟨h.1.kept (row := none) ⟨hb.os, hb.tape, hb.output, hb.size, fun k hk _ => hb.block k hk⟩ (by
    rcases h.1.2 with ⟨rfl, _⟩ | ⟨g, cap, cur, rfl, _⟩
    · exact Or.inl rfl
    · exact Or.inr (by simp [Value.ownBlock])), h.2.1.trans (hb.mono h.2.2), Nat.le_trans h.2.2 hb.size⟩
theorem tb_alloc {B : Nat} {v : Value} {l : List Tk} {w0 w : World} (h : TB B v l w0 w) (o : Obj) : TB B v l w0 (w.alloc o) := tb_up h (zero_alloc w o)
theorem tb_shape {B : Nat} {v : Value} {l : List Tk} {w0 w : World} (h : TB B v l w0 w) : ∃ A cap, v = .slice A l.length cap := by
  rcases h.1.2 with ⟨rfl, h1⟩ | ⟨g, cap, cur, rfl, _⟩
  · exact ⟨none, 0, by rw [h1]⟩
  · exact ⟨_, cap, rfl⟩

theorem tk_info : (Tryz.prog.info? 52).map (fun i => (i.zero, i.size, i.bytes)) = some (some (.agg #[.int .u8 0, .int .i64 0, .string ⟨#[]⟩, .float .f64 0]), 4, 40) := by kernel_rfl
theorem tk_app {ops : Array Oper} {rest : List Oper} {o : Oper} {a : Act} {Q : Exit → Act → World → Prop} (hgd : o.guard = none) (s x : Operand)
    (ho : o.op = .call { callee := .builtin .append, args := #[s, x], argTypes := #[46, 46] })
    {B : Nat} {v : Value} {l : List Tk} {w0 wr : World} (h : TB B v l w0 wr) (hs : a.eval s = v) (t : Tk) (k p : Int) (b : ByteArray) (n : Nat) (hk : k = (t.kind : Int)) (hp : p = t.pos) (hb : b = t.text) (hn : n = t.num) (hx : a.eval x = .slice (some ⟨wr.heap.size, 0, none⟩) 1 1)
    (hl : l.length ≤ 70000)
    (kk : ∀ v' w', TB B v' (l ++ [t]) w0 w' → wpList Tryz.prog ops Q rest (a.put o.dst v') w') : wpList Tryz.prog ops Q (o :: rest) a (wr.alloc (.cells #[.int .u8 k, .int .i64 p, .string b, .float .f64 n] 52)) := by
  subst hk hp hb hn
  obtain ⟨i0, hi, hz0, hz1, hz2⟩ := info_parts tk_info
  refine wpList_append_own _ hgd s x 46 ho B 52 i0 (.agg #[.int .u8 0, .int .i64 0, .string ⟨#[]⟩, .float .f64 0]) 4 40 Tryz.underlying46 hi hz0 hz1 hz2 rfl (by decide) v l.length (tkCells l) hs (tb_alloc h _).1 ⟨wr.heap.size, 0, none⟩ 1 1 (tkC t) hx rfl ?_ ?_ ?_ ?_ ?_ ?_
  · intro j u hj
    have hblk : (wr.alloc (.cells #[.int .u8 (t.kind : Int), .int .i64 t.pos, .string t.text, .float .f64 t.num] 52)).heap[wr.heap.size]? = some (.cells #[.int .u8 (t.kind : Int), .int .i64 t.pos, .string t.text, .float .f64 t.num] 52 (0, 0)) := heap_alloc_new wr _
    have := blk_cell hblk j
    have e : (⟨wr.heap.size, 0, none⟩ : Addr).add j = ⟨wr.heap.size, j, none⟩ := by unfold Addr.add; split <;> simp_all
    rw [e, this, ← hj]
    match j with
    | 0 => rfl
    | 1 => rfl
    | 2 => rfl
    | 3 => rfl
    | j + 4 => rfl
  · intro u hu; simp [tkC] at hu; rcases hu with rfl | rfl | rfl | rfl <;> rfl
  · unfold maxLen; omega
  · omega
  · exact (tb_alloc h _).2.2
  · intro v' w' hown hgrow _
    refine kk v' w' ⟨?_, ?_, ?_⟩
    · rw [tkCells_snoc, List.length_append]; exact hown
    · exact (tb_alloc h _).2.1.grown hgrow (tb_alloc h _).2.2 (fun k hk => ((tb_alloc h (.cells #[.int .u8 (t.kind : Int), .int .i64 t.pos, .string t.text, .float .f64 t.num] 52)).1.lt k hk).1)
    · exact Nat.le_trans (tb_alloc h _).2.2 hgrow.size

def TokTo (r : TR) (w : World) (e : Ending) (w' : World) : Prop :=
  match r with
  | .ok l => ∃ v, e = .returned (.tuple #[v, .int .i64 0, .int .i64 0]) ∧ TB w.heap.size v l w w'
  | .err a k => e = .returned (.tuple #[.slice none 0 0, .int .i64 a, .int .i64 k]) ∧ Below w.heap.size w w'
theorem tok_err {r : TR} {a k : Int} {w w' : World} {e : Ending} (hr : Hid (.err a k = r)) (h : e = .returned (.tuple #[.slice none 0 0, .int .i64 a, .int .i64 k])) (hb : Below w.heap.size w w') : TokTo r w e w' := by rw [← hr.out, h]; exact ⟨rfl, hb⟩
theorem tok_ok {r : TR} {l : List Tk} {v : Value} {w w' : World} {e : Ending} (hr : Hid (.ok l = r)) (h : e = .returned (.tuple #[v, .int .i64 0, .int .i64 0])) (hb : TB w.heap.size v l w w') : TokTo r w e w' := by rw [← hr.out]; exact ⟨v, h, hb⟩

theorem pieceL_fault {l : List UInt8} {k : Int} (h : pieceL l = .bad k) : 0 ≤ k ∧ k ≤ l.length + 1 := by
  cases l with
  | nil => cases h; simp
  | cons c r =>
    rw [pieceL_cons] at h
    split at h
    · have := nameL_F (c :: r); rw [h] at this; have e : k = 0 := this; subst e; simp; omega
    · split at h
      · have := numberL_F (c :: r); rw [h] at this; have e : k = 0 := this; subst e; simp; omega
      · split at h
        · unfold literalL at h
          split at h
          · cases h; simp; omega
          · rename_i e he
            have hat := plainO_at (mkB (((c :: r).drop 1).take (e - 1)))
            rw [mkB_size, List.length_take] at hat
            generalize plainO (mkB (((c :: r).drop 1).take (e - 1))) = q at *
            unfold plainP at h
            split at h
            · cases h
            · split at h <;> cases h
              · simp at hat ⊢; omega
              · simp; omega
        · have := signL_F (c :: r); rw [h] at this; have e : k = 0 := this; subst e; simp; omega
theorem wide_here {s : ByteArray} {p k : Nat} {t : ByteArray} {n wd : Nat} (hp : p < s.size) (h : pieceL (s.data.toList.drop p) = .tok k t n wd) : 1 ≤ wd ∧ p + wd ≤ s.size := by
  have := pieceL_wide h
  rw [List.length_drop, ← size_len] at this
  omega

set_option maxHeartbeats 2000000 in
theorem Tokens_any (s : ByteArray) (hs : s.size ≤ 70000) (w : World) : Calls Tryz.prog 16 #[.string s] w (TokTo (toks s.data.toList) w) := by
  have hl : s.data.toList.length = s.size := (size_len s).symm
  have b0 := tb_nil w
  unfold toks
  rw [hl]
  by_cases hb : s.size > 65536
  · rw [if_pos hb]
    go_enter Tryz.func16, Tryz.ntmps16
    go_wp2
    go_ret3
    exact ⟨rfl, Below.refl _ _⟩
  · rw [if_neg hb]
    generalize hR : toksF (s.size + 1) 0 s.data.toList [] = R
    have HR := Lib.hid hR
    clear hR hl
    go_enter Tryz.func16, Tryz.ntmps16
    go_wp2_with (fail)
    go_loopw [5, 6] (fun v i wr => ∃ (k f : Nat) (acc : List Tk), i = .int .i64 k ∧ k ≤ s.size ∧ Hid (TB w.heap.size v acc w wr) ∧ Hid (toksF (f + 1) k (s.data.toList.drop k) acc = R) ∧ s.size ≤ k + f ∧ acc.length ≤ k) (fun _ i _ => s.size - (intOf i).toNat)
    case atStart => exact ⟨0, s.size, [], rfl, Nat.zero_le _, Lib.hid b0, HR, by omega, Nat.le_refl _⟩
    case round =>
      obtain ⟨k, f, acc, rfl, hk, h1, H, hf, hal⟩ := hrel
      clear HR b0
      obtain ⟨A, cap, hv⟩ := tb_shape h1.out
      subst hv
      have kp := fun w => pass_any s k w hs hk
      have hle := passM_le (s.data.toList.drop k) 0 k k (Nat.le_refl _)
      have hge := passM_ge (s.data.toList.drop k) 0 k k
      rw [List.length_drop, ← size_len] at hle
      obtain ⟨⟨p, b⟩, hpq⟩ : ∃ x, passM 0 k k (s.data.toList.drop k) = x := ⟨_, rfl⟩
      rw [hpq] at kp hle hge
      dsimp only at hle hge
      have kp : ∀ w, Calls Tryz.prog 22 #[.string s, .int .i64 (k : Int)] w (fun e w' => e = .returned (.tuple #[.int .i64 (p : Int), .bool b]) ∧ w = w') := kp
      cases b with
      | false =>
        have H2 := Lib.hid ((toks_stop hpq).symm.trans H.out)
        clear H hpq hge
        go_wp2_with (go_at_call 22; refine (kp _).mono ?_; rintro e w1 ⟨rfl, rfl⟩)
        go_ret3
        exact tok_err H2 rfl h1.out.2.1
      | true =>
        have hkp := hge rfl
        have hps : p ≤ s.size := by omega
        clear hge hle
        by_cases hend : p = s.size
        · subst hend
          have H2 := Lib.hid ((toks_end hkp hpq (by rw [← size_len]; exact Nat.le_refl _)).symm.trans H.out)
          clear H hpq
          go_wp2_with (first
            | (go_at_call 22; refine (kp _).mono ?_; rintro e w1 ⟨rfl, rfl⟩)
            | (at_builtin; refine tk_app rfl _ _ rfl (h1.out) rfl ⟨0, (s.size : Int), ⟨#[]⟩, 0⟩ _ _ _ _ rfl rfl rfl rfl rfl (by omega) ?_; intro v' w' h3))
          go_ret3
          exact tok_ok H2 rfl h3
        · have hp1 : p < s.size := by omega
          have hpn : ¬ (p : Int) = (s.size : Int) := by omega
          have hL : p < s.data.toList.length := by rw [← size_len]; exact hp1
          have kq := fun w => piece_any (s.extract p s.size) (by simp; omega) (by simp; omega) w
          rw [tail_list] at kq
          have hwide := fun kd t n wd h => wide_here (k := kd) (t := t) (n := n) (wd := wd) hp1 h
          have hfault := fun j h => pieceL_fault (l := s.data.toList.drop p) (k := j) h
          rw [List.length_drop, ← size_len] at hfault
          cases hr : pieceL (s.data.toList.drop p) with
          | bad j =>
            rw [hr] at kq
            obtain ⟨hj1, hj2⟩ := hfault j hr
            have kq : ∀ w, Calls Tryz.prog 23 #[.string (s.extract p s.size)] w (fun e w' => e = .returned (.tuple #[.agg #[.int .u8 0, .int .i64 0, .string ⟨#[]⟩, .float .f64 0], .int .i64 0, .int .i64 j]) ∧ Below w.heap.size w w') := kq
            have H2 := Lib.hid ((toks_bad hkp hpq hL hr).symm.trans H.out)
            have hj3 : (p : Int) + j ≤ 200000 := by omega
            clear H hpq hL hr hwide hfault hend hj2
            have hst := store_f
            go_wp2_with (first
              | (go_at_call 22; refine (kp _).mono ?_; rintro e w1 ⟨rfl, rfl⟩)
              | (go_at_call 23; refine (kq _).mono ?_; rintro e w1 ⟨rfl, hq1⟩; have HQ1 := Lib.hid hq1; clear hq1))
            go_ret3
            exact tok_err H2 rfl (((h1.out.2.1.trans (HQ1.out.mono h1.out.2.2))).alloc (Nat.le_trans h1.out.2.2 HQ1.out.size) _)
          | tok kd t n wd =>
            rw [hr] at kq
            obtain ⟨hw1, hw2⟩ := hwide kd t n wd hr
            have kq : ∀ w, Calls Tryz.prog 23 #[.string (s.extract p s.size)] w (fun e w' => e = .returned (.tuple #[.agg #[.int .u8 (kd : Int), .int .i64 0, .string t, .float .f64 n], .int .i64 (wd : Int), .int .i64 0]) ∧ Below w.heap.size w w') := kq
            have hw0 : ¬ (wd : Int) = 0 := by omega
            by_cases hm : acc.length = 16384
            · have H2 := Lib.hid ((toks_many hkp hpq hL hr hm).symm.trans H.out)
              have hmi : (acc.length : Int) = 16384 := by omega
              clear H hpq hL hr hwide hfault hend hm
              have hst := store_f
              go_wp2_with (first
                | (go_at_call 22; refine (kp _).mono ?_; rintro e w1 ⟨rfl, rfl⟩)
                | (go_at_call 23; refine (kq _).mono ?_; rintro e w1 ⟨rfl, hq1⟩; have HQ1 := Lib.hid hq1; clear hq1))
              go_ret3
              exact tok_err H2 rfl (((h1.out.2.1.trans (HQ1.out.mono h1.out.2.2))).alloc (Nat.le_trans h1.out.2.2 HQ1.out.size) _)
            · obtain ⟨g, rfl⟩ : ∃ g, f = g + 1 := ⟨f - 1, by omega⟩
              have H2 := Lib.hid ((toks_step hkp hpq hL hr hm).symm.trans H.out)
              have hmi : ¬ (acc.length : Int) = 16384 := by omega
              clear H hpq hL hr hwide hfault hend hm
              have hst := store_f
              go_wp2_with (first
                | (go_at_call 22; refine (kp _).mono ?_; rintro e w1 ⟨rfl, rfl⟩)
                | (go_at_call 23; refine (kq _).mono ?_; rintro e w1 ⟨rfl, hq1⟩; have h2 := Lib.hid (tb_up h1.out hq1); clear hq1)
                | (at_builtin; refine tk_app rfl _ _ rfl (tb_alloc h2.out _) rfl ⟨kd, (p : Int), t, n⟩ _ _ _ _ rfl rfl rfl rfl (by simp [Act.eval]) (by omega) ?_; intro v' w' h3))
              go_roundw
              case rel => exact ⟨p + wd, g, acc ++ [⟨kd, p, t, n⟩], by go_num, by omega, Lib.hid h3, H2, by omega, by simp; omega⟩
              case measure => simp [intOf]; omega
end Go.Proofs.YtablckajobefeaaGreatDoor.S
/-
  The numbers of a text's tokens are no NaN.
-/
namespace Go.Proofs.YtablckajobefeaaGreatDoor.S
open Go.RowKit Fl

def numOk (x : Nat) : Prop := FloatKind.f64.format.order x x = some .eq
end Go.Proofs.YtablckajobefeaaGreatDoor.S
/-
  What every statement of the chapter begins with: five tokens.
-/
namespace Go.Proofs.YtablckajobefeaaGreatDoor.S
open Go.RowKit Fl

def aliveT : List Tk := [⟨2, 0, ⟨#[108, 101, 116]⟩, 0⟩, ⟨1, 4, ⟨#[120]⟩, 0⟩, ⟨5, 5, ⟨#[61]⟩, 0⟩, ⟨3, 6, ⟨#[]⟩, 4607182418800017408⟩, ⟨5, 7, ⟨#[59]⟩, 0⟩, ⟨0, 8, ⟨#[]⟩, 0⟩]
theorem eq_float (d : Nat) (a b : Nat) (w : World) : (Op.equalIn (d + 1) 41 (.float .f64 a) (.float .f64 b)).run Tryz.prog w = .ok (FloatKind.f64.format.order a b == some .eq) w := by
  simp [Op.equalIn, run_underlying Tryz.underlying41]; rfl
theorem eq_float1 (w : World) : (Op.equalIn 9999 41 (.float .f64 4607182418800017408) (.float .f64 4607182418800017408)).run Tryz.prog w = .ok true w := eq_float 9998 _ _ w
end Go.Proofs.YtablckajobefeaaGreatDoor.S
/-
  LexOne: a name, a word, a sign is one token: walks.
-/
namespace Go.Proofs.YtablckajobefeaaGreatDoor.S
open Go.RowKit Fl

/-- is a text a name, or a word? -/
def nameB (l : List UInt8) : Bool := decide (0 < l.length) && decide (l.length ≤ 4096) && (match l with | [] => false | c :: _ => decide (c.toNat < 48) || decide (57 < c.toNat)) && l.all innB

end Go.Proofs.YtablckajobefeaaGreatDoor.S
