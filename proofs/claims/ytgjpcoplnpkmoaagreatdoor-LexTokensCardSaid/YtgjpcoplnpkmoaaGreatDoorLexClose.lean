/-
  The quote that ends a string: walks of package lex.
-/
import Derived.Test.YtgjpcoplnpkmoaaGreatDoorLexPass
namespace Go.Proofs.YtgjpcoplnpkmoaaGreatDoor.S
open Go.RowKit Fl

def optI : Option Nat → Int
  | some k => (k : Int)
  | none => -1
def closeTo (r : Option Nat) (w : World) (e : Ending) (w' : World) : Prop := e = .returned (.int .i64 (optI r)) ∧ w = w'
theorem ret_close {r q : Option Nat} {m : Int} {w : World} (h : Hid (q = r)) (hm : m = optI q) : closeTo r w (.returned (.int .i64 m)) w := by rw [← h.out, hm]; exact ⟨rfl, rfl⟩

section
variable (s : ByteArray) (q : UInt8) (t : Bool) (k : Nat)
theorem close_over (h : ¬ k < s.size) : closeL q t k (s.data.toList.drop k) = none := by rw [drop_over s k h]; rfl
theorem close_nl (h : k < s.size) (hn : s[k] = 10 ∨ s[k] = 13) : closeL q t k (s.data.toList.drop k) = none := by
  rw [drop_get s k h]; unfold closeL; rw [if_pos hn]
theorem close_taken (h : k < s.size) (hn : ¬ (s[k] = 10 ∨ s[k] = 13)) : closeL q true k (s.data.toList.drop k) = closeL q false (k + 1) (s.data.toList.drop (k + 1)) := by
  rw [drop_get s k h]; conv => lhs; unfold closeL
  rw [if_neg hn, if_pos rfl]
theorem close_back (h : k < s.size) (hn : ¬ (s[k] = 10 ∨ s[k] = 13)) (hb : s[k] = 92) : closeL q false k (s.data.toList.drop k) = closeL q true (k + 1) (s.data.toList.drop (k + 1)) := by
  rw [drop_get s k h]; conv => lhs; unfold closeL
  rw [if_neg hn, if_neg (by decide), if_pos hb]
theorem close_here (h : k < s.size) (hn : ¬ (s[k] = 10 ∨ s[k] = 13)) (hb : ¬ s[k] = 92) (hq : s[k] = q) : closeL q false k (s.data.toList.drop k) = some k := by
  rw [drop_get s k h]; unfold closeL
  rw [if_neg hn, if_neg (by decide), if_neg hb, if_pos hq]
theorem close_on (h : k < s.size) (hn : ¬ (s[k] = 10 ∨ s[k] = 13)) (hb : ¬ s[k] = 92) (hq : ¬ s[k] = q) : closeL q false k (s.data.toList.drop k) = closeL q false (k + 1) (s.data.toList.drop (k + 1)) := by
  rw [drop_get s k h]; conv => lhs; unfold closeL
  rw [if_neg hn, if_neg (by decide), if_neg hb, if_neg hq]
end
theorem byte_nb {c : UInt8} {n : Nat} {d : UInt8} (hd : d.toNat = n) (h : ¬ c = d) : (((c.toNat : Nat) : Int) == (n : Int)) = false := by rw [beq_eq_false_iff_ne]; exact byte_ne hd h
theorem byte_eq {c d : UInt8} : ((c.toNat : Nat) : Int) = ((d.toNat : Nat) : Int) ↔ c = d := ⟨fun h => UInt8.toNat_inj.1 (by omega), fun h => by rw [h]⟩

set_option maxHeartbeats 1000000 in
theorem closing_any (s : ByteArray) (q : UInt8) (h0 : 0 < s.size) (hq0 : s[0] = q) (hs : s.size ≤ 9223372036854775807) (w : World) :
    Calls Tryz.prog 123 #[.string s] w (closeTo (closeL q false 1 (s.data.toList.drop 1)) w) := by
  generalize hR : closeL q false 1 (s.data.toList.drop 1) = R
  have HR := Lib.hid hR
  have HQ := Lib.hid hq0
  clear hR hq0
  go_enter Tryz.func123, Tryz.ntmps123
  go_wp2_with (fail)
  go_loop [3, 4] (fun t i => ∃ (k : Nat) (b : Bool), 1 ≤ k ∧ k ≤ s.size ∧ t = .bool b ∧ i = .int .i64 k ∧ Hid (closeL q b k (s.data.toList.drop k) = R)) (fun _ i => s.size - (intOf i).toNat)
  case atStart => exact ⟨1, false, Nat.le_refl _, h0, rfl, rfl, HR⟩
  case round =>
    clear HR
    obtain ⟨k, b, hk1, hk, rfl, rfl, H⟩ := hrel
    by_cases hlt : k < s.size
    · by_cases hn : s[k] = 10 ∨ s[k] = 13
      · have H2 := Lib.hid ((close_nl s q b k hlt hn).symm.trans H.out)
        clear H HQ
        rcases hn with hn | hn
        · have t1 : ((s[k].toNat : Nat) : Int) = 10 := by rw [hn]; rfl
          clear hn
          go_wp2
          go_ret
          exact ret_close H2 rfl
        · have t1 : ((s[k].toNat : Nat) : Int) = 13 := by rw [hn]; rfl
          clear hn
          go_wp2
          go_ret
          exact ret_close H2 rfl
      · have t1 : (((s[k].toNat : Nat) : Int) == 10) = false := byte_nb rfl fun g => hn (Or.inl g)
        have t2 : (((s[k].toNat : Nat) : Int) == 13) = false := byte_nb rfl fun g => hn (Or.inr g)
        cases b with
        | true =>
          have H2 := Lib.hid ((close_taken s q k hlt hn).symm.trans H.out)
          clear H HQ hn
          go_wp2
          go_round
          case rel => exact ⟨k + 1, false, by omega, by omega, rfl, by go_num, H2⟩
          case measure => simp [intOf]; omega
        | false =>
          by_cases hb : s[k] = 92
          · have H2 := Lib.hid ((close_back s q k hlt hn hb).symm.trans H.out)
            have t3 : ((s[k].toNat : Nat) : Int) = 92 := by rw [hb]; rfl
            clear H HQ hn hb t1 t2
            go_wp2
            go_round
            case rel => exact ⟨k + 1, true, by omega, by omega, rfl, by go_num, H2⟩
            case measure => simp [intOf]; omega
          · have t3 : (((s[k].toNat : Nat) : Int) == 92) = false := byte_nb rfl hb
            by_cases hq : s[k] = q
            · have H2 := Lib.hid ((close_here s q k hlt hn hb hq).symm.trans H.out)
              have t4 : (((s[k].toNat : Nat) : Int) == ((s[0].toNat : Nat) : Int)) = true := by rw [hq, HQ.out]; simp
              clear H HQ hn hb hq
              go_wp2
              go_ret
              exact ret_close H2 rfl
            · have H2 := Lib.hid ((close_on s q k hlt hn hb hq).symm.trans H.out)
              have t4 : (((s[k].toNat : Nat) : Int) == ((s[0].toNat : Nat) : Int)) = false := by
                rw [HQ.out, beq_eq_false_iff_ne, ne_eq, byte_eq]; exact hq
              clear H HQ hn hb hq
              go_wp2
              go_round
              case rel => exact ⟨k + 1, false, by omega, by omega, rfl, by go_num, H2⟩
              case measure => simp [intOf]; omega
    · have H2 := Lib.hid ((close_over s q b k hlt).symm.trans H.out)
      clear H HQ
      go_wp2
      go_ret
      exact ret_close H2 rfl
end Go.Proofs.YtgjpcoplnpkmoaaGreatDoor.S
