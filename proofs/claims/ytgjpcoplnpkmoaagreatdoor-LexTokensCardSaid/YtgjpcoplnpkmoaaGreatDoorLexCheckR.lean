/-
  Which tokens may be, and their text: the document's own: walks.
-/
import Derived.Test.YtgjpcoplnpkmoaaGreatDoorLexOneW
import Derived.Test.YtgjpcoplnpkmoaaGreatDoorStrPlainRef
import Derived.Lib.AppendStr
import Derived.IntWalk
namespace Go.Proofs.YtgjpcoplnpkmoaaGreatDoor.S
open Go.RowKit Fl

/-- the last token is an end -/
def EndP (t : Tk) : Prop := t.kind = 0 ∧ t.text = ⟨#[]⟩ ∧ zeroP t.num
theorem may_last {l : List Tk} (h : MayP l) (hl : l.length - 1 < l.length) : EndP l[l.length - 1] := by
  obtain ⟨b, e, rfl, _, h2, h3, h4⟩ := (may_iff l).1 h
  have : (b ++ [e])[(b ++ [e]).length - 1] = e := by simp
  rw [this]; exact ⟨h2, h3, h4⟩
theorem may_one {l : List Tk} (h : MayP l) (k : Nat) (hk : k + 1 < l.length) : OneP l[k] := by
  obtain ⟨p, q⟩ := may_at h k (by omega)
  exact ⟨p, fun e => by have := q.1 e; omega⟩
def PreO (l : List Tk) (k : Nat) : Prop := ∀ (j : Nat) (hj : j < l.length), j < k → OneP l[j]
theorem pre_may {l : List Tk} (hl : l.length - 1 < l.length) (h : PreO l (l.length - 1)) (he : EndP l[l.length - 1]) : MayP l := by
  refine (may_iff l).2 ⟨l.dropLast, l[l.length - 1], ?_, ?_, he.1, he.2.1, he.2.2⟩
  · have h0 : l ≠ [] := fun e => by rw [e] at hl; simp at hl
    have := List.dropLast_concat_getLast h0
    rw [List.getLast_eq_getElem] at this
    exact this.symm
  · intro t ht
    obtain ⟨j, hj⟩ := List.getElem?_of_mem ht
    obtain ⟨hlt, he⟩ := List.getElem?_eq_some_iff.1 hj
    rw [List.length_dropLast] at hlt
    rw [← he, List.getElem_dropLast]
    exact h j (by omega) hlt

set_option maxHeartbeats 4000000 in
set_option maxRecDepth 1000000 in
theorem check_any (l : List Tk) (A : Option Addr) (cap : Nat) (w : World) (hr : RdA w A l) (hin : ∀ t ∈ l, TkIn t) (hl : l.length ≤ 16385) (k : Int) (hk : (MayP l ∧ k = 0) ∨ (¬ MayP l ∧ k = 5)) :
    Calls Tryz.prog 34 #[.slice A l.length cap] w fun e w' => e = .returned (.int .i64 k) ∧ Below w.heap.size w w' := by
  have HR := Lib.hid hr
  have HIN := Lib.hid hin
  have HK := Lib.hid hk
  clear hr hin hk
  have no : ¬ MayP l → k = 5 := fun h => by rcases HK.out with ⟨h1, _⟩ | ⟨_, h2⟩; exact absurd h1 h; exact h2
  have yes : MayP l → k = 0 := fun h => by rcases HK.out with ⟨_, h1⟩ | ⟨h2, _⟩; exact h1; exact absurd h h2
  have NO := Lib.hid no
  have YES := Lib.hid yes
  clear no yes HK
  by_cases h0 : l.length = 0
  · have hk5 := NO.out (fun h => h.1 (List.length_eq_zero_iff.1 h0))
    subst hk5
    have hl0 : l = [] := List.length_eq_zero_iff.1 h0
    subst hl0
    clear h0 YES NO HIN HR
    go_enter Tryz.func34, Tryz.ntmps34
    go_wp2
    go_ret
    exact ⟨rfl, Below.refl _ _⟩
  · have hpos : l.length - 1 < l.length := by omega
    obtain ⟨a, rfl, hab, a0, a1, a2, a3⟩ := rda_cells HR.out (l.length - 1) hpos
    have q0 : ((l.length : Int) == 0) = false := by rw [beq_eq_false_iff_ne]; omega
    have q1 : (0 : Int) < (l.length : Int) := by omega
    have q2 : (1 : Int) ≤ (l.length : Int) := by omega
    have hti := (HIN.out l[l.length - 1] (List.getElem_mem _))
    by_cases he : EndP l[l.length - 1]
    · have hpm := fun h => pre_may (l := l) hpos h he
      obtain ⟨e1, e2, e3⟩ := he
      have hz : (FloatKind.f64.format.order (l[l.length - 1]).num 0 == some .eq) = true := zrB_iff.2 e3
      have hz2 : (FloatKind.f64.format.order (l[l.length - 1]).num 0 != some .eq) = false := by rw [bne, hz]; rfl
      rw [e1] at a0
      rw [e2] at a2
      have HPM := Lib.hid hpm
      clear e1 e2 e3 hpm hti
      generalize l[l.length - 1] = t at *
      go_enter Tryz.func34, Tryz.ntmps34
      go_wp2_with (fail)
      go_loopw [4] (fun i wr => ∃ j : Nat, j + 1 ≤ l.length ∧ i = .int .i64 j ∧ Hid (Below w.heap.size w wr ∧ PreO l j)) (fun i _ => l.length - (intOf i).toNat)
      case atStart => exact ⟨0, by omega, rfl, Lib.hid ⟨Below.refl _ _, fun j hj h => by omega⟩⟩
      case round =>
        obtain ⟨j, hj, rfl, H⟩ := hrel
        clear a0 a1 a2 a3
        by_cases hlt : j + 1 < l.length
        · have hjl : j < l.length := by omega
          have hlt' : (j : Int) < (l.length : Int) - 1 := by omega
          obtain ⟨b, hb, hbb, b0, b1, b2, b3⟩ := rda_cells (rda_up HR.out H.out.1) j hjl
          injection hb with hb; subst hb
          have hti := HIN.out l[j] (List.getElem_mem _)
          by_cases ho : OneP l[j]
          · have ko := one_any l[j] hti true ⟨fun _ => ho, fun _ => rfl⟩
            have hpre : PreO l (j + 1) := fun i hi hlt2 => by
              by_cases c : i = j
              · subst c; exact ho
              · exact H.out.2 i hi (by omega)
            have HP := Lib.hid hpre
            have HB := Lib.hid H.out.1
            clear H ho hpre hti
            generalize l[j] = u at *
            go_wp2_with (go_at_call 55; refine (ko _).mono ?_; rintro e w1 ⟨rfl, h1⟩; have H1 := Lib.hid (below_up HB.out h1); clear h1)
            go_roundw
            case rel => exact ⟨j + 1, hlt, by go_num, Lib.hid ⟨H1.out, HP.out⟩⟩
            case measure => simp [intOf]; omega
          · have ko := one_any l[j] hti false ⟨fun h => (by cases h), fun h => absurd h ho⟩
            have hk5 := NO.out (fun h => ho (may_one h j hlt))
            subst hk5
            have HB := Lib.hid H.out.1
            clear H ho hti NO YES HPM
            generalize l[j] = u at *
            go_wp2_with (go_at_call 55; refine (ko _).mono ?_; rintro e w1 ⟨rfl, h1⟩; have H1 := Lib.hid (below_up HB.out h1); clear h1)
            go_ret
            exact ⟨rfl, H1.out⟩
        · have hk0 := YES.out (HPM.out (by have := H.out.2; rw [show j = l.length - 1 by omega] at this; exact this))
          subst hk0
          have hlt' : ¬ (j : Int) < (l.length : Int) - 1 := by omega
          clear NO YES HPM
          go_wp2
          go_ret
          exact ⟨rfl, H.out.1⟩
    · have hk5 := NO.out (fun h => he (may_last h hpos))
      subst hk5
      have hz : (FloatKind.f64.format.order (l[l.length - 1]).num 0 == some .eq) = zrB (l[l.length - 1]).num := rfl
      clear YES NO HIN HR
      generalize l[l.length - 1] = t at *
      obtain ⟨kd, p, s, n⟩ := t
      dsimp only at a0 a1 a2 a3 hz
      unfold EndP at he
      dsimp only at he
      by_cases c1 : kd = 0
      · subst c1
        rcases emp_or s with rfl | ⟨_, h1, h2⟩
        · cases hc : zrB n with
          | true => exact absurd ⟨rfl, rfl, zrB_iff.1 hc⟩ he
          | false =>
            rw [hc] at hz
            have hz2 : (FloatKind.f64.format.order n 0 != some .eq) = true := by rw [bne, hz]; rfl
            clear he hc
            go_enter Tryz.func34, Tryz.ntmps34
            go_wp2
            go_ret
            exact ⟨rfl, Below.refl _ _⟩
        · clear he hz
          go_enter Tryz.func34, Tryz.ntmps34
          go_wp2
          go_ret
          exact ⟨rfl, Below.refl _ _⟩
      · have u0 : ((kd : Int) != 0) = true := by rw [bne_iff_ne]; omega
        clear he hz
        go_enter Tryz.func34, Tryz.ntmps34
        go_wp2
        go_ret
        exact ⟨rfl, Below.refl _ _⟩

theorem check_many (l : List Tk) (A : Option Addr) (cap : Nat) (w : World) (hl : 16385 < l.length) (hl2 : l.length ≤ 100000) :
    Calls Tryz.prog 34 #[.slice A l.length cap] w fun e w' => e = .returned (.int .i64 4) ∧ Below w.heap.size w w' := by
  have hl' : 16385 < (l.length : Int) := by omega
  go_enter Tryz.func34, Tryz.ntmps34
  go_wp2
  go_ret
  exact ⟨rfl, Below.refl _ _⟩

/-! ### a row of bytes, strings put behind -/
theorem sb_up {B : Nat} {v : Value} {l : List UInt8} {w0 w w' : World} (h : SB B v l w0 w) (hb : Below w.heap.size w w') : SB B v l w0 w' :=
  ⟨h.1.kept (row := none) ⟨hb.os, hb.tape, hb.output, hb.size, fun k hk _ => hb.block k hk⟩ (by
    rcases h.1.2 with ⟨rfl, _⟩ | ⟨g, cap, cur, rfl, _⟩
    · exact Or.inl rfl
    · exact Or.inr (by simp [Value.ownBlock])), h.2.1.trans (hb.mono h.2.2), Nat.le_trans h.2.2 hb.size⟩
theorem sb_slice {B : Nat} {v : Value} {l : List UInt8} {w0 w : World} (h : SB B v l w0 w) : ∃ A cap, v = .slice A l.length cap := by
  rcases h.1.2 with ⟨rfl, h1⟩ | ⟨g, cap, cur, rfl, _⟩
  · exact ⟨none, 0, by rw [h1]⟩
  · exact ⟨_, cap, rfl⟩
theorem sb_str {ops : Array Oper} {rest : List Oper} {o : Oper} {a : Act} {Q : Exit → Act → World → Prop} (hgd : o.guard = none) (s x : Operand)
    (ho : o.op = .call { callee := .builtin .append, args := #[s, x], argTypes := #[31, 9] })
    {B : Nat} {v : Value} {l : List UInt8} {w0 wr : World} (h : SB B v l w0 wr) (hs : a.eval s = v) (t : ByteArray) (hx : a.eval x = .string t)
    (hl : l.length + t.size ≤ 140737488355328)
    (k : ∀ v' w', SB B v' (l ++ t.data.toList) w0 w' → wpList Tryz.prog ops Q rest (a.put o.dst v') w') : wpList Tryz.prog ops Q (o :: rest) a wr := by
  obtain ⟨i0, hi, hz0, hz1, hz2⟩ := info_parts (P := Tryz.prog) (e := 5) (z := .int .u8 0) (size := 1) (bytes := 1) (by kernel_rfl)
  refine Lib.wpList_append_own_string _ hgd s x 31 9 ho B 5 i0 Tryz.underlying31 Tryz.underlying9 hi hz0 hz1 hz2 v l.length (Lib.byteCells l) hs h.1 t hx (by unfold maxLen; omega) hl h.2.2 ?_
  intro v' w' hown hgrow _
  refine k v' w' ⟨?_, ?_, ?_⟩
  · rw [Lib.byteCells_append, List.length_append, ← size_len, ← Lib.strCells_eq]; exact hown
  · exact h.2.1.grown hgrow h.2.2 (fun k hk => (h.1.lt k hk).1)
  · exact Nat.le_trans h.2.2 hgrow.size
end Go.Proofs.YtgjpcoplnpkmoaaGreatDoor.S
