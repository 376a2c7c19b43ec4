/-
  Plain, the document's own: walks.
-/
import Derived.Test.YtgjpcoplnpkmoaaGreatDoorStrPlain
import Derived.Laws.AppendOwn
import Derived.Laws.OwnMore
import Derived.Laws.IdiomStrings
import Derived.OwnWalk
namespace Go.Proofs.YtgjpcoplnpkmoaaGreatDoor.S
open Go.RowKit
/-- a slice of bytes of the call's own that holds the bytes l -/
def SB (B : Nat) (v : Value) (l : List UInt8) (w0 w : World) : Prop := w.ownsRow B 5 1 v l.length (Lib.byteCells l) ∧ Below B w0 w ∧ B ≤ w.heap.size
theorem sb_nil (w : World) : SB w.heap.size (.slice none 0 0) [] w w := ⟨World.ownsRow_nil _ _ _ _, Below.refl _ _, Nat.le_refl _⟩
theorem SB.drew {B : Nat} {v : Value} {l : List UInt8} {w0 w : World} (h : SB B v l w0 w) : SB B v l w0 w.drew := ⟨h.1, h.2.1.drew, h.2.2⟩
theorem SB.drewN {B : Nat} {v : Value} {l : List UInt8} {w0 w : World} (h : SB B v l w0 w) (n : Nat) : SB B v l w0 (w.drewN n) := by
  induction n with
  | zero => exact h
  | succ n ih => exact ih.drew
theorem SB.heap {B : Nat} {v : Value} {l : List UInt8} {w0 w : World} (h : SB B v l w0 w) (o : Obj) : SB B v l w0 (w.alloc o) := ⟨h.1.alloc o, h.2.1.alloc h.2.2 o, Nat.le_trans h.2.2 (by simp)⟩
theorem sb_app {ops : Array Oper} {rest : List Oper} {o : Oper} {a : Act} {Q : Exit → Act → World → Prop} (hgd : o.guard = none) (s x : Operand)
    (ho : o.op = .call { callee := .builtin .append, args := #[s, x], argTypes := #[31, 31] })
    {B : Nat} {v : Value} {l : List UInt8} {w0 wr : World} (h : SB B v l w0 wr) (hs : a.eval s = v) (n : Int) (c : UInt8) (hc : n = (c.toNat : Int)) (hx : a.eval x = .slice (some ⟨wr.heap.size, 0, none⟩) 1 1)
    (hl : l.length + 1 ≤ 140737488355328)
    (k : ∀ v' w', SB B v' (l ++ [c]) w0 w' → wpList Tryz.prog ops Q rest (a.put o.dst v') w') : wpList Tryz.prog ops Q (o :: rest) a (wr.alloc (.cells #[.int .u8 n] 5)) := by
  subst hc
  obtain ⟨i0, hi, hz0, hz1, hz2⟩ := info_parts (P := Tryz.prog) (e := 5) (z := .int .u8 0) (size := 1) (bytes := 1) (by kernel_rfl)
  refine wpList_append_own _ hgd s x 31 ho B 5 i0 (.int .u8 0) 1 1 Tryz.underlying31 hi hz0 hz1 hz2 rfl (by decide) v l.length (Lib.byteCells l) hs (h.1.alloc _) ⟨wr.heap.size, 0, none⟩ 1 1 [.int .u8 (c.toNat : Int)] hx rfl ?_ ?_ ?_ ?_ ?_ ?_
  · intro j u hj
    match j, hj with
    | 0, hj => simp at hj; subst hj; simp [Addr.add]
  · intro u hu; simp at hu; subst hu; rfl
  · unfold maxLen; omega
  · omega
  · exact (h.heap _).2.2
  · intro v' w' hown hgrow _
    refine k v' w' ⟨?_, ?_, ?_⟩
    · rw [Lib.byteCells_append, List.length_append]; exact hown
    · exact (h.heap _).2.1.grown hgrow (h.heap _).2.2 (fun k hk => ((h.heap (.cells #[.int .u8 (c.toNat : Int)] 5)).1.lt k hk).1)
    · exact Nat.le_trans (h.heap _).2.2 hgrow.size
theorem sb_shape {B : Nat} {v : Value} {l : List UInt8} {w0 w : World} (h : SB B v l w0 w) :
    (v = .slice none 0 0 ∧ l = []) ∨ ∃ g cap, v = .slice (some ⟨g, 0, none⟩) l.length cap ∧ ∀ j (hj : j < l.length), w.cell? ((⟨g, 0, none⟩ : Addr).add j) = some (.int .u8 (l[j].toNat : Int)) := by
  have h0 := h.1
  rcases h.1.2 with ⟨rfl, h1⟩ | ⟨g, cap, cur, rfl, _⟩
  · exact Or.inl ⟨rfl, List.eq_nil_of_length_eq_zero h1⟩
  · refine Or.inr ⟨g, cap, rfl, fun j hj => ?_⟩
    refine h0.cells rfl j _ ?_
    unfold Lib.byteCells
    rw [List.getElem?_map, List.getElem?_eq_getElem hj]; rfl
theorem conv_nil (wr : World) : (convert 31 9 (.slice none 0 0)).run Tryz.prog wr = .ok (.string ⟨#[]⟩) wr := by
  rw [run_convert_bytes_string (P := Tryz.prog) wr 31 9 5 none 0 0 Tryz.underlying31 Tryz.underlying5 Tryz.underlying9]
  rfl
theorem ext_size (s : ByteArray) (i : Nat) (_h : i ≤ s.size) : (s.extract i s.size).size = s.size - i := by simp
theorem ext_get (s : ByteArray) (i j : Nat) (_h : i + j < s.size) (h2 : j < (s.extract i s.size).size) : (s.extract i s.size)[j] = s[i + j] := ByteArray.getElem_extract _
theorem esc_plain (s : ByteArray) (i : Nat) (h : i < s.size) (hc : s[i].toNat ≠ 92) : escS (s.extract i s.size) = (s[i], 1) := by
  have z := ext_size s i (by omega)
  have g0 := ext_get s i 0 (by omega) (by omega)
  unfold escS
  rw [dif_neg (by omega)]
  have e : (s.extract i s.size)[0] = s[i] := g0
  rw [e, if_pos hc]
def escT (u : ByteArray) (d : UInt8) : UInt8 × Nat :=
  if d.toNat = 92 ∨ d.toNat = 34 ∨ d.toNat = 39 then (d, 2)
  else if d.toNat = 110 then (10, 2)
  else if d.toNat = 116 then (9, 2)
  else if d.toNat = 114 then (13, 2)
  else if d.toNat = 120 then sixR u
  else (0, 0)
theorem esc_head (u : ByteArray) (h : 0 < u.size) (hc : u[0].toNat = 92) : escS u = (if h1 : u.size < 2 then (0, 0) else escT u u[1]) := by
  unfold escS escT
  rw [dif_neg (by omega), if_neg (by omega)]
theorem esc_last (s : ByteArray) (i : Nat) (h : i < s.size) (hc : s[i].toNat = 92) (hl : i + 1 = s.size) : escS (s.extract i s.size) = (0, 0) := by
  have z := ext_size s i (by omega)
  have g0 := ext_get s i 0 (by omega) (by omega)
  have e : (s.extract i s.size)[0] = s[i] := g0
  rw [esc_head _ (by omega) (by rw [e]; exact hc), dif_pos (by omega)]
theorem esc_two (s : ByteArray) (i : Nat) (h : i + 1 < s.size) (hc : s[i].toNat = 92) : escS (s.extract i s.size) = escT (s.extract i s.size) s[i + 1] := by
  have z := ext_size s i (by omega)
  have g0 := ext_get s i 0 (by omega) (by omega)
  have g1 := ext_get s i 1 (by omega) (by omega)
  have e : (s.extract i s.size)[0] = s[i] := g0
  rw [esc_head _ (by omega) (by rw [e]; exact hc), dif_neg (by omega), g1]
theorem six_short (s : ByteArray) (i : Nat) (h : i + 1 < s.size) (hl : s.size ≤ i + 3) : sixR (s.extract i s.size) = (0, 0) := by
  have z := ext_size s i (by omega)
  unfold sixR
  rw [dif_pos (by omega)]
theorem six_four (s : ByteArray) (i : Nat) (h : i + 3 < s.size) : sixR (s.extract i s.size) = (if worthN s[i + 2].toNat < 0 ∨ worthN s[i + 3].toNat < 0 then (0, 0) else (hexOf (worthN s[i + 2].toNat) (worthN s[i + 3].toNat), 4)) := by
  have z := ext_size s i (by omega)
  have g2 := ext_get s i 2 (by omega) (by omega)
  have g3 := ext_get s i 3 (by omega) (by omega)
  unfold sixR
  rw [dif_neg (by omega)]
  simp only [g2, g3]
set_option maxHeartbeats 1600000 in
set_option maxRecDepth 1000000 in
theorem refPlain_any (s : ByteArray) (w : World) (hs : s.size ≤ 70000) : Calls Tryz.prog 98 #[.string s] w (Str3To (plainO s) w) := by
  have b0 := sb_nil w
  unfold plainO
  by_cases hb : s.size > 65536
  · rw [if_pos hb]
    go_enter Tryz.func98, Tryz.ntmps98
    go_wp2
    go_ret3
    exact ⟨rfl, Below.refl _ _⟩
  · rw [if_neg hb]
    generalize hR : plainR s s.size 0 [] = R
    have HR := Lib.hid hR
    clear hR
    go_enter Tryz.func98, Tryz.ntmps98
    go_wp2_with (fail)
    go_loopw [5, 6] (fun b v wr => ∃ (i f : Nat) (acc : List UInt8), v = .int .i64 i ∧ Hid (SB w.heap.size b acc w wr) ∧ Hid (plainR s f i acc = R ∧ s.size ≤ i + f) ∧ acc.length ≤ i ∧ i ≤ s.size + 4) (fun _ v _ => s.size - (intOf v).toNat)
    case atStart => exact ⟨0, s.size, [], rfl, Lib.hid b0, Lib.hid ⟨HR.out, by omega⟩, Nat.le_refl _, by omega⟩
    case round =>
      obtain ⟨i, f, acc, rfl, h1, H, hal, hi4⟩ := hrel
      by_cases hlt : i < s.size
      · by_cases c0 : s[i].toNat ≠ 92
        · have j0 : ¬ ((s[i].toNat : Int) = 92) := by omega
          have he : escS (s.extract i s.size) = (s[i], 1) := esc_plain s i hlt c0
          obtain ⟨g, hg1, hg2⟩ := plainR_step s f i acc hlt H.out.2 (by rw [he]; simp)
          rw [he] at hg1 hg2
          have H2 := Lib.hid (And.intro (hg1.symm.trans H.out.1) hg2)
          clear hg1 hg2 he H
          go_wp2_with (first | (at_builtin; refine sb_app rfl _ _ rfl (h1.out) rfl _ (s[i]) rfl rfl (by omega) ?_; intro v' w' h3))
          all_goals
            go_roundw
            case rel => exact ⟨i + 1, g, acc ++ [s[i]], by go_num, Lib.hid h3, H2, by simp; omega, by omega⟩
            case measure => simp [intOf]; omega
        · have c0 : s[i].toNat = 92 := by omega
          by_cases c1 : i + 1 = s.size
          · skip
            have hq : R = .inl i := H.out.1.symm.trans (plainR_stop s f i acc hlt H.out.2 (by rw [esc_last s i hlt c0 c1]))
            subst hq
            clear H
            go_wp2; go_ret3
            exact ⟨rfl, h1.out.2.1⟩
          · have h1s : i + 1 < s.size := by omega
            have E := esc_two s i h1s c0
            unfold escT at E
            have c1i : ¬ ((i : Int) + 1 = (s.size : Int)) := by omega
            clear c1
            by_cases c2 : s[i + 1].toNat = 92 ∨ s[i + 1].toNat = 34 ∨ s[i + 1].toNat = 39
            · rw [if_pos c2] at E
              have n1 : ¬ s[i + 1].toNat = 110 := by omega
              have n2 : ¬ s[i + 1].toNat = 116 := by omega
              have n3 : ¬ s[i + 1].toNat = 114 := by omega
              have he : escS (s.extract i s.size) = (s[i + 1], 2) := E
              obtain ⟨g, hg1, hg2⟩ := plainR_step s f i acc hlt H.out.2 (by rw [he]; simp)
              rw [he] at hg1 hg2
              have H2 := Lib.hid (And.intro (hg1.symm.trans H.out.1) hg2)
              clear hg1 hg2 he H
              rcases c2 with c2 | c2 | c2
              all_goals clear E
              all_goals go_wp2_with (first | (at_builtin; refine sb_app rfl _ _ rfl (h1.out) rfl _ (s[i + 1]) (by omega) rfl (by omega) ?_; intro v' w' h3))
              all_goals
                go_roundw
                case rel => exact ⟨i + 2, g, acc ++ [s[i + 1]], by go_num, Lib.hid h3, H2, by simp; omega, by omega⟩
                case measure => simp [intOf]; omega
            · rw [if_neg c2] at E
              have m1 : ¬ s[i + 1].toNat = 92 := fun h => c2 (Or.inl h)
              have m2 : ¬ s[i + 1].toNat = 34 := fun h => c2 (Or.inr (Or.inl h))
              have m3 : ¬ s[i + 1].toNat = 39 := fun h => c2 (Or.inr (Or.inr h))
              clear c2
              by_cases c3 : s[i + 1].toNat = 110
              · rw [if_pos c3] at E
                have he : escS (s.extract i s.size) = (10, 2) := E
                obtain ⟨g, hg1, hg2⟩ := plainR_step s f i acc hlt H.out.2 (by rw [he]; simp)
                rw [he] at hg1 hg2
                have H2 := Lib.hid (And.intro (hg1.symm.trans H.out.1) hg2)
                clear hg1 hg2 he H
                clear E
                go_wp2_with (first | (at_builtin; refine sb_app rfl _ _ rfl (h1.out) rfl _ (10 : UInt8) rfl rfl (by omega) ?_; intro v' w' h3))
                all_goals
                  go_roundw
                  case rel => exact ⟨i + 2, g, acc ++ [10], by go_num, Lib.hid h3, H2, by simp; omega, by omega⟩
                  case measure => simp [intOf]; omega
              · rw [if_neg c3] at E
                by_cases c4 : s[i + 1].toNat = 116
                · rw [if_pos c4] at E
                  have he : escS (s.extract i s.size) = (9, 2) := E
                  obtain ⟨g, hg1, hg2⟩ := plainR_step s f i acc hlt H.out.2 (by rw [he]; simp)
                  rw [he] at hg1 hg2
                  have H2 := Lib.hid (And.intro (hg1.symm.trans H.out.1) hg2)
                  clear hg1 hg2 he H
                  clear E
                  go_wp2_with (first | (at_builtin; refine sb_app rfl _ _ rfl (h1.out) rfl _ (9 : UInt8) rfl rfl (by omega) ?_; intro v' w' h3))
                  all_goals
                    go_roundw
                    case rel => exact ⟨i + 2, g, acc ++ [9], by go_num, Lib.hid h3, H2, by simp; omega, by omega⟩
                    case measure => simp [intOf]; omega
                · rw [if_neg c4] at E
                  by_cases c5 : s[i + 1].toNat = 114
                  · rw [if_pos c5] at E
                    have he : escS (s.extract i s.size) = (13, 2) := E
                    obtain ⟨g, hg1, hg2⟩ := plainR_step s f i acc hlt H.out.2 (by rw [he]; simp)
                    rw [he] at hg1 hg2
                    have H2 := Lib.hid (And.intro (hg1.symm.trans H.out.1) hg2)
                    clear hg1 hg2 he H
                    clear E
                    go_wp2_with (first | (at_builtin; refine sb_app rfl _ _ rfl (h1.out) rfl _ (13 : UInt8) rfl rfl (by omega) ?_; intro v' w' h3))
                    all_goals
                      go_roundw
                      case rel => exact ⟨i + 2, g, acc ++ [13], by go_num, Lib.hid h3, H2, by simp; omega, by omega⟩
                      case measure => simp [intOf]; omega
                  · rw [if_neg c5] at E
                    by_cases c6 : s[i + 1].toNat = 120
                    · rw [if_pos c6] at E
                      by_cases c7 : s.size ≤ i + 3
                      · rw [six_short s i h1s c7] at E
                        have c7i : ((i : Int) + 3 ≥ (s.size : Int)) := by omega
                        have hq : R = .inl i := H.out.1.symm.trans (plainR_stop s f i acc hlt H.out.2 (by rw [E]))
                        subst hq
                        clear H
                        clear E; go_wp2; go_ret3
                        exact ⟨rfl, h1.out.2.1⟩
                      · have h3s : i + 3 < s.size := by omega
                        rw [six_four s i h3s] at E
                        have k2 := fun w => sixteen_any s[i + 2].toNat s[i + 2].toNat_lt w
                        have k3 := fun w => sixteen_any s[i + 3].toNat s[i + 3].toNat_lt w
                        have b2 := worthN_le s[i + 2].toNat
                        have b3 := worthN_le s[i + 3].toNat
                        generalize worthN s[i + 2].toNat = x at *
                        generalize worthN s[i + 3].toNat = y at *
                        by_cases c8 : x < 0
                        · rw [if_pos (Or.inl c8)] at E
                          have hq : R = .inl i := H.out.1.symm.trans (plainR_stop s f i acc hlt H.out.2 (by rw [E]))
                          subst hq
                          clear H
                          clear E; go_wp2_with (first | (go_at_call 128; ((with_reducible refine (k2 _).mono ?_); rintro e w' ⟨rfl, rfl⟩)) | (go_at_call 128; ((with_reducible refine (k3 _).mono ?_); rintro e w' ⟨rfl, rfl⟩))); go_ret3
                          exact ⟨rfl, h1.out.2.1⟩
                        · by_cases c9 : y < 0
                          · rw [if_pos (Or.inr c9)] at E
                            have hq : R = .inl i := H.out.1.symm.trans (plainR_stop s f i acc hlt H.out.2 (by rw [E]))
                            subst hq
                            clear H
                            clear E; go_wp2_with (first | (go_at_call 128; ((with_reducible refine (k2 _).mono ?_); rintro e w' ⟨rfl, rfl⟩)) | (go_at_call 128; ((with_reducible refine (k3 _).mono ?_); rintro e w' ⟨rfl, rfl⟩))); go_ret3
                            exact ⟨rfl, h1.out.2.1⟩
                          · rw [if_neg (by omega)] at E
                            have q2 := fun (w : World) n => (k2 (w.drewN n)).mono fun e w' (h : _ ∧ _) => show e = _ ∧ w' = w.drewN n from ⟨h.1, h.2.symm⟩
                            have q3 := fun (w : World) n => (k3 (w.drewN n)).mono fun e w' (h : _ ∧ _) => show e = _ ∧ w' = w.drewN n from ⟨h.1, h.2.symm⟩
                            have hx : ((hexOf x y).toNat : Int) = 16 * x + y := by unfold hexOf; rw [toNat_of _ (by omega)]; omega
                            have j2 : (i : Int) + 2 < (s.size : Int) := by omega
                            have j3 : (i : Int) + 3 < (s.size : Int) := by omega
                            have he : escS (s.extract i s.size) = (hexOf x y, 4) := E
                            obtain ⟨g, hg1, hg2⟩ := plainR_step s f i acc hlt H.out.2 (by rw [he]; simp)
                            rw [he] at hg1 hg2
                            have H2 := Lib.hid (And.intro (hg1.symm.trans H.out.1) hg2)
                            clear hg1 hg2 he H
                            clear E
                            go_wp2_with (first | (go_at_call 128; ((with_reducible refine (k2 _).mono ?_); rintro e w' ⟨rfl, rfl⟩)) | (go_at_call 128; ((with_reducible refine (k3 _).mono ?_); rintro e w' ⟨rfl, rfl⟩)))
                            go_quiet (first | (go_at_call 128; with_reducible refine Calls.quiet_of_same (q2 _ _)) | (go_at_call 128; with_reducible refine Calls.quiet_of_same (q3 _ _)))
                            go_wp2_with (first | (at_builtin; refine sb_app rfl _ _ rfl (h1.out.drewN _) rfl _ (hexOf x y) (by omega) rfl (by omega) ?_; intro v' w' h3))
                            all_goals
                              go_roundw
                              case rel => exact ⟨i + 4, g, acc ++ [hexOf x y], by go_num, Lib.hid h3, H2, by simp; omega, by omega⟩
                              case measure => simp [intOf]; omega
                    · rw [if_neg c6] at E
                      have hq : R = .inl i := H.out.1.symm.trans (plainR_stop s f i acc hlt H.out.2 (by rw [E]))
                      subst hq
                      clear H
                      clear E; go_wp2; go_ret3
                      exact ⟨rfl, h1.out.2.1⟩
      · have hq : R = .inr acc := H.out.1.symm.trans (plainR_end s f i acc hlt)
        subst hq
        clear H
        rcases sb_shape h1.out with ⟨rfl, rfl⟩ | ⟨g, cap, rfl, hcells⟩
        · have hconv := conv_nil wr
          go_wp2
          go_ret3
          refine ⟨?_, h1.out.2.1⟩
          rw [outOf_short [] (by simp)]; rfl
        · have hconv := run_convert_bytes_back (P := Tryz.prog) wr 31 9 5 ⟨g, 0, none⟩ cap acc Tryz.underlying31 Tryz.underlying5 Tryz.underlying9 hcells
          clear hcells
          by_cases hl : acc.length > 4096
          · clear hconv
            go_wp2
            go_ret3
            refine ⟨?_, h1.out.2.1⟩
            rw [outOf_long acc hl]; rfl
          · go_wp2
            go_ret3
            refine ⟨?_, h1.out.2.1⟩
            rw [outOf_short acc hl]; rfl
end Go.Proofs.YtgjpcoplnpkmoaaGreatDoor.S
