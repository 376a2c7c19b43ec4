/-
  The tokens of a text: walk of package lex's Tokens.
-/
import Derived.Test.YtgjpcoplnpkmoaaGreatDoorLexPiece4
import Derived.Laws.AppendOwn
import Derived.Laws.OwnMore
import Derived.OwnWalk
namespace Go.Proofs.YtgjpcoplnpkmoaaGreatDoor.S
open Go.RowKit Fl

def tkC (t : Tk) : List Value := [.int .u8 (t.kind : Int), .int .i64 t.pos, .string t.text, .float .f64 t.num]
def tkCells (l : List Tk) : List Value := l.flatMap tkC
theorem tkCells_len (l : List Tk) : (tkCells l).length = l.length * 4 := by
  induction l with
  | nil => rfl
  | cons t r ih => unfold tkCells at *; rw [List.flatMap_cons, List.length_append, ih, List.length_cons]; simp [tkC]; omega
theorem tkCells_snoc (l : List Tk) (t : Tk) : tkCells (l ++ [t]) = tkCells l ++ tkC t := by unfold tkCells; rw [List.flatMap_append]; simp

/-- a slice of tokens of the call's own that holds the tokens l -/
def TB (B : Nat) (v : Value) (l : List Tk) (w0 w : World) : Prop := w.ownsRow B 25 4 v l.length (tkCells l) ∧ Below B w0 w ∧ B ≤ w.heap.size
theorem tb_nil (w : World) : TB w.heap.size (.slice none 0 0) [] w w := ⟨World.ownsRow_nil _ _ _ _, Below.refl _ _, Nat.le_refl _⟩
theorem tb_up {B : Nat} {v : Value} {l : List Tk} {w0 w w' : World} (h : TB B v l w0 w) (hb : Below w.heap.size w w') : TB B v l w0 w' :=
  ⟨h.1.kept (row := none) ⟨hb.os, hb.tape, hb.output, hb.size, fun k hk _ => hb.block k hk⟩ (by
    rcases h.1.2 with ⟨rfl, _⟩ | ⟨g, cap, cur, rfl, _⟩
    · exact Or.inl rfl
    · exact Or.inr (by simp [Value.ownBlock])), h.2.1.trans (hb.mono h.2.2), Nat.le_trans h.2.2 hb.size⟩
theorem tb_alloc {B : Nat} {v : Value} {l : List Tk} {w0 w : World} (h : TB B v l w0 w) (o : Obj) : TB B v l w0 (w.alloc o) := tb_up h (zero_alloc w o)
theorem tb_shape {B : Nat} {v : Value} {l : List Tk} {w0 w : World} (h : TB B v l w0 w) : ∃ A cap, v = .slice A l.length cap := by
  rcases h.1.2 with ⟨rfl, h1⟩ | ⟨g, cap, cur, rfl, _⟩
  · exact ⟨none, 0, by rw [h1]⟩
  · exact ⟨_, cap, rfl⟩

theorem tk_info : (Tryz.prog.info? 25).map (fun i => (i.zero, i.size, i.bytes)) = some (some (.agg #[.int .u8 0, .int .i64 0, .string ⟨#[]⟩, .float .f64 0]), 4, 40) := by kernel_rfl
theorem tk_app {ops : Array Oper} {rest : List Oper} {o : Oper} {a : Act} {Q : Exit → Act → World → Prop} (hgd : o.guard = none) (s x : Operand)
    (ho : o.op = .call { callee := .builtin .append, args := #[s, x], argTypes := #[22, 22] })
    {B : Nat} {v : Value} {l : List Tk} {w0 wr : World} (h : TB B v l w0 wr) (hs : a.eval s = v) (t : Tk) (k p : Int) (b : ByteArray) (n : Nat) (hk : k = (t.kind : Int)) (hp : p = t.pos) (hb : b = t.text) (hn : n = t.num) (hx : a.eval x = .slice (some ⟨wr.heap.size, 0, none⟩) 1 1)
    (hl : l.length ≤ 70000)
    (kk : ∀ v' w', TB B v' (l ++ [t]) w0 w' → wpList Tryz.prog ops Q rest (a.put o.dst v') w') : wpList Tryz.prog ops Q (o :: rest) a (wr.alloc (.cells #[.int .u8 k, .int .i64 p, .string b, .float .f64 n] 25)) := by
  subst hk hp hb hn
  obtain ⟨i0, hi, hz0, hz1, hz2⟩ := info_parts tk_info
  refine wpList_append_own _ hgd s x 22 ho B 25 i0 (.agg #[.int .u8 0, .int .i64 0, .string ⟨#[]⟩, .float .f64 0]) 4 40 Tryz.underlying22 hi hz0 hz1 hz2 rfl (by decide) v l.length (tkCells l) hs (tb_alloc h _).1 ⟨wr.heap.size, 0, none⟩ 1 1 (tkC t) hx rfl ?_ ?_ ?_ ?_ ?_ ?_
  · intro j u hj
    have hblk : (wr.alloc (.cells #[.int .u8 (t.kind : Int), .int .i64 t.pos, .string t.text, .float .f64 t.num] 25)).heap[wr.heap.size]? = some (.cells #[.int .u8 (t.kind : Int), .int .i64 t.pos, .string t.text, .float .f64 t.num] 25 (0, 0)) := heap_alloc_new wr _
    have := blk_cell hblk j
    have e : (⟨wr.heap.size, 0, none⟩ : Addr).add j = ⟨wr.heap.size, j, none⟩ := by unfold Addr.add; split <;> simp_all
    rw [e, this, ← hj]
    match j with
    | 0 => rfl
    | 1 => rfl
    | 2 => rfl
    | 3 => rfl
    | j + 4 => rfl
  · intro u hu; simp [tkC] at hu; rcases hu with rfl | rfl | rfl | rfl <;> rfl
  · unfold maxLen; omega
  · omega
  · exact (tb_alloc h _).2.2
  · intro v' w' hown hgrow _
    refine kk v' w' ⟨?_, ?_, ?_⟩
    · rw [tkCells_snoc, List.length_append]; exact hown
    · exact (tb_alloc h _).2.1.grown hgrow (tb_alloc h _).2.2 (fun k hk => ((tb_alloc h (.cells #[.int .u8 (t.kind : Int), .int .i64 t.pos, .string t.text, .float .f64 t.num] 25)).1.lt k hk).1)
    · exact Nat.le_trans (tb_alloc h _).2.2 hgrow.size

def TokTo (r : TR) (w : World) (e : Ending) (w' : World) : Prop :=
  match r with
  | .ok l => ∃ v, e = .returned (.tuple #[v, .int .i64 0, .int .i64 0]) ∧ TB w.heap.size v l w w'
  | .err a k => e = .returned (.tuple #[.slice none 0 0, .int .i64 a, .int .i64 k]) ∧ Below w.heap.size w w'
theorem tok_err {r : TR} {a k : Int} {w w' : World} {e : Ending} (hr : Hid (.err a k = r)) (h : e = .returned (.tuple #[.slice none 0 0, .int .i64 a, .int .i64 k])) (hb : Below w.heap.size w w') : TokTo r w e w' := by rw [← hr.out, h]; exact ⟨rfl, hb⟩
theorem tok_ok {r : TR} {l : List Tk} {v : Value} {w w' : World} {e : Ending} (hr : Hid (.ok l = r)) (h : e = .returned (.tuple #[v, .int .i64 0, .int .i64 0])) (hb : TB w.heap.size v l w w') : TokTo r w e w' := by rw [← hr.out]; exact ⟨v, h, hb⟩

theorem pieceL_fault {l : List UInt8} {k : Int} (h : pieceL l = .bad k) : 0 ≤ k ∧ k ≤ l.length + 1 := by
  cases l with
  | nil => cases h; simp
  | cons c r =>
    rw [pieceL_cons] at h
    split at h
    · have := nameL_F (c :: r); rw [h] at this; have e : k = 0 := this; subst e; simp; omega
    · split at h
      · have := numberL_F (c :: r); rw [h] at this; have e : k = 0 := this; subst e; simp; omega
      · split at h
        · unfold literalL at h
          split at h
          · cases h; simp; omega
          · rename_i e he
            have hat := plainO_at (mkB (((c :: r).drop 1).take (e - 1)))
            rw [mkB_size, List.length_take] at hat
            generalize plainO (mkB (((c :: r).drop 1).take (e - 1))) = q at *
            unfold plainP at h
            split at h
            · cases h
            · split at h <;> cases h
              · simp at hat ⊢; omega
              · simp; omega
        · have := signL_F (c :: r); rw [h] at this; have e : k = 0 := this; subst e; simp; omega
theorem wide_here {s : ByteArray} {p k : Nat} {t : ByteArray} {n wd : Nat} (hp : p < s.size) (h : pieceL (s.data.toList.drop p) = .tok k t n wd) : 1 ≤ wd ∧ p + wd ≤ s.size := by
  have := pieceL_wide h
  rw [List.length_drop, ← size_len] at this
  omega

set_option maxHeartbeats 2000000 in
theorem Tokens_any (s : ByteArray) (hs : s.size ≤ 70000) (w : World) : Calls Tryz.prog 37 #[.string s] w (TokTo (toks s.data.toList) w) := by
  have hl : s.data.toList.length = s.size := (size_len s).symm
  have b0 := tb_nil w
  unfold toks
  rw [hl]
  by_cases hb : s.size > 65536
  · rw [if_pos hb]
    go_enter Tryz.func37, Tryz.ntmps37
    go_wp2
    go_ret3
    exact ⟨rfl, Below.refl _ _⟩
  · rw [if_neg hb]
    generalize hR : toksF (s.size + 1) 0 s.data.toList [] = R
    have HR := Lib.hid hR
    clear hR hl
    go_enter Tryz.func37, Tryz.ntmps37
    go_wp2_with (fail)
    go_loopw [5, 6] (fun v i wr => ∃ (k f : Nat) (acc : List Tk), i = .int .i64 k ∧ k ≤ s.size ∧ Hid (TB w.heap.size v acc w wr) ∧ Hid (toksF (f + 1) k (s.data.toList.drop k) acc = R) ∧ s.size ≤ k + f ∧ acc.length ≤ k) (fun _ i _ => s.size - (intOf i).toNat)
    case atStart => exact ⟨0, s.size, [], rfl, Nat.zero_le _, Lib.hid b0, HR, by omega, Nat.le_refl _⟩
    case round =>
      obtain ⟨k, f, acc, rfl, hk, h1, H, hf, hal⟩ := hrel
      clear HR b0
      obtain ⟨A, cap, hv⟩ := tb_shape h1.out
      subst hv
      have kp := fun w => pass_any s k w hs hk
      have hle := passM_le (s.data.toList.drop k) 0 k k (Nat.le_refl _)
      have hge := passM_ge (s.data.toList.drop k) 0 k k
      rw [List.length_drop, ← size_len] at hle
      obtain ⟨⟨p, b⟩, hpq⟩ : ∃ x, passM 0 k k (s.data.toList.drop k) = x := ⟨_, rfl⟩
      rw [hpq] at kp hle hge
      dsimp only at hle hge
      have kp : ∀ w, Calls Tryz.prog 59 #[.string s, .int .i64 (k : Int)] w (fun e w' => e = .returned (.tuple #[.int .i64 (p : Int), .bool b]) ∧ w = w') := kp
      cases b with
      | false =>
        have H2 := Lib.hid ((toks_stop hpq).symm.trans H.out)
        clear H hpq hge
        go_wp2_with (go_at_call 59; refine (kp _).mono ?_; rintro e w1 ⟨rfl, rfl⟩)
        go_ret3
        exact tok_err H2 rfl h1.out.2.1
      | true =>
        have hkp := hge rfl
        have hps : p ≤ s.size := by omega
        clear hge hle
        by_cases hend : p = s.size
        · subst hend
          have H2 := Lib.hid ((toks_end hkp hpq (by rw [← size_len]; exact Nat.le_refl _)).symm.trans H.out)
          clear H hpq
          go_wp2_with (first
            | (go_at_call 59; refine (kp _).mono ?_; rintro e w1 ⟨rfl, rfl⟩)
            | (at_builtin; refine tk_app rfl _ _ rfl (h1.out) rfl ⟨0, (s.size : Int), ⟨#[]⟩, 0⟩ _ _ _ _ rfl rfl rfl rfl rfl (by omega) ?_; intro v' w' h3))
          go_ret3
          exact tok_ok H2 rfl h3
        · have hp1 : p < s.size := by omega
          have hpn : ¬ (p : Int) = (s.size : Int) := by omega
          have hL : p < s.data.toList.length := by rw [← size_len]; exact hp1
          have kq := fun w => piece_any (s.extract p s.size) (by simp; omega) (by simp; omega) w
          rw [tail_list] at kq
          have hwide := fun kd t n wd h => wide_here (k := kd) (t := t) (n := n) (wd := wd) hp1 h
          have hfault := fun j h => pieceL_fault (l := s.data.toList.drop p) (k := j) h
          rw [List.length_drop, ← size_len] at hfault
          cases hr : pieceL (s.data.toList.drop p) with
          | bad j =>
            rw [hr] at kq
            obtain ⟨hj1, hj2⟩ := hfault j hr
            have kq : ∀ w, Calls Tryz.prog 60 #[.string (s.extract p s.size)] w (fun e w' => e = .returned (.tuple #[.agg #[.int .u8 0, .int .i64 0, .string ⟨#[]⟩, .float .f64 0], .int .i64 0, .int .i64 j]) ∧ Below w.heap.size w w') := kq
            have H2 := Lib.hid ((toks_bad hkp hpq hL hr).symm.trans H.out)
            have hj3 : (p : Int) + j ≤ 200000 := by omega
            clear H hpq hL hr hwide hfault hend hj2
            have hst := store_f
            go_wp2_with (first
              | (go_at_call 59; refine (kp _).mono ?_; rintro e w1 ⟨rfl, rfl⟩)
              | (go_at_call 60; refine (kq _).mono ?_; rintro e w1 ⟨rfl, hq1⟩; have HQ1 := Lib.hid hq1; clear hq1))
            go_ret3
            exact tok_err H2 rfl (((h1.out.2.1.trans (HQ1.out.mono h1.out.2.2))).alloc (Nat.le_trans h1.out.2.2 HQ1.out.size) _)
          | tok kd t n wd =>
            rw [hr] at kq
            obtain ⟨hw1, hw2⟩ := hwide kd t n wd hr
            have kq : ∀ w, Calls Tryz.prog 60 #[.string (s.extract p s.size)] w (fun e w' => e = .returned (.tuple #[.agg #[.int .u8 (kd : Int), .int .i64 0, .string t, .float .f64 n], .int .i64 (wd : Int), .int .i64 0]) ∧ Below w.heap.size w w') := kq
            have hw0 : ¬ (wd : Int) = 0 := by omega
            by_cases hm : acc.length = 16384
            · have H2 := Lib.hid ((toks_many hkp hpq hL hr hm).symm.trans H.out)
              have hmi : (acc.length : Int) = 16384 := by omega
              clear H hpq hL hr hwide hfault hend hm
              have hst := store_f
              go_wp2_with (first
                | (go_at_call 59; refine (kp _).mono ?_; rintro e w1 ⟨rfl, rfl⟩)
                | (go_at_call 60; refine (kq _).mono ?_; rintro e w1 ⟨rfl, hq1⟩; have HQ1 := Lib.hid hq1; clear hq1))
              go_ret3
              exact tok_err H2 rfl (((h1.out.2.1.trans (HQ1.out.mono h1.out.2.2))).alloc (Nat.le_trans h1.out.2.2 HQ1.out.size) _)
            · obtain ⟨g, rfl⟩ : ∃ g, f = g + 1 := ⟨f - 1, by omega⟩
              have H2 := Lib.hid ((toks_step hkp hpq hL hr hm).symm.trans H.out)
              have hmi : ¬ (acc.length : Int) = 16384 := by omega
              clear H hpq hL hr hwide hfault hend hm
              have hst := store_f
              go_wp2_with (first
                | (go_at_call 59; refine (kp _).mono ?_; rintro e w1 ⟨rfl, rfl⟩)
                | (go_at_call 60; refine (kq _).mono ?_; rintro e w1 ⟨rfl, hq1⟩; have h2 := Lib.hid (tb_up h1.out hq1); clear hq1)
                | (at_builtin; refine tk_app rfl _ _ rfl (tb_alloc h2.out _) rfl ⟨kd, (p : Int), t, n⟩ _ _ _ _ rfl rfl rfl rfl (by simp [Act.eval]) (by omega) ?_; intro v' w' h3))
              go_roundw
              case rel => exact ⟨p + wd, g, acc ++ [⟨kd, p, t, n⟩], by go_num, by omega, Lib.hid h3, H2, by omega, by simp; omega⟩
              case measure => simp [intOf]; omega
end Go.Proofs.YtgjpcoplnpkmoaaGreatDoor.S
