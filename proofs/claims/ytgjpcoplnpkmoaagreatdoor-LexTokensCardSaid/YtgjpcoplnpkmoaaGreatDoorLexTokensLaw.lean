/-
  LexTokens: tokens are written as the document's own Text writes them: the walk.
-/
import Derived.Test.YtgjpcoplnpkmoaaGreatDoorLexRefText
import Derived.Test.YtgjpcoplnpkmoaaGreatDoorLexOpen
import Derived.Test.YtgjpcoplnpkmoaaGreatDoorLexAlive
import Derived.Laws.AppendOwnNone
namespace Go.Proofs.YtgjpcoplnpkmoaaGreatDoor.S
open Go.ChangeShapes Go.WideShapes Go.Deep Go.RowKit Fl
theorem tb_capl {B : Nat} {A : Option Addr} {n cap : Nat} {l : List Tk} {w0 w : World} (h : TB B (.slice A n cap) l w0 w) : l.length ≤ cap := by
  rcases h.1.2 with ⟨h1, h2⟩ | ⟨g, c, cur, hv, hb, hh, hle, _⟩
  · omega
  · injection hv; omega

section
variable {H : Type} {enc : TypeId × Value → H} {w : World} {base : Nat}
set_option maxRecDepth 100000 in
theorem open_tokens2 {v : Value} {d : DataW H} {p : List MemPlace} (hv : Value.okWide Tryz.prog w .any base 22 v) (h : DataW.Trod enc Tryz.prog w 0 (fun _ => true) true 22 v d p) :
    ∃ (A : Option Addr) (l : List Tk) (cap : Nat), v = .slice A l.length cap ∧ l.length ≤ cap ∧ l.length ≤ maxLen ∧ RdA w A l ∧ (∀ t ∈ l, TkIn t) ∧ (A = none → cap = 0) := by
  obtain ⟨A, l, cap, rfl, h1, h2, h3, h4⟩ := open_tokens hv h
  refine ⟨A, l, cap, rfl, h1, h2, h3, h4, fun hA => ?_⟩
  subst hA
  obtain ⟨fuel, hf⟩ := h
  rcases open_slice Tryz.underlying22 hf with ⟨q, _⟩ | ⟨a, len', cap', m, n, D, Pl, hcs, _⟩
  · have q : [Value.slice none l.length cap] = [.slice none 0 0] := q
    injection q with q
    injection q
  · have hcs : [Value.slice none l.length cap] = [.slice (some a) len' cap'] := hcs
    injection hcs with hcs
    injection hcs with e1
    cases e1
end

set_option maxRecDepth 100000 in
/-- tokens of somewhere else, put behind nothing -/
theorem tk_all {ops : Array Oper} {rest : List Oper} {o : Oper} {a : Act} {Q : Exit → Act → World → Prop} (hgd : o.guard = none) (s x : Operand)
    (ho : o.op = .call { callee := .builtin .append, args := #[s, x], argTypes := #[22, 22] })
    {w : World} (hs : a.eval s = .slice none 0 0) {A : Option Addr} {l : List Tk} {cap : Nat} (hx : a.eval x = .slice A l.length cap) (hr : RdA w A l) (hA : A = none → cap = 0) (hl : l.length ≤ 70000)
    (kk : ∀ v' w', TB w.heap.size v' l w w' → wpList Tryz.prog ops Q rest (a.put o.dst v') w') : wpList Tryz.prog ops Q (o :: rest) a w := by
  obtain ⟨i0, hi, hz0, hz1, hz2⟩ := info_parts tk_info
  cases A with
  | none =>
    have hc := hA rfl
    subst hc
    have hl0 : l = [] := by
      cases l with
      | nil => rfl
      | cons t r => obtain ⟨b, hb, _⟩ := hr (by simp); cases hb
    subst hl0
    exact wpList_append_own_none hgd s x 22 ho w.heap.size 25 i0 4 Tryz.underlying22 hi (.slice none 0 0) 0 [] hs (World.ownsRow_nil _ _ _ _) hx (kk _ _ (tb_nil w))
  | some ad =>
    refine wpList_append_own _ hgd s x 22 ho w.heap.size 25 i0 (.agg #[.int .u8 0, .int .i64 0, .string ⟨#[]⟩, .float .f64 0]) 4 40 Tryz.underlying22 hi hz0 hz1 hz2 rfl (by decide) (.slice none 0 0) 0 [] hs (World.ownsRow_nil _ _ _ _) ad l.length cap (tkCells l) hx (tkCells_len l) ?_ ?_ ?_ ?_ ?_ ?_
    · intro j u hj
      have hlt : j < (tkCells l).length := (List.getElem?_eq_some_iff.1 hj).1
      rw [tkCells_len] at hlt
      obtain ⟨b, hb, _, hc⟩ := hr (by omega)
      injection hb with hb; subst hb
      rw [hc j hlt, hj]
    · intro u hu
      unfold tkCells at hu
      rw [List.mem_flatMap] at hu
      obtain ⟨t, _, ht⟩ := hu
      simp [tkC] at ht; rcases ht with rfl | rfl | rfl | rfl <;> rfl
    · unfold maxLen; omega
    · omega
    · exact Nat.le_refl _
    · intro v' w' hown hgrow _
      refine kk v' w' ⟨?_, ?_, ?_⟩
      · rw [Nat.zero_add, List.nil_append] at hown; exact hown
      · exact (Below.refl _ _).grown hgrow (Nat.le_refl _) (fun k hk => by simp [Value.ownBlock] at hk)
      · exact hgrow.size

/-- the row of the call's own: the tokens, and one behind -/
def OW (w : World) (g : Nat) (l : List Tk) : Prop := g < w.heap.size ∧ RdA w (some ⟨g, 0, none⟩) l ∧ (∀ (k : Nat) (hk : k < l.length), w.cell? ⟨g, k * 4, none⟩ = some (.int .u8 (l[k].kind : Int)) ∧ w.cell? ⟨g, k * 4 + 1, none⟩ = some (.int .i64 l[k].pos) ∧ w.cell? ⟨g, k * 4 + 2, none⟩ = some (.string l[k].text) ∧ w.cell? ⟨g, k * 4 + 3, none⟩ = some (.float .f64 l[k].num)) ∧ w.cell? ⟨g, l.length * 4, none⟩ = some (.int .u8 77)
theorem ow_up {w w' : World} {g : Nat} {l : List Tk} (h : OW w g l) (hb : Below w.heap.size w w') : OW w' g l := by
  obtain ⟨h1, h2, h3, h4⟩ := h
  have e : ∀ o, w'.cell? ⟨g, o, none⟩ = w.cell? ⟨g, o, none⟩ := fun o => hb.cell (p := ⟨g, o, none⟩) h1
  refine ⟨Nat.lt_of_lt_of_le h1 hb.size, rda_up h2 hb, fun k hk => ?_, (e _).trans h4⟩
  obtain ⟨c0, c1, c2, c3⟩ := h3 k hk
  exact ⟨(e _).trans c0, (e _).trans c1, (e _).trans c2, (e _).trans c3⟩
theorem own77 {B : Nat} {v : Value} {l : List Tk} {w0 w : World} (h : TB B v (l ++ [⟨77, 0, ⟨#[]⟩, 0⟩]) w0 w) : ∃ g cap, v = .slice (some ⟨g, 0, none⟩) (l.length + 1) cap ∧ l.length + 1 ≤ cap ∧ OW w g l := by
  have hlen : (l ++ [(⟨77, 0, ⟨#[]⟩, 0⟩ : Tk)]).length = l.length + 1 := by simp
  obtain ⟨g, cap, hv, hg, _, hc⟩ := tb_cells h (by rw [hlen]; omega)
  have hcap : l.length + 1 ≤ cap := by
    rw [hv] at h
    have := tb_capl h
    rw [hlen] at this
    exact this
  have hrd : RdA w (some ⟨g, 0, none⟩) l := by
    rw [hv] at h
    have := rda_take (rda_tb h) l.length (by rw [hlen]; omega)
    rw [List.take_left] at this
    exact this
  rw [hlen] at hv hc
  refine ⟨g, cap, hv, hcap, hg, hrd, fun k hk => ?_, ?_⟩
  · have hk2 : k < (l ++ [(⟨77, 0, ⟨#[]⟩, 0⟩ : Tk)]).length := by rw [hlen]; omega
    have e : (l ++ [(⟨77, 0, ⟨#[]⟩, 0⟩ : Tk)])[k] = l[k] := List.getElem_append_left hk
    have q := fun j hj => (hc (k * 4 + j) (by omega)).trans (tkCells_at _ k hk2 j hj)
    rw [e] at q
    exact ⟨q 0 (by omega), q 1 (by omega), q 2 (by omega), q 3 (by omega)⟩
  · have hk2 : l.length < (l ++ [(⟨77, 0, ⟨#[]⟩, 0⟩ : Tk)]).length := by rw [hlen]; omega
    have e : (l ++ [(⟨77, 0, ⟨#[]⟩, 0⟩ : Tk)])[l.length] = ⟨77, 0, ⟨#[]⟩, 0⟩ := by simp
    have q := (hc (l.length * 4 + 0) (by omega)).trans (tkCells_at _ l.length hk2 0 (by omega))
    rw [e] at q
    exact q

set_option maxHeartbeats 4000000 in
set_option maxRecDepth 1000000 in
theorem tokens_in (l : List Tk) (A : Option Addr) (cap : Nat) (w : World) (hr : RdA w A l) (hin : ∀ t ∈ l, TkIn t) (hl : l.length ≤ 1000 ∨ (16385 < l.length ∧ l.length ≤ 17000)) (hA : A = none → cap = 0) (htab : TabHere w) (s : List UInt8) (k : Int) (hk : TextR l s k) :
    Calls Tryz.prog 3 #[.slice A l.length cap] w fun e w' => e = .returned (.bool true) ∧ Below w.heap.size w w' := by
  have hlen : l.length ≤ 17000 := by omega
  obtain ⟨y, hy⟩ : ∃ y, mkB s = y := ⟨_, rfl⟩
  have kx : ∀ (w : World) (g c : Nat), RdA w (some ⟨g, 0, none⟩) l → l.length ≤ c → TabHere w → Calls Tryz.prog 10 #[.slice (some ⟨g, 0, none⟩) l.length c] w (fun e w' => e = .returned (.tuple #[.string y, .int .i64 k]) ∧ Below w.heap.size w w') := fun w g c h1 h2 h3 => by
    rw [← hy]; exact Text_any l _ c w h1 hin (by omega) h2 h3 s k hk
  have kr : ∀ (w : World), RdA w A l → Calls Tryz.prog 11 #[.slice A l.length cap] w (fun e w' => e = .returned (.tuple #[.string y, .int .i64 k]) ∧ Below w.heap.size w w') := fun w h1 => by
    rw [← hy]; exact RefText_any l A cap w h1 hin (by omega) s k hk
  have hord : ∀ t ∈ l, FloatKind.f64.format.order t.num t.num = some .eq ∨ FloatKind.f64.format.order t.num t.num = none := fun t ht => by
    obtain ⟨c, hc⟩ := cls t.num (hin t ht).2.2
    rw [self_cls hc]
    cases c
    · exact Or.inr rfl
    · exact Or.inl rfl
    · exact Or.inl rfl
  have HR := Lib.hid hr
  have HT := Lib.hid htab
  have HO := Lib.hid hord
  have g2 : ¬ 17000 < (l.length : Int) := by omega
  have HA := Lib.hid hA
  clear hr htab hin hy hk hA hord
  rcases hl with hl | ⟨hl, hl2⟩
  all_goals
    first
    | have q1 : ¬ 1000 < (l.length : Int) := by omega
    | (have q1 : 1000 < (l.length : Int) := by omega
       have q2 : ¬ (l.length : Int) ≤ 16385 := by omega)
    go_enter Tryz.func3, Tryz.ntmps3
    go_wp2_with (first
      | (at_builtin; refine tk_all rfl _ _ rfl rfl rfl HR.out HA.out (by omega) ?_; intro v1 w1 h1; obtain ⟨A1, c1, hv1⟩ := tb_shape h1; subst hv1; have H1 := Lib.hid h1; clear h1)
      | (at_builtin; refine tk_app rfl _ _ rfl H1.out rfl ⟨77, 0, ⟨#[]⟩, 0⟩ _ _ _ _ rfl rfl rfl rfl (by simp [Act.eval]) (by omega) ?_; intro v2 w2 h2; obtain ⟨g, cap2, hv2, hcap2, how⟩ := own77 h2; subst hv2; have H2 := Lib.hid h2.2.1; have HOW := Lib.hid how; clear h2 how)
      | (go_at_call 10; refine (kx _ g cap2 HOW.out.2.1 (by omega) (tab_below HT.out H2.out)).mono ?_; rintro e w3 ⟨rfl, h3⟩; have H3 := Lib.hid (below_up H2.out h3); have HOW3 := Lib.hid (ow_up HOW.out h3); clear h3)
      | (go_at_call 11; refine (kr _ (rda_up HR.out H3.out)).mono ?_; rintro e w4 ⟨rfl, h4⟩; have H4 := Lib.hid (below_up H3.out h4); have HOW4 := Lib.hid (ow_up HOW3.out h4); clear h4))
    have HR4 := Lib.hid (rda_up HR.out H4.out)
    clear HOW HOW3 H1 H2 H3 HR kx kr HT HA
    go_loopw [8] (fun i wr => ∃ j : Nat, j ≤ l.length ∧ i = .int .i64 j ∧ Hid (Below w4.heap.size w4 wr)) (fun i _ => l.length - (intOf i).toNat)
    case atStart => exact ⟨0, Nat.zero_le _, rfl, Lib.hid (Below.refl _ _)⟩
    case round =>
      obtain ⟨j, hj, rfl, H⟩ := hrel
      by_cases hlt : j < l.length
      · obtain ⟨a, rfl, hab, a0, a1, a2, a3⟩ := rda_cells (rda_up HR4.out H.out) j hlt
        obtain ⟨b0, b1, b2, b3⟩ := (ow_up HOW4.out H.out).2.2.1 j hlt
        have ho := HO.out l[j] (List.getElem_mem _)
        generalize l[j] = t at *
        have f1 := fun w => eq_float 9998 t.num t.num w
        have j0 : (0 : Int) ≤ (j : Int) := by omega
        have j1 : (j : Int) < (l.length : Int) := by omega
        have j2 : (j : Int) < (l.length : Int) + 1 := by omega
        rcases ho with ho | ho
        · rw [ho] at f1
          have f1 : ∀ w, (Op.equalIn 9999 23 (.float .f64 t.num) (.float .f64 t.num)).run Tryz.prog w = .ok true w := f1
          have hf1 : (FloatKind.f64.format.order t.num t.num == some .eq) = true := by rw [ho]; rfl
          clear ho
          go_wp2_with (fail)
          go_quiet (fail)
          go_wp2
          go_roundw
          case rel => exact ⟨j + 1, by omega, by go_num, Lib.hid (below_draw2 H.out _)⟩
          case measure => simp [intOf]; omega
        · rw [ho] at f1
          have f1 : ∀ w, (Op.equalIn 9999 23 (.float .f64 t.num) (.float .f64 t.num)).run Tryz.prog w = .ok false w := f1
          have hf1 : (FloatKind.f64.format.order t.num t.num == some .eq) = false := by rw [ho]; rfl
          clear ho
          go_wp2_with (fail)
          go_quiet (fail)
          go_wp2
          go_roundw
          case rel => exact ⟨j + 1, by omega, by go_num, Lib.hid (below_draw2 H.out _)⟩
          case measure => simp [intOf]; omega
      · have hjl : j = l.length := by omega
        have hlt' : ¬ (j : Int) < (l.length : Int) := by omega
        have c77 := (ow_up HOW4.out H.out).2.2.2
        have HF := Lib.hid (below_up H4.out H.out)
        clear H H4 HOW4 HR4 HO
        go_wp2
        go_ret
        exact ⟨rfl, HF.out⟩

set_option maxHeartbeats 2000000 in
set_option maxRecDepth 1000000 in
theorem LexTokens_walk (l : List Tk) (w : World) (A : Option Addr) (cap : Nat) (hr : RdA w A l) (hin : ∀ t ∈ l, TkIn t) (hlm : l.length ≤ maxLen) (hA : A = none → cap = 0) (htab : TabHere w) :
    Calls Tryz.prog 3 #[.slice A l.length cap] w fun e w' => e = .returned (.bool true) ∧ Below w.heap.size w w' := by
  unfold maxLen at hlm
  by_cases h1 : l.length ≤ 1000 ∨ (16385 < l.length ∧ l.length ≤ 17000)
  · obtain ⟨s, k, hk⟩ := textR_any l
    exact tokens_in l A cap w hr hin h1 hA htab s k hk
  · clear hr hin htab hA
    by_cases h2 : 17000 < l.length
    · have q1 : 1000 < (l.length : Int) := by omega
      have q2 : ¬ (l.length : Int) ≤ 16385 := by omega
      have q3 : 17000 < (l.length : Int) := by omega
      clear h1 h2
      go_enter Tryz.func3, Tryz.ntmps3
      go_wp2
      go_ret
      exact ⟨rfl, Below.refl _ _⟩
    · have q1 : 1000 < (l.length : Int) := by omega
      have q2 : (l.length : Int) ≤ 16385 := by omega
      clear h1 h2
      go_enter Tryz.func3, Tryz.ntmps3
      go_wp2
      go_ret
      exact ⟨rfl, Below.refl _ _⟩
end Go.Proofs.YtgjpcoplnpkmoaaGreatDoor.S
