/-
  LexSpaces: blanks and comments between tokens change nothing but places: facts and the walk.
-/
import Derived.Test.YtgjpcoplnpkmoaaDoorLexBackWalk
import Derived.Test.YtgjpcoplnpkmoaaDoorLexOpen
namespace Go.Proofs.YtgjpcoplnpkmoaaDoor.S
open Go.RowKit Fl

def spS : List UInt8 := [32, 47, 42, 32, 59, 32, 42, 47, 10, 9]
def spA : List UInt8 := [47, 47, 120, 10]
def spE : List UInt8 := [47, 42, 42, 47]
def spread (l : List Tk) : List UInt8 := l.flatMap fun t => writL t ++ spS
theorem skip_spS : skipS spS := fun i _ _ => ⟨i + 1, rfl⟩
theorem skip_spA : skipS spA := fun _ st _ => ⟨st, rfl⟩
theorem skipE_a : skipE (spA ++ spE) := fun _ _ => rfl
theorem skipE_s : skipE (spS ++ spE) := fun _ _ => rfl
theorem spread_laid : ∀ l : List Tk, spS ++ (spread l ++ spE) = laidB spS (spS ++ spE) l
  | [] => rfl
  | t :: r => by
    show spS ++ (writL t ++ spS ++ spread r ++ spE) = spS ++ (writL t ++ laidB spS (spS ++ spE) r)
    rw [← spread_laid r]; simp
theorem spread_len : ∀ l : List Tk, l.length ≤ (spread l).length
  | [] => Nat.zero_le _
  | t :: r => by
    have := spread_len r
    show r.length + 1 ≤ (writL t ++ spS ++ spread r).length
    simp [spS]; omega
theorem spread_big (l : List Tk) (h : ∀ t ∈ l, TokP t) : (spread l).length ≤ 20010 * l.length := by
  induction l with
  | nil => simp [spread]
  | cons t r ih =>
    have h1 := writ_len (h t List.mem_cons_self)
    have h2 := ih fun x hx => h x (List.mem_cons_of_mem _ hx)
    show (writL t ++ spS ++ spread r).length ≤ 20010 * (r.length + 1)
    simp [spS]; omega
theorem spread_snoc (l : List Tk) (t : Tk) : spread (l ++ [t]) = spread l ++ (writL t ++ spS) := by simp [spread]
theorem read_spread {l : List Tk} (h : MayP l) (hin : ∀ t ∈ l, TkIn t) (hlen : l.length ≤ 16385) (hsz : (spA ++ spread l.dropLast ++ spE).length ≤ 65536) : ∃ r, toks (spA ++ spread l.dropLast ++ spE) = .ok r ∧ SameL r l := by
  obtain ⟨b, e, rfl, hb, hk, ht, hz⟩ := may_split h fun t ht => (hin t ht).2.2
  rw [List.dropLast_concat] at hsz ⊢
  obtain ⟨r, p, hr, hs⟩ := read_all (sp := spS) (e := spS ++ spE) rfl skip_spS (Or.inr rfl) skipE_s (s0 := spA) (e0 := spE) skip_spA skipE_a b hb (spA ++ spread b ++ spE) (by
    cases b with
    | nil => rfl
    | cons t r =>
      show spA ++ (writL t ++ spS ++ spread r) ++ spE = spA ++ (writL t ++ laidB spS (spS ++ spE) r)
      rw [← spread_laid r]; simp) (by simp at hlen; omega) hsz (by have := spread_len b; simp; omega)
  refine ⟨_, hr, sameL_snoc hs ⟨hk.symm, ht.symm, ?_⟩⟩
  exact zero_sym (hin e (by simp)).2.2 hz

/-- one token and the end -/
def twoT (t : Tk) : List Tk := [t, ⟨0, 0, ⟨#[]⟩, 0⟩]
theorem two_text {t : Tk} (h : TokP t) (h0 : t.kind ≠ 0) (hx : t.num < 2 ^ 64) : TextR (twoT t) (writL t) 0 := by
  refine Or.inr (Or.inr (Or.inr ⟨by show 2 ≤ 16385; decide, ?_, ?_, ?_, rfl⟩))
  · exact told_may (b := [t]) fun u hu => by rw [List.mem_singleton] at hu; subst hu; exact ⟨h, h0, hx⟩
  · have := writ_len h
    show (writL t ++ []).length ≤ 65536
    rw [List.append_nil]; omega
  · show writL t = writL t ++ []
    rw [List.append_nil]
theorem two_in {t : Tk} (h : TkIn t) : ∀ u ∈ twoT t, TkIn u := by
  intro u hu
  unfold twoT at hu
  rw [List.mem_cons, List.mem_singleton] at hu
  rcases hu with rfl | rfl
  · exact h
  · exact ⟨by show (0 : Nat) < 256; decide, by show (⟨#[]⟩ : ByteArray).size ≤ _; decide, by show (0 : Nat) < 2 ^ 64; decide⟩
theorem two_rda (w : World) (t : Tk) : RdA (w.alloc (.cells #[.int .u8 (t.kind : Int), .int .i64 t.pos, .string t.text, .float .f64 t.num, .int .u8 0, .int .i64 0, .string ⟨#[]⟩, .float .f64 0] 28)) (some ⟨w.heap.size, 0, none⟩) (twoT t) := fun _ => by
  refine ⟨_, rfl, by simp, fun j hj => ?_⟩
  have e : (⟨w.heap.size, 0, none⟩ : Addr).add j = ⟨w.heap.size, j, none⟩ := by unfold Addr.add; split <;> simp_all
  rw [e, blk_cell (heap_alloc_new w _) j]
  match j with
  | 0 => rfl
  | 1 => rfl
  | 2 => rfl
  | 3 => rfl
  | 4 => rfl
  | 5 => rfl
  | 6 => rfl
  | 7 => rfl
  | j + 8 => exact absurd hj (by show ¬ j + 8 < 8; omega)

set_option maxHeartbeats 4000000 in
set_option maxRecDepth 1000000 in
theorem spaces_yes (l : List Tk) (A : Option Addr) (cap : Nat) (w : World) (hr : RdA w A l) (hin : ∀ t ∈ l, TkIn t) (hl : l.length ≤ 1000) (hcap : l.length ≤ cap) (htab : TabHere w) (u : List UInt8) (hu : TextR l u 0) :
    Calls Tryd.prog 5 #[.slice A l.length cap] w (RestTo w) := by
  obtain ⟨v, hv⟩ : ∃ v, mkB u = v := ⟨_, rfl⟩
  have kx := fun w h1 h2 => Text_at l A cap w h1 hin (by omega) hcap h2 u 0 hu v hv
  have hmay : MayP l := by
    rcases hu with ⟨_, _, e⟩ | ⟨_, _, _, e⟩ | ⟨_, _, _, _, e⟩ | ⟨_, h2, _⟩
    · cases e
    · cases e
    · cases e
    · exact h2
  have hpos : 0 < l.length := List.length_pos_iff.2 hmay.1
  have kal := lexalive_any
  have HR := Lib.hid hr
  have HT := Lib.hid htab
  have HIN := Lib.hid hin
  have HMAY := Lib.hid hmay
  clear hr htab hin hmay hu hv
  go_enter Tryd.func5, Tryd.ntmps5
  go_wp2_with (first
    | (go_at_call 10; refine (kal _).mono ?_; rintro e w1 ⟨rfl, hb1⟩; have HB1 := Lib.hid hb1; clear hb1)
    | (go_at_call 9; refine (kx _ (rda_up HR.out HB1.out) (tab_below HT.out HB1.out)).mono ?_; rintro e w2 ⟨rfl, hb2⟩; have HB2 := Lib.hid (below_up HB1.out hb2); clear hb2))
  go_loopw [6, 7] (fun all i wr => ∃ k : Nat, k + 1 ≤ l.length ∧ i = .int .i64 k ∧ all = .string (mkB (spA ++ spread (l.take k))) ∧ Hid (Below w.heap.size w wr)) (fun _ i _ => l.length - (intOf i).toNat)
  case atStart => exact ⟨0, hpos, rfl, rfl, HB2⟩
  case round =>
    obtain ⟨k, hk, rfl, rfl, H⟩ := hrel
    clear kx
    by_cases hlt : k + 1 < l.length
    · have hlk : k < l.length := by omega
      have hlt' : (k : Int) < (l.length : Int) - 1 := by omega
      obtain ⟨ht, hkd⟩ := may_at HMAY.out k hlk
      have hti := HIN.out l[k] (List.getElem_mem _)
      obtain ⟨a, rfl, hab, a0, a1, a2, a3⟩ := rda_cells (rda_up HR.out H.out) k hlk
      have hsn : spread (l.take (k + 1)) = spread (l.take k) ++ (writL l[k] ++ spS) := by rw [List.take_succ_eq_append_getElem hlk, spread_snoc]
      have hbig := spread_big (l.take k) fun t ht => by
        obtain ⟨j, hj⟩ := List.getElem?_of_mem ht
        exact (HMAY.out.2 j t (by rw [← hj, List.getElem?_take_of_lt (by have := (List.getElem?_eq_some_iff.1 hj).1; rw [List.length_take] at this; omega)])).1
      rw [List.length_take] at hbig
      have hwl := writ_len ht
      have hk0 : l[k].kind ≠ 0 := fun e => by have := hkd.1 e; omega
      have hx := two_text ht hk0 hti.2.2
      have h2in := two_in hti
      generalize l[k] = t at *
      obtain ⟨y, hy⟩ : ∃ y, mkB (writL t) = y := ⟨_, rfl⟩
      have k2 : ∀ w, TabHere w → Calls Tryd.prog 9 #[.slice (some ⟨w.heap.size, 0, none⟩) 2 2] (w.alloc (.cells #[.int .u8 (t.kind : Int), .int .i64 t.pos, .string t.text, .float .f64 t.num, .int .u8 0, .int .i64 0, .string ⟨#[]⟩, .float .f64 0] 28)) (fun e w' => e = .returned (.tuple #[.string y, .int .i64 0]) ∧ Below w.heap.size w w') := fun w hw => by
        have := Text_at (twoT t) (some ⟨w.heap.size, 0, none⟩) 2 _ (two_rda w t) h2in (by show 2 ≤ 100000; decide) (by show 2 ≤ 2; decide) (tab_below hw (zero_alloc w _)) _ _ hx y hy
        exact this.mono fun e w' ⟨he, hb⟩ => ⟨he, after_alloc hb⟩
      have HSZ := Lib.hid (show (mkB (spA ++ spread (l.take k))).size ≤ 50000000 ∧ y.size ≤ 20000 ∧ (⟨#[32, 47, 42, 32, 59, 32, 42, 47, 10, 9]⟩ : ByteArray).size = 10 ∧ (y ++ (⟨#[32, 47, 42, 32, 59, 32, 42, 47, 10, 9]⟩ : ByteArray)).size = y.size + 10 by
        refine ⟨?_, ?_, rfl, append_size _ _⟩
        · rw [mkB_size, List.length_append]
          have : spA.length = 4 := rfl
          omega
        · rw [← hy, mkB_size]; exact hwl)
      have HALL : Hid (mkB (spA ++ spread (l.take k)) ++ (y ++ ⟨#[32, 47, 42, 32, 59, 32, 42, 47, 10, 9]⟩) = mkB (spA ++ spread (l.take (k + 1)))) := Lib.hid (str_ext (by
        rw [append_list, append_list, ← hy, mkB_list, mkB_list, mkB_list, hsn]
        show (spA ++ spread (l.take k)) ++ (writL t ++ spS) = _
        simp))
      have HTr := Lib.hid (tab_below HT.out H.out)
      have hst := store_f
      clear hsn hbig hwl hx h2in hy ht hkd hti hk0
      generalize mkB (spA ++ spread (l.take k)) = X at *
      go_wp2_with (go_at_call 9; refine (k2 _ HTr.out).mono ?_; rintro e w3 ⟨rfl, hb3⟩; have HB3 := Lib.hid (below_up H.out hb3); clear hb3)
      all_goals try (exfalso; have h1 := HSZ.out; obtain ⟨q1, q2, q3, q4⟩ := h1; simp_all; done)
      all_goals try (exfalso; have h1 := HSZ.out; obtain ⟨q1, q2, q3, q4⟩ := h1; omega)
      go_roundw
      case rel => exact ⟨k + 1, hlt, by go_num, by rw [HALL.out], HB3⟩
      case measure => simp [intOf]; omega
    · have hkl : k + 1 = l.length := by omega
      have hlt' : ¬ (k : Int) < (l.length : Int) - 1 := by omega
      have e : l.take k = l.dropLast := by rw [List.dropLast_eq_take, show l.length - 1 = k by omega]
      rw [e]
      have hbig := spread_big l.dropLast fun t ht => by
        obtain ⟨j, hj⟩ := List.getElem?_of_mem (List.dropLast_subset l ht)
        exact (HMAY.out.2 j t hj).1
      rw [List.length_dropLast] at hbig
      have hsz : (mkB (spA ++ spread l.dropLast)).size = 4 + (spread l.dropLast).length := by rw [mkB_size, List.length_append]; rfl
      have hcat : mkB (spA ++ spread l.dropLast) ++ (⟨#[47, 42, 42, 47]⟩ : ByteArray) = mkB (spA ++ spread l.dropLast ++ spE) := str_ext (by rw [append_list, mkB_list, mkB_list]; rfl)
      by_cases hlong : 65536 < 4 + (spread l.dropLast).length + 4
      · have HX := Lib.hid hsz
        clear hsz hcat
        generalize mkB (spA ++ spread l.dropLast) = X at *
        have h1 : (X.size : Int) ≤ 30000000 := by have := HX.out; omega
        have h2 : 65536 < (X.size : Int) + 4 := by have := HX.out; omega
        go_wp2
        go_ret
        exact ⟨rfl, H.out⟩
      · obtain ⟨r, hr1, hr2⟩ := read_spread HMAY.out HIN.out (by omega) (by simp [spA, spE]; omega)
        have hr3 : r.length ≤ 70000 := by have := (told_in hr1).2.2; omega
        obtain ⟨y, hy⟩ : ∃ y, mkB (spA ++ spread l.dropLast ++ spE) = y := ⟨_, rfl⟩
        rw [hy] at hcat
        have hys : y.size ≤ 70000 := by rw [← hy, mkB_size]; simp [spA, spE]; omega
        have kt := fun w => tr_ok hys (by rw [← hy]; exact hr1) w
        have ks := fun A1 c1 W h1 h2 => same_yes r l A1 A c1 cap W h1 h2 hr2 hr3
        have HX := Lib.hid hsz
        have HC := Lib.hid hcat
        clear hsz hcat hr1 hr2 hy
        generalize mkB (spA ++ spread l.dropLast) = X at *
        have h1 : (X.size : Int) ≤ 65536 := by have := HX.out; omega
        have h2 : ¬ 65536 < (X.size : Int) + 4 := by have := HX.out; omega
        go_wp2_with (first
          | (go_at_call 6; rw [HC.out]; refine (kt _).mono ?_; rintro e w4 ⟨A4, c4, rfl, ht4⟩; have HT4 := Lib.hid (rda_tb ht4); have HB4 := Lib.hid (below_up H.out ht4.2.1); clear ht4)
          | (go_at_call 13; refine (ks A4 c4 _ HT4.out (rda_up HR.out HB4.out)).mono ?_; rintro e w5 ⟨rfl, hb5⟩; have HB5 := Lib.hid (below_up HB4.out hb5); clear hb5))
        all_goals try (exfalso; have h1 := HX.out; simp_all; done)
        go_ret
        exact ⟨rfl, HB5.out⟩
end Go.Proofs.YtgjpcoplnpkmoaaDoor.S
