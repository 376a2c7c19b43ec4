/-
  The law KeyOrder: its walk, for any list of keys.
-/
import Derived.Test.YtlgbnfcnimjheaaDoorKeyOrderLaw
namespace Go.Proofs.YtlgbnfcnimjheaaDoor.S
open Go.RowKit Fl

theorem rk_put {w : World} {A : Option Addr} {M : List Ky} {O : Nat} (h : RK w A M) (hne : ∀ a, A = some a → a.block ≠ O) (i : Nat) (v : Value) : RK (w.setCell ⟨O, i, none⟩ v) A M := fun hp => by
  obtain ⟨a, h1, h2, h3⟩ := h hp
  have ha : ∀ k, (a.add k).block = a.block := fun k => by unfold Addr.add; split <;> rfl
  have e : ∀ b o, b = a.block → (w.setCell ⟨O, i, none⟩ v).cell? ⟨b, o, none⟩ = w.cell? ⟨b, o, none⟩ := fun b o hb => World.cell?_of_block (a := ⟨b, o, none⟩) (by
    subst hb
    exact heap_setCell_other _ _ _ _ (hne a h1))
  have f : ∀ p : Addr, p.block = a.block → (w.setCell ⟨O, i, none⟩ v).cell? p = w.cell? p := fun p hb => World.cell?_of_block (by
    rw [hb]
    exact heap_setCell_other _ _ _ _ (hne a h1))
  refine ⟨a, h1, by simpa using h2, fun j hj => ?_⟩
  obtain ⟨c0, c1⟩ := h3 j hj
  exact ⟨(f _ (ha _)).trans c0, (e _ _ (ha _)).trans c1⟩
theorem own_want {B : Nat} {M : List Ky} {v : Value} {w : World} (h : w.ownsRow B 24 2 v M.length (kyCells M)) : ∃ V cap, v = .slice V M.length cap ∧ RK w V M ∧ ∀ a, V = some a → B ≤ a.block := by
  rcases h.2 with ⟨rfl, h1⟩ | ⟨g, cap, cur, rfl, hb, _⟩
  · refine ⟨none, 0, by rw [h1], fun hp => by omega, fun a ha => by cases ha⟩
  · exact ⟨_, cap, rfl, own_rk h (List.append_nil M).symm, fun a ha => by cases ha; exact hb⟩
/-- what the law keeps behind both calls of Order -/
structure KO (w : World) (L M : List Ky) (g O : Nat) (V : Option Addr) (wr : World) : Prop where
  below : Below w.heap.size w wr
  ok : OK7 wr g L
  out : ∃ cs : Array Value, cs.size = L.length * 2 ∧ wr.heap[O]? = some (.cells cs 24 (0, 0))
  want : RK wr V M
structure KF (w : World) (L M : List Ky) (g O : Nat) (V : Option Addr) : Prop where
  gO : g ≠ O
  wO : w.heap.size ≤ O
  V : ∀ a, V = some a → a.block ≠ O
  ord : OrdOf L M
theorem KO.up {w wr w' : World} {L M : List Ky} {g O : Nat} {V : Option Addr} (h : KO w L M g O V wr) (hb : Below wr.heap.size wr w') : KO w L M g O V w' := by
  obtain ⟨cs, h1, h2⟩ := h.out
  exact ⟨vb h.below hb, ok7_up h.ok hb, ⟨cs, h1, vblkn hb h2⟩, rk_up h.want hb⟩
theorem KO.put {w wr : World} {L M : List Ky} {g O : Nat} {V : Option Addr} (h : KO w L M g O V wr) (f : KF w L M g O V) (i : Nat) (a : Value) : KO w L M g O V (wr.setCell ⟨O, i, none⟩ a) := by
  obtain ⟨cs, h1, h2⟩ := h.out
  exact ⟨h.below.setCell (p := ⟨O, i, none⟩) f.wO a, ok7_same h.ok (heap_setCell_other _ _ _ _ f.gO) (by simp), ⟨cs.setIfInBounds i a, by simpa using h1, vset1 h2 i a⟩, rk_put h.want f.V i a⟩

set_option maxHeartbeats 8000000 in
set_option maxRecDepth 1000000 in
theorem KeyOrder_walk (A : Option Addr) (L : List Ky) (cap : Nat) (w : World) (hin : ∀ k ∈ L, KyIn k) (_hl2 : L.length ≤ maxLen) (hL : RK w A L) (hA : A = none → cap = 0) (htab : TabHere w) :
    Calls Tryd.prog 3 #[.slice A L.length cap] w fun e w' => e = .returned (.bool true) ∧ Below w.heap.size w w' := by
  have HTAB := Lib.hid htab
  have HAN := Lib.hid hA
  clear htab
  by_cases h400 : 400 < L.length
  · have hz : (400 : Int) < (L.length : Int) := by omega
    go_enter Tryd.func3, Tryd.ntmps3
    go_wp2_with (fail)
    go_ret
    exact ⟨rfl, Below.refl _ _⟩
  · have hz : decide ((400 : Int) < (L.length : Int)) = false := by simp; omega
    have hn : L.length ≤ 400 := by omega
    clear hA
    go_enter Tryd.func3, Tryd.ntmps3
    go_wp2_with (first
      | (at_builtin; refine ky_all rfl _ _ rfl rfl rfl hL HAN.out (by omega) ?_; intro v1 w1 R1; have R1 := Lib.hid R1)
      | (at_builtin; refine rw_app rfl _ _ rfl R1.out rfl (⟨#[55, 55]⟩ : ByteArray) 0 rfl (by omega) ?_; intro v2 w2 R2; obtain ⟨g, cap2, hv, hB, hg, hc⟩ := own_pos R2.out (by rw [List.length_append]; exact Nat.succ_pos _); simp only [List.length_append, List.length_cons, List.length_nil, Nat.zero_add] at hv hc; subst hv; have R2 := Lib.hid R2; have hcn : L.length ≤ cap2 := Nat.le_of_succ_le hc; have hcz : (L.length : Int) ≤ (cap2 : Int) := Int.ofNat_le.2 hcn))
    have OK := Lib.hid (ok7_of R2.out.out)
    have HB2 := Lib.hid R2.out.below
    clear R2 R1 hc hB
    go_at_call 5
    refine (Order_k (some ⟨g, 0, none⟩) L cap2 w2 hin (by omega) OK.out.rk (tab_up HTAB.out HB2.out)).mono ?_
    rintro e w3 ⟨M, O, rfl, hO, hO1, hO2, h3⟩
    have K3 := Lib.hid (And.intro (vb HB2.out h3) (ok7_up OK.out h3))
    have hgO : g ≠ O := Nat.ne_of_lt (Nat.lt_of_lt_of_le OK.out.lt hO1)
    have hwO : w.heap.size ≤ O := Nat.le_trans HB2.out.size hO1
    have HO := Lib.hid hO
    have HO2 := Lib.hid hO2
    have hML : M.length = L.length := hO.len
    clear hO hO1 hO2 h3 HB2 OK
    go_wp2_with (fail)
    go_at_call 6
    refine (refOrder_k A L cap w3 hn (rk_up hL K3.out.1)).mono ?_
    rintro e w4 ⟨v, M', rfl, hM, hown, h4⟩
    obtain rfl := ord_eq hM HO.out
    obtain ⟨V, capv, rfl, hV, hVO⟩ := own_want hown
    have HF : Hid (KF w L M' g O V) := Lib.hid ⟨hgO, hwO, fun a ha e => by
      have h1 := hVO a ha
      have h2 := lt_blk HO2.out
      omega, HO.out⟩
    have HK : Hid (KO w L M' g O V w4) := Lib.hid ⟨vb K3.out.1 h4, ok7_up K3.out.2 h4, ⟨_, by rw [List.size_toArray, ky_len, hML], vblkn h4 HO2.out⟩, hV⟩
    have hR4 := Lib.hid (rk_blk (vblkn h4 HO2.out))
    clear hV hVO hown hM HO HO2 K3 h4 hgO hwO
    go_wp2_with (fail)
    go_at_call 7
    have hs := refSame_yes (some ⟨O, 0, none⟩) V M' L.length capv w4 (by omega) hR4.out HK.out.want
    rw [hML] at hs
    refine hs.mono ?_
    rintro e w5 ⟨rfl, h5⟩
    have K5 := Lib.hid (HK.out.up h5)
    have hMn : M'.length < 1000000000000 := by omega
    have HML := Lib.hid hML
    clear hR4 HK h5 hs hML
    go_wp2_with (fail)
    go_loopg [6] L.length (fun kx s6 wr => ∃ i : Nat, s6 = .int .i64 i ∧ i + kx = L.length ∧ Hid (KO w L M' g O V wr))
    case atStart => exact ⟨0, rfl, by omega, K5⟩
    case round =>
      clear K5
      obtain ⟨i, rfl, hik, K⟩ := hrel
      cases gk with
      | zero =>
        obtain rfl : i = L.length := by omega
        go_wp2_with (fail)
        go_at_call 7
        refine (refSame_yes (some ⟨g, 0, none⟩) A L cap2 cap wr (by omega) K.out.ok.rk (rk_up hL K.out.below)).mono ?_
        rintro e w6 ⟨rfl, h6⟩
        have K6 := Lib.hid (K.out.up h6)
        clear K h6
        have c0 := K6.out.ok.s
        have c1 := K6.out.ok.i
        have gl := K6.out.ok.lt
        have hlz : (L.length : Int) < (L.length : Int) + 1 := by omega
        have qe := key_eq 9998 (⟨#[55, 55]⟩ : ByteArray) (⟨#[55, 55]⟩ : ByteArray) 0 0
        rw [show (((⟨#[55, 55]⟩ : ByteArray) : ByteArray) == (⟨#[55, 55]⟩ : ByteArray) && (0 : Int) == 0) = true from rfl] at qe
        go_wp2_with (fail)
        go_at_call 5
        refine (Order_k A L cap w6 hin (by omega) (rk_up hL K6.out.below) (tab_up HTAB.out K6.out.below)).mono ?_
        rintro e w7 ⟨M2, O2, rfl, hO, _, hb7, h7⟩
        obtain rfl := ord_eq HF.out.ord hO
        have K7 := Lib.hid (K6.out.up h7)
        have hs := refSame_yes (some ⟨O2, 0, none⟩) V M' L.length capv w7 hMn (rk_blk hb7) K7.out.want
        rw [HML.out] at hs
        clear hO hb7 h7 K6 c0 c1 gl
        go_wp2_with (fail)
        go_at_call 7
        refine hs.mono ?_
        rintro e w8 ⟨rfl, h8⟩
        have K8 := Lib.hid (K7.out.up h8)
        clear h8 K7 hs
        go_wp2_with (fail)
        go_ret
        exact ⟨rfl, K8.out.below⟩
      | succ kx =>
        have hlt : i < L.length := by omega
        have hlz : (i : Int) < (L.length : Int) := by omega
        obtain ⟨cs, hcz, hob⟩ := K.out.out
        have hOl := lt_blk hob
        obtain ⟨x0, hx0⟩ : ∃ x, cs[i * 2]? = some x := ⟨_, Array.getElem?_eq_getElem (by omega)⟩
        obtain ⟨x1, hx1⟩ : ∃ x, cs[i * 2 + 1]? = some x := ⟨_, Array.getElem?_eq_getElem (by omega)⟩
        have o0 := (vcells hob (i * 2)).trans hx0
        have o1 := (vcells hob (i * 2 + 1)).trans hx1
        have oz := vfz hob
        have PP := Lib.hid ((K.out.put HF.out (i * 2) (.string (⟨#[55, 55]⟩ : ByteArray))).put HF.out (i * 2 + 1) (.int .i64 0))
        clear hob hx0 hx1 hcz
        go_wp2_with (fail)
        go_roundg kx
        case measure => omega
        case rel => exact ⟨i + 1, by simp, by omega, PP⟩
end Go.Proofs.YtlgbnfcnimjheaaDoor.S
