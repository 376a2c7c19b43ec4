/-
  OrdinaryShuts: what its calls tell.
-/
import Derived.Test.YtkcikdggfbjedaaGreatDoorOD30
import Derived.Test.YtkcikdggfbjedaaGreatDoorOD26
import Derived.Test.YtkcikdggfbjedaaGreatDoorOD22
namespace Go.Proofs.YtkcikdggfbjedaaGreatDoor.S
open Go.RowKit Go.Lib Fl
open Classical

theorem doE_bare {H : List Ob} {m : Int} {k : Nat} {ky : Ky} {v : Vq} (hm : m = 1 ∨ m = 3 ∨ m = 4 ∨ m = 11) (h : mayH H = true) (hk : k < H.length) (hp : plainK H[k].kind = true) : doE H (akq m k ky (dz 0) v) = 0 := by
  have h1 : inB H (k : Int) = true := decide_eq_true ⟨Int.natCast_nonneg k, by omega⟩
  have h2 : askK H (k : Int) = true := by unfold askK; rw [Int.toNat_natCast, List.getElem?_eq_getElem hk]; exact hp
  unfold doE
  rw [h]
  rcases hm with rfl | rfl | rfl | rfl
  all_goals
    show mayE H (akq _ k ky (dz 0) v) = 0
    unfold mayE
    show (bif eightM _ && (inB H (k : Int) && askK H (k : Int)) then _ else _) = 0
    rw [h1, h2]
    rfl
/-- the object that was closed -/
def ShutIs (H M2 : List Ob) (k : Nat) : Prop := ∃ (h : k < M2.length) (g : k < H.length), M2[k].ext = false ∧ M2[k].kind = H[k].kind ∧ M2[k].props = H[k].props
def ShTo (H : List Ob) (k : Nat) (d : Nat) (w : World) (e : Ending) (w' : World) : Prop := ∃ B M2, e = .returned (.tuple #[.agg #[.slice (some ⟨B, 0, none⟩) d d], .agg (oqA (yesO true)), .int .i64 0]) ∧ (LeftH H B M2 w' ∧ ShutIs H M2 k) ∧ Below w.heap.size w w'
theorem shut_do {A : Option Addr} {H : List Ob} {cap k : Nat} {w : World} (hI : HIn w A H cap) (hp : ∀ o ∈ H, o.props.length ≤ 100000) (htab : TabHere w) (hE : doE H (akq 4 k kz (dz 0) v0) = 0) :
    Calls Tryz.prog 24 #[.agg #[.slice A H.length cap], .agg (akA (akq 4 k kz (dz 0) v0))] w (ShTo H k H.length w) := by
  have ha : (akq 4 (k : Int) kz (dz 0) v0).In := akq_in kz_in dz0_in (ok_in v0_ok)
  refine (Do_any A H cap _ w hI hp ha htab).mono fun e w' ⟨hb, h⟩ => ?_
  rcases h with ⟨hne, _⟩ | ⟨_, hm, k2, B, q, M2, hA, he, hD, hB⟩
  · exact absurd hE hne
  · obtain rfl : k2 = k := Int.ofNat.inj hA.n.symm
    have hk := hA.lt
    have hL := done_left hD hB hm hA ha hI.few hI.inn
    obtain ⟨M, p, hl, hkM, hM2, hs⟩ := hD.step
    obtain ⟨h1, h2⟩ := hs.m4 rfl
    have e1 := bare_k hl hkM hk
    have e2 := congrArg Ob.kind e1
    have e3 := congrArg Ob.props e1
    have e2 : M[k2].kind = H[k2].kind := e2
    have e3 : M[k2].props = H[k2].props := e3
    refine ⟨B, M2, by rw [he, h1], ⟨hL, ?_⟩, hb⟩
    subst hM2
    have hx : (M.set k2 p)[k2]'(by rw [List.length_set]; exact hkM) = p := List.getElem_set_self _
    refine ⟨by rw [List.length_set]; exact hkM, hk, ?_, ?_, ?_⟩
    · rw [hx, h2]; rfl
    · rw [hx, h2]; exact e2
    · rw [hx, h2]; exact e3
theorem shut_ext {H M2 : List Ob} {B k : Nat} {W : World} (hL : LeftH H B M2 W) (hS : ShutIs H M2 k) (hp : ∀ g : k < H.length, plainK H[k].kind = true) (htab : TabHere W) :
    Calls Tryz.prog 33 #[.agg #[.slice (some ⟨B, 0, none⟩) H.length H.length], .agg (akA (akq 3 k kz (dz 0) v0))] W fun e w' => ∃ B2 : Nat, e = .returned (.tuple #[.agg #[.slice (some ⟨B2, 0, none⟩) H.length H.length], .agg (oqA (yesO false))]) ∧ Below W.heap.size W w' := by
  obtain ⟨h1, h2, h3, h4, _⟩ := hS
  have ha : (akq 3 (k : Int) kz (dz 0) v0).In := akq_in kz_in dz0_in (ok_in v0_ok)
  have hd : doE M2 (akq 3 k kz (dz 0) v0) = 0 := doE_bare (.inr (.inl rfl)) hL.may h1 (by rw [h4]; exact hp h2)
  have := Does_any (some ⟨B, 0, none⟩) M2 M2.length _ W hL.inn hL.small ha htab
  unfold DoesTo at this
  rw [hL.len] at this
  refine this.mono fun e w' ⟨hb, h⟩ => ?_
  rcases h with ⟨hne, _⟩ | ⟨_, hm, k2, B2, q, M3, hA, he, hD, hB⟩
  · exact absurd hd hne
  · obtain rfl : k2 = k := Int.ofNat.inj hA.n.symm
    obtain ⟨M, p, hl, hkM, hM2, hs⟩ := hD.step
    obtain ⟨g1, _⟩ := hs.m3 rfl
    have e1 := congrArg Ob.ext (bare_k hl hkM h1)
    have e1 : M[k2].ext = M2[k2].ext := e1
    rw [e1, h3] at g1
    exact ⟨B2, by rw [he, g1], hb⟩
theorem shut_put {H M2 : List Ob} {B k : Nat} {W : World} {ky : Ky} {d : Dq} (hL : LeftH H B M2 W) (hS : ShutIs H M2 k) (hky : KyIn ky) (hd : d.In) (htab : TabHere W) :
    Calls Tryz.prog 24 #[.agg #[.slice (some ⟨B, 0, none⟩) H.length H.length], .agg (akA (akq 6 k ky d v0))] W fun e w' => ∃ v q E, v.oneCell' = true ∧ e = .returned (.tuple #[.agg #[v], .agg (oqA q), .int .i64 E]) ∧ (∀ g : k < H.length, E = 0 → (findT H[k].props ky).isSome = false → q = yesO false) ∧ Below W.heap.size W w' := by
  obtain ⟨h1, h2, h3, h4, h5⟩ := hS
  have ha : (akq 6 (k : Int) ky d v0).In := akq_in hky hd (ok_in v0_ok)
  have := Do_any (some ⟨B, 0, none⟩) M2 M2.length _ W hL.inn hL.small ha htab
  unfold DoTo at this
  rw [hL.len] at this
  refine this.mono fun e w' ⟨hb, h⟩ => ?_
  rcases h with ⟨hne, he⟩ | ⟨_, hm, k2, B2, q, M3, hA, he, hD, hB⟩
  · exact ⟨_, _, _, rfl, he, fun _ hz => absurd hz hne, hb⟩
  · obtain rfl : k2 = k := Int.ofNat.inj hA.n.symm
    refine ⟨_, _, _, rfl, he, fun g _ hf => ?_, hb⟩
    obtain ⟨M, p, hl, hkM, hM2, hs⟩ := hD.step
    have hT := hs.m6 rfl
    have e1 := bare_k hl hkM h1
    have e2 := congrArg Ob.ext e1
    have e3 := congrArg Ob.props e1
    have e2 : M[k2].ext = M2[k2].ext := e2
    have e3 : M[k2].props = M2[k2].props := e3
    refine (hT.no ?_).1
    have e4 : (akq 6 (k2 : Int) ky d v0).k = ky := rfl
    rw [e4, e3, h5, e2, h3, hf]
    unfold compatQ
    cases (!chkQ (akq 6 (k2 : Int) ky d v0).d || false && !wholeQ (fndD H[k2].props ky)) <;> rfl
end Go.Proofs.YtkcikdggfbjedaaGreatDoor.S
/-
  OrdinaryNames: what its calls tell.
-/
namespace Go.Proofs.YtkcikdggfbjedaaGreatDoor.S
open Go.RowKit Go.Lib Fl
open Classical

theorem two_in (b : Option Addr) (n : Nat) (hn : n < 2) : inB (H2 b) (n : Int) = true ∧ askK (H2 b) (n : Int) = true := by
  refine ⟨decide_eq_true (by constructor; exact Int.natCast_nonneg n; show (n : Int) < 2; omega), ?_⟩
  match n, hn with
  | 0, _ => rfl
  | 1, _ => rfl
theorem two_ext (b : Option Addr) (n : Nat) (hn : n < 2) : (H2 b)[n].ext = true := by
  match n, hn with
  | 0, _ => rfl
  | 1, _ => rfl
theorem leads_t (b : Option Addr) (r : Nat) (hr : r < 2) : leadsV (H2 b) (vT r) = true := by
  unfold leadsV
  have h : holdsB (H2 b) (vT r) = true := hold_t (vT_ok (Int.natCast_nonneg r) (by omega)) (by
    match r, hr with
    | 0, _ => rfl
    | 1, _ => rfl)
  rw [h]
  rfl
theorem leads_n (b : Option Addr) : leadsV (H2 b) vN = true := by
  unfold leadsV
  rw [hold_n (H := H2 b) vN_ok rfl]
  rfl
theorem bhd_01 (b : Option Addr) : Bhd (H2 b) ((0 : Nat) : Int) (vT 1) := .next (o := oB) rfl rfl (.here rfl rfl)
theorem bhd_10 (b : Option Addr) : ¬ Bhd (H2 b) ((1 : Nat) : Int) (vT 0) := fun h => by
  cases h with
  | here _ e => exact absurd e (by decide)
  | next _ e h2 =>
    have e2 : (H2 b)[(vT 0).r.toNat]? = some (oA b) := rfl
    rw [e2] at e
    obtain rfl := Option.some.inj e
    exact bhd_no rfl h2
theorem do_set (b : Option Addr) (n : Nat) (hn : n < 2) (v : Vq) (hv : leadsV (H2 b) v = true) : doE (H2 b) (akq 2 n kz (dz 0) v) = 0 := by
  obtain ⟨h1, h2⟩ := two_in b n hn
  unfold doE
  rw [may2]
  show mayE (H2 b) (akq 2 n kz (dz 0) v) = 0
  unfold mayE
  show (bif eightM 2 && (inB (H2 b) n && askK (H2 b) n) then (bif leadsV (H2 b) v then (0 : Int) else 9) else 2) = 0
  rw [h1, h2, hv]
  rfl
/-- a prototype set, of the chapter's heap -/
theorem names_set {B g n : Nat} {v : Vq} {W : World} (hT : TwoAt B g W) (htab : TabHere W) (hn : n < 2) (hvi : v.In) (hv : leadsV (H2 (some ⟨g, 0, none⟩)) v = true) (he : eqV v (H2 (some ⟨g, 0, none⟩))[n].proto = false) :
    Calls Tryz.prog 33 #[.agg #[.slice (some ⟨B, 0, none⟩) 2 2], .agg (akA (akq 2 n kz (dz 0) v))] W fun e w' => ∃ B2, e = .returned (.tuple #[.agg #[.slice (some ⟨B2, 0, none⟩) 2 2], .agg (oqA (yesO (!decide (Bhd (H2 (some ⟨g, 0, none⟩)) n v))))]) ∧ (Bhd (H2 (some ⟨g, 0, none⟩)) n v ∨ w'.cell? ⟨B2, n * 18 + 1, none⟩ = some (.int .u8 v.k)) ∧ Below W.heap.size W w' := by
  have := Does_any (some ⟨B, 0, none⟩) (H2 (some ⟨g, 0, none⟩)) 2 (akq 2 n kz (dz 0) v) W hT.inn two_few (akq_in kz_in dz0_in hvi) htab
  refine this.mono fun e w' ⟨hb, h⟩ => ?_
  rcases h with ⟨hne, _⟩ | ⟨_, hm, k, B2, q, M2, hA, h1, hD, hB⟩
  · exact absurd (do_set _ n hn v hv) hne
  · obtain rfl : k = n := Int.ofNat.inj hA.n.symm
    obtain ⟨M, p, hl, hkM, hM2, hs⟩ := hD.step
    obtain ⟨h2, h3⟩ := hs.m2 rfl
    have e1 := bare_k hl hkM hA.lt
    have e2 := congrArg Ob.proto e1
    have e3 := congrArg Ob.ext e1
    have e2 : M[k].proto = (H2 (some ⟨g, 0, none⟩))[k].proto := e2
    have e3 : M[k].ext = (H2 (some ⟨g, 0, none⟩))[k].ext := e3
    have h2 : q = yesO (eqV v M[k].proto || (M[k].ext && !decide (Bhd (H2 (some ⟨g, 0, none⟩)) (k : Int) v))) := h2
    have h3 : p = (if (!eqV v M[k].proto && (M[k].ext && !decide (Bhd (H2 (some ⟨g, 0, none⟩)) (k : Int) v))) = true then M[k].under v else M[k]) := h3
    rw [e2, e3, he, two_ext _ k hn, Bool.false_or, Bool.true_and] at h2
    refine ⟨B2, by rw [h1, h2]; rfl, ?_, hb⟩
    by_cases hbd : Bhd (H2 (some ⟨g, 0, none⟩)) (k : Int) v
    · exact .inl hbd
    · right
      rw [e2, e3, he, two_ext _ k hn, if_pos (by rw [decide_eq_false hbd]; rfl)] at h3
      have hk2 : k < M2.length := by rw [hM2, List.length_set]; exact hkM
      have hp : M2[k].proto = v := by
        have : M2[k] = p := by subst hM2; exact List.getElem_set_self _
        rw [this, h3]; rfl
      have h4 := (of_hcl hB hk2).proto.k
      rw [hp] at h4
      exact h4
/-- a heap that Do left, when a block of a heap is written -/
theorem LeftH.other {H : List Ob} {B : Nat} {M2 : List Ob} {W W' : World} {g : Nat} (h : LeftH H B M2 W) (hg : ∃ c, W.heap[g]? = some (.cells c 24 (0, 0))) (hO : ∀ j, j ≠ g → W'.heap[j]? = W.heap[j]?) : LeftH H B M2 W' := by
  obtain ⟨c, hc⟩ := hg
  refine ⟨(hO B fun e => ?_).trans h.b, h.rest.keep fun x cs hx => hO x (fun e => ?_), h.ins, h.len, h.few, h.may⟩
  · subst e; rw [h.b] at hc; cases hc
  · subst e; rw [hx] at hc; cases hc
/-- an object that is closed -/
theorem names_shut {B g : Nat} {W : World} (hT : TwoAt B g W) (htab : TabHere W) :
    Calls Tryz.prog 33 #[.agg #[.slice (some ⟨B, 0, none⟩) 2 2], .agg (akA (akq 4 1 kz (dz 0) v0))] W fun e w' => ∃ B2 M2, e = .returned (.tuple #[.agg #[.slice (some ⟨B2, 0, none⟩) 2 2], .agg (oqA (yesO true))]) ∧ (LeftH (H2 none) B2 M2 w' ∧ ShutIs (H2 none) M2 1) ∧ Below W.heap.size W w' := by
  have hE : doE (H2 (some ⟨g, 0, none⟩)) (akq 4 ((1 : Nat) : Int) kz (dz 0) v0) = 0 := doE_bare (.inr (.inr (.inl rfl))) (may2 _) (show 1 < 2 by decide) rfl
  have ha : (akq 4 ((1 : Nat) : Int) kz (dz 0) v0).In := akq_in kz_in dz0_in (ok_in v0_ok)
  have := Does_any (some ⟨B, 0, none⟩) (H2 (some ⟨g, 0, none⟩)) 2 (akq 4 ((1 : Nat) : Int) kz (dz 0) v0) W hT.inn two_few ha htab
  refine this.mono fun e w' ⟨hb, h⟩ => ?_
  rcases h with ⟨hne, _⟩ | ⟨_, hm, k2, B2, q, M2, hA, he, hD, hB⟩
  · exact absurd hE hne
  · obtain rfl : k2 = 1 := Int.ofNat.inj hA.n.symm
    have hL := done_left hD hB hm hA ha hT.inn.few hT.inn.inn
    obtain ⟨M, p, hl, hkM, hM2, hs⟩ := hD.step
    obtain ⟨h1, h2⟩ := hs.m4 rfl
    have e1 := bare_k hl hkM hA.lt
    have e2 := congrArg Ob.kind e1
    have e3 := congrArg Ob.props e1
    have e2 : M[1].kind = 1 := e2
    have e3 : M[1].props = [] := e3
    refine ⟨B2, M2, by rw [he, h1]; rfl, ⟨⟨hL.b, hL.rest, hL.ins, hL.len, hL.few, hL.may⟩, ?_⟩, hb⟩
    subst hM2
    have hx : (M.set 1 p)[1]'(by rw [List.length_set]; exact hkM) = p := List.getElem_set_self _
    refine ⟨by rw [List.length_set]; exact hkM, (show 1 < 2 by decide), ?_, ?_, ?_⟩
    · rw [hx, h2]; rfl
    · rw [hx, h2]; exact e2
    · rw [hx, h2]; exact e3
def kyB : Ky := ⟨(⟨#[98]⟩ : ByteArray), 0⟩
theorem kyB_in : KyIn kyB := by unfold KyIn; decide
theorem kyB_ok : mayKy kyB := by unfold mayKy; decide
end Go.Proofs.YtkcikdggfbjedaaGreatDoor.S
/-
  OrdinaryNames: what its further calls tell.
-/
namespace Go.Proofs.YtkcikdggfbjedaaGreatDoor.S
open Go.RowKit Go.Lib Fl
open Classical

theorem fnd_of2 {L : List Pq} {k : Ky} {p : Pq} (h : findT L k = some p) : fndD L k = p.d := by unfold fndD; rw [h]
def d7 : Dq := dN 4619567317775286272
theorem d7_in : d7.In := p7_in.2
theorem d7_ok : wholeQ d7 = true := p7_ok.2
theorem d7_chk : chkQ d7 = true := by
  have h := d7_ok
  unfold wholeQ at h
  exact (Bool.and_eq_true _ _ ▸ h).1
theorem dzh_in {h : Int} (h0 : 0 ≤ h) (h1 : h < 256) : (dz h).In := ⟨h0, h1, ok_in v0_ok, ok_in v0_ok, ok_in v0_ok⟩
theorem v0_may : v0.may = true := ok_may v0_ok
theorem chk_32 : chkQ (dz 32) = true := by
  unfold chkQ
  rw [show (dz 32).a = v0 from rfl, v0_may]
  kernel_rfl
theorem chk_5 : chkQ (dz 5) = false := by
  unfold chkQ
  kernel_rfl
theorem holds_0 {H : List Ob} : holdsB H v0 = true := hold_n v0_ok rfl
theorem do_def {H : List Ob} {k : Nat} {ky : Ky} {d : Dq} (h : mayH H = true) (hk : k < H.length) (hp : plainK H[k].kind = true) (hky : mayKy ky) (hc : chkQ d = true) (ha : holdsB H d.a = true) (hb : holdsB H d.b = true) (hg : holdsB H d.c = true) : doE H (akq 6 k ky d v0) = 0 := by
  have h1 : inB H (k : Int) = true := decide_eq_true ⟨Int.natCast_nonneg k, by omega⟩
  have h2 : askK H (k : Int) = true := by unfold askK; rw [Int.toNat_natCast, List.getElem?_eq_getElem hk]; exact hp
  unfold doE
  rw [h]
  show mayA H (akq 6 k ky d v0) = 0
  unfold mayA
  show (bif (6 : Int) == 6 then (bif inB H (k : Int) && askK H (k : Int) then mayD H (akq 6 k ky d v0) else 2) else _) = 0
  rw [h1, h2]
  show mayD H (akq 6 k ky d v0) = 0
  unfold mayD withinB
  show orE (keyE ky) (orE (errI (chkQ d)) (bif holdsB H d.a && (holdsB H d.b && holdsB H d.c) then 0 else 9)) = 0
  rw [keyE_ok.2 hky, hc, ha, hb, hg]
  rfl
theorem names_put {B : Nat} {M2 : List Ob} {W : World} (hL : LeftH (H2 none) B M2 W) (hS : ShutIs (H2 none) M2 1) (htab : TabHere W) :
    Calls Tryz.prog 33 #[.agg #[.slice (some ⟨B, 0, none⟩) 2 2], .agg (akA (akq 6 1 kyB d7 v0))] W fun e w' => ∃ B2 : Nat, e = .returned (.tuple #[.agg #[.slice (some ⟨B2, 0, none⟩) 2 2], .agg (oqA (yesO false))]) ∧ Below W.heap.size W w' := by
  obtain ⟨h1, h2, h3, h4, h5⟩ := hS
  have ha : (akq 6 ((1 : Nat) : Int) kyB d7 v0).In := akq_in kyB_in d7_in (ok_in v0_ok)
  have hE : doE M2 (akq 6 ((1 : Nat) : Int) kyB d7 v0) = 0 := do_def hL.may h1 (by rw [h4]; rfl) kyB_ok d7_chk (hold_n n7_ok rfl) holds_0 holds_0
  have := Does_any (some ⟨B, 0, none⟩) M2 M2.length _ W hL.inn hL.small ha htab
  unfold DoesTo at this
  rw [hL.len] at this
  refine this.mono fun e w' ⟨hb, h⟩ => ?_
  rcases h with ⟨hne, _⟩ | ⟨_, hm, k2, B2, q, M3, hA, he, hD, hB⟩
  · exact absurd hE hne
  · obtain rfl : k2 = 1 := Int.ofNat.inj hA.n.symm
    obtain ⟨M, p, hl, hkM, hM2, hs⟩ := hD.step
    have hT := hs.m6 rfl
    have e1 := bare_k hl hkM h1
    have e2 := congrArg Ob.ext e1
    have e3 := congrArg Ob.props e1
    have e2 : M[1].ext = M2[1].ext := e2
    have e3 : M[1].props = M2[1].props := e3
    have hq : q = yesO false := (hT.no (by
      have e4 : (akq 6 ((1 : Nat) : Int) kyB d7 v0).k = kyB := rfl
      rw [e4, e3, h5, e2, h3, show (H2 none)[1].props = [] from rfl, (fnd_none kyB).1]
      unfold compatQ
      cases (!chkQ (akq 6 ((1 : Nat) : Int) kyB d7 v0).d || false && !wholeQ (fndD [] kyB)) <;> rfl)).1
    exact ⟨B2, by rw [he, hq]; rfl, hb⟩
/-- the object whose property stays -/
def FixIs (M2 : List Ob) : Prop := ∃ h : 0 < M2.length, M2[0].kind = 1 ∧ (findT M2[0].props kyA).isSome = true ∧ (fndD M2[0].props kyA).z = false
theorem fix_compat (x : Bool) : (compatQ x (dz 32) true p7.d).1 = true := by
  unfold compatQ
  rw [chk_32, show wholeQ p7.d = true from p7_ok.2]
  rfl
theorem fix_apply (x : Bool) : applyQ x (dz 32) true p7.d = becomeQ (dz 32) p7.d := by
  unfold applyQ
  rw [fix_compat]
  rfl
theorem fix_z : (becomeQ (dz 32) p7.d).z = false := by kernel_rfl
theorem names_def {B g : Nat} {W : World} (hT : TwoAt B g W) (htab : TabHere W) :
    Calls Tryz.prog 33 #[.agg #[.slice (some ⟨B, 0, none⟩) 2 2], .agg (akA (akq 6 0 kyA (dz 32) v0))] W fun e w' => ∃ B2 M2, e = .returned (.tuple #[.agg #[.slice (some ⟨B2, 0, none⟩) 2 2], .agg (oqA (yesO true))]) ∧ (LeftH (H2 none) B2 M2 w' ∧ FixIs M2) ∧ Below W.heap.size W w' := by
  have hd : (dz 32).In := dzh_in (by decide) (by decide)
  have ha : (akq 6 ((0 : Nat) : Int) kyA (dz 32) v0).In := akq_in kyA_in hd (ok_in v0_ok)
  have hE : doE (H2 (some ⟨g, 0, none⟩)) (akq 6 ((0 : Nat) : Int) kyA (dz 32) v0) = 0 := do_def (may2 _) (show 0 < 2 by decide) rfl kyA_ok chk_32 holds_0 holds_0 holds_0
  have := Does_any (some ⟨B, 0, none⟩) (H2 (some ⟨g, 0, none⟩)) 2 (akq 6 ((0 : Nat) : Int) kyA (dz 32) v0) W hT.inn two_few ha htab
  refine this.mono fun e w' ⟨hb, h⟩ => ?_
  rcases h with ⟨hne, _⟩ | ⟨_, hm, k2, B2, q, M2, hA, he, hD, hB⟩
  · exact absurd hE hne
  · obtain rfl : k2 = 0 := Int.ofNat.inj hA.n.symm
    have hL := done_left hD hB hm hA ha hT.inn.few hT.inn.inn
    obtain ⟨M, p, hl, hkM, hM2, hs⟩ := hD.step
    have hT6 := hs.m6 rfl
    have e1 := bare_k hl hkM hA.lt
    have e2 := congrArg Ob.kind e1
    have e3 := congrArg Ob.props e1
    have e2 : M[0].kind = 1 := e2
    have e3 : M[0].props = [p7] := e3
    have e4 : (akq 6 ((0 : Nat) : Int) kyA (dz 32) v0).k = kyA := rfl
    have e5 : (akq 6 ((0 : Nat) : Int) kyA (dz 32) v0).d = dz 32 := rfl
    have hcut : cutN [p7] kyA = 0 := cutN_mid (A := []) (x := p7) (B := []) (fun _ h => by cases h) rfl
    obtain ⟨hq, A2, c2, _, hp⟩ := hT6.yes (by rw [e4, e5, e3, fnd_a.1, fnd_a.2]; exact fix_compat _) (by rw [e4, e3, hcut]; decide)
    rw [e4, e5, e3, fnd_a.1, fnd_a.2, fix_apply] at hp
    refine ⟨B2, M2, by rw [he, hq]; rfl, ⟨⟨hL.b, hL.rest, hL.ins, hL.len, hL.few, hL.may⟩, ?_⟩, hb⟩
    subst hM2
    have hx : (M.set 0 p)[0]'(by rw [List.length_set]; exact hkM) = p := List.getElem_set_self _
    have hpp : p.props = putT [p7] ⟨kyA, becomeQ (dz 32) p7.d⟩ := by rw [hp]; rfl
    have hok : (⟨kyA, becomeQ (dz 32) p7.d⟩ : Pq).Ok := by
      have := (def_ok (o := M[0]) (a := akq 6 ((0 : Nat) : Int) kyA (dz 32) v0) hd (by rw [e3]; exact fnd_in (fun x hx => by obtain rfl := List.mem_singleton.1 hx; exact p7_in) kyA) kyA_ok (by rw [e4, e5, e3, fnd_a.1, fnd_a.2]; exact fix_compat _)).1
      rw [e4, e5, e3, fnd_a.1, fnd_a.2, fix_apply] at this
      exact this
    have hf : findT (putT [p7] ⟨kyA, becomeQ (dz 32) p7.d⟩) kyA = some ⟨kyA, becomeQ (dz 32) p7.d⟩ := (put_to tab1 hok (by show cutN [p7] kyA ≠ 1024; rw [hcut]; decide)).found
    refine ⟨by rw [List.length_set]; exact hkM, ?_, ?_, ?_⟩
    · rw [hx, hp]; exact e2
    · rw [hx, hpp, hf]; rfl
    · rw [hx, hpp, fnd_of2 hf]; exact fix_z
theorem do_del {H : List Ob} {k : Nat} {ky : Ky} (h : mayH H = true) (hk : k < H.length) (hp : plainK H[k].kind = true) (hky : mayKy ky) : doE H (akq 10 k ky (dz 0) v0) = 0 := by
  have h1 : inB H (k : Int) = true := decide_eq_true ⟨Int.natCast_nonneg k, by omega⟩
  have h2 : askK H (k : Int) = true := by unfold askK; rw [Int.toNat_natCast, List.getElem?_eq_getElem hk]; exact hp
  unfold doE
  rw [h]
  show mayE H (akq 10 k ky (dz 0) v0) = 0
  unfold mayE
  show (bif eightM 10 && (inB H (k : Int) && askK H (k : Int)) then _ else _) = 0
  rw [h1, h2]
  exact keyE_ok.2 hky
theorem names_del {B : Nat} {M2 : List Ob} {W : World} (hL : LeftH (H2 none) B M2 W) (hS : FixIs M2) (htab : TabHere W) :
    Calls Tryz.prog 33 #[.agg #[.slice (some ⟨B, 0, none⟩) 2 2], .agg (akA (akq 10 0 kyA (dz 0) v0))] W fun e w' => ∃ B2 : Nat, e = .returned (.tuple #[.agg #[.slice (some ⟨B2, 0, none⟩) 2 2], .agg (oqA (yesO false))]) ∧ Below W.heap.size W w' := by
  obtain ⟨h1, h2, h3, h4⟩ := hS
  have ha : (akq 10 ((0 : Nat) : Int) kyA (dz 0) v0).In := akq_in kyA_in dz0_in (ok_in v0_ok)
  have hE : doE M2 (akq 10 ((0 : Nat) : Int) kyA (dz 0) v0) = 0 := do_del hL.may h1 (by rw [h2]; rfl) kyA_ok
  have := Does_any (some ⟨B, 0, none⟩) M2 M2.length _ W hL.inn hL.small ha htab
  unfold DoesTo at this
  rw [hL.len] at this
  refine this.mono fun e w' ⟨hb, h⟩ => ?_
  rcases h with ⟨hne, _⟩ | ⟨_, hm, k2, B2, q, M3, hA, he, hD, hB⟩
  · exact absurd hE hne
  · obtain rfl : k2 = 0 := Int.ofNat.inj hA.n.symm
    obtain ⟨M, p, hl, hkM, hM2, hs⟩ := hD.step
    have hT := hs.m10 rfl
    have e3 := congrArg Ob.props (bare_k hl hkM h1)
    have e3 : M[0].props = M2[0].props := e3
    have hq : q = yesO false := (hT.no (by rw [e3]; exact h3) (by rw [e3]; exact h4)).1
    exact ⟨B2, by rw [he, hq]; rfl, hb⟩
theorem do_8 (b : Option Addr) : doE (H2 b) (akq 8 0 kyA (dz 0) v0) = 2 := by
  unfold doE
  rw [may2]
  rfl
theorem do_11 (b : Option Addr) : doE (H2 b) (akq 11 7 kz (dz 0) v0) = 2 := by
  unfold doE
  rw [may2]
  show mayE (H2 b) (akq 11 7 kz (dz 0) v0) = 2
  unfold mayE
  show (bif eightM 11 && (inB (H2 b) 7 && askK (H2 b) 7) then _ else _) = 2
  rw [show inB (H2 b) 7 = false from decide_eq_false (by show ¬ ((0 : Int) ≤ 7 ∧ (7 : Int) < 2); omega)]
  rfl
theorem do_6 (b : Option Addr) : doE (H2 b) (akq 6 0 kyA (dz 5) v0) = 90 := by
  obtain ⟨h1, h2⟩ := two_in b 0 (by decide)
  unfold doE
  rw [may2]
  show mayA (H2 b) (akq 6 ((0 : Nat) : Int) kyA (dz 5) v0) = 90
  unfold mayA
  show (bif (6 : Int) == 6 then (bif inB (H2 b) ((0 : Nat) : Int) && askK (H2 b) ((0 : Nat) : Int) then mayD (H2 b) (akq 6 ((0 : Nat) : Int) kyA (dz 5) v0) else 2) else _) = 90
  rw [h1, h2]
  show mayD (H2 b) (akq 6 ((0 : Nat) : Int) kyA (dz 5) v0) = 90
  unfold mayD
  show orE (keyE kyA) (orE (errI (chkQ (dz 5))) _) = 90
  rw [keyE_ok.2 kyA_ok, chk_5]
  rfl
theorem names_err {B g : Nat} {W : World} {a : Ak} {E : Int} (hT : TwoAt B g W) (htab : TabHere W) (ha : a.In) (hE : ∀ b, doE (H2 b) a = E) (hz : E ≠ 0) :
    Calls Tryz.prog 24 #[.agg #[.slice (some ⟨B, 0, none⟩) 2 2], .agg (akA a)] W fun e w' => e = .returned (.tuple #[.agg #[.slice none 0 0], .agg (oqA ozero), .int .i64 E]) ∧ Below W.heap.size W w' := by
  have := ring_bad hT.inn two_few ha htab (by rw [hE]; exact hz)
  rw [hE] at this
  exact this
theorem names_loop {B g : Nat} {W : World} (k r : Nat) (b : Bool) (hT : TwoAt B g W) (htab : TabHere W) (hk : k < 2) (hr : r < 2) (hb : ∀ c, decide (Bhd (H2 c) k (vT r)) = b) :
    Calls Tryz.prog 38 #[.agg #[.slice (some ⟨B, 0, none⟩) 2 2], .int .i64 (k : Int), .agg #[.int .u8 6, .float .f64 0, .string ⟨#[]⟩, .int .i64 (r : Int)]] W fun e w' => e = .returned (.tuple #[.bool b, .int .i64 0]) ∧ Below W.heap.size W w' := by
  have := ring_loops (v := vT r) hT.inn (ok_in (vT_ok (Int.natCast_nonneg r) (by omega))) htab (may2 _) (show k < 2 from hk) (leads_t _ r hr)
  rw [hb] at this
  exact this
end Go.Proofs.YtkcikdggfbjedaaGreatDoor.S
/-
  What stands behind a body's first n statements.
-/
namespace Go.Proofs.YtkcikdggfbjedaaGreatDoor.S
open Go.RowKit
/-- what stands behind a body's first n statements -/
def rgtN : Nat → Code → Code
  | 0, c => c
  | n + 1, .seq _ b => rgtN n b
  | _ + 1, c => c
end Go.Proofs.YtkcikdggfbjedaaGreatDoor.S
/-
  OrdinaryNames: the walk.
-/
namespace Go.Proofs.YtkcikdggfbjedaaGreatDoor.S
open Go.RowKit Go.Lib Fl
open Classical

theorem rb_n1 (v : Vq) (w : World) : (Instr.build 60 #[(0, .int .u8 2), (4, .agg (vA v))]).run Tryz.prog w = .ok (.agg (akA (akq 2 0 kz (dz 0) v))) w := by kernel_rfl
theorem ea_n1 {v : Vq} {o : Oper} {a : Act} {w : World} {x : Operand} (ho : o.op = .build 60 #[(0, .const (.int .u8 2)), (4, x)]) (hx : a.eval x = .agg (vA v)) : (execOp a.eval o).run Tryz.prog w = .ok (.value (.agg (akA (akq 2 0 kz (dz 0) v)))) w := by
  unfold execOp
  have hc : ∀ v, a.eval (.const v) = v := fun _ => rfl
  simp only [ho, List.map_toArray, List.map_cons, List.map_nil, hc, hx, rb_n1, Sem.run_bind, Sem.run_pure, Result.andThen_ok]
theorem rb_n2 (v : Vq) (w : World) : (Instr.build 60 #[(0, .int .u8 2), (1, .int .i64 1), (4, .agg (vA v))]).run Tryz.prog w = .ok (.agg (akA (akq 2 1 kz (dz 0) v))) w := by kernel_rfl
theorem ea_n2 {v : Vq} {o : Oper} {a : Act} {w : World} {x : Operand} (ho : o.op = .build 60 #[(0, .const (.int .u8 2)), (1, .const (.int .i64 1)), (4, x)]) (hx : a.eval x = .agg (vA v)) : (execOp a.eval o).run Tryz.prog w = .ok (.value (.agg (akA (akq 2 1 kz (dz 0) v)))) w := by
  unfold execOp
  have hc : ∀ v, a.eval (.const v) = v := fun _ => rfl
  simp only [ho, List.map_toArray, List.map_cons, List.map_nil, hc, hx, rb_n2, Sem.run_bind, Sem.run_pure, Result.andThen_ok]
theorem rb_n3 (w : World) : (Instr.build 60 #[(0, .int .u8 4), (1, .int .i64 1)]).run Tryz.prog w = .ok (.agg (akA (akq 4 1 kz (dz 0) v0))) w := by kernel_rfl
theorem ea_n3 {o : Oper} {a : Act} {w : World} (ho : o.op = .build 60 #[(0, .const (.int .u8 4)), (1, .const (.int .i64 1))])  : (execOp a.eval o).run Tryz.prog w = .ok (.value (.agg (akA (akq 4 1 kz (dz 0) v0)))) w := by
  unfold execOp
  have hc : ∀ v, a.eval (.const v) = v := fun _ => rfl
  simp only [ho, List.map_toArray, List.map_cons, List.map_nil, hc, rb_n3, Sem.run_bind, Sem.run_pure, Result.andThen_ok]
theorem rb_n4 (k : Ky) (d : Dq) (w : World) : (Instr.build 60 #[(0, .int .u8 6), (1, .int .i64 1), (2, .agg #[.string k.str, .int .i64 k.sym]), (3, .agg d.cells)]).run Tryz.prog w = .ok (.agg (akA (akq 6 1 k d v0))) w := by kernel_rfl
theorem ea_n4 {k : Ky} {d : Dq} {o : Oper} {a : Act} {w : World} {x : Operand} {y : Operand} (ho : o.op = .build 60 #[(0, .const (.int .u8 6)), (1, .const (.int .i64 1)), (2, x), (3, y)]) (hx : a.eval x = .agg #[.string k.str, .int .i64 k.sym]) (hy : a.eval y = .agg d.cells) : (execOp a.eval o).run Tryz.prog w = .ok (.value (.agg (akA (akq 6 1 k d v0)))) w := by
  unfold execOp
  have hc : ∀ v, a.eval (.const v) = v := fun _ => rfl
  simp only [ho, List.map_toArray, List.map_cons, List.map_nil, hc, hx, hy, rb_n4, Sem.run_bind, Sem.run_pure, Result.andThen_ok]
theorem rb_n5 (k : Ky) (d : Dq) (w : World) : (Instr.build 60 #[(0, .int .u8 6), (2, .agg #[.string k.str, .int .i64 k.sym]), (3, .agg d.cells)]).run Tryz.prog w = .ok (.agg (akA (akq 6 0 k d v0))) w := by kernel_rfl
theorem ea_n5 {k : Ky} {d : Dq} {o : Oper} {a : Act} {w : World} {x : Operand} {y : Operand} (ho : o.op = .build 60 #[(0, .const (.int .u8 6)), (2, x), (3, y)]) (hx : a.eval x = .agg #[.string k.str, .int .i64 k.sym]) (hy : a.eval y = .agg d.cells) : (execOp a.eval o).run Tryz.prog w = .ok (.value (.agg (akA (akq 6 0 k d v0)))) w := by
  unfold execOp
  have hc : ∀ v, a.eval (.const v) = v := fun _ => rfl
  simp only [ho, List.map_toArray, List.map_cons, List.map_nil, hc, hx, hy, rb_n5, Sem.run_bind, Sem.run_pure, Result.andThen_ok]
theorem rb_n6 (k : Ky) (w : World) : (Instr.build 60 #[(0, .int .u8 10), (2, .agg #[.string k.str, .int .i64 k.sym])]).run Tryz.prog w = .ok (.agg (akA (akq 10 0 k (dz 0) v0))) w := by kernel_rfl
theorem ea_n6 {k : Ky} {o : Oper} {a : Act} {w : World} {x : Operand} (ho : o.op = .build 60 #[(0, .const (.int .u8 10)), (2, x)]) (hx : a.eval x = .agg #[.string k.str, .int .i64 k.sym]) : (execOp a.eval o).run Tryz.prog w = .ok (.value (.agg (akA (akq 10 0 k (dz 0) v0)))) w := by
  unfold execOp
  have hc : ∀ v, a.eval (.const v) = v := fun _ => rfl
  simp only [ho, List.map_toArray, List.map_cons, List.map_nil, hc, hx, rb_n6, Sem.run_bind, Sem.run_pure, Result.andThen_ok]
theorem rb_n7 (k : Ky) (w : World) : (Instr.build 60 #[(0, .int .u8 8), (2, .agg #[.string k.str, .int .i64 k.sym])]).run Tryz.prog w = .ok (.agg (akA (akq 8 0 k (dz 0) v0))) w := by kernel_rfl
theorem ea_n7 {k : Ky} {o : Oper} {a : Act} {w : World} {x : Operand} (ho : o.op = .build 60 #[(0, .const (.int .u8 8)), (2, x)]) (hx : a.eval x = .agg #[.string k.str, .int .i64 k.sym]) : (execOp a.eval o).run Tryz.prog w = .ok (.value (.agg (akA (akq 8 0 k (dz 0) v0)))) w := by
  unfold execOp
  have hc : ∀ v, a.eval (.const v) = v := fun _ => rfl
  simp only [ho, List.map_toArray, List.map_cons, List.map_nil, hc, hx, rb_n7, Sem.run_bind, Sem.run_pure, Result.andThen_ok]
theorem rb_n8 (w : World) : (Instr.build 60 #[(0, .int .u8 11), (1, .int .i64 7)]).run Tryz.prog w = .ok (.agg (akA (akq 11 7 kz (dz 0) v0))) w := by kernel_rfl
theorem ea_n8 {o : Oper} {a : Act} {w : World} (ho : o.op = .build 60 #[(0, .const (.int .u8 11)), (1, .const (.int .i64 7))])  : (execOp a.eval o).run Tryz.prog w = .ok (.value (.agg (akA (akq 11 7 kz (dz 0) v0)))) w := by
  unfold execOp
  have hc : ∀ v, a.eval (.const v) = v := fun _ => rfl
  simp only [ho, List.map_toArray, List.map_cons, List.map_nil, hc, rb_n8, Sem.run_bind, Sem.run_pure, Result.andThen_ok]
theorem rb_nd32 (w : World) : (Instr.build 50 #[(0, .int .u8 32)]).run Tryz.prog w = .ok (.agg (dz 32).cells) w := by kernel_rfl
theorem ea_nd32 {o : Oper} {a : Act} {w : World} (ho : o.op = .build 50 #[(0, .const (.int .u8 32))])  : (execOp a.eval o).run Tryz.prog w = .ok (.value (.agg (dz 32).cells)) w := by
  unfold execOp
  have hc : ∀ v, a.eval (.const v) = v := fun _ => rfl
  simp only [ho, List.map_toArray, List.map_cons, List.map_nil, hc, rb_nd32, Sem.run_bind, Sem.run_pure, Result.andThen_ok]
theorem rb_nd5 (w : World) : (Instr.build 50 #[(0, .int .u8 5)]).run Tryz.prog w = .ok (.agg (dz 5).cells) w := by kernel_rfl
theorem ea_nd5 {o : Oper} {a : Act} {w : World} (ho : o.op = .build 50 #[(0, .const (.int .u8 5))])  : (execOp a.eval o).run Tryz.prog w = .ok (.value (.agg (dz 5).cells)) w := by
  unfold execOp
  have hc : ∀ v, a.eval (.const v) = v := fun _ => rfl
  simp only [ho, List.map_toArray, List.map_cons, List.map_nil, hc, rb_nd5, Sem.run_bind, Sem.run_pure, Result.andThen_ok]
section
variable {o : Oper} {a : Act} {w : World}
theorem en_oz (ho : o.op = .alloc 55) : (execOp a.eval o).run Tryz.prog w = .ok (.value (.pointer (some ⟨w.heap.size, 0, none⟩))) (w.alloc (.cells oz26 55)) := by
  unfold execOp
  simp only [ho]
  kernel_rfl
theorem en_hp (ho : o.op = .alloc 24) : (execOp a.eval o).run Tryz.prog w = .ok (.value (.pointer (some ⟨w.heap.size, 0, none⟩))) (w.alloc (.cells #[.slice none 0 0] 24)) := by
  unfold execOp
  simp only [ho]
  kernel_rfl
end
theorem n_vbm {B : Nat} {w W W' : World} (h : Below B w W) (hB : B ≤ w.heap.size) (hb : Below W.heap.size W W') : Below B w W' := ⟨hb.os.trans h.os, hb.tape.trans h.tape, hb.output.trans h.output, Nat.le_trans h.size hb.size, fun k hk => (hb.block k (Nat.lt_of_lt_of_le hk (Nat.le_trans hB h.size))).trans (h.block k hk)⟩
theorem n_u8 {W : World} {g n : Nat} {b : Int} (h : W.cell? ⟨g, n, none⟩ = some (.int .u8 b)) : (Instr.loadAt 5 (.pointer (some ⟨g, n, none⟩))).run Tryz.prog W = .ok (.int .u8 b) W := by simp [go_sem, h]
theorem n_bl {W : World} {g n : Nat} {b : Bool} (h : W.cell? ⟨g, n, none⟩ = some (.bool b)) : (Instr.loadAt 4 (.pointer (some ⟨g, n, none⟩))).run Tryz.prog W = .ok (.bool b) W := by simp [go_sem, h]
section
variable {ops : Array Oper} {rest : List Oper} {o : Oper} {w : World} {Q : Exit → Act → World → Prop} {xs : List Value} {ds : List Deferred} {d : Nat} {v : Value}
/-- a row of operations to be walked: nothing looks into it -/
structure WN (ops : Array Oper) (Q : Exit → Act → World → Prop) (l : List Oper) (a : Act) (w : World) : Prop where
  out : wpList Tryz.prog ops Q l a w
theorem WN.take (hw : Region.wanted o (yielded ops (Act.mk xs.toArray ds).tmps) = true) (hr : (execOp (Act.mk xs.toArray ds).eval o).run Tryz.prog w = .ok (.value v) w) (hd : o.dst = some d) (h : WN ops Q rest ⟨(xs.set d v).toArray, ds⟩ w) : WN ops Q (o :: rest) ⟨xs.toArray, ds⟩ w :=
  ⟨w_run hw hr (by rw [hd, hput_some]; exact h.out)⟩
theorem WN.call (hw : Region.wanted o (yielded ops (Act.mk xs.toArray ds).tmps) = true) (h : ∀ K : Act → World → Prop, (∀ a w, WN ops Q rest a w → K a w) → o.wp Tryz.prog ⟨xs.toArray, ds⟩ w K Q) : WN ops Q (o :: rest) ⟨xs.toArray, ds⟩ w := ⟨wpList_wanted hw fun K hK => h K fun a w g => hK a w g.out⟩
theorem WN.none {a : Act} (h : Q .normal a w) : WN ops Q [] a w := ⟨wpList_nil h⟩
end
section
variable {P : Program} {ops : Array Oper} {Q : Exit → Act → World → Prop} {md : Region.Mode} {S : World → Prop} {fuel : Nat} {l : Array Bool} {xs : List Value} {ds : List Deferred} {w : World} {a : Act}
theorem hT (i d : Nat) (v : Value) {oi : Oper} (hi : ops[i]? = some oi) (hd : oi.dst = some d) (hv : ∀ w, S w → (execOp (Act.mk xs.toArray ds).eval oi).run P w = .ok (.value v) w)
    (h : wpAnyH P md ops Q S fuel (l.setIfInBounds i true) ⟨(xs.set d v).toArray, ds⟩ w) (hs : Region.noSelect ops = true := by kernel_rfl) (hf : Region.free md ops l i = true := by kernel_rfl) (hr : (Region.ready md ops l).contains i = true := by kernel_rfl)
    (hQ : ∀ c a w, Q (.panic c) (a.put oi.dst v) w → Q (.panic c) a w := by exact fun _ _ _ h => h) (hw : Region.wanted oi (yielded ops (Act.mk xs.toArray ds).tmps) = true := by kernel_rfl) (hS : S w := by assumption) : wpAnyH P md ops Q S (fuel + 1) l ⟨xs.toArray, ds⟩ w :=
  hH_take hi hs hf hr hQ hw hv hS hd rfl h
variable {o1 o2 o3 : Oper}
theorem aH1 (i : Nat) (h1 : ops[i]? = some o1) (g1 : ∀ K' : Act → World → Prop, Shut (∀ a w, S w → (S w → wpAnyH P md ops Q S fuel (l.setIfInBounds i true) a w) → K' a w) → if Region.wanted o1 (yielded ops a.tmps) = true then Oper.wp P o1 a w K' Q else K' (a.put o1.dst undef) w)
    (hr : Region.ready md ops l = [i] := by kernel_rfl) : wpAnyH P md ops Q S (fuel + 1) l a w := wpAnyH_ready hr (by simp) (.cons h1 g1 .nil)
theorem aH2 (i j : Nat) (h1 : ops[i]? = some o1) (h2 : ops[j]? = some o2) (g1 : ∀ K' : Act → World → Prop, Shut (∀ a w, S w → (S w → wpAnyH P md ops Q S fuel (l.setIfInBounds i true) a w) → K' a w) → if Region.wanted o1 (yielded ops a.tmps) = true then Oper.wp P o1 a w K' Q else K' (a.put o1.dst undef) w)
    (g2 : ∀ K' : Act → World → Prop, Shut (∀ a w, S w → (S w → wpAnyH P md ops Q S fuel (l.setIfInBounds j true) a w) → K' a w) → if Region.wanted o2 (yielded ops a.tmps) = true then Oper.wp P o2 a w K' Q else K' (a.put o2.dst undef) w)
    (hr : Region.ready md ops l = [i, j] := by kernel_rfl) : wpAnyH P md ops Q S (fuel + 1) l a w := wpAnyH_ready hr (by simp) (.cons h1 g1 (.cons h2 g2 .nil))
theorem aH3 (i j k : Nat) (h1 : ops[i]? = some o1) (h2 : ops[j]? = some o2) (h3 : ops[k]? = some o3) (g1 : ∀ K' : Act → World → Prop, Shut (∀ a w, S w → (S w → wpAnyH P md ops Q S fuel (l.setIfInBounds i true) a w) → K' a w) → if Region.wanted o1 (yielded ops a.tmps) = true then Oper.wp P o1 a w K' Q else K' (a.put o1.dst undef) w)
    (g2 : ∀ K' : Act → World → Prop, Shut (∀ a w, S w → (S w → wpAnyH P md ops Q S fuel (l.setIfInBounds j true) a w) → K' a w) → if Region.wanted o2 (yielded ops a.tmps) = true then Oper.wp P o2 a w K' Q else K' (a.put o2.dst undef) w)
    (g3 : ∀ K' : Act → World → Prop, Shut (∀ a w, S w → (S w → wpAnyH P md ops Q S fuel (l.setIfInBounds k true) a w) → K' a w) → if Region.wanted o3 (yielded ops a.tmps) = true then Oper.wp P o3 a w K' Q else K' (a.put o3.dst undef) w)
    (hr : Region.ready md ops l = [i, j, k] := by kernel_rfl) : wpAnyH P md ops Q S (fuel + 1) l a w := wpAnyH_ready hr (by simp) (.cons h1 g1 (.cons h2 g2 (.cons h3 g3 .nil)))
end
section
variable {ops : Array Oper} {Q : Exit → Act → World → Prop} {md : Region.Mode} {fuel : Nat} {l : Array Bool} {xs : List Value} {ds : List Deferred} {w w0 : World} {n g d : Nat} {K : Act → World → Prop} {o : Oper} {x y : Operand} {t ty : TypeId} {c old cs : Array Value}
theorem aNew (hr : (execOp (Act.mk xs.toArray ds).eval o).run Tryz.prog w = .ok (.value (.pointer (some ⟨w.heap.size, 0, none⟩))) (w.alloc (.cells c t))) (hd : o.dst = some d) (hS : Below n w0 w) (hn : n ≤ w0.heap.size) (hK : Shut (∀ a w, Below n w0 w → (Below n w0 w → wpAnyH Tryz.prog md ops Q (fun V : World => Below n w0 V) fuel l a w) → K a w))
    (h : ∀ (W : World) (g : Nat), Below n w0 W → n ≤ g → W.heap[g]? = some (.cells c t (0, 0)) → Below w.heap.size w W → wpAnyH Tryz.prog md ops Q (fun V : World => Below n w0 V) fuel l ⟨(xs.set d (.pointer (some ⟨g, 0, none⟩))).toArray, ds⟩ W)
    (hw : Region.wanted o (yielded ops (Act.mk xs.toArray ds).tmps) = true := by kernel_rfl) : if Region.wanted o (yielded ops (Act.mk xs.toArray ds).tmps) = true then Oper.wp Tryz.prog o ⟨xs.toArray, ds⟩ w K Q else K ((Act.mk xs.toArray ds).put o.dst undef) w :=
  r_val hw hr hd (hK.out _ _ (n_vbm hS hn (vzero _ _)) fun hS2 => h _ _ hS2 (Nat.le_trans hn hS.size) (heap_alloc_new _ _) (vzero _ _))
theorem aPut (ho : o.op = .store ty x y) (hx : (Act.mk xs.toArray ds).eval x = .pointer (some ⟨g, 0, none⟩)) (hy : (Act.mk xs.toArray ds).eval y = .agg cs) (hg : w.heap[g]? = some (.cells old t (0, 0))) (hi : (Tryz.prog.info? ty).map (·.size) = some cs.size) (hold : old.size = cs.size) (h1 : cs.all (·.oneCell') = true) (hd : o.dst = none) (hS : Below n w0 w) (hn : n ≤ g)
    (hK : Shut (∀ a w, Below n w0 w → (Below n w0 w → wpAnyH Tryz.prog md ops Q (fun V : World => Below n w0 V) fuel l a w) → K a w))
    (h : ∀ W : World, Below n w0 W → W.heap[g]? = some (.cells cs t (0, 0)) → (∀ j, g ≠ j → W.heap[j]? = w.heap[j]?) → wpAnyH Tryz.prog md ops Q (fun V : World => Below n w0 V) fuel l ⟨xs.toArray, ds⟩ W)
    (hw : Region.wanted o (yielded ops (Act.mk xs.toArray ds).tmps) = true := by kernel_rfl) : if Region.wanted o (yielded ops (Act.mk xs.toArray ds).tmps) = true then Oper.wp Tryz.prog o ⟨xs.toArray, ds⟩ w K Q else K ((Act.mk xs.toArray ds).put o.dst undef) w :=
  r_store hw ho hx hy hg hi hold h1 hd (hK.out _ _ (below_row hS hn cs) fun hS => h _ hS (setRow_heap _ _ _ cs _ _ hg) fun j hj => setRow_other w g j cs (fun e => hj e.symm))
theorem blk_ne {W : World} {g j : Nat} {c c2 : Array Value} (h1 : W.heap[g]? = some (.cells c 24 (0, 0))) (h2 : W.heap[j]? = some (.cells c2 55 (0, 0))) : g ≠ j := fun e => by rw [e, h2] at h1; cases h1
end
theorem LeftH.otherO {H : List Ob} {B : Nat} {M2 : List Ob} {W W' : World} {g : Nat} (h : LeftH H B M2 W) (hg : ∃ c, W.heap[g]? = some (.cells c 55 (0, 0))) (hO : ∀ j, j ≠ g → W'.heap[j]? = W.heap[j]?) : LeftH H B M2 W' := by
  obtain ⟨c, hc⟩ := hg
  refine ⟨(hO B fun e => ?_).trans h.b, h.rest.keep fun x cs hx => hO x (fun e => ?_), h.ins, h.len, h.few, h.may⟩
  · subst e; rw [h.b] at hc; cases hc
  · subst e; rw [hx] at hc; cases hc
/-- after the first two -/
structure N3 (w : World) (g2 g3 g4 B : Nat) (W : World) : Prop where
  below : Below w.heap.size w W
  a : W.heap[g2]? = some (.cells (oqA (yesO false)) 55 (0, 0))
  h : W.heap[g3]? = some (.cells #[.slice (some ⟨B, 0, none⟩) 2 2] 24 (0, 0))
  b : W.heap[g4]? = some (.cells (oqA (yesO true)) 55 (0, 0))
  p : W.cell? ⟨B, 19, none⟩ = some (.int .u8 1)
  g : w.heap.size ≤ g3
/-- after the closing -/
structure N5 (w : World) (g3 g6 B : Nat) (M : List Ob) (W : World) : Prop where
  below : Below w.heap.size w W
  h : W.heap[g3]? = some (.cells #[.slice (some ⟨B, 0, none⟩) 2 2] 24 (0, 0))
  o : W.heap[g6]? = some (.cells (oqA (yesO true)) 55 (0, 0))
  l : LeftH (H2 none) B M W
  g : w.heap.size ≤ g3
theorem N5.up {w : World} {g3 g6 B : Nat} {M : List Ob} {W W' : World} (h : N5 w g3 g6 B M W) (hb : Below W.heap.size W W') : N5 w g3 g6 B M W' := ⟨vb h.below hb, vblkn hb h.h, vblkn hb h.o, h.l.up hb, h.g⟩
/-- with what came of the put -/
structure N6 (w : World) (g3 g6 g8 B : Nat) (W : World) : Prop where
  below : Below w.heap.size w W
  h : W.heap[g3]? = some (.cells #[.slice (some ⟨B, 0, none⟩) 2 2] 24 (0, 0))
  o : W.heap[g6]? = some (.cells (oqA (yesO true)) 55 (0, 0))
  q : W.heap[g8]? = some (.cells (oqA (yesO false)) 55 (0, 0))
  g : w.heap.size ≤ g3
theorem N6.up {w : World} {g3 g6 g8 B : Nat} {W W' : World} (h : N6 w g3 g6 g8 B W) (hb : Below W.heap.size W W') : N6 w g3 g6 g8 B W' := ⟨vb h.below hb, vblkn hb h.h, vblkn hb h.o, vblkn hb h.q, h.g⟩
/-- with what came of the definition -/
structure N7 (w : World) (g3 g6 g8 g9 B : Nat) (M : List Ob) (W : World) : Prop where
  s : N6 w g3 g6 g8 B W
  r : W.heap[g9]? = some (.cells (oqA (yesO true)) 55 (0, 0))
  l : LeftH (H2 none) B M W
theorem N7.up {w : World} {g3 g6 g8 g9 B : Nat} {M : List Ob} {W W' : World} (h : N7 w g3 g6 g8 g9 B M W) (hb : Below W.heap.size W W') : N7 w g3 g6 g8 g9 B M W' := ⟨h.s.up hb, vblkn hb h.r, h.l.up hb⟩
structure N8 (w : World) (g6 g8 g9 g11 : Nat) (W : World) : Prop where
  below : Below w.heap.size w W
  o : W.heap[g6]? = some (.cells (oqA (yesO true)) 55 (0, 0))
  q : W.heap[g8]? = some (.cells (oqA (yesO false)) 55 (0, 0))
  r : W.heap[g9]? = some (.cells (oqA (yesO true)) 55 (0, 0))
  z : W.heap[g11]? = some (.cells (oqA (yesO false)) 55 (0, 0))
noncomputable def tailN (n : Nat) : Code := match Tryz.f8.body with | some c => rgtN n c | none => .skip
theorem n5_store {w W W' : World} {g3 g6 B : Nat} {v : Value} {M : List Ob} (h3 : W.heap[g3]? = some (.cells #[v] 24 (0, 0))) (hl : LeftH (H2 none) B M W) (h6 : W.heap[g6]? = some (.cells oz26 55 (0, 0))) (h6w : w.heap.size ≤ g6)
    (hb4 : Below w.heap.size w W') (hW4 : W'.heap[g3]? = some (.cells #[.slice (some ⟨B, 0, none⟩) 2 2] 24 (0, 0))) (hO : ∀ j, j ≠ g3 → W'.heap[j]? = W.heap[j]?) :
    Below w.heap.size w W' ∧ W'.heap[g6]? = some (.cells oz26 55 (0, 0)) ∧ w.heap.size ≤ g6 ∧ LeftH (H2 none) B M W' ∧ W'.heap[g3]? = some (.cells #[.slice (some ⟨B, 0, none⟩) 2 2] 24 (0, 0)) :=
  ⟨hb4, (hO g6 fun e => by rw [e, h3] at h6; cases h6).trans h6, h6w, hl.other ⟨_, h3⟩ hO, hW4⟩
theorem n5_out {w W W' : World} {g3 g6 B : Nat} {M : List Ob} (hg : w.heap.size ≤ g3) (h : Below w.heap.size w W ∧ W.heap[g6]? = some (.cells oz26 55 (0, 0)) ∧ w.heap.size ≤ g6 ∧ LeftH (H2 none) B M W ∧ W.heap[g3]? = some (.cells #[.slice (some ⟨B, 0, none⟩) 2 2] 24 (0, 0)))
    (hb5 : Below w.heap.size w W') (hW5 : W'.heap[g6]? = some (.cells (oqA (yesO true)) 55 (0, 0))) (hO : ∀ j, j ≠ g6 → W'.heap[j]? = W.heap[j]?) : N5 w g3 g6 B M W' := by
  obtain ⟨_, h6, _, hl, h3⟩ := h
  exact ⟨hb5, (hO g3 fun e => by rw [e, h6] at h3; cases h3).trans h3, hW5, hl.otherO ⟨_, h6⟩ hO, hg⟩
theorem n6_store {w W W' : World} {g3 g6 g8 g9 B Bo : Nat} {M : List Ob} (h : N6 w g3 g6 g8 Bo W) (hl : LeftH (H2 none) B M W) (h9 : W.heap[g9]? = some (.cells oz26 55 (0, 0))) (h9w : w.heap.size ≤ g9) (h6 : g6 ≠ g9) (h8 : g8 ≠ g9)
    (hb4 : Below w.heap.size w W') (hW4 : W'.heap[g3]? = some (.cells #[.slice (some ⟨B, 0, none⟩) 2 2] 24 (0, 0))) (hO : ∀ j, j ≠ g3 → W'.heap[j]? = W.heap[j]?) :
    N6 w g3 g6 g8 B W' ∧ W'.heap[g9]? = some (.cells oz26 55 (0, 0)) ∧ w.heap.size ≤ g9 ∧ LeftH (H2 none) B M W' ∧ g6 ≠ g9 ∧ g8 ≠ g9 := by
  have ne : ∀ {g c}, W.heap[g]? = some (.cells c 55 (0, 0)) → g ≠ g3 := fun {g c} h1 e => by rw [e, h.h] at h1; cases h1
  exact ⟨⟨hb4, hW4, (hO _ (ne h.o)).trans h.o, (hO _ (ne h.q)).trans h.q, h.g⟩, (hO _ (ne h9)).trans h9, h9w, hl.other ⟨_, h.h⟩ hO, h6, h8⟩
theorem n7_out {w W W' : World} {g3 g6 g8 g9 B : Nat} {M : List Ob} (h : N6 w g3 g6 g8 B W ∧ W.heap[g9]? = some (.cells oz26 55 (0, 0)) ∧ w.heap.size ≤ g9 ∧ LeftH (H2 none) B M W ∧ g6 ≠ g9 ∧ g8 ≠ g9)
    (hb5 : Below w.heap.size w W') (hW5 : W'.heap[g9]? = some (.cells (oqA (yesO true)) 55 (0, 0))) (hO : ∀ j, j ≠ g9 → W'.heap[j]? = W.heap[j]?) : N7 w g3 g6 g8 g9 B M W' := by
  obtain ⟨h, h9, _, hl, n6, n8⟩ := h
  exact ⟨⟨hb5, (hO g3 fun e => by have h3 := h.h; rw [e, h9] at h3; cases h3).trans h.h, (hO _ n6).trans h.o, (hO _ n8).trans h.q, h.g⟩, hW5, hl.otherO ⟨_, h9⟩ hO⟩
set_option maxHeartbeats 16000000 in
set_option maxRecDepth 1000000 in
theorem NB {w W : World} {g6 g8 g9 g11 : Nat} {x0 x1 x2 x3 x4 x7 x10 x12 x13 x14 x15 x16 x17 x18 x19 x20 x21 x22 x23 x24 x25 x26 x27 x28 x29 x30 x31 x32 x33 x34 x35 x36 x37 x38 x39 x40 x41 x42 x43 x44 x45 x46 x47 x48 x49 x50 x51 x52 x53 x54 x55 x56 x57 x58 x59 x60 x61 x62 x63 x64 x65 x66 x67 x68 x69 x70 x71 x72 x73 x74 x75 x76 x77 x78 x79 x80 x81 x82 x83 x84 x85 x86 x87 x88 x89 x90 x91 x92 x93 x94 x95 x96 x97 x98 x99 x100 x101 x102 x103 x104 x105 x106 x107 x108 x109 x110 x111 x112 x113 x114 x115 x116 x117 x118 x119 x120 x121 x122 x123 x124 x125 x126 x127 x128 x129 x130 x131 x132 x133 x134 x135 x136 x137 x138 x139 x140 x141 x142 x143 x144 x145 x146 x147 x148 x149 x150 x151 x152 x153 x154 x155 x156 x157 x158 x159 x160 x161 x162 x163 x164 x165 x166 x167 x168 x169 x170 x171 x172 x173 x174 x175 x176 x177 x178 x179 x180 x181 x182 x183 x184 x185 : Value} (hX : N8 w g6 g8 g9 g11 W) (htab : TabHere w) : Code.wp Tryz.prog (tailN 8) (bodyPost Tryz.prog Tryz.f8 (fun e w' => e = .returned (.bool true) ∧ Below w.heap.size w w')) ⟨#[x0, x1, x2, x3, x4, .bool true, .pointer (some ⟨g6, 0, none⟩), x7, .pointer (some ⟨g8, 0, none⟩), .pointer (some ⟨g9, 0, none⟩), x10, .pointer (some ⟨g11, 0, none⟩), x12, x13, x14, x15, x16, x17, x18, x19, x20, x21, x22, x23, x24, x25, x26, x27, x28, x29, x30, x31, x32, x33, x34, x35, x36, x37, x38, x39, x40, x41, x42, x43, x44, x45, x46, x47, x48, x49, x50, x51, x52, x53, x54, x55, x56, x57, x58, x59, x60, x61, x62, x63, x64, x65, x66, x67, x68, x69, x70, x71, x72, x73, x74, x75, x76, x77, x78, x79, x80, x81, x82, x83, x84, x85, x86, x87, x88, x89, x90, x91, x92, x93, x94, x95, x96, x97, x98, x99, x100, x101, x102, x103, x104, x105, x106, x107, x108, x109, x110, x111, x112, x113, x114, x115, x116, x117, x118, x119, x120, x121, x122, x123, x124, x125, x126, x127, x128, x129, x130, x131, x132, x133, x134, x135, x136, x137, x138, x139, x140, x141, x142, x143, x144, x145, x146, x147, x148, x149, x150, x151, x152, x153, x154, x155, x156, x157, x158, x159, x160, x161, x162, x163, x164, x165, x166, x167, x168, x169, x170, x171, x172, x173, x174, x175, x176, x177, x178, x179, x180, x181, x182, x183, x184, x185], []⟩ W := by
  have cT := fun W => two12 W
  have cTh1 := fun W => thing12 1 W
  have cTh0 := fun W => thing12 0 W
  have cKA := fun W => key12 (⟨#[97]⟩ : ByteArray) W
  have cKB := fun W => key12 (⟨#[98]⟩ : ByteArray) W
  have c7 := fun W => seven12 W
  have hi1 : ∀ v : Value, (Tryz.prog.info? 24).map (·.size) = some (#[v] : Array Value).size := fun v => hsz
  have hc1 : ∀ v : Value, v.oneCell' = true → (#[v] : Array Value).all (·.oneCell') = true := fun v h => cells_one (l := [v]) (by simpa using h)
  have cA := fun W (hb : Below w.heap.size w W) => alive12 W (tab_up htab hb)
  have q6 : W.cell? ⟨g6, 5, none⟩ = some (.bool true) := (vcells hX.o 5).trans rfl
  have q8 : W.cell? ⟨g8, 0, none⟩ = some (.int .u8 1) := (vcells hX.q 0).trans rfl
  have q8b : W.cell? ⟨g8, 5, none⟩ = some (.bool false) := (vcells hX.q 5).trans rfl
  have q9 : W.cell? ⟨g9, 5, none⟩ = some (.bool true) := (vcells hX.r 5).trans rfl
  have qa : W.cell? ⟨g11, 0, none⟩ = some (.int .u8 1) := (vcells hX.z 0).trans rfl
  have qb : W.cell? ⟨g11, 5, none⟩ = some (.bool false) := (vcells hX.z 5).trans rfl
  have HB := Lib.hid hX.below
  clear hX
  have e8 : ∀ (W : World) (B g : Nat), Below w.heap.size w W → TwoAt B g W → Calls Tryz.prog 24 #[.agg #[.slice (some ⟨B, 0, none⟩) 2 2], .agg (akA (akq 8 0 kyA (dz 0) v0))] W fun e w' => e = .returned (.tuple #[.agg #[.slice none 0 0], .agg (oqA ozero), .int .i64 2]) ∧ Below W.heap.size W w' := fun W B g hb h => names_err h (tab_up htab hb) (akq_in kyA_in dz0_in (ok_in v0_ok)) do_8 (by decide)
  have e11 : ∀ (W : World) (B g : Nat), Below w.heap.size w W → TwoAt B g W → Calls Tryz.prog 24 #[.agg #[.slice (some ⟨B, 0, none⟩) 2 2], .agg (akA (akq 11 7 kz (dz 0) v0))] W fun e w' => e = .returned (.tuple #[.agg #[.slice none 0 0], .agg (oqA ozero), .int .i64 2]) ∧ Below W.heap.size W w' := fun W B g hb h => names_err h (tab_up htab hb) (akq_in kz_in dz0_in (ok_in v0_ok)) do_11 (by decide)
  have e6 : ∀ (W : World) (B g : Nat), Below w.heap.size w W → TwoAt B g W → Calls Tryz.prog 24 #[.agg #[.slice (some ⟨B, 0, none⟩) 2 2], .agg (akA (akq 6 0 kyA (dz 5) v0))] W fun e w' => e = .returned (.tuple #[.agg #[.slice none 0 0], .agg (oqA ozero), .int .i64 90]) ∧ Below W.heap.size W w' := fun W B g hb h => names_err h (tab_up htab hb) (akq_in kyA_in (dzh_in (by decide) (by decide)) (ok_in v0_ok)) do_6 (by decide)
  have l1 : ∀ (W : World) (B g : Nat), Below w.heap.size w W → TwoAt B g W → Calls Tryz.prog 38 #[.agg #[.slice (some ⟨B, 0, none⟩) 2 2], .int .i64 0, .agg #[.int .u8 6, .float .f64 0, .string ⟨#[]⟩, .int .i64 1]] W fun e w' => e = .returned (.tuple #[.bool true, .int .i64 0]) ∧ Below W.heap.size W w' := fun W B g hb h => names_loop 0 1 true h (tab_up htab hb) (by decide) (by decide) (fun c => decide_eq_true (bhd_01 c))
  have l2 : ∀ (W : World) (B g : Nat), Below w.heap.size w W → TwoAt B g W → Calls Tryz.prog 38 #[.agg #[.slice (some ⟨B, 0, none⟩) 2 2], .int .i64 1, .agg #[.int .u8 6, .float .f64 0, .string ⟨#[]⟩, .int .i64 0]] W fun e w' => e = .returned (.tuple #[.bool false, .int .i64 0]) ∧ Below W.heap.size W w' := fun W B g hb h => names_loop 1 0 false h (tab_up htab hb) (by decide) (by decide) (fun c => decide_eq_false (bhd_10 c))
  clear htab
  unfold tailN
  dsimp only [Tryz.f8, rgtN]
  go_upto_region 8 with (fail)
  refine wp_region_lit (WN.out ?_)
  refine WN.take (v := .pointer (some ⟨g6, 5, none⟩)) (d := 96) (by kernel_rfl) (by kernel_rfl) rfl ?_
  simp only [List.set]
  refine WN.take (v := .bool true) (d := 97) (by kernel_rfl) (by exact ex_load_at (n_bl q6) rfl rfl) rfl ?_
  simp only [List.set]
  refine WN.take (v := .bool true) (d := 98) (by kernel_rfl) (by kernel_rfl) rfl ?_
  simp only [List.set]
  refine WN.take (v := .pointer (some ⟨g8, 0, none⟩)) (d := 99) (by kernel_rfl) (by kernel_rfl) rfl ?_
  simp only [List.set]
  refine WN.take (v := .int .u8 1) (d := 100) (by kernel_rfl) (by exact ex_load_at (n_u8 q8) rfl rfl) rfl ?_
  simp only [List.set]
  refine WN.take (v := .bool true) (d := 101) (by kernel_rfl) (by kernel_rfl) rfl ?_
  simp only [List.set]
  refine WN.take (v := .bool true) (d := 102) (by kernel_rfl) (by kernel_rfl) rfl ?_
  simp only [List.set]
  refine WN.take (v := .bool true) (d := 103) (by kernel_rfl) (by kernel_rfl) rfl ?_
  simp only [List.set]
  refine WN.take (v := .pointer (some ⟨g8, 5, none⟩)) (d := 104) (by kernel_rfl) (by kernel_rfl) rfl ?_
  simp only [List.set]
  refine WN.take (v := .bool false) (d := 105) (by kernel_rfl) (by exact ex_load_at (n_bl q8b) rfl rfl) rfl ?_
  simp only [List.set]
  refine WN.take (v := .bool true) (d := 106) (by kernel_rfl) (by kernel_rfl) rfl ?_
  simp only [List.set]
  refine WN.take (v := .bool true) (d := 107) (by kernel_rfl) (by kernel_rfl) rfl ?_
  simp only [List.set]
  refine WN.take (v := .bool true) (d := 108) (by kernel_rfl) (by kernel_rfl) rfl ?_
  simp only [List.set]
  refine WN.take (v := .pointer (some ⟨g9, 5, none⟩)) (d := 109) (by kernel_rfl) (by kernel_rfl) rfl ?_
  simp only [List.set]
  refine WN.take (v := .bool true) (d := 110) (by kernel_rfl) (by exact ex_load_at (n_bl q9) rfl rfl) rfl ?_
  simp only [List.set]
  refine WN.take (v := .bool true) (d := 111) (by kernel_rfl) (by kernel_rfl) rfl ?_
  simp only [List.set]
  refine WN.take (v := .bool true) (d := 112) (by kernel_rfl) (by kernel_rfl) rfl ?_
  simp only [List.set]
  refine WN.take (v := .pointer (some ⟨g11, 0, none⟩)) (d := 113) (by kernel_rfl) (by kernel_rfl) rfl ?_
  simp only [List.set]
  refine WN.take (v := .int .u8 1) (d := 114) (by kernel_rfl) (by exact ex_load_at (n_u8 qa) rfl rfl) rfl ?_
  simp only [List.set]
  refine WN.take (v := .bool true) (d := 115) (by kernel_rfl) (by kernel_rfl) rfl ?_
  simp only [List.set]
  refine WN.take (v := .bool true) (d := 116) (by kernel_rfl) (by kernel_rfl) rfl ?_
  simp only [List.set]
  refine WN.take (v := .bool true) (d := 117) (by kernel_rfl) (by kernel_rfl) rfl ?_
  simp only [List.set]
  refine WN.take (v := .pointer (some ⟨g11, 5, none⟩)) (d := 118) (by kernel_rfl) (by kernel_rfl) rfl ?_
  simp only [List.set]
  refine WN.take (v := .bool false) (d := 119) (by kernel_rfl) (by exact ex_load_at (n_bl qb) rfl rfl) rfl ?_
  simp only [List.set]
  refine WN.take (v := .bool true) (d := 120) (by kernel_rfl) (by kernel_rfl) rfl ?_
  simp only [List.set]
  refine WN.take (v := .bool true) (d := 121) (by kernel_rfl) (by kernel_rfl) rfl ?_
  simp only [List.set]
  refine WN.take (v := .bool true) (d := 12) (by kernel_rfl) (by kernel_rfl) rfl ?_
  simp only [List.set]
  refine WN.none ?_
  clear q6 q8 q8b q9 qa qb
  go_upto_region 10 with (first
    | (go_at_call 34; (with_reducible refine (cT _).mono ?_); rintro e w20 ⟨B, g, rfl, t1, t2, h9⟩; have HT : Hid (TwoAt B g w20) := Lib.hid ⟨t1, t2⟩; have HB := Lib.hid (vb HB.out h9); clear h9 t1 t2)
    | (go_at_call 36; (with_reducible refine (cKA _).mono ?_); rintro e w21 ⟨rfl, h9⟩; have HB := Lib.hid (vb HB.out h9); have HT := Lib.hid (HT.out.up h9); clear h9)
    | (refine w_run ?_ (ea_n7 (k := kyA) rfl rfl) ?_; (rfl))
    | (go_at_call 24; (with_reducible refine (e8 _ _ _ HB.out HT.out).mono ?_); rintro e w22 ⟨rfl, h9⟩; have HB := Lib.hid (vb HB.out h9); obtain ⟨g1, g2⟩ := vblk2 (w := w22) (Below.refl _ ((w22.alloc (.cells #[.slice none 0 0] 24)).alloc (.cells oz26 55))); have gB : Below w22.heap.size w22 ((w22.alloc (.cells #[.slice none 0 0] 24)).alloc (.cells oz26 55)) := vafter (vzero _ _); clear h9 HT)
    | ((with_reducible refine t_store (cs := #[.slice none 0 0]) rfl rfl rfl rfl g1 (hi1 _) ?_ (hc1 _ rfl) gB (Nat.le_refl _) ?_); (rfl); intro W23 hb4 hW4 hO4 hz4; have g3 := (hO4 (w22.heap.size + 1) (by omega)).trans g2; clear hO4 hz4)
    | ((with_reducible refine oq_store (q := ozero) rfl rfl rfl rfl g3 rfl hb4 (Nat.le_succ _) ?_); intro W24 hb5 hW5 hO5 hz5; have HB := Lib.hid (vb HB.out hb5); clear hW5 hO5 hz5 g3 hb4 g1 g2 gB hb5 hW4))
  go_upto_region 11 with (first
    | (go_at_call 34; (with_reducible refine (cT _).mono ?_); rintro e w30 ⟨B, g, rfl, t1, t2, h9⟩; have HT : Hid (TwoAt B g w30) := Lib.hid ⟨t1, t2⟩; have HB := Lib.hid (vb HB.out h9); clear h9 t1 t2)
    | (refine w_run ?_ (ea_n8 rfl) ?_; (rfl))
    | (go_at_call 24; (with_reducible refine (e11 _ _ _ HB.out HT.out).mono ?_); rintro e w32 ⟨rfl, h9⟩; have HB := Lib.hid (vb HB.out h9); obtain ⟨g1, g2⟩ := vblk2 (w := w32) (Below.refl _ ((w32.alloc (.cells #[.slice none 0 0] 24)).alloc (.cells oz26 55))); have gB : Below w32.heap.size w32 ((w32.alloc (.cells #[.slice none 0 0] 24)).alloc (.cells oz26 55)) := vafter (vzero _ _); clear h9 HT)
    | ((with_reducible refine t_store (cs := #[.slice none 0 0]) rfl rfl rfl rfl g1 (hi1 _) ?_ (hc1 _ rfl) gB (Nat.le_refl _) ?_); (rfl); intro W33 hb4 hW4 hO4 hz4; have g3 := (hO4 (w32.heap.size + 1) (by omega)).trans g2; clear hO4 hz4)
    | ((with_reducible refine oq_store (q := ozero) rfl rfl rfl rfl g3 rfl hb4 (Nat.le_succ _) ?_); intro W34 hb5 hW5 hO5 hz5; have HB := Lib.hid (vb HB.out hb5); clear hW5 hO5 hz5 g3 hb4 g1 g2 gB hb5 hW4))
  go_upto_region 12 with (first
    | (go_at_call 34; (with_reducible refine (cT _).mono ?_); rintro e w40 ⟨B, g, rfl, t1, t2, h9⟩; have HT : Hid (TwoAt B g w40) := Lib.hid ⟨t1, t2⟩; have HB := Lib.hid (vb HB.out h9); clear h9 t1 t2)
    | (go_at_call 36; (with_reducible refine (cKA _).mono ?_); rintro e w41 ⟨rfl, h9⟩; have HB := Lib.hid (vb HB.out h9); have HT := Lib.hid (HT.out.up h9); clear h9)
    | (refine w_run ?_ (ea_nd5 rfl) ?_; (rfl))
    | (refine w_run ?_ (ea_n5 (k := kyA) (d := dz 5) rfl rfl rfl) ?_; (rfl))
    | (go_at_call 24; (with_reducible refine (e6 _ _ _ HB.out HT.out).mono ?_); rintro e w42 ⟨rfl, h9⟩; have HB := Lib.hid (vb HB.out h9); obtain ⟨g1, g2⟩ := vblk2 (w := w42) (Below.refl _ ((w42.alloc (.cells #[.slice none 0 0] 24)).alloc (.cells oz26 55))); have gB : Below w42.heap.size w42 ((w42.alloc (.cells #[.slice none 0 0] 24)).alloc (.cells oz26 55)) := vafter (vzero _ _); clear h9 HT)
    | ((with_reducible refine t_store (cs := #[.slice none 0 0]) rfl rfl rfl rfl g1 (hi1 _) ?_ (hc1 _ rfl) gB (Nat.le_refl _) ?_); (rfl); intro W43 hb4 hW4 hO4 hz4; have g3 := (hO4 (w42.heap.size + 1) (by omega)).trans g2; clear hO4 hz4)
    | ((with_reducible refine oq_store (q := ozero) rfl rfl rfl rfl g3 rfl hb4 (Nat.le_succ _) ?_); intro W44 hb5 hW5 hO5 hz5; have HB := Lib.hid (vb HB.out hb5); clear hW5 hO5 hz5 g3 hb4 g1 g2 gB hb5 hW4))
  go_upto_region 13 with (first
    | (go_at_call 34; (with_reducible refine (cT _).mono ?_); rintro e w50 ⟨B, g, rfl, t1, t2, h9⟩; have HT : Hid (TwoAt B g w50) := Lib.hid ⟨t1, t2⟩; have HB := Lib.hid (vb HB.out h9); clear h9 t1 t2)
    | (go_at_call 35; (with_reducible refine (cTh1 _).mono ?_); rintro e w51 ⟨rfl, h9⟩; have HB := Lib.hid (vb HB.out h9); have HT := Lib.hid (HT.out.up h9); clear h9)
    | (go_at_call 38; (with_reducible refine (l1 _ _ _ HB.out HT.out).mono ?_); rintro e w52 ⟨rfl, h9⟩; have HB := Lib.hid (vb HB.out h9); clear h9 HT))
  go_upto_region 14 with (first
    | (go_at_call 34; (with_reducible refine (cT _).mono ?_); rintro e w60 ⟨B, g, rfl, t1, t2, h9⟩; have HT : Hid (TwoAt B g w60) := Lib.hid ⟨t1, t2⟩; have HB := Lib.hid (vb HB.out h9); clear h9 t1 t2)
    | (go_at_call 35; (with_reducible refine (cTh0 _).mono ?_); rintro e w61 ⟨rfl, h9⟩; have HB := Lib.hid (vb HB.out h9); have HT := Lib.hid (HT.out.up h9); clear h9)
    | (go_at_call 38; (with_reducible refine (l2 _ _ _ HB.out HT.out).mono ?_); rintro e w62 ⟨rfl, h9⟩; have HB := Lib.hid (vb HB.out h9); clear h9 HT))
  refine wp_region_lit (WN.out ?_)
  refine WN.take (v := .bool true) (d := 158) (by kernel_rfl) (by kernel_rfl) rfl ?_
  simp only [List.set]
  refine WN.call (by kernel_rfl) fun K hK => ?_
  go_simp
  go_at_call 21
  (with_reducible refine (cA _ HB.out).mono ?_)
  rintro e w90 ⟨rfl, h9⟩
  have HB := Lib.hid (vb HB.out h9)
  clear h9
  refine hK _ _ ?_
  clear hK K
  refine WN.take (v := .bool true) (d := 160) (by kernel_rfl) (by kernel_rfl) rfl ?_
  simp only [List.set]
  refine WN.take (v := .bool true) (d := 161) (by kernel_rfl) (by kernel_rfl) rfl ?_
  simp only [List.set]
  refine WN.take (v := .bool true) (d := 162) (by kernel_rfl) (by kernel_rfl) rfl ?_
  simp only [List.set]
  refine WN.take (v := .bool true) (d := 163) (by kernel_rfl) (by kernel_rfl) rfl ?_
  simp only [List.set]
  refine WN.take (v := .bool true) (d := 164) (by kernel_rfl) (by kernel_rfl) rfl ?_
  simp only [List.set]
  refine WN.take (v := .bool true) (d := 165) (by kernel_rfl) (by kernel_rfl) rfl ?_
  simp only [List.set]
  refine WN.take (v := .bool true) (d := 166) (by kernel_rfl) (by kernel_rfl) rfl ?_
  simp only [List.set]
  refine WN.take (v := .bool true) (d := 167) (by kernel_rfl) (by kernel_rfl) rfl ?_
  simp only [List.set]
  refine WN.take (v := .int .i64 2) (d := 168) (by kernel_rfl) (by kernel_rfl) rfl ?_
  simp only [List.set]
  refine WN.take (v := .bool true) (d := 169) (by kernel_rfl) (by kernel_rfl) rfl ?_
  simp only [List.set]
  refine WN.take (v := .bool true) (d := 170) (by kernel_rfl) (by kernel_rfl) rfl ?_
  simp only [List.set]
  refine WN.take (v := .bool true) (d := 171) (by kernel_rfl) (by kernel_rfl) rfl ?_
  simp only [List.set]
  refine WN.take (v := .int .i64 2) (d := 172) (by kernel_rfl) (by kernel_rfl) rfl ?_
  simp only [List.set]
  refine WN.take (v := .bool true) (d := 173) (by kernel_rfl) (by kernel_rfl) rfl ?_
  simp only [List.set]
  refine WN.take (v := .bool true) (d := 174) (by kernel_rfl) (by kernel_rfl) rfl ?_
  simp only [List.set]
  refine WN.take (v := .bool true) (d := 175) (by kernel_rfl) (by kernel_rfl) rfl ?_
  simp only [List.set]
  refine WN.take (v := .int .i64 90) (d := 176) (by kernel_rfl) (by kernel_rfl) rfl ?_
  simp only [List.set]
  refine WN.take (v := .bool true) (d := 177) (by kernel_rfl) (by kernel_rfl) rfl ?_
  simp only [List.set]
  refine WN.take (v := .bool true) (d := 178) (by kernel_rfl) (by kernel_rfl) rfl ?_
  simp only [List.set]
  refine WN.take (v := .bool true) (d := 179) (by kernel_rfl) (by kernel_rfl) rfl ?_
  simp only [List.set]
  refine WN.take (v := .bool true) (d := 180) (by kernel_rfl) (by kernel_rfl) rfl ?_
  simp only [List.set]
  refine WN.take (v := .bool true) (d := 181) (by kernel_rfl) (by kernel_rfl) rfl ?_
  simp only [List.set]
  refine WN.take (v := .bool true) (d := 182) (by kernel_rfl) (by kernel_rfl) rfl ?_
  simp only [List.set]
  refine WN.take (v := .bool false) (d := 183) (by kernel_rfl) (by kernel_rfl) rfl ?_
  simp only [List.set]
  refine WN.take (v := .bool true) (d := 184) (by kernel_rfl) (by kernel_rfl) rfl ?_
  simp only [List.set]
  refine WN.take (v := .bool true) (d := 185) (by kernel_rfl) (by kernel_rfl) rfl ?_
  simp only [List.set]
  refine WN.take (v := .bool true) (d := 0) (by kernel_rfl) (by kernel_rfl) rfl ?_
  simp only [List.set]
  refine WN.none ?_
  go_wp2_with (fail)
  go_ret
  exact ⟨rfl, HB.out⟩
end Go.Proofs.YtkcikdggfbjedaaGreatDoor.S
