/-
  PostNames: the claims of its examples, and what Check and refused say of them.
-/
import Derived.Test.YtkmgdaagannhkaaPM14
import Derived.Test.YtkmgdaagannhkaaPM07
namespace Go.Proofs.Ytkmgdaagannhkaa.S
open Go.RowKit Go.Lib Fl
open Classical

def nlV : Vq := ⟨1, 0, ⟨#[]⟩, 0⟩
def thV : Vq := ⟨6, 0, ⟨#[]⟩, 3⟩
def onV : Vq := ⟨3, 4607182418800017408, ⟨#[]⟩, 0⟩
def fxD : Dq := ⟨51, onV, v0, v0, false, false, false⟩
def oneD : Dq := ⟨1, onV, v0, v0, false, false, false⟩
def dnD : Dq := ⟨51, nlV, v0, v0, true, true, true⟩
def kA : Ky := ⟨⟨#[97]⟩, 0⟩
def kB : Ky := ⟨⟨#[98]⟩, 0⟩
theorem nlV_ok : nlV.Ok := ⟨.nul, trivial, rfl, rfl, rfl, rfl⟩
theorem thV_ok : thV.Ok := ⟨.obj 6 3, ⟨.inl rfl, by omega, by omega⟩, rfl, rfl, rfl, rfl⟩
theorem onV_ok : onV.Ok := ⟨.num 4607182418800017408, ⟨.ours 1, ⟨by decide, by unfold SafeN; omega⟩, rfl⟩, rfl, rfl, rfl, rfl⟩
theorem fxD_good : Good fxD := ⟨by decide, onV_ok, (fun h => absurd h (by decide)), (fun h => absurd h (by decide)), fun _ => v0_z, (fun h => absurd h (by decide)), fun _ => v0_z, (fun h => absurd h (by decide)), (fun h => absurd h (by decide)), (fun h => absurd h (by decide))⟩
theorem dnD_good : Good dnD := ⟨by decide, nlV_ok, (fun h => absurd h (by decide)), (fun h => absurd h (by decide)), fun _ => v0_z, (fun h => absurd h (by decide)), fun _ => v0_z, (fun h => absurd h (by decide)), (fun h => absurd h (by decide)), (fun h => absurd h (by decide))⟩
theorem oneD_good : Good oneD := ⟨by decide, onV_ok, (fun h => absurd h (by decide)), (fun h => absurd h (by decide)), fun _ => v0_z, (fun h => absurd h (by decide)), fun _ => v0_z, (fun _ => rfl), (fun _ => rfl), (fun _ => rfl)⟩
theorem fxD_in : fxD.In := ⟨by decide, by decide, ok_in onV_ok, v0_in, v0_in⟩
theorem dnD_in : dnD.In := ⟨by decide, by decide, ok_in nlV_ok, v0_in, v0_in⟩
theorem oneD_in : oneD.In := ⟨by decide, by decide, ok_in onV_ok, v0_in, v0_in⟩
theorem fxD_whole : wholeQ fxD = true := (whole_iff fxD_in).2 ⟨fxD_good, .inl rfl⟩
theorem dnD_whole : wholeQ dnD = true := (whole_iff dnD_in).2 ⟨dnD_good, .inl rfl⟩
theorem what_0 {v : Vq} (h : v.Ok) : whatE v = 0 := by
  unfold whatE
  rw [show v.may = true from mayI_iff.2 h]
  rfl
theorem kA_may : mayKy kA := ⟨by decide, by decide, fun h => absurd h (by decide)⟩
theorem kB_may : mayKy kB := ⟨by decide, by decide, fun h => absurd h (by decide)⟩
theorem kAB : kA ≠ kB := fun h => absurd (congrArg (fun k : Ky => k.str.data.toList) h) (by decide)
/-- a claim without lists -/
theorem cin_0 (W : World) (m : Int) (q : Oq) (f : Fq) (h1 : q.v.In) (h2 : q.d.In) (h3 : f.proto.In) (h4 : f.d.In) (h5 : q.kn = 0) (h6 : q.kc = 0) (h7 : f.kn = 0) (h8 : f.on = 0) : CIn W (akz m) q f [] [] [] :=
  { qv := h1, qd := h2, av := v0_in, ad := dz_in, fp := h3, fd := h4, kn := h5, kl := by decide, k := fun h => absurd h (by decide), kc := Nat.zero_le _, knil := fun _ => h6, fk := h7, ll := by decide, l := fun h => absurd h (by decide), lc := Nat.zero_le _, fn := h8, dl := by decide, d := fun h => absurd h (by decide), di := fun d h => nomatch h }
theorem check_no (W : World) (a : Ak) (q : Oq) (f : Fq) (K L : List Ky) (D : List Dq) (hi : CIn W a q f K L D) (hl : K.length ≤ 70000) (he : mayE a q f K L D = 0) (hh : holdsB a q f K L D = false) : Calls Try.prog 8 #[.agg (akA a), .agg (oqA q), .agg (fqA f)] W fun e w' =>
    e = .returned (.tuple #[.agg (oqA oz0), .bool false, .int .i64 0]) ∧ Below W.heap.size W w' := by
  refine (check_p W a q f K L D hi hl).mono fun e w' h => ?_
  obtain ⟨X, t, he2, h, hb⟩ := h
  refine ⟨?_, hb⟩
  rw [he] at he2
  rcases h with ⟨h1, _⟩ | ⟨_, _, rfl, rfl⟩ | ⟨_, h1, _⟩
  · exact absurd he h1
  · exact he2
  · rw [hh] at h1; cases h1
theorem check_er (W : World) (a : Ak) (q : Oq) (f : Fq) (K L : List Ky) (D : List Dq) (hi : CIn W a q f K L D) (hl : K.length ≤ 70000) (x : Int) (he : mayE a q f K L D = x) (hx : x ≠ 0) : Calls Try.prog 8 #[.agg (akA a), .agg (oqA q), .agg (fqA f)] W fun e w' =>
    e = .returned (.tuple #[.agg (oqA oz0), .bool false, .int .i64 x]) ∧ Below W.heap.size W w' := by
  refine (check_p W a q f K L D hi hl).mono fun e w' h => ?_
  obtain ⟨X, t, he2, h, hb⟩ := h
  refine ⟨?_, hb⟩
  rw [he] at he2
  rcases h with ⟨_, rfl, rfl⟩ | ⟨h1, _⟩ | ⟨h1, _⟩
  · exact he2
  · exact absurd (he.symm.trans h1) hx
  · exact absurd (he.symm.trans h1) hx
theorem check_ok (W : World) (a : Ak) (q : Oq) (f : Fq) (K L : List Ky) (D : List Dq) (hi : CIn W a q f K L D) (hl : K.length ≤ 70000) (he : mayE a q f K L D = 0) (hh : holdsB a q f K L D = true) : Calls Try.prog 8 #[.agg (akA a), .agg (oqA q), .agg (fqA f)] W fun e w' =>
    ∃ ka kc, e = .returned (.tuple #[.agg (oqA (delQ a.m q K.length ka kc)), .bool true, .int .i64 0]) ∧ Below W.heap.size W w' := by
  refine (check_t W a q f K L D hi hl fun _ => hh).mono fun e w' h => ?_
  obtain ⟨X, b, h1, h2, h3⟩ := h
  obtain ⟨rfl, ka, kc, rfl⟩ := h2 he
  rw [he] at h1
  exact ⟨ka, kc, h1, h3⟩
section
variable {ops : Array Oper} {rest : List Oper} {o : Oper} {a : Act} {w : World} {Q : Exit → Act → World → Prop} {x : Operand} {g : Nat} {t : TypeId}
theorem aw_ld {k : Ak} (hw : Region.wanted o (yielded ops a.tmps) = true) (ho : o.op = .load 39 x) (hx : a.eval x = .pointer (some ⟨g, 0, none⟩)) (hg : w.heap[g]? = some (.cells (akA k) t (0, 0)))
    (h : wpList Try.prog ops Q rest (a.put o.dst (.agg (akA k))) w) : wpList Try.prog ops Q (o :: rest) a w :=
  sub_load (all := akl k) (cs := akl k) hw ho hx hg rfl Try.underlying39 rfl ask_sz h
theorem ow_ld {k : Oq} (hw : Region.wanted o (yielded ops a.tmps) = true) (ho : o.op = .load 33 x) (hx : a.eval x = .pointer (some ⟨g, 0, none⟩)) (hg : w.heap[g]? = some (.cells (oqA k) t (0, 0)))
    (h : wpList Try.prog ops Q rest (a.put o.dst (.agg (oqA k))) w) : wpList Try.prog ops Q (o :: rest) a w :=
  sub_load (all := oql k) (cs := oql k) hw ho hx hg rfl Try.underlying33 rfl out_sz h
theorem fw_ld {k : Fq} (hw : Region.wanted o (yielded ops a.tmps) = true) (ho : o.op = .load 43 x) (hx : a.eval x = .pointer (some ⟨g, 0, none⟩)) (hg : w.heap[g]? = some (.cells (fqA k) t (0, 0)))
    (h : wpList Try.prog ops Q rest (a.put o.dst (.agg (fqA k))) w) : wpList Try.prog ops Q (o :: rest) a w :=
  sub_load (all := fql k) (cs := fql k) hw ho hx hg rfl Try.underlying43 rfl fq_sz h
end
set_option maxHeartbeats 8000000 in
set_option maxRecDepth 1000000 in
theorem refused_p (w : World) (a : Ak) (q : Oq) (f : Fq) (K L : List Ky) (D : List Dq) (hi : CIn w a q f K L D) (hl : K.length ≤ 70000) (he : mayE a q f K L D = 0) (hh : holdsB a q f K L D = false) : Calls Try.prog 10 #[.agg (akA a), .agg (oqA q), .agg (fqA f)] w fun e w' =>
    e = .returned (.bool true) ∧ Below w.heap.size w w' := by
  have cT : ∀ W, Below w.heap.size w W → Calls Try.prog 8 #[.agg (akA a), .agg (oqA q), .agg (fqA f)] W fun e w' => e = .returned (.tuple #[.agg (oqA oz0), .bool false, .int .i64 0]) ∧ Below W.heap.size W w' := fun W hb => check_no W a q f K L D (hi.up hb) hl he hh
  clear hi hl he hh
  obtain ⟨b1, b2, b3⟩ := vblk3 (w := w) (Below.refl _ (((w.alloc (.cells (akA a) 39)).alloc (.cells (oqA q) 33)).alloc (.cells (fqA f) 43)))
  have hB0 : Below w.heap.size w (((w.alloc (.cells (akA a) 39)).alloc (.cells (oqA q) 33)).alloc (.cells (fqA f) 43)) := vafter (vafter (vzero _ _))
  go_enter Try.func10, Try.ntmps10
  go_wp2_with (first
    | ((with_reducible refine aw_ld (k := a) ?_ rfl rfl b1 ?_); (rfl))
    | ((with_reducible refine ow_ld (k := q) ?_ rfl rfl b2 ?_); (rfl))
    | ((with_reducible refine fw_ld (k := f) ?_ rfl rfl b3 ?_); (rfl))
    | (go_at_call 8; (with_reducible refine (cT _ hB0).mono ?_); rintro e w1 ⟨rfl, h9⟩; have HB := Lib.hid (vb hB0 h9); clear h9)
    | ((with_reducible refine t_store (cs := oqA oz0) rfl rfl rfl rfl (heap_alloc_new w1 _) (oq_info _) ?_ (oqA_one _) (vzero w1 _) (Nat.le_refl _) ?_); (rfl); intro W2 hb2 hW2 _ _; have HW := Lib.hid (show W2.heap[w1.heap.size]? = some (.cells (oql oz0).toArray 33 (0, 0)) from hW2); have HB2 := Lib.hid (vb HB.out hb2); clear hb2 hW2)
    | ((with_reducible refine lu_l2 (all := oql oz0) ?_ rfl rfl HW.out ?_); (rfl); refine ⟨_, rfl, ?_⟩)
    | (fail))
  go_ret
  exact ⟨rfl, HB2.out⟩
/-- the ten claims -/
def fc1 : Fq := ⟨true, nlV, false, dz 0, none, 0, 0, none, 0, 0⟩
def fc2 : Fq := ⟨false, thV, false, dz 0, none, 0, 0, none, 0, 0⟩
def fc3 : Fq := ⟨true, v0, true, fxD, none, 0, 0, none, 0, 0⟩
def fc4 : Fq := fz true
def fcL (A : Option Addr) (n c : Nat) (A2 : Option Addr) (m d : Nat) : Fq := ⟨true, v0, false, dz 0, A, n, c, A2, m, d⟩
theorem pn_1 (W : World) : Calls Try.prog 8 #[.agg (akA (akz 1)), .agg (oqA (valO nlV)), .agg (fqA fc1)] W fun e w' => e = .returned (.tuple #[.agg (oqA (valO nlV)), .bool true, .int .i64 0]) ∧ Below W.heap.size W w' := by
  have hm : mayE (akz 1) (valO nlV) fc1 [] [] [] = 0 := by
    have e : mayE (akz 1) (valO nlV) fc1 [] [] [] = orE (whatE nlV) (parE nlV) := by unfold mayE akz valO fc1; simp
    rw [e]
    unfold orE parE
    rw [what_0 nlV_ok]
    rfl
  have hh : holdsB (akz 1) (valO nlV) fc1 [] [] [] = true := by
    have e : holdsB (akz 1) (valO nlV) fc1 [] [] [] = (leadsB nlV && keepsB fc1 nlV) := by unfold holdsB akz valO; simp
    rw [e]
    rfl
  refine (check_ok W _ _ _ [] [] [] (cin_0 W 1 _ _ (ok_in nlV_ok) dz_in (ok_in nlV_ok) dz_in rfl rfl rfl rfl) (by decide) hm hh).mono fun e w' h => ?_
  obtain ⟨ka, kc, h1, h2⟩ := h
  exact ⟨h1, h2⟩
theorem pn_2 (W : World) : Calls Try.prog 10 #[.agg (akA (akz 1)), .agg (oqA (valO nlV)), .agg (fqA fc2)] W fun e w' => e = .returned (.bool true) ∧ Below W.heap.size W w' := by
  refine refused_p W _ _ _ [] [] [] (cin_0 W 1 _ _ (ok_in nlV_ok) dz_in (ok_in thV_ok) dz_in rfl rfl rfl rfl) (by decide) ?_ ?_
  · have e : mayE (akz 1) (valO nlV) fc2 [] [] [] = orE (whatE nlV) (parE thV) := by unfold mayE akz valO fc2; simp
    rw [e]
    unfold orE parE
    rw [what_0 nlV_ok, what_0 thV_ok]
    rfl
  · have e : holdsB (akz 1) (valO nlV) fc2 [] [] [] = (leadsB nlV && keepsB fc2 nlV) := by unfold holdsB akz valO; simp
    rw [e]
    first | rfl | decide
theorem pn_3 (W : World) : Calls Try.prog 10 #[.agg (akA (akz 5)), .agg (oqA (yesO false)), .agg (fqA fc3)] W fun e w' => e = .returned (.bool true) ∧ Below W.heap.size W w' := by
  refine refused_p W _ _ _ [] [] [] (cin_0 W 5 _ _ v0_in dz_in v0_in fxD_in rfl rfl rfl rfl) (by decide) ?_ ?_
  · rw [t_may5 rfl]
    unfold orE thereE wholeE
    rw [show fc3.d = fxD from rfl, fxD_whole]
    rfl
  · have e : holdsB (akz 5) (yesO false) fc3 [] [] [] = toldB (yesO false) fc3 := by unfold holdsB akz; simp
    rw [e]
    rfl
theorem pn_4 (W : World) : Calls Try.prog 10 #[.agg (akA (akz 5)), .agg (oqA (fndO true oneD)), .agg (fqA (fz true))] W fun e w' => e = .returned (.bool true) ∧ Below W.heap.size W w' := by
  refine refused_p W _ _ _ [] [] [] (cin_0 W 5 _ _ v0_in oneD_in v0_in dz_in rfl rfl rfl rfl) (by decide) ?_ ?_
  · rw [t_may5 rfl]
    unfold orE descE
    rw [show (fndO true oneD).d = oneD from rfl, chk_of oneD_good]
    rfl
  · have e : holdsB (akz 5) (fndO true oneD) (fz true) [] [] [] = toldB (fndO true oneD) (fz true) := by unfold holdsB akz; simp
    rw [e]
    unfold toldB
    have hz : (compQ (fndO true oneD).d).z = false := by
      unfold compQ
      cases chkQ (fndO true oneD).d <;> kernel_rfl
    rw [hz, show fixedB (fz true) = false from rfl]
    show (fitsB _ _ && (false || (false && _))) = false
    rw [Bool.false_and, Bool.false_or, Bool.and_false]
theorem keys_0 : keysE [] = 0 := keysE_ok (by decide) fun k h => nomatch h
theorem owned_0 : ownedE [] [] = 0 := owned_3 keys_0 (by rw [twiceB_no.2 List.nodup_nil]; simp) fun d h => nomatch h
theorem nd_1 : [kA].Nodup := by simp
theorem nd_2 : [kA, kB].Nodup := by simp [kAB]
theorem keys_1 : keysE [kA] = 0 := keysE_ok (by decide) fun k h => by simp at h; rw [h]; exact kA_may
theorem keys_2 : keysE [kA, kB] = 0 := keysE_ok (by decide) fun k h => by simp at h; rcases h with rfl | rfl; exact kA_may; exact kB_may
theorem keys_3 : keysE [kA, kA] = 0 := keysE_ok (by decide) fun k h => by simp at h; rw [h]; exact kA_may
/-- a claim of ownKeys -/
theorem cin_k (W : World) (A : Option Addr) (K : List Ky) (c : Nat) (A1 : Option Addr) (L : List Ky) (c1 : Nat) (A2 : Option Addr) (D : List Dq) (c2 : Nat) (hk : RK W A K) (hK : K.length < 1000) (hc : K.length ≤ c) (hn : A = none → c = 0) (hl : RK W A1 L) (hL : L.length < 1000) (hc1 : L.length ≤ c1) (hd : RD W A2 D) (hD : D.length < 1000) (hi : ∀ d ∈ D, d.In) : CIn W (akz 11) (keyO A K.length c) (fcL A1 L.length c1 A2 D.length c2) K L D :=
  { qv := v0_in, qd := dz_in, av := v0_in, ad := dz_in, fp := v0_in, fd := dz_in, kn := rfl, kl := by omega, k := hk, kc := hc, knil := hn, fk := rfl, ll := by omega, l := hl, lc := hc1, fn := rfl, dl := by omega, d := hd, di := hi }
theorem pn_5 (W : World) (A : Option Addr) (c : Nat) (hk : RK W A [kA, kA]) (hc : 2 ≤ c) (hn : A = none → c = 0) : Calls Try.prog 10 #[.agg (akA (akz 11)), .agg (oqA (keyO A 2 c)), .agg (fqA (fz true))] W fun e w' => e = .returned (.bool true) ∧ Below W.heap.size W w' := by
  refine refused_p W _ _ _ [kA, kA] [] [] (cin_k W A [kA, kA] c none [] 0 none [] 0 hk (by decide) hc hn (fun h => absurd h (by decide)) (by decide) (Nat.le_refl _) (fun h => absurd h (by decide)) (by decide) fun d h => nomatch h) (by decide) ?_ ?_
  · have e : mayE (akz 11) (keyO A 2 c) (fz true) [kA, kA] [] [] = orE (keysE [kA, kA]) (ownedE [] []) := by unfold mayE akz keyO; simp
    show mayE (akz 11) (keyO A 2 c) (fz true) [kA, kA] [] [] = 0
    rw [e, keys_3, owned_0]
    rfl
  · have e : holdsB (akz 11) (keyO A 2 c) (fz true) [kA, kA] [] [] = listedB [kA, kA] [] [] true := by unfold holdsB akz; simp; rfl
    show holdsB (akz 11) (keyO A 2 c) (fz true) [kA, kA] [] [] = false
    rw [e]
    unfold listedB
    have ht : twiceB [kA, kA] = true := by
      cases h : twiceB [kA, kA]
      · have := twiceB_no.1 h
        simp at this
      · rfl
    rw [ht]
    rfl
theorem pn_6 (W : World) (A : Option Addr) (A2 : Option Addr) (c2 : Nat) (hk : RK W A [kA, kB]) (hn : A ≠ none) (hd : RD W A2 [dnD, fxD]) : Calls Try.prog 10 #[.agg (akA (akz 11)), .agg (oqA (keyO A 1 2)), .agg (fqA (fcL A 2 2 A2 2 c2))] W fun e w' => e = .returned (.bool true) ∧ Below W.heap.size W w' := by
  have hk1 : RK W A [kA] := rk_take hk 1
  refine refused_p W _ _ _ [kA] [kA, kB] [dnD, fxD] (cin_k W A [kA] 2 A [kA, kB] 2 A2 [dnD, fxD] c2 hk1 (by decide) (by decide) (fun h => absurd h hn) hk (by decide) (by decide) hd (by decide) fun d h => by simp at h; rcases h with rfl | rfl; exact dnD_in; exact fxD_in) (by decide) ?_ ?_
  · have e : mayE (akz 11) (keyO A 1 2) (fcL A 2 2 A2 2 c2) [kA] [kA, kB] [dnD, fxD] = orE (keysE [kA]) (ownedE [kA, kB] [dnD, fxD]) := by unfold mayE akz keyO; simp
    have o : ownedE [kA, kB] [dnD, fxD] = 0 := owned_3 keys_2 (by rw [twiceB_no.2 nd_2]; simp) fun d h => by simp at h; rcases h with rfl | rfl; exact .inr dnD_whole; exact .inr fxD_whole
    show mayE (akz 11) (keyO A 1 2) (fcL A 2 2 A2 2 c2) [kA] [kA, kB] [dnD, fxD] = 0
    rw [e, keys_1, o]
    rfl
  · have e : holdsB (akz 11) (keyO A 1 2) (fcL A 2 2 A2 2 c2) [kA] [kA, kB] [dnD, fxD] = listedB [kA] [kA, kB] [dnD, fxD] true := by unfold holdsB akz; simp; rfl
    show holdsB (akz 11) (keyO A 1 2) (fcL A 2 2 A2 2 c2) [kA] [kA, kB] [dnD, fxD] = false
    rw [e]
    unfold listedB
    have hs : stuckL [kA, kB] [dnD, fxD] = [kB] := by kernel_rfl
    have ha : allB [kA] [kB] = false := by
      cases h : allB [kA] [kB]
      · rfl
      · have := allB_iff.1 h kB (by simp)
        simp at this
        exact absurd this.symm kAB
    rw [hs, ha]
    simp
theorem pn_7 (W : World) (A : Option Addr) (A2 : Option Addr) (c2 : Nat) (hk : RK W A [kA, kB]) (hn : A ≠ none) (hd : RD W A2 [fxD]) : Calls Try.prog 8 #[.agg (akA (akz 11)), .agg (oqA (keyO A 2 2)), .agg (fqA (fcL A 1 2 A2 1 c2))] W fun e w' => ∃ ka kc, e = .returned (.tuple #[.agg (oqA (keyO ka 2 kc)), .bool true, .int .i64 0]) ∧ Below W.heap.size W w' := by
  have hk1 : RK W A [kA] := rk_take hk 1
  refine (check_ok W _ _ _ [kA, kB] [kA] [fxD] (cin_k W A [kA, kB] 2 A [kA] 2 A2 [fxD] c2 hk (by decide) (by decide) (fun h => absurd h hn) hk1 (by decide) (by decide) hd (by decide) fun d h => by simp at h; rw [h]; exact fxD_in) (by decide) ?_ ?_).mono fun e w' h => ?_
  · have e : mayE (akz 11) (keyO A 2 2) (fcL A 1 2 A2 1 c2) [kA, kB] [kA] [fxD] = orE (keysE [kA, kB]) (ownedE [kA] [fxD]) := by unfold mayE akz keyO; simp
    have o : ownedE [kA] [fxD] = 0 := owned_3 keys_1 (by rw [twiceB_no.2 nd_1]; simp) fun d h => by simp at h; rw [h]; exact .inr fxD_whole
    show mayE (akz 11) (keyO A 2 2) (fcL A 1 2 A2 1 c2) [kA, kB] [kA] [fxD] = 0
    rw [e, keys_2, o]
    rfl
  · have e : holdsB (akz 11) (keyO A 2 2) (fcL A 1 2 A2 1 c2) [kA, kB] [kA] [fxD] = listedB [kA, kB] [kA] [fxD] true := by unfold holdsB akz; simp; rfl
    show holdsB (akz 11) (keyO A 2 2) (fcL A 1 2 A2 1 c2) [kA, kB] [kA] [fxD] = true
    rw [e]
    unfold listedB
    rw [twiceB_no.2 nd_2, allB_iff.2 fun k hk => by have := stuck_mem [kA] [fxD] k hk; simp at this; rw [this]; simp]
    rfl
  · obtain ⟨ka, kc, h1, h2⟩ := h
    exact ⟨ka, kc, h1, h2⟩
theorem pn_8 (W : World) : Calls Try.prog 8 #[.agg (akA (akz 14)), .agg (oqA (yesO true)), .agg (fqA (fz false))] W fun e w' => e = .returned (.tuple #[.agg (oqA oz0), .bool false, .int .i64 2]) ∧ Below W.heap.size W w' :=
  check_er W _ _ _ [] [] [] (cin_0 W 14 _ _ v0_in dz_in v0_in dz_in rfl rfl rfl rfl) (by decide) 2 (by unfold mayE akz yesO; simp) (by decide)
theorem pn_9 (W : World) : Calls Try.prog 8 #[.agg (akA (akz 3)), .agg (oqA oz0), .agg (fqA (fz false))] W fun e w' => e = .returned (.tuple #[.agg (oqA oz0), .bool false, .int .i64 2]) ∧ Below W.heap.size W w' :=
  check_er W _ _ _ [] [] [] (cin_0 W 3 _ _ v0_in dz_in v0_in dz_in rfl rfl rfl rfl) (by decide) 2 (by unfold mayE akz oz0; simp) (by decide)
theorem pn_10 (W : World) : Calls Try.prog 10 #[.agg (akA (akz 13)), .agg (oqA (valO onV)), .agg (fqA (fz false))] W fun e w' => e = .returned (.bool true) ∧ Below W.heap.size W w' := by
  refine refused_p W _ _ _ [] [] [] (cin_0 W 13 _ _ (ok_in onV_ok) dz_in v0_in dz_in rfl rfl rfl rfl) (by decide) ?_ ?_
  · have e : mayE (akz 13) (valO onV) (fz false) [] [] [] = whatE onV := by unfold mayE akz valO; simp
    rw [e, what_0 onV_ok]
  · have e : holdsB (akz 13) (valO onV) (fz false) [] [] [] = objQ onV := by unfold holdsB akz valO; simp
    rw [e]
    rfl
end Go.Proofs.Ytkmgdaagannhkaa.S
/-
  PostNames: what its code builds.
-/
namespace Go.Proofs.Ytkmgdaagannhkaa.S
open Go.RowKit Go.Lib Fl
open Classical

abbrev nlL : List Value := [.int .u8 nlV.k, .float .f64 nlV.x, .string nlV.s, .int .i64 nlV.r]
abbrev kkL (k1 k2 : Ky) : List Value := [.string k1.str, .int .i64 k1.sym, .string k2.str, .int .i64 k2.sym]
/-- null and a fixed descriptor in blocks of their own, and a list of two keys -/
structure Nx (w : World) (g1 g2 g3 : Nat) (W : World) : Prop where
  below : Below w.heap.size w W
  v : W.heap[g1]? = some (.cells nlL.toArray 24 (0, 0))
  d : W.heap[g2]? = some (.cells fxD.cells 27 (0, 0))
  k : RK W (some ⟨g3, 0, none⟩) [kA, kB]
theorem Nx.up {w W W' : World} {g1 g2 g3 : Nat} (h : Nx w g1 g2 g3 W) (hb : Below W.heap.size W W') : Nx w g1 g2 g3 W' := ⟨vb h.below hb, vblkn hb h.v, vblkn hb h.d, rk_up h.k hb⟩
theorem gadd (g k : Nat) : (⟨g, 0, none⟩ : Addr).add k = ⟨g, k, none⟩ := by unfold Addr.add; split <;> simp_all
theorem rk_two {W : World} {g : Nat} {t : TypeId} {k1 k2 : Ky} (h : W.heap[g]? = some (.cells (kkL k1 k2).toArray t (0, 0))) : RK W (some ⟨g, 0, none⟩) [k1, k2] := fun _ => by
  refine ⟨⟨g, 0, none⟩, rfl, lt_blk h, fun i hi => ?_⟩
  rw [gadd]
  match i, hi with
  | 0, _ => exact ⟨vcells h 0, vcells h 1⟩
  | 1, _ => exact ⟨vcells h 2, vcells h 3⟩
theorem rd_one {W : World} {g : Nat} {t : TypeId} {d : Dq} (h : W.heap[g]? = some (.cells d.cells t (0, 0))) : RD W (some ⟨g, 0, none⟩) [d] := fun _ => by
  refine ⟨⟨g, 0, none⟩, rfl, lt_blk h, fun i hi j u hu => ?_⟩
  obtain rfl : i = 0 := by simp at hi; omega
  rw [gadd]
  show W.cell? ((⟨g, 0, none⟩ : Addr).add j) = some u
  rw [gadd, vcells h j]
  simpa using hu
theorem rd_two {W : World} {g : Nat} {t : TypeId} {d e : Dq} (h : W.heap[g]? = some (.cells (d.cells.toList ++ e.cells.toList).toArray t (0, 0))) : RD W (some ⟨g, 0, none⟩) [d, e] := fun _ => by
  refine ⟨⟨g, 0, none⟩, rfl, lt_blk h, fun i hi j u hu => ?_⟩
  rw [gadd]
  have hadd : (⟨g, i * 16, none⟩ : Addr).add j = ⟨g, i * 16 + j, none⟩ := by unfold Addr.add; split <;> simp_all
  rw [hadd, vcells h (i * 16 + j), List.getElem?_toArray]
  have hd : d.cells.toList.length = 16 := rfl
  match i, hi with
  | 0, _ =>
    have hj : j < 16 := (List.getElem?_eq_some_iff.1 hu).1
    rw [List.getElem?_append_left (by rw [hd]; omega)]
    simpa using hu
  | 1, _ =>
    rw [List.getElem?_append_right (by rw [hd]; omega), hd]
    rw [show 1 * 16 + j - 16 = j by omega]
    exact hu
set_option maxRecDepth 100000 in
theorem nl_rb (w : World) : (Instr.build 24 #[(0, .int .u8 1)]).run Try.prog w = .ok (.agg nlL.toArray) w := by kernel_rfl
set_option maxRecDepth 100000 in
theorem th_rb (w : World) : (Instr.build 24 #[(0, .int .u8 6), (3, .int .i64 3)]).run Try.prog w = .ok (.agg #[.int .u8 thV.k, .float .f64 thV.x, .string thV.s, .int .i64 thV.r]) w := by kernel_rfl
set_option maxRecDepth 100000 in
theorem fx_rb (w : World) : (Instr.build 27 #[(0, .int .u8 51), (1, .agg #[.int .u8 3, .float .f64 4607182418800017408, .string ⟨#[]⟩, .int .i64 0])]).run Try.prog w = .ok (.agg fxD.cells) w := by kernel_rfl
set_option maxRecDepth 100000 in
theorem od_rb (w : World) : (Instr.build 27 #[(0, .int .u8 1), (1, .agg #[.int .u8 3, .float .f64 4607182418800017408, .string ⟨#[]⟩, .int .i64 0])]).run Try.prog w = .ok (.agg oneD.cells) w := by kernel_rfl
set_option maxRecDepth 100000 in
theorem f1_rb (w : World) : (Instr.build 43 #[(0, .bool true), (1, .agg nlL.toArray)]).run Try.prog w = .ok (.agg (fqA fc1)) w := by kernel_rfl
set_option maxRecDepth 100000 in
theorem f2_rb (w : World) : (Instr.build 43 #[(1, .agg #[.int .u8 thV.k, .float .f64 thV.x, .string thV.s, .int .i64 thV.r])]).run Try.prog w = .ok (.agg (fqA fc2)) w := by kernel_rfl
set_option maxRecDepth 100000 in
theorem f3_rb (w : World) : (Instr.build 43 #[(0, .bool true), (2, .bool true), (3, .agg fxD.cells)]).run Try.prog w = .ok (.agg (fqA fc3)) w := by kernel_rfl
set_option maxRecDepth 100000 in
theorem fL_rb (A A2 : Option Addr) (n c m d : Nat) (w : World) : (Instr.build 43 #[(0, .bool true), (4, .slice A n c), (5, .slice A2 m d)]).run Try.prog w = .ok (.agg (fqA (fcL A n c A2 m d))) w := by kernel_rfl
set_option maxRecDepth 100000 in
theorem y0_rb (w : World) : (Instr.build 33 #[(0, .int .u8 1)]).run Try.prog w = .ok (.agg (oqA (yesO false))) w := by kernel_rfl
set_option maxRecDepth 100000 in
theorem ozz_rb (w : World) : (Instr.build 33 #[]).run Try.prog w = .ok (.agg (oqA oz0)) w := by kernel_rfl
set_option maxRecDepth 100000 in
theorem fo_rb (w : World) : (Instr.build 33 #[(0, .int .u8 1), (3, .bool true), (4, .agg oneD.cells)]).run Try.prog w = .ok (.agg (oqA (fndO true oneD))) w := by kernel_rfl
set_option maxRecDepth 100000 in
theorem val_rb2 (v : Vq) (w : World) : (Instr.build 33 #[(0, .int .u8 1), (1, .agg #[.int .u8 v.k, .float .f64 v.x, .string v.s, .int .i64 v.r])]).run Try.prog w = .ok (.agg (oqA (valO v))) w := by kernel_rfl
set_option maxRecDepth 100000 in
theorem key_rb2 (A : Option Addr) (n c : Nat) (w : World) : (Instr.build 33 #[(0, .int .u8 1), (5, .slice A n c)]).run Try.prog w = .ok (.agg (oqA (keyO A n c))) w := by kernel_rfl
set_option maxRecDepth 100000 in
theorem ks_rb (s s2 : ByteArray) (w : World) : (Instr.buildSlice 31 2 #[(0, .agg #[.string s, .int .i64 0]), (1, .agg #[.string s2, .int .i64 0])]).run Try.prog w = .ok (.slice (some ⟨w.heap.size, 0, none⟩) 2 2) (w.alloc (.cells (kkL ⟨s, 0⟩ ⟨s2, 0⟩).toArray 29)) := by kernel_rfl
set_option maxRecDepth 100000 in
theorem d1_rb (w : World) : (Instr.buildSlice 41 1 #[(0, .agg fxD.cells)]).run Try.prog w = .ok (.slice (some ⟨w.heap.size, 0, none⟩) 1 1) (w.alloc (.cells fxD.cells 27)) := by kernel_rfl
set_option maxRecDepth 100000 in
theorem d2_rb (w : World) : (Instr.buildSlice 41 2 #[(0, .agg dnD.cells), (1, .agg fxD.cells)]).run Try.prog w = .ok (.slice (some ⟨w.heap.size, 0, none⟩) 2 2) (w.alloc (.cells (dnD.cells.toList ++ fxD.cells.toList).toArray 27)) := by kernel_rfl
section
variable {o : Oper} {a : Act} {w : World} {x y : Operand}
theorem ac (a : Act) (v : Value) : a.eval (.const v) = v := rfl
theorem nl_ea (ho : o.op = .build 24 #[(0, .const (.int .u8 1))]) : (execOp a.eval o).run Try.prog w = .ok (.value (.agg nlL.toArray)) w := by
  unfold execOp
  simp only [ho, List.map_toArray, List.map_cons, List.map_nil, ac, nl_rb, Sem.run_bind, Sem.run_pure, Result.andThen_ok]
theorem th_ea (ho : o.op = .build 24 #[(0, .const (.int .u8 6)), (3, .const (.int .i64 3))]) : (execOp a.eval o).run Try.prog w = .ok (.value (.agg #[.int .u8 thV.k, .float .f64 thV.x, .string thV.s, .int .i64 thV.r])) w := by
  unfold execOp
  simp only [ho, List.map_toArray, List.map_cons, List.map_nil, ac, th_rb, Sem.run_bind, Sem.run_pure, Result.andThen_ok]
theorem fx_ea (ho : o.op = .build 27 #[(0, .const (.int .u8 51)), (1, x)]) (hx : a.eval x = .agg #[.int .u8 3, .float .f64 4607182418800017408, .string ⟨#[]⟩, .int .i64 0]) : (execOp a.eval o).run Try.prog w = .ok (.value (.agg fxD.cells)) w := by
  unfold execOp
  simp only [ho, List.map_toArray, List.map_cons, List.map_nil, ac, hx, fx_rb, Sem.run_bind, Sem.run_pure, Result.andThen_ok]
theorem od_ea (ho : o.op = .build 27 #[(0, .const (.int .u8 1)), (1, x)]) (hx : a.eval x = .agg #[.int .u8 3, .float .f64 4607182418800017408, .string ⟨#[]⟩, .int .i64 0]) : (execOp a.eval o).run Try.prog w = .ok (.value (.agg oneD.cells)) w := by
  unfold execOp
  simp only [ho, List.map_toArray, List.map_cons, List.map_nil, ac, hx, od_rb, Sem.run_bind, Sem.run_pure, Result.andThen_ok]
theorem f1_ea (ho : o.op = .build 43 #[(0, .const (.bool true)), (1, x)]) (hx : a.eval x = .agg nlL.toArray) : (execOp a.eval o).run Try.prog w = .ok (.value (.agg (fqA fc1))) w := by
  unfold execOp
  simp only [ho, List.map_toArray, List.map_cons, List.map_nil, ac, hx, f1_rb, Sem.run_bind, Sem.run_pure, Result.andThen_ok]
theorem f2_ea (ho : o.op = .build 43 #[(1, x)]) (hx : a.eval x = .agg #[.int .u8 thV.k, .float .f64 thV.x, .string thV.s, .int .i64 thV.r]) : (execOp a.eval o).run Try.prog w = .ok (.value (.agg (fqA fc2))) w := by
  unfold execOp
  simp only [ho, List.map_toArray, List.map_cons, List.map_nil, hx, f2_rb, Sem.run_bind, Sem.run_pure, Result.andThen_ok]
theorem f3_ea (ho : o.op = .build 43 #[(0, .const (.bool true)), (2, .const (.bool true)), (3, x)]) (hx : a.eval x = .agg fxD.cells) : (execOp a.eval o).run Try.prog w = .ok (.value (.agg (fqA fc3))) w := by
  unfold execOp
  simp only [ho, List.map_toArray, List.map_cons, List.map_nil, ac, hx, f3_rb, Sem.run_bind, Sem.run_pure, Result.andThen_ok]
theorem fL_ea {A A2 : Option Addr} {n c m d : Nat} (ho : o.op = .build 43 #[(0, .const (.bool true)), (4, x), (5, y)]) (hx : a.eval x = .slice A n c) (hy : a.eval y = .slice A2 m d) : (execOp a.eval o).run Try.prog w = .ok (.value (.agg (fqA (fcL A n c A2 m d)))) w := by
  unfold execOp
  simp only [ho, List.map_toArray, List.map_cons, List.map_nil, ac, hx, hy, fL_rb, Sem.run_bind, Sem.run_pure, Result.andThen_ok]
theorem y0_ea (ho : o.op = .build 33 #[(0, .const (.int .u8 1))]) : (execOp a.eval o).run Try.prog w = .ok (.value (.agg (oqA (yesO false)))) w := by
  unfold execOp
  simp only [ho, List.map_toArray, List.map_cons, List.map_nil, ac, y0_rb, Sem.run_bind, Sem.run_pure, Result.andThen_ok]
theorem ozz_ea (ho : o.op = .build 33 #[]) : (execOp a.eval o).run Try.prog w = .ok (.value (.agg (oqA oz0))) w := by
  unfold execOp
  simp only [ho, List.map_toArray, List.map_nil, ozz_rb, Sem.run_bind, Sem.run_pure, Result.andThen_ok]
theorem fo_ea (ho : o.op = .build 33 #[(0, .const (.int .u8 1)), (3, .const (.bool true)), (4, x)]) (hx : a.eval x = .agg oneD.cells) : (execOp a.eval o).run Try.prog w = .ok (.value (.agg (oqA (fndO true oneD)))) w := by
  unfold execOp
  simp only [ho, List.map_toArray, List.map_cons, List.map_nil, ac, hx, fo_rb, Sem.run_bind, Sem.run_pure, Result.andThen_ok]
theorem val_ea2 {v : Vq} (ho : o.op = .build 33 #[(0, .const (.int .u8 1)), (1, y)]) (hy : a.eval y = .agg #[.int .u8 v.k, .float .f64 v.x, .string v.s, .int .i64 v.r]) : (execOp a.eval o).run Try.prog w = .ok (.value (.agg (oqA (valO v)))) w := by
  unfold execOp
  simp only [ho, List.map_toArray, List.map_cons, List.map_nil, ac, hy, val_rb2, Sem.run_bind, Sem.run_pure, Result.andThen_ok]
theorem key_ea2 {A : Option Addr} {n c : Nat} (ho : o.op = .build 33 #[(0, .const (.int .u8 1)), (5, y)]) (hy : a.eval y = .slice A n c) : (execOp a.eval o).run Try.prog w = .ok (.value (.agg (oqA (keyO A n c)))) w := by
  unfold execOp
  simp only [ho, List.map_toArray, List.map_cons, List.map_nil, ac, hy, key_rb2, Sem.run_bind, Sem.run_pure, Result.andThen_ok]
theorem ks_eb {s s2 : ByteArray} (ho : o.op = .buildSlice 31 2 #[(0, x), (1, y)]) (hx : a.eval x = .agg #[.string s, .int .i64 0]) (hy : a.eval y = .agg #[.string s2, .int .i64 0]) : (execOp a.eval o).run Try.prog w = .ok (.value (.slice (some ⟨w.heap.size, 0, none⟩) 2 2)) (w.alloc (.cells (kkL ⟨s, 0⟩ ⟨s2, 0⟩).toArray 29)) := by
  unfold execOp
  simp only [ho, List.map_toArray, List.map_cons, List.map_nil, hx, hy, ks_rb, Sem.run_bind, Sem.run_pure, Result.andThen_ok]
theorem d1_eb (ho : o.op = .buildSlice 41 1 #[(0, x)]) (hx : a.eval x = .agg fxD.cells) : (execOp a.eval o).run Try.prog w = .ok (.value (.slice (some ⟨w.heap.size, 0, none⟩) 1 1)) (w.alloc (.cells fxD.cells 27)) := by
  unfold execOp
  simp only [ho, List.map_toArray, List.map_cons, List.map_nil, hx, d1_rb, Sem.run_bind, Sem.run_pure, Result.andThen_ok]
theorem d2_eb (ho : o.op = .buildSlice 41 2 #[(0, x), (1, y)]) (hx : a.eval x = .agg dnD.cells) (hy : a.eval y = .agg fxD.cells) : (execOp a.eval o).run Try.prog w = .ok (.value (.slice (some ⟨w.heap.size, 0, none⟩) 2 2)) (w.alloc (.cells (dnD.cells.toList ++ fxD.cells.toList).toArray 27)) := by
  unfold execOp
  simp only [ho, List.map_toArray, List.map_cons, List.map_nil, hx, hy, d2_rb, Sem.run_bind, Sem.run_pure, Result.andThen_ok]
end
section
variable {ops : Array Oper} {Q : Exit → Act → World → Prop} {md : Region.Mode} {fuel : Nat} {l : Array Bool} {xs : List Value} {ds : List Deferred} {w w0 : World} {n g d : Nat} {K : Act → World → Prop} {o : Oper} {t : TypeId} {c : Array Value}
theorem aNewS {z : Nat} (hr : (execOp (Act.mk xs.toArray ds).eval o).run Try.prog w = .ok (.value (.slice (some ⟨w.heap.size, 0, none⟩) z z)) (w.alloc (.cells c t))) (hd : o.dst = some d) (hS : Below n w0 w) (hn : n ≤ w0.heap.size) (hK : Shut (∀ a w, Below n w0 w → (Below n w0 w → wpAnyH Try.prog md ops Q (fun V : World => Below n w0 V) fuel l a w) → K a w))
    (h : ∀ (W : World) (g : Nat), Below n w0 W → n ≤ g → W.heap[g]? = some (.cells c t (0, 0)) → Below w.heap.size w W → wpAnyH Try.prog md ops Q (fun V : World => Below n w0 V) fuel l ⟨(xs.set d (.slice (some ⟨g, 0, none⟩) z z)).toArray, ds⟩ W)
    (hw : Region.wanted o (yielded ops (Act.mk xs.toArray ds).tmps) = true := by kernel_rfl) : if Region.wanted o (yielded ops (Act.mk xs.toArray ds).tmps) = true then Oper.wp Try.prog o ⟨xs.toArray, ds⟩ w K Q else K ((Act.mk xs.toArray ds).put o.dst undef) w :=
  r_val hw hr hd (hK.out _ _ (n_vbm hS hn (vzero _ _)) fun hS2 => h _ _ hS2 (Nat.le_trans hn hS.size) (heap_alloc_new _ _) (vzero _ _))
end
set_option maxRecDepth 1000000 in
set_option maxHeartbeats 4000000 in
theorem pData_c (ka : Int) (xa : Nat) (sa : ByteArray) (ra : Int) (w : World) : Calls Try.prog 11 #[.agg #[.int .u8 ka, .float .f64 xa, .string sa, .int .i64 ra]] w fun e w' => e = .returned (.agg #[.int .u8 51, .int .u8 ka, .float .f64 xa, .string sa, .int .i64 ra, .int .u8 0, .float .f64 0, .string ⟨#[]⟩, .int .i64 0, .int .u8 0, .float .f64 0, .string ⟨#[]⟩, .int .i64 0, .bool true, .bool true, .bool true]) ∧ Below w.heap.size w w' := by
  have hst := vstore
  have hB0 : Below w.heap.size w ((w.alloc (.cells #[.int .u8 ka, .float .f64 xa, .string sa, .int .i64 ra] 24)).alloc (.cells #[.int .u8 0, .int .u8 0, .float .f64 0, .string ⟨#[]⟩, .int .i64 0, .int .u8 0, .float .f64 0, .string ⟨#[]⟩, .int .i64 0, .int .u8 0, .float .f64 0, .string ⟨#[]⟩, .int .i64 0, .bool false, .bool false, .bool false] 27)) := vafter (vzero _ _)
  obtain ⟨b1, b2⟩ := vblk2 (w := w) (Below.refl _ ((w.alloc (.cells #[.int .u8 ka, .float .f64 xa, .string sa, .int .i64 ra] 24)).alloc (.cells #[.int .u8 0, .int .u8 0, .float .f64 0, .string ⟨#[]⟩, .int .i64 0, .int .u8 0, .float .f64 0, .string ⟨#[]⟩, .int .i64 0, .int .u8 0, .float .f64 0, .string ⟨#[]⟩, .int .i64 0, .bool false, .bool false, .bool false] 27)))
  go_enter Try.func11, Try.ntmps11
  go_wp2_with (first | ((with_reducible refine v_load ?_ rfl rfl b1 rfl rfl rfl rfl ?_); (rfl)) | ((with_reducible refine d_store rfl rfl rfl rfl b2 ?_ ?_ ?_); (rfl); (rfl)))
  exact d_end Try.results11 rfl (setRow_heap _ _ _ _ _ _ b2) ⟨rfl, below_row hB0 (by omega) _⟩
theorem data_nl (w : World) : Calls Try.prog 11 #[.agg nlL.toArray] w fun e w' => e = .returned (.agg dnD.cells) ∧ Below w.heap.size w w' := pData_c 1 0 ⟨#[]⟩ 0 w
end Go.Proofs.Ytkmgdaagannhkaa.S
