/-
  OrdinaryKeeps: told, what an object tells.
-/
import Derived.Test.YtlfbflclefndjaaGreatDoorKE29
import Derived.Test.YtlfbflclefndjaaGreatDoorKE22
import Derived.Test.YtlfbflclefndjaaGreatDoorKE26
import Derived.Test.YtlfbflclefndjaaGreatDoorKE25
import Derived.Test.YtlfbflclefndjaaGreatDoorKE23
import Derived.Test.YtlfbflclefndjaaGreatDoorKE03
import Derived.Deep.Slices
import Derived.Deep.Fields
import Derived.ChangeSame
import Derived.Carry
import Derived.OpenShut
import Derived.Laws.Cover2
import Derived.Test.YtlfbflclefndjaaGreatDoorKE12
import Derived.Test.YtlfbflclefndjaaGreatDoorKE15
import Derived.Test.YtlfbflclefndjaaGreatDoorKE11
namespace Go.Proofs.YtlfbflclefndjaaGreatDoor.S
open Go.RowKit Go.Lib Fl
open Classical

/-- what is told: its cells -/
def tdl (sh : Bool) (p : Vq) (A : Option Addr) (n c : Nat) (f : Bool) (d : Dq) : List Value := [.bool sh, .int .u8 p.k, .float .f64 p.x, .string p.s, .int .i64 p.r, .slice A n c, .bool f, .int .u8 d.h, .int .u8 d.a.k, .float .f64 d.a.x, .string d.a.s, .int .i64 d.a.r, .int .u8 d.b.k, .float .f64 d.b.x, .string d.b.s, .int .i64 d.b.r, .int .u8 d.c.k, .float .f64 d.c.x, .string d.c.s, .int .i64 d.c.r, .bool d.p, .bool d.q, .bool d.z]
def tdA (sh : Bool) (p : Vq) (A : Option Addr) (n c : Nat) (f : Bool) (d : Dq) : Array Value := (tdl sh p A n c f d).toArray
theorem td_sz : (Tryz.prog.info? 51).map (·.size) = some 23 := by kernel_rfl
theorem td_one (sh : Bool) (p : Vq) (A : Option Addr) (n c : Nat) (f : Bool) (d : Dq) : (tdA sh p A n c f d).all (·.oneCell') = true := cells_one (l := tdl sh p A n c f d) rfl
abbrev tz23 : Array Value := #[.bool false, .int .u8 0, .float .f64 0, .string ⟨#[]⟩, .int .i64 0, .slice none 0 0, .bool false, .int .u8 0, .int .u8 0, .float .f64 0, .string ⟨#[]⟩, .int .i64 0, .int .u8 0, .float .f64 0, .string ⟨#[]⟩, .int .i64 0, .int .u8 0, .float .f64 0, .string ⟨#[]⟩, .int .i64 0, .bool false, .bool false, .bool false]
theorem td_end {f : Func} {i : Nat} {t : TypeId} {Q : Ending → World → Prop} {tmps : Array Value} {W : World} {g : Nat} {cs : Array Value} (hf : f.results = #[.cell i 51]) (h2 : tmps.getD i undef = .pointer (some ⟨g, 0, none⟩)) (hb : W.heap[g]? = some (.cells cs t (0, 0))) (hs : (Tryz.prog.info? 51).map (·.size) = some cs.size)
    (hQ : Q (.returned (.agg cs)) W) : bodyPost Tryz.prog f Q .ret { tmps := tmps, defers := [] } W :=
  bodyPost_ret (results_cell_row hf tmps W g t _ (0, 0) _ h2 hb Tryz.underlying51 rfl hs) rfl hQ
theorem rb_t3 (n : Int) (w : World) : (Instr.build 49 #[(0, .int .u8 3), (1, .int .i64 n)]).run Tryz.prog w = .ok (.agg (akA (akq 3 n kz (dz 0) v0))) w := by kernel_rfl
theorem ea_t3 {n : Int} {o : Oper} {a : Act} {w : World} {y : Operand} (ho : o.op = .build 49 #[(0, .const (.int .u8 3)), (1, y)]) (hy : a.eval y = .int .i64 n) : (execOp a.eval o).run Tryz.prog w = .ok (.value (.agg (akA (akq 3 n kz (dz 0) v0)))) w := by
  unfold execOp
  have hc : ∀ v, a.eval (.const v) = v := fun _ => rfl
  simp only [ho, List.map_toArray, List.map_cons, List.map_nil, hc, hy, rb_t3, Sem.run_bind, Sem.run_pure, Result.andThen_ok]
theorem rb_t1 (n : Int) (w : World) : (Instr.build 49 #[(0, .int .u8 1), (1, .int .i64 n)]).run Tryz.prog w = .ok (.agg (akA (akq 1 n kz (dz 0) v0))) w := by kernel_rfl
theorem ea_t1 {n : Int} {o : Oper} {a : Act} {w : World} {y : Operand} (ho : o.op = .build 49 #[(0, .const (.int .u8 1)), (1, y)]) (hy : a.eval y = .int .i64 n) : (execOp a.eval o).run Tryz.prog w = .ok (.value (.agg (akA (akq 1 n kz (dz 0) v0)))) w := by
  unfold execOp
  have hc : ∀ v, a.eval (.const v) = v := fun _ => rfl
  simp only [ho, List.map_toArray, List.map_cons, List.map_nil, hc, hy, rb_t1, Sem.run_bind, Sem.run_pure, Result.andThen_ok]
theorem rb_t11 (n : Int) (w : World) : (Instr.build 49 #[(0, .int .u8 11), (1, .int .i64 n)]).run Tryz.prog w = .ok (.agg (akA (akq 11 n kz (dz 0) v0))) w := by kernel_rfl
theorem ea_t11 {n : Int} {o : Oper} {a : Act} {w : World} {y : Operand} (ho : o.op = .build 49 #[(0, .const (.int .u8 11)), (1, y)]) (hy : a.eval y = .int .i64 n) : (execOp a.eval o).run Tryz.prog w = .ok (.value (.agg (akA (akq 11 n kz (dz 0) v0)))) w := by
  unfold execOp
  have hc : ∀ v, a.eval (.const v) = v := fun _ => rfl
  simp only [ho, List.map_toArray, List.map_cons, List.map_nil, hc, hy, rb_t11, Sem.run_bind, Sem.run_pure, Result.andThen_ok]
theorem rb_t5 (n : Int) (k : Ky) (w : World) : (Instr.build 49 #[(0, .int .u8 5), (1, .int .i64 n), (2, .agg #[.string k.str, .int .i64 k.sym])]).run Tryz.prog w = .ok (.agg (akA (akq 5 n k (dz 0) v0))) w := by kernel_rfl
theorem ea_t5 {n : Int} {k : Ky} {o : Oper} {a : Act} {w : World} {y : Operand} {x : Operand} (ho : o.op = .build 49 #[(0, .const (.int .u8 5)), (1, y), (2, x)]) (hy : a.eval y = .int .i64 n) (hx : a.eval x = .agg #[.string k.str, .int .i64 k.sym]) : (execOp a.eval o).run Tryz.prog w = .ok (.value (.agg (akA (akq 5 n k (dz 0) v0)))) w := by
  unfold execOp
  have hc : ∀ v, a.eval (.const v) = v := fun _ => rfl
  simp only [ho, List.map_toArray, List.map_cons, List.map_nil, hc, hy, hx, rb_t5, Sem.run_bind, Sem.run_pure, Result.andThen_ok]
theorem rb_td (sh : Bool) (p : Vq) (A : Option Addr) (n c : Nat) (f : Bool) (d : Dq) (w : World) : (Instr.build 51 #[(0, .bool sh), (1, .agg (vA p)), (2, .slice A n c), (3, .bool f), (4, .agg d.cells)]).run Tryz.prog w = .ok (.agg (tdA sh p A n c f d)) w := by kernel_rfl
theorem ea_td {sh : Bool} {p : Vq} {A : Option Addr} {n c : Nat} {f : Bool} {d : Dq} {o : Oper} {a : Act} {w : World} {x1 : Operand} {x2 : Operand} {x3 : Operand} {x4 : Operand} {x5 : Operand} (ho : o.op = .build 51 #[(0, x1), (1, x2), (2, x3), (3, x4), (4, x5)]) (hx1 : a.eval x1 = .bool sh) (hx2 : a.eval x2 = .agg (vA p)) (hx3 : a.eval x3 = .slice A n c) (hx4 : a.eval x4 = .bool f) (hx5 : a.eval x5 = .agg d.cells) : (execOp a.eval o).run Tryz.prog w = .ok (.value (.agg (tdA sh p A n c f d))) w := by
  unfold execOp
  simp only [ho, List.map_toArray, List.map_cons, List.map_nil, hx1, hx2, hx3, hx4, hx5, rb_td, Sem.run_bind, Sem.run_pure, Result.andThen_ok]
/-- the function's own blocks -/
structure Tk (w : World) (A : Option Addr) (n cap : Nat) (ky : Ky) (W : World) : Prop where
  below : Below w.heap.size w W
  h : W.heap[w.heap.size]? = some (.cells #[.slice A n cap] 24 (0, 0))
  k : W.heap[w.heap.size + 1]? = some (.cells #[.string ky.str, .int .i64 ky.sym] 26 (0, 0))
  d : W.heap[w.heap.size + 1 + 1]? = some (.cells tz23 51 (0, 0))
theorem Tk.up {w : World} {A : Option Addr} {n cap : Nat} {ky : Ky} {W W' : World} (h : Tk w A n cap ky W) (hb : Below W.heap.size W W') : Tk w A n cap ky W' := ⟨vb h.below hb, vblkn hb h.h, vblkn hb h.k, vblkn hb h.d⟩
theorem tk_start (w : World) (A : Option Addr) (n cap : Nat) (ky : Ky) : Tk w A n cap ky (((w.alloc (.cells #[.slice A n cap] 24)).alloc (.cells #[.string ky.str, .int .i64 ky.sym] 26)).alloc (.cells tz23 51)) := by
  obtain ⟨h1, h2⟩ := vblk2 (w := w) (Below.refl _ ((w.alloc (.cells #[.slice A n cap] 24)).alloc (.cells #[.string ky.str, .int .i64 ky.sym] 26)))
  have hs : ((w.alloc (.cells #[.slice A n cap] 24)).alloc (.cells #[.string ky.str, .int .i64 ky.sym] 26)).heap.size = w.heap.size + 1 + 1 := by simp
  have h3 := heap_alloc_new ((w.alloc (.cells #[.slice A n cap] 24)).alloc (.cells #[.string ky.str, .int .i64 ky.sym] 26)) (.cells tz23 51)
  rw [hs] at h3
  exact ⟨vafter (vafter (vzero _ _)), vblkn (vzero _ _) h1, vblkn (vzero _ _) h2, h3⟩
/-- an ask that changes nothing, of an object that may be asked -/
theorem asks_o {A : Option Addr} {H : List Ob} {cap k m : Nat} {ky : Ky} {W : World} (hm : (m : Int) = 1 ∨ (m : Int) = 3 ∨ (m : Int) = 11 ∨ ((m : Int) = 5 ∧ mayKy ky)) (hI : HIn W A H cap) (hp : ∀ o ∈ H, o.props.length ≤ 100000) (hmay : mayH H = true) (hk : k < H.length) (hpl : plainK H[k].kind = true) (hky : KyIn ky) (htab : TabHere W) :
    Calls Tryz.prog 14 #[.agg #[.slice A H.length cap], .agg (akA (akq m k ky (dz 0) v0))] W fun e w' => ∃ (B : Nat) (q : Oq) (o p : Ob), e = .returned (.tuple #[.agg #[.slice (some ⟨B, 0, none⟩) H.length H.length], .agg (oqA q)]) ∧ (o.bare = H[k].bare ∧ StepO H o (akq m k ky (dz 0) v0) q p w') ∧ Below W.heap.size W w' := by
  have ha : (akq m (k : Int) ky (dz 0) v0).In := akq_in hky dz0_in (ok_in v0_ok)
  have hE : doE H (akq m (k : Int) ky (dz 0) v0) = 0 := by
    rcases hm with h | h | h | ⟨h, h5⟩
    · exact doE_bare (.inl h) hmay hk hpl
    · exact doE_bare (.inr (.inl h)) hmay hk hpl
    · exact doE_bare (.inr (.inr (.inr h))) hmay hk hpl
    · rw [h]
      have h1 : inB H (k : Int) = true := decide_eq_true ⟨Int.natCast_nonneg k, by omega⟩
      have h2 : askK H (k : Int) = true := by unfold askK; rw [Int.toNat_natCast, List.getElem?_eq_getElem hk]; exact hpl
      unfold doE
      rw [hmay]
      show mayE H (akq 5 k ky (dz 0) v0) = 0
      unfold mayE
      show (bif eightM 5 && (inB H (k : Int) && askK H (k : Int)) then _ else _) = 0
      rw [h1, h2]
      exact keyE_ok.2 h5
  refine (Does_any A H cap _ W hI hp ha htab).mono fun e w' ⟨hb, h⟩ => ?_
  rcases h with ⟨hne, _⟩ | ⟨_, _, k2, B2, q, M2, hA, he, hD, hB⟩
  · exact absurd hE hne
  · obtain rfl : k2 = k := Int.ofNat.inj hA.n.symm
    obtain ⟨M, p, hl, hkM, hM2, hs⟩ := hD.step
    exact ⟨B2, q, M[k2], p, he, ⟨bare_k hl hkM hk, hs⟩, hb⟩
/-- what told tells -/
def ToldTo (H : List Ob) (k : Nat) (hk : k < H.length) (ky : Ky) (w : World) (e : Ending) (w' : World) : Prop := ∃ (O : Nat) (L : List Ky), e = .returned (.agg (tdA (!H[k].ext) H[k].proto (some ⟨O, 0, none⟩) L.length L.length (findT H[k].props ky).isSome (fndD H[k].props ky))) ∧ (OrdOf (keysL H[k].props) L ∧ w'.heap[O]? = some (.cells (kyCells L).toArray 26 (0, 0))) ∧ Below w.heap.size w w'
set_option maxHeartbeats 8000000 in
set_option maxRecDepth 1000000 in
theorem told_o (A : Option Addr) (H : List Ob) (cap k : Nat) (ky : Ky) (w : World) (hI : HIn w A H cap) (hp : ∀ o ∈ H, o.props.length ≤ 100000) (hmay : mayH H = true) (hk : k < H.length) (hpl : plainK H[k].kind = true) (hky : KyIn ky) (hmk : mayKy ky) (htab : TabHere w) :
    Calls Tryz.prog 9 #[.agg #[.slice A H.length cap], .int .i64 (k : Int), .agg #[.string ky.str, .int .i64 ky.sym]] w (ToldTo H k hk ky w) := by
  have go := fun (m : Nat) (k2 : Ky) hm hk2 (W : World) (hb : Below w.heap.size w W) => asks_o (m := m) (ky := k2) hm (hI.up hb) hp hmay hk hpl hk2 (tab_up htab hb)
  obtain ⟨ext, hext⟩ : ∃ x, x = H[k].ext := ⟨_, rfl⟩
  obtain ⟨pv, hpv⟩ : ∃ x, x = H[k].proto := ⟨_, rfl⟩
  obtain ⟨fo, hfo⟩ : ∃ x, x = (findT H[k].props ky).isSome := ⟨_, rfl⟩
  obtain ⟨D, hD⟩ : ∃ x, x = fndD H[k].props ky := ⟨_, rfl⟩
  obtain ⟨PL, hPL⟩ : ∃ x, x = H[k].props := ⟨_, rfl⟩
  obtain ⟨d, hd⟩ : ∃ x, x = H.length := ⟨_, rfl⟩
  have c3 : ∀ W : World, Below w.heap.size w W → Calls Tryz.prog 14 #[.agg #[.slice A d cap], .agg (akA (akq 3 (k : Int) kz (dz 0) v0))] W fun e w' => ∃ B : Nat, e = .returned (.tuple #[.agg #[.slice (some ⟨B, 0, none⟩) d d], .agg (oqA (yesO ext))]) ∧ Below W.heap.size W w' := fun W hb => by
    have h3 := go 3 kz (.inr (.inl rfl)) kz_in W hb
    rw [← hd] at h3
    refine h3.mono fun e w' ⟨B, q, o, p, he, ⟨hob, hs⟩, hb2⟩ => ⟨B, ?_, hb2⟩
    have e1 := congrArg Ob.ext hob
    have e1 : o.ext = H[k].ext := e1
    rw [he, (hs.m3 rfl).1, e1, hext]
  have c1 : ∀ W : World, Below w.heap.size w W → Calls Tryz.prog 14 #[.agg #[.slice A d cap], .agg (akA (akq 1 (k : Int) kz (dz 0) v0))] W fun e w' => ∃ (B : Nat) (q : Oq), e = .returned (.tuple #[.agg #[.slice (some ⟨B, 0, none⟩) d d], .agg (oqA q)]) ∧ q.v = pv ∧ Below W.heap.size W w' := fun W hb => by
    have h3 := go 1 kz (.inl rfl) kz_in W hb
    rw [← hd] at h3
    refine h3.mono fun e w' ⟨B, q, o, p, he, ⟨hob, hs⟩, hb2⟩ => ⟨B, q, he, ?_, hb2⟩
    have e1 := congrArg Ob.proto hob
    have e1 : o.proto = H[k].proto := e1
    rw [(hs.m1 rfl).1, hpv, ← e1]
    rfl
  have c11 : ∀ W : World, Below w.heap.size w W → Calls Tryz.prog 14 #[.agg #[.slice A d cap], .agg (akA (akq 11 (k : Int) kz (dz 0) v0))] W fun e w' => ∃ (B O : Nat) (L : List Ky), e = .returned (.tuple #[.agg #[.slice (some ⟨B, 0, none⟩) d d], .agg (oqA (keysO (some ⟨O, 0, none⟩) L.length))]) ∧ (OrdOf (keysL PL) L ∧ w'.heap[O]? = some (.cells (kyCells L).toArray 26 (0, 0))) ∧ Below W.heap.size W w' := fun W hb => by
    have h3 := go 11 kz (.inr (.inr (.inl rfl))) kz_in W hb
    rw [← hd] at h3
    refine h3.mono fun e w' ⟨B, q, o, p, he, ⟨hob, hs⟩, hb2⟩ => ?_
    have e1 := congrArg Ob.props hob
    have e1 : o.props = H[k].props := e1
    obtain ⟨⟨L, O, hq, hO, hc⟩, _⟩ := hs.m11 rfl
    have hl : o.props.length = L.length := by rw [← keysL_len, hO.len]
    refine ⟨B, O, L, ?_, ⟨?_, hc⟩, hb2⟩
    · rw [he, hq, hl]
    · rw [hPL, ← e1]; exact hO
  have c5 : ∀ W : World, Below w.heap.size w W → Calls Tryz.prog 14 #[.agg #[.slice A d cap], .agg (akA (akq 5 (k : Int) ky (dz 0) v0))] W fun e w' => ∃ B : Nat, e = .returned (.tuple #[.agg #[.slice (some ⟨B, 0, none⟩) d d], .agg (oqA (foundO fo D))]) ∧ Below W.heap.size W w' := fun W hb => by
    have h3 := go 5 ky (.inr (.inr (.inr ⟨rfl, hmk⟩))) hky W hb
    rw [← hd] at h3
    refine h3.mono fun e w' ⟨B, q, o, p, he, ⟨hob, hs⟩, hb2⟩ => ⟨B, ?_, hb2⟩
    have e1 := congrArg Ob.props hob
    have e1 : o.props = H[k].props := e1
    have h5 : q = foundO (findT o.props ky).isSome (fndD o.props ky) := (hs.m5 rfl).1
    rw [he, h5, e1, hfo, hD]
  unfold ToldTo
  have hi1 : ∀ v : Value, (Tryz.prog.info? 24).map (·.size) = some (#[v] : Array Value).size := fun v => hsz
  have hc1 : ∀ v : Value, v.oneCell' = true → (#[v] : Array Value).all (·.oneCell') = true := fun v h => cells_one (l := [v]) (by simpa using h)
  have HQ := Lib.hid (tk_start w A d cap ky)
  have HE : Hid (ext = H[k].ext ∧ pv = H[k].proto ∧ fo = (findT H[k].props ky).isSome ∧ D = fndD H[k].props ky ∧ PL = H[k].props) := Lib.hid ⟨hext, hpv, hfo, hD, hPL⟩
  rw [← hd]
  have HD := Lib.hid hd
  clear go hI hp hmay hpl hky hmk htab hext hpv hfo hD hPL hd
  go_enter Tryz.func9, Tryz.ntmps9
  go_upto_region 2 with (first
    | ((with_reducible refine h1_ld ?_ rfl rfl HQ.out.h ?_); (rfl))
    | (refine w_run ?_ (ea_t3 (n := (k : Int)) rfl rfl) ?_; (rfl))
    | (go_at_call 14; (with_reducible refine (c3 _ HQ.out.below).mono ?_); rintro e w3 ⟨B3, rfl, h9⟩; have HQ := Lib.hid (HQ.out.up h9); obtain ⟨g1, g2⟩ := vblk2 (w := w3) (Below.refl _ ((w3.alloc (.cells #[.slice none 0 0] 24)).alloc (.cells oz26 44))); have gB : Below w3.heap.size w3 ((w3.alloc (.cells #[.slice none 0 0] 24)).alloc (.cells oz26 44)) := vafter (vzero _ _); clear h9)
    | ((with_reducible refine t_store (cs := #[.slice (some ⟨B3, 0, none⟩) d d]) rfl rfl rfl rfl g1 (hi1 _) ?_ (hc1 _ rfl) gB (Nat.le_refl _) ?_); (rfl); intro W4 hb4 hW4 hO4 hz4; have g3 := (hO4 (w3.heap.size + 1) (by omega)).trans g2; clear hO4 hz4 hW4)
    | ((with_reducible refine oq_store (q := yesO ext) rfl rfl rfl rfl g3 rfl hb4 (Nat.le_succ _) ?_); intro W5 hb5 hW5 hO5 hz5; have HQ := Lib.hid (HQ.out.up hb5); have H1 := Lib.hid hW5; clear hW5 hO5 hz5 g3 hb4 g1 g2 gB hb5))
  generalize w3.heap.size + 1 = ga at *
  go_upto_region 3 with (first
    | ((with_reducible refine h1_ld ?_ rfl rfl HQ.out.h ?_); (rfl))
    | (refine w_run ?_ (ea_t1 (n := (k : Int)) rfl rfl) ?_; (rfl))
    | (go_at_call 14; (with_reducible refine (c1 _ HQ.out.below).mono ?_); rintro e w6 ⟨B6, q6, rfl, hq6, h9⟩; have HQ := Lib.hid (HQ.out.up h9); have H1 := Lib.hid (vblkn h9 H1.out); have HQ6 := Lib.hid hq6; obtain ⟨g1, g2⟩ := vblk2 (w := w6) (Below.refl _ ((w6.alloc (.cells #[.slice none 0 0] 24)).alloc (.cells oz26 44))); have gB : Below w6.heap.size w6 ((w6.alloc (.cells #[.slice none 0 0] 24)).alloc (.cells oz26 44)) := vafter (vzero _ _); clear h9 hq6)
    | ((with_reducible refine t_store (cs := #[.slice (some ⟨B6, 0, none⟩) d d]) rfl rfl rfl rfl g1 (hi1 _) ?_ (hc1 _ rfl) gB (Nat.le_refl _) ?_); (rfl); intro W7 hb4 hW4 hO4 hz4; have g3 := (hO4 (w6.heap.size + 1) (by omega)).trans g2; clear hO4 hz4 hW4)
    | ((with_reducible refine oq_store (q := q6) rfl rfl rfl rfl g3 rfl hb4 (Nat.le_succ _) ?_); intro W8 hb5 hW5 hO5 hz5; have HQ := Lib.hid (HQ.out.up hb5); have H1 := Lib.hid (vblkn hb5 H1.out); have H2x := Lib.hid hW5; clear hW5 hO5 hz5 g3 hb4 g1 g2 gB hb5))
  generalize w6.heap.size + 1 = gb at *
  go_upto_region 4 with (first
    | ((with_reducible refine h1_ld ?_ rfl rfl HQ.out.h ?_); (rfl))
    | (refine w_run ?_ (ea_t11 (n := (k : Int)) rfl rfl) ?_; (rfl))
    | (go_at_call 14; (with_reducible refine (c11 _ HQ.out.below).mono ?_); rintro e w9 ⟨B9, O, L, rfl, ⟨hO, hc⟩, h9⟩; have HQ := Lib.hid (HQ.out.up h9); have H1 := Lib.hid (vblkn h9 H1.out); have H2x := Lib.hid (vblkn h9 H2x.out); have HO := Lib.hid hO; have HC := Lib.hid hc; obtain ⟨g1, g2⟩ := vblk2 (w := w9) (Below.refl _ ((w9.alloc (.cells #[.slice none 0 0] 24)).alloc (.cells oz26 44))); have gB : Below w9.heap.size w9 ((w9.alloc (.cells #[.slice none 0 0] 24)).alloc (.cells oz26 44)) := vafter (vzero _ _); clear h9 hO hc)
    | ((with_reducible refine t_store (cs := #[.slice (some ⟨B9, 0, none⟩) d d]) rfl rfl rfl rfl g1 (hi1 _) ?_ (hc1 _ rfl) gB (Nat.le_refl _) ?_); (rfl); intro W10 hb4 hW4 hO4 hz4; have g3 := (hO4 (w9.heap.size + 1) (by omega)).trans g2; clear hO4 hz4 hW4)
    | ((with_reducible refine oq_store (q := keysO (some ⟨O, 0, none⟩) L.length) rfl rfl rfl rfl g3 rfl hb4 (Nat.le_succ _) ?_); intro W11 hb5 hW5 hO5 hz5; have HQ := Lib.hid (HQ.out.up hb5); have H1 := Lib.hid (vblkn hb5 H1.out); have H2x := Lib.hid (vblkn hb5 H2x.out); have HC := Lib.hid (vblkn hb5 HC.out); have H3 := Lib.hid hW5; clear hW5 hO5 hz5 g3 hb4 g1 g2 gB hb5))
  generalize w9.heap.size + 1 = gc at *
  go_upto_region 5 with (first
    | ((with_reducible refine h1_ld ?_ rfl rfl HQ.out.h ?_); (rfl))
    | ((with_reducible refine kk_load ?_ rfl rfl HQ.out.k ?_); (rfl))
    | (refine w_run ?_ (ea_t5 (n := (k : Int)) (k := ky) rfl rfl rfl) ?_; (rfl))
    | (go_at_call 14; (with_reducible refine (c5 _ HQ.out.below).mono ?_); rintro e w12 ⟨B12, rfl, h9⟩; have HQ := Lib.hid (HQ.out.up h9); have H1 := Lib.hid (vblkn h9 H1.out); have H2x := Lib.hid (vblkn h9 H2x.out); have H3 := Lib.hid (vblkn h9 H3.out); have HC := Lib.hid (vblkn h9 HC.out); obtain ⟨g1, g2⟩ := vblk2 (w := w12) (Below.refl _ ((w12.alloc (.cells #[.slice none 0 0] 24)).alloc (.cells oz26 44))); have gB : Below w12.heap.size w12 ((w12.alloc (.cells #[.slice none 0 0] 24)).alloc (.cells oz26 44)) := vafter (vzero _ _); clear h9)
    | ((with_reducible refine t_store (cs := #[.slice (some ⟨B12, 0, none⟩) d d]) rfl rfl rfl rfl g1 (hi1 _) ?_ (hc1 _ rfl) gB (Nat.le_refl _) ?_); (rfl); intro W13 hb4 hW4 hO4 hz4; have g3 := (hO4 (w12.heap.size + 1) (by omega)).trans g2; clear hO4 hz4 hW4)
    | ((with_reducible refine oq_store (q := foundO fo D) rfl rfl rfl rfl g3 rfl hb4 (Nat.le_succ _) ?_); intro W14 hb5 hW5 hO5 hz5; have HQ := Lib.hid (HQ.out.up hb5); have H1 := Lib.hid (vblkn hb5 H1.out); have H2x := Lib.hid (vblkn hb5 H2x.out); have H3 := Lib.hid (vblkn hb5 H3.out); have HC := Lib.hid (vblkn hb5 HC.out); have H4 := Lib.hid hW5; clear hW5 hO5 hz5 g3 hb4 g1 g2 gB hb5))
  generalize w12.heap.size + 1 = gd at *
  have q1 : W14.cell? ⟨ga, 5, none⟩ = some (.bool ext) := (vcells H1.out 5).trans rfl
  have q2 : VAt W14 ⟨gb, 1, none⟩ pv := by
    rw [← HQ6.out]
    exact ⟨lt_blk H2x.out, (vcells H2x.out 1).trans rfl, (vcells H2x.out 2).trans rfl, (vcells H2x.out 3).trans rfl, (vcells H2x.out 4).trans rfl⟩
  have q3 : W14.cell? ⟨gc, 23, none⟩ = some (.slice (some ⟨O, 0, none⟩) L.length L.length) := (vcells H3.out 23).trans rfl
  have q4 : W14.cell? ⟨gd, 6, none⟩ = some (.bool fo) := (vcells H4.out 6).trans rfl
  have hQd := HQ.out.d
  have hQb := HQ.out.below
  have hOg : O ≠ w.heap.size + 1 + 1 := fun e => by
    have h1 := HC.out
    rw [e, hQd] at h1
    injection h1 with h1
    injection h1 with _ h2
    exact absurd h2 (by decide)
  go_wp2_with (first
    | ((with_reducible refine va_load ?_ rfl rfl q2 ?_); (rfl))
    | (refine w_run ?_ (ex_load_at (oq_desc H4.out) rfl rfl) ?_; (rfl))
    | (refine w_run ?_ (ea_td (sh := !ext) (p := pv) (A := some ⟨O, 0, none⟩) (n := L.length) (c := L.length) (f := fo) (d := D) rfl rfl rfl rfl rfl rfl) ?_; (rfl))
    | ((with_reducible refine t_store (cs := tdA (!ext) pv (some ⟨O, 0, none⟩) L.length L.length fo D) rfl rfl rfl rfl hQd ?_ ?_ (td_one _ _ _ _ _ _ _) hQb (Nat.le_add_right _ 2) ?_); (exact td_sz); (rfl); intro W15 hb15 hW15 hO15 hz15))
  refine td_end Tryz.results9 rfl hW15 td_sz ?_
  obtain ⟨rfl, rfl, rfl, rfl, rfl⟩ := HE.out
  exact ⟨O, L, rfl, ⟨HO.out, (hO15 O hOg).trans HC.out⟩, hb15⟩
end Go.Proofs.YtlfbflclefndjaaGreatDoor.S
/-
  OrdinaryKeeps: what an ask cannot change.
-/
namespace Go.Proofs.YtlfbflclefndjaaGreatDoor.S
open Go.RowKit Go.Lib Fl
open Classical

theorem found_iff {L : List Pq} {k : Ky} : (findT L k).isSome = true ↔ k ∈ keysL L := by
  rcases cut_ways L k with h | ⟨A, x, B, rfl, h1, h2⟩
  · rw [find_none h]
    constructor
    · intro h; cases h
    · intro hk
      obtain ⟨y, hy, e⟩ := List.mem_map.1 hk
      exact absurd e (h y hy)
  · rw [find_mid h2 h1]
    exact ⟨fun _ => List.mem_map.2 ⟨x, by simp, h1⟩, fun _ => rfl⟩
/-- what stays of an object's property -/
def OldIs (L M : List Pq) (k : Ky) : Prop := (findT L k).isSome = true → (fndD L k).z = false → (findT M k).isSome = true ∧ (fndD M k = fndD L k ∨ Stays (fndD M k) (fndD L k))
theorem old_same {L M : List Pq} {k : Ky} (h : findT M k = findT L k) : OldIs L M k := fun h1 _ => by
  refine ⟨by rw [h]; exact h1, .inl ?_⟩
  unfold fndD
  rw [h]
/-- what an ask of an object cannot change -/
structure Kept (o p : Ob) (k : Ky) : Prop where
  shut : o.ext = false → p.ext = false ∧ p.proto = o.proto ∧ ∀ x ∈ keysL p.props, x ∈ keysL o.props
  old : OldIs o.props p.props k
theorem kept_same (o : Ob) (k : Ky) : Kept o o k := ⟨fun h => ⟨h, rfl, fun _ h => h⟩, old_same rfl⟩
theorem kept_props {o p : Ob} {k : Ky} (he : o.ext = false → p.ext = false) (hp : o.ext = false → p.proto = o.proto) (hh : p.props = o.props) : Kept o p k := ⟨fun h => ⟨he h, hp h, fun x hx => hh ▸ hx⟩, old_same (by rw [hh])⟩
theorem put_keys {L : List Pq} {p : Pq} (hT : TabOk L) (hp : p.Ok) (hn : cutN L p.k ≠ 1024) (hf : (findT L p.k).isSome = true) : ∀ x ∈ keysL (putT L p), x ∈ keysL L := fun x hx => by
  have h := put_to hT hp hn
  have hl := h.len
  rw [if_pos hf] at hl
  obtain ⟨y, hy, e⟩ := List.mem_map.1 hx
  obtain ⟨i, hi, rfl⟩ := List.getElem_of_mem hy
  refine List.mem_map.2 ⟨L[i]'(by omega), List.getElem_mem _, ?_⟩
  rw [← h.keys i (by omega) hi]
  exact e
theorem fnd_put {L : List Pq} {p : Pq} (hT : TabOk L) (hp : p.Ok) (hn : cutN L p.k ≠ 1024) : (findT (putT L p) p.k).isSome = true ∧ fndD (putT L p) p.k = p.d := by
  have h := (put_to hT hp hn).found
  unfold fndD
  rw [h]
  exact ⟨rfl, rfl⟩
/-- what comes out, of whatever ask -/
structure Outs (p : Ob) (k : Ky) (a : Ak) (q : Oq) : Prop where
  kind : q.kind = 1 ∨ q.kind = 3
  does : a.k = k → q.b = true → (a.m = 6 → (findT p.props k).isSome = true) ∧ (a.m = 10 → (findT p.props k).isSome = false)
theorem keeps_step {H : List Ob} {o p : Ob} {a : Ak} {q : Oq} {W : World} (hs : StepO H o a q p W) (h8 : eightM a.m = true) (hT : TabOk o.props) (hi : ∀ x ∈ o.props, x.In) (hk : a.m = 6 → mayKy a.k) (hd : a.d.In) (k : Ky) : Kept o p k ∧ Outs p k a q := by
  have oth : ∀ {m : Int}, a.m = m → m ≠ 6 → m ≠ 10 → (q.kind = 1 ∨ q.kind = 3) → Outs p k a q := fun {m} e h6 h10 hq => ⟨hq, fun _ _ => ⟨fun e2 => absurd (e.symm.trans e2) h6, fun e2 => absurd (e.symm.trans e2) h10⟩⟩
  rcases eight_ways h8 with e | e | e | e | e | e | e | e
  · obtain ⟨rfl, rfl⟩ := hs.m1 e
    exact ⟨kept_same _ k, oth e (by decide) (by decide) (.inl rfl)⟩
  · obtain ⟨rfl, hp⟩ := hs.m2 e
    refine ⟨?_, oth e (by decide) (by decide) (.inl rfl)⟩
    by_cases hc : (!eqV a.v o.proto && (o.ext && !decide (Bhd H a.n a.v))) = true
    · rw [if_pos hc] at hp
      subst hp
      have hx : o.ext = true := by
        rw [Bool.and_eq_true, Bool.and_eq_true] at hc
        exact hc.2.1
      exact kept_props (fun h => by rw [hx] at h; cases h) (fun h => by rw [hx] at h; cases h) rfl
    · rw [if_neg hc] at hp
      subst hp
      exact kept_same _ k
  · obtain ⟨rfl, rfl⟩ := hs.m3 e
    exact ⟨kept_same _ k, oth e (by decide) (by decide) (.inl rfl)⟩
  · obtain ⟨rfl, rfl⟩ := hs.m4 e
    exact ⟨kept_props (fun _ => rfl) (fun _ => rfl) rfl, oth e (by decide) (by decide) (.inl rfl)⟩
  · obtain ⟨rfl, rfl⟩ := hs.m5 e
    exact ⟨kept_same _ k, oth e (by decide) (by decide) (.inl rfl)⟩
  · have hD := hs.m6 e
    have n10 : ¬ a.m = 10 := by omega
    cases hc : (compatQ o.ext a.d (findT o.props a.k).isSome (fndD o.props a.k)).1 with
    | false =>
      obtain ⟨rfl, rfl⟩ := hD.no hc
      exact ⟨kept_same _ k, .inl rfl, fun _ h => by cases h⟩
    | true =>
      by_cases hn : cutN o.props a.k = 1024
      · obtain ⟨rfl, rfl⟩ := hD.many hc hn
        exact ⟨kept_same _ k, .inr rfl, fun _ h => by cases h⟩
      · obtain ⟨rfl, A, c, _, rfl⟩ := hD.yes hc hn
        have hin := fnd_in hi a.k
        obtain ⟨hok, _⟩ := def_ok hd hin (hk e) hc
        obtain ⟨hcame, _⟩ := came hd hin hc
        have hput := put_to hT hok hn
        obtain ⟨f1, f2⟩ := fnd_put hT hok hn
        refine ⟨⟨fun hx => ⟨hx, rfl, ?_⟩, ?_⟩, .inl rfl, fun hak _ => ⟨fun _ => ?_, fun h => absurd h n10⟩⟩
        · refine put_keys hT hok hn ?_
          cases hf : (findT o.props a.k).isSome with
          | true => rfl
          | false => exact absurd (hcame.new hf) (by rw [hx]; decide)
        · by_cases hak : k = a.k
          · subst hak
            exact fun g1 g2 => ⟨f1, .inr (by
              have := hcame.old g1 g2
              show Stays (fndD (putT o.props _) a.k) (fndD o.props a.k)
              rw [show fndD (putT o.props ⟨a.k, applyQ o.ext a.d (findT o.props a.k).isSome (fndD o.props a.k)⟩) a.k = applyQ o.ext a.d (findT o.props a.k).isSome (fndD o.props a.k) from f2]
              exact this)⟩
          · exact old_same (hput.other k hak)
        · subst hak
          exact f1
  · have hD := hs.m10 e
    have n6 : ¬ a.m = 6 := by omega
    have yes : ((findT o.props a.k).isSome = false ∨ (fndD o.props a.k).z = true) → Kept o p k ∧ Outs p k a q := fun hc => by
      obtain ⟨rfl, A, c, _, rfl⟩ := hD.yes hc
      have hdr := drop_to (k := a.k) hT
      refine ⟨⟨fun hx => ⟨hx, rfl, ?_⟩, ?_⟩, .inl rfl, fun hak _ => ⟨fun h => absurd h n6, fun _ => ?_⟩⟩
      · intro x hx2
        have hx2 : x ∈ keysL (dropT o.props a.k) := hx2
        rw [← hdr.rest] at hx2
        obtain ⟨y, hy, e2⟩ := List.mem_map.1 hx2
        exact List.mem_map.2 ⟨y, (List.mem_filter.1 hy).1, e2⟩
      · by_cases hak : k = a.k
        · subst hak
          intro g1 g2
          rcases hc with hc | hc
          · rw [g1] at hc; cases hc
          · rw [g2] at hc; cases hc
        · exact old_same (hdr.other k hak)
      · subst hak
        show (findT (dropT o.props a.k) a.k).isSome = false
        rw [hdr.gone]
        rfl
    cases hf : (findT o.props a.k).isSome with
    | false => exact yes (.inl hf)
    | true =>
      cases hz : (fndD o.props a.k).z with
      | true => exact yes (.inr hz)
      | false =>
        obtain ⟨rfl, rfl⟩ := hD.no hf hz
        exact ⟨kept_same _ k, .inl rfl, fun _ h => by cases h⟩
  · obtain ⟨⟨L, O, rfl, _⟩, rfl⟩ := hs.m11 e
    exact ⟨kept_same _ k, oth e (by decide) (by decide) (.inl rfl)⟩
end Go.Proofs.YtlfbflclefndjaaGreatDoor.S
/-
  OrdinaryKeeps: what an ask leaves of the object that is looked at.
-/
namespace Go.Proofs.YtlfbflclefndjaaGreatDoor.S
open Go.RowKit Go.Lib Fl
open Classical

theorem stays_refl {d : Dq} (g : Good d) (h : d.h = 51 ∨ d.h = 60) (hz : d.z = false) : Stays d d := by
  refine ⟨hz, rfl, rfl, fun h12 => ?_, fun _ => ?_⟩
  · rcases h with e | e
    · rw [e] at h12
      exact absurd h12 (by decide)
    · exact ⟨same_refl (g.b (by rw [e]; decide)).1, same_refl (g.c (by rw [e]; decide)).1⟩
  · cases hp : d.p with
    | true => exact .inl rfl
    | false => exact .inr ⟨rfl, same_refl g.a⟩
/-- two descriptors of which the one stays as the other: the law's own comparisons -/
structure StaysL (x now : Dq) : Prop where
  z : x.z = false
  q : x.q = now.q
  data : hasB x.h 3 = hasB now.h 3
  dat : hasB now.h 3 = true → now.p = true ∨ (x.p = false ∧ sameQ x.a now.a = true)
  acc : hasB now.h 3 = false → sameD x.h now.h (sameQ x.a now.a) (sameQ x.b now.b) (sameQ x.c now.c) x.p now.p x.q now.q x.z now.z = true
theorem stays_law {x now : Dq} (h : Stays x now) (hn : now.h = 51 ∨ now.h = 60) (hz : now.z = false) : StaysL x now := by
  refine ⟨h.z, h.q, by rw [h.h], fun h3 => ?_, fun h3 => ?_⟩
  · refine h.dat ?_
    rcases hn with e | e
    · rw [e]; decide
    · rw [e] at h3; exact absurd h3 (by decide)
  · rcases hn with e | e
    · rw [e] at h3; exact absurd h3 (by decide)
    · obtain ⟨hb, hc⟩ := h.acc (by rw [e]; decide)
      rw [h.h]
      refine sameD_true (fun h1 => ?_) (fun _ => hb) (fun _ => hc) (fun h2 => ?_) (fun _ => h.q) (fun _ => by rw [h.z, hz])
      · rw [e] at h1; exact absurd h1 (by decide)
      · rw [e] at h2; exact absurd h2 (by decide)
/-- an object's property, before and after -/
def OldL (L M : List Pq) (k : Ky) : Prop := (findT L k).isSome = true → (fndD L k).z = false → (findT M k).isSome = true ∧ StaysL (fndD M k) (fndD L k)
theorem fnd_whole {L : List Pq} {k : Ky} (hT : TabOk L) (hi : ∀ x ∈ L, x.In) (hf : (findT L k).isSome = true) : Good (fndD L k) ∧ ((fndD L k).h = 51 ∨ (fndD L k).h = 60) := by
  unfold fndD
  cases e : findT L k with
  | none => rw [e] at hf; cases hf
  | some p =>
    have hm : p ∈ L := by unfold findT at e; exact List.mem_of_getElem? e
    exact (whole_iff (hi p hm).2).1 (hT.all p hm).2
theorem old_law {L M : List Pq} {k : Ky} (hT : TabOk L) (hi : ∀ x ∈ L, x.In) (h : OldIs L M k) : OldL L M k := fun h1 h2 => by
  obtain ⟨g1, g2⟩ := h h1 h2
  obtain ⟨gd, gh⟩ := fnd_whole hT hi h1
  refine ⟨g1, stays_law ?_ gh h2⟩
  rcases g2 with e | e
  · rw [e]; exact stays_refl gd gh h2
  · exact e
/-- what an ask leaves, told of the two objects -/
structure KeptL (o p : Ob) (k : Ky) : Prop where
  shut : o.ext = false → p.ext = false ∧ p.proto = o.proto ∧ ∀ x ∈ keysL p.props, x ∈ keysL o.props
  old : OldL o.props p.props k
  kind : p.kind = o.kind
theorem step_kind {H : List Ob} {o p : Ob} {a : Ak} {q : Oq} {W : World} (hs : StepO H o a q p W) (h8 : eightM a.m = true) : p.kind = o.kind := by
  rcases eight_ways h8 with e | e | e | e | e | e | e | e
  · rw [(hs.m1 e).2]
  · rw [(hs.m2 e).2]
    split
    · rfl
    · rfl
  · rw [(hs.m3 e).2]
  · rw [(hs.m4 e).2]; rfl
  · rw [(hs.m5 e).2]
  · have hD := hs.m6 e
    cases hc : (compatQ o.ext a.d (findT o.props a.k).isSome (fndD o.props a.k)).1 with
    | false => rw [(hD.no hc).2]
    | true =>
      by_cases hn : cutN o.props a.k = 1024
      · rw [(hD.many hc hn).2]
      · obtain ⟨_, A, c, _, rfl⟩ := hD.yes hc hn
        rfl
  · have hD := hs.m10 e
    by_cases hc : (findT o.props a.k).isSome = false ∨ (fndD o.props a.k).z = true
    · obtain ⟨_, A, c, _, rfl⟩ := hD.yes hc
      rfl
    · rw [not_or] at hc
      obtain ⟨c1, c2⟩ := hc
      rw [(hD.no (eq_true_of_ne_false c1) (eq_false_of_ne_true c2)).2]
  · rw [(hs.m11 e).2]
theorem keeps_done {H M2 : List Ob} {k2 k : Nat} {a : Ak} {q : Oq} {W : World} {ky : Ky} (hD : DoneH H k2 a q M2 W) (hA : MayAsk H k2 a) (hm : mayH H = true) (ha : a.In) (hin : ∀ o ∈ H, o.In) (hk : k < H.length) :
    ∃ h2 : k < M2.length, KeptL H[k] M2[k] ky ∧ (q.kind = 1 ∨ q.kind = 3) ∧ (a.n = (k : Int) → a.k = ky → q.b = true → (a.m = 6 → (findT M2[k].props ky).isSome = true) ∧ (a.m = 10 → (findT M2[k].props ky).isSome = false)) := by
  obtain ⟨M, p, hl, hkM, hM2, hs⟩ := hD.step
  have hlen : M.length = H.length := by have := congrArg List.length hl; simpa using this
  have hk1 : k < M.length := by omega
  have hk3 : k < M2.length := by rw [hM2, List.length_set]; exact hk1
  have hb := bare_k hl hkM hA.lt
  have e1 := congrArg Ob.ext hb
  have e1 : M[k2].ext = H[k2].ext := e1
  have e2 := congrArg Ob.proto hb
  have e2 : M[k2].proto = H[k2].proto := e2
  have e3 := congrArg Ob.props hb
  have e3 : M[k2].props = H[k2].props := e3
  have e4 := congrArg Ob.kind hb
  have e4 : M[k2].kind = H[k2].kind := e4
  have hT2 : TabOk H[k2].props := (may_parts hm hA.lt).2.1
  have hi2 : ∀ x ∈ H[k2].props, x.In := (hin _ (List.getElem_mem hA.lt)).props
  have hT : TabOk H[k].props := (may_parts hm hk).2.1
  have hi : ∀ x ∈ H[k].props, x.In := (hin _ (List.getElem_mem hk)).props
  obtain ⟨_, hout⟩ := keeps_step hs hA.e8 (by rw [e3]; exact hT2) (by rw [e3]; exact hi2) (fun e => hA.key (.inr (.inl e))) ha.d a.k
  by_cases hkk : k2 = k
  · subst hkk
    obtain ⟨hkept, hout2⟩ := keeps_step hs hA.e8 (by rw [e3]; exact hT2) (by rw [e3]; exact hi2) (fun e => hA.key (.inr (.inl e))) ha.d ky
    have hx : M2[k2] = p := by subst hM2; exact List.getElem_set_self _
    refine ⟨hk3, ⟨fun h => ?_, ?_, ?_⟩, hout2.kind, fun _ hak hqb => ?_⟩
    · rw [hx]
      have := hkept.shut (by rw [e1]; exact h)
      rw [e2, e3] at this
      exact this
    · rw [hx]
      have := hkept.old
      rw [e3] at this
      exact old_law hT hi this
    · rw [hx, step_kind hs hA.e8, e4]
    · rw [hx]
      exact hout2.does hak hqb
  · have hx : M2[k].bare = H[k].bare := by
      subst hM2
      rw [List.getElem_set_ne hkk]
      exact bare_k hl hk1 hk
    have x1 := congrArg Ob.ext hx
    have x1 : M2[k].ext = H[k].ext := x1
    have x2 := congrArg Ob.proto hx
    have x2 : M2[k].proto = H[k].proto := x2
    have x3 := congrArg Ob.props hx
    have x3 : M2[k].props = H[k].props := x3
    have x4 := congrArg Ob.kind hx
    have x4 : M2[k].kind = H[k].kind := x4
    refine ⟨hk3, ⟨fun h => ?_, ?_, x4⟩, hout.kind, fun hn _ _ => ?_⟩
    · rw [x1, x2, x3]
      exact ⟨h, rfl, fun _ h => h⟩
    · rw [x3]
      exact old_law hT hi (old_same rfl)
    · exact absurd (Int.ofNat.inj (hA.n.symm.trans hn)) hkk
end Go.Proofs.YtlfbflclefndjaaGreatDoor.S
/-
  OrdinaryKeeps: where nothing is to be shown.
-/
namespace Go.Proofs.YtlfbflclefndjaaGreatDoor.S
open Go.RowKit Go.Lib Fl
open Classical

/-- the law's own blocks -/
structure Kp (w : World) (A : Option Addr) (n cap : Nat) (ky : Ky) (W : World) : Prop where
  below : Below w.heap.size w W
  h : W.heap[w.heap.size]? = some (.cells #[.slice A n cap] 24 (0, 0))
  k : W.heap[w.heap.size + 1]? = some (.cells #[.string ky.str, .int .i64 ky.sym] 26 (0, 0))
theorem Kp.up {w : World} {A : Option Addr} {n cap : Nat} {ky : Ky} {W W' : World} (h : Kp w A n cap ky W) (hb : Below W.heap.size W W') : Kp w A n cap ky W' := ⟨vb h.below hb, vblkn hb h.h, vblkn hb h.k⟩
theorem kp_start (w : World) (A : Option Addr) (n cap : Nat) (ky : Ky) : Kp w A n cap ky ((w.alloc (.cells #[.slice A n cap] 24)).alloc (.cells #[.string ky.str, .int .i64 ky.sym] 26)) := by
  obtain ⟨b1, b2⟩ := vblk2 (w := w) (Below.refl _ ((w.alloc (.cells #[.slice A n cap] 24)).alloc (.cells #[.string ky.str, .int .i64 ky.sym] 26)))
  exact ⟨vafter (vzero _ _), b1, b2⟩
def KeepsTo (w : World) (e : Ending) (w' : World) : Prop := e = .returned (.bool true) ∧ Below w.heap.size w w'
set_option maxHeartbeats 8000000 in
set_option maxRecDepth 1000000 in
theorem keeps_large (A : Option Addr) (H : List Ob) (cap : Nat) (n : Int) (ky : Ky) (v3 : Value) (w : World) (hH : HIn0 w A H cap) (htab : TabHere w) (hl : ((60 < H.length ∧ H.length ≤ 4096) ∨ 5000 < H.length) ∨ lg12 H = true) : Calls Tryz.prog 3 #[.agg #[.slice A H.length cap], .int .i64 n, .agg #[.string ky.str, .int .i64 ky.sym], v3] w (KeepsTo w) := by
  have HQ := Lib.hid (kp_start w A H.length cap ky)
  have cA := fun W (hb : Below w.heap.size w W) => alive12 W (tab_up htab hb)
  unfold KeepsTo
  by_cases hm : (60 < H.length ∧ H.length ≤ 4096) ∨ 5000 < H.length
  · have cL := fun W (_ : Below w.heap.size w W) => lg12_many A H.length cap W hm
    clear hH htab hm hl
    go_enter Tryz.func3, Tryz.ntmps3
    go_wp2_with (first
      | (go_at_call 4; (with_reducible refine (cA _ HQ.out.below).mono ?_); rintro e w1 ⟨rfl, h9⟩; have HQ := Lib.hid (HQ.out.up h9); clear h9)
      | ((with_reducible refine h1_ld ?_ rfl rfl HQ.out.h ?_); (rfl))
      | (go_at_call 5; (with_reducible refine (cL _ HQ.out.below).mono ?_); rintro e w2 ⟨rfl, h9⟩; have HQ := Lib.hid (HQ.out.up h9); clear h9))
    go_ret
    exact ⟨rfl, HQ.out.below⟩
  · have cL := fun W (hb : Below w.heap.size w W) => lg12_few A H cap W (hrow_up hH.row hb) hm
    have hl := hl.resolve_left hm
    rw [hl] at cL
    clear hH htab hm hl
    go_enter Tryz.func3, Tryz.ntmps3
    go_wp2_with (first
      | (go_at_call 4; (with_reducible refine (cA _ HQ.out.below).mono ?_); rintro e w1 ⟨rfl, h9⟩; have HQ := Lib.hid (HQ.out.up h9); clear h9)
      | ((with_reducible refine h1_ld ?_ rfl rfl HQ.out.h ?_); (rfl))
      | (go_at_call 5; (with_reducible refine (cL _ HQ.out.below).mono ?_); rintro e w2 ⟨rfl, h9⟩; have HQ := Lib.hid (HQ.out.up h9); clear h9))
    go_ret
    exact ⟨rfl, HQ.out.below⟩
set_option maxHeartbeats 8000000 in
set_option maxRecDepth 1000000 in
theorem keeps_check (A : Option Addr) (H : List Ob) (cap : Nat) (n : Int) (ky : Ky) (v3 : Value) (w : World) (hH : HIn0 w A H cap) (htab : TabHere w) (hm : ¬ ((60 < H.length ∧ H.length ≤ 4096) ∨ 5000 < H.length)) (hl : lg12 H = false) (hE : chkH H ≠ 0) : Calls Tryz.prog 3 #[.agg #[.slice A H.length cap], .int .i64 n, .agg #[.string ky.str, .int .i64 ky.sym], v3] w (KeepsTo w) := by
  have HQ := Lib.hid (kp_start w A H.length cap ky)
  have cA := fun W (hb : Below w.heap.size w W) => alive12 W (tab_up htab hb)
  unfold KeepsTo
  have cL := fun W (hb : Below w.heap.size w W) => lg12_few A H cap W (hrow_up hH.row hb) hm
  rw [hl] at cL
  have hI := hH.few12 (by omega) hl
  have cC := fun W (hb : Below w.heap.size w W) => Check_h A H cap W (hI.up hb) (tab_up htab hb)
  generalize chkH H = E at *
  have hEb : (E != 0) = true := by unfold bne; rw [beq_eq_false_iff_ne.2 hE]; rfl
  have hEz : (E == 0) = false := beq_eq_false_iff_ne.2 hE
  clear hH htab hm hl hI hE
  go_enter Tryz.func3, Tryz.ntmps3
  go_wp2_with (first
    | (go_at_call 4; (with_reducible refine (cA _ HQ.out.below).mono ?_); rintro e w1 ⟨rfl, h9⟩; have HQ := Lib.hid (HQ.out.up h9); clear h9)
    | ((with_reducible refine h1_ld ?_ rfl rfl HQ.out.h ?_); (rfl))
    | (go_at_call 5; (with_reducible refine (cL _ HQ.out.below).mono ?_); rintro e w2 ⟨rfl, h9⟩; have HQ := Lib.hid (HQ.out.up h9); clear h9)
    | (go_at_call 6; (with_reducible refine (cC _ HQ.out.below).mono ?_); rintro e w3 ⟨rfl, h9⟩; have HQ := Lib.hid (HQ.out.up h9); clear h9))
  go_ret
  exact ⟨rfl, HQ.out.below⟩
set_option maxHeartbeats 8000000 in
set_option maxRecDepth 1000000 in
theorem keeps_not (A : Option Addr) (H : List Ob) (cap : Nat) (n : Int) (ky : Ky) (v3 : Value) (w : World) (hH : HIn0 w A H cap) (htab : TabHere w) (hky : KyIn ky) (hm : ¬ ((60 < H.length ∧ H.length ≤ 4096) ∨ 5000 < H.length)) (hl : lg12 H = false) (hz : chkH H = 0) (hE : ofE H n ≠ 0 ∨ doE H (akq 5 n ky (dz 0) v0) ≠ 0) : Calls Tryz.prog 3 #[.agg #[.slice A H.length cap], .int .i64 n, .agg #[.string ky.str, .int .i64 ky.sym], v3] w (KeepsTo w) := by
  have HQ := Lib.hid (kp_start w A H.length cap ky)
  have cA := fun W (hb : Below w.heap.size w W) => alive12 W (tab_up htab hb)
  unfold KeepsTo
  have cL := fun W (hb : Below w.heap.size w W) => lg12_few A H cap W (hrow_up hH.row hb) hm
  rw [hl] at cL
  have hI := hH.few12 (by omega) hl
  have hsm : ∀ o ∈ H, o.props.length ≤ 100000 := fun o ho => by have := small_12 hl o ho; omega
  have cC := fun W (hb : Below w.heap.size w W) => Check_h A H cap W (hI.up hb) (tab_up htab hb)
  rw [hz] at cC
  have cOf : ∀ W, Below w.heap.size w W → Calls Tryz.prog 7 #[.agg #[.slice A H.length cap], .int .i64 n] W fun e w' => ∃ o : Ob, e = .returned (.tuple #[.agg (obA o), .int .i64 (ofE H n)]) ∧ Below W.heap.size W w' := fun W hb =>
    (Of_h A H cap n W (hI.up hb) hsm (tab_up htab hb)).mono fun e w' ⟨hb2, h⟩ => by
      rcases h with ⟨_, he⟩ | ⟨h0, h1, g, he, _⟩
      · exact ⟨_, he, hb2⟩
      · exact ⟨_, by rw [he, h0], hb2⟩
  have cD : ∀ W, Below w.heap.size w W → Calls Tryz.prog 8 #[.agg #[.slice A H.length cap], .agg (akA (akq 5 n ky (dz 0) v0))] W fun e w' => ∃ v q, v.oneCell' = true ∧ e = .returned (.tuple #[.agg #[v], .agg (oqA q), .int .i64 (doE H (akq 5 n ky (dz 0) v0))]) ∧ Below W.heap.size W w' := fun W hb =>
    (Do_any A H cap _ W (hI.up hb) hsm (akq_in hky dz0_in (ok_in v0_ok)) (tab_up htab hb)).mono fun e w' ⟨hb2, h⟩ => by
      rcases h with ⟨_, he⟩ | ⟨h0, _, k2, B, q, M2, _, he, _, _⟩
      · exact ⟨_, _, rfl, he, hb2⟩
      · exact ⟨_, q, rfl, by rw [he, h0], hb2⟩
  have hoi : ∀ o : Ob, (Tryz.prog.info? 37).map (·.size) = some (obA o).size := fun _ => osz
  have hi1 : ∀ v : Value, (Tryz.prog.info? 24).map (·.size) = some (#[v] : Array Value).size := fun v => hsz
  have hc1 : ∀ v : Value, v.oneCell' = true → (#[v] : Array Value).all (·.oneCell') = true := fun v h => cells_one (l := [v]) (by simpa using h)
  generalize ofE H n = E at *
  generalize doE H (akq 5 n ky (dz 0) v0) = F at *
  clear hH htab hm hl hI hz hsm hky
  by_cases hE0 : E = 0
  · subst hE0
    have hF := hE.resolve_left (fun h => h rfl)
    have hFb : (F != 0) = true := by unfold bne; rw [beq_eq_false_iff_ne.2 hF]; rfl
    have hFz : (F == 0) = false := beq_eq_false_iff_ne.2 hF
    clear hE hF
    go_enter Tryz.func3, Tryz.ntmps3
    go_wp2_with (first
      | (go_at_call 4; (with_reducible refine (cA _ HQ.out.below).mono ?_); rintro e w1 ⟨rfl, h9⟩; have HQ := Lib.hid (HQ.out.up h9); clear h9)
      | ((with_reducible refine h1_ld ?_ rfl rfl HQ.out.h ?_); (rfl))
      | ((with_reducible refine kk_load ?_ rfl rfl HQ.out.k ?_); (rfl))
      | (go_at_call 5; (with_reducible refine (cL _ HQ.out.below).mono ?_); rintro e w2 ⟨rfl, h9⟩; have HQ := Lib.hid (HQ.out.up h9); clear h9)
      | (go_at_call 6; (with_reducible refine (cC _ HQ.out.below).mono ?_); rintro e w3 ⟨rfl, h9⟩; have HQ := Lib.hid (HQ.out.up h9); clear h9)
      | (go_at_call 7; (with_reducible refine (cOf _ HQ.out.below).mono ?_); rintro e w4 ⟨o, rfl, h9⟩; have HQ := Lib.hid (HQ.out.up h9); clear h9)
      | (refine t_store (cs := obA o) rfl rfl rfl rfl (heap_alloc_new w4 _) (hoi o) rfl (obA_one o) (vzero w4 _) (Nat.le_refl _) ?_; intro W5 hb5 hW5 hO5 hz5; have HQ := Lib.hid (HQ.out.up hb5); clear hb5 hW5 hO5 hz5)
      | (refine w_run ?_ (ea_t5 (n := n) (k := ky) rfl rfl rfl) ?_; (rfl))
      | (go_at_call 8; (with_reducible refine (cD _ HQ.out.below).mono ?_); rintro e w6 ⟨v, q, hv1, rfl, h9⟩; have HQ := Lib.hid (HQ.out.up h9); obtain ⟨g1, g2⟩ := vblk2 (w := w6) (Below.refl _ ((w6.alloc (.cells #[.slice none 0 0] 24)).alloc (.cells oz26 44))); have gB : Below w6.heap.size w6 ((w6.alloc (.cells #[.slice none 0 0] 24)).alloc (.cells oz26 44)) := vafter (vzero _ _); clear h9)
      | ((with_reducible refine t_store (cs := #[v]) rfl rfl rfl rfl g1 (hi1 _) ?_ (hc1 _ hv1) gB (Nat.le_refl _) ?_); (rfl); intro W7 hb7 hW7 hO7 hz7; have g3 := (hO7 (w6.heap.size + 1) (by omega)).trans g2; clear hO7 hz7)
      | ((with_reducible refine oq_store (q := q) rfl rfl rfl rfl g3 rfl hb7 (Nat.le_succ _) ?_); intro W8 hb8 hW8 hO8 hz8; have HQ := Lib.hid (HQ.out.up hb8); clear hW8 hO8 hz8 g3 hb7 g1 g2 gB hb8 hW7))
    go_ret
    exact ⟨rfl, HQ.out.below⟩
  · have hEb : (E != 0) = true := by unfold bne; rw [beq_eq_false_iff_ne.2 hE0]; rfl
    have hEz : (E == 0) = false := beq_eq_false_iff_ne.2 hE0
    clear hE hE0
    go_enter Tryz.func3, Tryz.ntmps3
    go_wp2_with (first
      | (go_at_call 4; (with_reducible refine (cA _ HQ.out.below).mono ?_); rintro e w1 ⟨rfl, h9⟩; have HQ := Lib.hid (HQ.out.up h9); clear h9)
      | ((with_reducible refine h1_ld ?_ rfl rfl HQ.out.h ?_); (rfl))
      | ((with_reducible refine kk_load ?_ rfl rfl HQ.out.k ?_); (rfl))
      | (go_at_call 5; (with_reducible refine (cL _ HQ.out.below).mono ?_); rintro e w2 ⟨rfl, h9⟩; have HQ := Lib.hid (HQ.out.up h9); clear h9)
      | (go_at_call 6; (with_reducible refine (cC _ HQ.out.below).mono ?_); rintro e w3 ⟨rfl, h9⟩; have HQ := Lib.hid (HQ.out.up h9); clear h9)
      | (go_at_call 7; (with_reducible refine (cOf _ HQ.out.below).mono ?_); rintro e w4 ⟨o, rfl, h9⟩; have HQ := Lib.hid (HQ.out.up h9); clear h9)
      | (refine t_store (cs := obA o) rfl rfl rfl rfl (heap_alloc_new w4 _) (hoi o) rfl (obA_one o) (vzero w4 _) (Nat.le_refl _) ?_; intro W5 hb5 hW5 hO5 hz5; have HQ := Lib.hid (HQ.out.up hb5); clear hb5 hW5 hO5 hz5)
      | (refine w_run ?_ (ea_t5 (n := n) (k := ky) rfl rfl rfl) ?_; (rfl))
      | (go_at_call 8; (with_reducible refine (cD _ HQ.out.below).mono ?_); rintro e w6 ⟨v, q, hv1, rfl, h9⟩; have HQ := Lib.hid (HQ.out.up h9); obtain ⟨g1, g2⟩ := vblk2 (w := w6) (Below.refl _ ((w6.alloc (.cells #[.slice none 0 0] 24)).alloc (.cells oz26 44))); have gB : Below w6.heap.size w6 ((w6.alloc (.cells #[.slice none 0 0] 24)).alloc (.cells oz26 44)) := vafter (vzero _ _); clear h9)
      | ((with_reducible refine t_store (cs := #[v]) rfl rfl rfl rfl g1 (hi1 _) ?_ (hc1 _ hv1) gB (Nat.le_refl _) ?_); (rfl); intro W7 hb7 hW7 hO7 hz7; have g3 := (hO7 (w6.heap.size + 1) (by omega)).trans g2; clear hO7 hz7)
      | ((with_reducible refine oq_store (q := q) rfl rfl rfl rfl g3 rfl hb7 (Nat.le_succ _) ?_); intro W8 hb8 hW8 hO8 hz8; have HQ := Lib.hid (HQ.out.up hb8); clear hW8 hO8 hz8 g3 hb7 g1 g2 gB hb8 hW7))
    go_ret
    exact ⟨rfl, HQ.out.below⟩
end Go.Proofs.YtlfbflclefndjaaGreatDoor.S
/-
  A value that comes in, opened: a struct of four fields.
-/
namespace Go.Proofs.YtlfbflclefndjaaGreatDoor.S
open Go.ChangeShapes Go.WideShapes Go.Deep Go.RowKit Fl

section
variable {H : Type} {enc : TypeId × Value → H} {w : World} {base : Nat} {spare : Nat → Bool} {held : Bool}
/-- a float, read -/
theorem vread_float {k : FloatKind} {t : TypeId} {fuel : Nat} {cs : List Value} {x : DataW H × List MemPlace} (ht : Tryz.prog.underlying t = some (.float k)) (h : DataW.trod enc Tryz.prog w base spare held fuel t cs = some x) : ∃ b, cs = [.float k b] ∧ (Lit.float k b).wf = true := by
  cases fuel with
  | zero => simp [DataW.trod] at h
  | succ n =>
    unfold DataW.trod at h
    rw [ht] at h
    split at h <;> simp_all
set_option maxRecDepth 100000 in
theorem vopen_cells {n : Nat} {cs : List Value} {y : DataW H × List MemPlace} (hl : cs.length = 4) (ht : DataW.trod enc Tryz.prog w base spare held n 34 cs = some y) :
    ∃ (k x : Nat) (s : ByteArray) (r : Int), cs = [.int .u8 (k : Int), .float .f64 x, .string s, .int .i64 r] ∧ k < 256 ∧ x < 2 ^ 64 ∧ s.size ≤ maxLen ∧ -2 ^ 63 ≤ r ∧ r < 2 ^ 63 := by
  obtain ⟨xs, m, _, _, _, hxl, hf⟩ := DataW.trod_struct Tryz.underlying34 ht
  match cs, hl with
  | [c0, c1, c2, c3], _ =>
    have e5 : Tryz.prog.cellsOf 5 = 1 := by kernel_rfl
    have e3 : Tryz.prog.cellsOf 3 = 1 := by kernel_rfl
    have e9 : Tryz.prog.cellsOf 9 = 1 := by kernel_rfl
    have ef : Tryz.prog.cellsOf 32 = 1 := by kernel_rfl
    match xs, hxl with
    | [y0, y1, y2, y3], _ =>
      have h0 : DataW.trod enc Tryz.prog w base spare held m 5 (([c0, c1, c2, c3].drop 0).take (Tryz.prog.cellsOf 5)) = some y0 := hf 0 _ rfl
      have h1 : DataW.trod enc Tryz.prog w base spare held m 32 (([c0, c1, c2, c3].drop 1).take (Tryz.prog.cellsOf 32)) = some y1 := hf 1 _ rfl
      have h2 : DataW.trod enc Tryz.prog w base spare held m 9 (([c0, c1, c2, c3].drop 2).take (Tryz.prog.cellsOf 9)) = some y2 := hf 2 _ rfl
      have h3 : DataW.trod enc Tryz.prog w base spare held m 3 (([c0, c1, c2, c3].drop 3).take (Tryz.prog.cellsOf 3)) = some y3 := hf 3 _ rfl
      rw [e5] at h0
      rw [ef] at h1
      rw [e9] at h2
      rw [e3] at h3
      obtain ⟨k, k1, _, k2⟩ := DataW.trod_int Tryz.underlying5 h0
      obtain ⟨b, b1, b2⟩ := vread_float Tryz.underlying32 h1
      obtain ⟨s, s1, _, s2⟩ := DataW.trod_string Tryz.underlying9 h2
      obtain ⟨p, p1, _, p2⟩ := DataW.trod_int Tryz.underlying3 h3
      obtain rfl : c0 = .int .u8 k := by simpa using k1
      obtain rfl : c1 = .float .f64 b := by simpa using b1
      obtain rfl : c2 = .string s := by simpa using s1
      obtain rfl : c3 = .int .i64 p := by simpa using p1
      have hk : 0 ≤ k ∧ k ≤ 255 := by
        have h2 : (decide (IntKind.u8.min ≤ k) && decide (k ≤ IntKind.u8.max)) = true := k2
        rw [show IntKind.u8.min = 0 by decide, show IntKind.u8.max = 255 by decide] at h2
        simpa using h2
      have hb : b < 2 ^ 64 := by
        have h2 : decide (b < 2 ^ 64) = true := b2
        simpa using h2
      have hp : -9223372036854775808 ≤ p ∧ p ≤ 9223372036854775807 := by
        have h2 : (decide (IntKind.i64.min ≤ p) && decide (p ≤ IntKind.i64.max)) = true := p2
        rw [show IntKind.i64.min = -9223372036854775808 by decide, show IntKind.i64.max = 9223372036854775807 by decide] at h2
        simpa using h2
      have e : ((k.toNat : Nat) : Int) = k := by omega
      exact ⟨k.toNat, b, s, p, by rw [e], by omega, hb, s2, by omega, by omega⟩
end
end Go.Proofs.YtlfbflclefndjaaGreatDoor.S
/-
  A descriptor that comes in, opened: a struct of seven fields, three of them structs.
-/
namespace Go.Proofs.YtlfbflclefndjaaGreatDoor.S
open Go.ChangeShapes Go.WideShapes Go.Deep Go.RowKit Fl

section
variable {H : Type} {enc : TypeId × Value → H} {w : World} {base : Nat} {spare : Nat → Bool} {held : Bool}
theorem dread_bool {t : TypeId} {fuel : Nat} {cs : List Value} {x : DataW H × List MemPlace} (ht : Tryz.prog.underlying t = some .bool) (h : DataW.trod enc Tryz.prog w base spare held fuel t cs = some x) : ∃ b, cs = [.bool b] := by
  cases fuel with
  | zero => simp [DataW.trod] at h
  | succ n =>
    unfold DataW.trod at h
    rw [ht] at h
    split at h <;> simp_all
set_option maxRecDepth 100000 in
theorem open_vq {n : Nat} {cs : List Value} {y : DataW H × List MemPlace} (hl : cs.length = 4) (ht : DataW.trod enc Tryz.prog w base spare held n 34 cs = some y) :
    ∃ v : Vq, cs = [.int .u8 v.k, .float .f64 v.x, .string v.s, .int .i64 v.r] ∧ v.In := by
  obtain ⟨k, x, s, r, e, h1, h2, h3, h4, h5⟩ := vopen_cells hl ht
  exact ⟨⟨(k : Int), x, s, r⟩, e, by dsimp only; omega, by dsimp only; omega, h2, h5⟩
set_option maxRecDepth 100000 in
theorem open_dq {n : Nat} {cs : List Value} {y : DataW H × List MemPlace} (hl : cs.length = 16) (ht : DataW.trod enc Tryz.prog w base spare held n 41 cs = some y) :
    ∃ q : Dq, cs = q.cells.toList ∧ q.In := by
  obtain ⟨xs, m, _, _, _, hxl, hf⟩ := DataW.trod_struct Tryz.underlying41 ht
  match cs, hl with
  | [c0, c1, c2, c3, c4, c5, c6, c7, c8, c9, c10, c11, c12, c13, c14, c15], _ =>
    have e5 : Tryz.prog.cellsOf 5 = 1 := by kernel_rfl
    have eb : Tryz.prog.cellsOf 4 = 1 := by kernel_rfl
    have ev : Tryz.prog.cellsOf 34 = 4 := by kernel_rfl
    match xs, hxl with
    | [y0, y1, y2, y3, y4, y5, y6], _ =>
      have h0 : DataW.trod enc Tryz.prog w base spare held m 5 (([c0, c1, c2, c3, c4, c5, c6, c7, c8, c9, c10, c11, c12, c13, c14, c15].drop 0).take (Tryz.prog.cellsOf 5)) = some y0 := hf 0 _ rfl
      have h1 : DataW.trod enc Tryz.prog w base spare held m 34 (([c0, c1, c2, c3, c4, c5, c6, c7, c8, c9, c10, c11, c12, c13, c14, c15].drop 1).take (Tryz.prog.cellsOf 34)) = some y1 := hf 1 _ rfl
      have h2 : DataW.trod enc Tryz.prog w base spare held m 34 (([c0, c1, c2, c3, c4, c5, c6, c7, c8, c9, c10, c11, c12, c13, c14, c15].drop 5).take (Tryz.prog.cellsOf 34)) = some y2 := hf 2 _ rfl
      have h3 : DataW.trod enc Tryz.prog w base spare held m 34 (([c0, c1, c2, c3, c4, c5, c6, c7, c8, c9, c10, c11, c12, c13, c14, c15].drop 9).take (Tryz.prog.cellsOf 34)) = some y3 := hf 3 _ rfl
      have h4 : DataW.trod enc Tryz.prog w base spare held m 4 (([c0, c1, c2, c3, c4, c5, c6, c7, c8, c9, c10, c11, c12, c13, c14, c15].drop 13).take (Tryz.prog.cellsOf 4)) = some y4 := hf 4 _ rfl
      have h5 : DataW.trod enc Tryz.prog w base spare held m 4 (([c0, c1, c2, c3, c4, c5, c6, c7, c8, c9, c10, c11, c12, c13, c14, c15].drop 14).take (Tryz.prog.cellsOf 4)) = some y5 := hf 5 _ rfl
      have h6 : DataW.trod enc Tryz.prog w base spare held m 4 (([c0, c1, c2, c3, c4, c5, c6, c7, c8, c9, c10, c11, c12, c13, c14, c15].drop 15).take (Tryz.prog.cellsOf 4)) = some y6 := hf 6 _ rfl
      rw [e5] at h0
      rw [ev] at h1 h2 h3
      rw [eb] at h4 h5 h6
      obtain ⟨k, k1, _, k2⟩ := DataW.trod_int Tryz.underlying5 h0
      obtain ⟨a, a1, a2⟩ := open_vq rfl h1
      obtain ⟨b, b1, b2⟩ := open_vq rfl h2
      obtain ⟨c, d1, d2⟩ := open_vq rfl h3
      obtain ⟨p, p1⟩ := dread_bool Tryz.underlying4 h4
      obtain ⟨q, q1⟩ := dread_bool Tryz.underlying4 h5
      obtain ⟨z, z1⟩ := dread_bool Tryz.underlying4 h6
      have hk : 0 ≤ k ∧ k ≤ 255 := by
        have h2 : (decide (IntKind.u8.min ≤ k) && decide (k ≤ IntKind.u8.max)) = true := k2
        rw [show IntKind.u8.min = 0 by decide, show IntKind.u8.max = 255 by decide] at h2
        simpa using h2
      refine ⟨⟨k, a, b, c, p, q, z⟩, ?_, ⟨hk.1, by dsimp only; omega, a2, b2, d2⟩⟩
      simp only [List.drop_succ_cons, List.drop_zero, List.take_succ_cons, List.take_zero, List.cons.injEq, and_true] at k1 a1 b1 d1 p1 q1 z1
      obtain rfl := k1
      obtain ⟨rfl, rfl, rfl, rfl⟩ := a1
      obtain ⟨rfl, rfl, rfl, rfl⟩ := b1
      obtain ⟨rfl, rfl, rfl, rfl⟩ := d1
      obtain rfl := p1
      obtain rfl := q1
      obtain rfl := z1
      rfl
end
end Go.Proofs.YtlfbflclefndjaaGreatDoor.S
/-
  Properties, and a slice of them, that come in, opened.
-/
namespace Go.Proofs.YtlfbflclefndjaaGreatDoor.S
open Go.ChangeShapes Go.WideShapes Go.Deep Go.RowKit Fl

section
variable {H : Type} {enc : TypeId × Value → H} {w : World} {base : Nat} {spare : Nat → Bool} {held : Bool}
theorem plist_of {n : Nat} {Q : Nat → Pq → Prop} (h : ∀ i, i < n → ∃ t, Q i t) : ∃ l : List Pq, l.length = n ∧ ∀ (i : Nat) (hi : i < l.length), Q i l[i] := by
  induction n with
  | zero => exact ⟨[], rfl, fun i hi => by simp at hi⟩
  | succ n ih =>
    obtain ⟨l, hl, hq⟩ := ih fun i hi => h i (by omega)
    obtain ⟨t, ht⟩ := h n (by omega)
    refine ⟨l ++ [t], by simp [hl], fun i hi => ?_⟩
    by_cases c : i < l.length
    · rw [List.getElem_append_left c]; exact hq i c
    · have e : i = l.length := by simp at hi; omega
      subst e
      rw [List.getElem_append_right (Nat.le_refl _)]
      simp only [Nat.sub_self, List.getElem_singleton]
      rw [hl]; exact ht
set_option maxRecDepth 100000 in
theorem popen_cells {n : Nat} {cs : List Value} {y : DataW H × List MemPlace} (hl : cs.length = 18) (ht : DataW.trod enc Tryz.prog w base spare held n 68 cs = some y) : ∃ p : Pq, cs = pcl p ∧ p.In := by
  obtain ⟨xs, m, _, _, _, hxl, hf⟩ := DataW.trod_struct Tryz.underlying68 ht
  have ek : Tryz.prog.cellsOf 26 = 2 := by kernel_rfl
  have ed : Tryz.prog.cellsOf 41 = 16 := by kernel_rfl
  match xs, hxl with
  | [y0, y1], _ =>
    have h0 : DataW.trod enc Tryz.prog w base spare held m 26 ((cs.drop 0).take (Tryz.prog.cellsOf 26)) = some y0 := hf 0 _ rfl
    have h1 : DataW.trod enc Tryz.prog w base spare held m 41 ((cs.drop 2).take (Tryz.prog.cellsOf 41)) = some y1 := hf 1 _ rfl
    rw [ek] at h0
    rw [ed] at h1
    obtain ⟨k, e1, hk⟩ := kopen_cells (by simp [hl]) h0
    obtain ⟨d, e2, hd⟩ := open_dq (by simp [hl]) h1
    refine ⟨⟨k, d⟩, ?_, hk, hd⟩
    have e3 : cs = (cs.drop 0).take 2 ++ (cs.drop 2).take 16 := by
      rw [List.drop_zero, List.take_of_length_le (by simp [hl] : (cs.drop 2).length ≤ 16), List.take_append_drop]
    rw [e3, e1, e2]
    rfl
set_option maxRecDepth 100000 in
theorem popen_one {a : Addr} {n : Nat} {cs : List Value} {x : DataW H × List MemPlace} (hc : w.cells? base a 18 = some cs) (ht : DataW.trod enc Tryz.prog w base spare held n 68 cs = some x) : ∃ p : Pq, p.In ∧ a.block < w.heap.size ∧ ∀ j u, (pcl p)[j]? = some u → w.cell? (a.add j) = some u := by
  obtain ⟨_, hl, hat⟩ := World.cells?_some hc
  obtain ⟨p, rfl, hp⟩ := popen_cells hl ht
  have h0 := hat 0 (by omega)
  refine ⟨p, hp, ?_, fun j u hu => ?_⟩
  · have := klt_of_cell h0
    rw [kblock_add] at this
    exact this
  · have hj : j < 18 := by have := (List.getElem?_eq_some_iff.1 hu).1; rw [pcl_len] at this; exact this
    rw [hat j hj]
    have := (List.getElem?_eq_some_iff.1 hu).2
    simp [← this]
end
end Go.Proofs.YtlfbflclefndjaaGreatDoor.S
