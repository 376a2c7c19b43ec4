/-
  OrdinaryDefines: the walk.
-/
import Derived.Test.YtkcikdggfbjedaaGreatDoorOD31
import Derived.Test.YtkcikdggfbjedaaGreatDoorOD26
import Derived.Test.YtkcikdggfbjedaaGreatDoorOD23
import Derived.Test.YtkcikdggfbjedaaGreatDoorOD03
import Derived.Deep.Slices
import Derived.Deep.Fields
import Derived.ChangeSame
import Derived.Carry
import Derived.OpenShut
import Derived.Laws.Cover2
import Derived.Test.YtkcikdggfbjedaaGreatDoorOD12
import Derived.Test.YtkcikdggfbjedaaGreatDoorOD15
import Derived.Test.YtkcikdggfbjedaaGreatDoorOD11
namespace Go.Proofs.YtkcikdggfbjedaaGreatDoor.S
open Go.RowKit Go.Lib Fl
open Classical

theorem rb_dk6 (n : Int) (k : Ky) (d : Dq) (w : World) : (Instr.build 60 #[(0, .int .u8 6), (1, .int .i64 n), (2, .agg #[.string k.str, .int .i64 k.sym]), (3, .agg d.cells)]).run Tryz.prog w = .ok (.agg (akA (akq 6 n k d v0))) w := by kernel_rfl
section
variable {o : Oper} {a : Act} {w : World} {x y z : Operand} {n : Int}
theorem ea_dk6 {k : Ky} {d : Dq} (ho : o.op = .build 60 #[(0, .const (.int .u8 6)), (1, y), (2, x), (3, z)]) (hy : a.eval y = .int .i64 n) (hx : a.eval x = .agg #[.string k.str, .int .i64 k.sym]) (hz : a.eval z = .agg d.cells) : (execOp a.eval o).run Tryz.prog w = .ok (.value (.agg (akA (akq 6 n k d v0)))) w := by
  unfold execOp
  have hc : ∀ v, a.eval (.const v) = v := fun _ => rfl
  simp only [ho, List.map_toArray, List.map_cons, List.map_nil, hc, hx, hy, hz, rb_dk6, Sem.run_bind, Sem.run_pure, Result.andThen_ok]
theorem ea_dz (ho : o.op = .alloc 50) : (execOp a.eval o).run Tryz.prog w = .ok (.value (.pointer (some ⟨w.heap.size, 0, none⟩))) (w.alloc (.cells dz16 50)) := by
  unfold execOp
  simp only [ho]
  kernel_rfl
end
theorem dc_of {w : World} {g : Nat} {d : Dq} {t : TypeId} (hb : w.heap[g]? = some (.cells d.cells t (0, 0))) : ∀ j u, d.cells.toList[j]? = some u → w.cell? ((⟨g, 0, none⟩ : Addr).add j) = some u := fun j u hu => by
  rw [Addr.add_mid, Nat.zero_add, vcells hb j]
  simpa using hu
/-- the law's own blocks -/
structure Df (w : World) (A : Option Addr) (n cap : Nat) (ky : Ky) (d : Dq) (W : World) : Prop where
  below : Below w.heap.size w W
  h : W.heap[w.heap.size]? = some (.cells #[.slice A n cap] 24 (0, 0))
  k : W.heap[w.heap.size + 1]? = some (.cells #[.string ky.str, .int .i64 ky.sym] 45 (0, 0))
  d : W.heap[w.heap.size + 1 + 1]? = some (.cells d.cells 50 (0, 0))
theorem Df.up {w : World} {A : Option Addr} {n cap : Nat} {ky : Ky} {d : Dq} {W W' : World} (h : Df w A n cap ky d W) (hb : Below W.heap.size W W') : Df w A n cap ky d W' := ⟨vb h.below hb, vblkn hb h.h, vblkn hb h.k, vblkn hb h.d⟩
theorem df_start (w : World) (A : Option Addr) (n cap : Nat) (ky : Ky) (d : Dq) : Df w A n cap ky d (((w.alloc (.cells #[.slice A n cap] 24)).alloc (.cells #[.string ky.str, .int .i64 ky.sym] 45)).alloc (.cells d.cells 50)) := by
  obtain ⟨h1, h2⟩ := vblk2 (w := w) (Below.refl _ ((w.alloc (.cells #[.slice A n cap] 24)).alloc (.cells #[.string ky.str, .int .i64 ky.sym] 45)))
  have hs : ((w.alloc (.cells #[.slice A n cap] 24)).alloc (.cells #[.string ky.str, .int .i64 ky.sym] 45)).heap.size = w.heap.size + 1 + 1 := by simp
  have h3 := heap_alloc_new ((w.alloc (.cells #[.slice A n cap] 24)).alloc (.cells #[.string ky.str, .int .i64 ky.sym] 45)) (.cells d.cells 50)
  rw [hs] at h3
  exact ⟨vafter (vafter (vzero _ _)), vblkn (vzero _ _) h1, vblkn (vzero _ _) h2, h3⟩
theorem Df.q {w : World} {A : Option Addr} {n cap : Nat} {ky : Ky} {d : Dq} {W : World} (h : Df w A n cap ky d W) : W.cell? ⟨w.heap.size, 0, none⟩ = some (.slice A n cap) := (vcells h.h 0).trans rfl
/-- with what Own and Do gave -/
structure Dg (w : World) (A : Option Addr) (n cap : Nat) (ky : Ky) (d now : Dq) (gn gx go B : Nat) (q : Oq) (H M2 : List Ob) (W : World) : Prop where
  s : Df w A n cap ky d W
  now : W.heap[gn]? = some (.cells now.cells 50 (0, 0))
  x : W.heap[gx]? = some (.cells #[.slice (some ⟨B, 0, none⟩) n n] 24 (0, 0))
  o : W.heap[go]? = some (.cells (oqA q) 55 (0, 0))
  l : LeftH H B M2 W
theorem Dg.up {w : World} {A : Option Addr} {n cap : Nat} {ky : Ky} {d now : Dq} {gn gx go B : Nat} {q : Oq} {H M2 : List Ob} {W W' : World} (h : Dg w A n cap ky d now gn gx go B q H M2 W) (hb : Below W.heap.size W W') : Dg w A n cap ky d now gn gx go B q H M2 W' := ⟨h.s.up hb, vblkn hb h.now, vblkn hb h.x, vblkn hb h.o, h.l.up hb⟩
theorem dg_row {w : World} {A : Option Addr} {n cap : Nat} {ky : Ky} {d now : Dq} {gn gx go B : Nat} {q : Oq} {H M2 : List Ob} {W : World} {gt : Nat} {c : Array Value} (h : Dg w A n cap ky d now gn gx go B q H M2 W) (ht : W.heap[gt]? = some (.cells c 50 (0, 0))) (hg : w.heap.size + 1 + 1 < gt ∧ gn < gt ∧ gx < gt ∧ go < gt ∧ B < gt) (cs : Array Value) : Dg w A n cap ky d now gn gx go B q H M2 (W.setRow gt cs) := by
  obtain ⟨h1, h2, h3, h4, h5⟩ := hg
  have o : ∀ j, j ≠ gt → (W.setRow gt cs).heap[j]? = W.heap[j]? := fun j hj => setRow_other W _ _ _ hj
  refine ⟨⟨below_row h.s.below (by omega) cs, (o _ (by omega)).trans h.s.h, (o _ (by omega)).trans h.s.k, (o _ (by omega)).trans h.s.d⟩, (o _ (by omega)).trans h.now, (o _ (by omega)).trans h.x, (o _ (by omega)).trans h.o, ⟨(o _ (by omega)).trans h.l.b, h.l.rest.keep fun g cs2 hg2 => o _ (fun e => ?_), h.l.ins, h.l.len, h.l.few, h.l.may⟩⟩
  subst e
  rw [ht] at hg2
  cases hg2
/-- with what it becomes -/
structure Dh (w : World) (A : Option Addr) (n cap : Nat) (ky : Ky) (d now : Dq) (gn gx go B : Nat) (q : Oq) (H M2 : List Ob) (gt : Nat) (T : Dq) (W : World) : Prop where
  g : Dg w A n cap ky d now gn gx go B q H M2 W
  t : W.heap[gt]? = some (.cells T.cells 50 (0, 0))
theorem Dh.up {w : World} {A : Option Addr} {n cap : Nat} {ky : Ky} {d now : Dq} {gn gx go B : Nat} {q : Oq} {H M2 : List Ob} {gt : Nat} {T : Dq} {W W' : World} (h : Dh w A n cap ky d now gn gx go B q H M2 gt T W) (hb : Below W.heap.size W W') : Dh w A n cap ky d now gn gx go B q H M2 gt T W' := ⟨h.g.up hb, vblkn hb h.t⟩
set_option maxHeartbeats 16000000 in
set_option maxRecDepth 1000000 in
theorem OrdinaryDefines_walk (A : Option Addr) (H : List Ob) (cap : Nat) (n : Int) (ky : Ky) (d : Dq) (w : World) (hH : HIn0 w A H cap) (hky : KyIn ky) (hd : d.In) (htab : TabHere w) :
    Calls Tryz.prog 6 #[.agg #[.slice A H.length cap], .int .i64 n, .agg #[.string ky.str, .int .i64 ky.sym], .agg d.cells] w fun e w' => e = .returned (.bool true) ∧ Below w.heap.size w w' := by
  have HQ := Lib.hid (df_start w A H.length cap ky d)
  have hq := HQ.out.q
  have cA := fun W (hb : Below w.heap.size w W) => alive12 W (tab_up htab hb)
  have hi1 : ∀ v : Value, (Tryz.prog.info? 24).map (·.size) = some (#[v] : Array Value).size := fun v => hsz
  have hc1 : ∀ v : Value, v.oneCell' = true → (#[v] : Array Value).all (·.oneCell') = true := fun v h => cells_one (l := [v]) (by simpa using h)
  by_cases hm : (60 < H.length ∧ H.length ≤ 4096) ∨ 5000 < H.length
  · have cL := fun W (_ : Below w.heap.size w W) => lg12_many A H.length cap W hm
    clear hH htab hm hky hd
    go_enter Tryz.func6, Tryz.ntmps6
    go_wp2_with (first
      | (go_at_call 21; (with_reducible refine (cA _ HQ.out.below).mono ?_); rintro e w1 ⟨rfl, h9⟩; have HQ := Lib.hid (HQ.out.up h9); have hq := HQ.out.q; clear h9)
      | ((with_reducible refine h1_ld ?_ rfl rfl HQ.out.h ?_); (rfl))
      | (go_at_call 22; (with_reducible refine (cL _ HQ.out.below).mono ?_); rintro e w2 ⟨rfl, h9⟩; have HQ := Lib.hid (HQ.out.up h9); have hq := HQ.out.q; clear h9))
    go_ret
    exact ⟨rfl, HQ.out.below⟩
  · have cL := fun W (hb : Below w.heap.size w W) => lg12_few A H cap W (hrow_up hH.row hb) hm
    cases hl : lg12 H with
    | true =>
      rw [hl] at cL
      clear hH htab hm hl hky hd
      go_enter Tryz.func6, Tryz.ntmps6
      go_wp2_with (first
        | (go_at_call 21; (with_reducible refine (cA _ HQ.out.below).mono ?_); rintro e w1 ⟨rfl, h9⟩; have HQ := Lib.hid (HQ.out.up h9); have hq := HQ.out.q; clear h9)
        | ((with_reducible refine h1_ld ?_ rfl rfl HQ.out.h ?_); (rfl))
        | (go_at_call 22; (with_reducible refine (cL _ HQ.out.below).mono ?_); rintro e w2 ⟨rfl, h9⟩; have HQ := Lib.hid (HQ.out.up h9); have hq := HQ.out.q; clear h9))
      go_ret
      exact ⟨rfl, HQ.out.below⟩
    | false =>
      rw [hl] at cL
      have hI := hH.few12 (by omega) hl
      have hsm : ∀ o ∈ H, o.props.length ≤ 100000 := fun o ho => by have := small_12 hl o ho; omega
      by_cases hE : doE H (akq 6 n ky d v0) = 0
      · obtain ⟨hmay, k, hA⟩ := do_ask hE
        obtain rfl : n = (k : Int) := hA.n
        have hk := hA.lt
        have hmk : mayKy ky := hA.key (.inr (.inl rfl))
        have hcd : chkQ d = true := (hA.m6 rfl).1
        obtain ⟨hmb, hTk, hmp1, hmp2, hmp3⟩ := may_parts hmay hk
        have hin : ∀ x ∈ H[k].props, x.In := (hI.inn _ (List.getElem_mem hk)).props
        have hE2 := compat0 (ext := H[k].ext) (k := ky) hcd hTk
        have cD := fun W (hb : Below w.heap.size w W) => def_do (hI.up hb) hsm hky hd (tab_up htab hb) hE hk
        have cO := fun W (hb : Below w.heap.size w W) => Own_ok A H cap ky k W (hI.up hb) hsm (tab_up htab hb) hmay hk hmk
        have cAp : ∀ W, Calls Tryz.prog 25 #[.bool H[k].ext, .agg d.cells, .bool (findT H[k].props ky).isSome, .agg (fndD H[k].props ky).cells] W fun e w' => e = .returned (.tuple #[.agg (applyQ H[k].ext d (findT H[k].props ky).isSome (fndD H[k].props ky)).cells, .bool (compatQ H[k].ext d (findT H[k].props ky).isSome (fndD H[k].props ky)).1, .int .i64 (compatQ H[k].ext d (findT H[k].props ky).isSome (fndD H[k].props ky)).2]) ∧ Below W.heap.size W w' := fun W => apply_q hd (fnd_in hin ky) W
        rw [hE2] at cAp
        have hext : ∃ ad, A = some ad ∧ ∀ W, Below w.heap.size w W → W.cell? ⟨(ad.add (k * 18)).block, (ad.add (k * 18)).off + 5, none⟩ = some (.bool H[k].ext) := by
          obtain ⟨ad, h1, h2, h3, _⟩ := hI.at hk
          exact ⟨ad, h1, fun W hb => (h3.up hb).ext⟩
        obtain ⟨ad, rfl, hext⟩ := hext
        have HSM : Hid (∀ B M2, M2.map Ob.bare = H.map Ob.bare → ∀ W, Below w.heap.size w W → LeftH H B M2 W → Calls Tryz.prog 20 #[.agg #[.slice (some ad) H.length cap], .agg #[.slice (some ⟨B, 0, none⟩) H.length H.length]] W fun e w' => e = .returned (.bool true) ∧ Below W.heap.size W w') := Lib.hid fun B M2 hb2 W hb hL =>
          same_hl H.length _ _ cap H.length W (hl_in (hI.up hb) hsm) (hl_in hL.inn hL.small) hb2.symm rfl (by omega)
        have HOW : Hid (∀ B M2, ∀ W, Below w.heap.size w W → LeftH H B M2 W → Calls Tryz.prog 23 #[.agg #[.slice (some ⟨B, 0, none⟩) H.length H.length], .int .i64 (k : Int), .agg #[.string ky.str, .int .i64 ky.sym]] W fun e w' => ∃ U b, e = .returned (.tuple #[.agg (Dq.cells U), .bool b, .int .i64 0]) ∧ (∀ h : k < M2.length, U = fndD M2[k].props ky ∧ b = (findT M2[k].props ky).isSome) ∧ Below W.heap.size W w') := Lib.hid fun B M2 W hb hL => by
          have hk2 : k < M2.length := by rw [hL.len]; exact hk
          have := Own_ok (some ⟨B, 0, none⟩) M2 M2.length ky k W hL.inn hL.small (tab_up htab hb) hL.may hk2 hmk
          rw [hL.len] at this
          exact this.mono fun e w' ⟨h1, h2⟩ => ⟨_, _, h1, fun _ => ⟨rfl, rfl⟩, h2⟩
        have HOT : Hid (∀ B M2 T, (∀ i (h1 : i < M2.length) (h2 : i < H.length), i ≠ k → M2[i].bare = H[i].bare) → (∀ (h1 : k < M2.length) (h2 : k < H.length), M2[k].props = putT H[k].props ⟨ky, T⟩) → ∀ W, Below w.heap.size w W → LeftH H B M2 W → Calls Tryz.prog 27 #[.agg #[.slice (some ad) H.length cap], .agg #[.slice (some ⟨B, 0, none⟩) H.length H.length], .int .i64 (k : Int), .agg #[.string ky.str, .int .i64 ky.sym]] W fun e w' => e = .returned (.bool true) ∧ Below W.heap.size W w') := Lib.hid fun B M2 T h1 h2 W hb hL => by
          have hB := hL.inn
          rw [hL.len] at hB
          exact others_o ad B H M2 cap H.length k ky ⟨ky, T⟩ W (hI.up hb) hsm hB hL.small hL.len hk h1 (fun h3 => h2 h3 hk) rfl hTk
        obtain ⟨D, hD0⟩ : ∃ D, D = fndD H[k].props ky := ⟨_, rfl⟩
        obtain ⟨was, hwas⟩ : ∃ was, was = (findT H[k].props ky).isSome := ⟨_, rfl⟩
        obtain ⟨ext, hex⟩ : ∃ ext, ext = H[k].ext := ⟨_, rfl⟩
        rw [← hD0, ← hwas] at cO cAp
        rw [← hex] at cAp hext
        unfold DfTo at cD
        rw [← hD0, ← hwas, ← hex] at cD
        generalize (compatQ ext d was D).1 = C at *
        generalize applyQ ext d was D = X at *
        have hdi := dc_size D
        have hd1 := dc_one D
        have hXi := dc_size X
        have hX1 := dc_one X
        have HEX := Lib.hid hext
        have HN60 : H.length ≤ 5000 := by omega
        have hkz : (k : Int) < (H.length : Int) := by omega
        have hk0 : (0 : Int) ≤ (k : Int) := by omega
        have HKL := Lib.hid hk
        clear hH hm hl hI hsm hE hmay hA htab hmk hcd hmb hTk hmp1 hmp2 hmp3 hin hE2 hD0 hwas hex hext hky hd hk
        go_enter Tryz.func6, Tryz.ntmps6
        go_upto_region 10 with (first
          | ((with_reducible refine h1_ld ?_ rfl rfl HG.out.s.h ?_); (rfl))
          | ((with_reducible refine h1_ld ?_ rfl rfl HQ.out.h ?_); (rfl))
          | ((with_reducible refine kk_load ?_ rfl rfl HQ.out.k ?_); (rfl))
          | (refine d_load ?_ rfl rfl HQ.out.d ?_; (rfl))
          | (refine w_run ?_ (ea_dk6 (n := (k : Int)) (k := ky) (d := d) rfl rfl rfl rfl) ?_; (rfl))
          | (go_at_call 21; (with_reducible refine (cA _ HQ.out.below).mono ?_); rintro e w1 ⟨rfl, h9⟩; have HQ := Lib.hid (HQ.out.up h9); have hq := HQ.out.q; clear h9)
          | (go_at_call 22; (with_reducible refine (cL _ HQ.out.below).mono ?_); rintro e w2 ⟨rfl, h9⟩; have HQ := Lib.hid (HQ.out.up h9); have hq := HQ.out.q; clear h9)
          | (go_at_call 23; (with_reducible refine (cO _ HQ.out.below).mono ?_); rintro e w3 ⟨rfl, h9⟩; have HQ := Lib.hid (HQ.out.up h9); clear h9)
          | (refine t_store (cs := D.cells) rfl rfl rfl rfl (heap_alloc_new w3 _) hdi rfl hd1 (vzero w3 _) (Nat.le_refl _) ?_; intro W4 hb4 hW4 hO4 hz4; have HQ := Lib.hid (HQ.out.up hb4); have HNOW : Hid (W4.heap[w3.heap.size]? = some (.cells D.cells 50 (0, 0))) := Lib.hid hW4; clear hW4; clear hb4 hO4 hz4)
          | (go_at_call 24; (with_reducible refine (cD _ HQ.out.below).mono ?_); rintro e w5 ⟨B, M2, q, rfl, hD, h9⟩; have HD := Lib.hid hD; have HNOW := Lib.hid (vblkn h9 HNOW.out); have HQ := Lib.hid (HQ.out.up h9); obtain ⟨g1, g2⟩ := vblk2 (w := w5) (Below.refl _ ((w5.alloc (.cells #[.slice none 0 0] 24)).alloc (.cells oz26 55))); have gB : Below w5.heap.size w5 ((w5.alloc (.cells #[.slice none 0 0] 24)).alloc (.cells oz26 55)) := vafter (vzero _ _); clear h9 hD)
          | ((with_reducible refine t_store (cs := #[.slice (some ⟨B, 0, none⟩) H.length H.length]) rfl rfl rfl rfl g1 (hi1 _) ?_ (hc1 _ rfl) gB (Nat.le_refl _) ?_); (rfl); intro W6 hb6 hW6 hO6 hz6; have g3 := (hO6 (w5.heap.size + 1) (by omega)).trans g2; clear hO6 hz6)
          | ((with_reducible refine oq_store (q := q) rfl rfl rfl rfl g3 rfl hb6 (Nat.le_succ _) ?_); intro W7 hb7 hW7 hO7 hz7; have HG : Hid (Dg w (some ad) H.length cap ky d D w3.heap.size w5.heap.size (w5.heap.size + 1) B q H M2 W7) := Lib.hid ⟨HQ.out.up hb7, vblkn hb7 HNOW.out, (hO7 w5.heap.size (by omega)).trans hW6, hW7, HD.out.1.up hb7⟩; have HDI := Lib.hid HD.out.2; clear hW7 hO7 hz7 g3 hb6 g1 g2 gB hb7 hW6 HQ HD HNOW))
        generalize w3.heap.size = gn at *
        generalize w5.heap.size + 1 = go at *
        generalize w5.heap.size = gx at *
        clear cA cL cD cO
        (try dsimp only [Act.put])
        go_cut [16, 17, 18] from 22 (fun s16 s17 s18 wx => ∃ gt : Nat, s16 = .pointer (some ⟨gt, 0, none⟩) ∧ s17 = .bool C ∧ s18 = .int .i64 0 ∧ Hid (Dh w (some ad) H.length cap ky d D gn gx go B q H M2 gt X wx))
        case first =>
          have hS : Dg w (some ad) H.length cap ky d D gn gx go B q H M2 (World.drew _) := HG.out.up (Below.refl _ _).drew
          refine wp_region_held_drew (S := Dg w (some ad) H.length cap ky d D gn gx go B q H M2) (by kernel_rfl) hS (fun hHeld => ?_)
          generalize World.drew _ = W0 at *
          clear HSM HOW HOT HDI HG
          refine hH_take (i := 0) (v := .pointer (some ⟨w.heap.size, 0, none⟩)) (d := 50) (l2 := #[true, false, false, false, false, false, false, false, false, false, false, false, false, false, false, false, false, false]) rfl (by kernel_rfl) (by kernel_rfl) (by kernel_rfl) (fun _ _ _ h => h) (by kernel_rfl) ?_ (by assumption) rfl (by kernel_rfl) ?_
          · intro w hSw; go_simp; (try with_reducible rfl)
          simp only [List.set]
          refine hH_take (i := 1) (v := .slice (some ad) H.length cap) (d := 51) (l2 := #[true, true, false, false, false, false, false, false, false, false, false, false, false, false, false, false, false, false]) rfl (by kernel_rfl) (by kernel_rfl) (by kernel_rfl) (fun _ _ _ h => h) (by kernel_rfl) ?_ (by assumption) rfl (by kernel_rfl) ?_
          · intro w hSw; have q := hSw.s.q; go_simp; (try with_reducible rfl)
          simp only [List.set]
          refine hH_take (i := 2) (v := .int .i64 (k : Int)) (d := 52) (l2 := #[true, true, true, false, false, false, false, false, false, false, false, false, false, false, false, false, false, false]) rfl (by kernel_rfl) (by kernel_rfl) (by kernel_rfl) (fun _ _ _ h => h) (by kernel_rfl) ?_ (by assumption) rfl (by kernel_rfl) ?_
          · intro w hSw; go_simp; (try with_reducible rfl)
          simp only [List.set]
          refine hH_take (i := 3) (v := .pointer (some (ad.add (k * 18)))) (d := 53) (l2 := #[true, true, true, true, false, false, false, false, false, false, false, false, false, false, false, false, false, false]) rfl (by kernel_rfl) (by kernel_rfl) (by kernel_rfl) (fun _ _ _ h => h) (by kernel_rfl) ?_ (by assumption) rfl (by kernel_rfl) ?_
          · intro w hSw; go_simp; (try with_reducible rfl)
          simp only [List.set]
          refine hH_take (i := 4) (v := .pointer (some ⟨(ad.add (k * 18)).block, (ad.add (k * 18)).off + 5, none⟩)) (d := 54) (l2 := #[true, true, true, true, true, false, false, false, false, false, false, false, false, false, false, false, false, false]) rfl (by kernel_rfl) (by kernel_rfl) (by kernel_rfl) (fun _ _ _ h => h) (by kernel_rfl) ?_ (by assumption) rfl (by kernel_rfl) ?_
          · intro w hSw; go_simp; (try with_reducible rfl)
          simp only [List.set]
          refine hH_take (i := 5) (v := .bool ext) (d := 55) (l2 := #[true, true, true, true, true, true, false, false, false, false, false, false, false, false, false, false, false, false]) rfl (by kernel_rfl) (by kernel_rfl) (by kernel_rfl) (fun _ _ _ h => h) (by kernel_rfl) ?_ (by assumption) rfl (by kernel_rfl) ?_
          · intro w hSw; have q := HEX.out _ hSw.s.below; go_simp; (try with_reducible rfl)
          simp only [List.set]
          refine hH_take (i := 6) (v := .agg d.cells) (d := 56) (l2 := #[true, true, true, true, true, true, true, false, false, false, false, false, false, false, false, false, false, false]) rfl (by kernel_rfl) (by kernel_rfl) (by kernel_rfl) (fun _ _ _ h => h) (by kernel_rfl) ?_ (by assumption) rfl (by kernel_rfl) ?_
          · intro w hSw; exact ex_load_at (d2_load hSw.s.d) rfl rfl
          simp only [List.set]
          refine hH_take (i := 7) (v := .bool was) (d := 57) (l2 := #[true, true, true, true, true, true, true, true, false, false, false, false, false, false, false, false, false, false]) rfl (by kernel_rfl) (by kernel_rfl) (by kernel_rfl) (fun _ _ _ h => h) (by kernel_rfl) ?_ (by assumption) rfl (by kernel_rfl) ?_
          · intro w hSw; go_simp; (try with_reducible rfl)
          simp only [List.set]
          refine hH_take (i := 8) (v := .agg D.cells) (d := 58) (l2 := #[true, true, true, true, true, true, true, true, true, false, false, false, false, false, false, false, false, false]) rfl (by kernel_rfl) (by kernel_rfl) (by kernel_rfl) (fun _ _ _ h => h) (by kernel_rfl) ?_ (by assumption) rfl (by kernel_rfl) ?_
          · intro w hSw; exact ex_load_at (d2_load hSw.now) rfl rfl
          simp only [List.set]
          refine wpAnyH_ready (rs := [9, 14]) (by kernel_rfl) (by simp) ?_
          refine (AllReadyH.cons rfl (fun K hK => ?_) (AllReadyH.cons rfl (fun K hK => ?_) AllReadyH.nil))
          · skip
            go_simp
            go_at_call 25
            (with_reducible refine (cAp _).mono ?_)
            rintro e w12 ⟨rfl, h9⟩
            have hS := hS.up h9
            clear h9
            refine hK.out _ _ hS (fun hHeld => ?_)
            clear hK K
            refine hH_take (i := 10) (v := .tuple #[.agg X.cells, .bool C, .int .i64 0]) (d := 49) (l2 := #[true, true, true, true, true, true, true, true, true, true, true, false, false, false, false, false, false, false]) rfl (by kernel_rfl) (by kernel_rfl) (by kernel_rfl) (fun _ _ _ h => h) (by kernel_rfl) ?_ (by assumption) rfl (by kernel_rfl) ?_
            · intro w hSw; go_simp; (try with_reducible rfl)
            simp only [List.set]
            refine hH_take (i := 11) (v := .agg X.cells) (d := 60) (l2 := #[true, true, true, true, true, true, true, true, true, true, true, true, false, false, false, false, false, false]) rfl (by kernel_rfl) (by kernel_rfl) (by kernel_rfl) (fun _ _ _ h => h) (by kernel_rfl) ?_ (by assumption) rfl (by kernel_rfl) ?_
            · intro w hSw; go_simp; (try with_reducible rfl)
            simp only [List.set]
            refine hH_take (i := 12) (v := .bool C) (d := 61) (l2 := #[true, true, true, true, true, true, true, true, true, true, true, true, true, false, false, false, false, false]) rfl (by kernel_rfl) (by kernel_rfl) (by kernel_rfl) (fun _ _ _ h => h) (by kernel_rfl) ?_ (by assumption) rfl (by kernel_rfl) ?_
            · intro w hSw; go_simp; (try with_reducible rfl)
            simp only [List.set]
            refine hH_take (i := 13) (v := .int .i64 0) (d := 62) (l2 := #[true, true, true, true, true, true, true, true, true, true, true, true, true, true, false, false, false, false]) rfl (by kernel_rfl) (by kernel_rfl) (by kernel_rfl) (fun _ _ _ h => h) (by kernel_rfl) ?_ (by assumption) rfl (by kernel_rfl) ?_
            · intro w hSw; go_simp; (try with_reducible rfl)
            simp only [List.set]
            refine wpAnyH_ready (rs := [14]) (by kernel_rfl) (by simp) ?_
            refine AllReadyH.cons rfl (fun K hK => ?_) AllReadyH.nil
            refine r_val (by kernel_rfl) (ea_dz rfl) rfl ?_
            simp only [List.set]
            have hgt : w.heap.size + 1 + 1 < w12.heap.size ∧ gn < w12.heap.size ∧ gx < w12.heap.size ∧ go < w12.heap.size ∧ B < w12.heap.size := ⟨lt_blk hS.s.d, lt_blk hS.now, lt_blk hS.x, lt_blk hS.o, lt_blk hS.l.b⟩
            have HR := hS.l.rest
            have ht := heap_alloc_new w12 (.cells dz16 50)
            have hS := hS.up (vzero w12 (.cells dz16 50))
            generalize w12.alloc (.cells dz16 50) = W1 at *
            generalize w12.heap.size = gt at *
            refine hK.out _ _ hS (fun hHeld => ?_)
            clear hK K
            refine wpAnyH_ready (rs := [15]) (by kernel_rfl) (by simp) ?_
            refine AllReadyH.cons rfl (fun K hK => ?_) AllReadyH.nil
            refine r_store (by kernel_rfl) rfl rfl rfl ht hXi rfl hX1 rfl ?_
            have hS := dg_row hS ht hgt X.cells
            have ht := setRow_heap _ _ _ X.cells _ _ ht
            generalize W1.setRow gt X.cells = W3 at *
            refine hK.out _ _ hS (fun hHeld => ?_)
            clear hK K
            refine hH_take (i := 16) (v := .bool C) (d := 17) (l2 := #[true, true, true, true, true, true, true, true, true, true, true, true, true, true, true, true, true, false]) rfl (by kernel_rfl) (by kernel_rfl) (by kernel_rfl) (fun _ _ _ h => h) (by kernel_rfl) ?_ (by assumption) rfl (by kernel_rfl) ?_
            · intro w hSw; go_simp; (try with_reducible rfl)
            simp only [List.set]
            refine hH_take (i := 17) (v := .int .i64 0) (d := 18) (l2 := #[true, true, true, true, true, true, true, true, true, true, true, true, true, true, true, true, true, true]) rfl (by kernel_rfl) (by kernel_rfl) (by kernel_rfl) (fun _ _ _ h => h) (by kernel_rfl) ?_ (by assumption) rfl (by kernel_rfl) ?_
            · intro w hSw; go_simp; (try with_reducible rfl)
            simp only [List.set]
            refine wpAnyH_done (by kernel_rfl) ?_ _
            go_wp2_with (fail)
            go_meet
            case rel => exact ⟨gt, rfl, rfl, rfl, Lib.hid ⟨hS, ht⟩⟩
          · skip
            refine r_val (by kernel_rfl) (ea_dz rfl) rfl ?_
            simp only [List.set]
            have hgt : w.heap.size + 1 + 1 < W0.heap.size ∧ gn < W0.heap.size ∧ gx < W0.heap.size ∧ go < W0.heap.size ∧ B < W0.heap.size := ⟨lt_blk hS.s.d, lt_blk hS.now, lt_blk hS.x, lt_blk hS.o, lt_blk hS.l.b⟩
            have HR := hS.l.rest
            have ht := heap_alloc_new W0 (.cells dz16 50)
            have hS := hS.up (vzero W0 (.cells dz16 50))
            generalize W0.alloc (.cells dz16 50) = W1 at *
            generalize W0.heap.size = gt at *
            refine hK.out _ _ hS (fun hHeld => ?_)
            clear hK K
            refine wpAnyH_ready (rs := [9]) (by kernel_rfl) (by simp) ?_
            refine AllReadyH.cons rfl (fun K hK => ?_) AllReadyH.nil
            go_simp
            go_at_call 25
            (with_reducible refine (cAp _).mono ?_)
            rintro e w12 ⟨rfl, h9⟩
            have hS := hS.up h9
            have ht := vblkn h9 ht
            clear h9
            refine hK.out _ _ hS (fun hHeld => ?_)
            clear hK K
            refine hH_take (i := 10) (v := .tuple #[.agg X.cells, .bool C, .int .i64 0]) (d := 49) (l2 := #[true, true, true, true, true, true, true, true, true, true, true, false, false, false, true, false, false, false]) rfl (by kernel_rfl) (by kernel_rfl) (by kernel_rfl) (fun _ _ _ h => h) (by kernel_rfl) ?_ (by assumption) rfl (by kernel_rfl) ?_
            · intro w hSw; go_simp; (try with_reducible rfl)
            simp only [List.set]
            refine hH_take (i := 11) (v := .agg X.cells) (d := 60) (l2 := #[true, true, true, true, true, true, true, true, true, true, true, true, false, false, true, false, false, false]) rfl (by kernel_rfl) (by kernel_rfl) (by kernel_rfl) (fun _ _ _ h => h) (by kernel_rfl) ?_ (by assumption) rfl (by kernel_rfl) ?_
            · intro w hSw; go_simp; (try with_reducible rfl)
            simp only [List.set]
            refine hH_take (i := 12) (v := .bool C) (d := 61) (l2 := #[true, true, true, true, true, true, true, true, true, true, true, true, true, false, true, false, false, false]) rfl (by kernel_rfl) (by kernel_rfl) (by kernel_rfl) (fun _ _ _ h => h) (by kernel_rfl) ?_ (by assumption) rfl (by kernel_rfl) ?_
            · intro w hSw; go_simp; (try with_reducible rfl)
            simp only [List.set]
            refine hH_take (i := 13) (v := .int .i64 0) (d := 62) (l2 := #[true, true, true, true, true, true, true, true, true, true, true, true, true, true, true, false, false, false]) rfl (by kernel_rfl) (by kernel_rfl) (by kernel_rfl) (fun _ _ _ h => h) (by kernel_rfl) ?_ (by assumption) rfl (by kernel_rfl) ?_
            · intro w hSw; go_simp; (try with_reducible rfl)
            simp only [List.set]
            refine wpAnyH_ready (rs := [15]) (by kernel_rfl) (by simp) ?_
            refine AllReadyH.cons rfl (fun K hK => ?_) AllReadyH.nil
            refine r_store (by kernel_rfl) rfl rfl rfl ht hXi rfl hX1 rfl ?_
            have hS := dg_row hS ht hgt X.cells
            have ht := setRow_heap _ _ _ X.cells _ _ ht
            generalize w12.setRow gt X.cells = W3 at *
            refine hK.out _ _ hS (fun hHeld => ?_)
            clear hK K
            refine hH_take (i := 16) (v := .bool C) (d := 17) (l2 := #[true, true, true, true, true, true, true, true, true, true, true, true, true, true, true, true, true, false]) rfl (by kernel_rfl) (by kernel_rfl) (by kernel_rfl) (fun _ _ _ h => h) (by kernel_rfl) ?_ (by assumption) rfl (by kernel_rfl) ?_
            · intro w hSw; go_simp; (try with_reducible rfl)
            simp only [List.set]
            refine hH_take (i := 17) (v := .int .i64 0) (d := 18) (l2 := #[true, true, true, true, true, true, true, true, true, true, true, true, true, true, true, true, true, true]) rfl (by kernel_rfl) (by kernel_rfl) (by kernel_rfl) (fun _ _ _ h => h) (by kernel_rfl) ?_ (by assumption) rfl (by kernel_rfl) ?_
            · intro w hSw; go_simp; (try with_reducible rfl)
            simp only [List.set]
            refine wpAnyH_done (by kernel_rfl) ?_ _
            go_wp2_with (fail)
            go_meet
            case rel => exact ⟨gt, rfl, rfl, rfl, Lib.hid ⟨hS, ht⟩⟩
        case rest =>
          obtain ⟨gt, rfl, rfl, rfl, HH⟩ := hcut
          clear HG
          rename ∀ (a : Act) (w : World), Code.wp Tryz.prog _ _ a w → _ => hK
          refine hK _ _ ?_
          clear hK cAp HEX
          have hkM : k < M2.length := by rw [HH.out.g.l.len]; exact HKL.out
          rcases HDI.out with ⟨rfl, rfl, hbr⟩ | ⟨rfl, rfl, hbr⟩ | ⟨rfl, rfl, hne, hat, hgood⟩
          · have cO2 : ∀ W, Below w.heap.size w W → LeftH H B M2 W → Calls Tryz.prog 23 #[.agg #[.slice (some ⟨B, 0, none⟩) H.length H.length], .int .i64 (k : Int), .agg #[.string ky.str, .int .i64 ky.sym]] W fun e w' => ∃ U b, e = .returned (.tuple #[.agg (Dq.cells U), .bool b, .int .i64 0]) ∧ Below W.heap.size W w' := fun W hb hL => (HOW.out B M2 W hb hL).mono fun e w' ⟨U, b, h1, _, h3⟩ => ⟨U, b, h1, h3⟩
            have cS := HSM.out B M2 hbr
            have hin1 := HH.out.g.s.below
            have o0 : wc.cell? ⟨go, 0, none⟩ = some (.int .u8 1) := (vcells HH.out.g.o 0).trans rfl; have o5 : wc.cell? ⟨go, 5, none⟩ = some (.bool false) := (vcells HH.out.g.o 5).trans rfl; have oh := HH.out.g.s.q; have ox : wc.cell? ⟨gx, 0, none⟩ = some (.slice (some ⟨B, 0, none⟩) H.length H.length) := (vcells HH.out.g.x 0).trans rfl
            clear HSM HOT HOW HDI hbr
            go_wp2_with (first
              | ((with_reducible refine h1_ld ?_ rfl rfl HH.out.g.x ?_); (rfl))
              | ((with_reducible refine h1_ld ?_ rfl rfl HH.out.g.s.h ?_); (rfl))
              | ((with_reducible refine kk_load ?_ rfl rfl HH.out.g.s.k ?_); (rfl))
              | (go_at_call 23; (with_reducible refine (cO2 _ HH.out.g.s.below HH.out.g.l).mono ?_); rintro e w13 ⟨U, b13, rfl, h9⟩; have hUi := dc_size U; have hU1 := dc_one U; have HH := Lib.hid (HH.out.up h9); clear h9)
              | (refine t_store (cs := U.cells) rfl rfl rfl rfl (heap_alloc_new w13 _) hUi rfl hU1 (vzero w13 _) (Nat.le_refl _) ?_; intro W14 hb14 hW14 hO14 hz14; have HH := Lib.hid (HH.out.up hb14); have HU := Lib.hid hW14; have o0 : W14.cell? ⟨go, 0, none⟩ = some (.int .u8 1) := (vcells HH.out.g.o 0).trans rfl; have o5 : W14.cell? ⟨go, 5, none⟩ = some (.bool false) := (vcells HH.out.g.o 5).trans rfl; have oh := HH.out.g.s.q; have ox : W14.cell? ⟨gx, 0, none⟩ = some (.slice (some ⟨B, 0, none⟩) H.length H.length) := (vcells HH.out.g.x 0).trans rfl; clear hb14 hO14 hz14 hW14)
              | (go_at_call 20; (with_reducible refine (cS _ HH.out.g.s.below HH.out.g.l).mono ?_); rintro e w15 ⟨rfl, h9⟩; have HH := Lib.hid (HH.out.up h9); clear h9))
            go_ret
            exact ⟨rfl, HH.out.g.s.below⟩
          · have cO2 : ∀ W, Below w.heap.size w W → LeftH H B M2 W → Calls Tryz.prog 23 #[.agg #[.slice (some ⟨B, 0, none⟩) H.length H.length], .int .i64 (k : Int), .agg #[.string ky.str, .int .i64 ky.sym]] W fun e w' => ∃ U b, e = .returned (.tuple #[.agg (Dq.cells U), .bool b, .int .i64 0]) ∧ Below W.heap.size W w' := fun W hb hL => (HOW.out B M2 W hb hL).mono fun e w' ⟨U, b, h1, _, h3⟩ => ⟨U, b, h1, h3⟩
            have cS := HSM.out B M2 hbr
            have hin1 := HH.out.g.s.below
            have o0 : wc.cell? ⟨go, 0, none⟩ = some (.int .u8 3) := (vcells HH.out.g.o 0).trans rfl; have o5 : wc.cell? ⟨go, 5, none⟩ = some (.bool false) := (vcells HH.out.g.o 5).trans rfl; have oh := HH.out.g.s.q; have ox : wc.cell? ⟨gx, 0, none⟩ = some (.slice (some ⟨B, 0, none⟩) H.length H.length) := (vcells HH.out.g.x 0).trans rfl
            clear HSM HOT HOW HDI hbr
            go_wp2_with (first
              | ((with_reducible refine h1_ld ?_ rfl rfl HH.out.g.x ?_); (rfl))
              | ((with_reducible refine h1_ld ?_ rfl rfl HH.out.g.s.h ?_); (rfl))
              | ((with_reducible refine kk_load ?_ rfl rfl HH.out.g.s.k ?_); (rfl))
              | (go_at_call 23; (with_reducible refine (cO2 _ HH.out.g.s.below HH.out.g.l).mono ?_); rintro e w13 ⟨U, b13, rfl, h9⟩; have hUi := dc_size U; have hU1 := dc_one U; have HH := Lib.hid (HH.out.up h9); clear h9)
              | (refine t_store (cs := U.cells) rfl rfl rfl rfl (heap_alloc_new w13 _) hUi rfl hU1 (vzero w13 _) (Nat.le_refl _) ?_; intro W14 hb14 hW14 hO14 hz14; have HH := Lib.hid (HH.out.up hb14); have HU := Lib.hid hW14; have o0 : W14.cell? ⟨go, 0, none⟩ = some (.int .u8 3) := (vcells HH.out.g.o 0).trans rfl; have o5 : W14.cell? ⟨go, 5, none⟩ = some (.bool false) := (vcells HH.out.g.o 5).trans rfl; have oh := HH.out.g.s.q; have ox : W14.cell? ⟨gx, 0, none⟩ = some (.slice (some ⟨B, 0, none⟩) H.length H.length) := (vcells HH.out.g.x 0).trans rfl; clear hb14 hO14 hz14 hW14)
              | (go_at_call 20; (with_reducible refine (cS _ HH.out.g.s.below HH.out.g.l).mono ?_); rintro e w15 ⟨rfl, h9⟩; have HH := Lib.hid (HH.out.up h9); clear h9))
            go_ret
            exact ⟨rfl, HH.out.g.s.below⟩
          · have cO2 : ∀ W, Below w.heap.size w W → LeftH H B M2 W → Calls Tryz.prog 23 #[.agg #[.slice (some ⟨B, 0, none⟩) H.length H.length], .int .i64 (k : Int), .agg #[.string ky.str, .int .i64 ky.sym]] W fun e w' => e = .returned (.tuple #[.agg X.cells, .bool true, .int .i64 0]) ∧ Below W.heap.size W w' := fun W hb hL => (HOW.out B M2 W hb hL).mono fun e w' ⟨U, b, h1, h2, h3⟩ => by
              obtain ⟨h4, h5⟩ := h2 hkM
              obtain ⟨_, h6, h7⟩ := hat hkM HKL.out
              rw [h6] at h4
              rw [h7] at h5
              rw [h4, h5] at h1
              exact ⟨h1, h3⟩
            have cF := HOT.out B M2 X hne (fun h3 h4 => (hat h3 h4).1)
            have cG := fun W => same_full hgood W
            have hin1 := HH.out.g.s.below
            have o0 : wc.cell? ⟨go, 0, none⟩ = some (.int .u8 1) := (vcells HH.out.g.o 0).trans rfl; have o5 : wc.cell? ⟨go, 5, none⟩ = some (.bool true) := (vcells HH.out.g.o 5).trans rfl; have oh := HH.out.g.s.q; have ox : wc.cell? ⟨gx, 0, none⟩ = some (.slice (some ⟨B, 0, none⟩) H.length H.length) := (vcells HH.out.g.x 0).trans rfl
            clear HSM HOT HOW HDI hne hat hgood
            go_wp2_with (first
              | ((with_reducible refine h1_ld ?_ rfl rfl HH.out.g.x ?_); (rfl))
              | ((with_reducible refine h1_ld ?_ rfl rfl HH.out.g.s.h ?_); (rfl))
              | ((with_reducible refine kk_load ?_ rfl rfl HH.out.g.s.k ?_); (rfl))
              | (go_at_call 23; (with_reducible refine (cO2 _ HH.out.g.s.below HH.out.g.l).mono ?_); rintro e w13 ⟨rfl, h9⟩; have HH := Lib.hid (HH.out.up h9); clear h9)
              | (refine t_store (cs := X.cells) rfl rfl rfl rfl (heap_alloc_new w13 _) hXi rfl hX1 (vzero w13 _) (Nat.le_refl _) ?_; intro W14 hb14 hW14 hO14 hz14; have HH := Lib.hid (HH.out.up hb14); have HU := Lib.hid hW14; have o0 : W14.cell? ⟨go, 0, none⟩ = some (.int .u8 1) := (vcells HH.out.g.o 0).trans rfl; have o5 : W14.cell? ⟨go, 5, none⟩ = some (.bool true) := (vcells HH.out.g.o 5).trans rfl; have oh := HH.out.g.s.q; have ox : W14.cell? ⟨gx, 0, none⟩ = some (.slice (some ⟨B, 0, none⟩) H.length H.length) := (vcells HH.out.g.x 0).trans rfl; clear hb14 hO14 hz14 hW14)
              | ((with_reducible refine pd_load2 ?_ rfl rfl (dc_of HU.out) ?_); (rfl))
              | ((with_reducible refine pd_load2 ?_ rfl rfl (dc_of HH.out.t) ?_); (rfl))
              | (go_at_call 26; (with_reducible refine (cG _).mono ?_); rintro e w15 ⟨rfl, h9⟩; have HH := Lib.hid (HH.out.up h9); have HU := Lib.hid (vblkn h9 HU.out); clear h9)
              | (go_at_call 27; (with_reducible refine (cF _ HH.out.g.s.below HH.out.g.l).mono ?_); rintro e w16 ⟨rfl, h9⟩; have HH := Lib.hid (HH.out.up h9); clear h9))
            go_ret
            exact ⟨rfl, HH.out.g.s.below⟩
      · have cD := fun W (hb : Below w.heap.size w W) => ring_bad (hI.up hb) hsm (akq_in hky hd (ok_in v0_ok)) (tab_up htab hb) hE
        have hzb : (doE H (akq 6 n ky d v0) != 0) = true := by unfold bne; rw [beq_eq_false_iff_ne.2 hE]; rfl
        obtain ⟨D, was, f, cO⟩ : ∃ (D : Dq) (was : Bool) (f : Int), ∀ W, Below w.heap.size w W → Calls Tryz.prog 23 #[.agg #[.slice A H.length cap], .int .i64 n, .agg #[.string ky.str, .int .i64 ky.sym]] W fun e w' => e = .returned (.tuple #[.agg D.cells, .bool was, .int .i64 f]) ∧ Below W.heap.size W w' := by
          by_cases hof : ofE H n = 0
          · obtain ⟨h1, h2⟩ := orE_zero hof
            have hmay := chk_zero.1 h1
            obtain ⟨k, rfl⟩ := Int.eq_ofNat_of_zero_le (th_zero h2).1
            have hk : k < H.length := by have := (th_zero h2).2; omega
            by_cases hmk : mayKy ky
            · exact ⟨_, _, 0, fun W hb => Own_ok A H cap ky k W (hI.up hb) hsm (tab_up htab hb) hmay hk hmk⟩
            · exact ⟨dz 0, false, 9, fun W hb => Own_key A H cap ky k W (hI.up hb) hsm (tab_up htab hb) hmay hk hmk⟩
          · exact ⟨dz 0, false, ofE H n, fun W hb => Own_bad A H cap ky n W (hI.up hb) hsm (tab_up htab hb) hof⟩
        have hdi := dc_size D
        have hd1 := dc_one D
        generalize doE H (akq 6 n ky d v0) = E at *
        clear hH htab hm hl hI hsm hE hky hd
        go_enter Tryz.func6, Tryz.ntmps6
        go_wp2_with (first
          | (go_at_call 21; (with_reducible refine (cA _ HQ.out.below).mono ?_); rintro e w1 ⟨rfl, h9⟩; have HQ := Lib.hid (HQ.out.up h9); have hq := HQ.out.q; clear h9)
          | ((with_reducible refine h1_ld ?_ rfl rfl HQ.out.h ?_); (rfl))
          | (go_at_call 22; (with_reducible refine (cL _ HQ.out.below).mono ?_); rintro e w2 ⟨rfl, h9⟩; have HQ := Lib.hid (HQ.out.up h9); have hq := HQ.out.q; clear h9)
          | ((with_reducible refine kk_load ?_ rfl rfl HQ.out.k ?_); (rfl))
          | (refine d_load ?_ rfl rfl HQ.out.d ?_; (rfl))
          | (go_at_call 23; (with_reducible refine (cO _ HQ.out.below).mono ?_); rintro e w3 ⟨rfl, h9⟩; have HQ := Lib.hid (HQ.out.up h9); clear h9)
          | (refine t_store (cs := D.cells) rfl rfl rfl rfl (heap_alloc_new w3 _) hdi rfl hd1 (vzero w3 _) (Nat.le_refl _) ?_; intro W4 hb4 hW4 hO4 hz4; have HQ := Lib.hid (HQ.out.up hb4); clear hW4; clear hb4 hO4 hz4)
          | (refine w_run ?_ (ea_dk6 (n := n) (k := ky) (d := d) rfl rfl rfl rfl) ?_; (rfl))
          | (go_at_call 24; (with_reducible refine (cD _ HQ.out.below).mono ?_); rintro e w5 ⟨rfl, h9⟩; have HQ := Lib.hid (HQ.out.up h9); obtain ⟨g1, g2⟩ := vblk2 (w := w5) (Below.refl _ ((w5.alloc (.cells #[.slice none 0 0] 24)).alloc (.cells oz26 55))); have gB : Below w5.heap.size w5 ((w5.alloc (.cells #[.slice none 0 0] 24)).alloc (.cells oz26 55)) := vafter (vzero _ _); clear h9)
          | ((with_reducible refine t_store (cs := #[.slice none 0 0]) rfl rfl rfl rfl g1 (hi1 _) ?_ (hc1 _ rfl) gB (Nat.le_refl _) ?_); (rfl); intro W6 hb6 hW6 hO6 hz6; have g3 := (hO6 (w5.heap.size + 1) (by omega)).trans g2; clear hO6 hz6 hW6)
          | ((with_reducible refine oq_store (q := ozero) rfl rfl rfl rfl g3 rfl hb6 (Nat.le_succ _) ?_); intro W7 hb7 hW7 hO7 hz7; have HQ := Lib.hid (HQ.out.up hb7); clear hW7 hO7 hz7 g3 hb6 g1 g2 gB hb7))
        go_ret
        exact ⟨rfl, HQ.out.below⟩
end Go.Proofs.YtkcikdggfbjedaaGreatDoor.S
/-
  A value that comes in, opened: a struct of four fields.
-/
namespace Go.Proofs.YtkcikdggfbjedaaGreatDoor.S
open Go.ChangeShapes Go.WideShapes Go.Deep Go.RowKit Fl

section
variable {H : Type} {enc : TypeId × Value → H} {w : World} {base : Nat} {spare : Nat → Bool} {held : Bool}
/-- a float, read -/
theorem vread_float {k : FloatKind} {t : TypeId} {fuel : Nat} {cs : List Value} {x : DataW H × List MemPlace} (ht : Tryz.prog.underlying t = some (.float k)) (h : DataW.trod enc Tryz.prog w base spare held fuel t cs = some x) : ∃ b, cs = [.float k b] ∧ (Lit.float k b).wf = true := by
  cases fuel with
  | zero => simp [DataW.trod] at h
  | succ n =>
    unfold DataW.trod at h
    rw [ht] at h
    split at h <;> simp_all
set_option maxRecDepth 100000 in
theorem vopen_cells {n : Nat} {cs : List Value} {y : DataW H × List MemPlace} (hl : cs.length = 4) (ht : DataW.trod enc Tryz.prog w base spare held n 48 cs = some y) :
    ∃ (k x : Nat) (s : ByteArray) (r : Int), cs = [.int .u8 (k : Int), .float .f64 x, .string s, .int .i64 r] ∧ k < 256 ∧ x < 2 ^ 64 ∧ s.size ≤ maxLen ∧ -2 ^ 63 ≤ r ∧ r < 2 ^ 63 := by
  obtain ⟨xs, m, _, _, _, hxl, hf⟩ := DataW.trod_struct Tryz.underlying48 ht
  match cs, hl with
  | [c0, c1, c2, c3], _ =>
    have e5 : Tryz.prog.cellsOf 5 = 1 := by kernel_rfl
    have e3 : Tryz.prog.cellsOf 3 = 1 := by kernel_rfl
    have e9 : Tryz.prog.cellsOf 9 = 1 := by kernel_rfl
    have ef : Tryz.prog.cellsOf 46 = 1 := by kernel_rfl
    match xs, hxl with
    | [y0, y1, y2, y3], _ =>
      have h0 : DataW.trod enc Tryz.prog w base spare held m 5 (([c0, c1, c2, c3].drop 0).take (Tryz.prog.cellsOf 5)) = some y0 := hf 0 _ rfl
      have h1 : DataW.trod enc Tryz.prog w base spare held m 46 (([c0, c1, c2, c3].drop 1).take (Tryz.prog.cellsOf 46)) = some y1 := hf 1 _ rfl
      have h2 : DataW.trod enc Tryz.prog w base spare held m 9 (([c0, c1, c2, c3].drop 2).take (Tryz.prog.cellsOf 9)) = some y2 := hf 2 _ rfl
      have h3 : DataW.trod enc Tryz.prog w base spare held m 3 (([c0, c1, c2, c3].drop 3).take (Tryz.prog.cellsOf 3)) = some y3 := hf 3 _ rfl
      rw [e5] at h0
      rw [ef] at h1
      rw [e9] at h2
      rw [e3] at h3
      obtain ⟨k, k1, _, k2⟩ := DataW.trod_int Tryz.underlying5 h0
      obtain ⟨b, b1, b2⟩ := vread_float Tryz.underlying46 h1
      obtain ⟨s, s1, _, s2⟩ := DataW.trod_string Tryz.underlying9 h2
      obtain ⟨p, p1, _, p2⟩ := DataW.trod_int Tryz.underlying3 h3
      obtain rfl : c0 = .int .u8 k := by simpa using k1
      obtain rfl : c1 = .float .f64 b := by simpa using b1
      obtain rfl : c2 = .string s := by simpa using s1
      obtain rfl : c3 = .int .i64 p := by simpa using p1
      have hk : 0 ≤ k ∧ k ≤ 255 := by
        have h2 : (decide (IntKind.u8.min ≤ k) && decide (k ≤ IntKind.u8.max)) = true := k2
        rw [show IntKind.u8.min = 0 by decide, show IntKind.u8.max = 255 by decide] at h2
        simpa using h2
      have hb : b < 2 ^ 64 := by
        have h2 : decide (b < 2 ^ 64) = true := b2
        simpa using h2
      have hp : -9223372036854775808 ≤ p ∧ p ≤ 9223372036854775807 := by
        have h2 : (decide (IntKind.i64.min ≤ p) && decide (p ≤ IntKind.i64.max)) = true := p2
        rw [show IntKind.i64.min = -9223372036854775808 by decide, show IntKind.i64.max = 9223372036854775807 by decide] at h2
        simpa using h2
      have e : ((k.toNat : Nat) : Int) = k := by omega
      exact ⟨k.toNat, b, s, p, by rw [e], by omega, hb, s2, by omega, by omega⟩
end
end Go.Proofs.YtkcikdggfbjedaaGreatDoor.S
/-
  A descriptor that comes in, opened: a struct of seven fields, three of them structs.
-/
namespace Go.Proofs.YtkcikdggfbjedaaGreatDoor.S
open Go.ChangeShapes Go.WideShapes Go.Deep Go.RowKit Fl

section
variable {H : Type} {enc : TypeId × Value → H} {w : World} {base : Nat} {spare : Nat → Bool} {held : Bool}
theorem dread_bool {t : TypeId} {fuel : Nat} {cs : List Value} {x : DataW H × List MemPlace} (ht : Tryz.prog.underlying t = some .bool) (h : DataW.trod enc Tryz.prog w base spare held fuel t cs = some x) : ∃ b, cs = [.bool b] := by
  cases fuel with
  | zero => simp [DataW.trod] at h
  | succ n =>
    unfold DataW.trod at h
    rw [ht] at h
    split at h <;> simp_all
set_option maxRecDepth 100000 in
theorem open_vq {n : Nat} {cs : List Value} {y : DataW H × List MemPlace} (hl : cs.length = 4) (ht : DataW.trod enc Tryz.prog w base spare held n 48 cs = some y) :
    ∃ v : Vq, cs = [.int .u8 v.k, .float .f64 v.x, .string v.s, .int .i64 v.r] ∧ v.In := by
  obtain ⟨k, x, s, r, e, h1, h2, h3, h4, h5⟩ := vopen_cells hl ht
  exact ⟨⟨(k : Int), x, s, r⟩, e, by dsimp only; omega, by dsimp only; omega, h2, h5⟩
set_option maxRecDepth 100000 in
theorem open_dq {n : Nat} {cs : List Value} {y : DataW H × List MemPlace} (hl : cs.length = 16) (ht : DataW.trod enc Tryz.prog w base spare held n 50 cs = some y) :
    ∃ q : Dq, cs = q.cells.toList ∧ q.In := by
  obtain ⟨xs, m, _, _, _, hxl, hf⟩ := DataW.trod_struct Tryz.underlying50 ht
  match cs, hl with
  | [c0, c1, c2, c3, c4, c5, c6, c7, c8, c9, c10, c11, c12, c13, c14, c15], _ =>
    have e5 : Tryz.prog.cellsOf 5 = 1 := by kernel_rfl
    have eb : Tryz.prog.cellsOf 4 = 1 := by kernel_rfl
    have ev : Tryz.prog.cellsOf 48 = 4 := by kernel_rfl
    match xs, hxl with
    | [y0, y1, y2, y3, y4, y5, y6], _ =>
      have h0 : DataW.trod enc Tryz.prog w base spare held m 5 (([c0, c1, c2, c3, c4, c5, c6, c7, c8, c9, c10, c11, c12, c13, c14, c15].drop 0).take (Tryz.prog.cellsOf 5)) = some y0 := hf 0 _ rfl
      have h1 : DataW.trod enc Tryz.prog w base spare held m 48 (([c0, c1, c2, c3, c4, c5, c6, c7, c8, c9, c10, c11, c12, c13, c14, c15].drop 1).take (Tryz.prog.cellsOf 48)) = some y1 := hf 1 _ rfl
      have h2 : DataW.trod enc Tryz.prog w base spare held m 48 (([c0, c1, c2, c3, c4, c5, c6, c7, c8, c9, c10, c11, c12, c13, c14, c15].drop 5).take (Tryz.prog.cellsOf 48)) = some y2 := hf 2 _ rfl
      have h3 : DataW.trod enc Tryz.prog w base spare held m 48 (([c0, c1, c2, c3, c4, c5, c6, c7, c8, c9, c10, c11, c12, c13, c14, c15].drop 9).take (Tryz.prog.cellsOf 48)) = some y3 := hf 3 _ rfl
      have h4 : DataW.trod enc Tryz.prog w base spare held m 4 (([c0, c1, c2, c3, c4, c5, c6, c7, c8, c9, c10, c11, c12, c13, c14, c15].drop 13).take (Tryz.prog.cellsOf 4)) = some y4 := hf 4 _ rfl
      have h5 : DataW.trod enc Tryz.prog w base spare held m 4 (([c0, c1, c2, c3, c4, c5, c6, c7, c8, c9, c10, c11, c12, c13, c14, c15].drop 14).take (Tryz.prog.cellsOf 4)) = some y5 := hf 5 _ rfl
      have h6 : DataW.trod enc Tryz.prog w base spare held m 4 (([c0, c1, c2, c3, c4, c5, c6, c7, c8, c9, c10, c11, c12, c13, c14, c15].drop 15).take (Tryz.prog.cellsOf 4)) = some y6 := hf 6 _ rfl
      rw [e5] at h0
      rw [ev] at h1 h2 h3
      rw [eb] at h4 h5 h6
      obtain ⟨k, k1, _, k2⟩ := DataW.trod_int Tryz.underlying5 h0
      obtain ⟨a, a1, a2⟩ := open_vq rfl h1
      obtain ⟨b, b1, b2⟩ := open_vq rfl h2
      obtain ⟨c, d1, d2⟩ := open_vq rfl h3
      obtain ⟨p, p1⟩ := dread_bool Tryz.underlying4 h4
      obtain ⟨q, q1⟩ := dread_bool Tryz.underlying4 h5
      obtain ⟨z, z1⟩ := dread_bool Tryz.underlying4 h6
      have hk : 0 ≤ k ∧ k ≤ 255 := by
        have h2 : (decide (IntKind.u8.min ≤ k) && decide (k ≤ IntKind.u8.max)) = true := k2
        rw [show IntKind.u8.min = 0 by decide, show IntKind.u8.max = 255 by decide] at h2
        simpa using h2
      refine ⟨⟨k, a, b, c, p, q, z⟩, ?_, ⟨hk.1, by dsimp only; omega, a2, b2, d2⟩⟩
      simp only [List.drop_succ_cons, List.drop_zero, List.take_succ_cons, List.take_zero, List.cons.injEq, and_true] at k1 a1 b1 d1 p1 q1 z1
      obtain rfl := k1
      obtain ⟨rfl, rfl, rfl, rfl⟩ := a1
      obtain ⟨rfl, rfl, rfl, rfl⟩ := b1
      obtain ⟨rfl, rfl, rfl, rfl⟩ := d1
      obtain rfl := p1
      obtain rfl := q1
      obtain rfl := z1
      rfl
set_option maxRecDepth 100000 in
/-- a descriptor that comes in -/
theorem open_desc {v : Value} {d : DataW H} {p : List MemPlace} (hv : Value.okWide Tryz.prog w .any base 50 v) (h : DataW.Trod enc Tryz.prog w 0 (fun _ => true) true 50 v d p) :
    ∃ q : Dq, v = q.val ∧ q.In := by
  obtain ⟨cs, rfl, hsz⟩ := okWide_struct Tryz.underlying50 hv
  obtain ⟨fuel, hf⟩ := h
  have hcell : Tryz.prog.cellsOf 50 = 16 := by kernel_rfl
  rw [hcell] at hsz
  have hf : DataW.trod enc Tryz.prog w 0 (fun _ => true) true fuel 50 cs.toList = some (d, p) := hf
  obtain ⟨q, e, hq⟩ := open_dq (by simpa using hsz) hf
  exact ⟨q, by unfold Dq.val; congr 1; exact Array.toList_inj.1 e, hq⟩
end
end Go.Proofs.YtkcikdggfbjedaaGreatDoor.S
/-
  Properties, and a slice of them, that come in, opened.
-/
namespace Go.Proofs.YtkcikdggfbjedaaGreatDoor.S
open Go.ChangeShapes Go.WideShapes Go.Deep Go.RowKit Fl

section
variable {H : Type} {enc : TypeId × Value → H} {w : World} {base : Nat} {spare : Nat → Bool} {held : Bool}
theorem plist_of {n : Nat} {Q : Nat → Pq → Prop} (h : ∀ i, i < n → ∃ t, Q i t) : ∃ l : List Pq, l.length = n ∧ ∀ (i : Nat) (hi : i < l.length), Q i l[i] := by
  induction n with
  | zero => exact ⟨[], rfl, fun i hi => by simp at hi⟩
  | succ n ih =>
    obtain ⟨l, hl, hq⟩ := ih fun i hi => h i (by omega)
    obtain ⟨t, ht⟩ := h n (by omega)
    refine ⟨l ++ [t], by simp [hl], fun i hi => ?_⟩
    by_cases c : i < l.length
    · rw [List.getElem_append_left c]; exact hq i c
    · have e : i = l.length := by simp at hi; omega
      subst e
      rw [List.getElem_append_right (Nat.le_refl _)]
      simp only [Nat.sub_self, List.getElem_singleton]
      rw [hl]; exact ht
set_option maxRecDepth 100000 in
theorem popen_cells {n : Nat} {cs : List Value} {y : DataW H × List MemPlace} (hl : cs.length = 18) (ht : DataW.trod enc Tryz.prog w base spare held n 109 cs = some y) : ∃ p : Pq, cs = pcl p ∧ p.In := by
  obtain ⟨xs, m, _, _, _, hxl, hf⟩ := DataW.trod_struct Tryz.underlying109 ht
  have ek : Tryz.prog.cellsOf 45 = 2 := by kernel_rfl
  have ed : Tryz.prog.cellsOf 50 = 16 := by kernel_rfl
  match xs, hxl with
  | [y0, y1], _ =>
    have h0 : DataW.trod enc Tryz.prog w base spare held m 45 ((cs.drop 0).take (Tryz.prog.cellsOf 45)) = some y0 := hf 0 _ rfl
    have h1 : DataW.trod enc Tryz.prog w base spare held m 50 ((cs.drop 2).take (Tryz.prog.cellsOf 50)) = some y1 := hf 1 _ rfl
    rw [ek] at h0
    rw [ed] at h1
    obtain ⟨k, e1, hk⟩ := kopen_cells (by simp [hl]) h0
    obtain ⟨d, e2, hd⟩ := open_dq (by simp [hl]) h1
    refine ⟨⟨k, d⟩, ?_, hk, hd⟩
    have e3 : cs = (cs.drop 0).take 2 ++ (cs.drop 2).take 16 := by
      rw [List.drop_zero, List.take_of_length_le (by simp [hl] : (cs.drop 2).length ≤ 16), List.take_append_drop]
    rw [e3, e1, e2]
    rfl
set_option maxRecDepth 100000 in
theorem popen_one {a : Addr} {n : Nat} {cs : List Value} {x : DataW H × List MemPlace} (hc : w.cells? base a 18 = some cs) (ht : DataW.trod enc Tryz.prog w base spare held n 109 cs = some x) : ∃ p : Pq, p.In ∧ a.block < w.heap.size ∧ ∀ j u, (pcl p)[j]? = some u → w.cell? (a.add j) = some u := by
  obtain ⟨_, hl, hat⟩ := World.cells?_some hc
  obtain ⟨p, rfl, hp⟩ := popen_cells hl ht
  have h0 := hat 0 (by omega)
  refine ⟨p, hp, ?_, fun j u hu => ?_⟩
  · have := klt_of_cell h0
    rw [kblock_add] at this
    exact this
  · have hj : j < 18 := by have := (List.getElem?_eq_some_iff.1 hu).1; rw [pcl_len] at this; exact this
    rw [hat j hj]
    have := (List.getElem?_eq_some_iff.1 hu).2
    simp [← this]
end
end Go.Proofs.YtkcikdggfbjedaaGreatDoor.S
/-
  A heap that comes in, opened.
-/
namespace Go.Proofs.YtkcikdggfbjedaaGreatDoor.S
open Go.ChangeShapes Go.WideShapes Go.Deep Go.RowKit Fl

section
variable {H : Type} {enc : TypeId × Value → H} {w : World} {base : Nat}
set_option maxRecDepth 100000 in
/-- a slice of properties inside of something that comes in -/
theorem iopen_props {v : Value} {fuel : Nat} {y : DataW H × List MemPlace} (hf : DataW.trod enc Tryz.prog w 0 (fun _ => true) true fuel 62 [v] = some y) :
    ∃ (A : Option Addr) (l : List Pq) (cap : Nat), v = .slice A l.length cap ∧ l.length ≤ cap ∧ cap ≤ maxLen ∧ PR w A l ∧ (∀ k ∈ l, k.In) ∧ (A = none → cap = 0) := by
  have hcell : Tryz.prog.cellsOf 109 = 18 := by kernel_rfl
  rcases open_slice Tryz.underlying62 hf with ⟨h1, _⟩ | ⟨a, len', cap', m, n, D, Pl, hcs, _, hl, hm, hmm, _, hi⟩
  · have h1 : [v] = [.slice none 0 0] := h1
    injection h1 with h1
    subst h1
    exact ⟨none, [], 0, rfl, Nat.le_refl _, Nat.zero_le _, pr_nil, (fun t ht => by cases ht), fun _ => rfl⟩
  · have hcs : [v] = [.slice (some a) len' cap'] := hcs
    injection hcs with hcs
    subst hcs
    rw [if_pos rfl] at hmm
    subst hmm
    obtain ⟨l, hll, hq⟩ := plist_of (n := len') (Q := fun i k => k.In ∧ (a.add (i * 18)).block < w.heap.size ∧ ∀ j u, (pcl k)[j]? = some u → w.cell? ((a.add (i * 18)).add j) = some u) fun i hilt => by
      obtain ⟨cs', hc, ht⟩ := hi i (by omega)
      rw [hcell] at hc
      exact popen_one hc ht
    refine ⟨some a, l, _, by rw [hll], by omega, by omega, fun hpos => ?_, fun t ht => ?_, fun h => by cases h⟩
    · have hb := (hq 0 hpos).2.1
      rw [kblock_add] at hb
      refine ⟨a, rfl, hb, fun i hi' j u hu => ?_⟩
      rw [← add_add]
      exact (hq i hi').2.2 j u hu
    · obtain ⟨i, hi'⟩ := List.getElem?_of_mem ht
      obtain ⟨hlt, he⟩ := List.getElem?_eq_some_iff.1 hi'
      rw [← he]; exact (hq i hlt).1
set_option maxRecDepth 100000 in
theorem oopen_cells {n : Nat} {cs : List Value} {y : DataW H × List MemPlace} (hl : cs.length = 18) (ht : DataW.trod enc Tryz.prog w 0 (fun _ => true) true n 64 cs = some y) : ∃ o : Ob, cs = ocl o ∧ o.In ∧ PR w o.pa o.props := by
  obtain ⟨xs, m, _, _, _, hxl, hf⟩ := DataW.trod_struct Tryz.underlying64 ht
  have eb : Tryz.prog.cellsOf 4 = 1 := by kernel_rfl
  have eu : Tryz.prog.cellsOf 5 = 1 := by kernel_rfl
  have es : Tryz.prog.cellsOf 9 = 1 := by kernel_rfl
  have ev : Tryz.prog.cellsOf 48 = 4 := by kernel_rfl
  have ep : Tryz.prog.cellsOf 62 = 1 := by kernel_rfl
  match cs, hl with
  | [c0, c1, c2, c3, c4, c5, c6, c7, c8, c9, c10, c11, c12, c13, c14, c15, c16, c17], _ =>
    match xs, hxl with
    | [y0, y1, y2, y3, y4, y5, y6, y7, y8], _ =>
      have h0 := hf 0 _ rfl
      have h1 := hf 1 _ rfl
      have h2 := hf 2 _ rfl
      have h3 := hf 3 _ rfl
      have h4 := hf 4 _ rfl
      have h5 := hf 5 _ rfl
      have h6 := hf 6 _ rfl
      have h7 := hf 7 _ rfl
      have h8 := hf 8 _ rfl
      replace h0 : DataW.trod enc Tryz.prog w 0 (fun _ => true) true m 5 (([c0, c1, c2, c3, c4, c5, c6, c7, c8, c9, c10, c11, c12, c13, c14, c15, c16, c17].drop 0).take (Tryz.prog.cellsOf 5)) = some y0 := h0
      replace h1 : DataW.trod enc Tryz.prog w 0 (fun _ => true) true m 48 (([c0, c1, c2, c3, c4, c5, c6, c7, c8, c9, c10, c11, c12, c13, c14, c15, c16, c17].drop 1).take (Tryz.prog.cellsOf 48)) = some y1 := h1
      replace h2 : DataW.trod enc Tryz.prog w 0 (fun _ => true) true m 4 (([c0, c1, c2, c3, c4, c5, c6, c7, c8, c9, c10, c11, c12, c13, c14, c15, c16, c17].drop 5).take (Tryz.prog.cellsOf 4)) = some y2 := h2
      replace h3 : DataW.trod enc Tryz.prog w 0 (fun _ => true) true m 62 (([c0, c1, c2, c3, c4, c5, c6, c7, c8, c9, c10, c11, c12, c13, c14, c15, c16, c17].drop 6).take (Tryz.prog.cellsOf 62)) = some y3 := h3
      replace h4 : DataW.trod enc Tryz.prog w 0 (fun _ => true) true m 48 (([c0, c1, c2, c3, c4, c5, c6, c7, c8, c9, c10, c11, c12, c13, c14, c15, c16, c17].drop 7).take (Tryz.prog.cellsOf 48)) = some y4 := h4
      replace h5 : DataW.trod enc Tryz.prog w 0 (fun _ => true) true m 48 (([c0, c1, c2, c3, c4, c5, c6, c7, c8, c9, c10, c11, c12, c13, c14, c15, c16, c17].drop 11).take (Tryz.prog.cellsOf 48)) = some y5 := h5
      replace h6 : DataW.trod enc Tryz.prog w 0 (fun _ => true) true m 9 (([c0, c1, c2, c3, c4, c5, c6, c7, c8, c9, c10, c11, c12, c13, c14, c15, c16, c17].drop 15).take (Tryz.prog.cellsOf 9)) = some y6 := h6
      replace h7 : DataW.trod enc Tryz.prog w 0 (fun _ => true) true m 4 (([c0, c1, c2, c3, c4, c5, c6, c7, c8, c9, c10, c11, c12, c13, c14, c15, c16, c17].drop 16).take (Tryz.prog.cellsOf 4)) = some y7 := h7
      replace h8 : DataW.trod enc Tryz.prog w 0 (fun _ => true) true m 4 (([c0, c1, c2, c3, c4, c5, c6, c7, c8, c9, c10, c11, c12, c13, c14, c15, c16, c17].drop 17).take (Tryz.prog.cellsOf 4)) = some y8 := h8
      rw [eu] at h0
      rw [ev] at h1 h4 h5
      rw [eb] at h2 h7 h8
      rw [ep] at h3
      rw [es] at h6
      obtain ⟨k, k1, _, k2⟩ := DataW.trod_int Tryz.underlying5 h0
      obtain ⟨v1, e1, i1⟩ := open_vq (by rfl) h1
      obtain ⟨b2, e2⟩ := dread_bool Tryz.underlying4 h2
      obtain ⟨A, l, cap, e3, g1, g2, g3, g4, g5⟩ := iopen_props (v := c6) h3
      obtain ⟨v4, e4, i4⟩ := open_vq (by rfl) h4
      obtain ⟨v5, e5, i5⟩ := open_vq (by rfl) h5
      obtain ⟨s, s1, _, s2⟩ := DataW.trod_string Tryz.underlying9 h6
      obtain ⟨b7, e7⟩ := dread_bool Tryz.underlying4 h7
      obtain ⟨b8, e8⟩ := dread_bool Tryz.underlying4 h8
      have hk : 0 ≤ k ∧ k < 256 := by
        have h2 : (decide (IntKind.u8.min ≤ k) && decide (k ≤ IntKind.u8.max)) = true := k2
        rw [show IntKind.u8.min = 0 by decide, show IntKind.u8.max = 255 by decide] at h2
        simp at h2
        omega
      refine ⟨⟨k, v1, b2, A, cap, l, v4, v5, s, b7, b8⟩, ?_, ⟨hk.1, hk.2, i1, i4, i5, s2, g4, g1, by unfold maxLen at g2; show cap < _; omega, g5⟩, g3⟩
      have t1 : [c1, c2, c3, c4] = _ := e1
      have t4 : [c7, c8, c9, c10] = _ := e4
      have t5 : [c11, c12, c13, c14] = _ := e5
      simp only [List.drop, List.take, List.cons.injEq, and_true] at k1 e2 s1 e7 e8
      simp only [List.cons.injEq, and_true] at t1 t4 t5
      obtain ⟨t1a, t1b, t1c, t1d⟩ := t1
      obtain ⟨t4a, t4b, t4c, t4d⟩ := t4
      obtain ⟨t5a, t5b, t5c, t5d⟩ := t5
      subst k1 e2 s1 e7 e8 e3 t1a t1b t1c t1d t4a t4b t4c t4d t5a t5b t5c t5d
      rfl
end
end Go.Proofs.YtkcikdggfbjedaaGreatDoor.S
