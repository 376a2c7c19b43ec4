/-
  The law's own (12): others.
-/
import Derived.Test.YtkcikdggfbjedaaGreatDoorOD30
import Derived.Test.YtkcikdggfbjedaaGreatDoorOD23
import Derived.Test.YtkcikdggfbjedaaGreatDoorOD16
import Derived.Test.YtkcikdggfbjedaaGreatDoorOD27
namespace Go.Proofs.YtkcikdggfbjedaaGreatDoor.S
open Go.RowKit Go.Lib Fl
open Classical

theorem put_get {L : List Pq} {p : Pq} {i : Nat} (hi : i < L.length) (hk : L[i].k ≠ p.k) : (putT L p)[i]? = some L[i] := by
  have hg : L[i]? = some L[i] := List.getElem?_eq_getElem hi
  rcases cut_ways L p.k with h | ⟨A, x, B, e, h1, h2⟩
  · rw [put_none h, List.getElem?_append_left hi, hg]
  · have hput : putT L p = A ++ p :: B := by rw [e]; exact put_mid h2 h1
    rw [← hg, hput]
    by_cases c : i < A.length
    · have e2 : L[i]? = A[i]? := by rw [e, List.getElem?_append_left c]
      rw [e2, List.getElem?_append_left c]
    · by_cases d : i = A.length
      · exfalso
        have e2 : L[i]? = some x := by rw [e, d, List.getElem?_append_right (Nat.le_refl _), Nat.sub_self]; rfl
        rw [hg] at e2
        exact hk (by rw [Option.some.inj e2]; exact h1)
      · have e2 : L[i]? = (x :: B)[i - A.length]? := by rw [e, List.getElem?_append_right (by omega)]
        rw [e2, List.getElem?_append_right (by omega)]
        obtain ⟨q, hq⟩ : ∃ q, i - A.length = q + 1 := ⟨i - A.length - 1, by omega⟩
        rw [hq, List.getElem?_cons_succ, List.getElem?_cons_succ]
theorem put_lens (L : List Pq) (p : Pq) : L.length ≤ (putT L p).length ∧ (putT L p).length ≤ L.length + 1 := by
  rcases cut_ways L p.k with h | ⟨A, x, B, e, h1, h2⟩
  · rw [put_none h]; simp
  · have hput : putT L p = A ++ p :: B := by rw [e]; exact put_mid h2 h1
    have hl := congrArg List.length e
    rw [hput]
    simp at hl ⊢
    omega
/-- others' own blocks -/
structure Ot (w : World) (A : Option Addr) (n cap B cb : Nat) (ky : Ky) (W : World) : Prop where
  below : Below w.heap.size w W
  a : W.heap[w.heap.size]? = some (.cells #[.slice A n cap] 24 (0, 0))
  b : W.heap[w.heap.size + 1]? = some (.cells #[.slice (some ⟨B, 0, none⟩) n cb] 24 (0, 0))
  k : W.heap[w.heap.size + 1 + 1]? = some (.cells #[.string ky.str, .int .i64 ky.sym] 45 (0, 0))
theorem Ot.up {w : World} {A : Option Addr} {n cap B cb : Nat} {ky : Ky} {W W' : World} (h : Ot w A n cap B cb ky W) (hb : Below W.heap.size W W') : Ot w A n cap B cb ky W' := ⟨vb h.below hb, vblkn hb h.a, vblkn hb h.b, vblkn hb h.k⟩
theorem ot_start (w : World) (A : Option Addr) (n cap B cb : Nat) (ky : Ky) : Ot w A n cap B cb ky (((w.alloc (.cells #[.slice A n cap] 24)).alloc (.cells #[.slice (some ⟨B, 0, none⟩) n cb] 24)).alloc (.cells #[.string ky.str, .int .i64 ky.sym] 45)) := by
  obtain ⟨h1, h2⟩ := vblk2 (w := w) (Below.refl _ ((w.alloc (.cells #[.slice A n cap] 24)).alloc (.cells #[.slice (some ⟨B, 0, none⟩) n cb] 24)))
  have hs : ((w.alloc (.cells #[.slice A n cap] 24)).alloc (.cells #[.slice (some ⟨B, 0, none⟩) n cb] 24)).heap.size = w.heap.size + 1 + 1 := by simp
  have h3 := heap_alloc_new ((w.alloc (.cells #[.slice A n cap] 24)).alloc (.cells #[.slice (some ⟨B, 0, none⟩) n cb] 24)) (.cells #[.string ky.str, .int .i64 ky.sym] 45)
  rw [hs] at h3
  exact ⟨vafter (vafter (vzero _ _)), vblkn (vzero _ _) h1, vblkn (vzero _ _) h2, h3⟩
theorem Ot.qa {w : World} {A : Option Addr} {n cap B cb : Nat} {ky : Ky} {W : World} (h : Ot w A n cap B cb ky W) : W.cell? ⟨w.heap.size, 0, none⟩ = some (.slice A n cap) := (vcells h.a 0).trans rfl
theorem Ot.qb {w : World} {A : Option Addr} {n cap B cb : Nat} {ky : Ky} {W : World} (h : Ot w A n cap B cb ky W) : W.cell? ⟨w.heap.size + 1, 0, none⟩ = some (.slice (some ⟨B, 0, none⟩) n cb) := (vcells h.b 0).trans rfl
/-- one object of a heap -/
theorem hl_at {w : World} {a : Addr} {H : List Ob} {cap : Nat} (h : HIn w (some a) H cap) (hp : ∀ o ∈ H, o.props.length ≤ 100000) {i : Nat} (hi : i < H.length) : HL w (some (a.add (i * 18))) [H[i]] := by
  obtain ⟨a2, e, h2, h3, h4⟩ := h.at hi
  obtain rfl := Option.some.inj e
  refine ⟨fun _ => ⟨_, rfl, h2, fun j hj k u hu => ?_⟩, fun o ho => by rw [List.mem_singleton.1 ho]; exact h4, fun o ho => by rw [List.mem_singleton.1 ho]; exact hp _ (List.getElem_mem hi)⟩
  obtain rfl : j = 0 := by simp at hj; omega
  rw [show (a.add (i * 18)).add (0 * 18) = a.add (i * 18) from by rw [Nat.zero_mul]; simp [Addr.add]]
  exact of_back h3 k u hu
section
variable {o : Oper} {a : Act} {w : World} {x y : Operand}
theorem ex_kn0 {s : ByteArray} {m : Int} (ho : o.op = .binOp .neq 45 x y 45) (hx : a.eval x = .agg #[.string s, .int .i64 m]) (hy : a.eval y = .agg #[.string s, .int .i64 m]) : (execOp a.eval o).run Tryz.prog w = .ok (.value (.bool false)) w := by
  have := ex_kneq (w := w) (p := ⟨s, m⟩) (q := ⟨s, m⟩) ho hx hy
  rw [eqK_iff.2 rfl] at this
  exact this
end
set_option maxHeartbeats 8000000 in
set_option maxRecDepth 1000000 in
theorem others_o (a : Addr) (B : Nat) (H M : List Ob) (cap cb n : Nat) (ky : Ky) (p : Pq) (w : World) (hA : HIn w (some a) H cap) (hsA : ∀ o ∈ H, o.props.length ≤ 100000) (hB : HIn w (some ⟨B, 0, none⟩) M cb) (hsB : ∀ o ∈ M, o.props.length ≤ 100000)
    (hl : M.length = H.length) (hn : n < H.length) (hne : ∀ i (h1 : i < M.length) (h2 : i < H.length), i ≠ n → M[i].bare = H[i].bare) (hp : ∀ h : n < M.length, M[n].props = putT H[n].props p) (hpk : p.k = ky) (hT : TabOk H[n].props) :
    Calls Tryz.prog 27 #[.agg #[.slice (some a) H.length cap], .agg #[.slice (some ⟨B, 0, none⟩) H.length cb], .int .i64 (n : Int), .agg #[.string ky.str, .int .i64 ky.sym]] w fun e w' => e = .returned (.bool true) ∧ Below w.heap.size w w' := by
  have HS := Lib.hid (ot_start w (some a) H.length cap B cb ky)
  have hfew := hA.few
  have hnz : (n : Int) < (H.length : Int) := by omega
  have hn0 : (0 : Int) ≤ (n : Int) := by omega
  have hrA := hA.room
  have hrB := hB.room
  have hcA := hA.cap63
  have hcB := hB.cap63
  rw [hl] at hrB
  have hnM : n < M.length := by omega
  obtain ⟨L, hL⟩ : ∃ L, L = H[n].props := ⟨_, rfl⟩
  obtain ⟨P, hP⟩ : ∃ P, P = M[n].props := ⟨_, rfl⟩
  have hPL : P = putT L p := by rw [hP, hp hnM, hL]
  have hLf : L.length ≤ 100000 := by rw [hL]; exact hsA _ (List.getElem_mem hn)
  obtain ⟨hpl1, hpl2⟩ : L.length ≤ P.length ∧ P.length ≤ L.length + 1 := by rw [hPL]; exact put_lens L p
  rw [← hL] at hT
  have hLin : ∀ q ∈ L, q.In := by rw [hL]; exact (hA.inn _ (List.getElem_mem hn)).props
  have hPA : PR w H[n].pa L := by rw [hL]; exact (hA.at hn).choose_spec.2.2.2
  have hPB : PR w M[n].pa P := by rw [hP]; exact (hB.at hnM).choose_spec.2.2.2
  obtain ⟨pa, hpa⟩ : ∃ x, x = H[n].pa := ⟨_, rfl⟩
  obtain ⟨ca, hca⟩ : ∃ x, x = H[n].pc := ⟨_, rfl⟩
  obtain ⟨pb, hpb⟩ : ∃ x, x = M[n].pa := ⟨_, rfl⟩
  obtain ⟨cc, hcc⟩ : ∃ x, x = M[n].pc := ⟨_, rfl⟩
  have hoA : ∀ W, Below w.heap.size w W → W.cell? ⟨(a.add (n * 18)).block, (a.add (n * 18)).off + 6, none⟩ = some (.slice pa L.length ca) := fun W hb => by
    obtain ⟨a2, e, h2, h3, _⟩ := hA.at hn
    obtain rfl := Option.some.inj e
    have := (h3.up hb).props
    rw [← hL, ← hpa, ← hca] at this
    exact this
  have hoB : ∀ W, Below w.heap.size w W → W.cell? ⟨B, n * 18 + 6, none⟩ = some (.slice pb P.length cc) := fun W hb => by
    obtain ⟨a2, e, h2, h3, _⟩ := hB.at hnM
    obtain rfl := Option.some.inj e
    have := (h3.up hb).props
    rw [← hP, ← hpb, ← hcc] at this
    rw [Addr.add_mid, Nat.zero_add] at this
    exact this
  rw [← hpa] at hPA
  rw [← hpb] at hPB
  have hput : ∀ i (h : i < L.length), L[i].k ≠ ky → P[i]? = some L[i] := fun i h hk => by rw [hPL]; exact put_get h (by rw [hpk]; exact hk)
  have cS : ∀ i, i < H.length → i ≠ n → ∀ W, Below w.heap.size w W → ∀ c1 c2, Calls Tryz.prog 20 #[.agg #[.slice (some (a.add (i * 18))) 1 c1], .agg #[.slice (some ⟨B, i * 18, none⟩) 1 c2]] W fun e w' => e = .returned (.bool true) ∧ Below W.heap.size W w' := fun i hi hin W hb c1 c2 => by
    have hiM : i < M.length := by omega
    have h1 := (hl_at hA hsA hi).up hb
    have h2 := (hl_at hB hsB hiM).up hb
    rw [Addr.add_mid, Nat.zero_add] at h2
    refine same_hl 1 _ _ c1 c2 W h1 h2 ?_ rfl (by omega)
    show [H[i].bare] = [M[i].bare]
    rw [hne i hiM hi hin]
  have cD : ∀ i (h : i < L.length) W, Calls Tryz.prog 26 #[.agg L[i].d.cells, .agg L[i].d.cells] W fun e w' => e = .returned (.bool true) ∧ Below W.heap.size W w' := fun i h W => same_full (ok_good (hT.all _ (List.getElem_mem h)) (hLin _ (List.getElem_mem h))) W
  have HPU := Lib.hid hput
  have HCD := Lib.hid cD
  have HCS := Lib.hid cS
  have HPA := Lib.hid hPA
  have HPB := Lib.hid hPB
  have HOA := Lib.hid hoA
  have HOB := Lib.hid hoB
  clear hput cD cS hPA hPB hoA hoB hA hsA hB hsB hl hne hp hpk hT hL hP hPL hLin hpa hca hpb hcc hn hnM
  generalize H.length = N at *
  go_enter Tryz.func27, Tryz.ntmps27
  go_wp2
  go_loopg [9] N (fun kx s9 wr => ∃ i : Nat, s9 = .int .i64 (i : Int) ∧ i + kx = N ∧ Hid (Ot w (some a) N cap B cb ky wr))
  case atStart => exact ⟨0, rfl, by omega, HS⟩
  case round =>
    clear HS
    obtain ⟨i, rfl, hik, HR⟩ := hrel
    have HS := Lib.hid HR.out
    clear HR
    have hqa := HS.out.qa
    have hqb := HS.out.qb
    cases gk with
    | succ kx =>
      have hi : i < N := by omega
      have hiz : (i : Int) < (N : Int) := by omega
      have hi0 : (0 : Int) ≤ (i : Int) := by omega
      have hi5 : (i : Int) ≤ 5000 := by omega
      go_upto_region 4 with (fail)
      have hS : Ot w (some a) N cap B cb ky (wr.drew) := HS.out.up (Below.refl _ _).drew
      refine wp_region_held_drew (S := Ot w (some a) N cap B cb ky) (by kernel_rfl) hS (fun hHeld => ?_)
      clear HS hqa hqb
      by_cases hin : i = n
      · have hinb : (i : Int) = (n : Int) := by omega
        subst hin
        refine hH_take (i := 0) (v := .int .i64 (i : Int)) (d := 21) (l2 := #[true, false, false, false, false, false, false, false, false, false, false, false, false, false, false, false, false, false, false, false, false]) rfl (by kernel_rfl) (by kernel_rfl) (by kernel_rfl) (fun _ _ _ h => h) (by kernel_rfl) ?_ (by assumption) rfl (by kernel_rfl) ?_
        · intro w hSw; go_simp; (try with_reducible rfl)
        simp only [List.set]
        refine hH_take (i := 1) (v := .int .i64 (i : Int)) (d := 22) (l2 := #[true, true, false, false, false, false, false, false, false, false, false, false, false, false, false, false, false, false, false, false, false]) rfl (by kernel_rfl) (by kernel_rfl) (by kernel_rfl) (fun _ _ _ h => h) (by kernel_rfl) ?_ (by assumption) rfl (by kernel_rfl) ?_
        · intro w hSw; go_simp; (try with_reducible rfl)
        simp only [List.set]
        refine hH_take (i := 2) (v := .bool false) (d := 23) (l2 := #[true, true, true, false, false, false, false, false, false, false, false, false, false, false, false, false, false, false, false, false, false]) rfl (by kernel_rfl) (by kernel_rfl) (by kernel_rfl) (fun _ _ _ h => h) (by kernel_rfl) ?_ (by assumption) rfl (by kernel_rfl) ?_
        · intro w hSw; go_simp; (try with_reducible rfl)
        simp only [List.set]
        refine hH_take (i := 3) (v := .bool false) (d := 24) (l2 := #[true, true, true, true, false, false, false, false, false, false, false, false, false, false, false, false, false, false, false, false, false]) rfl (by kernel_rfl) (by kernel_rfl) (by kernel_rfl) (fun _ _ _ h => h) (by kernel_rfl) ?_ (by assumption) rfl (by kernel_rfl) ?_
        · intro w hSw; go_simp; (try with_reducible rfl)
        simp only [List.set]
        refine hH_drop (i := 4) (d := 25) (l2 := #[true, true, true, true, true, false, false, false, false, false, false, false, false, false, false, false, false, false, false, false, false]) rfl (by kernel_rfl) (by kernel_rfl) (by kernel_rfl) (fun _ _ _ h => h) (by kernel_rfl) (by assumption) rfl (by kernel_rfl) ?_
        simp only [List.set]
        refine hH_drop (i := 5) (d := 26) (l2 := #[true, true, true, true, true, true, false, false, false, false, false, false, false, false, false, false, false, false, false, false, false]) rfl (by kernel_rfl) (by kernel_rfl) (by kernel_rfl) (fun _ _ _ h => h) (by kernel_rfl) (by assumption) rfl (by kernel_rfl) ?_
        simp only [List.set]
        refine hH_drop (i := 6) (d := 27) (l2 := #[true, true, true, true, true, true, true, false, false, false, false, false, false, false, false, false, false, false, false, false, false]) rfl (by kernel_rfl) (by kernel_rfl) (by kernel_rfl) (fun _ _ _ h => h) (by kernel_rfl) (by assumption) rfl (by kernel_rfl) ?_
        simp only [List.set]
        refine hH_drop (i := 7) (d := 28) (l2 := #[true, true, true, true, true, true, true, true, false, false, false, false, false, false, false, false, false, false, false, false, false]) rfl (by kernel_rfl) (by kernel_rfl) (by kernel_rfl) (fun _ _ _ h => h) (by kernel_rfl) (by assumption) rfl (by kernel_rfl) ?_
        simp only [List.set]
        refine hH_drop (i := 8) (d := 29) (l2 := #[true, true, true, true, true, true, true, true, true, false, false, false, false, false, false, false, false, false, false, false, false]) rfl (by kernel_rfl) (by kernel_rfl) (by kernel_rfl) (fun _ _ _ h => h) (by kernel_rfl) (by assumption) rfl (by kernel_rfl) ?_
        simp only [List.set]
        refine hH_drop (i := 9) (d := 30) (l2 := #[true, true, true, true, true, true, true, true, true, true, false, false, false, false, false, false, false, false, false, false, false]) rfl (by kernel_rfl) (by kernel_rfl) (by kernel_rfl) (fun _ _ _ h => h) (by kernel_rfl) (by assumption) rfl (by kernel_rfl) ?_
        simp only [List.set]
        refine hH_drop (i := 10) (d := 31) (l2 := #[true, true, true, true, true, true, true, true, true, true, true, false, false, false, false, false, false, false, false, false, false]) rfl (by kernel_rfl) (by kernel_rfl) (by kernel_rfl) (fun _ _ _ h => h) (by kernel_rfl) (by assumption) rfl (by kernel_rfl) ?_
        simp only [List.set]
        refine hH_drop (i := 11) (d := 32) (l2 := #[true, true, true, true, true, true, true, true, true, true, true, true, false, false, false, false, false, false, false, false, false]) rfl (by kernel_rfl) (by kernel_rfl) (by kernel_rfl) (fun _ _ _ h => h) (by kernel_rfl) (by assumption) rfl (by kernel_rfl) ?_
        simp only [List.set]
        refine hH_drop (i := 12) (d := 33) (l2 := #[true, true, true, true, true, true, true, true, true, true, true, true, true, false, false, false, false, false, false, false, false]) rfl (by kernel_rfl) (by kernel_rfl) (by kernel_rfl) (fun _ _ _ h => h) (by kernel_rfl) (by assumption) rfl (by kernel_rfl) ?_
        simp only [List.set]
        refine hH_drop (i := 13) (d := 34) (l2 := #[true, true, true, true, true, true, true, true, true, true, true, true, true, true, false, false, false, false, false, false, false]) rfl (by kernel_rfl) (by kernel_rfl) (by kernel_rfl) (fun _ _ _ h => h) (by kernel_rfl) (by assumption) rfl (by kernel_rfl) ?_
        simp only [List.set]
        refine hH_drop (i := 14) (d := 35) (l2 := #[true, true, true, true, true, true, true, true, true, true, true, true, true, true, true, false, false, false, false, false, false]) rfl (by kernel_rfl) (by kernel_rfl) (by kernel_rfl) (fun _ _ _ h => h) (by kernel_rfl) (by assumption) rfl (by kernel_rfl) ?_
        simp only [List.set]
        refine hH_drop (i := 15) (d := 36) (l2 := #[true, true, true, true, true, true, true, true, true, true, true, true, true, true, true, true, false, false, false, false, false]) rfl (by kernel_rfl) (by kernel_rfl) (by kernel_rfl) (fun _ _ _ h => h) (by kernel_rfl) (by assumption) rfl (by kernel_rfl) ?_
        simp only [List.set]
        refine hH_drop (i := 16) (d := 37) (l2 := #[true, true, true, true, true, true, true, true, true, true, true, true, true, true, true, true, true, false, false, false, false]) rfl (by kernel_rfl) (by kernel_rfl) (by kernel_rfl) (fun _ _ _ h => h) (by kernel_rfl) (by assumption) rfl (by kernel_rfl) ?_
        simp only [List.set]
        refine hH_drop (i := 17) (d := 38) (l2 := #[true, true, true, true, true, true, true, true, true, true, true, true, true, true, true, true, true, true, false, false, false]) rfl (by kernel_rfl) (by kernel_rfl) (by kernel_rfl) (fun _ _ _ h => h) (by kernel_rfl) (by assumption) rfl (by kernel_rfl) ?_
        simp only [List.set]
        refine hH_drop (i := 18) (d := 39) (l2 := #[true, true, true, true, true, true, true, true, true, true, true, true, true, true, true, true, true, true, true, false, false]) rfl (by kernel_rfl) (by kernel_rfl) (by kernel_rfl) (fun _ _ _ h => h) (by kernel_rfl) (by assumption) rfl (by kernel_rfl) ?_
        simp only [List.set]
        refine hH_drop (i := 19) (d := 40) (l2 := #[true, true, true, true, true, true, true, true, true, true, true, true, true, true, true, true, true, true, true, true, false]) rfl (by kernel_rfl) (by kernel_rfl) (by kernel_rfl) (fun _ _ _ h => h) (by kernel_rfl) (by assumption) rfl (by kernel_rfl) ?_
        simp only [List.set]
        refine hH_take (i := 20) (v := .bool false) (d := 41) (l2 := #[true, true, true, true, true, true, true, true, true, true, true, true, true, true, true, true, true, true, true, true, true]) rfl (by kernel_rfl) (by kernel_rfl) (by kernel_rfl) (fun _ _ _ h => h) (by kernel_rfl) ?_ (by assumption) rfl (by kernel_rfl) ?_
        · intro w hSw; go_simp; (try with_reducible rfl)
        simp only [List.set]
        refine wpAnyH_done (by kernel_rfl) ?_ _
        have HS := Lib.hid hS
        go_wp2
        go_roundg kx
        case measure => omega
        case rel => exact ⟨i + 1, rfl, by omega, HS⟩
      · have cS := HCS.out i hi hin
        have hinz : ¬ (i : Int) = (n : Int) := by omega
        have hcap1 : 0 ≤ (i : Int) + 1 ∧ (i : Int) + 1 ≤ (cap : Int) := by omega
        have hcb1 : 0 ≤ (i : Int) + 1 ∧ (i : Int) + 1 ≤ (cb : Int) := by omega
        have hcne : ¬ cap = i := by omega
        have hcne2 : ¬ cb = i := by omega
        refine hH_take (i := 0) (v := .int .i64 (i : Int)) (d := 21) (l2 := #[true, false, false, false, false, false, false, false, false, false, false, false, false, false, false, false, false, false, false, false, false]) rfl (by kernel_rfl) (by kernel_rfl) (by kernel_rfl) (fun _ _ _ h => h) (by kernel_rfl) ?_ (by assumption) rfl (by kernel_rfl) ?_
        · intro w hSw; go_simp; (try with_reducible rfl)
        simp only [List.set]
        refine hH_take (i := 1) (v := .int .i64 (n : Int)) (d := 22) (l2 := #[true, true, false, false, false, false, false, false, false, false, false, false, false, false, false, false, false, false, false, false, false]) rfl (by kernel_rfl) (by kernel_rfl) (by kernel_rfl) (fun _ _ _ h => h) (by kernel_rfl) ?_ (by assumption) rfl (by kernel_rfl) ?_
        · intro w hSw; go_simp; (try with_reducible rfl)
        simp only [List.set]
        refine hH_take (i := 2) (v := .bool true) (d := 23) (l2 := #[true, true, true, false, false, false, false, false, false, false, false, false, false, false, false, false, false, false, false, false, false]) rfl (by kernel_rfl) (by kernel_rfl) (by kernel_rfl) (fun _ _ _ h => h) (by kernel_rfl) ?_ (by assumption) rfl (by kernel_rfl) ?_
        · intro w hSw; go_simp; (try with_reducible rfl)
        simp only [List.set]
        refine hH_take (i := 3) (v := .bool true) (d := 24) (l2 := #[true, true, true, true, false, false, false, false, false, false, false, false, false, false, false, false, false, false, false, false, false]) rfl (by kernel_rfl) (by kernel_rfl) (by kernel_rfl) (fun _ _ _ h => h) (by kernel_rfl) ?_ (by assumption) rfl (by kernel_rfl) ?_
        · intro w hSw; go_simp; (try with_reducible rfl)
        simp only [List.set]
        refine hH_take (i := 4) (v := .pointer (some ⟨w.heap.size, 0, none⟩)) (d := 25) (l2 := #[true, true, true, true, true, false, false, false, false, false, false, false, false, false, false, false, false, false, false, false, false]) rfl (by kernel_rfl) (by kernel_rfl) (by kernel_rfl) (fun _ _ _ h => h) (by kernel_rfl) ?_ (by assumption) rfl (by kernel_rfl) ?_
        · intro w hSw; go_simp; (try with_reducible rfl)
        simp only [List.set]
        refine hH_take (i := 5) (v := .slice (some a) N cap) (d := 26) (l2 := #[true, true, true, true, true, true, false, false, false, false, false, false, false, false, false, false, false, false, false, false, false]) rfl (by kernel_rfl) (by kernel_rfl) (by kernel_rfl) (fun _ _ _ h => h) (by kernel_rfl) ?_ (by assumption) rfl (by kernel_rfl) ?_
        · intro w hSw; have q := hSw.qa; go_simp; (try with_reducible rfl)
        simp only [List.set]
        refine hH_take (i := 6) (v := .int .i64 (i : Int)) (d := 27) (l2 := #[true, true, true, true, true, true, true, false, false, false, false, false, false, false, false, false, false, false, false, false, false]) rfl (by kernel_rfl) (by kernel_rfl) (by kernel_rfl) (fun _ _ _ h => h) (by kernel_rfl) ?_ (by assumption) rfl (by kernel_rfl) ?_
        · intro w hSw; go_simp; (try with_reducible rfl)
        simp only [List.set]
        refine hH_take (i := 7) (v := .int .i64 (i : Int)) (d := 28) (l2 := #[true, true, true, true, true, true, true, true, false, false, false, false, false, false, false, false, false, false, false, false, false]) rfl (by kernel_rfl) (by kernel_rfl) (by kernel_rfl) (fun _ _ _ h => h) (by kernel_rfl) ?_ (by assumption) rfl (by kernel_rfl) ?_
        · intro w hSw; go_simp; (try with_reducible rfl)
        simp only [List.set]
        refine hH_take (i := 8) (v := .int .i64 ((i : Int) + 1)) (d := 29) (l2 := #[true, true, true, true, true, true, true, true, true, false, false, false, false, false, false, false, false, false, false, false, false]) rfl (by kernel_rfl) (by kernel_rfl) (by kernel_rfl) (fun _ _ _ h => h) (by kernel_rfl) ?_ (by assumption) rfl (by kernel_rfl) ?_
        · intro w hSw; go_simp; (try exact IntWalk.i64_in _ (by omega)); (try with_reducible rfl)
        simp only [List.set]
        refine hH_take (i := 9) (v := .slice (some (a.add (i * 18))) 1 (cap - i)) (d := 30) (l2 := #[true, true, true, true, true, true, true, true, true, true, false, false, false, false, false, false, false, false, false, false, false]) rfl (by kernel_rfl) (by kernel_rfl) (by kernel_rfl) (fun _ _ _ h => h) (by kernel_rfl) ?_ (by assumption) rfl (by kernel_rfl) ?_
        · intro w hSw; go_simp; (try rw [if_pos hcap1]); (try rw [if_neg hcne]); (try with_reducible rfl)
        simp only [List.set]
        refine hH_take (i := 10) (v := .agg #[.slice (some (a.add (i * 18))) 1 (cap - i)]) (d := 31) (l2 := #[true, true, true, true, true, true, true, true, true, true, true, false, false, false, false, false, false, false, false, false, false]) rfl (by kernel_rfl) (by kernel_rfl) (by kernel_rfl) (fun _ _ _ h => h) (by kernel_rfl) ?_ (by assumption) rfl (by kernel_rfl) ?_
        · intro w hSw; go_simp; (try with_reducible rfl)
        simp only [List.set]
        refine hH_take (i := 11) (v := .pointer (some ⟨w.heap.size + 1, 0, none⟩)) (d := 32) (l2 := #[true, true, true, true, true, true, true, true, true, true, true, true, false, false, false, false, false, false, false, false, false]) rfl (by kernel_rfl) (by kernel_rfl) (by kernel_rfl) (fun _ _ _ h => h) (by kernel_rfl) ?_ (by assumption) rfl (by kernel_rfl) ?_
        · intro w hSw; go_simp; (try with_reducible rfl)
        simp only [List.set]
        refine hH_take (i := 12) (v := .slice (some ⟨B, 0, none⟩) N cb) (d := 33) (l2 := #[true, true, true, true, true, true, true, true, true, true, true, true, true, false, false, false, false, false, false, false, false]) rfl (by kernel_rfl) (by kernel_rfl) (by kernel_rfl) (fun _ _ _ h => h) (by kernel_rfl) ?_ (by assumption) rfl (by kernel_rfl) ?_
        · intro w hSw; have q := hSw.qb; go_simp; (try with_reducible rfl)
        simp only [List.set]
        refine hH_take (i := 13) (v := .int .i64 (i : Int)) (d := 34) (l2 := #[true, true, true, true, true, true, true, true, true, true, true, true, true, true, false, false, false, false, false, false, false]) rfl (by kernel_rfl) (by kernel_rfl) (by kernel_rfl) (fun _ _ _ h => h) (by kernel_rfl) ?_ (by assumption) rfl (by kernel_rfl) ?_
        · intro w hSw; go_simp; (try with_reducible rfl)
        simp only [List.set]
        refine hH_take (i := 14) (v := .int .i64 (i : Int)) (d := 35) (l2 := #[true, true, true, true, true, true, true, true, true, true, true, true, true, true, true, false, false, false, false, false, false]) rfl (by kernel_rfl) (by kernel_rfl) (by kernel_rfl) (fun _ _ _ h => h) (by kernel_rfl) ?_ (by assumption) rfl (by kernel_rfl) ?_
        · intro w hSw; go_simp; (try with_reducible rfl)
        simp only [List.set]
        refine hH_take (i := 15) (v := .int .i64 ((i : Int) + 1)) (d := 36) (l2 := #[true, true, true, true, true, true, true, true, true, true, true, true, true, true, true, true, false, false, false, false, false]) rfl (by kernel_rfl) (by kernel_rfl) (by kernel_rfl) (fun _ _ _ h => h) (by kernel_rfl) ?_ (by assumption) rfl (by kernel_rfl) ?_
        · intro w hSw; go_simp; (try exact IntWalk.i64_in _ (by omega)); (try with_reducible rfl)
        simp only [List.set]
        refine hH_take (i := 16) (v := .slice (some ⟨B, i * 18, none⟩) 1 (cb - i)) (d := 37) (l2 := #[true, true, true, true, true, true, true, true, true, true, true, true, true, true, true, true, true, false, false, false, false]) rfl (by kernel_rfl) (by kernel_rfl) (by kernel_rfl) (fun _ _ _ h => h) (by kernel_rfl) ?_ (by assumption) rfl (by kernel_rfl) ?_
        · intro w hSw; go_simp; (try rw [if_pos hcb1]); (try rw [if_neg hcne2]); (try with_reducible rfl)
        simp only [List.set]
        refine hH_take (i := 17) (v := .agg #[.slice (some ⟨B, i * 18, none⟩) 1 (cb - i)]) (d := 38) (l2 := #[true, true, true, true, true, true, true, true, true, true, true, true, true, true, true, true, true, true, false, false, false]) rfl (by kernel_rfl) (by kernel_rfl) (by kernel_rfl) (fun _ _ _ h => h) (by kernel_rfl) ?_ (by assumption) rfl (by kernel_rfl) ?_
        · intro w hSw; go_simp; (try with_reducible rfl)
        simp only [List.set]
        refine wpAnyH_ready (rs := [18]) (by kernel_rfl) (by simp) ?_
        refine AllReadyH.cons rfl (fun K hK => ?_) AllReadyH.nil
        go_simp
        go_at_call 20
        (with_reducible refine (cS _ hS.below _ _).mono ?_)
        rintro e wc ⟨rfl, h1⟩
        have hS := hS.up h1
        clear h1
        refine hK.out _ _ hS (fun hHeld => ?_)
        clear hK K
        refine hH_take (i := 19) (v := .bool false) (d := 40) (l2 := #[true, true, true, true, true, true, true, true, true, true, true, true, true, true, true, true, true, true, true, true, false]) rfl (by kernel_rfl) (by kernel_rfl) (by kernel_rfl) (fun _ _ _ h => h) (by kernel_rfl) ?_ (by assumption) rfl (by kernel_rfl) ?_
        · intro w hSw; go_simp; (try with_reducible rfl)
        simp only [List.set]
        refine hH_take (i := 20) (v := .bool false) (d := 41) (l2 := #[true, true, true, true, true, true, true, true, true, true, true, true, true, true, true, true, true, true, true, true, true]) rfl (by kernel_rfl) (by kernel_rfl) (by kernel_rfl) (fun _ _ _ h => h) (by kernel_rfl) ?_ (by assumption) rfl (by kernel_rfl) ?_
        · intro w hSw; go_simp; (try with_reducible rfl)
        simp only [List.set]
        refine wpAnyH_done (by kernel_rfl) ?_ _
        have HS := Lib.hid hS
        go_wp2
        go_roundg kx
        case measure => omega
        case rel => exact ⟨i + 1, rfl, by omega, HS⟩
    | zero =>
      clear HCS
      go_upto_region 6 with (fail)
      have hca := HOA.out _ HS.out.below
      have hcb := HOB.out _ HS.out.below
      go_quiet (fail)
      go_wp2
      generalize decide (i < N) = b18 at *
      clear hca hcb hqa hqb HOA HOB
      go_loopg [12, 13] L.length (fun kx s12 s13 wr => ∃ i : Nat, s12 = .int .i64 (i : Int) ∧ s13 = .int .i64 (i : Int) ∧ i + kx = L.length ∧ Hid (Ot w (some a) N cap B cb ky wr))
      case atStart => exact ⟨0, rfl, rfl, by omega, Lib.hid (HS.out.up (tdrewN (Below.refl _ _) _))⟩
      case round =>
        clear HS
        obtain ⟨i, rfl, rfl, hik, HR⟩ := hrel
        have HS := Lib.hid HR.out
        clear HR
        cases gk with
        | zero =>
          have hadd : IntKind.i64.wrap ((L.length : Int) + 1) = (L.length : Int) + 1 := IntWalk.i64_in _ (by omega)
          have hle : (P.length : Int) ≤ (L.length : Int) + 1 := by omega
          go_wp2
          go_ret
          exact ⟨rfl, HS.out.below⟩
        | succ kx =>
          have hi : i < L.length := by omega
          have hiz : (i : Int) < (L.length : Int) := by omega
          have hi0 : (0 : Int) ≤ (i : Int) := by omega
          have hi5 : (i : Int) ≤ 100000 := by omega
          have hiP : i < P.length := by omega
          have hiPz : (i : Int) < (P.length : Int) := by omega
          have hadd : IntKind.i64.wrap ((i : Int) + 1) = (i : Int) + 1 := IntWalk.i64_in _ (by omega)
          obtain ⟨a1, rfl, _, _⟩ := HPA.out (by omega)
          obtain ⟨a3, rfl, _, _⟩ := HPB.out (by omega)
          have cA : ∀ W, Below w.heap.size w W → W.cell? (a1.add (i * 18)) = some (.string L[i].k.str) ∧ W.cell? ⟨(a1.add (i * 18)).block, (a1.add (i * 18)).off + 1, none⟩ = some (.int .i64 L[i].k.sym) ∧ (∀ j u, L[i].d.cells.toList[j]? = some u → W.cell? ((⟨(a1.add (i * 18)).block, (a1.add (i * 18)).off + 2, none⟩ : Addr).add j) = some u) := fun W hb => by
            have h1 := pr_key (pr_up HPA.out hb) hi
            have h2 := pr_desc (pr_up HPA.out hb) hi
            exact ⟨h1.2.1, h1.2.2, h2.2⟩
          obtain ⟨k0, k1, kf⟩ := kc2 HS.out.k
          obtain ⟨q0, q1, _⟩ := cA _ HS.out.below
          have qe := key_eq 9998 L[i].k.str ky.str L[i].k.sym ky.sym
          rw [show (L[i].k.str == ky.str && L[i].k.sym == ky.sym) = eqK L[i].k ky from rfl] at qe
          by_cases he : L[i].k = ky
          · rw [eqK_iff.2 he] at qe
            clear he cA
            generalize L[i].k.str = s at *
            generalize L[i].k.sym = y at *
            go_wp2
            go_quiet (fail)
            go_wp2
            go_roundg kx
            case measure => omega
            case rel => exact ⟨i + 1, by first | rfl | exact congrArg (Value.int .i64) hadd, by first | rfl | exact congrArg (Value.int .i64) hadd, by omega, Lib.hid (HS.out.up (tdrewN (Below.refl _ _) _))⟩
          · rw [eqK_no he] at qe
            have hg := HPU.out i hi he
            have hPi : P[i] = L[i] := by rw [List.getElem?_eq_getElem hiP] at hg; exact Option.some.inj hg
            have cB : ∀ W, Below w.heap.size w W → W.cell? (a3.add (i * 18)) = some (.string L[i].k.str) ∧ W.cell? ⟨(a3.add (i * 18)).block, (a3.add (i * 18)).off + 1, none⟩ = some (.int .i64 L[i].k.sym) ∧ (∀ j u, L[i].d.cells.toList[j]? = some u → W.cell? ((⟨(a3.add (i * 18)).block, (a3.add (i * 18)).off + 2, none⟩ : Addr).add j) = some u) := fun W hb => by
              have h1 := pr_key (pr_up HPB.out hb) hiP
              have h2 := pr_desc (pr_up HPB.out hb) hiP
              rw [hPi] at h1 h2
              exact ⟨h1.2.1, h1.2.2, h2.2⟩
            obtain ⟨p0, p1, _⟩ := cB _ HS.out.below
            have cD := HCD.out i hi
            clear he hg hPi
            generalize L[i].k.str = s at *
            generalize L[i].k.sym = y at *
            generalize L[i].d = dd at *
            have HKQ := Lib.hid HS.out.k
            go_wp2
            go_quiet (fail)
            have HS := Lib.hid (HS.out.up (tdrewN (Below.refl _ _) nq))
            clear k0 k1 kf q0 q1 p0 p1
            generalize wr.drewN nq = w2 at *
            obtain ⟨k0, k1, kf⟩ := kc2 HS.out.k
            obtain ⟨p0, p1, _⟩ := cB _ HS.out.below
            go_upto_region 13 with (fail)
            go_quiet (fail)
            have HS := Lib.hid (HS.out.up (tdrewN (Below.refl _ _) nq))
            clear k0 k1 kf p0 p1
            generalize w2.drewN nq = w3 at *
            go_upto_region 15 with (fail)
            have hS : Ot w (some a) N cap B cb ky (w3.drew) := HS.out.up (Below.refl _ _).drew
            refine wp_region_held_drew (S := Ot w (some a) N cap B cb ky) (by kernel_rfl) hS (fun hHeld => ?_)
            refine hH_take (i := 0) (v := .int .i64 (i : Int)) (d := 84) (l2 := #[true, false, false, false, false, false, false, false, false, false, false, false, false, false, false, false, false, false, false, false, false, false, false, false, false, false, false, false, false, false, false]) rfl (by kernel_rfl) (by kernel_rfl) (by kernel_rfl) (fun _ _ _ h => h) (by kernel_rfl) ?_ (by assumption) rfl (by kernel_rfl) ?_
            · intro w hSw; go_simp; (try with_reducible rfl)
            simp only [List.set]
            refine hH_take (i := 1) (v := .slice (some a3) P.length cc) (d := 85) (l2 := #[true, true, false, false, false, false, false, false, false, false, false, false, false, false, false, false, false, false, false, false, false, false, false, false, false, false, false, false, false, false, false]) rfl (by kernel_rfl) (by kernel_rfl) (by kernel_rfl) (fun _ _ _ h => h) (by kernel_rfl) ?_ (by assumption) rfl (by kernel_rfl) ?_
            · intro w hSw; go_simp; (try with_reducible rfl)
            simp only [List.set]
            refine hH_take (i := 2) (v := .int .i64 (P.length : Int)) (d := 86) (l2 := #[true, true, true, false, false, false, false, false, false, false, false, false, false, false, false, false, false, false, false, false, false, false, false, false, false, false, false, false, false, false, false]) rfl (by kernel_rfl) (by kernel_rfl) (by kernel_rfl) (fun _ _ _ h => h) (by kernel_rfl) ?_ (by assumption) rfl (by kernel_rfl) ?_
            · intro w hSw; go_simp; (try with_reducible rfl)
            simp only [List.set]
            refine hH_take (i := 3) (v := .bool false) (d := 87) (l2 := #[true, true, true, true, false, false, false, false, false, false, false, false, false, false, false, false, false, false, false, false, false, false, false, false, false, false, false, false, false, false, false]) rfl (by kernel_rfl) (by kernel_rfl) (by kernel_rfl) (fun _ _ _ h => h) (by kernel_rfl) ?_ (by assumption) rfl (by kernel_rfl) ?_
            · intro w hSw; go_simp; (try with_reducible rfl)
            simp only [List.set]
            refine hH_take (i := 4) (v := .bool false) (d := 88) (l2 := #[true, true, true, true, true, false, false, false, false, false, false, false, false, false, false, false, false, false, false, false, false, false, false, false, false, false, false, false, false, false, false]) rfl (by kernel_rfl) (by kernel_rfl) (by kernel_rfl) (fun _ _ _ h => h) (by kernel_rfl) ?_ (by assumption) rfl (by kernel_rfl) ?_
            · intro w hSw; go_simp; (try with_reducible rfl)
            simp only [List.set]
            refine hH_take (i := 5) (v := .slice (some a3) P.length cc) (d := 89) (l2 := #[true, true, true, true, true, true, false, false, false, false, false, false, false, false, false, false, false, false, false, false, false, false, false, false, false, false, false, false, false, false, false]) rfl (by kernel_rfl) (by kernel_rfl) (by kernel_rfl) (fun _ _ _ h => h) (by kernel_rfl) ?_ (by assumption) rfl (by kernel_rfl) ?_
            · intro w hSw; go_simp; (try with_reducible rfl)
            simp only [List.set]
            refine hH_take (i := 6) (v := .int .i64 (i : Int)) (d := 90) (l2 := #[true, true, true, true, true, true, true, false, false, false, false, false, false, false, false, false, false, false, false, false, false, false, false, false, false, false, false, false, false, false, false]) rfl (by kernel_rfl) (by kernel_rfl) (by kernel_rfl) (fun _ _ _ h => h) (by kernel_rfl) ?_ (by assumption) rfl (by kernel_rfl) ?_
            · intro w hSw; go_simp; (try with_reducible rfl)
            simp only [List.set]
            refine hH_take (i := 7) (v := .pointer (some (a3.add (i * 18)))) (d := 91) (l2 := #[true, true, true, true, true, true, true, true, false, false, false, false, false, false, false, false, false, false, false, false, false, false, false, false, false, false, false, false, false, false, false]) rfl (by kernel_rfl) (by kernel_rfl) (by kernel_rfl) (fun _ _ _ h => h) (by kernel_rfl) ?_ (by assumption) rfl (by kernel_rfl) ?_
            · intro w hSw; go_simp; (try with_reducible rfl)
            simp only [List.set]
            refine hH_take (i := 8) (v := .pointer (some (a3.add (i * 18)))) (d := 92) (l2 := #[true, true, true, true, true, true, true, true, true, false, false, false, false, false, false, false, false, false, false, false, false, false, false, false, false, false, false, false, false, false, false]) rfl (by kernel_rfl) (by kernel_rfl) (by kernel_rfl) (fun _ _ _ h => h) (by kernel_rfl) ?_ (by assumption) rfl (by kernel_rfl) ?_
            · intro w hSw; go_simp; (try with_reducible rfl)
            simp only [List.set]
            refine hH_take (i := 9) (v := .agg #[.string s, .int .i64 y]) (d := 93) (l2 := #[true, true, true, true, true, true, true, true, true, true, false, false, false, false, false, false, false, false, false, false, false, false, false, false, false, false, false, false, false, false, false]) rfl (by kernel_rfl) (by kernel_rfl) (by kernel_rfl) (fun _ _ _ h => h) (by kernel_rfl) ?_ (by assumption) rfl (by kernel_rfl) ?_
            · intro w hSw; exact ex_load_at (k2_at (cB _ hSw.below).1 (cB _ hSw.below).2.1) rfl rfl
            simp only [List.set]
            refine hH_take (i := 10) (v := .slice (some a1) L.length ca) (d := 94) (l2 := #[true, true, true, true, true, true, true, true, true, true, true, false, false, false, false, false, false, false, false, false, false, false, false, false, false, false, false, false, false, false, false]) rfl (by kernel_rfl) (by kernel_rfl) (by kernel_rfl) (fun _ _ _ h => h) (by kernel_rfl) ?_ (by assumption) rfl (by kernel_rfl) ?_
            · intro w hSw; go_simp; (try with_reducible rfl)
            simp only [List.set]
            refine hH_take (i := 11) (v := .int .i64 (i : Int)) (d := 95) (l2 := #[true, true, true, true, true, true, true, true, true, true, true, true, false, false, false, false, false, false, false, false, false, false, false, false, false, false, false, false, false, false, false]) rfl (by kernel_rfl) (by kernel_rfl) (by kernel_rfl) (fun _ _ _ h => h) (by kernel_rfl) ?_ (by assumption) rfl (by kernel_rfl) ?_
            · intro w hSw; go_simp; (try with_reducible rfl)
            simp only [List.set]
            refine hH_take (i := 12) (v := .pointer (some (a1.add (i * 18)))) (d := 96) (l2 := #[true, true, true, true, true, true, true, true, true, true, true, true, true, false, false, false, false, false, false, false, false, false, false, false, false, false, false, false, false, false, false]) rfl (by kernel_rfl) (by kernel_rfl) (by kernel_rfl) (fun _ _ _ h => h) (by kernel_rfl) ?_ (by assumption) rfl (by kernel_rfl) ?_
            · intro w hSw; go_simp; (try with_reducible rfl)
            simp only [List.set]
            refine hH_take (i := 13) (v := .pointer (some (a1.add (i * 18)))) (d := 97) (l2 := #[true, true, true, true, true, true, true, true, true, true, true, true, true, true, false, false, false, false, false, false, false, false, false, false, false, false, false, false, false, false, false]) rfl (by kernel_rfl) (by kernel_rfl) (by kernel_rfl) (fun _ _ _ h => h) (by kernel_rfl) ?_ (by assumption) rfl (by kernel_rfl) ?_
            · intro w hSw; go_simp; (try with_reducible rfl)
            simp only [List.set]
            refine hH_take (i := 14) (v := .agg #[.string s, .int .i64 y]) (d := 98) (l2 := #[true, true, true, true, true, true, true, true, true, true, true, true, true, true, true, false, false, false, false, false, false, false, false, false, false, false, false, false, false, false, false]) rfl (by kernel_rfl) (by kernel_rfl) (by kernel_rfl) (fun _ _ _ h => h) (by kernel_rfl) ?_ (by assumption) rfl (by kernel_rfl) ?_
            · intro w hSw; exact ex_load_at (k2_at (cA _ hSw.below).1 (cA _ hSw.below).2.1) rfl rfl
            simp only [List.set]
            refine hH_take (i := 15) (v := .bool false) (d := 99) (l2 := #[true, true, true, true, true, true, true, true, true, true, true, true, true, true, true, true, false, false, false, false, false, false, false, false, false, false, false, false, false, false, false]) rfl (by kernel_rfl) (by kernel_rfl) (by kernel_rfl) (fun _ _ _ h => h) (by kernel_rfl) ?_ (by assumption) rfl (by kernel_rfl) ?_
            · intro w hSw; exact ex_kn0 rfl rfl rfl
            simp only [List.set]
            refine hH_take (i := 16) (v := .bool false) (d := 100) (l2 := #[true, true, true, true, true, true, true, true, true, true, true, true, true, true, true, true, true, false, false, false, false, false, false, false, false, false, false, false, false, false, false]) rfl (by kernel_rfl) (by kernel_rfl) (by kernel_rfl) (fun _ _ _ h => h) (by kernel_rfl) ?_ (by assumption) rfl (by kernel_rfl) ?_
            · intro w hSw; go_simp; (try with_reducible rfl)
            simp only [List.set]
            refine hH_take (i := 17) (v := .bool false) (d := 101) (l2 := #[true, true, true, true, true, true, true, true, true, true, true, true, true, true, true, true, true, true, false, false, false, false, false, false, false, false, false, false, false, false, false]) rfl (by kernel_rfl) (by kernel_rfl) (by kernel_rfl) (fun _ _ _ h => h) (by kernel_rfl) ?_ (by assumption) rfl (by kernel_rfl) ?_
            · intro w hSw; go_simp; (try with_reducible rfl)
            simp only [List.set]
            refine hH_take (i := 18) (v := .slice (some a3) P.length cc) (d := 102) (l2 := #[true, true, true, true, true, true, true, true, true, true, true, true, true, true, true, true, true, true, true, false, false, false, false, false, false, false, false, false, false, false, false]) rfl (by kernel_rfl) (by kernel_rfl) (by kernel_rfl) (fun _ _ _ h => h) (by kernel_rfl) ?_ (by assumption) rfl (by kernel_rfl) ?_
            · intro w hSw; go_simp; (try with_reducible rfl)
            simp only [List.set]
            refine hH_take (i := 19) (v := .int .i64 (i : Int)) (d := 103) (l2 := #[true, true, true, true, true, true, true, true, true, true, true, true, true, true, true, true, true, true, true, true, false, false, false, false, false, false, false, false, false, false, false]) rfl (by kernel_rfl) (by kernel_rfl) (by kernel_rfl) (fun _ _ _ h => h) (by kernel_rfl) ?_ (by assumption) rfl (by kernel_rfl) ?_
            · intro w hSw; go_simp; (try with_reducible rfl)
            simp only [List.set]
            refine hH_take (i := 20) (v := .pointer (some (a3.add (i * 18)))) (d := 104) (l2 := #[true, true, true, true, true, true, true, true, true, true, true, true, true, true, true, true, true, true, true, true, true, false, false, false, false, false, false, false, false, false, false]) rfl (by kernel_rfl) (by kernel_rfl) (by kernel_rfl) (fun _ _ _ h => h) (by kernel_rfl) ?_ (by assumption) rfl (by kernel_rfl) ?_
            · intro w hSw; go_simp; (try with_reducible rfl)
            simp only [List.set]
            refine hH_take (i := 21) (v := .pointer (some ⟨(a3.add (i * 18)).block, (a3.add (i * 18)).off + 2, none⟩)) (d := 105) (l2 := #[true, true, true, true, true, true, true, true, true, true, true, true, true, true, true, true, true, true, true, true, true, true, false, false, false, false, false, false, false, false, false]) rfl (by kernel_rfl) (by kernel_rfl) (by kernel_rfl) (fun _ _ _ h => h) (by kernel_rfl) ?_ (by assumption) rfl (by kernel_rfl) ?_
            · intro w hSw; go_simp; (try with_reducible rfl)
            simp only [List.set]
            refine hH_take (i := 22) (v := .agg dd.cells) (d := 106) (l2 := #[true, true, true, true, true, true, true, true, true, true, true, true, true, true, true, true, true, true, true, true, true, true, true, false, false, false, false, false, false, false, false]) rfl (by kernel_rfl) (by kernel_rfl) (by kernel_rfl) (fun _ _ _ h => h) (by kernel_rfl) ?_ (by assumption) rfl (by kernel_rfl) ?_
            · intro w hSw; exact ex_load_at (run_loadAt_at (cs := dd.cells.toList) (cB _ hSw.below).2.2 Tryz.underlying50 rfl dsz) rfl rfl
            simp only [List.set]
            refine hH_take (i := 23) (v := .slice (some a1) L.length ca) (d := 107) (l2 := #[true, true, true, true, true, true, true, true, true, true, true, true, true, true, true, true, true, true, true, true, true, true, true, true, false, false, false, false, false, false, false]) rfl (by kernel_rfl) (by kernel_rfl) (by kernel_rfl) (fun _ _ _ h => h) (by kernel_rfl) ?_ (by assumption) rfl (by kernel_rfl) ?_
            · intro w hSw; go_simp; (try with_reducible rfl)
            simp only [List.set]
            refine hH_take (i := 24) (v := .int .i64 (i : Int)) (d := 108) (l2 := #[true, true, true, true, true, true, true, true, true, true, true, true, true, true, true, true, true, true, true, true, true, true, true, true, true, false, false, false, false, false, false]) rfl (by kernel_rfl) (by kernel_rfl) (by kernel_rfl) (fun _ _ _ h => h) (by kernel_rfl) ?_ (by assumption) rfl (by kernel_rfl) ?_
            · intro w hSw; go_simp; (try with_reducible rfl)
            simp only [List.set]
            refine hH_take (i := 25) (v := .pointer (some (a1.add (i * 18)))) (d := 109) (l2 := #[true, true, true, true, true, true, true, true, true, true, true, true, true, true, true, true, true, true, true, true, true, true, true, true, true, true, false, false, false, false, false]) rfl (by kernel_rfl) (by kernel_rfl) (by kernel_rfl) (fun _ _ _ h => h) (by kernel_rfl) ?_ (by assumption) rfl (by kernel_rfl) ?_
            · intro w hSw; go_simp; (try with_reducible rfl)
            simp only [List.set]
            refine hH_take (i := 26) (v := .pointer (some ⟨(a1.add (i * 18)).block, (a1.add (i * 18)).off + 2, none⟩)) (d := 110) (l2 := #[true, true, true, true, true, true, true, true, true, true, true, true, true, true, true, true, true, true, true, true, true, true, true, true, true, true, true, false, false, false, false]) rfl (by kernel_rfl) (by kernel_rfl) (by kernel_rfl) (fun _ _ _ h => h) (by kernel_rfl) ?_ (by assumption) rfl (by kernel_rfl) ?_
            · intro w hSw; go_simp; (try with_reducible rfl)
            simp only [List.set]
            refine hH_take (i := 27) (v := .agg dd.cells) (d := 111) (l2 := #[true, true, true, true, true, true, true, true, true, true, true, true, true, true, true, true, true, true, true, true, true, true, true, true, true, true, true, true, false, false, false]) rfl (by kernel_rfl) (by kernel_rfl) (by kernel_rfl) (fun _ _ _ h => h) (by kernel_rfl) ?_ (by assumption) rfl (by kernel_rfl) ?_
            · intro w hSw; exact ex_load_at (run_loadAt_at (cs := dd.cells.toList) (cA _ hSw.below).2.2 Tryz.underlying50 rfl dsz) rfl rfl
            simp only [List.set]
            refine wpAnyH_ready (rs := [28]) (by kernel_rfl) (by simp) ?_
            refine AllReadyH.cons rfl (fun K hK => ?_) AllReadyH.nil
            go_simp
            go_at_call 26
            (with_reducible refine (cD _).mono ?_)
            rintro e wc ⟨rfl, h1⟩
            have hS := hS.up h1
            clear h1
            refine hK.out _ _ hS (fun hHeld => ?_)
            clear hK K
            refine hH_take (i := 29) (v := .bool false) (d := 113) (l2 := #[true, true, true, true, true, true, true, true, true, true, true, true, true, true, true, true, true, true, true, true, true, true, true, true, true, true, true, true, true, true, false]) rfl (by kernel_rfl) (by kernel_rfl) (by kernel_rfl) (fun _ _ _ h => h) (by kernel_rfl) ?_ (by assumption) rfl (by kernel_rfl) ?_
            · intro w hSw; go_simp; (try with_reducible rfl)
            simp only [List.set]
            refine hH_take (i := 30) (v := .bool false) (d := 114) (l2 := #[true, true, true, true, true, true, true, true, true, true, true, true, true, true, true, true, true, true, true, true, true, true, true, true, true, true, true, true, true, true, true]) rfl (by kernel_rfl) (by kernel_rfl) (by kernel_rfl) (fun _ _ _ h => h) (by kernel_rfl) ?_ (by assumption) rfl (by kernel_rfl) ?_
            · intro w hSw; go_simp; (try with_reducible rfl)
            simp only [List.set]
            refine wpAnyH_done (by kernel_rfl) ?_ _
            have HS := Lib.hid hS
            go_wp2
            go_roundg kx
            case measure => omega
            case rel => exact ⟨i + 1, by first | rfl | exact congrArg (Value.int .i64) hadd, by first | rfl | exact congrArg (Value.int .i64) hadd, by omega, HS⟩
end Go.Proofs.YtkcikdggfbjedaaGreatDoor.S
/-
  OrdinaryDefines: what its calls tell.
-/
namespace Go.Proofs.YtkcikdggfbjedaaGreatDoor.S
open Go.RowKit Go.Lib Fl
open Classical

theorem find_mem {L : List Pq} {k : Ky} {p : Pq} (h : findT L k = some p) : p ∈ L := by unfold findT at h; exact List.mem_of_getElem? h
theorem compat0 {ext : Bool} {d : Dq} {L : List Pq} {k : Ky} (hd : chkQ d = true) (hT : TabOk L) : (compatQ ext d (findT L k).isSome (fndD L k)).2 = 0 := by
  unfold compatQ fndD
  rw [hd]
  cases e : findT L k with
  | none => rfl
  | some p =>
    have := (hT.all p (find_mem e)).2
    dsimp only
    rw [this]
    cases changesQ d p.d <;> rfl
theorem fnd_of {L : List Pq} {k : Ky} {p : Pq} (h : findT L k = some p) : fndD L k = p.d := by unfold fndD; rw [h]
/-- what comes of a definition -/
def DefIs (H M2 : List Ob) (q : Oq) (k : Nat) (ky : Ky) (C : Bool) (T : Dq) : Prop :=
  (q = yesO false ∧ C = false ∧ M2.map Ob.bare = H.map Ob.bare) ∨ (q = failO ∧ C = true ∧ M2.map Ob.bare = H.map Ob.bare) ∨
  (q = yesO true ∧ C = true ∧ (∀ i (h1 : i < M2.length) (h2 : i < H.length), i ≠ k → M2[i].bare = H[i].bare) ∧ (∀ (h1 : k < M2.length) (h2 : k < H.length), M2[k].props = putT H[k].props ⟨ky, T⟩ ∧ fndD M2[k].props ky = T ∧ (findT M2[k].props ky).isSome = true) ∧ Good T)
def DfTo (H : List Ob) (k : Nat) (ky : Ky) (C : Bool) (T : Dq) (d : Nat) (w : World) (e : Ending) (w' : World) : Prop := ∃ B M2 q, e = .returned (.tuple #[.agg #[.slice (some ⟨B, 0, none⟩) d d], .agg (oqA q), .int .i64 0]) ∧ (LeftH H B M2 w' ∧ DefIs H M2 q k ky C T) ∧ Below w.heap.size w w'
theorem def_do {A : Option Addr} {H : List Ob} {cap k : Nat} {ky : Ky} {d : Dq} {w : World} (hI : HIn w A H cap) (hp : ∀ o ∈ H, o.props.length ≤ 100000) (hky : KyIn ky) (hd : d.In) (htab : TabHere w) (hE : doE H (akq 6 k ky d v0) = 0) (hk : k < H.length) :
    Calls Tryz.prog 24 #[.agg #[.slice A H.length cap], .agg (akA (akq 6 k ky d v0))] w (DfTo H k ky (compatQ H[k].ext d (findT H[k].props ky).isSome (fndD H[k].props ky)).1 (applyQ H[k].ext d (findT H[k].props ky).isSome (fndD H[k].props ky)) H.length w) := by
  have ha : (akq 6 (k : Int) ky d v0).In := akq_in hky hd (ok_in v0_ok)
  refine (Do_any A H cap _ w hI hp ha htab).mono fun e w' ⟨hb, h⟩ => ?_
  rcases h with ⟨hne, _⟩ | ⟨_, hm, k2, B, q, M2, hA, he, hD, hB⟩
  · exact absurd hE hne
  · obtain rfl : k2 = k := Int.ofNat.inj hA.n.symm
    have hL := done_left hD hB hm hA ha hI.few hI.inn
    obtain ⟨M, p, hl, hkM, hM2, hs⟩ := hD.step
    have hs6 := hs.m6 rfl
    have e1 := bare_k hl hkM hk
    have e2 := congrArg Ob.ext e1
    have e3 := congrArg Ob.props e1
    have e2 : M[k2].ext = H[k2].ext := e2
    have e3 : M[k2].props = H[k2].props := e3
    obtain ⟨d1, d2, d3⟩ := hs6
    rw [e2, e3] at d1 d2 d3
    have hTk : TabOk H[k2].props := (may_parts hm hk).2.1
    have hin : ∀ x ∈ H[k2].props, x.In := (hI.inn _ (List.getElem_mem hk)).props
    refine ⟨B, M2, q, he, ⟨hL, ?_⟩, hb⟩
    cases hC : (compatQ H[k2].ext d (findT H[k2].props ky).isSome (fndD H[k2].props ky)).1 with
    | false =>
      obtain ⟨h1, h2⟩ := d1 hC
      exact .inl ⟨h1, rfl, by rw [hM2, set_self hkM h2]; exact hl⟩
    | true =>
      by_cases hmany : cutN H[k2].props ky = 1024
      · obtain ⟨h1, h2⟩ := d2 hC hmany
        exact .inr (.inl ⟨h1, rfl, by rw [hM2, set_self hkM h2]; exact hl⟩)
      · obtain ⟨h1, A2, c2, _, h2⟩ := d3 hC hmany
        obtain ⟨hok, hTin⟩ := def_ok (o := H[k2]) (a := akq 6 (k2 : Int) ky d v0) hd (fnd_in hin ky) (hA.key (.inr (.inl rfl))) hC
        have hput := put_to hTk hok hmany
        have hp2 : p.props = putT H[k2].props ⟨ky, applyQ H[k2].ext d (findT H[k2].props ky).isSome (fndD H[k2].props ky)⟩ := by rw [h2]; rfl
        refine .inr (.inr ⟨h1, rfl, fun i h3 h4 hik => ?_, fun h3 h4 => ?_, ok_good hok ⟨?_, hTin⟩⟩)
        · subst hM2
          rw [List.getElem_set_ne (Ne.symm hik)]
          exact bare_k hl (by simpa using h3) h4
        · have hx : M2[k2] = p := by subst hM2; exact List.getElem_set_self _
          have hf : findT (putT H[k2].props ⟨ky, applyQ H[k2].ext d (findT H[k2].props ky).isSome (fndD H[k2].props ky)⟩) ky = some ⟨ky, applyQ H[k2].ext d (findT H[k2].props ky).isSome (fndD H[k2].props ky)⟩ := hput.found
          rw [hx, hp2]
          refine ⟨rfl, ?_, ?_⟩
          · exact fnd_of hf
          · rw [hf]; rfl
        · exact hky
end Go.Proofs.YtkcikdggfbjedaaGreatDoor.S
