/-
  A builder of the call's own among other blocks: what is no row of bytes stays as it was.
-/
import Derived.Test.YtgjpcoplnpkmoaaGreatDoorLexText2
import Derived.Shelf.Strings.BuilderK
import Derived.Lib.OthersKept
namespace Go.Proofs.YtgjpcoplnpkmoaaGreatDoor.S
open Go.RowKit Fl

/-- a builder in block b that holds the bytes l, its row's head frozen or not -/
def BF (B b : Nat) (l : List UInt8) (w0 w : World) : Prop := Lib.IsBuilderF 59 5 B b (Lib.byteCells l) w ∧ Below B w0 w ∧ B ≤ w.heap.size
theorem bf_of {B b : Nat} {l : List UInt8} {w0 w : World} (h : BB B b l w0 w) : BF B b l w0 w := ⟨Lib.IsBuilderF.of h.1, h.2⟩
theorem bf_alloc (w : World) : BF w.heap.size w.heap.size [] w (w.alloc (.cells #[.pointer none, .slice none 0 0] 59)) := bf_of (bb_alloc w)
theorem bf_lt {B b : Nat} {l : List UInt8} {w0 w : World} (h : BF B b l w0 w) : b < w.heap.size := by
  rcases h.1 with g | g <;> exact g.lt
theorem bf_up {B b : Nat} {l : List UInt8} {w0 w w' : World} (h : BF B b l w0 w) (hb : Below w.heap.size w w') : BF B b l w0 w' := by
  have key : ∀ p, Lib.BuilderAtF 59 5 B b p (Lib.byteCells l) w → Lib.BuilderAtF 59 5 B b p (Lib.byteCells l) w' := by
    intro p g
    have hlt := g.lt
    obtain ⟨h1, v, h2, h3, h4⟩ := g
    refine ⟨h1, v, by rw [hb.block b hlt]; exact h2, h3.kept (row := none) ⟨hb.os, hb.tape, hb.output, hb.size, fun k hk _ => hb.block k hk⟩ ?_, h4⟩
    rcases h3.2 with ⟨rfl, _⟩ | ⟨g, cap, cur, fz, rfl, _⟩
    · exact Or.inl rfl
    · exact Or.inr (by simp [Value.ownBlock])
  exact ⟨h.1.imp (key _) (key _), h.2.1.trans (hb.mono h.2.2), Nat.le_trans h.2.2 hb.size⟩
/-- every block but the builder's own and the rows of bytes is as it was -/
def Kept (b : Nat) (w w' : World) : Prop := Lib.OthersKept 5 (some b) w w'
theorem kept_blk {b k : Nat} {w w' : World} {cs : Array Value} {t : TypeId} {fz : Nat × Nat} (h : Kept b w w') (hk : w.heap[k]? = some (.cells cs t fz)) (hb : k ≠ b) (ht : t ≠ 5) : w'.heap[k]? = some (.cells cs t fz) :=
  h k _ hk (fun e => hb (Option.some.inj e)) (fun c f e => ht (by injection e))
theorem bf_byte {B b : Nat} {l : List UInt8} (c : UInt8) {w0 w : World} (h : BF B b l w0 w) (hl : l.length + 1 ≤ 140737488355328) :
    Calls Tryz.prog 29 #[.pointer (some ⟨b, 0, none⟩), .int .u8 (c.toNat : Int)] w fun e w' => e = .returned .nilIface ∧ BF B b (l ++ [c]) w0 w' ∧ Kept b w w' := by
  refine (Any.Builder_WriteByte_k Tryz.lays167 Tryz.Builder_Extra_167 B b _ c.toNat w h.1 (by rw [Lib.byteCells_length]; exact hl) h.2.2).mono fun e w' ⟨he, hb, hw, hk⟩ => ⟨he, ⟨Or.inr (by rw [Lib.byteCells_append]; exact hb), h.2.1.trans hw, Nat.le_trans h.2.2 hw.size⟩, hk⟩
theorem bf_blank {B b : Nat} {l : List UInt8} {w0 w : World} (h : BF B b l w0 w) (hl : l.length + 1 ≤ 140737488355328) :
    Calls Tryz.prog 29 #[.pointer (some ⟨b, 0, none⟩), .int .u8 32] w fun e w' => e = .returned .nilIface ∧ BF B b (l ++ [32]) w0 w' ∧ Kept b w w' := bf_byte 32 h hl
theorem bf_str {B b : Nat} {l : List UInt8} (s : ByteArray) {w0 w : World} (h : BF B b l w0 w) (hl : l.length + s.size ≤ 140737488355328) :
    Calls Tryz.prog 30 #[.pointer (some ⟨b, 0, none⟩), .string s] w fun e w' => e = .returned (.tuple #[.int .i64 s.size, .nilIface]) ∧ BF B b (l ++ s.data.toList) w0 w' ∧ Kept b w w' := by
  refine (Any.Builder_WriteString_k Tryz.lays166 Tryz.Builder_Extra_166 B b _ s w h.1 (by rw [Lib.byteCells_length]; exact hl) h.2.2).mono fun e w' ⟨he, hb, hw, hk⟩ => ⟨he, ⟨Or.inr (by rw [Lib.byteCells_append, ← Lib.strCells_eq]; exact hb), h.2.1.trans hw, Nat.le_trans h.2.2 hw.size⟩, hk⟩
theorem bf_string {B b : Nat} {l : List UInt8} {w0 w : World} (h : BF B b l w0 w) :
    Calls Tryz.prog 33 #[.pointer (some ⟨b, 0, none⟩)] w fun e w' => e = .returned (.string ⟨l.toArray⟩) ∧ Below B w0 w' :=
  (Any.Builder_String_any_k Tryz.lays169 Tryz.Builder_Extra_169 B b l w h.1 h.2.2).mono fun _ _ ⟨he, _, hw, _⟩ => ⟨he, h.2.1.trans hw⟩
theorem bf_len {B b : Nat} {l : List UInt8} {w0 w : World} (h : BF B b l w0 w) :
    Calls Tryz.prog 32 #[.pointer (some ⟨b, 0, none⟩)] w fun e w' => e = .returned (.int .i64 (l.length : Int)) ∧ w = w' := by
  have hl : (Lib.byteCells l).length = l.length := Lib.byteCells_length l
  have key : ∃ A cap, w.cell? ⟨b, 1, none⟩ = some (.slice A l.length cap) := by
    have : ∀ p, Lib.BuilderAtF 59 5 B b p (Lib.byteCells l) w → ∃ A cap, w.cell? ⟨b, 1, none⟩ = some (.slice A l.length cap) := by
      intro p g
      obtain ⟨_, v, h2, h3, _⟩ := g
      have hc : w.cell? ⟨b, 1, none⟩ = some v := by simp [World.cell?, h2]
      rw [hl] at h3
      rcases h3.2 with ⟨rfl, h0⟩ | ⟨g, cap, cur, fz, rfl, _⟩
      · exact ⟨none, 0, by rw [hc, h0]⟩
      · exact ⟨_, _, hc⟩
    rcases h.1 with g | g
    · exact this _ g
    · exact this _ g
  obtain ⟨A, cap, hc⟩ := key
  clear h hl
  go_enter Tryz.func32, Tryz.ntmps32
  go_wp2
  go_ret
  exact ⟨rfl, rfl⟩
end Go.Proofs.YtgjpcoplnpkmoaaGreatDoor.S
