/-
  DERIVED: THE SHELF's CONTRACTS AT THIS DUMP, IN PLAIN WORDS (tools/lay-plain.mjs out of 'YtablckajobefeaaGreatDoorStrShelfTry.lean', which tools/lay-shelf.mjs wrote): THE SAME DECLARATIONS UNDER THE SAME NAMES: 'import', 'namespace', 'open', 'def', 'theorem' AND NOTHING ELSE: no command of the shelf's: FOR A HAND-IN. Each laying: the table of numbers ('.._ren') and one theorem, a field a fact of the dump's own or the kernel's comparison; each contract: ONE APPLICATION.
-/
import Derived.Shelf.Strings.Builder1
import Derived.Shelf.Strings.Builder2
import Derived.Shelf.Strings.Search3
import Derived.Shelf.Strings.Shaped
import Derived.Shelf.LaysM
import Derived.Test.YtablckajobefeaaGreatDoorProg
import Derived.Test.YtablckajobefeaaGreatDoorChecked
import Derived.WalkKit
import Derived.WalkSpells
import Derived.WalkLawsBesides
import Derived.BigCall
import Derived.Lib.Hide
import Derived.Deep.QuietTactic
import Derived.BigQuiet
namespace Go.Proofs
open Go.Shelf
def Tryz.lays170_ren : Go.Shelf.Ren := ⟨fun | 170 => 34 | n => n, fun | 70 => 76 | 3 => 3 | 0 => 0 | 72 => 78 | 37 => 23 | 5 => 5 | n => n, fun | n => n⟩
theorem Tryz.lays170 : Go.Proofs.Lays.n170 Tryz.prog Tryz.lays170_ren := {
  mixed := by kernel_rfl
  f170 := Tryz.func34.trans (congrArg some (by kernel_rfl))
  t0 := Tryz.underlying0
  a0 := Tryz.isAgg0
  z0 := Tryz.sizeOf0
  v0 := Tryz.zeroValue0
  t3 := Tryz.underlying3
  a3 := Tryz.isAgg3
  z3 := Tryz.sizeOf3
  v3 := Tryz.zeroValue3
  t37 := Tryz.underlying23
  a37 := Tryz.isAgg23
  z37 := Tryz.sizeOf23
  v37 := Tryz.zeroValue23
  t70 := Tryz.underlying76
  a70 := Tryz.isAgg76
  z70 := Tryz.sizeOf76
  v70 := Tryz.zeroValue76
  t72 := Tryz.underlying78
  a72 := Tryz.isAgg78
  z72 := Tryz.sizeOf78
  v72 := Tryz.zeroValue78 }
open Go.RowKit in
/-- (*strings.Builder).Len: the bytes held; the world is as it was. -/
theorem Tryz.Builder_Len (B b : Nat) (bs : List Value) (w : World) (h : Lib.IsBuilder 78 5 B b bs w) :
    Calls Tryz.prog 34 #[.pointer (some ⟨b, 0, none⟩)] w fun e w' => e = .returned (.int .i64 bs.length) ∧ w' = w := Any.Builder_Len Tryz.lays170 B b bs w h
def Tryz.lays169_ren : Go.Shelf.Ren := ⟨fun | 169 => 35 | n => n, fun | 70 => 76 | 9 => 9 | 0 => 0 | 72 => 78 | 37 => 23 | 127 => 104 | 3 => 3 | 5 => 5 | n => n, fun | n => n⟩
theorem Tryz.lays169 : Go.Proofs.Lays.n169 Tryz.prog Tryz.lays169_ren := {
  mixed := by kernel_rfl
  f169 := Tryz.func35.trans (congrArg some (by kernel_rfl))
  t0 := Tryz.underlying0
  a0 := Tryz.isAgg0
  z0 := Tryz.sizeOf0
  v0 := Tryz.zeroValue0
  t3 := Tryz.underlying3
  a3 := Tryz.isAgg3
  z3 := Tryz.sizeOf3
  v3 := Tryz.zeroValue3
  t9 := Tryz.underlying9
  a9 := Tryz.isAgg9
  z9 := Tryz.sizeOf9
  v9 := Tryz.zeroValue9
  t37 := Tryz.underlying23
  a37 := Tryz.isAgg23
  z37 := Tryz.sizeOf23
  v37 := Tryz.zeroValue23
  t70 := Tryz.underlying76
  a70 := Tryz.isAgg76
  z70 := Tryz.sizeOf76
  v70 := Tryz.zeroValue76
  t72 := Tryz.underlying78
  a72 := Tryz.isAgg78
  z72 := Tryz.sizeOf78
  v72 := Tryz.zeroValue78
  t127 := Tryz.underlying104
  a127 := Tryz.isAgg104
  z127 := Tryz.sizeOf104
  v127 := Tryz.zeroValue104 }
theorem Tryz.Builder_Extra_169 : Builder.Extra Tryz.prog Tryz.lays169_ren := {
  sizeBuilder := by kernel_rfl
  liesBuilder := by kernel_rfl
  t5 := Tryz.underlying5
  a5 := Tryz.isAgg5
  z5 := Tryz.sizeOf5
  v5 := Tryz.zeroValue5
  infoByte := by kernel_rfl
  cellsByte := by kernel_rfl
  sizeByte := by kernel_rfl
  neB5 := by decide }
open Go.RowKit in
/-- (*strings.Builder).String: the bytes held. -/
theorem Tryz.Builder_String_any (B b : Nat) (l : List UInt8) (w : World) (h : Lib.IsBuilder 78 5 B b (Lib.byteCells l) w) (hBw : B ≤ w.heap.size) :
    Calls Tryz.prog 35 #[.pointer (some ⟨b, 0, none⟩)] w fun e w' => e = .returned (.string ⟨l.toArray⟩) ∧ Below B w w' := Any.Builder_String_any Tryz.lays169 Tryz.Builder_Extra_169 B b l w h hBw
def Tryz.lays165_ren : Go.Shelf.Ren := ⟨fun | 165 => 89 | 240 => 57 | 241 => 117 | 276 => 86 | 277 => 145 | n => n, fun | 70 => 76 | 3 => 3 | 0 => 0 | 4 => 4 | 9 => 9 | 20 => 20 | 72 => 78 | 37 => 23 | 164 => 118 | 5 => 5 | n => n, fun | n => n⟩
theorem Tryz.lays165 : Go.Proofs.Lays.n165 Tryz.prog Tryz.lays165_ren := {
  mixed := by kernel_rfl
  f165 := Tryz.func89.trans (congrArg some (by kernel_rfl))
  f240 := Tryz.func57.trans (congrArg some (by kernel_rfl))
  f241 := Tryz.func117.trans (congrArg some (by kernel_rfl))
  f276 := Tryz.func86.trans (congrArg some (by kernel_rfl))
  f277 := Tryz.func145.trans (congrArg some (by kernel_rfl))
  t0 := Tryz.underlying0
  a0 := Tryz.isAgg0
  z0 := Tryz.sizeOf0
  v0 := Tryz.zeroValue0
  t3 := Tryz.underlying3
  a3 := Tryz.isAgg3
  z3 := Tryz.sizeOf3
  v3 := Tryz.zeroValue3
  t4 := Tryz.underlying4
  a4 := Tryz.isAgg4
  z4 := Tryz.sizeOf4
  v4 := Tryz.zeroValue4
  t9 := Tryz.underlying9
  a9 := Tryz.isAgg9
  z9 := Tryz.sizeOf9
  v9 := Tryz.zeroValue9
  t20 := Tryz.underlying20
  a20 := Tryz.isAgg20
  z20 := Tryz.sizeOf20
  v20 := Tryz.zeroValue20
  t37 := Tryz.underlying23
  a37 := Tryz.isAgg23
  z37 := Tryz.sizeOf23
  v37 := Tryz.zeroValue23
  t70 := Tryz.underlying76
  a70 := Tryz.isAgg76
  z70 := Tryz.sizeOf76
  v70 := Tryz.zeroValue76
  t72 := Tryz.underlying78
  a72 := Tryz.isAgg78
  z72 := Tryz.sizeOf78
  v72 := Tryz.zeroValue78
  t164 := Tryz.underlying118
  a164 := Tryz.isAgg118
  z164 := Tryz.sizeOf118
  v164 := Tryz.zeroValue118 }
theorem Tryz.Builder_Extra_165 : Builder.Extra Tryz.prog Tryz.lays165_ren := {
  sizeBuilder := by kernel_rfl
  liesBuilder := by kernel_rfl
  t5 := Tryz.underlying5
  a5 := Tryz.isAgg5
  z5 := Tryz.sizeOf5
  v5 := Tryz.zeroValue5
  infoByte := by kernel_rfl
  cellsByte := by kernel_rfl
  sizeByte := by kernel_rfl
  neB5 := by decide }
open Go.RowKit in
/-- (*strings.Builder).Grow of a builder that has not been written. -/
theorem Tryz.Builder_Grow_fresh (B b n : Nat) (w : World) (hB : B ≤ b) (hbk : w.heap[b]? = some (.cells #[.pointer none, .slice none 0 0] 78 (0, 0))) (hBw : B ≤ w.heap.size) (hn : n ≤ 281474976710656) :
    Calls Tryz.prog 89 #[.pointer (some ⟨b, 0, none⟩), .int .i64 n] w fun e w' => e = .returned (.tuple #[]) ∧ (Lib.BuilderAt 78 5 B b (.pointer (some ⟨b, 0, none⟩)) [] w' ∧ Below B w w') := Any.Builder_Grow_fresh Tryz.lays165 Tryz.Builder_Extra_165 B b n w hB hbk hBw hn
end Go.Proofs
/-
  The library's contracts of (*strings.Builder).WriteByte and WriteString laid at this seat by hand: the shelf's command lays them not where no body names the type of the panic's value.
-/
namespace Go.Proofs
open Go.Shelf
def Tryz.lays167_ren : Go.Shelf.Ren := ⟨fun | 167 => 31 | 240 => 57 | 276 => 86 | n => n, fun | 0 => 0 | 3 => 3 | 4 => 4 | 5 => 5 | 9 => 9 | 20 => 20 | 37 => 23 | 70 => 76 | 72 => 78 | 75 => 80 | 80 => 86 | 164 => 118 | n => n, fun | n => n⟩
theorem Tryz.lays167 : Go.Proofs.Lays.n167 Tryz.prog Tryz.lays167_ren := {
  mixed := by kernel_rfl
  f167 := Tryz.func31.trans (congrArg some (by kernel_rfl))
  f240 := Tryz.func57.trans (congrArg some (by kernel_rfl))
  f276 := Tryz.func86.trans (congrArg some (by kernel_rfl))
  t0 := Tryz.underlying0
  a0 := Tryz.isAgg0
  z0 := Tryz.sizeOf0
  v0 := Tryz.zeroValue0
  t4 := Tryz.underlying4
  a4 := Tryz.isAgg4
  z4 := Tryz.sizeOf4
  v4 := Tryz.zeroValue4
  t5 := Tryz.underlying5
  a5 := Tryz.isAgg5
  z5 := Tryz.sizeOf5
  v5 := Tryz.zeroValue5
  t9 := Tryz.underlying9
  a9 := Tryz.isAgg9
  z9 := Tryz.sizeOf9
  v9 := Tryz.zeroValue9
  t20 := Tryz.underlying20
  a20 := Tryz.isAgg20
  z20 := Tryz.sizeOf20
  v20 := Tryz.zeroValue20
  t37 := Tryz.underlying23
  a37 := Tryz.isAgg23
  z37 := Tryz.sizeOf23
  v37 := Tryz.zeroValue23
  t70 := Tryz.underlying76
  a70 := Tryz.isAgg76
  z70 := Tryz.sizeOf76
  v70 := Tryz.zeroValue76
  t72 := Tryz.underlying78
  a72 := Tryz.isAgg78
  z72 := Tryz.sizeOf78
  v72 := Tryz.zeroValue78
  t75 := Tryz.underlying80
  a75 := Tryz.isAgg80
  z75 := Tryz.sizeOf80
  v75 := Tryz.zeroValue80
  t164 := Tryz.underlying118
  a164 := Tryz.isAgg118
  z164 := Tryz.sizeOf118
  v164 := Tryz.zeroValue118 }
theorem Tryz.Builder_Extra_167 : Builder.Extra Tryz.prog Tryz.lays167_ren := {
  sizeBuilder := by kernel_rfl
  liesBuilder := by kernel_rfl
  t5 := Tryz.underlying5
  a5 := Tryz.isAgg5
  z5 := Tryz.sizeOf5
  v5 := Tryz.zeroValue5
  infoByte := by kernel_rfl
  cellsByte := by kernel_rfl
  sizeByte := by kernel_rfl
  neB5 := by decide }
def Tryz.lays166_ren : Go.Shelf.Ren := ⟨fun | 166 => 32 | 240 => 57 | 276 => 86 | n => n, fun | 0 => 0 | 3 => 3 | 4 => 4 | 5 => 5 | 9 => 9 | 20 => 20 | 37 => 23 | 70 => 76 | 72 => 78 | 75 => 80 | 80 => 86 | 164 => 118 | n => n, fun | n => n⟩
theorem Tryz.lays166 : Go.Proofs.Lays.n166 Tryz.prog Tryz.lays166_ren := {
  mixed := by kernel_rfl
  f166 := Tryz.func32.trans (congrArg some (by kernel_rfl))
  f240 := Tryz.func57.trans (congrArg some (by kernel_rfl))
  f276 := Tryz.func86.trans (congrArg some (by kernel_rfl))
  t0 := Tryz.underlying0
  a0 := Tryz.isAgg0
  z0 := Tryz.sizeOf0
  v0 := Tryz.zeroValue0
  t3 := Tryz.underlying3
  a3 := Tryz.isAgg3
  z3 := Tryz.sizeOf3
  v3 := Tryz.zeroValue3
  t4 := Tryz.underlying4
  a4 := Tryz.isAgg4
  z4 := Tryz.sizeOf4
  v4 := Tryz.zeroValue4
  t9 := Tryz.underlying9
  a9 := Tryz.isAgg9
  z9 := Tryz.sizeOf9
  v9 := Tryz.zeroValue9
  t20 := Tryz.underlying20
  a20 := Tryz.isAgg20
  z20 := Tryz.sizeOf20
  v20 := Tryz.zeroValue20
  t37 := Tryz.underlying23
  a37 := Tryz.isAgg23
  z37 := Tryz.sizeOf23
  v37 := Tryz.zeroValue23
  t70 := Tryz.underlying76
  a70 := Tryz.isAgg76
  z70 := Tryz.sizeOf76
  v70 := Tryz.zeroValue76
  t72 := Tryz.underlying78
  a72 := Tryz.isAgg78
  z72 := Tryz.sizeOf78
  v72 := Tryz.zeroValue78
  t75 := Tryz.underlying80
  a75 := Tryz.isAgg80
  z75 := Tryz.sizeOf80
  v75 := Tryz.zeroValue80
  t164 := Tryz.underlying118
  a164 := Tryz.isAgg118
  z164 := Tryz.sizeOf118
  v164 := Tryz.zeroValue118 }
theorem Tryz.Builder_Extra_166 : Builder.Extra Tryz.prog Tryz.lays166_ren := {
  sizeBuilder := by kernel_rfl
  liesBuilder := by kernel_rfl
  t5 := Tryz.underlying5
  a5 := Tryz.isAgg5
  z5 := Tryz.sizeOf5
  v5 := Tryz.zeroValue5
  infoByte := by kernel_rfl
  cellsByte := by kernel_rfl
  sizeByte := by kernel_rfl
  neB5 := by decide }
open Go.RowKit in
/-- (*strings.Builder).WriteByte. -/
theorem Tryz.Builder_WriteByte (B b : Nat) (bs : List Value) (c : Int) (w : World) (h : Lib.IsBuilder 78 5 B b bs w) (hlen : bs.length + 1 ≤ 140737488355328) (hBw : B ≤ w.heap.size) :
    Calls Tryz.prog 31 #[.pointer (some ⟨b, 0, none⟩), .int .u8 c] w fun e w' => e = .returned .nilIface ∧ (Lib.BuilderAt 78 5 B b (.pointer (some ⟨b, 0, none⟩)) (bs ++ [.int .u8 c]) w' ∧ Below B w w') := Any.Builder_WriteByte Tryz.lays167 Tryz.Builder_Extra_167 B b bs c w h hlen hBw
open Go.RowKit in
/-- (*strings.Builder).WriteString. -/
theorem Tryz.Builder_WriteString (B b : Nat) (bs : List Value) (s : ByteArray) (w : World) (h : Lib.IsBuilder 78 5 B b bs w) (hlen : bs.length + s.size ≤ 140737488355328) (hBw : B ≤ w.heap.size) :
    Calls Tryz.prog 32 #[.pointer (some ⟨b, 0, none⟩), .string s] w fun e w' => e = .returned (.tuple #[.int .i64 s.size, .nilIface]) ∧ (Lib.BuilderAt 78 5 B b (.pointer (some ⟨b, 0, none⟩)) (bs ++ Lib.strCells s) w' ∧ Below B w w') := Any.Builder_WriteString Tryz.lays166 Tryz.Builder_Extra_166 B b bs s w h hlen hBw
end Go.Proofs
/-
  The builder in the words of lists of bytes; a string laid anew: walks.
-/
namespace Go.Proofs.YtablckajobefeaaGreatDoor.S
open Go.RowKit

theorem ret_bool {a b : Bool} (h : a = b) : Ending.returned (.bool a) = .returned (.bool b) := by rw [h]
theorem ret_int {k : IntKind} {a b : Int} (h : a = b) : Ending.returned (.int k a) = .returned (.int k b) := by rw [h]
theorem ret_str {a b : ByteArray} (h : a = b) : Ending.returned (.string a) = .returned (.string b) := by rw [h]

theorem size_len (t : ByteArray) : t.size = t.data.toList.length := by simp
theorem toList_data (s : ByteArray) : s.toList = s.data.toList := Go.ByteArray.toList_eq s
theorem mk_size (l : List UInt8) : (⟨l.toArray⟩ : ByteArray).size = l.length := by simp [ByteArray.size]
theorem str_ext {a b : ByteArray} (h : a.data.toList = b.data.toList) : a = b := by
  cases a with | mk a => cases b with | mk b => exact congrArg ByteArray.mk (Array.toList_inj.1 h)
theorem getElem_list (s : ByteArray) (k : Nat) (h : k < s.size) : s.data.toList[k]? = some s[k] := by
  rw [List.getElem?_eq_getElem (by rw [← size_len]; exact h)]
  simp [ByteArray.getElem_eq_getElem_data]

/-- a fresh builder in block b -/
def FB (B b : Nat) (w0 w : World) : Prop := B ≤ b ∧ w.heap[b]? = some (.cells #[.pointer none, .slice none 0 0] 78 (0, 0)) ∧ Below B w0 w ∧ B ≤ w.heap.size
/-- a builder in block b that holds the bytes l -/
def BB (B b : Nat) (l : List UInt8) (w0 w : World) : Prop := Lib.IsBuilder 78 5 B b (Lib.byteCells l) w ∧ Below B w0 w ∧ B ≤ w.heap.size

theorem fb_alloc (w : World) : FB w.heap.size w.heap.size w (w.alloc (.cells #[.pointer none, .slice none 0 0] 78)) :=
  ⟨Nat.le_refl _, heap_alloc_new w _, (Below.refl _ w).alloc (Nat.le_refl _) _, (((Below.refl _ w).alloc (Nat.le_refl _) (.cells #[.pointer none, .slice none 0 0] 78))).size⟩
theorem FB.drew {B b : Nat} {w0 w : World} (h : FB B b w0 w) : FB B b w0 w.drew := ⟨h.1, h.2.1, h.2.2.1.drew, h.2.2.2⟩
theorem BB.drew {B b : Nat} {l : List UInt8} {w0 w : World} (h : BB B b l w0 w) : BB B b l w0 w.drew := ⟨h.1.imp Lib.BuilderAt.drew Lib.BuilderAt.drew, h.2.1.drew, h.2.2⟩
theorem bb_alloc (w : World) : BB w.heap.size w.heap.size [] w (w.alloc (.cells #[.pointer none, .slice none 0 0] 78)) :=
  ⟨Lib.fresh_isBuilder _ _ w, (Below.refl _ w).alloc (Nat.le_refl _) _, ((Below.refl _ w).alloc (Nat.le_refl _) (.cells #[.pointer none, .slice none 0 0] 78)).size⟩

theorem wb_grow {B b : Nat} (n : Int) {w0 w : World} (h : FB B b w0 w) (h0 : 0 ≤ n) (hn : n ≤ 281474976710656) :
    Calls Tryz.prog 89 #[.pointer (some ⟨b, 0, none⟩), .int .i64 n] w fun e w' => e = .returned (.tuple #[]) ∧ BB B b [] w0 w' := by
  obtain ⟨k, rfl⟩ := Int.eq_ofNat_of_zero_le h0
  refine (Tryz.Builder_Grow_fresh B b k w h.1 h.2.1 h.2.2.2 (by omega)).mono fun e w' ⟨he, hb, hw⟩ => ⟨he, Or.inr hb, h.2.2.1.trans hw, Nat.le_trans h.2.2.2 hw.size⟩
theorem wb_byte {B b : Nat} {l : List UInt8} (c : UInt8) {w0 w : World} (h : BB B b l w0 w) (hl : l.length + 1 ≤ 140737488355328) :
    Calls Tryz.prog 31 #[.pointer (some ⟨b, 0, none⟩), .int .u8 (c.toNat : Int)] w fun e w' => e = .returned .nilIface ∧ BB B b (l ++ [c]) w0 w' := by
  refine (Tryz.Builder_WriteByte B b _ c.toNat w h.1 (by rw [Lib.byteCells_length]; exact hl) h.2.2).mono fun e w' ⟨he, hb, hw⟩ => ⟨he, Or.inr (by rw [Lib.byteCells_append]; exact hb), h.2.1.trans hw, Nat.le_trans h.2.2 hw.size⟩
theorem wb_str {B b : Nat} {l : List UInt8} (s : ByteArray) {w0 w : World} (h : BB B b l w0 w) (hl : l.length + s.size ≤ 140737488355328) :
    Calls Tryz.prog 32 #[.pointer (some ⟨b, 0, none⟩), .string s] w fun e w' => e = .returned (.tuple #[.int .i64 s.size, .nilIface]) ∧ BB B b (l ++ s.data.toList) w0 w' := by
  refine (Tryz.Builder_WriteString B b _ s w h.1 (by rw [Lib.byteCells_length]; exact hl) h.2.2).mono fun e w' ⟨he, hb, hw⟩ => ⟨he, Or.inr (by rw [Lib.byteCells_append, ← Lib.strCells_eq]; exact hb), h.2.1.trans hw, Nat.le_trans h.2.2 hw.size⟩
theorem wb_string {B b : Nat} {l : List UInt8} {w0 w : World} (h : BB B b l w0 w) :
    Calls Tryz.prog 35 #[.pointer (some ⟨b, 0, none⟩)] w fun e w' => e = .returned (.string ⟨l.toArray⟩) ∧ Below B w0 w' :=
  (Tryz.Builder_String_any B b l w h.1 h.2.2).mono fun _ _ ⟨he, hw⟩ => ⟨he, h.2.1.trans hw⟩
theorem wb_len {B b : Nat} {l : List UInt8} {w0 w : World} (h : BB B b l w0 w) :
    Calls Tryz.prog 34 #[.pointer (some ⟨b, 0, none⟩)] w fun e w' => e = .returned (.int .i64 (l.length : Int)) ∧ w = w' :=
  (Tryz.Builder_Len B b _ w h.1).mono fun _ _ ⟨he, hw⟩ => ⟨by rw [he, Lib.byteCells_length], hw.symm⟩

/-- the answer is a string -/
def StrTo (t : ByteArray) (w : World) (e : Ending) (w' : World) : Prop := e = .returned (.string t) ∧ Below w.heap.size w w'
/-- the answer is a string and a number -/
def StrIntTo (t : ByteArray) (k : Int) (w : World) (e : Ending) (w' : World) : Prop := e = .returned (.tuple #[.string t, .int .i64 k]) ∧ Below w.heap.size w w'

end Go.Proofs.YtablckajobefeaaGreatDoor.S
/-
  StrMade: Join and Repeat, the program's and the document's own: walks.
-/
namespace Go.Proofs.YtablckajobefeaaGreatDoor.S
open Go.RowKit

def joinE (a b : ByteArray) : Int := if a.size + b.size > 4096 then 20 else 0
def joinT (a b : ByteArray) : ByteArray := if a.size + b.size > 4096 then ⟨#[]⟩ else ⟨(a.data.toList ++ b.data.toList).toArray⟩

/-- a list of bytes so many times -/
def reps (l : List UInt8) : Nat → List UInt8
  | 0 => []
  | k + 1 => reps l k ++ l
def repE (s : ByteArray) (n : Int) : Int := if n < 0 then 2 else if s.size = 0 then 0 else if n.toNat * s.size > 4096 then 20 else 0
def repT (s : ByteArray) (n : Int) : ByteArray := if n < 0 then ⟨#[]⟩ else if s.size = 0 then ⟨#[]⟩ else if n.toNat * s.size > 4096 then ⟨#[]⟩ else ⟨(reps s.data.toList n.toNat).toArray⟩

theorem below_size {B : Nat} {w w' : World} (h : Below B w w') : w.heap.size ≤ w'.heap.size := h.size
theorem below_up {w w1 w2 : World} (h1 : Below w.heap.size w w1) (h2 : Below w1.heap.size w1 w2) : Below w.heap.size w w2 := h1.trans (h2.mono (below_size h1))

end Go.Proofs.YtablckajobefeaaGreatDoor.S
/-
  Quote, the program's and the document's own: walks.
-/
namespace Go.Proofs.YtablckajobefeaaGreatDoor.S
open Go.RowKit

/-- a sixteen's byte -/
def hexN (n : Nat) : Nat := if n < 10 then 48 + n else 87 + n
theorem hexN_lt (n : Nat) (h : n < 16) : hexN n < 256 := by unfold hexN; split <;> omega
/-- what stands for a byte between quotes -/
def qb (c : UInt8) : List UInt8 :=
  if c.toNat = 34 ∨ c.toNat = 92 then [92, c] else if c.toNat = 10 then [92, 110] else if c.toNat = 9 then [92, 116] else if c.toNat = 13 then [92, 114]
  else if c.toNat < 32 ∨ 126 < c.toNat then [92, 120, (hexN (c.toNat / 16)).toUInt8, (hexN (c.toNat % 16)).toUInt8] else [c]
theorem qb_len (c : UInt8) : 1 ≤ (qb c).length ∧ (qb c).length ≤ 4 := by
  unfold qb; repeat' split
  all_goals simp
def quoteI (l : List UInt8) : List UInt8 := l.flatMap qb
def quoteL (l : List UInt8) : List UInt8 := 34 :: (quoteI l ++ [34])
theorem quoteI_snoc (l : List UInt8) (c : UInt8) : quoteI (l ++ [c]) = quoteI l ++ qb c := by simp [quoteI]
theorem quoteI_len (l : List UInt8) : (quoteI l).length ≤ 4 * l.length := by
  induction l with
  | nil => simp [quoteI]
  | cons c r ih =>
    have e : quoteI (c :: r) = qb c ++ quoteI r := by simp [quoteI]
    have := (qb_len c).2
    rw [e, List.length_append, List.length_cons]; omega

theorem toNat_of (n : Nat) (h : n < 256) : (n.toUInt8).toNat = n := by simp; omega

theorem wb_byteN {B b : Nat} {l : List UInt8} (n : Int) (h0 : 0 ≤ n ∧ n < 256) {w0 w : World} (h : BB B b l w0 w) (hl : l.length + 1 ≤ 140737488355328) :
    Calls Tryz.prog 31 #[.pointer (some ⟨b, 0, none⟩), .int .u8 n] w fun e w' => e = .returned .nilIface ∧ BB B b (l ++ [n.toNat.toUInt8]) w0 w' := by
  have := wb_byte n.toNat.toUInt8 h hl
  rw [toNat_of _ (by omega), Int.toNat_of_nonneg h0.1] at this
  exact this

theorem digit_any (n : Nat) (h : n < 16) (w : World) : Calls Tryz.prog 118 #[.int .u8 (n : Int)] w fun e w' => e = .returned (.int .u8 (hexN n : Int)) ∧ w = w' := by
  unfold hexN
  by_cases c : n < 10
  · rw [if_pos c]
    go_enter Tryz.func118, Tryz.ntmps118
    go_wp2
    go_ret
    refine ⟨ret_int ?_, rfl⟩
    first | done | omega | (simp; omega)
  · rw [if_neg c]
    go_enter Tryz.func118, Tryz.ntmps118
    go_wp2
    go_ret
    refine ⟨ret_int ?_, rfl⟩
    first | done | omega | (simp; omega)

theorem write_any (c : UInt8) {B b : Nat} {l : List UInt8} {w0 w : World} (h : BB B b l w0 w) (hl : l.length + 4 ≤ 140737488355328) :
    Calls Tryz.prog 90 #[.pointer (some ⟨b, 0, none⟩), .int .u8 (c.toNat : Int)] w fun e w' => e = .returned (.tuple #[]) ∧ BB B b (l ++ qb c) w0 w' := by
  have hc := c.toNat_lt
  unfold qb
  by_cases c1 : c.toNat = 34 ∨ c.toNat = 92
  · rw [if_pos c1]
    rcases c1 with c1 | c1
    · obtain rfl : c = 34 := UInt8.toNat_inj.1 c1
      go_enter Tryz.func90, Tryz.ntmps90
      go_wp2_with (first
        | (go_at_call 31; ((with_reducible refine (wb_byteN 92 (by omega) h (by omega)).mono ?_); rintro e w1 ⟨rfl, h1⟩))
        | (go_at_call 31; ((with_reducible refine (wb_byteN 34 (by omega) h1 (by simp; omega)).mono ?_); rintro e w2 ⟨rfl, h2⟩)))
      go_end0; refine ⟨rfl, ?_⟩; rw [List.append_assoc] at h2; exact h2
    · obtain rfl : c = 92 := UInt8.toNat_inj.1 c1
      go_enter Tryz.func90, Tryz.ntmps90
      go_wp2_with (first
        | (go_at_call 31; ((refine (wb_byteN 92 (by omega) h (by omega)).mono ?_); rintro e w1 ⟨rfl, h1⟩; have H := Lib.hid h; clear h))
        | (go_at_call 31; ((refine (wb_byteN 92 (by omega) h1 (by simp; omega)).mono ?_); rintro e w2 ⟨rfl, h2⟩)))
      go_end0; refine ⟨rfl, ?_⟩; rw [List.append_assoc] at h2; exact h2
  · rw [if_neg c1]
    obtain ⟨n1, n2⟩ := not_or.1 c1
    clear c1
    have i1 : ((c.toNat : Int) == 34) = false := beq_false_of_ne (by omega)
    have i2 : ((c.toNat : Int) == 92) = false := beq_false_of_ne (by omega)
    by_cases c2 : c.toNat = 10
    · rw [if_pos c2]
      go_enter Tryz.func90, Tryz.ntmps90
      go_wp2_with (go_at_call 32; refine (wb_str ⟨#[92, 110]⟩ h (by simp [ByteArray.size]; omega)).mono ?_; rintro e w1 ⟨rfl, h1⟩)
      go_end0
      exact ⟨rfl, h1⟩
    · rw [if_neg c2]
      by_cases c3 : c.toNat = 9
      · rw [if_pos c3]
        go_enter Tryz.func90, Tryz.ntmps90
        go_wp2_with (go_at_call 32; refine (wb_str ⟨#[92, 116]⟩ h (by simp [ByteArray.size]; omega)).mono ?_; rintro e w1 ⟨rfl, h1⟩)
        go_end0
        exact ⟨rfl, h1⟩
      · rw [if_neg c3]
        by_cases c4 : c.toNat = 13
        · rw [if_pos c4]
          go_enter Tryz.func90, Tryz.ntmps90
          go_wp2_with (go_at_call 32; refine (wb_str ⟨#[92, 114]⟩ h (by simp [ByteArray.size]; omega)).mono ?_; rintro e w1 ⟨rfl, h1⟩)
          go_end0
          exact ⟨rfl, h1⟩
        · rw [if_neg c4]
          by_cases c5 : c.toNat < 32 ∨ 126 < c.toNat
          · rw [if_pos c5]
            have hmask0 : bits .and .u8 (c.toNat : Int) 15 = ((c.toNat % 16 : Nat) : Int) := by
              have := bits_mask .u8 8 (by decide) (fun n a c => by rw [IntKind.wrap_u8]; omega) 4 (by decide) (c.toNat : Int) (by omega) (by omega)
              rw [Int.natCast_emod]; exact this
            have hq0 : ((c.toNat : Int) / 16) = ((c.toNat / 16 : Nat) : Int) := by rw [Int.natCast_ediv]; rfl
            have q1 : c.toNat / 16 < 16 := by omega
            have r1 : c.toNat % 16 < 16 := by omega
            generalize c.toNat / 16 = q at *
            generalize c.toNat % 16 = r at *
            have hd := hexN_lt q q1
            have hm := hexN_lt r r1
            have k1 := fun w => digit_any q q1 w
            have k2 := fun w => digit_any r r1 w
            generalize hexN q = x at *
            generalize hexN r = y at *
            have i3 : (decide ((c.toNat : Int) < 32) || decide (126 < (c.toNat : Int))) = true := by
              rw [Bool.or_eq_true, decide_eq_true_iff, decide_eq_true_iff]; omega
            clear c5
            go_enter Tryz.func90, Tryz.ntmps90
            go_wp2_with (first
              | (go_at_call 32; refine (wb_str ⟨#[92, 120]⟩ h (by simp [ByteArray.size]; omega)).mono ?_; rintro e w1 ⟨rfl, h1⟩)
              | (go_at_call 118; ((with_reducible refine (k1 _).mono ?_); rintro e w' ⟨rfl, rfl⟩))
              | (go_at_call 118; ((with_reducible refine (k2 _).mono ?_); rintro e w' ⟨rfl, rfl⟩))
              | (go_at_call 31; ((with_reducible refine (wb_byteN (x : Int) (by omega) h1 (by simp; omega)).mono ?_); rintro e w2 ⟨rfl, h2⟩))
              | (go_at_call 31; ((with_reducible refine (wb_byteN (y : Int) (by omega) h2 (by simp; omega)).mono ?_); rintro e w3 ⟨rfl, h3⟩)))
            all_goals (go_end0; refine ⟨rfl, ?_⟩; simp only [List.append_assoc] at h3; exact h3)
          · rw [if_neg c5]
            obtain ⟨n5, n6⟩ := not_or.1 c5
            clear c5
            have i3 : (decide ((c.toNat : Int) < 32) || decide (126 < (c.toNat : Int))) = false := by
              rw [Bool.or_eq_false_iff, decide_eq_false_iff_not, decide_eq_false_iff_not]; omega
            go_enter Tryz.func90, Tryz.ntmps90
            go_wp2_with (go_at_call 31; with_reducible refine (wb_byte c h (by omega)).mono ?_; rintro e w1 ⟨rfl, h1⟩)
            go_end0
            exact ⟨rfl, h1⟩

theorem list_take_snoc (s : ByteArray) (k : Nat) (h : k < s.size) : s.data.toList.take (k + 1) = s.data.toList.take k ++ [s[k]] := by
  rw [List.take_add_one, getElem_list s k h]; rfl
theorem quote_step (s : ByteArray) (k : Nat) (h : k < s.size) : quoteI (s.data.toList.take (k + 1)) = quoteI (s.data.toList.take k) ++ qb s[k] := by
  rw [list_take_snoc s k h, quoteI_snoc]
theorem quote_take_len (s : ByteArray) (k : Nat) (h : k ≤ s.size) : (quoteI (s.data.toList.take k)).length ≤ 4 * k := by
  refine Nat.le_trans (quoteI_len _) ?_
  rw [List.length_take, ← size_len]; omega

theorem Quote_any (s : ByteArray) (w : World) (hs : s.size ≤ 9000) : Calls Tryz.prog 59 #[.string s] w (StrTo ⟨(quoteL s.data.toList).toArray⟩ w) := by
  have h0 := fb_alloc w
  go_enter Tryz.func59, Tryz.ntmps59
  go_wp2_with (first
    | (go_at_call 89; refine (wb_grow _ (FB.drew h0) (by omega) (by omega)).mono ?_; rintro e w1 ⟨rfl, h1⟩)
    | (go_at_call 89; refine (wb_grow _ h0 (by omega) (by omega)).mono ?_; rintro e w1 ⟨rfl, h1⟩)
    | (go_at_call 31; refine (wb_byteN 34 (by omega) h1 (by simp)).mono ?_; rintro e w2 ⟨rfl, h2⟩))
  go_loopw [4] (fun i wr => ∃ k : Nat, k ≤ s.size ∧ i = .int .i64 k ∧ BB w.heap.size w.heap.size (34 :: quoteI (s.data.toList.take k)) w wr) (fun i _ => s.size - (intOf i).toNat)
  case atStart => exact ⟨0, Nat.zero_le _, rfl, h2⟩
  case round =>
    obtain ⟨k, hk, rfl, h3⟩ := hrel
    have hlen := quote_take_len s k hk
    by_cases hlt : k < s.size
    · have hst := Lib.hid (quote_step s k hlt)
      go_wp2_with (go_at_call 90; refine (write_any s[k] h3 (by rw [List.length_cons]; omega)).mono ?_; rintro e w3 ⟨rfl, h4⟩)
      go_roundw
      case rel => exact ⟨k + 1, hlt, by go_num, by rw [hst.out]; exact h4⟩
      case measure => simp [intOf]; omega
    · have he : s.data.toList.take k = s.data.toList := List.take_of_length_le (by rw [← size_len]; omega)
      rw [he] at h3 hlen
      go_wp2_with (first
        | (go_at_call 31; refine (wb_byteN 34 (by omega) h3 (by rw [List.length_cons]; omega)).mono ?_; rintro e w3 ⟨rfl, h4⟩)
        | (go_at_call 35; refine (wb_string h4).mono ?_; rintro e w4 ⟨rfl, h5⟩))
      go_ret
      exact ⟨rfl, h5⟩

/-- ### the document's own -/
theorem extract_list (s : ByteArray) (a b : Nat) : (s.extract a b).data.toList = (s.data.toList.drop a).take (b - a) := by
  rw [ByteArray.data_extract, Array.toList_extract, List.extract_eq_take_drop]
def signT (n : Nat) : ByteArray := (⟨#[48, 49, 50, 51, 52, 53, 54, 55, 56, 57, 97, 98, 99, 100, 101, 102]⟩ : ByteArray).extract n (n + 1)
end Go.Proofs.YtablckajobefeaaGreatDoor.S
/-
  Plain, the program's and the document's own: what an escape stands for: walks.
-/
namespace Go.Proofs.YtablckajobefeaaGreatDoor.S
open Go.RowKit

/-- what a digit of sixteens is worth -/
def worthN (n : Nat) : Int := if 48 ≤ n ∧ n ≤ 57 then (n : Int) - 48 else if 97 ≤ n ∧ n ≤ 102 then (n : Int) - 87 else -1
theorem worthN_le (n : Nat) : -1 ≤ worthN n ∧ worthN n ≤ 15 := by unfold worthN; repeat' split
                                                                  all_goals omega

theorem worth_any (n : Nat) (h : n < 256) (w : World) : Calls Tryz.prog 151 #[.int .u8 (n : Int)] w fun e w' => e = .returned (.int .i64 (worthN n)) ∧ w = w' := by
  unfold worthN
  by_cases c1 : 48 ≤ n ∧ n ≤ 57
  · rw [if_pos c1]
    go_enter Tryz.func151, Tryz.ntmps151
    go_wp2
    go_ret
    exact ⟨ret_int (by omega), rfl⟩
  · rw [if_neg c1]
    by_cases c2 : 97 ≤ n ∧ n ≤ 102
    · rw [if_pos c2]
      go_enter Tryz.func151, Tryz.ntmps151
      go_wp2
      go_ret
      exact ⟨ret_int (by omega), rfl⟩
    · rw [if_neg c2]
      go_enter Tryz.func151, Tryz.ntmps151
      go_wp2
      all_goals (go_ret; exact ⟨rfl, rfl⟩)

/-- what two digits of sixteens stand for -/
def hexOf (a b : Int) : UInt8 := (16 * a + b).toNat.toUInt8
def sixR (s : ByteArray) : UInt8 × Nat :=
  if h : s.size < 4 then (0, 0) else if worthN s[2].toNat < 0 ∨ worthN s[3].toNat < 0 then (0, 0) else (hexOf (worthN s[2].toNat) (worthN s[3].toNat), 4)
/-- the answer is a byte and how many bytes it is written with -/
def ByteTo (r : UInt8 × Nat) (w : World) (e : Ending) (w' : World) : Prop := e = .returned (.tuple #[.int .u8 (r.1.toNat : Int), .int .i64 (r.2 : Int)]) ∧ ∃ n, w' = w.drewN n

theorem ret_byte {a b k j : Int} (h : a = b) (g : k = j) : Ending.returned (.tuple #[.int .u8 a, .int .i64 k]) = .returned (.tuple #[.int .u8 b, .int .i64 j]) := by rw [h, g]
theorem or_nat (a b : Nat) (ha : a < 16) (hb : b < 16) : bits .or .i64 ((a : Int) * 16) (b : Int) = 16 * (a : Int) + b := by
  have : ∀ m n : Fin 16, bits .or .i64 ((m.val : Int) * 16) (n.val : Int) = 16 * (m.val : Int) + n.val := by decide +kernel
  exact this ⟨a, ha⟩ ⟨b, hb⟩

theorem sixteens_any (s : ByteArray) (w : World) (hs : s.size ≤ 70000) : Calls Tryz.prog 127 #[.string s] w (ByteTo (sixR s) w) := by
  unfold sixR
  by_cases c : s.size < 4
  · rw [dif_pos c]
    go_enter Tryz.func127, Tryz.ntmps127
    go_wp2
    go_ret2
    exact ⟨rfl, 0, rfl⟩
  · rw [dif_neg c]
    have h2 : 2 < s.size := by omega
    have h3 : 3 < s.size := by omega
    have j2 : (2 : Int) < (s.size : Int) := by omega
    have j3 : (3 : Int) < (s.size : Int) := by omega
    have k2 := fun (w : World) n => (worth_any s[2].toNat s[2].toNat_lt (w.drewN n)).mono fun e w' (h : _ ∧ _) => show e = _ ∧ w' = w.drewN n from ⟨h.1, h.2.symm⟩
    have k3 := fun (w : World) n => (worth_any s[3].toNat s[3].toNat_lt (w.drewN n)).mono fun e w' (h : _ ∧ _) => show e = _ ∧ w' = w.drewN n from ⟨h.1, h.2.symm⟩
    have b2 := worthN_le s[2].toNat
    have b3 := worthN_le s[3].toNat
    generalize worthN s[2].toNat = a at *
    generalize worthN s[3].toNat = b at *
    by_cases c1 : a < 0 ∨ b < 0
    · rw [if_pos c1]
      have i1 : (decide (a < 0) || decide (b < 0)) = true := by
        rw [Bool.or_eq_true, decide_eq_true_iff, decide_eq_true_iff]; exact c1
      clear c1
      go_enter Tryz.func127, Tryz.ntmps127
      go_wp2_with (fail)
      go_quiet (first | (go_at_call 151; with_reducible refine Calls.quiet_of_same (k2 _ _)) | (go_at_call 151; with_reducible refine Calls.quiet_of_same (k3 _ _)))
      go_wp2
      all_goals (go_ret2; exact ⟨rfl, _, rfl⟩)
    · rw [if_neg c1]
      obtain ⟨n1, n2⟩ := not_or.1 c1
      have i1 : (decide (a < 0) || decide (b < 0)) = false := by
        rw [Bool.or_eq_false_iff, decide_eq_false_iff_not, decide_eq_false_iff_not]; exact ⟨n1, n2⟩
      obtain ⟨x, rfl⟩ := Int.eq_ofNat_of_zero_le (show 0 ≤ a by omega)
      obtain ⟨y, rfl⟩ := Int.eq_ofNat_of_zero_le (show 0 ≤ b by omega)
      have hor := or_nat x y (by omega) (by omega)
      clear c1
      go_enter Tryz.func127, Tryz.ntmps127
      go_wp2_with (fail)
      go_quiet (first | (go_at_call 151; with_reducible refine Calls.quiet_of_same (k2 _ _)) | (go_at_call 151; with_reducible refine Calls.quiet_of_same (k3 _ _)))
      go_wp2
      go_ret2
      refine ⟨ret_byte ?_ rfl, _, rfl⟩
      unfold hexOf; rw [toNat_of _ (by omega)]; omega

/-- what stands at a string's beginning: a byte, and how many bytes it is written with -/
def escS (s : ByteArray) : UInt8 × Nat :=
  if h0 : s.size < 1 then (0, 0)
  else if s[0].toNat ≠ 92 then (s[0], 1)
  else if h1 : s.size < 2 then (0, 0)
  else if s[1].toNat = 92 ∨ s[1].toNat = 34 ∨ s[1].toNat = 39 then (s[1], 2)
  else if s[1].toNat = 110 then (10, 2)
  else if s[1].toNat = 116 then (9, 2)
  else if s[1].toNat = 114 then (13, 2)
  else if s[1].toNat = 120 then sixR s
  else (0, 0)

theorem first_any (s : ByteArray) (w : World) (h0 : 0 < s.size) (hs : s.size ≤ 70000) : Calls Tryz.prog 94 #[.string s] w (ByteTo (escS s) w) := by
  unfold escS
  rw [dif_neg (by omega)]
  by_cases c0 : s[0].toNat ≠ 92
  · rw [if_pos c0]
    go_enter Tryz.func94, Tryz.ntmps94
    go_wp2
    go_ret2
    exact ⟨rfl, 0, rfl⟩
  · rw [if_neg c0]
    have c0' : s[0].toNat = 92 := by omega
    clear c0
    by_cases c1 : s.size < 2
    · rw [dif_pos c1]
      go_enter Tryz.func94, Tryz.ntmps94
      go_wp2
      go_ret2
      exact ⟨rfl, 0, rfl⟩
    · rw [dif_neg c1]
      have h1 : 1 < s.size := by omega
      by_cases c2 : s[1].toNat = 92 ∨ s[1].toNat = 34 ∨ s[1].toNat = 39
      · rw [if_pos c2]
        go_enter Tryz.func94, Tryz.ntmps94
        rcases c2 with c2 | c2 | c2
        all_goals (go_wp2; go_ret2; refine ⟨ret_byte (by show _ = ((s[1].toNat : Nat) : Int); omega) rfl, 0, rfl⟩)
      · rw [if_neg c2]
        have n1 : s[1].toNat ≠ 92 := fun h => c2 (Or.inl h)
        have n2 : s[1].toNat ≠ 34 := fun h => c2 (Or.inr (Or.inl h))
        have n3 : s[1].toNat ≠ 39 := fun h => c2 (Or.inr (Or.inr h))
        clear c2
        by_cases c3 : s[1].toNat = 110
        · rw [if_pos c3]
          go_enter Tryz.func94, Tryz.ntmps94
          go_wp2; go_ret2; exact ⟨rfl, 0, rfl⟩
        · rw [if_neg c3]
          by_cases c4 : s[1].toNat = 116
          · rw [if_pos c4]
            go_enter Tryz.func94, Tryz.ntmps94
            go_wp2; go_ret2; exact ⟨rfl, 0, rfl⟩
          · rw [if_neg c4]
            by_cases c5 : s[1].toNat = 114
            · rw [if_pos c5]
              go_enter Tryz.func94, Tryz.ntmps94
              go_wp2; go_ret2; exact ⟨rfl, 0, rfl⟩
            · rw [if_neg c5]
              by_cases c6 : s[1].toNat = 120
              · rw [if_pos c6]
                have k := fun w => sixteens_any s w hs
                generalize sixR s = r at *
                go_enter Tryz.func94, Tryz.ntmps94
                go_wp2_with (go_at_call 127; refine (k _).mono ?_; rintro e w1 ⟨rfl, n, rfl⟩)
                go_ret2; exact ⟨rfl, _, rfl⟩
              · rw [if_neg c6]
                go_enter Tryz.func94, Tryz.ntmps94
                go_wp2; go_ret2; exact ⟨rfl, 0, rfl⟩

theorem sixR_w (s : ByteArray) : (sixR s).2 ≤ 4 := by unfold sixR; repeat' split
                                                      all_goals simp
theorem escS_w (s : ByteArray) : (escS s).2 ≤ 4 := by
  unfold escS; repeat' split
  all_goals first | exact sixR_w s | simp

/-- a literal's inside, gone through from a place on: the place of the backslash that begins no escape, or the bytes -/
def plainR (s : ByteArray) : Nat → Nat → List UInt8 → Nat ⊕ List UInt8
  | 0, _, acc => .inr acc
  | f + 1, i, acc => if i < s.size then (if (escS (s.extract i s.size)).2 = 0 then .inl i else plainR s f (i + (escS (s.extract i s.size)).2) (acc ++ [(escS (s.extract i s.size)).1])) else .inr acc
def outOf (r : Nat ⊕ List UInt8) : ByteArray × Int × Int :=
  match r with
  | .inl i => (⟨#[]⟩, (i : Int), 5)
  | .inr acc => if acc.length > 4096 then (⟨#[]⟩, 0, 20) else (⟨acc.toArray⟩, 0, 0)
def plainO (s : ByteArray) : ByteArray × Int × Int := if s.size > 65536 then (⟨#[]⟩, 0, 3) else outOf (plainR s s.size 0 [])
/-- the answer is a string, a place and a number -/
def Str3To (r : ByteArray × Int × Int) (w : World) (e : Ending) (w' : World) : Prop := e = .returned (.tuple #[.string r.1, .int .i64 r.2.1, .int .i64 r.2.2]) ∧ Below w.heap.size w w'

theorem outOf_long (acc : List UInt8) (h : acc.length > 4096) : outOf (.inr acc) = (⟨#[]⟩, 0, 20) := by unfold outOf; exact if_pos h
theorem outOf_short (acc : List UInt8) (h : ¬ acc.length > 4096) : outOf (.inr acc) = (⟨acc.toArray⟩, 0, 0) := by unfold outOf; exact if_neg h
theorem plainR_stop (s : ByteArray) (f i : Nat) (acc : List UInt8) (h : i < s.size) (hf : s.size ≤ i + f) (hr : (escS (s.extract i s.size)).2 = 0) : plainR s f i acc = .inl i := by
  obtain ⟨g, rfl⟩ : ∃ g, f = g + 1 := ⟨f - 1, by omega⟩
  unfold plainR; rw [if_pos h, if_pos hr]
theorem plainR_step (s : ByteArray) (f i : Nat) (acc : List UInt8) (h : i < s.size) (hf : s.size ≤ i + f) (hr : (escS (s.extract i s.size)).2 ≠ 0) :
    ∃ g, plainR s f i acc = plainR s g (i + (escS (s.extract i s.size)).2) (acc ++ [(escS (s.extract i s.size)).1]) ∧ s.size ≤ i + (escS (s.extract i s.size)).2 + g := by
  obtain ⟨g, rfl⟩ : ∃ g, f = g + 1 := ⟨f - 1, by omega⟩
  refine ⟨g, ?_, by omega⟩
  rw [plainR, if_pos h, if_neg hr]
theorem plainR_end (s : ByteArray) (f i : Nat) (acc : List UInt8) (h : ¬ i < s.size) : plainR s f i acc = .inr acc := by
  cases f with
  | zero => rfl
  | succ g => unfold plainR; rw [if_neg h]

theorem BB.drewN {B b : Nat} {l : List UInt8} {w0 w : World} (h : BB B b l w0 w) (n : Nat) : BB B b l w0 (w.drewN n) := by
  induction n with
  | zero => exact h
  | succ n ih => exact ih.drew

theorem Plain_any (s : ByteArray) (w : World) (hs : s.size ≤ 70000) : Calls Tryz.prog 66 #[.string s] w (Str3To (plainO s) w) := by
  have b0 := bb_alloc w
  unfold plainO
  by_cases hb : s.size > 65536
  · rw [if_pos hb]
    go_enter Tryz.func66, Tryz.ntmps66
    go_wp2
    go_ret3
    exact ⟨rfl, Below.refl _ _⟩
  · rw [if_neg hb]
    generalize hR : plainR s s.size 0 [] = R
    have HR := Lib.hid hR
    clear hR
    go_enter Tryz.func66, Tryz.ntmps66
    go_wp2_with (fail)
    go_loopw [6] (fun v wr => ∃ (i f : Nat) (acc : List UInt8), v = .int .i64 i ∧ BB w.heap.size w.heap.size acc w wr ∧ Hid (plainR s f i acc = R ∧ s.size ≤ i + f) ∧ acc.length ≤ i ∧ i ≤ s.size + 4) (fun v _ => s.size - (intOf v).toNat)
    case atStart => exact ⟨0, s.size, [], rfl, b0, Lib.hid ⟨HR.out, by omega⟩, Nat.le_refl _, by omega⟩
    case round =>
      obtain ⟨i, f, acc, rfl, h1, H, hal, hi4⟩ := hrel
      by_cases hlt : i < s.size
      · have k := fun w => first_any (s.extract i s.size) w (by simp; omega) (by simp; omega)
        have hw4 := escS_w (s.extract i s.size)
        by_cases hr : (escS (s.extract i s.size)).2 = 0
        · have hq : R = .inl i := H.out.1.symm.trans (plainR_stop s f i acc hlt H.out.2 hr)
          subst hq
          generalize escS (s.extract i s.size) = r at *
          obtain ⟨c, wd⟩ := r
          obtain rfl : wd = 0 := hr
          go_wp2_with (go_at_call 94; refine (k _).mono ?_; rintro e w1 ⟨rfl, n, rfl⟩)
          go_ret3
          exact ⟨rfl, (h1.drewN n).2.1⟩
        · obtain ⟨g, hg1, hg2⟩ := plainR_step s f i acc hlt H.out.2 hr
          have H2 := Lib.hid (And.intro (hg1.symm.trans H.out.1) hg2)
          clear hg1 hg2
          generalize escS (s.extract i s.size) = r at *
          obtain ⟨c, wd⟩ := r
          dsimp only at hr hw4 H2
          have hwd : 0 < wd := by omega
          clear hr
          go_wp2_with (first
            | (go_at_call 94; refine (k _).mono ?_; rintro e w1 ⟨rfl, n, rfl⟩; have h2 := h1.drewN n)
            | (go_at_call 31; refine (wb_byte c h2 (by omega)).mono ?_; rintro e w2 ⟨rfl, h3⟩))
          go_roundw
          case rel => exact ⟨i + wd, g, acc ++ [c], by go_num, h3, H2, by simp; omega, by omega⟩
          case measure => simp [intOf]; omega
      · have hq : R = .inr acc := H.out.1.symm.trans (plainR_end s f i acc hlt)
        subst hq
        by_cases hl : acc.length > 4096
        · go_wp2_with (go_at_call 34; refine (wb_len h1).mono ?_; rintro e w1 ⟨rfl, rfl⟩)
          go_ret3
          refine ⟨?_, h1.2.1⟩
          rw [outOf_long acc hl]; rfl
        · go_wp2_with (first
            | (go_at_call 34; refine (wb_len h1).mono ?_; rintro e w1 ⟨rfl, rfl⟩)
            | (go_at_call 35; refine (wb_string h1).mono ?_; rintro e w2 ⟨rfl, h2⟩))
          go_ret3
          refine ⟨?_, h2⟩
          rw [outOf_short acc hl]; rfl
theorem Plain_all (s : ByteArray) (w : World) (hs : s.size ≤ 9223372036854775807) : Calls Tryz.prog 66 #[.string s] w (Str3To (plainO s) w) := by
  by_cases h : s.size ≤ 70000
  · exact Plain_any s w h
  · have hb : s.size > 65536 := by omega
    unfold plainO
    rw [if_pos hb]
    clear h
    go_enter Tryz.func66, Tryz.ntmps66
    go_wp2
    go_ret3
    exact ⟨rfl, Below.refl _ _⟩
end Go.Proofs.YtablckajobefeaaGreatDoor.S
