/-
  Word and Sign: walks of package lex.
-/
import Derived.Test.YtablckajobefeaaGreatDoorPN04
import Derived.Deep.QuietTactic
import Derived.BigQuiet
namespace Go.Proofs.YtablckajobefeaaGreatDoor.S
open Go.RowKit Fl

set_option maxRecDepth 1000000 in
set_option maxHeartbeats 2000000 in
theorem lexWord_any (t : ByteArray) (w : World) : Calls Tryz.prog 63 #[.string t] w fun e w' => e = .returned (.bool (wordB t.data.toList)) ∧ w = w' := by
  have hW : Hid (wordB t.data.toList = wordsL.contains t.toList) := Lib.hid (by rw [toList_data]; rfl)
  go_enter Tryz.func63, Tryz.ntmps63
  go_wp2
  all_goals
    go_ret
    refine ⟨ret_bool ?_, rfl⟩
    rw [hW.out]
    clear hW
    first
    | (rename_i h; rw [eq_of_beq h]; rfl)
    | (rename_i h1 h2; exact absurd (h1.symm.trans h2) (by decide))
    | (simp only [wordsL, List.contains_cons, List.contains_nil, Bool.or_self, *])

/-- how the code finds the longest sign: its first byte, and what follows it -/
def codeN (l : List UInt8) : Nat :=
  match l with
  | [] => 0
  | c :: r =>
    if c = 61 ∨ c = 33 then (if Lib.hasPrefix r [61, 61] = true then 3 else if Lib.hasPrefix r [61] = true then 2 else 1)
    else if c = 62 then (if Lib.hasPrefix r [62, 62] = true then 3 else if Lib.hasPrefix r [62] = true then 2 else if Lib.hasPrefix r [61] = true then 2 else 1)
    else if c = 60 then (if Lib.hasPrefix r [60] = true then 2 else if Lib.hasPrefix r [61] = true then 2 else 1)
    else if c = 43 ∨ c = 45 ∨ c = 42 ∨ c = 47 ∨ c = 37 then (if Lib.hasPrefix r [61] = true then 2 else 1)
    else if c = 123 ∨ c = 125 ∨ c = 40 ∨ c = 41 ∨ c = 91 ∨ c = 93 ∨ c = 46 ∨ c = 59 ∨ c = 44 ∨ c = 63 ∨ c = 58 ∨ c = 94 ∨ c = 126 then 1
    else if c = 38 ∨ c = 124 then (if Lib.hasPrefix r [c] = true then 2 else 1)
    else 0

theorem hpc (u p : ByteArray) (b : Bool) (h : Lib.hasPrefix u.data.toList p.data.toList = b) (w : World) :
    Calls Tryz.prog 39 #[.string u, .string p] w fun e w' => e = .returned (.bool b) ∧ w = w' :=
  (Tryz.strings_HasPrefix u p w).mono fun e w' ⟨he, hw⟩ => ⟨by rw [he]; exact ret_bool h, hw.symm⟩
def SignTo (n : Nat) (w : World) (e : Ending) (w' : World) : Prop := ∃ k, e = .returned (.int .i64 (n : Int)) ∧ w' = w.drewN k
theorem sign_to {n : Nat} {m : Int} (h : m = (n : Int)) (w : World) : SignTo n w (.returned (.int .i64 m)) w := ⟨0, by rw [h], rfl⟩
theorem sign_to_n {n : Nat} {m : Int} (h : m = (n : Int)) (w : World) (k : Nat) : SignTo n w (.returned (.int .i64 m)) (w.drewN k) := ⟨k, by rw [h], rfl⟩
set_option maxRecDepth 100000 in
theorem sg61 (r : List UInt8) : signN (61 :: r) = codeN (61 :: r) := by
  rcases r with _ | ⟨d, _ | ⟨e, q⟩⟩
  · decide
  · skip
    by_cases h0 : d = 61
    · subst h0; decide
    simp [signN, signB, signsL, codeN, Lib.hasPrefix, List.isPrefixOf, h0, Ne.symm h0]
  · skip
    by_cases h0 : d = 61
    · subst h0
      by_cases g : e = 61
      · subst g; simp [signN, signB, signsL, codeN, Lib.hasPrefix, List.isPrefixOf]
      · simp [signN, signB, signsL, codeN, Lib.hasPrefix, List.isPrefixOf, g, Ne.symm g]
    simp [signN, signB, signsL, codeN, Lib.hasPrefix, List.isPrefixOf, h0, Ne.symm h0]
set_option maxRecDepth 100000 in
theorem sg33 (r : List UInt8) : signN (33 :: r) = codeN (33 :: r) := by
  rcases r with _ | ⟨d, _ | ⟨e, q⟩⟩
  · decide
  · skip
    by_cases h0 : d = 61
    · subst h0; decide
    simp [signN, signB, signsL, codeN, Lib.hasPrefix, List.isPrefixOf, h0, Ne.symm h0]
  · skip
    by_cases h0 : d = 61
    · subst h0
      by_cases g : e = 61
      · subst g; simp [signN, signB, signsL, codeN, Lib.hasPrefix, List.isPrefixOf]
      · simp [signN, signB, signsL, codeN, Lib.hasPrefix, List.isPrefixOf, g, Ne.symm g]
    simp [signN, signB, signsL, codeN, Lib.hasPrefix, List.isPrefixOf, h0, Ne.symm h0]
set_option maxRecDepth 100000 in
theorem sg62 (r : List UInt8) : signN (62 :: r) = codeN (62 :: r) := by
  rcases r with _ | ⟨d, _ | ⟨e, q⟩⟩
  · decide
  · skip
    by_cases h0 : d = 62
    · subst h0; decide
    by_cases h1 : d = 61
    · subst h1; decide
    simp [signN, signB, signsL, codeN, Lib.hasPrefix, List.isPrefixOf, h0, Ne.symm h0, h1, Ne.symm h1]
  · skip
    by_cases h0 : d = 62
    · subst h0
      by_cases g : e = 62
      · subst g; simp [signN, signB, signsL, codeN, Lib.hasPrefix, List.isPrefixOf]
      · simp [signN, signB, signsL, codeN, Lib.hasPrefix, List.isPrefixOf, g, Ne.symm g]
    by_cases h1 : d = 61
    · subst h1
      simp [signN, signB, signsL, codeN, Lib.hasPrefix, List.isPrefixOf]
    simp [signN, signB, signsL, codeN, Lib.hasPrefix, List.isPrefixOf, h0, Ne.symm h0, h1, Ne.symm h1]
set_option maxRecDepth 100000 in
theorem sg60 (r : List UInt8) : signN (60 :: r) = codeN (60 :: r) := by
  rcases r with _ | ⟨d, _ | ⟨e, q⟩⟩
  · decide
  · skip
    by_cases h0 : d = 60
    · subst h0; decide
    by_cases h1 : d = 61
    · subst h1; decide
    simp [signN, signB, signsL, codeN, Lib.hasPrefix, List.isPrefixOf, h0, Ne.symm h0, h1, Ne.symm h1]
  · skip
    by_cases h0 : d = 60
    · subst h0
      simp [signN, signB, signsL, codeN, Lib.hasPrefix, List.isPrefixOf]
    by_cases h1 : d = 61
    · subst h1
      simp [signN, signB, signsL, codeN, Lib.hasPrefix, List.isPrefixOf]
    simp [signN, signB, signsL, codeN, Lib.hasPrefix, List.isPrefixOf, h0, Ne.symm h0, h1, Ne.symm h1]
set_option maxRecDepth 100000 in
theorem sg43 (r : List UInt8) : signN (43 :: r) = codeN (43 :: r) := by
  rcases r with _ | ⟨d, _ | ⟨e, q⟩⟩
  · decide
  · skip
    by_cases h0 : d = 61
    · subst h0; decide
    simp [signN, signB, signsL, codeN, Lib.hasPrefix, List.isPrefixOf, h0, Ne.symm h0]
  · skip
    by_cases h0 : d = 61
    · subst h0
      simp [signN, signB, signsL, codeN, Lib.hasPrefix, List.isPrefixOf]
    simp [signN, signB, signsL, codeN, Lib.hasPrefix, List.isPrefixOf, h0, Ne.symm h0]
set_option maxRecDepth 100000 in
theorem sg45 (r : List UInt8) : signN (45 :: r) = codeN (45 :: r) := by
  rcases r with _ | ⟨d, _ | ⟨e, q⟩⟩
  · decide
  · skip
    by_cases h0 : d = 61
    · subst h0; decide
    simp [signN, signB, signsL, codeN, Lib.hasPrefix, List.isPrefixOf, h0, Ne.symm h0]
  · skip
    by_cases h0 : d = 61
    · subst h0
      simp [signN, signB, signsL, codeN, Lib.hasPrefix, List.isPrefixOf]
    simp [signN, signB, signsL, codeN, Lib.hasPrefix, List.isPrefixOf, h0, Ne.symm h0]
set_option maxRecDepth 100000 in
theorem sg42 (r : List UInt8) : signN (42 :: r) = codeN (42 :: r) := by
  rcases r with _ | ⟨d, _ | ⟨e, q⟩⟩
  · decide
  · skip
    by_cases h0 : d = 61
    · subst h0; decide
    simp [signN, signB, signsL, codeN, Lib.hasPrefix, List.isPrefixOf, h0, Ne.symm h0]
  · skip
    by_cases h0 : d = 61
    · subst h0
      simp [signN, signB, signsL, codeN, Lib.hasPrefix, List.isPrefixOf]
    simp [signN, signB, signsL, codeN, Lib.hasPrefix, List.isPrefixOf, h0, Ne.symm h0]
set_option maxRecDepth 100000 in
theorem sg47 (r : List UInt8) : signN (47 :: r) = codeN (47 :: r) := by
  rcases r with _ | ⟨d, _ | ⟨e, q⟩⟩
  · decide
  · skip
    by_cases h0 : d = 61
    · subst h0; decide
    simp [signN, signB, signsL, codeN, Lib.hasPrefix, List.isPrefixOf, h0, Ne.symm h0]
  · skip
    by_cases h0 : d = 61
    · subst h0
      simp [signN, signB, signsL, codeN, Lib.hasPrefix, List.isPrefixOf]
    simp [signN, signB, signsL, codeN, Lib.hasPrefix, List.isPrefixOf, h0, Ne.symm h0]
set_option maxRecDepth 100000 in
theorem sg37 (r : List UInt8) : signN (37 :: r) = codeN (37 :: r) := by
  rcases r with _ | ⟨d, _ | ⟨e, q⟩⟩
  · decide
  · skip
    by_cases h0 : d = 61
    · subst h0; decide
    simp [signN, signB, signsL, codeN, Lib.hasPrefix, List.isPrefixOf, h0, Ne.symm h0]
  · skip
    by_cases h0 : d = 61
    · subst h0
      simp [signN, signB, signsL, codeN, Lib.hasPrefix, List.isPrefixOf]
    simp [signN, signB, signsL, codeN, Lib.hasPrefix, List.isPrefixOf, h0, Ne.symm h0]
set_option maxRecDepth 100000 in
theorem sg123 (r : List UInt8) : signN (123 :: r) = codeN (123 :: r) := by
  rcases r with _ | ⟨d, _ | ⟨e, q⟩⟩
  · decide
  · skip
    simp [signN, signB, signsL, codeN]
  · skip
    simp [signN, signB, signsL, codeN]
set_option maxRecDepth 100000 in
theorem sg125 (r : List UInt8) : signN (125 :: r) = codeN (125 :: r) := by
  rcases r with _ | ⟨d, _ | ⟨e, q⟩⟩
  · decide
  · skip
    simp [signN, signB, signsL, codeN]
  · skip
    simp [signN, signB, signsL, codeN]
set_option maxRecDepth 100000 in
theorem sg40 (r : List UInt8) : signN (40 :: r) = codeN (40 :: r) := by
  rcases r with _ | ⟨d, _ | ⟨e, q⟩⟩
  · decide
  · skip
    simp [signN, signB, signsL, codeN]
  · skip
    simp [signN, signB, signsL, codeN]
set_option maxRecDepth 100000 in
theorem sg41 (r : List UInt8) : signN (41 :: r) = codeN (41 :: r) := by
  rcases r with _ | ⟨d, _ | ⟨e, q⟩⟩
  · decide
  · skip
    simp [signN, signB, signsL, codeN]
  · skip
    simp [signN, signB, signsL, codeN]
set_option maxRecDepth 100000 in
theorem sg91 (r : List UInt8) : signN (91 :: r) = codeN (91 :: r) := by
  rcases r with _ | ⟨d, _ | ⟨e, q⟩⟩
  · decide
  · skip
    simp [signN, signB, signsL, codeN]
  · skip
    simp [signN, signB, signsL, codeN]
set_option maxRecDepth 100000 in
theorem sg93 (r : List UInt8) : signN (93 :: r) = codeN (93 :: r) := by
  rcases r with _ | ⟨d, _ | ⟨e, q⟩⟩
  · decide
  · skip
    simp [signN, signB, signsL, codeN]
  · skip
    simp [signN, signB, signsL, codeN]
set_option maxRecDepth 100000 in
theorem sg46 (r : List UInt8) : signN (46 :: r) = codeN (46 :: r) := by
  rcases r with _ | ⟨d, _ | ⟨e, q⟩⟩
  · decide
  · skip
    simp [signN, signB, signsL, codeN]
  · skip
    simp [signN, signB, signsL, codeN]
set_option maxRecDepth 100000 in
theorem sg59 (r : List UInt8) : signN (59 :: r) = codeN (59 :: r) := by
  rcases r with _ | ⟨d, _ | ⟨e, q⟩⟩
  · decide
  · skip
    simp [signN, signB, signsL, codeN]
  · skip
    simp [signN, signB, signsL, codeN]
set_option maxRecDepth 100000 in
theorem sg44 (r : List UInt8) : signN (44 :: r) = codeN (44 :: r) := by
  rcases r with _ | ⟨d, _ | ⟨e, q⟩⟩
  · decide
  · skip
    simp [signN, signB, signsL, codeN]
  · skip
    simp [signN, signB, signsL, codeN]
set_option maxRecDepth 100000 in
theorem sg63 (r : List UInt8) : signN (63 :: r) = codeN (63 :: r) := by
  rcases r with _ | ⟨d, _ | ⟨e, q⟩⟩
  · decide
  · skip
    simp [signN, signB, signsL, codeN]
  · skip
    simp [signN, signB, signsL, codeN]
set_option maxRecDepth 100000 in
theorem sg58 (r : List UInt8) : signN (58 :: r) = codeN (58 :: r) := by
  rcases r with _ | ⟨d, _ | ⟨e, q⟩⟩
  · decide
  · skip
    simp [signN, signB, signsL, codeN]
  · skip
    simp [signN, signB, signsL, codeN]
set_option maxRecDepth 100000 in
theorem sg94 (r : List UInt8) : signN (94 :: r) = codeN (94 :: r) := by
  rcases r with _ | ⟨d, _ | ⟨e, q⟩⟩
  · decide
  · skip
    simp [signN, signB, signsL, codeN]
  · skip
    simp [signN, signB, signsL, codeN]
set_option maxRecDepth 100000 in
theorem sg126 (r : List UInt8) : signN (126 :: r) = codeN (126 :: r) := by
  rcases r with _ | ⟨d, _ | ⟨e, q⟩⟩
  · decide
  · skip
    simp [signN, signB, signsL, codeN]
  · skip
    simp [signN, signB, signsL, codeN]
set_option maxRecDepth 100000 in
theorem sg38 (r : List UInt8) : signN (38 :: r) = codeN (38 :: r) := by
  rcases r with _ | ⟨d, _ | ⟨e, q⟩⟩
  · decide
  · skip
    by_cases h0 : d = 38
    · subst h0; decide
    simp [signN, signB, signsL, codeN, Lib.hasPrefix, List.isPrefixOf, h0, Ne.symm h0]
  · skip
    by_cases h0 : d = 38
    · subst h0
      simp [signN, signB, signsL, codeN, Lib.hasPrefix, List.isPrefixOf]
    simp [signN, signB, signsL, codeN, Lib.hasPrefix, List.isPrefixOf, h0, Ne.symm h0]
set_option maxRecDepth 100000 in
theorem sg124 (r : List UInt8) : signN (124 :: r) = codeN (124 :: r) := by
  rcases r with _ | ⟨d, _ | ⟨e, q⟩⟩
  · decide
  · skip
    by_cases h0 : d = 124
    · subst h0; decide
    simp [signN, signB, signsL, codeN, Lib.hasPrefix, List.isPrefixOf, h0, Ne.symm h0]
  · skip
    by_cases h0 : d = 124
    · subst h0
      simp [signN, signB, signsL, codeN, Lib.hasPrefix, List.isPrefixOf]
    simp [signN, signB, signsL, codeN, Lib.hasPrefix, List.isPrefixOf, h0, Ne.symm h0]
set_option maxRecDepth 100000 in
theorem sg_none (c : UInt8) (r : List UInt8) (h : ¬ c = 61 ∧ ¬ c = 33 ∧ ¬ c = 62 ∧ ¬ c = 60 ∧ ¬ c = 43 ∧ ¬ c = 45 ∧ ¬ c = 42 ∧ ¬ c = 47 ∧ ¬ c = 37 ∧ ¬ c = 123 ∧ ¬ c = 125 ∧ ¬ c = 40 ∧ ¬ c = 41 ∧ ¬ c = 91 ∧ ¬ c = 93 ∧ ¬ c = 46 ∧ ¬ c = 59 ∧ ¬ c = 44 ∧ ¬ c = 63 ∧ ¬ c = 58 ∧ ¬ c = 94 ∧ ¬ c = 126 ∧ ¬ c = 38 ∧ ¬ c = 124) : signN (c :: r) = 0 := by
  obtain ⟨h61, h33, h62, h60, h43, h45, h42, h47, h37, h123, h125, h40, h41, h91, h93, h46, h59, h44, h63, h58, h94, h126, h38, h124⟩ := h
  rcases r with _ | ⟨d, _ | ⟨e, q⟩⟩ <;> simp [signN, signB, signsL, h61, h33, h62, h60, h43, h45, h42, h47, h37, h123, h125, h40, h41, h91, h93, h46, h59, h44, h63, h58, h94, h126, h38, h124]
set_option maxHeartbeats 1000000 in
theorem signed_61 (s : ByteArray) (r : List UInt8) (hL : s.data.toList = 61 :: r) (hs : s.size ≤ 9223372036854775807) (w : World) : Calls Tryz.prog 67 #[.string s] w (SignTo (signN s.data.toList) w) := by
  have h0 : 0 < s.size := by rw [size_len, hL]; simp
  have t0 : ((s[0].toNat : Nat) : Int) = 61 := by have := getElem_list s 0 h0; rw [hL] at this; injection this with this; rw [← this]; rfl
  have hr : (s.extract 1 s.size).data.toList = r := by rw [tail_list, hL]; rfl
  have HN : Hid (signN s.data.toList = codeN (61 :: r)) := Lib.hid (by rw [hL]; exact sg61 r)
  obtain ⟨b1, e1⟩ : ∃ b, Lib.hasPrefix r [61, 61] = b := ⟨_, rfl⟩
  obtain ⟨b2, e2⟩ : ∃ b, Lib.hasPrefix r [61] = b := ⟨_, rfl⟩
  have HC : Hid (codeN (61 :: r) = if b1 = true then 3 else if b2 = true then 2 else 1) := Lib.hid (by rw [← e1, ← e2]; rfl)
  have k0 := fun w => hpc (s.extract 1 s.size) ⟨#[61, 61]⟩ b1 (by rw [hr]; exact e1) w
  have k1 := fun w => hpc s ⟨#[62, 62, 62]⟩ false (by rw [hL]; rfl) w
  have k2 := fun w => hpc s ⟨#[62, 62]⟩ false (by rw [hL]; rfl) w
  have k3 := fun w => hpc s ⟨#[60, 60]⟩ false (by rw [hL]; rfl) w
  have k4 := fun w => hpc (s.extract 1 s.size) ⟨#[61]⟩ b2 (by rw [hr]; exact e2) w
  clear hL hr e1 e2
  all_goals cases b1
  all_goals cases b2
  all_goals
    go_enter Tryz.func67, Tryz.ntmps67
    go_wp2_with (first | (go_at_call 39; ((with_reducible refine (k0 _).mono ?_); rintro e w1 ⟨rfl, rfl⟩)) | (go_at_call 39; ((with_reducible refine (k1 _).mono ?_); rintro e w1 ⟨rfl, rfl⟩)) | (go_at_call 39; ((with_reducible refine (k2 _).mono ?_); rintro e w1 ⟨rfl, rfl⟩)) | (go_at_call 39; ((with_reducible refine (k3 _).mono ?_); rintro e w1 ⟨rfl, rfl⟩)) | (go_at_call 39; ((with_reducible refine (k4 _).mono ?_); rintro e w1 ⟨rfl, rfl⟩)))
    go_ret
    exact sign_to (by rw [HN.out, HC.out]; rfl) _
set_option maxHeartbeats 1000000 in
theorem signed_33 (s : ByteArray) (r : List UInt8) (hL : s.data.toList = 33 :: r) (hs : s.size ≤ 9223372036854775807) (w : World) : Calls Tryz.prog 67 #[.string s] w (SignTo (signN s.data.toList) w) := by
  have h0 : 0 < s.size := by rw [size_len, hL]; simp
  have t0 : ((s[0].toNat : Nat) : Int) = 33 := by have := getElem_list s 0 h0; rw [hL] at this; injection this with this; rw [← this]; rfl
  have hr : (s.extract 1 s.size).data.toList = r := by rw [tail_list, hL]; rfl
  have HN : Hid (signN s.data.toList = codeN (33 :: r)) := Lib.hid (by rw [hL]; exact sg33 r)
  obtain ⟨b1, e1⟩ : ∃ b, Lib.hasPrefix r [61, 61] = b := ⟨_, rfl⟩
  obtain ⟨b2, e2⟩ : ∃ b, Lib.hasPrefix r [61] = b := ⟨_, rfl⟩
  have HC : Hid (codeN (33 :: r) = if b1 = true then 3 else if b2 = true then 2 else 1) := Lib.hid (by rw [← e1, ← e2]; rfl)
  have k0 := fun w => hpc (s.extract 1 s.size) ⟨#[61, 61]⟩ b1 (by rw [hr]; exact e1) w
  have k1 := fun w => hpc s ⟨#[62, 62, 62]⟩ false (by rw [hL]; rfl) w
  have k2 := fun w => hpc s ⟨#[62, 62]⟩ false (by rw [hL]; rfl) w
  have k3 := fun w => hpc s ⟨#[60, 60]⟩ false (by rw [hL]; rfl) w
  have k4 := fun w => hpc (s.extract 1 s.size) ⟨#[61]⟩ b2 (by rw [hr]; exact e2) w
  clear hL hr e1 e2
  all_goals cases b1
  all_goals cases b2
  all_goals
    go_enter Tryz.func67, Tryz.ntmps67
    go_wp2_with (first | (go_at_call 39; ((with_reducible refine (k0 _).mono ?_); rintro e w1 ⟨rfl, rfl⟩)) | (go_at_call 39; ((with_reducible refine (k1 _).mono ?_); rintro e w1 ⟨rfl, rfl⟩)) | (go_at_call 39; ((with_reducible refine (k2 _).mono ?_); rintro e w1 ⟨rfl, rfl⟩)) | (go_at_call 39; ((with_reducible refine (k3 _).mono ?_); rintro e w1 ⟨rfl, rfl⟩)) | (go_at_call 39; ((with_reducible refine (k4 _).mono ?_); rintro e w1 ⟨rfl, rfl⟩)))
    go_ret
    exact sign_to (by rw [HN.out, HC.out]; rfl) _
set_option maxHeartbeats 1000000 in
theorem signed_62 (s : ByteArray) (r : List UInt8) (hL : s.data.toList = 62 :: r) (hs : s.size ≤ 9223372036854775807) (w : World) : Calls Tryz.prog 67 #[.string s] w (SignTo (signN s.data.toList) w) := by
  have h0 : 0 < s.size := by rw [size_len, hL]; simp
  have t0 : ((s[0].toNat : Nat) : Int) = 62 := by have := getElem_list s 0 h0; rw [hL] at this; injection this with this; rw [← this]; rfl
  have hr : (s.extract 1 s.size).data.toList = r := by rw [tail_list, hL]; rfl
  have HN : Hid (signN s.data.toList = codeN (62 :: r)) := Lib.hid (by rw [hL]; exact sg62 r)
  obtain ⟨b1, e1⟩ : ∃ b, Lib.hasPrefix r [62, 62] = b := ⟨_, rfl⟩
  obtain ⟨b2, e2⟩ : ∃ b, Lib.hasPrefix r [62] = b := ⟨_, rfl⟩
  obtain ⟨b3, e3⟩ : ∃ b, Lib.hasPrefix r [61] = b := ⟨_, rfl⟩
  have HC : Hid (codeN (62 :: r) = if b1 = true then 3 else if b2 = true then 2 else if b3 = true then 2 else 1) := Lib.hid (by rw [← e1, ← e2, ← e3]; rfl)
  have k0 := fun w => hpc s ⟨#[62, 62, 62]⟩ b1 (by rw [hL]; exact e1) w
  have k1 := fun w => hpc s ⟨#[62, 62]⟩ b2 (by rw [hL]; exact e2) w
  have k2 := fun w => hpc s ⟨#[60, 60]⟩ false (by rw [hL]; rfl) w
  have k3 := fun w => hpc (s.extract 1 s.size) ⟨#[61]⟩ b3 (by rw [hr]; exact e3) w
  clear hL hr e1 e2 e3
  all_goals cases b1
  all_goals cases b2
  all_goals cases b3
  all_goals
    go_enter Tryz.func67, Tryz.ntmps67
    go_wp2_with (first | (go_at_call 39; ((with_reducible refine (k0 _).mono ?_); rintro e w1 ⟨rfl, rfl⟩)) | (go_at_call 39; ((with_reducible refine (k1 _).mono ?_); rintro e w1 ⟨rfl, rfl⟩)) | (go_at_call 39; ((with_reducible refine (k2 _).mono ?_); rintro e w1 ⟨rfl, rfl⟩)) | (go_at_call 39; ((with_reducible refine (k3 _).mono ?_); rintro e w1 ⟨rfl, rfl⟩)))
    go_ret
    exact sign_to (by rw [HN.out, HC.out]; rfl) _
set_option maxHeartbeats 1000000 in
theorem signed_60 (s : ByteArray) (r : List UInt8) (hL : s.data.toList = 60 :: r) (hs : s.size ≤ 9223372036854775807) (w : World) : Calls Tryz.prog 67 #[.string s] w (SignTo (signN s.data.toList) w) := by
  have h0 : 0 < s.size := by rw [size_len, hL]; simp
  have t0 : ((s[0].toNat : Nat) : Int) = 60 := by have := getElem_list s 0 h0; rw [hL] at this; injection this with this; rw [← this]; rfl
  have hr : (s.extract 1 s.size).data.toList = r := by rw [tail_list, hL]; rfl
  have HN : Hid (signN s.data.toList = codeN (60 :: r)) := Lib.hid (by rw [hL]; exact sg60 r)
  obtain ⟨b2, e2⟩ : ∃ b, Lib.hasPrefix r [60] = b := ⟨_, rfl⟩
  obtain ⟨b3, e3⟩ : ∃ b, Lib.hasPrefix r [61] = b := ⟨_, rfl⟩
  have HC : Hid (codeN (60 :: r) = if b2 = true then 2 else if b3 = true then 2 else 1) := Lib.hid (by rw [← e2, ← e3]; rfl)
  have k0 := fun w => hpc s ⟨#[62, 62]⟩ false (by rw [hL]; rfl) w
  have k1 := fun w => hpc s ⟨#[60, 60]⟩ b2 (by rw [hL]; exact e2) w
  have k2 := fun w => hpc (s.extract 1 s.size) ⟨#[61]⟩ b3 (by rw [hr]; exact e3) w
  clear hL hr e2 e3
  all_goals cases b2
  all_goals cases b3
  all_goals
    go_enter Tryz.func67, Tryz.ntmps67
    go_wp2_with (first | (go_at_call 39; ((with_reducible refine (k0 _).mono ?_); rintro e w1 ⟨rfl, rfl⟩)) | (go_at_call 39; ((with_reducible refine (k1 _).mono ?_); rintro e w1 ⟨rfl, rfl⟩)) | (go_at_call 39; ((with_reducible refine (k2 _).mono ?_); rintro e w1 ⟨rfl, rfl⟩)))
    go_ret
    exact sign_to (by rw [HN.out, HC.out]; rfl) _
set_option maxHeartbeats 1000000 in
theorem signed_43 (s : ByteArray) (r : List UInt8) (hL : s.data.toList = 43 :: r) (hs : s.size ≤ 9223372036854775807) (w : World) : Calls Tryz.prog 67 #[.string s] w (SignTo (signN s.data.toList) w) := by
  have h0 : 0 < s.size := by rw [size_len, hL]; simp
  have t0 : ((s[0].toNat : Nat) : Int) = 43 := by have := getElem_list s 0 h0; rw [hL] at this; injection this with this; rw [← this]; rfl
  have hr : (s.extract 1 s.size).data.toList = r := by rw [tail_list, hL]; rfl
  have HN : Hid (signN s.data.toList = codeN (43 :: r)) := Lib.hid (by rw [hL]; exact sg43 r)
  obtain ⟨b3, e3⟩ : ∃ b, Lib.hasPrefix r [61] = b := ⟨_, rfl⟩
  have HC : Hid (codeN (43 :: r) = if b3 = true then 2 else 1) := Lib.hid (by rw [← e3]; rfl)
  have k0 := fun w => hpc (s.extract 1 s.size) ⟨#[61]⟩ b3 (by rw [hr]; exact e3) w
  clear hL hr e3
  all_goals cases b3
  all_goals
    go_enter Tryz.func67, Tryz.ntmps67
    go_wp2_with (first | (go_at_call 39; ((with_reducible refine (k0 _).mono ?_); rintro e w1 ⟨rfl, rfl⟩)))
    go_ret
    exact sign_to (by rw [HN.out, HC.out]; rfl) _
set_option maxHeartbeats 1000000 in
theorem signed_45 (s : ByteArray) (r : List UInt8) (hL : s.data.toList = 45 :: r) (hs : s.size ≤ 9223372036854775807) (w : World) : Calls Tryz.prog 67 #[.string s] w (SignTo (signN s.data.toList) w) := by
  have h0 : 0 < s.size := by rw [size_len, hL]; simp
  have t0 : ((s[0].toNat : Nat) : Int) = 45 := by have := getElem_list s 0 h0; rw [hL] at this; injection this with this; rw [← this]; rfl
  have hr : (s.extract 1 s.size).data.toList = r := by rw [tail_list, hL]; rfl
  have HN : Hid (signN s.data.toList = codeN (45 :: r)) := Lib.hid (by rw [hL]; exact sg45 r)
  obtain ⟨b3, e3⟩ : ∃ b, Lib.hasPrefix r [61] = b := ⟨_, rfl⟩
  have HC : Hid (codeN (45 :: r) = if b3 = true then 2 else 1) := Lib.hid (by rw [← e3]; rfl)
  have k0 := fun w => hpc (s.extract 1 s.size) ⟨#[61]⟩ b3 (by rw [hr]; exact e3) w
  clear hL hr e3
  all_goals cases b3
  all_goals
    go_enter Tryz.func67, Tryz.ntmps67
    go_wp2_with (first | (go_at_call 39; ((with_reducible refine (k0 _).mono ?_); rintro e w1 ⟨rfl, rfl⟩)))
    go_ret
    exact sign_to (by rw [HN.out, HC.out]; rfl) _
set_option maxHeartbeats 1000000 in
theorem signed_42 (s : ByteArray) (r : List UInt8) (hL : s.data.toList = 42 :: r) (hs : s.size ≤ 9223372036854775807) (w : World) : Calls Tryz.prog 67 #[.string s] w (SignTo (signN s.data.toList) w) := by
  have h0 : 0 < s.size := by rw [size_len, hL]; simp
  have t0 : ((s[0].toNat : Nat) : Int) = 42 := by have := getElem_list s 0 h0; rw [hL] at this; injection this with this; rw [← this]; rfl
  have hr : (s.extract 1 s.size).data.toList = r := by rw [tail_list, hL]; rfl
  have HN : Hid (signN s.data.toList = codeN (42 :: r)) := Lib.hid (by rw [hL]; exact sg42 r)
  obtain ⟨b3, e3⟩ : ∃ b, Lib.hasPrefix r [61] = b := ⟨_, rfl⟩
  have HC : Hid (codeN (42 :: r) = if b3 = true then 2 else 1) := Lib.hid (by rw [← e3]; rfl)
  have k0 := fun w => hpc (s.extract 1 s.size) ⟨#[61]⟩ b3 (by rw [hr]; exact e3) w
  clear hL hr e3
  all_goals cases b3
  all_goals
    go_enter Tryz.func67, Tryz.ntmps67
    go_wp2_with (first | (go_at_call 39; ((with_reducible refine (k0 _).mono ?_); rintro e w1 ⟨rfl, rfl⟩)))
    go_ret
    exact sign_to (by rw [HN.out, HC.out]; rfl) _
set_option maxHeartbeats 1000000 in
theorem signed_47 (s : ByteArray) (r : List UInt8) (hL : s.data.toList = 47 :: r) (hs : s.size ≤ 9223372036854775807) (w : World) : Calls Tryz.prog 67 #[.string s] w (SignTo (signN s.data.toList) w) := by
  have h0 : 0 < s.size := by rw [size_len, hL]; simp
  have t0 : ((s[0].toNat : Nat) : Int) = 47 := by have := getElem_list s 0 h0; rw [hL] at this; injection this with this; rw [← this]; rfl
  have hr : (s.extract 1 s.size).data.toList = r := by rw [tail_list, hL]; rfl
  have HN : Hid (signN s.data.toList = codeN (47 :: r)) := Lib.hid (by rw [hL]; exact sg47 r)
  obtain ⟨b3, e3⟩ : ∃ b, Lib.hasPrefix r [61] = b := ⟨_, rfl⟩
  have HC : Hid (codeN (47 :: r) = if b3 = true then 2 else 1) := Lib.hid (by rw [← e3]; rfl)
  have k0 := fun w => hpc (s.extract 1 s.size) ⟨#[61]⟩ b3 (by rw [hr]; exact e3) w
  clear hL hr e3
  all_goals cases b3
  all_goals
    go_enter Tryz.func67, Tryz.ntmps67
    go_wp2_with (first | (go_at_call 39; ((with_reducible refine (k0 _).mono ?_); rintro e w1 ⟨rfl, rfl⟩)))
    go_ret
    exact sign_to (by rw [HN.out, HC.out]; rfl) _
set_option maxHeartbeats 1000000 in
theorem signed_37 (s : ByteArray) (r : List UInt8) (hL : s.data.toList = 37 :: r) (hs : s.size ≤ 9223372036854775807) (w : World) : Calls Tryz.prog 67 #[.string s] w (SignTo (signN s.data.toList) w) := by
  have h0 : 0 < s.size := by rw [size_len, hL]; simp
  have t0 : ((s[0].toNat : Nat) : Int) = 37 := by have := getElem_list s 0 h0; rw [hL] at this; injection this with this; rw [← this]; rfl
  have hr : (s.extract 1 s.size).data.toList = r := by rw [tail_list, hL]; rfl
  have HN : Hid (signN s.data.toList = codeN (37 :: r)) := Lib.hid (by rw [hL]; exact sg37 r)
  obtain ⟨b3, e3⟩ : ∃ b, Lib.hasPrefix r [61] = b := ⟨_, rfl⟩
  have HC : Hid (codeN (37 :: r) = if b3 = true then 2 else 1) := Lib.hid (by rw [← e3]; rfl)
  have k0 := fun w => hpc (s.extract 1 s.size) ⟨#[61]⟩ b3 (by rw [hr]; exact e3) w
  clear hL hr e3
  all_goals cases b3
  all_goals
    go_enter Tryz.func67, Tryz.ntmps67
    go_wp2_with (first | (go_at_call 39; ((with_reducible refine (k0 _).mono ?_); rintro e w1 ⟨rfl, rfl⟩)))
    go_ret
    exact sign_to (by rw [HN.out, HC.out]; rfl) _
set_option maxHeartbeats 1000000 in
theorem signed_123 (s : ByteArray) (r : List UInt8) (hL : s.data.toList = 123 :: r) (_hs : s.size ≤ 9223372036854775807) (w : World) : Calls Tryz.prog 67 #[.string s] w (SignTo (signN s.data.toList) w) := by
  have h0 : 0 < s.size := by rw [size_len, hL]; simp
  have t0 : ((s[0].toNat : Nat) : Int) = 123 := by have := getElem_list s 0 h0; rw [hL] at this; injection this with this; rw [← this]; rfl
  have hr : (s.extract 1 s.size).data.toList = r := by rw [tail_list, hL]; rfl
  have HN : Hid (signN s.data.toList = codeN (123 :: r)) := Lib.hid (by rw [hL]; exact sg123 r)
  have HC : Hid (codeN (123 :: r) = 1) := Lib.hid rfl
  clear hL hr 
  all_goals
    go_enter Tryz.func67, Tryz.ntmps67
    go_wp2_with (fail)
    go_ret
    exact sign_to (by rw [HN.out, HC.out]; rfl) _
set_option maxHeartbeats 1000000 in
theorem signed_125 (s : ByteArray) (r : List UInt8) (hL : s.data.toList = 125 :: r) (_hs : s.size ≤ 9223372036854775807) (w : World) : Calls Tryz.prog 67 #[.string s] w (SignTo (signN s.data.toList) w) := by
  have h0 : 0 < s.size := by rw [size_len, hL]; simp
  have t0 : ((s[0].toNat : Nat) : Int) = 125 := by have := getElem_list s 0 h0; rw [hL] at this; injection this with this; rw [← this]; rfl
  have hr : (s.extract 1 s.size).data.toList = r := by rw [tail_list, hL]; rfl
  have HN : Hid (signN s.data.toList = codeN (125 :: r)) := Lib.hid (by rw [hL]; exact sg125 r)
  have HC : Hid (codeN (125 :: r) = 1) := Lib.hid rfl
  clear hL hr 
  all_goals
    go_enter Tryz.func67, Tryz.ntmps67
    go_wp2_with (fail)
    go_ret
    exact sign_to (by rw [HN.out, HC.out]; rfl) _
set_option maxHeartbeats 1000000 in
theorem signed_40 (s : ByteArray) (r : List UInt8) (hL : s.data.toList = 40 :: r) (_hs : s.size ≤ 9223372036854775807) (w : World) : Calls Tryz.prog 67 #[.string s] w (SignTo (signN s.data.toList) w) := by
  have h0 : 0 < s.size := by rw [size_len, hL]; simp
  have t0 : ((s[0].toNat : Nat) : Int) = 40 := by have := getElem_list s 0 h0; rw [hL] at this; injection this with this; rw [← this]; rfl
  have hr : (s.extract 1 s.size).data.toList = r := by rw [tail_list, hL]; rfl
  have HN : Hid (signN s.data.toList = codeN (40 :: r)) := Lib.hid (by rw [hL]; exact sg40 r)
  have HC : Hid (codeN (40 :: r) = 1) := Lib.hid rfl
  clear hL hr 
  all_goals
    go_enter Tryz.func67, Tryz.ntmps67
    go_wp2_with (fail)
    go_ret
    exact sign_to (by rw [HN.out, HC.out]; rfl) _
set_option maxHeartbeats 1000000 in
theorem signed_41 (s : ByteArray) (r : List UInt8) (hL : s.data.toList = 41 :: r) (_hs : s.size ≤ 9223372036854775807) (w : World) : Calls Tryz.prog 67 #[.string s] w (SignTo (signN s.data.toList) w) := by
  have h0 : 0 < s.size := by rw [size_len, hL]; simp
  have t0 : ((s[0].toNat : Nat) : Int) = 41 := by have := getElem_list s 0 h0; rw [hL] at this; injection this with this; rw [← this]; rfl
  have hr : (s.extract 1 s.size).data.toList = r := by rw [tail_list, hL]; rfl
  have HN : Hid (signN s.data.toList = codeN (41 :: r)) := Lib.hid (by rw [hL]; exact sg41 r)
  have HC : Hid (codeN (41 :: r) = 1) := Lib.hid rfl
  clear hL hr 
  all_goals
    go_enter Tryz.func67, Tryz.ntmps67
    go_wp2_with (fail)
    go_ret
    exact sign_to (by rw [HN.out, HC.out]; rfl) _
set_option maxHeartbeats 1000000 in
theorem signed_91 (s : ByteArray) (r : List UInt8) (hL : s.data.toList = 91 :: r) (_hs : s.size ≤ 9223372036854775807) (w : World) : Calls Tryz.prog 67 #[.string s] w (SignTo (signN s.data.toList) w) := by
  have h0 : 0 < s.size := by rw [size_len, hL]; simp
  have t0 : ((s[0].toNat : Nat) : Int) = 91 := by have := getElem_list s 0 h0; rw [hL] at this; injection this with this; rw [← this]; rfl
  have hr : (s.extract 1 s.size).data.toList = r := by rw [tail_list, hL]; rfl
  have HN : Hid (signN s.data.toList = codeN (91 :: r)) := Lib.hid (by rw [hL]; exact sg91 r)
  have HC : Hid (codeN (91 :: r) = 1) := Lib.hid rfl
  clear hL hr 
  all_goals
    go_enter Tryz.func67, Tryz.ntmps67
    go_wp2_with (fail)
    go_ret
    exact sign_to (by rw [HN.out, HC.out]; rfl) _
set_option maxHeartbeats 1000000 in
theorem signed_93 (s : ByteArray) (r : List UInt8) (hL : s.data.toList = 93 :: r) (_hs : s.size ≤ 9223372036854775807) (w : World) : Calls Tryz.prog 67 #[.string s] w (SignTo (signN s.data.toList) w) := by
  have h0 : 0 < s.size := by rw [size_len, hL]; simp
  have t0 : ((s[0].toNat : Nat) : Int) = 93 := by have := getElem_list s 0 h0; rw [hL] at this; injection this with this; rw [← this]; rfl
  have hr : (s.extract 1 s.size).data.toList = r := by rw [tail_list, hL]; rfl
  have HN : Hid (signN s.data.toList = codeN (93 :: r)) := Lib.hid (by rw [hL]; exact sg93 r)
  have HC : Hid (codeN (93 :: r) = 1) := Lib.hid rfl
  clear hL hr 
  all_goals
    go_enter Tryz.func67, Tryz.ntmps67
    go_wp2_with (fail)
    go_ret
    exact sign_to (by rw [HN.out, HC.out]; rfl) _
set_option maxHeartbeats 1000000 in
theorem signed_46 (s : ByteArray) (r : List UInt8) (hL : s.data.toList = 46 :: r) (_hs : s.size ≤ 9223372036854775807) (w : World) : Calls Tryz.prog 67 #[.string s] w (SignTo (signN s.data.toList) w) := by
  have h0 : 0 < s.size := by rw [size_len, hL]; simp
  have t0 : ((s[0].toNat : Nat) : Int) = 46 := by have := getElem_list s 0 h0; rw [hL] at this; injection this with this; rw [← this]; rfl
  have hr : (s.extract 1 s.size).data.toList = r := by rw [tail_list, hL]; rfl
  have HN : Hid (signN s.data.toList = codeN (46 :: r)) := Lib.hid (by rw [hL]; exact sg46 r)
  have HC : Hid (codeN (46 :: r) = 1) := Lib.hid rfl
  clear hL hr 
  all_goals
    go_enter Tryz.func67, Tryz.ntmps67
    go_wp2_with (fail)
    go_ret
    exact sign_to (by rw [HN.out, HC.out]; rfl) _
set_option maxHeartbeats 1000000 in
theorem signed_59 (s : ByteArray) (r : List UInt8) (hL : s.data.toList = 59 :: r) (_hs : s.size ≤ 9223372036854775807) (w : World) : Calls Tryz.prog 67 #[.string s] w (SignTo (signN s.data.toList) w) := by
  have h0 : 0 < s.size := by rw [size_len, hL]; simp
  have t0 : ((s[0].toNat : Nat) : Int) = 59 := by have := getElem_list s 0 h0; rw [hL] at this; injection this with this; rw [← this]; rfl
  have hr : (s.extract 1 s.size).data.toList = r := by rw [tail_list, hL]; rfl
  have HN : Hid (signN s.data.toList = codeN (59 :: r)) := Lib.hid (by rw [hL]; exact sg59 r)
  have HC : Hid (codeN (59 :: r) = 1) := Lib.hid rfl
  clear hL hr 
  all_goals
    go_enter Tryz.func67, Tryz.ntmps67
    go_wp2_with (fail)
    go_ret
    exact sign_to (by rw [HN.out, HC.out]; rfl) _
set_option maxHeartbeats 1000000 in
theorem signed_44 (s : ByteArray) (r : List UInt8) (hL : s.data.toList = 44 :: r) (_hs : s.size ≤ 9223372036854775807) (w : World) : Calls Tryz.prog 67 #[.string s] w (SignTo (signN s.data.toList) w) := by
  have h0 : 0 < s.size := by rw [size_len, hL]; simp
  have t0 : ((s[0].toNat : Nat) : Int) = 44 := by have := getElem_list s 0 h0; rw [hL] at this; injection this with this; rw [← this]; rfl
  have hr : (s.extract 1 s.size).data.toList = r := by rw [tail_list, hL]; rfl
  have HN : Hid (signN s.data.toList = codeN (44 :: r)) := Lib.hid (by rw [hL]; exact sg44 r)
  have HC : Hid (codeN (44 :: r) = 1) := Lib.hid rfl
  clear hL hr 
  all_goals
    go_enter Tryz.func67, Tryz.ntmps67
    go_wp2_with (fail)
    go_ret
    exact sign_to (by rw [HN.out, HC.out]; rfl) _
set_option maxHeartbeats 1000000 in
theorem signed_63 (s : ByteArray) (r : List UInt8) (hL : s.data.toList = 63 :: r) (_hs : s.size ≤ 9223372036854775807) (w : World) : Calls Tryz.prog 67 #[.string s] w (SignTo (signN s.data.toList) w) := by
  have h0 : 0 < s.size := by rw [size_len, hL]; simp
  have t0 : ((s[0].toNat : Nat) : Int) = 63 := by have := getElem_list s 0 h0; rw [hL] at this; injection this with this; rw [← this]; rfl
  have hr : (s.extract 1 s.size).data.toList = r := by rw [tail_list, hL]; rfl
  have HN : Hid (signN s.data.toList = codeN (63 :: r)) := Lib.hid (by rw [hL]; exact sg63 r)
  have HC : Hid (codeN (63 :: r) = 1) := Lib.hid rfl
  clear hL hr 
  all_goals
    go_enter Tryz.func67, Tryz.ntmps67
    go_wp2_with (fail)
    go_ret
    exact sign_to (by rw [HN.out, HC.out]; rfl) _
set_option maxHeartbeats 1000000 in
theorem signed_58 (s : ByteArray) (r : List UInt8) (hL : s.data.toList = 58 :: r) (_hs : s.size ≤ 9223372036854775807) (w : World) : Calls Tryz.prog 67 #[.string s] w (SignTo (signN s.data.toList) w) := by
  have h0 : 0 < s.size := by rw [size_len, hL]; simp
  have t0 : ((s[0].toNat : Nat) : Int) = 58 := by have := getElem_list s 0 h0; rw [hL] at this; injection this with this; rw [← this]; rfl
  have hr : (s.extract 1 s.size).data.toList = r := by rw [tail_list, hL]; rfl
  have HN : Hid (signN s.data.toList = codeN (58 :: r)) := Lib.hid (by rw [hL]; exact sg58 r)
  have HC : Hid (codeN (58 :: r) = 1) := Lib.hid rfl
  clear hL hr 
  all_goals
    go_enter Tryz.func67, Tryz.ntmps67
    go_wp2_with (fail)
    go_ret
    exact sign_to (by rw [HN.out, HC.out]; rfl) _
set_option maxHeartbeats 1000000 in
theorem signed_94 (s : ByteArray) (r : List UInt8) (hL : s.data.toList = 94 :: r) (_hs : s.size ≤ 9223372036854775807) (w : World) : Calls Tryz.prog 67 #[.string s] w (SignTo (signN s.data.toList) w) := by
  have h0 : 0 < s.size := by rw [size_len, hL]; simp
  have t0 : ((s[0].toNat : Nat) : Int) = 94 := by have := getElem_list s 0 h0; rw [hL] at this; injection this with this; rw [← this]; rfl
  have hr : (s.extract 1 s.size).data.toList = r := by rw [tail_list, hL]; rfl
  have HN : Hid (signN s.data.toList = codeN (94 :: r)) := Lib.hid (by rw [hL]; exact sg94 r)
  have HC : Hid (codeN (94 :: r) = 1) := Lib.hid rfl
  clear hL hr 
  all_goals
    go_enter Tryz.func67, Tryz.ntmps67
    go_wp2_with (fail)
    go_ret
    exact sign_to (by rw [HN.out, HC.out]; rfl) _
set_option maxHeartbeats 1000000 in
theorem signed_126 (s : ByteArray) (r : List UInt8) (hL : s.data.toList = 126 :: r) (_hs : s.size ≤ 9223372036854775807) (w : World) : Calls Tryz.prog 67 #[.string s] w (SignTo (signN s.data.toList) w) := by
  have h0 : 0 < s.size := by rw [size_len, hL]; simp
  have t0 : ((s[0].toNat : Nat) : Int) = 126 := by have := getElem_list s 0 h0; rw [hL] at this; injection this with this; rw [← this]; rfl
  have hr : (s.extract 1 s.size).data.toList = r := by rw [tail_list, hL]; rfl
  have HN : Hid (signN s.data.toList = codeN (126 :: r)) := Lib.hid (by rw [hL]; exact sg126 r)
  have HC : Hid (codeN (126 :: r) = 1) := Lib.hid rfl
  clear hL hr 
  all_goals
    go_enter Tryz.func67, Tryz.ntmps67
    go_wp2_with (fail)
    go_ret
    exact sign_to (by rw [HN.out, HC.out]; rfl) _
set_option maxHeartbeats 1000000 in
theorem signed_38 (s : ByteArray) (r : List UInt8) (hL : s.data.toList = 38 :: r) (hs : s.size ≤ 9223372036854775807) (w : World) : Calls Tryz.prog 67 #[.string s] w (SignTo (signN s.data.toList) w) := by
  have h0 : 0 < s.size := by rw [size_len, hL]; simp
  have t0 : ((s[0].toNat : Nat) : Int) = 38 := by have := getElem_list s 0 h0; rw [hL] at this; injection this with this; rw [← this]; rfl
  have hr : (s.extract 1 s.size).data.toList = r := by rw [tail_list, hL]; rfl
  have HN : Hid (signN s.data.toList = codeN (38 :: r)) := Lib.hid (by rw [hL]; exact sg38 r)
  obtain ⟨b3, e3⟩ : ∃ b, Lib.hasPrefix r [38] = b := ⟨_, rfl⟩
  have HC : Hid (codeN (38 :: r) = if b3 = true then 2 else 1) := Lib.hid (by rw [← e3]; rfl)
  have hf : (s.extract 0 1).data.toList = [38] := by rw [extract_list, hL]; rfl
  have k0 := fun w => hpc (s.extract 1 s.size) (s.extract 0 1) b3 (by rw [hr, hf]; exact e3) w
  have q0 := fun (w : World) n => (k0 (w.drewN n)).mono fun e w' (h : _ ∧ _) => show e = _ ∧ w' = w.drewN n from ⟨h.1, h.2.symm⟩
  have hs1 : (1 : Int) ≤ (s.size : Int) := by omega
  clear hf
  clear hL hr e3
  all_goals cases b3
  all_goals
    go_enter Tryz.func67, Tryz.ntmps67
    go_wp2_with (fail)
    go_quiet ((go_at_call 39; exact Calls.quiet_of_same (q0 _ _)))
    go_wp2_with (fail)
    go_ret
    exact sign_to_n (by rw [HN.out, HC.out]; rfl) _ _
set_option maxHeartbeats 1000000 in
theorem signed_124 (s : ByteArray) (r : List UInt8) (hL : s.data.toList = 124 :: r) (hs : s.size ≤ 9223372036854775807) (w : World) : Calls Tryz.prog 67 #[.string s] w (SignTo (signN s.data.toList) w) := by
  have h0 : 0 < s.size := by rw [size_len, hL]; simp
  have t0 : ((s[0].toNat : Nat) : Int) = 124 := by have := getElem_list s 0 h0; rw [hL] at this; injection this with this; rw [← this]; rfl
  have hr : (s.extract 1 s.size).data.toList = r := by rw [tail_list, hL]; rfl
  have HN : Hid (signN s.data.toList = codeN (124 :: r)) := Lib.hid (by rw [hL]; exact sg124 r)
  obtain ⟨b3, e3⟩ : ∃ b, Lib.hasPrefix r [124] = b := ⟨_, rfl⟩
  have HC : Hid (codeN (124 :: r) = if b3 = true then 2 else 1) := Lib.hid (by rw [← e3]; rfl)
  have hf : (s.extract 0 1).data.toList = [124] := by rw [extract_list, hL]; rfl
  have k0 := fun w => hpc (s.extract 1 s.size) (s.extract 0 1) b3 (by rw [hr, hf]; exact e3) w
  have q0 := fun (w : World) n => (k0 (w.drewN n)).mono fun e w' (h : _ ∧ _) => show e = _ ∧ w' = w.drewN n from ⟨h.1, h.2.symm⟩
  have hs1 : (1 : Int) ≤ (s.size : Int) := by omega
  clear hf
  clear hL hr e3
  all_goals cases b3
  all_goals
    go_enter Tryz.func67, Tryz.ntmps67
    go_wp2_with (fail)
    go_quiet ((go_at_call 39; exact Calls.quiet_of_same (q0 _ _)))
    go_wp2_with (fail)
    go_ret
    exact sign_to_n (by rw [HN.out, HC.out]; rfl) _ _
set_option maxHeartbeats 1000000 in
theorem signed_none (s : ByteArray) (c : UInt8) (r : List UInt8) (hL : s.data.toList = c :: r) (h : ¬ c = 61 ∧ ¬ c = 33 ∧ ¬ c = 62 ∧ ¬ c = 60 ∧ ¬ c = 43 ∧ ¬ c = 45 ∧ ¬ c = 42 ∧ ¬ c = 47 ∧ ¬ c = 37 ∧ ¬ c = 123 ∧ ¬ c = 125 ∧ ¬ c = 40 ∧ ¬ c = 41 ∧ ¬ c = 91 ∧ ¬ c = 93 ∧ ¬ c = 46 ∧ ¬ c = 59 ∧ ¬ c = 44 ∧ ¬ c = 63 ∧ ¬ c = 58 ∧ ¬ c = 94 ∧ ¬ c = 126 ∧ ¬ c = 38 ∧ ¬ c = 124) (_hs : s.size ≤ 9223372036854775807) (w : World) : Calls Tryz.prog 67 #[.string s] w (SignTo (signN s.data.toList) w) := by
  have h0 : 0 < s.size := by rw [size_len, hL]; simp
  have hc : s[0] = c := by have := getElem_list s 0 h0; rw [hL] at this; injection this with this; exact this.symm
  have HN : Hid (signN s.data.toList = 0) := Lib.hid (by rw [hL]; exact sg_none c r h)
  obtain ⟨h61, h33, h62, h60, h43, h45, h42, h47, h37, h123, h125, h40, h41, h91, h93, h46, h59, h44, h63, h58, h94, h126, h38, h124⟩ := h
  have n61 : ¬ ((s[0].toNat : Nat) : Int) = 61 := byte_ne rfl (by rw [hc]; exact h61)
  have n33 : ¬ ((s[0].toNat : Nat) : Int) = 33 := byte_ne rfl (by rw [hc]; exact h33)
  have n62 : ¬ ((s[0].toNat : Nat) : Int) = 62 := byte_ne rfl (by rw [hc]; exact h62)
  have n60 : ¬ ((s[0].toNat : Nat) : Int) = 60 := byte_ne rfl (by rw [hc]; exact h60)
  have n43 : ¬ ((s[0].toNat : Nat) : Int) = 43 := byte_ne rfl (by rw [hc]; exact h43)
  have n45 : ¬ ((s[0].toNat : Nat) : Int) = 45 := byte_ne rfl (by rw [hc]; exact h45)
  have n42 : ¬ ((s[0].toNat : Nat) : Int) = 42 := byte_ne rfl (by rw [hc]; exact h42)
  have n47 : ¬ ((s[0].toNat : Nat) : Int) = 47 := byte_ne rfl (by rw [hc]; exact h47)
  have n37 : ¬ ((s[0].toNat : Nat) : Int) = 37 := byte_ne rfl (by rw [hc]; exact h37)
  have n123 : ¬ ((s[0].toNat : Nat) : Int) = 123 := byte_ne rfl (by rw [hc]; exact h123)
  have n125 : ¬ ((s[0].toNat : Nat) : Int) = 125 := byte_ne rfl (by rw [hc]; exact h125)
  have n40 : ¬ ((s[0].toNat : Nat) : Int) = 40 := byte_ne rfl (by rw [hc]; exact h40)
  have n41 : ¬ ((s[0].toNat : Nat) : Int) = 41 := byte_ne rfl (by rw [hc]; exact h41)
  have n91 : ¬ ((s[0].toNat : Nat) : Int) = 91 := byte_ne rfl (by rw [hc]; exact h91)
  have n93 : ¬ ((s[0].toNat : Nat) : Int) = 93 := byte_ne rfl (by rw [hc]; exact h93)
  have n46 : ¬ ((s[0].toNat : Nat) : Int) = 46 := byte_ne rfl (by rw [hc]; exact h46)
  have n59 : ¬ ((s[0].toNat : Nat) : Int) = 59 := byte_ne rfl (by rw [hc]; exact h59)
  have n44 : ¬ ((s[0].toNat : Nat) : Int) = 44 := byte_ne rfl (by rw [hc]; exact h44)
  have n63 : ¬ ((s[0].toNat : Nat) : Int) = 63 := byte_ne rfl (by rw [hc]; exact h63)
  have n58 : ¬ ((s[0].toNat : Nat) : Int) = 58 := byte_ne rfl (by rw [hc]; exact h58)
  have n94 : ¬ ((s[0].toNat : Nat) : Int) = 94 := byte_ne rfl (by rw [hc]; exact h94)
  have n126 : ¬ ((s[0].toNat : Nat) : Int) = 126 := byte_ne rfl (by rw [hc]; exact h126)
  have n38 : ¬ ((s[0].toNat : Nat) : Int) = 38 := byte_ne rfl (by rw [hc]; exact h38)
  have n124 : ¬ ((s[0].toNat : Nat) : Int) = 124 := byte_ne rfl (by rw [hc]; exact h124)
  clear hL hc h61 h33 h62 h60 h43 h45 h42 h47 h37 h123 h125 h40 h41 h91 h93 h46 h59 h44 h63 h58 h94 h126 h38 h124
  go_enter Tryz.func67, Tryz.ntmps67
  go_wp2
  go_ret
  exact sign_to (by rw [HN.out]; rfl) _

theorem signed_any (s : ByteArray) (h0 : 0 < s.size) (hs : s.size ≤ 9223372036854775807) (w : World) : Calls Tryz.prog 67 #[.string s] w (SignTo (signN s.data.toList) w) := by
  obtain ⟨c, r, hL⟩ : ∃ c r, s.data.toList = c :: r := ⟨_, _, by have := drop_get s 0 h0; rwa [List.drop_zero] at this⟩
  by_cases c61 : c = 61
  · subst c61; exact signed_61 s r hL hs w
  by_cases c33 : c = 33
  · subst c33; exact signed_33 s r hL hs w
  by_cases c62 : c = 62
  · subst c62; exact signed_62 s r hL hs w
  by_cases c60 : c = 60
  · subst c60; exact signed_60 s r hL hs w
  by_cases c43 : c = 43
  · subst c43; exact signed_43 s r hL hs w
  by_cases c45 : c = 45
  · subst c45; exact signed_45 s r hL hs w
  by_cases c42 : c = 42
  · subst c42; exact signed_42 s r hL hs w
  by_cases c47 : c = 47
  · subst c47; exact signed_47 s r hL hs w
  by_cases c37 : c = 37
  · subst c37; exact signed_37 s r hL hs w
  by_cases c123 : c = 123
  · subst c123; exact signed_123 s r hL hs w
  by_cases c125 : c = 125
  · subst c125; exact signed_125 s r hL hs w
  by_cases c40 : c = 40
  · subst c40; exact signed_40 s r hL hs w
  by_cases c41 : c = 41
  · subst c41; exact signed_41 s r hL hs w
  by_cases c91 : c = 91
  · subst c91; exact signed_91 s r hL hs w
  by_cases c93 : c = 93
  · subst c93; exact signed_93 s r hL hs w
  by_cases c46 : c = 46
  · subst c46; exact signed_46 s r hL hs w
  by_cases c59 : c = 59
  · subst c59; exact signed_59 s r hL hs w
  by_cases c44 : c = 44
  · subst c44; exact signed_44 s r hL hs w
  by_cases c63 : c = 63
  · subst c63; exact signed_63 s r hL hs w
  by_cases c58 : c = 58
  · subst c58; exact signed_58 s r hL hs w
  by_cases c94 : c = 94
  · subst c94; exact signed_94 s r hL hs w
  by_cases c126 : c = 126
  · subst c126; exact signed_126 s r hL hs w
  by_cases c38 : c = 38
  · subst c38; exact signed_38 s r hL hs w
  by_cases c124 : c = 124
  · subst c124; exact signed_124 s r hL hs w
  exact signed_none s c r hL ⟨c61, c33, c62, c60, c43, c45, c42, c47, c37, c123, c125, c40, c41, c91, c93, c46, c59, c44, c63, c58, c94, c126, c38, c124⟩ hs w

end Go.Proofs.YtablckajobefeaaGreatDoor.S
