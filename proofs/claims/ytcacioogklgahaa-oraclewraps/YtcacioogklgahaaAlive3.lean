/-
  The chapter's example comes out as told.
-/
import Derived.Test.YtcacioogklgahaaAt
namespace Go.Proofs.Ytcacioogklgahaa
set_option linter.unusedVariables false
set_option synthInstance.maxSize 20000
open Classical
open Go.RowKit Go.Maps

/-! ### The chapter's example -/
def A0 : St := ⟨[7, 0, 7, 9], []⟩
theorem a1 : A0.fresh = 7 ∧ A0.put .key = ⟨[0, 7, 9], [(7, .key)]⟩ := ⟨by decide, by rfl⟩
def A1 : St := ⟨[0, 7, 9], [(7, .key)]⟩
def A2 : St := ⟨[], [(7, .key), (9, .hash [97])]⟩
def A3 : St := ⟨[], [(7, .key), (9, .hash [97]), (1, .hash [98])]⟩
theorem a2 : A1.get (.hash [97]) = (9, A2) := by rfl
theorem a3 : A2.get (.hash [97]) = (9, A2) := by rfl
theorem a4 : A2.get (.hash [98]) = (1, A3) := by rfl

theorem oct97 : Oct [97] := Oct.cons (by omega) Oct.nil
theorem oct98 : Oct [98] := Oct.cons (by omega) Oct.nil
set_option maxHeartbeats 2000000 in
set_option maxRecDepth 20000 in
theorem alive_any (w : World) : Calls Try.prog 10 #[] w fun e w' => e = .returned (.bool true) ∧ Below w.heap.size w w' := by
  have kc := fun (w : World) (C : Array Value) (n c : Nat) => Lib.run_convert_bytes_const (P := Try.prog) w 38 5 C n c Try.underlying38 Try.underlying5
  go_enter Try.func10, Try.ntmps10
  go_wp2_with (first
    | (go_at_call 11; go_must (refine (new_at w _ (balloc (Below.refl _ w) _) _ [7, 0, 7, 9] (rdU_row w [7, 0, 7, 9] 37 (0, 0) (by intro x hx; simp at hx; unfold U64; omega) (by simp [maxLen])) (by simp)).mono ?_; rintro e w1 ⟨b, rfl, ft, hA, hn⟩))
    | (go_at_call 16; go_must (refine (key_any w1 b ft A0 hA.rep (by simp [A0])).mono ?_; rw [a1.1, a1.2]; rintro e w2 ⟨rfl, hl⟩; obtain ⟨ft2, hA2, _, _⟩ := hA.left hl; clear hA hl))
    | (go_at_call 14; go_must (first
      | (refine (hash_all _ b ft2 A1 (hA2.below (balloc (Below.refl _ w2) (.cells #[.int .u8 97] 5 (1, 2)))).rep (by simp [A1]) _ [97] (hA2.fresh_rd (l := [97]) oct97 (by simp [maxLen]) 5 (1, 2)) (by simp)).mono ?_; rw [a2]; rintro e w3 ⟨rfl, hl3⟩; obtain ⟨ft3, hA3, _, _⟩ := (hA2.below (balloc (Below.refl _ w2) (.cells #[.int .u8 97] 5 (1, 2)))).left hl3; clear hA2 hl3)
      | (refine (hash_all _ b ft3 A2 (hA3.below (balloc (Below.refl _ w3) (.cells #[.int .u8 97] 5 (1, 2)))).rep (by simp [A2]) _ [97] (hA3.fresh_rd (l := [97]) oct97 (by simp [maxLen]) 5 (1, 2)) (by simp)).mono ?_; rw [a3]; rintro e w4 ⟨rfl, hl4⟩; obtain ⟨ft4, hA4, _, _⟩ := (hA3.below (balloc (Below.refl _ w3) (.cells #[.int .u8 97] 5 (1, 2)))).left hl4; clear hA3 hl4)
      | (refine (hash_all _ b ft4 A2 (hA4.below (balloc (Below.refl _ w4) (.cells #[.int .u8 98] 5 (1, 2)))).rep (by simp [A2]) _ [98] (hA4.fresh_rd (l := [98]) oct98 (by simp [maxLen]) 5 (1, 2)) (by simp)).mono ?_; rw [a4]; rintro e w5 ⟨rfl, hl5⟩; obtain ⟨ft5, hA5, _, _⟩ := (hA4.below (balloc (Below.refl _ w4) (.cells #[.int .u8 98] 5 (1, 2)))).left hl5; clear hA4 hl5)))
    | (go_at_call 13; go_must (refine (used_any w5 b ft5 A3 hA5.rep).mono ?_; rintro e w6 ⟨rfl, rfl⟩)))
  go_ret
  exact ⟨rfl, hA5.bel⟩
end Go.Proofs.Ytcacioogklgahaa
