/-
  The walk of VectorBack: a vector's bytes are read as it, and bytes that are read are its.
-/
import Derived.Test.YtdjfedlkfekeoaaLawBytes
import Derived.Test.YtdjfedlkfekeoaaVecBack
namespace Go.Proofs.Ytdjfedlkfekeoaa
set_option linter.unusedVariables false
set_option linter.unusedSimpArgs false
open Go.RowKit

set_option maxHeartbeats 2000000 in
set_option maxRecDepth 20000 in
theorem back_walk (va : Value) (l : List H) (vm : Value) (m : List Int) (w : World) (ha : RdH w va l) (hm : Rd w vm m) :
    Calls Try.prog 6 #[va, vm] w fun e w' => e = .returned (.bool true) ∧ Below w.heap.size w w' := by
  have h26 := fun w' q => bytes_any va l w' q
  have h13 := fun w' q => rightV_any va l w' q
  have HA : Hid (RdH w va l) := ha
  have HM : Hid (Rd w vm m) := hm
  obtain ⟨av, ca, rfl⟩ := ha.len
  have hca := ha.cap
  have hL := fun w' n q => light1 w' av l.length ca n q (by omega)
  by_cases hl : l.length ≤ 30
  case neg =>
    rw [decide_eq_false hl] at hL
    clear ha hm h26 h13
    go_enter Try.func6, Try.ntmps6
    go_wp2_with (first
      | (go_at_call 9; refine (hL _ _ rfl).mono ?_; rintro e w1 ⟨rfl, rfl⟩)
      | (go_at_call 10; refine (alive_any _).mono ?_; rintro e w5 ⟨rfl, hb5⟩))
    go_ret
    exact ⟨rfl, bnext (balloc (Below.refl _ _) _) hb5⟩
  case pos =>
  rw [decide_eq_true hl] at hL
  obtain ⟨mv, mc, rfl⟩ := hm.len
  have hcm := hm.cap
  by_cases hml : m.length ≤ 500
  case neg =>
    clear ha hm h26 h13
    go_enter Try.func6, Try.ntmps6
    go_wp2_with (first
      | (go_at_call 9; refine (hL _ _ rfl).mono ?_; rintro e w1 ⟨rfl, rfl⟩)
      | (go_at_call 10; refine (alive_any _).mono ?_; rintro e w5 ⟨rfl, hb5⟩))
    go_ret
    exact ⟨rfl, bnext (balloc (Below.refl _ _) _) hb5⟩
  case pos =>
  have h28 := fun w' q => readV_any (.slice mv m.length mc) m w' q (by omega)
  have HTail : Hid (((readV m).2 ≠ 0 ∧ (readV m).1 = []) ∨ ((readV m).2 = 0 ∧ ∀ v w', RdH w' v (readV m).1 → Calls Try.prog 26 #[v] w' fun e w'' => ∃ v', e = .returned (.tuple #[v', .int .i64 0]) ∧ Rd w'' v' m ∧ Below w'.heap.size w' w'')) := by
    by_cases hk : (readV m).2 = 0
    · right
      refine ⟨hk, fun v w' q => ?_⟩
      have hb := bytes_any v _ w' q
      rw [bytes_read hm.oct (Prod.ext rfl hk : readV m = ((readV m).1, 0))] at hb
      exact hb
    · exact .inl ⟨hk, readV_nil hk⟩
  have HHead : Hid ((RightV l ∧ ∀ v w', Rd w' v (bytesTo l l.length) → Calls Try.prog 28 #[v] w' fun e w'' => ∃ v', e = .returned (.tuple #[v', .int .i64 0]) ∧ RdH w'' v' l ∧ Below w'.heap.size w' w'') ∨ ¬ RightV l) := by
    by_cases hr : RightV l
    · left
      refine ⟨hr, fun v w' q => ?_⟩
      have hb := readV_any v _ w' q (by have := bytesTo_len ha.1 (by omega) l.length; omega)
      rw [read_bytes hr ha.1] at hb
      exact hb
    · exact .inr hr
  clear ha hm hl
  generalize readV m = rv at h28 HTail
  obtain ⟨rl, rk⟩ := rv
  dsimp only at h28 HTail
  have tk : Hid True := trivial
  have tk2 : Hid True := trivial
  have hH := HHead.out
  have hT := HTail.out
  clear HHead HTail
  rcases hH with ⟨hr, hRd⟩ | hr <;> rcases hT with ⟨hk, hnil⟩ | ⟨hk, hBy⟩
  · rw [bytesV_right hr] at h26
    rw [rightB_true hr] at h13
    dsimp only at h26
    clear hr
    have hk' : (rk != 0) = true := by simpa using hk
    subst hnil
    clear hk
    go_enter Try.func6, Try.ntmps6
    go_wp2_with (first
      | (go_at_call 9; refine (hL _ _ rfl).mono ?_; rintro e w1 ⟨rfl, rfl⟩)
      | (go_at_call 26; have _t := tk; refine (h26 _ (HA.out.below (balloc (Below.refl _ _) _))).mono ?_; rintro e w2 ⟨v2, rfl, ho2, hb2⟩
         have HB2 : Hid _ := bnext (balloc (Below.refl _ _) _) hb2
         have HX2 : Hid (Rd w2 v2 _) := ho2
         clear hb2 ho2 tk _t)
      | (go_at_call 13; refine (h13 _ (HA.out.below HB2.out)).mono ?_; rintro e w3 ⟨rfl, hb3⟩
         have HB3 : Hid _ := bnext HB2.out hb3
         have HX3 : Hid (Rd w3 _ _) := HX2.out.below hb3
         clear hb3)
      | (go_at_call 28; have _t := tk2; refine (hRd _ _ HX3.out).mono ?_; rintro e w4 ⟨v4, rfl, ho4, hb4⟩
         have HB4 : Hid _ := bnext HB3.out hb4
         have HY4 : Hid (RdH w4 v4 l) := ho4
         obtain ⟨a4, c4, rfl⟩ := ho4.len
         clear hb4 ho4 tk2 _t)
      | (go_at_call 17; refine (sameH_any _ _ l _ HY4.out (HA.out.below HB4.out)).mono ?_; rintro e w5 ⟨rfl, hb5⟩; have HB5 : Hid _ := bnext HB4.out hb5; clear hb5)
      | (go_at_call 28; refine (h28 _ (HM.out.below HB5.out)).mono ?_; rintro e w6 ⟨v6, rfl, ho6, hb6⟩
         have HB6 : Hid _ := bnext HB5.out hb6
         obtain ⟨a6, c6, rfl⟩ := ho6.len
         clear hb6 ho6)
      | (go_at_call 10; refine (alive_any _).mono ?_; rintro e wc ⟨rfl, hbc⟩))
    go_ret
    exact ⟨rfl, bnext HB6.out hbc⟩
  · rw [bytesV_right hr] at h26
    rw [rightB_true hr] at h13
    dsimp only at h26
    clear hr
    subst hk
    go_enter Try.func6, Try.ntmps6
    go_wp2_with (first
      | (go_at_call 9; refine (hL _ _ rfl).mono ?_; rintro e w1 ⟨rfl, rfl⟩)
      | (go_at_call 26; have _t := tk; refine (h26 _ (HA.out.below (balloc (Below.refl _ _) _))).mono ?_; rintro e w2 ⟨v2, rfl, ho2, hb2⟩
         have HB2 : Hid _ := bnext (balloc (Below.refl _ _) _) hb2
         have HX2 : Hid (Rd w2 v2 _) := ho2
         clear hb2 ho2 tk _t)
      | (go_at_call 13; refine (h13 _ (HA.out.below HB2.out)).mono ?_; rintro e w3 ⟨rfl, hb3⟩
         have HB3 : Hid _ := bnext HB2.out hb3
         have HX3 : Hid (Rd w3 _ _) := HX2.out.below hb3
         clear hb3)
      | (go_at_call 28; have _t := tk2; refine (hRd _ _ HX3.out).mono ?_; rintro e w4 ⟨v4, rfl, ho4, hb4⟩
         have HB4 : Hid _ := bnext HB3.out hb4
         have HY4 : Hid (RdH w4 v4 l) := ho4
         obtain ⟨a4, c4, rfl⟩ := ho4.len
         clear hb4 ho4 tk2 _t)
      | (go_at_call 17; refine (sameH_any _ _ l _ HY4.out (HA.out.below HB4.out)).mono ?_; rintro e w5 ⟨rfl, hb5⟩; have HB5 : Hid _ := bnext HB4.out hb5; clear hb5)
      | (go_at_call 28; refine (h28 _ (HM.out.below HB5.out)).mono ?_; rintro e w6 ⟨v6, rfl, ho6, hb6⟩
         have HB6 : Hid _ := bnext HB5.out hb6
         have HY6 : Hid (RdH w6 v6 rl) := ho6
         obtain ⟨a6, c6, rfl⟩ := ho6.len
         clear hb6 ho6)
      | (go_at_call 26; refine (hBy _ _ HY6.out).mono ?_; rintro e w7 ⟨v7, rfl, ho7, hb7⟩
         have HB7 : Hid _ := bnext HB6.out hb7
         have HZ7 : Hid (Rd w7 v7 m) := ho7
         clear hb7 ho7)
      | (go_at_call 30; refine (same_true _ _ m _ HZ7.out (HM.out.below HB7.out)).mono ?_; rintro e w8 ⟨rfl, hb8⟩; have HB8 : Hid _ := bnext HB7.out hb8; clear hb8)
      | (go_at_call 10; refine (alive_any _).mono ?_; rintro e wc ⟨rfl, hbc⟩))
    go_ret
    exact ⟨rfl, bnext HB8.out hbc⟩
  · rw [bytesV_not hr] at h26
    rw [rightB_false hr] at h13
    dsimp only at h26
    clear hr
    have hk' : (rk != 0) = true := by simpa using hk
    subst hnil
    clear hk
    go_enter Try.func6, Try.ntmps6
    go_wp2_with (first
      | (go_at_call 9; refine (hL _ _ rfl).mono ?_; rintro e w1 ⟨rfl, rfl⟩)
      | (go_at_call 26; have _t := tk; refine (h26 _ (HA.out.below (balloc (Below.refl _ _) _))).mono ?_; rintro e w2 ⟨v2, rfl, ho2, hb2⟩
         have HB2 : Hid _ := bnext (balloc (Below.refl _ _) _) hb2
         clear hb2 ho2 tk _t)
      | (go_at_call 13; refine (h13 _ (HA.out.below HB2.out)).mono ?_; rintro e w3 ⟨rfl, hb3⟩
         have HB5 : Hid _ := bnext HB2.out hb3
         clear hb3)
      | (go_at_call 28; refine (h28 _ (HM.out.below HB5.out)).mono ?_; rintro e w6 ⟨v6, rfl, ho6, hb6⟩
         have HB6 : Hid _ := bnext HB5.out hb6
         obtain ⟨a6, c6, rfl⟩ := ho6.len
         clear hb6 ho6)
      | (go_at_call 10; refine (alive_any _).mono ?_; rintro e wc ⟨rfl, hbc⟩))
    go_ret
    exact ⟨rfl, bnext HB6.out hbc⟩
  · rw [bytesV_not hr] at h26
    rw [rightB_false hr] at h13
    dsimp only at h26
    clear hr
    subst hk
    go_enter Try.func6, Try.ntmps6
    go_wp2_with (first
      | (go_at_call 9; refine (hL _ _ rfl).mono ?_; rintro e w1 ⟨rfl, rfl⟩)
      | (go_at_call 26; have _t := tk; refine (h26 _ (HA.out.below (balloc (Below.refl _ _) _))).mono ?_; rintro e w2 ⟨v2, rfl, ho2, hb2⟩
         have HB2 : Hid _ := bnext (balloc (Below.refl _ _) _) hb2
         clear hb2 ho2 tk _t)
      | (go_at_call 13; refine (h13 _ (HA.out.below HB2.out)).mono ?_; rintro e w3 ⟨rfl, hb3⟩
         have HB5 : Hid _ := bnext HB2.out hb3
         clear hb3)
      | (go_at_call 28; refine (h28 _ (HM.out.below HB5.out)).mono ?_; rintro e w6 ⟨v6, rfl, ho6, hb6⟩
         have HB6 : Hid _ := bnext HB5.out hb6
         have HY6 : Hid (RdH w6 v6 rl) := ho6
         obtain ⟨a6, c6, rfl⟩ := ho6.len
         clear hb6 ho6)
      | (go_at_call 26; refine (hBy _ _ HY6.out).mono ?_; rintro e w7 ⟨v7, rfl, ho7, hb7⟩
         have HB7 : Hid _ := bnext HB6.out hb7
         have HZ7 : Hid (Rd w7 v7 m) := ho7
         clear hb7 ho7)
      | (go_at_call 30; refine (same_true _ _ m _ HZ7.out (HM.out.below HB7.out)).mono ?_; rintro e w8 ⟨rfl, hb8⟩; have HB8 : Hid _ := bnext HB7.out hb8; clear hb8)
      | (go_at_call 10; refine (alive_any _).mono ?_; rintro e wc ⟨rfl, hbc⟩))
    go_ret
    exact ⟨rfl, bnext HB8.out hbc⟩
end Go.Proofs.Ytdjfedlkfekeoaa
