/-
  The walk of VectorTurns: how two vectors stand is told the other way round.
-/
import Derived.Test.YtdjfedlkfekeoaaAlive
import Derived.Test.YtdjfedlkfekeoaaVecLaws
namespace Go.Proofs.Ytdjfedlkfekeoaa
set_option linter.unusedVariables false
set_option linter.unusedSimpArgs false
open Go.RowKit

/-- The block of a variadic argument of two vectors. -/
theorem light2 (w : World) (av bv : Option Addr) (la ca lb cb : Nat) (b : Nat) (hb : b = w.heap.size) (ha : la ≤ 9223372036854775807) (hbl : lb ≤ 9223372036854775807) :
    Calls Try.prog 9 #[.slice (some ⟨b, 0, none⟩) 2 2] (w.alloc (.cells #[.slice av la ca, .slice bv lb cb] 22)) fun e w' => e = .returned (.bool (decide (la ≤ 30 ∧ lb ≤ 30))) ∧ w' = w.alloc (.cells #[.slice av la ca, .slice bv lb cb] 22) := by
  subst hb
  have X := blk_new w [.slice av la ca, .slice bv lb cb] 22
  have h := light_any (w.alloc (.cells #[.slice av la ca, .slice bv lb cb] 22)) w.heap.size 2 (fun j => if j = 0 then av else bv) (fun j => if j = 0 then la else lb) (fun j => if j = 0 then ca else cb) (by omega)
    (fun j hj => by split <;> omega) (fun j hj => by
      have : j = 0 ∨ j = 1 := by omega
      rcases this with rfl | rfl
      · exact X.cell 0 _ rfl
      · exact X.cell 1 _ rfl)
  have e : lightB (fun j => if j = 0 then la else lb) 2 = decide (la ≤ 30 ∧ lb ≤ 30) := by simp [lightB, List.range_succ]
  rwa [e] at h

set_option maxHeartbeats 2000000 in
set_option maxRecDepth 20000 in
theorem turns_walk (va : Value) (a : List H) (vb : Value) (b : List H) (w : World) (ha : RdH w va a) (hb : RdH w vb b) :
    Calls Try.prog 8 #[va, vb] w fun e w' => e = .returned (.bool true) ∧ Below w.heap.size w w' := by
  have hC1 := fun w' h1 h2 => compare_any va vb a b w' h1 h2
  have hC2 := fun w' h1 h2 => compare_any vb va b a w' h1 h2
  have hM1 := fun w' h1 h2 => missing_any va vb a b w' h1 h2
  have hM2 := fun w' h1 h2 => missing_any vb va b a w' h1 h2
  have hR1 := fun w' h1 => rightV_any va a w' h1
  have hR2 := fun w' h1 => rightV_any vb b w' h1
  have HA : Hid (RdH w va a) := ha
  have HB : Hid (RdH w vb b) := hb
  obtain ⟨av, ca, rfl⟩ := ha.len
  obtain ⟨bv, cb, rfl⟩ := hb.len
  have hca := ha.cap
  have hcb := hb.cap
  have hT := turns a b
  have hL := fun w' n h => light2 w' av bv a.length ca b.length cb n h (by omega) (by omega)
  clear ha hb
  by_cases hl : a.length ≤ 30 ∧ b.length ≤ 30
  case neg =>
    rw [decide_eq_false hl] at hL
    clear hT
    go_enter Try.func8, Try.ntmps8
    go_wp2_with (first
      | (go_at_call 9; refine (hL _ _ rfl).mono ?_; rintro e w1 ⟨rfl, rfl⟩)
      | (go_at_call 10; refine (alive_any _).mono ?_; rintro e w5 ⟨rfl, hb5⟩))
    go_ret
    exact ⟨rfl, bnext (balloc (Below.refl _ _) _) hb5⟩
  case pos =>
  rw [decide_eq_true hl] at hL
  obtain ⟨hl1, hl2⟩ := hl
  generalize cmpV a b = x at hT hC1
  generalize cmpV b a = y at hT hC2
  have tk : Hid True := trivial
  rcases hT with ⟨rfl, rfl, hn⟩ | ⟨ra, rb, hT⟩
  · by_cases ra : RightV a
    · have rb : ¬ RightV b := fun h => hn ⟨ra, h⟩
      rw [rightB_true ra] at hR1
      rw [rightB_false rb] at hR2
      clear ra rb hn hM1 hM2
      go_enter Try.func8, Try.ntmps8
      go_wp2_with (first
        | (go_at_call 9; refine (hL _ _ rfl).mono ?_; rintro e w1 ⟨rfl, rfl⟩)
        | (go_at_call 22; have _t := tk; refine (hC1 _ (HA.out.below (balloc (Below.refl _ _) _)) (HB.out.below (balloc (Below.refl _ _) _))).mono ?_; rintro e w2 ⟨rfl, hb2⟩; have HB2 : Hid _ := bnext (balloc (Below.refl _ _) _) hb2; clear tk _t hb2)
        | (go_at_call 22; refine (hC2 _ (HB.out.below HB2.out) (HA.out.below HB2.out)).mono ?_; rintro e w3 ⟨rfl, hb3⟩; have HB3 : Hid _ := bnext HB2.out hb3; have tk2 : Hid True := trivial; clear hb3)
        | (go_at_call 13; have _t := tk2; refine (hR1 _ (HA.out.below HB3.out)).mono ?_; rintro e w4 ⟨rfl, hb4⟩; have HB4 : Hid _ := bnext HB3.out hb4; clear tk2 _t hb4)
        | (go_at_call 13; refine (hR2 _ (HB.out.below HB4.out)).mono ?_; rintro e w5 ⟨rfl, hb5⟩; have HB5 : Hid _ := bnext HB4.out hb5; clear hb5)
        | (go_at_call 10; refine (alive_any _).mono ?_; rintro e w6 ⟨rfl, hb6⟩))
      go_ret
      exact ⟨rfl, bnext HB5.out hb6⟩
    · rw [rightB_false ra] at hR1
      clear ra hn hM1 hM2
      go_enter Try.func8, Try.ntmps8
      go_wp2_with (first
        | (go_at_call 9; refine (hL _ _ rfl).mono ?_; rintro e w1 ⟨rfl, rfl⟩)
        | (go_at_call 22; have _t := tk; refine (hC1 _ (HA.out.below (balloc (Below.refl _ _) _)) (HB.out.below (balloc (Below.refl _ _) _))).mono ?_; rintro e w2 ⟨rfl, hb2⟩; have HB2 : Hid _ := bnext (balloc (Below.refl _ _) _) hb2; clear tk _t hb2)
        | (go_at_call 22; refine (hC2 _ (HB.out.below HB2.out) (HA.out.below HB2.out)).mono ?_; rintro e w3 ⟨rfl, hb3⟩; have HB3 : Hid _ := bnext HB2.out hb3; clear hb3)
        | (go_at_call 13; refine (hR1 _ (HA.out.below HB3.out)).mono ?_; rintro e w4 ⟨rfl, hb4⟩; have HB4 : Hid _ := bnext HB3.out hb4; clear hb4)
        | (go_at_call 10; refine (alive_any _).mono ?_; rintro e w6 ⟨rfl, hb6⟩))
      go_ret
      exact ⟨rfl, bnext HB4.out hb6⟩
  · clear ra rb hR1 hR2
    generalize missV a b = m1 at hT hM1
    generalize missV b a = m2 at hT hM2
    have tk3 : Hid True := trivial
    rcases hT with ⟨rfl, rfl, h1, h2⟩ | hT
    · go_enter Try.func8, Try.ntmps8
      go_wp2_with (first
        | (go_at_call 9; refine (hL _ _ rfl).mono ?_; rintro e w1 ⟨rfl, rfl⟩)
        | (go_at_call 22; have _t := tk; refine (hC1 _ (HA.out.below (balloc (Below.refl _ _) _)) (HB.out.below (balloc (Below.refl _ _) _))).mono ?_; rintro e w2 ⟨rfl, hb2⟩; have HB2 : Hid _ := bnext (balloc (Below.refl _ _) _) hb2; clear tk _t hb2)
        | (go_at_call 22; refine (hC2 _ (HB.out.below HB2.out) (HA.out.below HB2.out)).mono ?_; rintro e w3 ⟨rfl, hb3⟩; have HB3 : Hid _ := bnext HB2.out hb3; clear hb3)
        | (go_at_call 24; have _t := tk3; refine (hM1 _ (HA.out.below HB3.out) (HB.out.below HB3.out)).mono ?_; rintro e w4 ⟨v4, rfl, ho4, hb4⟩; have HB4 : Hid _ := bnext HB3.out hb4; obtain ⟨a4, c4, rfl⟩ := ho4.rd.len; have hc4 := ho4.rd.cap; clear tk3 _t hb4 ho4)
        | (go_at_call 24; refine (hM2 _ (HB.out.below HB4.out) (HA.out.below HB4.out)).mono ?_; rintro e w5 ⟨v5, rfl, ho5, hb5⟩; have HB5 : Hid _ := bnext HB4.out hb5; obtain ⟨a5, c5, rfl⟩ := ho5.rd.len; have hc5 := ho5.rd.cap; clear hb5 ho5)
        | (go_at_call 10; refine (alive_any _).mono ?_; rintro e w6 ⟨rfl, hb6⟩))
      go_ret
      exact ⟨rfl, bnext HB5.out hb6⟩
    · rcases hT with ⟨rfl, rfl, h1⟩ | ⟨rfl, rfl, h1⟩ | ⟨rfl, rfl, h1⟩
      · have h3 := List.eq_nil_of_length_eq_zero h1
        subst h3
        go_enter Try.func8, Try.ntmps8
        go_wp2_with (first
          | (go_at_call 9; refine (hL _ _ rfl).mono ?_; rintro e w1 ⟨rfl, rfl⟩)
          | (go_at_call 22; have _t := tk; refine (hC1 _ (HA.out.below (balloc (Below.refl _ _) _)) (HB.out.below (balloc (Below.refl _ _) _))).mono ?_; rintro e w2 ⟨rfl, hb2⟩; have HB2 : Hid _ := bnext (balloc (Below.refl _ _) _) hb2; clear tk _t hb2)
          | (go_at_call 22; refine (hC2 _ (HB.out.below HB2.out) (HA.out.below HB2.out)).mono ?_; rintro e w3 ⟨rfl, hb3⟩; have HB3 : Hid _ := bnext HB2.out hb3; clear hb3)
          | (go_at_call 24; refine (hM1 _ (HA.out.below HB3.out) (HB.out.below HB3.out)).mono ?_; rintro e w4 ⟨v4, rfl, ho4, hb4⟩; have HB4 : Hid _ := bnext HB3.out hb4; obtain ⟨a4, c4, rfl⟩ := ho4.rd.len; have hc4 := ho4.rd.cap; clear hb4 ho4)
          | (go_at_call 10; refine (alive_any _).mono ?_; rintro e w6 ⟨rfl, hb6⟩))
        go_ret
        exact ⟨rfl, bnext HB4.out hb6⟩
      · have h3 : ¬ m1 = [] := fun e => by rw [e] at h1; simp at h1
        have H4 : Hid (((m1.length : Int) == 0) = false) := by show _ = false; simpa using h3
        go_enter Try.func8, Try.ntmps8
        go_wp2_with (first
          | (go_at_call 9; refine (hL _ _ rfl).mono ?_; rintro e w1 ⟨rfl, rfl⟩)
          | (go_at_call 22; have _t := tk; refine (hC1 _ (HA.out.below (balloc (Below.refl _ _) _)) (HB.out.below (balloc (Below.refl _ _) _))).mono ?_; rintro e w2 ⟨rfl, hb2⟩; have HB2 : Hid _ := bnext (balloc (Below.refl _ _) _) hb2; clear tk _t hb2)
          | (go_at_call 22; refine (hC2 _ (HB.out.below HB2.out) (HA.out.below HB2.out)).mono ?_; rintro e w3 ⟨rfl, hb3⟩; have HB3 : Hid _ := bnext HB2.out hb3; clear hb3)
          | (go_at_call 24; refine (hM1 _ (HA.out.below HB3.out) (HB.out.below HB3.out)).mono ?_; rintro e w4 ⟨v4, rfl, ho4, hb4⟩; have HB4 : Hid _ := bnext HB3.out hb4; obtain ⟨a4, c4, rfl⟩ := ho4.rd.len; have hc4 := ho4.rd.cap; clear hb4 ho4)
          | (go_at_call 10; refine (alive_any _).mono ?_; rintro e w6 ⟨rfl, hb6⟩))
        go_ret
        exact ⟨by first | rfl | (rw [H4.out]; rfl), bnext HB4.out hb6⟩
      · have h3 := List.eq_nil_of_length_eq_zero h1
        subst h3
        go_enter Try.func8, Try.ntmps8
        go_wp2_with (first
          | (go_at_call 9; refine (hL _ _ rfl).mono ?_; rintro e w1 ⟨rfl, rfl⟩)
          | (go_at_call 22; have _t := tk; refine (hC1 _ (HA.out.below (balloc (Below.refl _ _) _)) (HB.out.below (balloc (Below.refl _ _) _))).mono ?_; rintro e w2 ⟨rfl, hb2⟩; have HB2 : Hid _ := bnext (balloc (Below.refl _ _) _) hb2; clear tk _t hb2)
          | (go_at_call 22; refine (hC2 _ (HB.out.below HB2.out) (HA.out.below HB2.out)).mono ?_; rintro e w3 ⟨rfl, hb3⟩; have HB3 : Hid _ := bnext HB2.out hb3; clear hb3)
          | (go_at_call 24; refine (hM1 _ (HA.out.below HB3.out) (HB.out.below HB3.out)).mono ?_; rintro e w4 ⟨v4, rfl, ho4, hb4⟩; have HB4 : Hid _ := bnext HB3.out hb4; obtain ⟨a4, c4, rfl⟩ := ho4.rd.len; have hc4 := ho4.rd.cap; clear hb4 ho4)
          | (go_at_call 10; refine (alive_any _).mono ?_; rintro e w6 ⟨rfl, hb6⟩))
        go_ret
        exact ⟨rfl, bnext HB4.out hb6⟩
end Go.Proofs.Ytdjfedlkfekeoaa
