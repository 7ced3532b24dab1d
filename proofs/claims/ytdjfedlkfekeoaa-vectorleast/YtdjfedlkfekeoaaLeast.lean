/-
  The walk of VectorLeast: both together are the least that is below neither.
-/
import Derived.Test.YtdjfedlkfekeoaaAlive
import Derived.Test.YtdjfedlkfekeoaaVecLaws
namespace Go.Proofs.Ytdjfedlkfekeoaa
set_option linter.unusedVariables false
set_option linter.unusedSimpArgs false
open Go.RowKit

theorem light3 (w : World) (av bv dv : Option Addr) (la ca lb cb ld cd : Nat) (b : Nat) (hb : b = w.heap.size) (ha : la ≤ 9223372036854775807) (hbl : lb ≤ 9223372036854775807) (hdl : ld ≤ 9223372036854775807) :
    Calls Try.prog 9 #[.slice (some ⟨b, 0, none⟩) 3 3] (w.alloc (.cells #[.slice av la ca, .slice bv lb cb, .slice dv ld cd] 22)) fun e w' => e = .returned (.bool (decide (la ≤ 30 ∧ lb ≤ 30 ∧ ld ≤ 30))) ∧ w' = w.alloc (.cells #[.slice av la ca, .slice bv lb cb, .slice dv ld cd] 22) := by
  subst hb
  have X := blk_new w [.slice av la ca, .slice bv lb cb, .slice dv ld cd] 22
  have h := light_any (w.alloc (.cells #[.slice av la ca, .slice bv lb cb, .slice dv ld cd] 22)) w.heap.size 3 (fun j => if j = 0 then av else if j = 1 then bv else dv) (fun j => if j = 0 then la else if j = 1 then lb else ld) (fun j => if j = 0 then ca else if j = 1 then cb else cd) (by omega)
    (fun j hj => by split <;> (try split) <;> omega) (fun j hj => by
      have : j = 0 ∨ j = 1 ∨ j = 2 := by omega
      rcases this with rfl | rfl | rfl
      · exact X.cell 0 _ rfl
      · exact X.cell 1 _ rfl
      · exact X.cell 2 _ rfl)
  have e : lightB (fun j => if j = 0 then la else if j = 1 then lb else ld) 3 = decide (la ≤ 30 ∧ lb ≤ 30 ∧ ld ≤ 30) := by simp [lightB, List.range_succ, Bool.and_assoc]
  rwa [e] at h

set_option maxHeartbeats 4000000 in
set_option maxRecDepth 20000 in
theorem least_walk (va : Value) (a : List H) (vb : Value) (b : List H) (vc : Value) (c : List H) (w : World) (ha : RdH w va a) (hb : RdH w vb b) (hc0 : RdH w vc c) :
    Calls Try.prog 7 #[va, vb, vc] w fun e w' => e = .returned (.bool true) ∧ Below w.heap.size w w' := by
  have hG1 := fun w' h1 h2 => merge_any va vb a b w' h1 h2
  have hG2 := fun w' h1 h2 => merge_any vb va b a w' h1 h2
  have hCA := fun w' h1 h2 => compare_any vc va c a w' h1 h2
  have hCB := fun w' h1 h2 => compare_any vc vb c b w' h1 h2
  have HA : Hid (RdH w va a) := ha
  have HB : Hid (RdH w vb b) := hb
  have HC : Hid (RdH w vc c) := hc0
  obtain ⟨av, ca, rfl⟩ := ha.len
  obtain ⟨bv, cb, rfl⟩ := hb.len
  obtain ⟨dv, cd, rfl⟩ := hc0.len
  have hca := ha.cap
  have hcb := hb.cap
  have hcc := hc0.cap
  have hL := fun w' n h => light3 w' av bv dv a.length ca b.length cb c.length cd n h (by omega) (by omega) (by omega)
  clear ha hb hc0
  by_cases hl : a.length ≤ 30 ∧ b.length ≤ 30 ∧ c.length ≤ 30
  case neg =>
    rw [decide_eq_false hl] at hL
    go_enter Try.func7, Try.ntmps7
    go_wp2_with (first
      | (go_at_call 9; refine (hL _ _ rfl).mono ?_; rintro e w1 ⟨rfl, rfl⟩)
      | (go_at_call 10; refine (alive_any _).mono ?_; rintro e w5 ⟨rfl, hb5⟩))
    go_ret
    exact ⟨rfl, bnext (balloc (Below.refl _ _) _) hb5⟩
  case pos =>
  rw [decide_eq_true hl] at hL
  clear hl
  have tk : Hid True := trivial
  have hno : ∀ k : Int, k ≠ 0 → mergeV a b = ([], k) → mergeV b a = ([], k) → Calls Try.prog 7 #[.slice av a.length ca, .slice bv b.length cb, .slice dv c.length cd] w fun e w' => e = .returned (.bool true) ∧ Below w.heap.size w w' := fun k hk e1 e2 => by
    have hk' : (k != 0) = true := by simpa using hk
    rw [e1] at hG1
    rw [e2] at hG2
    clear hCA hCB hk e1 e2
    dsimp only at hG1 hG2
    go_enter Try.func7, Try.ntmps7
    go_wp2_with (first
      | (go_at_call 9; refine (hL _ _ rfl).mono ?_; rintro e w1 ⟨rfl, rfl⟩)
      | (go_at_call 20; have _t := tk; refine (hG1 _ (HA.out.below (balloc (Below.refl _ _) _)) (HB.out.below (balloc (Below.refl _ _) _))).mono ?_; rintro e w2 ⟨v2, rfl, ho2, hb2⟩; have HB2 : Hid _ := bnext (balloc (Below.refl _ _) _) hb2; obtain ⟨a2, c2, rfl⟩ := ho2.rd.len; clear tk _t hb2 ho2)
      | (go_at_call 20; refine (hG2 _ (HB.out.below HB2.out) (HA.out.below HB2.out)).mono ?_; rintro e w3 ⟨v3, rfl, ho3, hb3⟩; have HB3 : Hid _ := bnext HB2.out hb3; clear hb3 ho3)
      | (go_at_call 10; refine (alive_any _).mono ?_; rintro e w6 ⟨rfl, hb6⟩))
    go_ret
    exact ⟨rfl, bnext HB3.out hb6⟩
  by_cases hr : RightV a ∧ RightV b
  case neg => exact hno 1 (by decide) (mergeV_not hr) (mergeV_not fun h => hr ⟨h.2, h.1⟩)
  case pos =>
  obtain ⟨ra, rb⟩ := hr
  have e1 := mergeV_right ra rb
  have e2 := mergeV_right rb ra
  rw [← confTo_turn a b] at e2
  cases hcf : (confTo a b 8).isSome with
  | true => exact hno 9 (by decide) (by rw [e1, hcf]; rfl) (by rw [e2, hcf]; rfl)
  | false =>
    rw [hcf] at e1 e2
    rw [← merge_turn ra rb hcf] at e2
    have hX := least_of c ra rb
    generalize mergeTo a b 8 = m at e1 e2 hX
    have e1' : mergeV a b = (m, 0) := e1
    have e2' : mergeV b a = (m, 0) := e2
    rw [e1'] at hG1
    rw [e2'] at hG2
    clear e1 e2 e1' e2' hno hcf ra rb
    dsimp only at hG1 hG2
    have HMA : Hid (∀ v w', RdH w' v m → RdH w' (.slice av a.length ca) a → Calls Try.prog 24 #[v, .slice av a.length ca] w' fun e w'' => ∃ a1 c1, e = .returned (.slice a1 0 c1) ∧ Below w'.heap.size w' w'') := fun v w' h1 h2 =>
      (missing_any v _ m a w' h1 h2).mono fun e w'' ⟨v', q1, q2, q3⟩ => by
        obtain ⟨a1, c1, q4⟩ := q2.rd.len
        rw [hX.left0] at q4
        exact ⟨a1, c1, by rw [q1, q4], q3⟩
    have HMB : Hid (∀ v w', RdH w' v m → RdH w' (.slice bv b.length cb) b → Calls Try.prog 24 #[v, .slice bv b.length cb] w' fun e w'' => ∃ a1 c1, e = .returned (.slice a1 0 c1) ∧ Below w'.heap.size w' w'') := fun v w' h1 h2 =>
      (missing_any v _ m b w' h1 h2).mono fun e w'' ⟨v', q1, q2, q3⟩ => by
        obtain ⟨a1, c1, q4⟩ := q2.rd.len
        rw [hX.right0] at q4
        exact ⟨a1, c1, by rw [q1, q4], q3⟩
    have HCM : Hid (∀ v w', RdH w' (.slice dv c.length cd) c → RdH w' v m → Calls Try.prog 22 #[.slice dv c.length cd, v] w' fun e w'' => e = .returned (.int .i64 (cmpV c m)) ∧ Below w'.heap.size w' w'') := fun v w' h1 h2 => compare_any _ v c m w' h1 h2
    have HMC : Hid (∀ v w', RdH w' v m → RdH w' (.slice av a.length ca) a → Calls Try.prog 22 #[v, .slice av a.length ca] w' fun e w'' => e = .returned (.int .i64 (cmpV m a)) ∧ Below w'.heap.size w' w'') := fun v w' h1 h2 => compare_any v _ m a w' h1 h2
    have hab := hX.above
    have hls := hX.least
    clear hX
    generalize cmpV c a = x at hls hCA
    generalize cmpV c b = y at hls hCB
    generalize cmpV c m = z at hls HCM
    generalize cmpV m a = p at hab HMC
    have cases4 : (x ≠ 0 ∧ x ≠ 1) ∨ ((x = 0 ∨ x = 1) ∧ ((y ≠ 0 ∧ y ≠ 1) ∨ ((y = 0 ∨ y = 1) ∧ (z = 0 ∨ z = 1)))) := by
      by_cases h1 : x = 0 ∨ x = 1
      · by_cases h2 : y = 0 ∨ y = 1
        · exact .inr ⟨h1, .inr ⟨h2, hls h1 h2⟩⟩
        · exact .inr ⟨h1, .inl ⟨fun e => h2 (.inl e), fun e => h2 (.inr e)⟩⟩
      · exact .inl ⟨fun e => h1 (.inl e), fun e => h1 (.inr e)⟩
    clear hls
    go_enter Try.func7, Try.ntmps7
    go_upto_region 10 with (first
      | (go_at_call 9; refine (hL _ _ rfl).mono ?_; rintro e w1 ⟨rfl, rfl⟩)
      | (go_at_call 20; have _t := tk; refine (hG1 _ (HA.out.below (balloc (Below.refl _ _) _)) (HB.out.below (balloc (Below.refl _ _) _))).mono ?_; rintro e w2 ⟨v2, rfl, ho2, hb2⟩; have HB2 : Hid _ := bnext (balloc (Below.refl _ _) _) hb2; have HM2 : Hid (RdH w2 v2 m) := ho2.rd; obtain ⟨a2, c2, rfl⟩ := ho2.rd.len; have tk2 : Hid True := trivial; have tk3 : Hid True := trivial; have tk4 : Hid True := trivial; clear tk _t hb2 ho2)
      | (go_at_call 20; refine (hG2 _ (HB.out.below HB2.out) (HA.out.below HB2.out)).mono ?_; rintro e w3 ⟨v3, rfl, ho3, hb3⟩; have HM3 : Hid (RdH w3 _ m) := HM2.out.below hb3; have HN3 : Hid (RdH w3 v3 m) := ho3.rd; have HB3 : Hid _ := bnext HB2.out hb3; obtain ⟨a3, c3, rfl⟩ := ho3.rd.len; clear hb3 ho3)
      | (go_at_call 17; refine (sameH_any _ _ m _ HM3.out HN3.out).mono ?_; rintro e w4 ⟨rfl, hb4⟩; have HM4 : Hid (RdH w4 _ m) := HM3.out.below hb4; have HB4 : Hid _ := bnext HB3.out hb4; clear hb4)
      | (go_at_call 24; have _t := tk2; refine (HMA.out _ _ HM4.out (HA.out.below HB4.out)).mono ?_; rintro e w5 ⟨a5, c5, rfl, hb5⟩; have HM5 : Hid (RdH w5 _ m) := HM4.out.below hb5; have HB5 : Hid _ := bnext HB4.out hb5; clear hb5 tk2 _t)
      | (go_at_call 24; refine (HMB.out _ _ HM5.out (HB.out.below HB5.out)).mono ?_; rintro e w6 ⟨a6, c6, rfl, hb6⟩; have HM6 : Hid (RdH w6 _ m) := HM5.out.below hb6; have HB6 : Hid _ := bnext HB5.out hb6; clear hb6)
      | (go_at_call 22; have _t := tk3; refine (hCA _ (HC.out.below HB6.out) (HA.out.below HB6.out)).mono ?_; rintro e w7 ⟨rfl, hb7⟩; have HM7 : Hid (RdH w7 _ m) := HM6.out.below hb7; have HB7 : Hid _ := bnext HB6.out hb7; clear hb7 tk3 _t)
      | (go_at_call 22; have _t := tk4; refine (hCB _ (HC.out.below HB7.out) (HB.out.below HB7.out)).mono ?_; rintro e w8 ⟨rfl, hb8⟩; have HM8 : Hid (RdH w8 _ m) := HM7.out.below hb8; have HB8 : Hid _ := bnext HB7.out hb8; clear hb8 tk4 _t)
      | (go_at_call 22; refine (HCM.out _ _ (HC.out.below HB8.out) HM8.out).mono ?_; rintro e w9 ⟨rfl, hb9⟩; have HM9 : Hid (RdH w9 _ m) := HM8.out.below hb9; have HB9 : Hid _ := bnext HB8.out hb9; clear hb9))
    clear hL hG1 hG2 hCA hCB HMA HMB HCM HC HB HM2 HM3 HM4 HM5 HM6 HM7 HM8 HN3 HB2 HB3 HB4 HB5 HB6 HB7 HB8
    rcases cases4 with ⟨h1, h2⟩ | ⟨h1, ⟨h2, h3⟩ | ⟨h2, h3⟩⟩
    · have h1' : (x == 0) = false := by simpa using h1
      have h2' : (x == 1) = false := by simpa using h2
      rcases hab with rfl | rfl
      all_goals
        go_wp2_with (first
          | (go_at_call 22; refine (HMC.out _ _ HM9.out (HA.out.below HB9.out)).mono ?_; rintro e wa ⟨rfl, hba⟩)
          | (go_at_call 10; refine (alive_any _).mono ?_; rintro e wb ⟨rfl, hbb⟩))
        go_ret
        exact ⟨rfl, bnext (bnext HB9.out hba) hbb⟩
    · have h2' : (y == 0) = false := by simpa using h2
      have h3' : (y == 1) = false := by simpa using h3
      rcases h1 with rfl | rfl <;> rcases hab with rfl | rfl
      all_goals
        go_wp2_with (first
          | (go_at_call 22; refine (HMC.out _ _ HM9.out (HA.out.below HB9.out)).mono ?_; rintro e wa ⟨rfl, hba⟩)
          | (go_at_call 10; refine (alive_any _).mono ?_; rintro e wb ⟨rfl, hbb⟩))
        go_ret
        exact ⟨rfl, bnext (bnext HB9.out hba) hbb⟩
    · rcases h1 with rfl | rfl <;> rcases h2 with rfl | rfl <;> rcases h3 with rfl | rfl <;> rcases hab with rfl | rfl
      all_goals
        go_wp2_with (first
          | (go_at_call 22; refine (HMC.out _ _ HM9.out (HA.out.below HB9.out)).mono ?_; rintro e wa ⟨rfl, hba⟩)
          | (go_at_call 10; refine (alive_any _).mono ?_; rintro e wb ⟨rfl, hbb⟩))
        go_ret
        exact ⟨rfl, bnext (bnext HB9.out hba) hbb⟩
end Go.Proofs.Ytdjfedlkfekeoaa
