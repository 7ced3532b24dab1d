/-
  The walk of VectorStands: how any two vectors stand, what is missing, where they are at odds, and both together, as the reference tells it.
-/
import Derived.Test.YtdjfedlkfekeoaaTurns
import Derived.Test.YtdjfedlkfekeoaaRefMerge
namespace Go.Proofs.Ytdjfedlkfekeoaa
set_option linter.unusedVariables false
set_option linter.unusedSimpArgs false
open Go.RowKit

set_option maxHeartbeats 2000000 in
set_option maxRecDepth 20000 in
theorem stands_walk (va : Value) (a : List H) (vb : Value) (b : List H) (w : World) (ha : RdH w va a) (hb : RdH w vb b) :
    Calls Try.prog 4 #[va, vb] w fun e w' => e = .returned (.bool true) ∧ Below w.heap.size w w' := by
  have h18 := fun w' h1 h2 => conflict_any va vb a b w' h1 h2
  have h19 := fun w' h1 h2 => refconflict_any va vb a b w' h1 h2
  have h20 := fun w' h1 h2 => merge_any va vb a b w' h1 h2
  have h21 := fun w' h1 h2 => refmerge_any va vb a b w' h1 h2
  have h22 := fun w' h1 h2 => compare_any va vb a b w' h1 h2
  have h23 := fun w' h1 h2 => refcompare_any va vb a b w' h1 h2
  have h24 := fun w' h1 h2 => missing_any va vb a b w' h1 h2
  have h25 := fun w' h1 h2 => refmissing_any va vb a b w' h1 h2
  have HA : Hid (RdH w va a) := ha
  have HB : Hid (RdH w vb b) := hb
  obtain ⟨av, ca, rfl⟩ := ha.len
  obtain ⟨bv, cb, rfl⟩ := hb.len
  have hca := ha.cap
  have hcb := hb.cap
  have hL := fun w' n h => light2 w' av bv a.length ca b.length cb n h (by omega) (by omega)
  clear ha hb
  by_cases hl : a.length ≤ 30 ∧ b.length ≤ 30
  case neg =>
    rw [decide_eq_false hl] at hL
    go_enter Try.func4, Try.ntmps4
    go_wp2_with (first
      | (go_at_call 9; refine (hL _ _ rfl).mono ?_; rintro e w1 ⟨rfl, rfl⟩)
      | (go_at_call 10; refine (alive_any _).mono ?_; rintro e w5 ⟨rfl, hb5⟩))
    go_ret
    exact ⟨rfl, bnext (balloc (Below.refl _ _) _) hb5⟩
  case pos =>
  rw [decide_eq_true hl] at hL
  clear hl
  generalize confV a b = cf at h18 h19
  obtain ⟨cw, ci⟩ := cf
  generalize mergeV a b = mg at h20 h21
  obtain ⟨ml, mk⟩ := mg
  generalize cmpV a b = cm at h22 h23
  generalize missV a b = ms at h24 h25
  dsimp only at h18 h19 h20 h21
  have tk : Hid True := trivial
  cases ci
  all_goals
    go_enter Try.func4, Try.ntmps4
    go_wp2_with (first
      | (go_at_call 9; refine (hL _ _ rfl).mono ?_; rintro e w1 ⟨rfl, rfl⟩)
      | (go_at_call 18; refine (h18 _ (HA.out.below (balloc (Below.refl _ _) _)) (HB.out.below (balloc (Below.refl _ _) _))).mono ?_; rintro e w2 ⟨rfl, hb2⟩; have HB2 : Hid _ := bnext (balloc (Below.refl _ _) _) hb2; clear hb2)
      | (go_at_call 19; refine (h19 _ (HA.out.below HB2.out) (HB.out.below HB2.out)).mono ?_; rintro e w3 ⟨rfl, hb3⟩; have HB3 : Hid _ := bnext HB2.out hb3; clear hb3)
      | (go_at_call 20; refine (h20 _ (HA.out.below HB3.out) (HB.out.below HB3.out)).mono ?_; rintro e w4 ⟨v4, rfl, ho4, hb4⟩; have HB4 : Hid _ := bnext HB3.out hb4; have HM4 : Hid (RdH w4 v4 ml) := ho4.rd; obtain ⟨a4, c4, rfl⟩ := ho4.rd.len; clear hb4 ho4)
      | (go_at_call 21; refine (h21 _ (HA.out.below HB4.out) (HB.out.below HB4.out)).mono ?_; rintro e w5 ⟨v5, rfl, ho5, hb5⟩; have HB5 : Hid _ := bnext HB4.out hb5; have HM5 : Hid (RdH w5 _ ml) := HM4.out.below hb5; have HN5 : Hid (RdH w5 v5 ml) := ho5.rd; obtain ⟨a5, c5, rfl⟩ := ho5.rd.len; clear hb5 ho5)
      | (go_at_call 22; refine (h22 _ (HA.out.below HB5.out) (HB.out.below HB5.out)).mono ?_; rintro e w6 ⟨rfl, hb6⟩; have HB6 : Hid _ := bnext HB5.out hb6; have HM6 : Hid (RdH w6 _ ml) := HM5.out.below hb6; have HN6 : Hid (RdH w6 _ ml) := HN5.out.below hb6; clear hb6)
      | (go_at_call 23; refine (h23 _ (HA.out.below HB6.out) (HB.out.below HB6.out)).mono ?_; rintro e w7 ⟨rfl, hb7⟩; have HB7 : Hid _ := bnext HB6.out hb7; have HM7 : Hid (RdH w7 _ ml) := HM6.out.below hb7; have HN7 : Hid (RdH w7 _ ml) := HN6.out.below hb7; clear hb7)
      | (go_at_call 24; refine (h24 _ (HA.out.below HB7.out) (HB.out.below HB7.out)).mono ?_; rintro e w8 ⟨v8, rfl, ho8, hb8⟩; have HB8 : Hid _ := bnext HB7.out hb8; have HM8 : Hid (RdH w8 _ ml) := HM7.out.below hb8; have HN8 : Hid (RdH w8 _ ml) := HN7.out.below hb8; have HS8 : Hid (RdH w8 v8 ms) := ho8.rd; obtain ⟨a8, c8, rfl⟩ := ho8.rd.len; clear hb8 ho8)
      | (go_at_call 25; refine (h25 _ (HA.out.below HB8.out) (HB.out.below HB8.out)).mono ?_; rintro e w9 ⟨v9, rfl, ho9, hb9⟩; have HB9 : Hid _ := bnext HB8.out hb9; have HM9 : Hid (RdH w9 _ ml) := HM8.out.below hb9; have HN9 : Hid (RdH w9 _ ml) := HN8.out.below hb9; have HS9 : Hid (RdH w9 _ ms) := HS8.out.below hb9; have HT9 : Hid (RdH w9 v9 ms) := ho9.rd; obtain ⟨a9, c9, rfl⟩ := ho9.rd.len; clear hb9 ho9)
      | (go_at_call 17; have _t := tk; refine (sameH_any _ _ ms _ HS9.out HT9.out).mono ?_; rintro e wa ⟨rfl, hba⟩; have HBA : Hid _ := bnext HB9.out hba; have HMA : Hid (RdH wa _ ml) := HM9.out.below hba; have HNA : Hid (RdH wa _ ml) := HN9.out.below hba; clear hba tk _t)
      | (go_at_call 17; refine (sameH_any _ _ ml _ HMA.out HNA.out).mono ?_; rintro e wb ⟨rfl, hbb⟩; have HBB : Hid _ := bnext HBA.out hbb; clear hbb)
      | (go_at_call 10; refine (alive_any _).mono ?_; rintro e wc ⟨rfl, hbc⟩))
    go_ret
    exact ⟨rfl, bnext HBB.out hbc⟩
end Go.Proofs.Ytdjfedlkfekeoaa
