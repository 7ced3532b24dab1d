/-
  Both heads of each writer, one behind the other, handed to a closure: whatever holds round by round holds in the end.
-/
import Derived.Test.YtdjfedlkfekeoaaGet
import Derived.Shelf.Abstract
namespace Go.Proofs.Ytdjfedlkfekeoaa
set_option linter.unusedVariables false
set_option linter.unusedSimpArgs false
open Go.RowKit

/-- What holds ahead of writer k, in worlds that have only more than w0. -/
structure Rounds (w0 : World) (a b : List H) (g : Nat) (cb : Array Value) (Inv : Nat → World → Prop) : Prop where
  bel : ∀ k w, Inv k w → Below w0.heap.size w0 w
  grow : ∀ k w w', Inv k w → Below w.heap.size w w' → Inv k w'
  skip : ∀ k w, k < 8 → Inv k w → ¬ (0 < (getV a (k : Nat)).2.1 ∨ 0 < (getV b (k : Nat)).2.1) → Inv (k + 1) w
  step : ∀ k w, k < 8 → Inv k w → (0 < (getV a (k : Nat)).2.1 ∨ 0 < (getV b (k : Nat)).2.1) → Calls Try.prog g (#[hv (getV a (k : Nat)), hv (getV b (k : Nat))] ++ cb) w fun e w' => e = .returned (.tuple #[]) ∧ Inv (k + 1) w'

set_option maxHeartbeats 1000000 in
set_option maxRecDepth 20000 in
theorem both_any (w0 : World) (va vb : Value) (a b : List H) (ha : RdH w0 va a) (hb : RdH w0 vb b) (ra : RightV a) (rb : RightV b) (g : Nat) (cb : Array Value) (Inv : Nat → World → Prop)
    (eg : ∀ args w, (callFunc g args).run Try.prog w = .ok (.enter g args) w) (hI : Rounds w0 a b g cb Inv) (w : World) (h0 : Inv 0 w) :
    Calls Try.prog 37 #[va, vb, .func (.func g) #[] cb] w fun e w' => e = .returned (.tuple #[]) ∧ Inv 8 w' := by
  have hA := fun (k : Nat) w' h => head_any va a (k : Nat) w' h ra
  have hB := fun (k : Nat) w' h => head_any vb b (k : Nat) w' h rb
  obtain ⟨av, ca, rfl⟩ := ha.len
  obtain ⟨bv, cb', rfl⟩ := hb.len
  have HA : Hid (RdH w0 (.slice av a.length ca) a) := ha
  have HB : Hid (RdH w0 (.slice bv b.length cb') b) := hb
  have HI : Hid (Rounds w0 a b g cb Inv) := hI
  have H0 : Hid (Inv 0 w) := h0
  clear ha hb hI h0 ra rb
  go_enter Try.func37, Try.ntmps37
  go_wp2
  go_loopw [9] (fun i wr => ∃ k : Nat, i = .int .i64 k ∧ k ≤ 8 ∧ Hid (Inv k wr)) (fun i _ => 8 - (intOf i).toNat)
  case atStart => exact ⟨0, rfl, by omega, H0⟩
  case round =>
    obtain ⟨k, rfl, hk, HK⟩ := hrel
    clear H0
    by_cases hk8 : k < 8
    · have hA := hA k
      have hB := hB k
      have HZ : Hid _ := fun w' h => HI.out.skip k w' hk8 h
      have HS : Hid _ := fun w' h => HI.out.step k w' hk8 h
      have hlt : (getV a (k : Nat)).2.1 = (getV a (k : Nat)).2.1 := rfl
      generalize getV a (k : Nat) = x at hA HZ HS
      generalize getV b (k : Nat) = y at hB HZ HS
      obtain ⟨x1, x2, x3⟩ := x
      obtain ⟨y1, y2, y3⟩ := y
      have hkk : ((k : Int) : Int) = (k : Int) := rfl
      simp only [hv] at hA hB HS
      dsimp only at HZ HS
      have tk : Hid True := trivial
      have hbk := fun w' h => HI.out.bel k w' h
      have HBK : Hid _ := hbk
      clear hbk hlt hkk
      by_cases hp : 0 < x2 ∨ 0 < y2
      · have HS2 : Hid _ := fun w' h => HS.out w' h hp
        have hp' : 0 < x2 ∨ (¬ 0 < x2 ∧ 0 < y2) := by omega
        clear hp HS HZ
        rcases hp' with hx | ⟨hx, hy⟩
        all_goals
          go_wp2_with (first
            | (go_at_call 36; have _t := tk; refine (hA _ (HA.out.below (HBK.out _ HK.out))).mono ?_; rintro e w1 ⟨rfl, hb1⟩; clear tk _t)
            | (go_at_call 36; refine (hB _ (HB.out.below (bnext (HBK.out _ HK.out) hb1))).mono ?_; rintro e w2 ⟨rfl, hb2⟩)
            | (go_at_fn g; refine (HS2.out _ (HI.out.grow k _ _ HK.out (balloc (balloc (bnext hb1 hb2) _) _))).mono ?_; rintro e w3 ⟨rfl, h3⟩))
          go_roundw
          case rel => exact ⟨k + 1, by go_num, by omega, h3⟩
          case measure => simp [intOf]; omega
      · have HZ2 : Hid _ := fun w' h => HZ.out w' h hp
        have hx : ¬ 0 < x2 := fun h => hp (.inl h)
        have hy : ¬ 0 < y2 := fun h => hp (.inr h)
        clear hp HS HZ
        go_wp2_with (first
            | (go_at_call 36; have _t := tk; refine (hA _ (HA.out.below (HBK.out _ HK.out))).mono ?_; rintro e w1 ⟨rfl, hb1⟩; clear tk _t)
            | (go_at_call 36; refine (hB _ (HB.out.below (bnext (HBK.out _ HK.out) hb1))).mono ?_; rintro e w2 ⟨rfl, hb2⟩))
        go_roundw
        case rel => exact ⟨k + 1, by go_num, by omega, HZ2.out _ (HI.out.grow k _ _ HK.out (balloc (balloc (bnext hb1 hb2) _) _))⟩
        case measure => simp [intOf]; omega
    · obtain rfl : k = 8 := by omega
      go_wp2
      go_end0
      exact ⟨rfl, HK.out⟩
end Go.Proofs.Ytdjfedlkfekeoaa
