/-
  The walk of VectorBytes: any vector's bytes, and any bytes' vector, as the reference tells it.
-/
import Derived.Test.YtdjfedlkfekeoaaRefBytesV
import Derived.Test.YtdjfedlkfekeoaaRefReadV
import Derived.Test.YtdjfedlkfekeoaaAlive
import Derived.Test.YtdjfedlkfekeoaaSame
namespace Go.Proofs.Ytdjfedlkfekeoaa
set_option linter.unusedVariables false
set_option linter.unusedSimpArgs false
open Go.RowKit

theorem light1 (w : World) (av : Option Addr) (la ca : Nat) (b : Nat) (hb : b = w.heap.size) (ha : la ≤ 9223372036854775807) :
    Calls Try.prog 9 #[.slice (some ⟨b, 0, none⟩) 1 1] (w.alloc (.cells #[.slice av la ca] 22)) fun e w' => e = .returned (.bool (decide (la ≤ 30))) ∧ w' = w.alloc (.cells #[.slice av la ca] 22) := by
  subst hb
  have X := blk_new w [.slice av la ca] 22
  have h := light_any (w.alloc (.cells #[.slice av la ca] 22)) w.heap.size 1 (fun _ => av) (fun _ => la) (fun _ => ca) (by omega)
    (fun j hj => ha) (fun j hj => by
      obtain rfl : j = 0 := by omega
      exact X.cell 0 _ rfl)
  have e : lightB (fun _ => la) 1 = decide (la ≤ 30) := by simp [lightB, List.range_succ]
  rwa [e] at h
theorem same_true (v x : Value) (a : List Int) (w : World) (hv : Rd w v a) (hx : Rd w x a) : Calls Try.prog 30 #[v, x] w fun e w' => e = .returned (.bool true) ∧ Below w.heap.size w w' := by
  have := same_any v x a a w hv hx
  simpa using this

set_option maxHeartbeats 2000000 in
set_option maxRecDepth 20000 in
theorem bytes_walk (va : Value) (l : List H) (vm : Value) (m : List Int) (w : World) (ha : RdH w va l) (hm : Rd w vm m) :
    Calls Try.prog 5 #[va, vm] w fun e w' => e = .returned (.bool true) ∧ Below w.heap.size w w' := by
  have h26 := fun w' q => bytes_any va l w' q
  have h27 := fun w' q => refbytes_any va l w' q
  have HA : Hid (RdH w va l) := ha
  have HM : Hid (Rd w vm m) := hm
  obtain ⟨av, ca, rfl⟩ := ha.len
  have hca := ha.cap
  have hL := fun w' n q => light1 w' av l.length ca n q (by omega)
  have h29 := fun w' q => refreadV_any vm m w' q
  by_cases hl : l.length ≤ 30
  case neg =>
    rw [decide_eq_false hl] at hL
    clear ha hm h26 h27 h29
    go_enter Try.func5, Try.ntmps5
    go_wp2_with (first
      | (go_at_call 9; refine (hL _ _ rfl).mono ?_; rintro e w1 ⟨rfl, rfl⟩)
      | (go_at_call 10; refine (alive_any _).mono ?_; rintro e w5 ⟨rfl, hb5⟩))
    go_ret
    exact ⟨rfl, bnext (balloc (Below.refl _ _) _) hb5⟩
  case pos =>
  rw [decide_eq_true hl] at hL
  obtain ⟨mv, mc, rfl⟩ := hm.len
  have hcm := hm.cap
  by_cases hml : m.length ≤ 500
  case neg =>
    clear ha hm h26 h27 h29
    go_enter Try.func5, Try.ntmps5
    go_wp2_with (first
      | (go_at_call 9; refine (hL _ _ rfl).mono ?_; rintro e w1 ⟨rfl, rfl⟩)
      | (go_at_call 10; refine (alive_any _).mono ?_; rintro e w5 ⟨rfl, hb5⟩))
    go_ret
    exact ⟨rfl, bnext (balloc (Below.refl _ _) _) hb5⟩
  case pos =>
  have h28 := fun w' q => readV_any (.slice mv m.length mc) m w' q (by omega)
  clear ha hm hl
  generalize bytesV l = bv at h26 h27
  obtain ⟨bl, bk⟩ := bv
  generalize readV m = rv at h28 h29
  obtain ⟨rl, rk⟩ := rv
  dsimp only at h26 h27 h28 h29
  go_enter Try.func5, Try.ntmps5
  go_wp2_with (first
    | (go_at_call 9; refine (hL _ _ rfl).mono ?_; rintro e w1 ⟨rfl, rfl⟩)
    | (go_at_call 26; refine (h26 _ (HA.out.below (balloc (Below.refl _ _) _))).mono ?_; rintro e w2 ⟨v2, rfl, ho2, hb2⟩
       have HB2 : Hid _ := bnext (balloc (Below.refl _ _) _) hb2
       have HX2 : Hid (Rd w2 v2 bl) := ho2
       clear hb2 ho2)
    | (go_at_call 27; refine (h27 _ (HA.out.below HB2.out)).mono ?_; rintro e w3 ⟨v3, rfl, ho3, hb3⟩
       have HB3 : Hid _ := bnext HB2.out hb3
       have HX3 : Hid (Rd w3 _ bl) := HX2.out.below hb3
       have HY3 : Hid (Rd w3 v3 bl) := ho3
       clear hb3 ho3)
    | (go_at_call 28; refine (h28 _ (HM.out.below HB3.out)).mono ?_; rintro e w4 ⟨v4, rfl, ho4, hb4⟩
       have HB4 : Hid _ := bnext HB3.out hb4
       have HX4 : Hid (Rd w4 _ bl) := HX3.out.below hb4
       have HY4 : Hid (Rd w4 _ bl) := HY3.out.below hb4
       have HR4 : Hid (RdH w4 v4 rl) := ho4
       obtain ⟨a4, c4, rfl⟩ := ho4.len
       clear hb4 ho4)
    | (go_at_call 29; refine (h29 _ (HM.out.below HB4.out)).mono ?_; rintro e w5 ⟨v5, rfl, ho5, hb5⟩
       have HB5 : Hid _ := bnext HB4.out hb5
       have HX5 : Hid (Rd w5 _ bl) := HX4.out.below hb5
       have HY5 : Hid (Rd w5 _ bl) := HY4.out.below hb5
       have HR5 : Hid (RdH w5 _ rl) := HR4.out.below hb5
       have HS5 : Hid (RdH w5 v5 rl) := ho5
       obtain ⟨a5, c5, rfl⟩ := ho5.len
       clear hb5 ho5)
    | (go_at_call 30; refine (same_true _ _ bl _ HX5.out HY5.out).mono ?_; rintro e w6 ⟨rfl, hb6⟩
       have HB6 : Hid _ := bnext HB5.out hb6
       have HR6 : Hid (RdH w6 _ rl) := HR5.out.below hb6
       have HS6 : Hid (RdH w6 _ rl) := HS5.out.below hb6
       clear hb6)
    | (go_at_call 17; refine (sameH_any _ _ rl _ HR6.out HS6.out).mono ?_; rintro e w7 ⟨rfl, hb7⟩; have HB7 : Hid _ := bnext HB6.out hb7; clear hb7)
    | (go_at_call 10; refine (alive_any _).mono ?_; rintro e wc ⟨rfl, hbc⟩))
  go_ret
  exact ⟨rfl, bnext HB7.out hbc⟩
end Go.Proofs.Ytdjfedlkfekeoaa
