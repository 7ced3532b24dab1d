/-
  The walk of VectorHolds: which vectors are right, the head of any writer, and any vector with another head, as the reference tells it.
-/
import Derived.Test.YtdjfedlkfekeoaaPutV
import Derived.Test.YtdjfedlkfekeoaaRefPutV
import Derived.Test.YtdjfedlkfekeoaaAlive
namespace Go.Proofs.Ytdjfedlkfekeoaa
set_option linter.unusedVariables false
set_option linter.unusedSimpArgs false
open Go.RowKit

theorem light1 (w : World) (av : Option Addr) (la ca : Nat) (b : Nat) (hb : b = w.heap.size) (ha : la ≤ 9223372036854775807) :
    Calls Try.prog 9 #[.slice (some ⟨b, 0, none⟩) 1 1] (w.alloc (.cells #[.slice av la ca] 22)) fun e w' => e = .returned (.bool (decide (la ≤ 30))) ∧ w' = w.alloc (.cells #[.slice av la ca] 22) := by
  subst hb
  have X := blk_new w [.slice av la ca] 22
  have h := light_any (w.alloc (.cells #[.slice av la ca] 22)) w.heap.size 1 (fun _ => av) (fun _ => la) (fun _ => ca) (by omega)
    (fun j hj => ha) (fun j hj => by
      obtain rfl : j = 0 := by omega
      exact X.cell 0 _ rfl)
  have e : lightB (fun _ => la) 1 = decide (la ≤ 30) := by simp [lightB, List.range_succ]
  rwa [e] at h

set_option maxHeartbeats 2000000 in
set_option maxRecDepth 20000 in
theorem holds_walk (va : Value) (l : List H) (x : Int) (h : H) (w : World) (ha : RdH w va l) (hx : I64 x) (hh : HOk h) :
    Calls Try.prog 3 #[va, .int .i64 x, hv h] w fun e w' => e = .returned (.bool true) ∧ Below w.heap.size w w' := by
  have h11 := fun w' q => put_any va l h w' q hh
  have h12 := fun w' q => refput_any va l h w' q hh
  have h13 := fun w' q => rightV_any va l w' q
  have h14 := fun w' q => refrightV_any va l w' q
  have h15 := fun w' q => get_any va l x w' q
  have h16 := fun w' q => refget_any va l x w' q
  have HA : Hid (RdH w va l) := ha
  obtain ⟨av, ca, rfl⟩ := ha.len
  have hca := ha.cap
  have hL := fun w' n q => light1 w' av l.length ca n q (by omega)
  clear ha hh
  by_cases hl : l.length ≤ 30
  case neg =>
    rw [decide_eq_false hl] at hL
    obtain ⟨x1, x2, x3⟩ := h
    simp only [hv]
    go_enter Try.func3, Try.ntmps3
    go_wp2_with (first
      | (go_at_call 9; refine (hL _ _ (by simp)).mono ?_; rintro e w1 ⟨rfl, rfl⟩)
      | (go_at_call 10; refine (alive_any _).mono ?_; rintro e w5 ⟨rfl, hb5⟩))
    go_ret
    exact ⟨rfl, bnext (balloc (balloc (Below.refl _ _) _) _) hb5⟩
  case pos =>
  rw [decide_eq_true hl] at hL
  clear hl
  generalize putV l h = pv at h11 h12
  obtain ⟨pl, pk⟩ := pv
  generalize rightB l = rb at h13 h14
  generalize getR l x = gr at h15 h16
  obtain ⟨y1, y2, y3⟩ := gr
  obtain ⟨x1, x2, x3⟩ := h
  simp only [hv] at h11 h12 h15 h16 ⊢
  have HX0 : Hid (Blk (w.alloc (.cells #[.int .i64 x1, .int .i64 x2, .int .u64 x3] 25)) w.heap.size 25 [.int .i64 x1, .int .i64 x2, .int .u64 x3]) := blk_new w [.int .i64 x1, .int .i64 x2, .int .u64 x3] 25
  cases rb
  all_goals
    go_enter Try.func3, Try.ntmps3
    go_wp2_with (first
      | (go_at_call 9; refine (hL _ _ (by simp)).mono ?_; rintro e w1 ⟨rfl, rfl⟩)
      | (go_at_call 11; refine (h11 _ (HA.out.below (balloc (balloc (Below.refl _ _) _) _))).mono ?_; rintro e w2 ⟨v2, rfl, ho2, hb2⟩
         have HB2 : Hid _ := bnext (balloc (balloc (Below.refl _ _) _) _) hb2
         have HM2 : Hid (RdH w2 v2 pl) := ho2.rd
         have X2 := Blk.below (Blk.alloc (vs := [.int .i64 x1, .int .i64 x2, .int .u64 x3]) HX0.out _) hb2
         have q0 := X2.cell 0 _ rfl
         have q1 := X2.cell 1 _ rfl
         have q2 := X2.cell 2 _ rfl
         obtain ⟨a2, c2, rfl⟩ := ho2.rd.len
         clear hb2 ho2 X2)
      | (go_at_call 12; refine (h12 _ (HA.out.below HB2.out)).mono ?_; rintro e w3 ⟨v3, rfl, ho3, hb3⟩
         have HB3 : Hid _ := bnext HB2.out hb3
         have HM3 : Hid (RdH w3 _ pl) := HM2.out.below hb3
         have HN3 : Hid (RdH w3 v3 pl) := ho3.rd
         obtain ⟨a3, c3, rfl⟩ := ho3.rd.len
         clear hb3 ho3 q0 q1 q2)
      | (go_at_call 13; refine (h13 _ (HA.out.below HB3.out)).mono ?_; rintro e w4 ⟨rfl, hb4⟩; have HB4 : Hid _ := bnext HB3.out hb4; have HM4 : Hid (RdH w4 _ pl) := HM3.out.below hb4; have HN4 : Hid (RdH w4 _ pl) := HN3.out.below hb4; clear hb4)
      | (go_at_call 14; refine (h14 _ (HA.out.below HB4.out)).mono ?_; rintro e w5 ⟨rfl, hb5⟩; have HB5 : Hid _ := bnext HB4.out hb5; have HM5 : Hid (RdH w5 _ pl) := HM4.out.below hb5; have HN5 : Hid (RdH w5 _ pl) := HN4.out.below hb5; clear hb5)
      | (go_at_call 15; refine (h15 _ (HA.out.below HB5.out)).mono ?_; rintro e w6 ⟨rfl, hb6⟩; have HB6 : Hid _ := bnext HB5.out hb6; have HM6 : Hid (RdH w6 _ pl) := HM5.out.below hb6; have HN6 : Hid (RdH w6 _ pl) := HN5.out.below hb6; clear hb6)
      | (go_at_call 16; refine (h16 _ (HA.out.below HB6.out)).mono ?_; rintro e w7 ⟨rfl, hb7⟩; have HB7 : Hid _ := bnext HB6.out hb7; have HM7 : Hid (RdH w7 _ pl) := HM6.out.below hb7; have HN7 : Hid (RdH w7 _ pl) := HN6.out.below hb7; clear hb7)
      | (go_at_call 17; refine (sameH_any _ _ pl _ HM7.out HN7.out).mono ?_; rintro e wa ⟨rfl, hba⟩; have HBA : Hid _ := bnext HB7.out hba; clear hba)
      | (go_at_call 10; refine (alive_any _).mono ?_; rintro e wc ⟨rfl, hbc⟩))
    go_ret
    exact ⟨rfl, bnext HBA.out hbc⟩
end Go.Proofs.Ytdjfedlkfekeoaa
