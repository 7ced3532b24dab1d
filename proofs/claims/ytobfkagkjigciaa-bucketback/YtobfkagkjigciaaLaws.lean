/-
  The walks of layer 2's laws.
-/
import Derived.Test.YtobfkagkjigciaaAlive2
namespace Go.Proofs.Ytobfkagkjigciaa
set_option linter.unusedVariables false
open Go.RowKit

set_option maxHeartbeats 400000 in
theorem classes_walk (n c : Int) (w : World) (hn : -9223372036854775808 ≤ n ∧ n ≤ 9223372036854775807) (hc : -9223372036854775808 ≤ c ∧ c ≤ 9223372036854775807) :
    Calls Try.prog 3 #[.int .i64 n, .int .i64 c] w fun e w' => e = .returned (.bool true) ∧ Below w.heap.size w w' := by
  have HB : Hid (Below w.heap.size w w) := Below.refl _ _
  have t1 : Hid True := trivial
  go_enter Try.func3, Try.ntmps3
  go_wp2_with (first | (go_at_call 8; go_must (refine (class_any n _ hn.2).mono ?_; rintro e w1 ⟨rfl, hb⟩; replace HB : Hid (Below w.heap.size w w1) := bnext HB.out hb; clear hb)) | (go_at_call 9; go_must (refine (refclass_any n _ hn).mono ?_; rintro e w2 ⟨rfl, hb⟩; replace HB : Hid (Below w.heap.size w w2) := bnext HB.out hb; clear hb)) | (go_at_call 10; go_must (refine (size_any c _).mono ?_; rintro e w3 ⟨rfl, rfl⟩)) | (go_at_call 11; go_must (refine (refsize_any c _ hc).mono ?_; rintro e w4 ⟨rfl, hb⟩; replace HB : Hid (Below w.heap.size w w4) := bnext HB.out hb; clear hb)) | (go_at_call 12; go_must (refine (room_any c _).mono ?_; rintro e w5 ⟨rfl, hb⟩; replace HB : Hid (Below w.heap.size w w5) := bnext HB.out hb; clear hb)) | (go_at_call 13; go_must (refine (refroom_any c _).mono ?_; rintro e w6 ⟨rfl, hb⟩; replace HB : Hid (Below w.heap.size w w6) := bnext HB.out hb; clear hb)) | (go_at_call 14; go_must (refine (classes_any _).mono ?_; rintro e w7 ⟨rfl, rfl⟩)) | (go_at_call 15; go_must (refine (alive_any _).mono ?_; rintro e w8 ⟨rfl, hb⟩; replace HB : Hid (Below w.heap.size w w8) := bnext HB.out hb; clear hb)))
  go_ret
  exact ⟨rfl, HB.out⟩

theorem alike_any (v x : Value) (a b : List Int) (w : World) (hv : Rd w v a) (hx : Rd w x b) (ha : a.length ≤ 2000) (hb : b.length ≤ 2000) :
    Calls Try.prog 21 #[v, x] w fun e w' => e = .returned (.bool (decide (cls a.length = cls b.length))) ∧ Below w.heap.size w w' := by
  obtain ⟨av, cv, rfl⟩ := hv.len
  obtain ⟨ax, cx, rfl⟩ := hx.len
  have H : Hid (∀ (l : List Int) w, l.length ≤ 2000 → Calls Try.prog 8 #[.int .i64 l.length] w fun e w' => e = .returned (.int .i64 (cls l.length)) ∧ Below w.heap.size w w') := fun l w hl => by
    have := class_any l.length w (by omega)
    rwa [clsI_nat] at this
  have HA : Hid True := trivial
  go_enter Try.func21, Try.ntmps21
  go_wp2_with fail
  refine (H.out a _ ha).mono ?_
  rintro e w1 ⟨rfl, hb1⟩
  go_wp2_with fail
  refine (H.out b _ hb).mono ?_
  rintro e w2 ⟨rfl, hb2⟩
  go_wp2
  go_ret
  refine ⟨?_, bnext hb1 hb2⟩
  show Ending.returned (.bool (cls a.length == cls b.length)) = _
  by_cases h : cls a.length = cls b.length
  · simp [h]
  · rw [decide_eq_false h]
    simpa using h

theorem padK_cls {l : List Int} : padK l = if cls l.length = -1 then 3 else 0 := rfl
theorem padOf_size {l : List Int} : ((padOf l).length : Int) = if cls l.length = -1 then 0 else sizeI (cls l.length) := by
  unfold padOf
  split
  · rfl
  · rename_i h
    obtain ⟨s, hs, h1, h2, h3⟩ := cls_size h
    rw [hs]
    simp
    omega
theorem sizeI_inj {a b : Int} (ha : 0 ≤ a ∧ a < 7) (hb : 0 ≤ b ∧ b < 7) (h : sizeI a = sizeI b) : a = b := by
  have h7 : ∀ c : Int, 0 ≤ c ∧ c < 7 → c = 0 ∨ c = 1 ∨ c = 2 ∨ c = 3 ∨ c = 4 ∨ c = 5 ∨ c = 6 := fun c hc => by omega
  rcases h7 a ha with rfl | rfl | rfl | rfl | rfl | rfl | rfl <;> rcases h7 b hb with rfl | rfl | rfl | rfl | rfl | rfl | rfl <;> first | rfl | (exact absurd h (by decide))

/-- Texts are alike just if they are padded to as many bytes, or both too long. -/
theorem alike_pads (a b : List Int) : (cls a.length = cls b.length) ↔ (padK a = padK b ∧ (padOf a).length = (padOf b).length) := by
  have ha := @padOf_size a
  have hb := @padOf_size b
  have la := cls_lt a.length
  have lb := cls_lt b.length
  rw [padK_cls, padK_cls]
  constructor
  · intro h
    rw [h] at ha ⊢
    exact ⟨rfl, by omega⟩
  · rintro ⟨h1, h2⟩
    by_cases ea : cls a.length = -1 <;> by_cases eb : cls b.length = -1
    · rw [ea, eb]
    · rw [if_pos ea, if_neg eb] at h1; cases h1
    · rw [if_neg ea, if_pos eb] at h1; cases h1
    · rw [if_neg ea] at ha
      rw [if_neg eb] at hb
      exact sizeI_inj (by omega) (by omega) (by omega)

set_option maxHeartbeats 400000 in
theorem pads_walk (v x : Value) (b c : List Int) (w : World) (hv : Rd w v b) (hx : Rd w x c) :
    Calls Try.prog 4 #[v, x] w fun e w' => e = .returned (.bool true) ∧ Below w.heap.size w w' := by
  obtain ⟨av, cv, rfl⟩ := hv.len
  obtain ⟨ax, cx, rfl⟩ := hx.len
  have HA : Hid (∀ w, Calls Try.prog 15 #[] w fun e w' => e = .returned (.bool true) ∧ Below w.heap.size w w') := alive_any
  by_cases h1 : b.length > 2000
  · go_enter Try.func4, Try.ntmps4
    go_wp2_with (go_at_call 15; go_must (refine (HA.out _).mono ?_; rintro e w1 ⟨rfl, hb1⟩))
    go_ret
    exact ⟨rfl, hb1⟩
  · by_cases h2 : c.length > 2000
    · go_enter Try.func4, Try.ntmps4
      go_wp2_with (go_at_call 15; go_must (refine (HA.out _).mono ?_; rintro e w1 ⟨rfl, hb1⟩))
      go_ret
      exact ⟨rfl, hb1⟩
    · go_enter Try.func4, Try.ntmps4
      go_wp2_with fail
      refine (pad_any _ b _ hv (by omega)).mono ?_
      rintro e w1 ⟨v1, rfl, hp1, hb1⟩
      go_wp2_with fail
      refine (refpad_any _ b _ (hv.below hb1) (by omega)).mono ?_
      rintro e w2 ⟨v2, rfl, hp2, hb2⟩
      have hB2 := bnext hb1 hb2
      go_wp2_with fail
      refine (unpad_any _ c _ (hx.below hB2) (by omega)).mono ?_
      rintro e w3 ⟨v3, x3, k3, rfl, hr3, hu3, hb3⟩
      have hB3 := bnext hB2 hb3
      go_wp2_with fail
      refine (refunpad_any _ c _ (hx.below hB3) (by omega)).mono ?_
      rintro e w4 ⟨v4, x4, k4, rfl, hr4, hu4, hb4⟩
      have hB4 := bnext hB3 hb4
      obtain ⟨rfl, rfl⟩ := UnpadIs.one hr3.oct hr4.oct hu3 hu4
      clear hu3 hu4
      go_wp2_with fail
      refine (same_any _ _ _ (padOf b) _ (((hp1.rd.below hb2).below hb3).below hb4) ((hp2.rd.below hb3).below hb4)).mono ?_
      rw [decide_eq_true rfl]
      rintro e w5 ⟨rfl, hb5⟩
      have hB5 := bnext hB4 hb5
      go_wp2_with fail
      refine (same_any _ _ _ x3 _ ((hr3.below hb4).below hb5) (hr4.below hb5)).mono ?_
      rw [decide_eq_true rfl]
      rintro e w6 ⟨rfl, hb6⟩
      have hB6 := bnext hB5 hb6
      go_wp2_with fail
      refine (HA.out _).mono ?_
      rintro e w7 ⟨rfl, hb7⟩
      have hB7 := bnext hB6 hb7
      go_wp2
      go_ret
      exact ⟨rfl, hB7⟩

set_option maxHeartbeats 400000 in
theorem alike_walk (v x : Value) (b c : List Int) (w : World) (hv : Rd w v b) (hx : Rd w x c) :
    Calls Try.prog 6 #[v, x] w fun e w' => e = .returned (.bool true) ∧ Below w.heap.size w w' := by
  obtain ⟨av, cv, rfl⟩ := hv.len
  obtain ⟨ax, cx, rfl⟩ := hx.len
  have HA : Hid (∀ w, Calls Try.prog 15 #[] w fun e w' => e = .returned (.bool true) ∧ Below w.heap.size w w') := alive_any
  by_cases h1 : b.length > 2000
  · go_enter Try.func6, Try.ntmps6
    go_wp2_with (go_at_call 15; go_must (refine (HA.out _).mono ?_; rintro e w1 ⟨rfl, hb1⟩))
    go_ret
    exact ⟨rfl, hb1⟩
  · by_cases h2 : c.length > 2000
    · go_enter Try.func6, Try.ntmps6
      go_wp2_with (go_at_call 15; go_must (refine (HA.out _).mono ?_; rintro e w1 ⟨rfl, hb1⟩))
      go_ret
      exact ⟨rfl, hb1⟩
    · have HI := hid (alike_pads b c)
      go_enter Try.func6, Try.ntmps6
      go_wp2_with fail
      refine (pad_any _ b _ hv (by omega)).mono ?_
      rintro e w1 ⟨v1, rfl, hp1, hb1⟩
      obtain ⟨a1, c1, rfl⟩ := hp1.rd.len
      go_wp2_with fail
      refine (pad_any _ c _ (hx.below hb1) (by omega)).mono ?_
      rintro e w2 ⟨v2, rfl, hp2, hb2⟩
      obtain ⟨a2, c2, rfl⟩ := hp2.rd.len
      have hB2 := bnext hb1 hb2
      go_wp2_with fail
      refine (alike_any _ _ b c _ (hv.below hB2) (hx.below hB2) (by omega) (by omega)).mono ?_
      rintro e w3 ⟨rfl, hb3⟩
      have hB3 := bnext hB2 hb3
      clear hb1 hb2 hb3 hp1 hp2 hB2
      generalize (padOf b).length = lb, (padOf c).length = lc, padK b = kb, padK c = kc at *
      by_cases hk : kb = kc
      · subst hk
        by_cases hl : lb = lc
        · subst hl
          rw [decide_eq_true (HI.out.2 ⟨rfl, rfl⟩)]
          go_wp2_with (go_at_call 15; go_must (refine (HA.out _).mono ?_; rintro e w4 ⟨rfl, hb4⟩))
          go_ret
          exact ⟨rfl, bnext hB3 hb4⟩
        · rw [decide_eq_false (fun h => hl (HI.out.1 h).2)]
          have hl' : ((lb : Int) == (lc : Int)) = false := by simp; omega
          go_wp2_with (go_at_call 15; go_must (refine (HA.out _).mono ?_; rintro e w4 ⟨rfl, hb4⟩))
          go_ret
          exact ⟨rfl, bnext hB3 hb4⟩
      · rw [decide_eq_false (fun h => hk (HI.out.1 h).1)]
        have hk' : (kb == kc) = false := by simpa using hk
        clear hk
        go_wp2_with (go_at_call 15; go_must (refine (HA.out _).mono ?_; rintro e w4 ⟨rfl, hb4⟩))
        go_ret
        exact ⟨rfl, bnext hB3 hb4⟩

theorem cls_rise {n m : Nat} (h : n ≤ m) : (cls n < 0 → cls m < 0) ∧ (cls m < 0 ∨ cls n ≤ cls m) := by
  unfold cls
  (repeat' split) <;> omega
theorem cls_room {n : Nat} (h : ¬ cls n < 0) : (n : Int) ≤ roomI (cls n) ∧ (cls n = 0 ∨ roomI (cls n - 1) < n) ∧ clsI (roomI (cls n)) = cls n ∧ 0 ≤ roomI (cls n) ∧ roomI (cls n) ≤ 1022 := by
  have hb := cls_lt n
  have h7 : cls n = 0 ∨ cls n = 1 ∨ cls n = 2 ∨ cls n = 3 ∨ cls n = 4 ∨ cls n = 5 ∨ cls n = 6 := by omega
  have hn : cls n = cls n := rfl
  conv at hn => lhs; unfold cls
  have r0 : roomI 0 = 15 := rfl
  have r1 : roomI 1 = 31 := rfl
  have r2 : roomI 2 = 63 := rfl
  have r3 : roomI 3 = 127 := rfl
  have r4 : roomI 4 = 254 := rfl
  have r5 : roomI 5 = 510 := rfl
  have r6 : roomI 6 = 1022 := rfl
  rcases h7 with e | e | e | e | e | e | e <;> rw [e] at hn ⊢ <;> simp only [r0, r1, r2, r3, r4, r5, r6, show (6 : Int) - 1 = 5 from rfl, show (5 : Int) - 1 = 4 from rfl, show (4 : Int) - 1 = 3 from rfl, show (3 : Int) - 1 = 2 from rfl, show (2 : Int) - 1 = 1 from rfl, show (1 : Int) - 1 = 0 from rfl] <;> refine ⟨?_, ?_, by decide, by decide, by decide⟩ <;> first | (left; trivial) | ((repeat' split at hn) <;> omega)

set_option maxHeartbeats 800000 in
theorem rises_walk (n m : Int) (w : World) (hn : -9223372036854775808 ≤ n ∧ n ≤ 9223372036854775807) (hm : -9223372036854775808 ≤ m ∧ m ≤ 9223372036854775807) :
    Calls Try.prog 7 #[.int .i64 n, .int .i64 m] w fun e w' => e = .returned (.bool true) ∧ Below w.heap.size w w' := by
  have HA : Hid (∀ w, Calls Try.prog 15 #[] w fun e w' => e = .returned (.bool true) ∧ Below w.heap.size w w') := alive_any
  have HM : Hid (∀ w, Calls Try.prog 8 #[.int .i64 (-1)] w fun e w' => e = .returned (.int .i64 (-1)) ∧ Below w.heap.size w w') := fun w => class_any (-1) w (by omega)
  by_cases h : n < 0 ∨ m < n ∨ m > 3000
  · by_cases h1 : n < 0
    · go_enter Try.func7, Try.ntmps7
      go_wp2_with (first | (go_at_call 8; go_must (refine (HM.out _).mono ?_; rintro e w1 ⟨rfl, hb1⟩)) | (go_at_call 15; go_must (refine (HA.out _).mono ?_; rintro e w2 ⟨rfl, hb2⟩)))
      go_ret
      exact ⟨rfl, bnext hb1 hb2⟩
    · by_cases h2 : m < n
      · go_enter Try.func7, Try.ntmps7
        go_wp2_with (first | (go_at_call 8; go_must (refine (HM.out _).mono ?_; rintro e w1 ⟨rfl, hb1⟩)) | (go_at_call 15; go_must (refine (HA.out _).mono ?_; rintro e w2 ⟨rfl, hb2⟩)))
        go_ret
        exact ⟨rfl, bnext hb1 hb2⟩
      · have h3 : m > 3000 := by omega
        clear h
        go_enter Try.func7, Try.ntmps7
        go_wp2_with (first | (go_at_call 8; go_must (refine (HM.out _).mono ?_; rintro e w1 ⟨rfl, hb1⟩)) | (go_at_call 15; go_must (refine (HA.out _).mono ?_; rintro e w2 ⟨rfl, hb2⟩)))
        go_ret
        exact ⟨rfl, bnext hb1 hb2⟩
  · obtain ⟨n, rfl⟩ := Int.eq_ofNat_of_zero_le (by omega : 0 ≤ n)
    obtain ⟨m, rfl⟩ := Int.eq_ofNat_of_zero_le (by omega : 0 ≤ m)
    have hnm : n ≤ m := by omega
    have hm3 : m ≤ 3000 := by omega
    have hr := cls_rise hnm
    have HC : Hid (∀ (n : Nat) w, n ≤ 3000 → Calls Try.prog 8 #[.int .i64 n] w fun e w' => e = .returned (.int .i64 (cls n)) ∧ Below w.heap.size w w') := fun n w hn => by
      have := class_any n w (by omega)
      rwa [clsI_nat] at this
    clear h hn hm
    have HCn := fun w => hid (HC.out n w (by omega))
    have HCm := fun w => hid (HC.out m w (by omega))
    by_cases ha : cls n < 0
    · have hb := hr.1 ha
      clear hr HC
      generalize cls n = a, cls m = b at *
      go_enter Try.func7, Try.ntmps7
      go_wp2_with fail
      refine (HCn _).out.mono ?_
      rintro e w1 ⟨rfl, hb1⟩
      go_wp2_with fail
      refine (HCm _).out.mono ?_
      rintro e w2 ⟨rfl, hb2⟩
      go_wp2_with (go_at_call 15; go_must (refine (HA.out _).mono ?_; rintro e w3 ⟨rfl, hb3⟩))
      go_ret
      exact ⟨rfl, bnext (bnext hb1 hb2) hb3⟩
    · obtain ⟨r1, r2, r3, r4, r5⟩ := cls_room ha
      have hlt := cls_lt n
      have HR : Hid (∀ w, Calls Try.prog 12 #[.int .i64 (cls n)] w fun e w' => e = .returned (.int .i64 (roomI (cls n))) ∧ Below w.heap.size w w') := fun w => room_any _ w
      have HR1 : Hid (∀ w, Calls Try.prog 12 #[.int .i64 (cls n - 1)] w fun e w' => e = .returned (.int .i64 (roomI (cls n - 1))) ∧ Below w.heap.size w w') := fun w => room_any _ w
      have HCR : Hid (∀ w, Calls Try.prog 8 #[.int .i64 (roomI (cls n))] w fun e w' => e = .returned (.int .i64 (cls n)) ∧ Below w.heap.size w w') := fun w => by
        have := class_any (roomI (cls n)) w (by omega)
        rwa [r3] at this
      have hba := hr.2
      clear hr HC r3
      generalize roomI (cls n) = R, roomI (cls n - 1) = R1 at *
      generalize cls n = a, cls m = b at *
      by_cases hb0 : b < 0 <;> by_cases ha0 : a = 0
      all_goals first
        | subst ha0
        | (have hR1 : R1 < (n : Int) := by omega
           have ha0' : (a == 0) = false := by simpa using ha0
           clear ha0)
      all_goals
        try (have hab : a ≤ b := by omega)
        clear r2 hba
        go_enter Try.func7, Try.ntmps7
        go_wp2_with fail
        refine (HCn _).out.mono ?_
        rintro e w1 ⟨rfl, hb1⟩
        go_wp2_with fail
        refine (HCm _).out.mono ?_
        rintro e w2 ⟨rfl, hb2⟩
        have HB := hid (bnext hb1 hb2)
        clear hb1 hb2
        go_wp2_with (first | (go_at_call 12; go_must ((first | refine (HR.out _).mono ?_ | refine (HR1.out _).mono ?_); rintro e w3 ⟨rfl, hb3⟩; replace HB := hid (bnext HB.out hb3); clear hb3)) | (go_at_call 8; go_must (refine (HCR.out _).mono ?_; rintro e w4 ⟨rfl, hb4⟩; replace HB := hid (bnext HB.out hb4); clear hb4)) | (go_at_call 15; go_must (refine (HA.out _).mono ?_; rintro e w3 ⟨rfl, hb3⟩; replace HB := hid (bnext HB.out hb3); clear hb3)))
        go_ret
        exact ⟨rfl, HB.out⟩
end Go.Proofs.Ytobfkagkjigciaa
