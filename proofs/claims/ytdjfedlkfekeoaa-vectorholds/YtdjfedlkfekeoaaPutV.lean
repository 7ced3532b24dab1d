/-
  A vector with a head put in place of its writer's, by the program.
-/
import Derived.Test.YtdjfedlkfekeoaaInsert
import Derived.Test.YtdjfedlkfekeoaaVecPut
namespace Go.Proofs.Ytdjfedlkfekeoaa
set_option linter.unusedVariables false
set_option linter.unusedSimpArgs false
open Go.RowKit

theorem csH_set : ∀ (l : List H) (k : Nat) (s : H) (t : List Value), k < l.length → (((csH l ++ t).set (k * 3) (.int .i64 s.1)).set (k * 3 + 1) (.int .i64 s.2.1)).set (k * 3 + 2) (.int .u64 s.2.2) = csH (l.set k s) ++ t
  | [], k, s, t, h => by simp at h
  | x :: l, 0, s, t, _ => by simp [csH, hc]
  | x :: l, k + 1, s, t, h => by
    have := csH_set l k s t (by simpa using h)
    simp only [csH, List.flatMap_cons, hc, List.set_cons_succ] at this ⊢
    rw [show (k + 1) * 3 = k * 3 + 3 by omega]
    simpa using this

set_option maxHeartbeats 2000000 in
set_option maxRecDepth 20000 in
theorem put_any (v : Value) (l : List H) (h : H) (w : World) (hv0 : RdH w v l) (hh : HOk h) :
    Calls Try.prog 11 #[v, hv h] w fun e w' => ∃ v', e = .returned (.tuple #[v', .int .i64 (putV l h).2]) ∧ OwnH w.heap.size w' v' (putV l h).1 ∧ Below w.heap.size w w' := by
  have hA := fun w' q => rightV_any v l w' q
  have hB := fun w' => right_any h w'
  have HV : Hid (RdH w v l) := hv0
  have HK : Hid (HOk h) := hh
  obtain ⟨av, cv, rfl⟩ := hv0.len
  by_cases hr : RightV l ∧ rightH h
  · obtain ⟨rl, rh⟩ := hr
    have h8 := rl.len8
    rw [putV_right rl rh]
    rw [rightB_true rl] at hA
    rw [decide_eq_true rh] at hB
    have HC : Hid (∀ w', RdH w' (.slice av l.length cv) l → Calls Try.prog 32 #[.slice av l.length cv] w' fun e w'' => ∃ v', e = .returned v' ∧ OwnH w'.heap.size w'' v' l ∧ Below w'.heap.size w' w'') := fun w' q => clone_any _ l w' q (by omega)
    have HP : Hid (∀ v w', RdH w' v l → Calls Try.prog 33 #[v, .int .i64 h.1] w' fun e w'' => ∃ i : Nat, e = .returned (.tuple #[.int .i64 i, .bool (foundB l h.1 i)]) ∧ Placed l h.1 i ∧ Below w'.heap.size w' w'') := fun v w' q => place_any v l h.1 w' q rl
    have HN : Hid (∀ i, Placed l h.1 i → foundB l h.1 i = true → i < l.length ∧ l.set i h = putTo l h 8) := fun i q1 q2 => ⟨(foundB_true q2).1, put_named rl rh q1 (foundB_true q2).1 (foundB_true q2).2⟩
    have HO : Hid (∀ i, Placed l h.1 i → foundB l h.1 i = false → l.take i ++ h :: l.drop i = putTo l h 8) := fun i q1 q2 => put_new rl rh q1 (foundB_false q2)
    clear hv0 hh rl rh
    obtain ⟨x1, x2, x3⟩ := h
    simp only [hv] at hB ⊢
    dsimp only at HP HN HO
    obtain ⟨w1, hw1⟩ : ∃ w1, w1 = w.alloc (.cells #[.int .i64 x1, .int .i64 x2, .int .u64 x3] 25) := ⟨_, rfl⟩
    have HX1 : Hid (Blk w1 w.heap.size 25 [.int .i64 x1, .int .i64 x2, .int .u64 x3]) := by show Blk _ _ _ _; rw [hw1]; exact blk_new w [.int .i64 x1, .int .i64 x2, .int .u64 x3] 25
    have HB1 : Hid (Below w.heap.size w w1) := by show Below _ _ _; rw [hw1]; exact balloc (Below.refl _ _) _
    go_enter Try.func11, Try.ntmps11
    go_upto_region 1 with fail
    rw [← hw1]
    obtain ⟨nb, hnb⟩ : ∃ nb, nb = w.heap.size := ⟨_, rfl⟩
    rw [← hnb] at HX1
    rw [← hnb]
    have HNB : Hid (nb = w.heap.size) := hnb
    clear hw1 hnb
    go_upto_region 5 with (first
      | (go_at_call 13; refine (hA _ (HV.out.below HB1.out)).mono ?_; rintro e w2 ⟨rfl, hb2⟩
         have HX2 : Hid (Blk w2 nb 25 [.int .i64 x1, .int .i64 x2, .int .u64 x3]) := HX1.out.below hb2
         have HB2 : Hid (Below w.heap.size w w2) := bnext HB1.out hb2
         have y0 := HX2.out.cell 0 _ rfl
         have y1 := HX2.out.cell 1 _ rfl
         have y2 := HX2.out.cell 2 _ rfl
         clear hb2)
      | (go_at_call 31; refine (hB _).mono ?_; rintro e w3 ⟨rfl, hb3⟩
         have HX3 : Hid (Blk w3 nb 25 [.int .i64 x1, .int .i64 x2, .int .u64 x3]) := HX2.out.below hb3
         have HB3 : Hid (Below w.heap.size w w3) := bnext HB2.out hb3
         clear hb3 y0 y1 y2)
      | (go_at_call 32; refine (HC.out _ (HV.out.below HB3.out)).mono ?_; rintro e w4 ⟨v4, rfl, ho4, hb4⟩
         have HO4 : Hid (OwnH w3.heap.size w4 v4 l) := ho4
         have HX4 : Hid (Blk w4 nb 25 [.int .i64 x1, .int .i64 x2, .int .u64 x3]) := HX3.out.below hb4
         have HB4 : Hid (Below w.heap.size w w4) := bnext HB3.out hb4
         have H34 : Hid (w3.heap.size ≤ w4.heap.size) := hb4.size
         have y0 := HX4.out.cell 0 _ rfl
         clear hb4 ho4)
      | (go_at_call 33; refine (HP.out _ _ HO4.out.rd).mono ?_; rintro e w5 ⟨i, rfl, hp, hb5⟩
         have HO5 : Hid (OwnH w3.heap.size w5 v4 l) := HO4.out.below hb5
         have HX5 : Hid (Blk w5 nb 25 [.int .i64 x1, .int .i64 x2, .int .u64 x3]) := HX4.out.below hb5
         have HB5 : Hid (Below w.heap.size w w5) := bnext HB4.out hb5
         have H45 : Hid (w4.heap.size ≤ w5.heap.size) := hb5.size
         have HPL : Hid (Placed l x1 i) := hp
         clear hb5 y0 hp))
    have y0 := HX5.out.cell 0 _ rfl
    have y1 := HX5.out.cell 1 _ rfl
    have y2 := HX5.out.cell 2 _ rfl
    clear hA hB HC HP HX1 HX2 HX3 HX4 HB1 HB2 HB4 HO4
    cases hf : foundB l x1 i with
    | true =>
      obtain ⟨hi, he⟩ := HN.out i HPL.out hf
      have HE : Hid (l.set i (x1, x2, x3) = putTo l (x1, x2, x3) 8) := he
      obtain ⟨g, cap, t, hvv, hBg, hY, q1, q2, q3⟩ := own_blk HO5.out (by omega)
      have HY : Hid (Blk w5 g 25 (csH l ++ t)) := hY
      have hcs := csH_length l
      have z0 := hY.cell (i * 3) _ (by rw [List.getElem?_append_left (by omega)]; exact (csH_at l i hi).1)
      have z1 := hY.cell (i * 3 + 1) _ (by rw [List.getElem?_append_left (by omega)]; exact (csH_at l i hi).2.1)
      have z2 := hY.cell (i * 3 + 2) _ (by rw [List.getElem?_append_left (by omega)]; exact (csH_at l i hi).2.2)
      have f0 := hY.frozen (i * 3)
      have f1 := hY.frozen (i * 3 + 1)
      have f2 := hY.frozen (i * 3 + 2)
      subst hvv
      have hgB : w.heap.size ≤ g := Nat.le_trans HB3.out.size hBg
      have HQ2 : Hid (cap ≤ maxLen) := q2
      have HQ3 : Hid ((csH l ++ t).length = cap * 3) := q3
      have q2' : cap ≤ 9223372036854775807 := by unfold maxLen at q2; omega
      clear hY he hf q2 q3
      go_wp2
      go_ret2
      refine ⟨_, rfl, ?_, ?_⟩
      · rw [← HE.out]
        have X := ((HY.out.set (i * 3) (.int .i64 x1)).set (i * 3 + 1) (.int .i64 x2)).set (i * 3 + 2) (.int .u64 x3)
        have e := csH_set l i (x1, x2, x3) t hi
        dsimp only at e
        rw [e] at X
        have o := blk_own (B := w.heap.size) (cap := cap) (l := l.set i (x1, x2, x3)) (fun s hs => by
          rcases List.mem_or_eq_of_mem_set hs with r | r
          · exact HO5.out.1 s r
          · rw [r]; exact HK.out) hgB X (by rw [List.length_set, List.take_append_of_le_length (by rw [csH_length, List.length_set]; omega), List.take_of_length_le (by rw [csH_length, List.length_set]; omega)]) (by rw [List.length_set]; exact q1) HQ2.out (by have := HQ3.out; rw [List.length_append, csH_length] at this ⊢; rw [List.length_set]; exact this)
        rw [List.length_set] at o
        exact o
      · exact below_set (below_set (below_set HB5.out hgB _ _) hgB _ _) hgB _ _
    | false =>
      have HE : Hid (l.take i ++ (x1, x2, x3) :: l.drop i = putTo l (x1, x2, x3) 8) := HO.out i HPL.out hf
      have hi := HPL.out.le
      clear hf
      obtain ⟨a4, c4, hv4⟩ := HO5.out.rd.len
      subst hv4
      go_wp2_with (go_at_call 34; refine (insert_any _ l i (x1, x2, x3) w5.heap.size w3.heap.size _ (OwnH.below HO5.out (balloc (Below.refl _ _) _)) (blk_new w5 [.int .i64 x1, .int .i64 x2, .int .u64 x3] 25) HK.out hi (by omega) (by have := H34.out; have := H45.out; simp; omega) (fun e => by have := (HO5.out.lt _ e).2; omega)).mono ?_; rintro e w6 ⟨v6, rfl, ho6, hg6⟩)
      go_ret2
      refine ⟨_, rfl, ?_, ?_⟩
      · rw [← HE.out]
        exact ho6.lower HB3.out.size
      · exact (balloc HB5.out _).grown hg6 (by have := HB5.out.size; simp; omega) (fun k hk => Nat.le_trans HB3.out.size (HO5.out.lt k hk).1)
  · rw [putV_not hr]
    clear hv0
    obtain ⟨x1, x2, x3⟩ := h
    have hX := blk_new w [.int .i64 x1, .int .i64 x2, .int .u64 x3] 25
    have HX : Hid _ := hX
    clear hX hh
    by_cases rl : RightV l
    · have rh : ¬ rightH (x1, x2, x3) := fun q => hr ⟨rl, q⟩
      rw [rightB_true rl] at hA
      rw [decide_eq_false rh] at hB
      clear rl rh hr
      simp only [hv] at hB ⊢
      go_enter Try.func11, Try.ntmps11
      go_wp2_with (first
        | (go_at_call 13; refine (hA _ (HV.out.below (balloc (Below.refl _ _) _))).mono ?_; rintro e w2 ⟨rfl, hb2⟩
           have X2 := Blk.below (vs := [.int .i64 x1, .int .i64 x2, .int .u64 x3]) HX.out hb2
           have y0 := X2.cell 0 _ rfl
           have y1 := X2.cell 1 _ rfl
           have y2 := X2.cell 2 _ rfl
           clear X2)
        | (go_at_call 31; refine (hB _).mono ?_; rintro e w3 ⟨rfl, hb3⟩))
      go_ret2
      exact ⟨_, rfl, ownH_nil _ _, bnext (bnext (balloc (Below.refl _ _) _) hb2) hb3⟩
    · rw [rightB_false rl] at hA
      clear rl hr hB
      simp only [hv]
      go_enter Try.func11, Try.ntmps11
      go_wp2_with (first
        | (go_at_call 13; refine (hA _ (HV.out.below (balloc (Below.refl _ _) _))).mono ?_; rintro e w2 ⟨rfl, hb2⟩))
      go_ret2
      exact ⟨_, rfl, ownH_nil _ _, bnext (balloc (Below.refl _ _) _) hb2⟩
end Go.Proofs.Ytdjfedlkfekeoaa
