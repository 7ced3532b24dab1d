/-
  The contracts of the reference's reader, over the same predicate as the program's own.
-/
import Derived.Test.YtdjfedlkfekeoaaReader3
import Derived.Test.YtdjfedlkfekeoaaRefMath
namespace Go.Proofs.Ytdjfedlkfekeoaa
set_option linter.unusedVariables false
open Go.RowKit

theorem Rdr.failed {w : World} {b : Nat} {l : List Int} {k q : Int} (h : Rdr w b l k) : Rdr ((w.setCell ⟨b, 1, none⟩ (.int .i64 q)).setCell ⟨b, 0, none⟩ (.slice none 0 0)) b [] q := by
  obtain ⟨u, hu, hr⟩ := h.left
  have hu1 : (w.setCell ⟨b, 1, none⟩ (.int .i64 q)).cell? ⟨b, 0, none⟩ = some u := by rw [World.cell?_setCell_other _ _ _ _ (by simp)]; exact hu
  refine ⟨⟨_, World.cell?_setCell_same _ _ _ hu1, rd_nil _⟩, ?_, by simpa using h.f0, by simpa using h.f1, fun o ho => ?_, fun _ => rfl⟩
  · rw [World.cell?_setCell_other _ _ _ _ (by simp), World.cell?_setCell_same _ _ _ h.wrong]
  · rw [World.cell?_setCell_other _ _ _ _ (by simp <;> omega), World.cell?_setCell_other _ _ _ _ (by simp <;> omega)]; exact h.two o ho

set_option maxHeartbeats 400000 in
set_option maxRecDepth 20000 in
theorem reffail_any (w : World) (b : Nat) (l : List Int) (k q : Int) (h : Rdr w b l k) :
    Calls Try.prog 67 #[ptr b, .int .i64 q] w fun e w' => e = .returned (.tuple #[]) ∧ Rdr w' b [] q ∧ w.grownBy w' (some b) := by
  obtain ⟨v, hv, hrd⟩ := h.left
  have H : Hid (Rdr w b l k) := h
  have hf0 := h.f0
  have hf1 := h.f1
  have hw := h.wrong
  clear h
  go_enter Try.func67, Try.ntmps67
  go_wp2
  go_end0
  exact ⟨rfl, H.out.failed, grown_trans (grown_setCell w b 1 _) (grown_setCell _ b 0 _) (fun k hk => .inl hk)⟩

set_option maxHeartbeats 800000 in
set_option maxRecDepth 20000 in
theorem refrnum_any (w : World) (b : Nat) (l : List Int) (k : Int) (h : Rdr w b l k) :
    Calls Try.prog 62 #[ptr b] w fun e w' => e = .returned (.int .u64 (rNum l k).1) ∧ Rdr w' b (rNum l k).2.1 (rNum l k).2.2 ∧ w.grownBy w' (some b) := by
  obtain ⟨v, hv, hrd⟩ := h.left
  have H : Hid (Rdr w b l k) := h
  have hf0 := h.f0
  have hw := h.wrong
  by_cases hk : k = 0
  · subst hk
    obtain ⟨ho, a, cap, rfl, h1, h2, h3, h4⟩ := hrd
    unfold maxLen at h2
    clear h
    go_enter Try.func62, Try.ntmps62
    go_wp2
    go_loop [3] (fun n => ∃ m : Nat, m ≤ l.length ∧ m ≤ 10 ∧ n = .int .i64 m ∧ Hid (∀ j, j < m → ¬ l.getD j 0 < 128)) (fun n => 10 - (intOf n).toNat)
    case atStart => exact ⟨0, by omega, by omega, rfl, fun j hj => by omega⟩
    case round =>
      obtain ⟨m, hm, hm10, rfl, hall⟩ := hrel
      by_cases hlt : m < l.length
      · obtain ⟨bb, off, rfl, hc⟩ := h4 (by omega)
        have ck := hc m hlt
        have hx := ho.at m
        by_cases hlt10 : m < 10
        · by_cases hge : 128 ≤ l.getD m 0
          · have HG : Hid (¬ l.getD m 0 < 128) := by show ¬ _; omega
            obtain ⟨x, HX⟩ : ∃ x, Hid (l.getD m 0 = x) := ⟨_, rfl⟩
            rw [HX.out] at ck hx hge
            clear h4 ho hc
            go_wp2
            go_round
            case rel =>
              refine ⟨m + 1, by omega, by omega, by go_num, fun j hj => ?_⟩
              by_cases hjm : j = m
              · subst hjm; exact HG.out
              · exact hall.out j (by omega)
            case measure => simp [intOf]; omega
          · have hl128 : l.getD m 0 < 128 := by omega
            have hpa := parse_at m 0 l ho hlt hall.out hl128 (by omega)
            rw [Nat.zero_add] at hpa
            by_cases he : endsB (l.getD m 0) m = true
            · rw [if_pos he] at hpa
              have hbound : val (l.take (m + 1)) < 18446744073709551616 := by
                have := (parse_some l 0 _ _ ho hpa).2.1
                simpa using this
              have HP : Hid (rNum l 0 = (val (l.take (m + 1)), l.drop (m + 1), 0)) := by show _ = _; unfold rNum; rw [hpa]
              have HO : Hid (Oct l) := ho
              have HC : Hid (∀ j, j < l.length → w.cell? ⟨bb, off + j, none⟩ = some (.int .u8 (l.getD j 0))) := hc
              obtain ⟨x, HX⟩ : ∃ x, Hid (l.getD m 0 = x) := ⟨_, rfl⟩
              rw [HX.out] at ck hx hge he
              have HR : Hid (Rd w (.slice (some ⟨bb, off, none⟩) l.length cap) l) := ⟨ho, _, cap, rfl, h1, h2, h3, h4⟩
              have he9 : m = 9 → x = 1 := by intro h9; subst h9; simpa [endsB] using he
              have he0 : 0 < m → x ≠ 0 := by
                intro h0 hx0
                subst hx0
                unfold endsB at he
                split at he
                · simp at he
                · simp at he; omega
              clear h4 ho hc hpa he hl128
              have hnx : ¬ 128 ≤ x := hge
              have hthree : (m = 9 ∧ x = 1) ∨ m = 0 ∨ (0 < m ∧ m ≠ 9 ∧ x ≠ 0) := by omega
              clear he9 he0
              obtain ⟨T, hT⟩ : ∃ T, T = l.take (m + 1) := ⟨_, rfl⟩
              have hTl : T.length = m + 1 := by rw [hT]; simp; omega
              have HTG : Hid (∀ j, j < T.length → T.getD j 0 = l.getD j 0) := fun j hj => by
                rw [hT, List.getD_eq_getElem?_getD, List.getD_eq_getElem?_getD, List.getElem?_take, if_pos (by omega)]
              rw [← hT] at hbound HP
              have hTle : T.length ≤ l.length := by omega
              have HTL : Hid (T.length = m + 1) := hTl
              have hT10 : T.length ≤ 10 := by omega
              clear hT hTl
              rcases hthree with ⟨rfl, rfl⟩ | rfl | ⟨h90, h9, hx0⟩
              case' inr.inl =>
                rw [Nat.add_zero] at ck
                have hne : ¬ l = [] := by intro h; subst h; simp at hlt
              case' inr.inr =>
                have h9' : ((m : Int) == 9) = false := by simp; omega
                have hx0' : (x == 0) = false := by simpa using hx0
                clear h9 hx0
              all_goals
                go_wp2
                go_loop [4, 5] (fun o i => ∃ j : Nat, j ≤ T.length ∧ i = .int .i64 ((j : Int) - 1) ∧ o = .int .u64 (val (T.drop j))) (fun _ i => (intOf i + 1).toNat)
                case atStart =>
                  refine ⟨T.length, by omega, by rw [HTL.out]; go_num, ?_⟩
                  rw [List.drop_of_length_le (by omega)]
                  rfl
                case round =>
                  obtain ⟨j, hj, rfl, rfl⟩ := hrel
                  by_cases hj0 : j = 0
                  · subst hj0
                    go_wp2
                    all_goals
                      go_ret
                      rw [HP.out]
                      refine ⟨rfl, H.out.setLeft ?_ (fun hk => absurd rfl hk), grown_setCell _ b 0 _⟩
                      first
                        | exact rd_cut HR.out hlt ‹_›
                        | (have hcs := ‹_ = _›
                           subst hcs
                           exact rd_cut0 HR.out hlt)
                  · have hjl : j - 1 < l.length := by omega
                    have cj := HC.out (j - 1) hjl
                    have hy := HO.out.at (j - 1)
                    have hst := val_step (m := T) (j := j - 1) (by omega)
                    rw [show j - 1 + 1 = j by omega, HTG.out (j - 1) (by omega)] at hst
                    have hvb := val_drop_le T (j - 1)
                    obtain ⟨v1, HV⟩ : ∃ v1, Hid (val (T.drop (j - 1)) = v1) := ⟨_, rfl⟩
                    obtain ⟨y, HY⟩ : ∃ y, Hid (l.getD (j - 1) 0 = y) := ⟨_, rfl⟩
                    rw [HV.out, HY.out] at hst
                    rw [HY.out] at hy cj
                    rw [HV.out] at hvb
                    have HST : Hid (v1 = val (T.drop j) * 128 + (y % 128).toNat) := hst
                    clear hst
                    go_wp2
                    go_round
                    case rel =>
                      refine ⟨j - 1, by omega, by rw [Int.natCast_sub (by omega)]; rfl, ?_⟩
                      rw [HV.out, HST.out, IntKind.wrap_u64, IntKind.wrap_u64]
                      have := HST.out
                      congr 1
                      omega
                    case measure => simp [intOf]; omega
            · rw [if_neg he] at hpa
              have HP : Hid (rNum l 0 = (0, [], 4)) := by show _ = _; unfold rNum; rw [hpa]; rfl
              obtain ⟨x, HX⟩ : ∃ x, Hid (l.getD m 0 = x) := ⟨_, rfl⟩
              rw [HX.out] at ck hx hge he
              have htwo : (m = 9 ∧ (x != 1) = true) ∨ (0 < m ∧ m < 9 ∧ x = 0) := by
                unfold endsB at he
                split at he
                · left; exact ⟨‹_›, by simpa using he⟩
                · right; simp at he; omega
              clear h4 ho hc hpa he hl128
              have hnx : ¬ 128 ≤ x := hge
              rcases htwo with ⟨rfl, hx1⟩ | ⟨h0, h9, rfl⟩
              case' inr =>
                have h9' : ((m : Int) == 9) = false := by simp; omega
              all_goals
                go_wp2_with (go_at_call 67; go_must (refine (reffail_any _ b l 0 4 H.out).mono ?_; rintro e w1 ⟨rfl, hr1, hg1⟩))
                go_ret
                rw [HP.out]
                exact ⟨rfl, hr1, hg1⟩
        · have HP : Hid (rNum l 0 = (0, [], 4)) := by show _ = _; unfold rNum; rw [parse_out m 0 l hm hall.out (.inr (by omega))]; rfl
          clear h4 ho hc
          go_wp2_with (go_at_call 67; go_must (refine (reffail_any _ b l 0 4 H.out).mono ?_; rintro e w1 ⟨rfl, hr1, hg1⟩))
          go_ret
          rw [HP.out]
          exact ⟨rfl, hr1, hg1⟩
      · have HP : Hid (rNum l 0 = (0, [], 4)) := by show _ = _; unfold rNum; rw [parse_out m 0 l hm hall.out (.inl (by omega))]; rfl
        clear h4 ho
        go_wp2_with (go_at_call 67; go_must (refine (reffail_any _ b l 0 4 H.out).mono ?_; rintro e w1 ⟨rfl, hr1, hg1⟩))
        go_ret
        rw [HP.out]
        exact ⟨rfl, hr1, hg1⟩
  · have hl := h.gone hk
    subst hl
    have hk' : (k != 0) = true := by simpa using hk
    have HP : Hid (rNum [] k = (0, [], k)) := by show _ = _; unfold rNum; simp [parse, hk]
    go_enter Try.func62, Try.ntmps62
    go_wp2
    go_ret
    rw [HP.out]
    exact ⟨rfl, H.out, grown_refl _ _⟩
end Go.Proofs.Ytdjfedlkfekeoaa
