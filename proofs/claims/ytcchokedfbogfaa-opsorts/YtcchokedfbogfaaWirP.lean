/-
  WirP: grafted.
-/
import Derived.Test.YtcchokedfbogfaaWirR
namespace Go.Proofs.Ytcchokedfbogfaa
section
set_option linter.unusedVariables false
open Go.RowKit
set_option maxHeartbeats 400000 in
theorem bool_any (v : Value) (l : List Int) (b : Bool) (w : World) (hv : Rd w v l) (hl : l.length ≤ 1000000000) :
    Calls Try.prog 83 #[v, .bool b] w fun e w' => ∃ v', e = .returned v' ∧ Own w.heap.size 5 w' v' (l ++ [if b then 1 else 0]) ∧ Below w.heap.size w w' := by
  cases b
  · go_enter Try.func83, Try.ntmps83
    go_wp2_with (go_at_call 27; go_must (refine (num_any _ l 0 _ hv hl (by omega)).mono ?_; rintro e w2 ⟨v2, rfl, hown2, hb2⟩))
    go_ret
    exact ⟨_, rfl, by rw [form_lt (by omega)] at hown2; exact hown2, hb2⟩
  · go_enter Try.func83, Try.ntmps83
    go_wp2_with (go_at_call 27; go_must (refine (num_any _ l 1 _ hv hl (by omega)).mono ?_; rintro e w2 ⟨v2, rfl, hown2, hb2⟩))
    go_ret
    exact ⟨_, rfl, by rw [form_lt (by omega)] at hown2; exact hown2, hb2⟩
end
section
set_option linter.unusedVariables false
open Go.RowKit
set_option maxHeartbeats 400000 in
theorem text_any (v : Value) (s : ByteArray) (l : List Int) (w : World) (hv : Rd w v l) (hl : l.length ≤ 100000000) (hm : s.size ≤ 100000000) :
    Calls Try.prog 81 #[v, .string s] w fun e w' => ∃ v', e = .returned v' ∧ Own w.heap.size 5 w' v' (l ++ form s.size ++ sb s) ∧ Below w.heap.size w w' := by
  have hf := form_le10 (n := s.size) (by omega)
  go_enter Try.func81, Try.ntmps81
  go_wp2_with (first | (go_at_call 57; go_must (refine (apart_any _ l (10 + s.size) _ hv (by omega) (by omega)).mono ?_; rintro e w1 ⟨v1, rfl, hown1, hb1⟩)) | (go_at_call 56; go_must (refine (putNum_any _ l s.size _ _ hown1 hb1.size (by omega) (by omega)).mono ?_; rintro e w2 ⟨v2, rfl, hown2, hb2⟩)) | (at_builtin; go_must (refine wpList_append_str 24 9 5 byteTy (by kernel_rfl) rfl (.tmp 15) (.tmp 16) rfl w.heap.size _ (l ++ form s.size) rfl hown2 s rfl (by simp only [List.length_append]; omega) (hb1.trans hb2).size ?_; intro v3 w3 hown3 hg3)))
  go_ret
  exact ⟨_, rfl, hown3, hown2.below (hb1.trans hb2) (Nat.le_refl _) hg3⟩
theorem refbool_any (b : Bool) (w : World) :
    Calls Try.prog 31 #[.bool b] w fun e w' => ∃ v', e = .returned v' ∧ Own w.heap.size 5 w' v' [if b then 1 else 0] ∧ Below w.heap.size w w' := by
  cases b
  · go_enter Try.func31, Try.ntmps31
    go_wp2
    go_ret
    exact ⟨_, rfl, own_one w 0 5 (by omega), (Below.refl _ _).alloc (Nat.le_refl _) _⟩
  · go_enter Try.func31, Try.ntmps31
    go_wp2
    go_ret
    exact ⟨_, rfl, own_one w 1 5 (by omega), (Below.refl _ _).alloc (Nat.le_refl _) _⟩
end
end Go.Proofs.Ytcchokedfbogfaa
