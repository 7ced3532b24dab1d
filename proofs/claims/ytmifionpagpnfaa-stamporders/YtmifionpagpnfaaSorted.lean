/-
  Sort: a list in order, each stamp once.
-/
import Derived.Test.YtmifionpagpnfaaCompact
import Derived.Test.YtmifionpagpnfaaSortS
namespace Go.Proofs.Ytmifionpagpnfaa
set_option linter.unusedVariables false
open Go.RowKit

theorem own_empty (w : World) : OwnS w.heap.size (w.alloc (.cells #[] 23)) (.slice (some ⟨w.heap.size, 0, none⟩) 0 0) [] := by
  have X := blk_new w [] 23
  exact blk_own (l := []) (cap := 0) (fun _ h => by cases h) (Nat.le_refl _) X rfl (Nat.le_refl _) (by unfold maxLen; omega) rfl

set_option maxHeartbeats 1000000 in
theorem clone_any (v : Value) (l : List S) (w : World) (hv : RdS w v l) (hl : l.length ≤ 1000000) :
    Calls Try.prog 39 #[v] w fun e w' => ∃ v', e = .returned v' ∧ OwnS w.heap.size w' v' l ∧ Below w.heap.size w w' := by
  obtain ⟨ho, a, cap, rfl, h1, h2, h3, h4⟩ := id hv
  have HV : Hid (RdS w (.slice a l.length cap) l) := hv
  clear hv
  cases a with
  | none =>
    have hc := h3 rfl
    obtain rfl : l = [] := List.eq_nil_of_length_eq_zero (by omega)
    subst hc
    have hq := Lib.run_eql_slice_nil (P := Try.prog) w 24 23 none 0 0 0 0 Try.underlying24
    clear h1 h2 h3 h4 ho
    go_enter Try.func39, Try.ntmps39
    go_wp2
    go_ret
    exact ⟨_, rfl, ownS_nil _ _, Below.refl _ _⟩
  | some ad =>
    have hq := Lib.run_eql_slice_nil (P := Try.prog) w 24 23 (some ad) l.length cap 0 0 Try.underlying24
    clear h1 h2 h3 h4 ho
    go_enter Try.func39, Try.ntmps39
    go_wp2_with (at_builtin; go_must (refine wpList_append_stamps rfl (.tmp 5) (.tmp 6) rfl w.heap.size _ [] rfl (own_empty w) _ l rfl (HV.out.below (balloc (Below.refl _ _) _)) (by simp; omega) (by simp) ?_; intro v2 w2 hown2 hg2))
    go_ret
    refine ⟨_, rfl, hown2, ?_⟩
    exact (balloc (Below.refl _ w) _).grown hg2 (by simp) (fun k hk => (own_empty w).lt k hk |>.1)

set_option maxHeartbeats 1000000 in
theorem sort_any (v : Value) (l : List S) (w : World) (hv : RdS w v l) (hl : l.length ≤ 1000000) :
    Calls Try.prog 19 #[v] w fun e w' => ∃ v', e = .returned v' ∧ OwnS w.heap.size w' v' (dedup (inOrd l)) ∧ Below w.heap.size w w' := by
  have hc := clone_any v l w hv hl
  clear hv
  go_enter Try.func19, Try.ntmps19
  go_wp2_with (first
    | (go_at_call 39; go_must (refine hc.mono ?_; rintro e w1 ⟨v1, rfl, hown1, hb1⟩))
    | (go_at_call 40; go_must (refine (sortfunc_any _ _ _ l hown1 hl).mono ?_; rintro e w2 ⟨rfl, hown2, hg2⟩; have hb2 := hb1.grown hg2 hb1.size (fun k hk => (hown1.lt k hk).1)))
    | (go_at_call 41; go_must (refine (compact_any _ _ _ _ hown2).mono ?_; rintro e w3 ⟨v3, rfl, hown3, hg3⟩; have hb3 := hb2.grown hg3 hb2.size (fun k hk => (hown2.lt k hk).1))))
  go_ret
  exact ⟨_, rfl, hown3, hb3⟩
end Go.Proofs.Ytmifionpagpnfaa
