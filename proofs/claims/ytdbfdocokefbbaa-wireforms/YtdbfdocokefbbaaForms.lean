/-
  The walk of WireForms: the form of any number, bytes, text and word, behind any bytes, is the reference's.
-/
import Derived.Test.YtdbfdocokefbbaaRef
import Derived.Test.YtdbfdocokefbbaaAlive
import Derived.Test.YtdbfdocokefbbaaText
namespace Go.Proofs.Ytdbfdocokefbbaa
set_option linter.unusedVariables false
open Go.RowKit

theorem own_empty (w : World) (e : TypeId) : Own w.heap.size e (w.alloc (.cells #[] e)) (.slice (some ⟨w.heap.size, 0, none⟩) 0 0) [] :=
  ⟨Oct.nil, by simp [cs8], .inr ⟨w.heap.size, 0, _, rfl, Nat.le_refl _, heap_alloc_new w _, Nat.le_refl _, by unfold maxLen; omega, by simp, by simp [cs8]⟩⟩

set_option maxHeartbeats 4000000 in
set_option maxRecDepth 20000 in
theorem forms_core (vb vx : Value) (l x : List Int) (n : Nat) (m : Int) (is : Bool) (w : World) (hvb : Rd w vb l) (hvx : Rd w vx x) (hl : l.length ≤ 1000) (hx : x.length ≤ 1000)
    (hn : n < 18446744073709551616) (hm : -9223372036854775808 ≤ m ∧ m ≤ 9223372036854775807) :
    Calls Try.prog 3 #[vb, vx, .int .u64 n, .int .i64 m, .bool is] w fun e w' => e = .returned (.bool true) ∧ Below w.heap.size w w' := by
  obtain ⟨ab, cb, rfl⟩ := hvb.len
  obtain ⟨ax, cx, rfl⟩ := hvx.len
  have hf1 := form_le10 hn
  have hf2 := form_le10 (zig_lt m hm)
  have hf3 := form_le10 (n := x.length) (by omega)
  have C9 : Hid (∀ (w : World) v, Rd w v l → Calls Try.prog 9 #[v, .int .u64 n] w fun e w' => ∃ v', e = .returned v' ∧ Own w.heap.size 5 w' v' (l ++ form n) ∧ Below w.heap.size w w') := fun w v h => num_any v l n w h (by omega) hn
  have C10 : Hid (∀ (w : World), Calls Try.prog 10 #[.int .u64 n] w fun e w' => ∃ v', e = .returned v' ∧ Own w.heap.size 5 w' v' (form n) ∧ Below w.heap.size w w') := fun w => refnum n w hn
  have C11 : Hid (∀ (w : World) v, Rd w v l → Calls Try.prog 11 #[v, .int .i64 m] w fun e w' => ∃ v', e = .returned v' ∧ Own w.heap.size 5 w' v' (l ++ form (zig m)) ∧ Below w.heap.size w w') := fun w v h => int_any v l m w h (by omega) hm
  have C12 : Hid (∀ (w : World), Calls Try.prog 12 #[.int .i64 m] w fun e w' => ∃ v', e = .returned v' ∧ Own w.heap.size 5 w' v' (form (zig m)) ∧ Below w.heap.size w w') := fun w => refint_any m w hm
  have C13 : Hid (∀ (w : World) v y, Rd w v l → Rd w y x → Calls Try.prog 13 #[v, y] w fun e w' => ∃ v', e = .returned v' ∧ Own w.heap.size 5 w' v' (l ++ form x.length ++ x) ∧ Below w.heap.size w w') := fun w v y h hy => bytes_any v y l x w h hy (by omega) (by omega)
  have C14 : Hid (∀ (w : World) y, Rd w y x → Calls Try.prog 14 #[y] w fun e w' => ∃ v', e = .returned v' ∧ Own w.heap.size 5 w' v' (form x.length ++ x) ∧ Below w.heap.size w w') := fun w y hy => refbytes_any y x w hy (by omega)
  have C15 : Hid (∀ (w : World) v, Rd w v l → Calls Try.prog 15 #[v, .string (strOfNums x)] w fun e w' => ∃ v', e = .returned v' ∧ Own w.heap.size 5 w' v' (l ++ form x.length ++ x) ∧ Below w.heap.size w w') := fun w v h => by
    have := text_any v (strOfNums x) l w h (by omega) (by rw [strOfNums_size]; omega)
    rwa [strOfNums_size, sb_strOfNums x hvx.oct] at this
  have C16 : Hid (∀ (w : World) v, Rd w v l → Calls Try.prog 16 #[v, .bool is] w fun e w' => ∃ v', e = .returned v' ∧ Own w.heap.size 5 w' v' (l ++ [if is then 1 else 0]) ∧ Below w.heap.size w w') := fun w v h => bool_any v l is w h (by omega)
  have C17 : Hid (∀ (w : World), Calls Try.prog 17 #[.bool is] w fun e w' => ∃ v', e = .returned v' ∧ Own w.heap.size 5 w' v' [if is then 1 else 0] ∧ Below w.heap.size w w') := fun w => refbool_any is w
  have HVB := hvb
  have HVX := hvx
  have hBa := Below.refl w.heap.size w
  have tk : Hid True := trivial
  clear hn hm hvb hvx
  go_enter Try.func3, Try.ntmps3
  go_wp2_with (first
    | (go_at_call 9; refine (C9.out _ _ (HVB.below hBa)).mono ?_; rintro e wa ⟨va, rfl, hA0, hb1⟩; have hA := hA0.rd; replace hBa := bnext hBa hb1; have hBA := Below.refl wa.heap.size wa; clear hb1 hA0)
    | (at_builtin; refine wpList_append_guard 22 5 byteTy rfl (.tmp 23) (.tmp 24) rfl wa.heap.size _ [] rfl (own_empty wa 5) _ l rfl (HVB.below (balloc hBa _)) (by simp only [List.length_nil]; omega) (by simp) ?_; intro vt wt hT hg; replace hBA := (own_empty wa 5).below (balloc hBA _) (Nat.le_refl _) hg; rw [List.nil_append] at hT; clear hg)
    | (go_at_call 10; refine (C10.out _).mono ?_; rintro e wr ⟨vr, rfl, hR0, hb2⟩; replace hT := hT.kept (below_grown hb2); have hR := hR0.rd; replace hBA := bnext hBA hb2; clear hb2 hR0)
    | (at_builtin; refine wpList_append_guard 22 5 byteTy rfl (.tmp 25) (.tmp 27) rfl _ _ l rfl hT _ (form n) rfl hR (by omega) hBA.size ?_; intro vs ws hS0 hg; replace hBA := hT.below hBA (Nat.le_refl _) hg; have hS := hS0.rd; clear hg hS0 hT hR)
    | (go_at_call 11; refine (C11.out _ _ (HVB.below hBa)).mono ?_; rintro e wa ⟨va, rfl, hA0, hb1⟩; have hA := hA0.rd; replace hBa := bnext hBa hb1; have hBA := Below.refl wa.heap.size wa; clear hb1 hA0)
    | (at_builtin; refine wpList_append_guard 22 5 byteTy rfl (.tmp 34) (.tmp 35) rfl wa.heap.size _ [] rfl (own_empty wa 5) _ l rfl (HVB.below (balloc hBa _)) (by simp only [List.length_nil]; omega) (by simp) ?_; intro vt wt hT hg; replace hBA := (own_empty wa 5).below (balloc hBA _) (Nat.le_refl _) hg; rw [List.nil_append] at hT; clear hg)
    | (go_at_call 12; refine (C12.out _).mono ?_; rintro e wr ⟨vr, rfl, hR0, hb2⟩; replace hT := hT.kept (below_grown hb2); have hR := hR0.rd; replace hBA := bnext hBA hb2; clear hb2 hR0)
    | (at_builtin; refine wpList_append_guard 22 5 byteTy rfl (.tmp 36) (.tmp 38) rfl _ _ l rfl hT _ (form (zig m)) rfl hR (by omega) hBA.size ?_; intro vs ws hS0 hg; replace hBA := hT.below hBA (Nat.le_refl _) hg; have hS := hS0.rd; clear hg hS0 hT hR)
    | (go_at_call 13; have _t := tk; refine (C13.out _ _ _ (HVB.below hBa) (HVX.below hBa)).mono ?_; rintro e wa ⟨va, rfl, hA0, hb1⟩; have hA := hA0.rd; replace hBa := bnext hBa hb1; have hBA := Below.refl wa.heap.size wa; clear hb1 hA0; clear tk _t)
    | (at_builtin; refine wpList_append_guard 22 5 byteTy rfl (.tmp 46) (.tmp 47) rfl wa.heap.size _ [] rfl (own_empty wa 5) _ l rfl (HVB.below (balloc hBa _)) (by simp only [List.length_nil]; omega) (by simp) ?_; intro vt wt hT hg; replace hBA := (own_empty wa 5).below (balloc hBA _) (Nat.le_refl _) hg; rw [List.nil_append] at hT; clear hg)
    | (go_at_call 14; refine (C14.out _ _ (HVX.below (bnext hBa hBA))).mono ?_; rintro e wr ⟨vr, rfl, hR0, hb2⟩; replace hT := hT.kept (below_grown hb2); have hR := hR0.rd; replace hBA := bnext hBA hb2; clear hb2 hR0)
    | (at_builtin; refine wpList_append_guard 22 5 byteTy rfl (.tmp 48) (.tmp 50) rfl _ _ l rfl hT _ (form x.length ++ x) rfl hR (by simp only [List.length_append]; omega) hBA.size ?_; intro vs ws hS0 hg; replace hBA := hT.below hBA (Nat.le_refl _) hg; have hS := hS0.rd; rw [← List.append_assoc] at hS; clear hg hS0 hT hR)
    | (go_at_call 15; refine (C15.out _ _ (HVB.below hBa)).mono ?_; rintro e wa ⟨va, rfl, hA0, hb1⟩; have hA := hA0.rd; replace hBa := bnext hBa hb1; have hBA := Below.refl wa.heap.size wa; clear hb1 hA0)
    | (go_at_call 13; refine (C13.out _ _ _ (HVB.below (bnext hBa hBA)) (HVX.below (bnext hBa hBA))).mono ?_; rintro e wr ⟨vr, rfl, hR0, hb2⟩; have hS := hR0.rd; replace hBA := bnext hBA hb2; clear hb2 hR0)
    | (go_at_call 16; refine (C16.out _ _ (HVB.below hBa)).mono ?_; rintro e wa ⟨va, rfl, hA0, hb1⟩; have hA := hA0.rd; replace hBa := bnext hBa hb1; have hBA := Below.refl wa.heap.size wa; clear hb1 hA0)
    | (at_builtin; refine wpList_append_guard 22 5 byteTy rfl (.tmp 68) (.tmp 69) rfl wa.heap.size _ [] rfl (own_empty wa 5) _ l rfl (HVB.below (balloc hBa _)) (by simp only [List.length_nil]; omega) (by simp) ?_; intro vt wt hT hg; replace hBA := (own_empty wa 5).below (balloc hBA _) (Nat.le_refl _) hg; rw [List.nil_append] at hT; clear hg)
    | (go_at_call 17; refine (C17.out _).mono ?_; rintro e wr ⟨vr, rfl, hR0, hb2⟩; replace hT := hT.kept (below_grown hb2); have hR := hR0.rd; replace hBA := bnext hBA hb2; clear hb2 hR0)
    | (at_builtin; refine wpList_append_guard 22 5 byteTy rfl (.tmp 70) (.tmp 72) rfl _ _ l rfl hT _ [if is then 1 else 0] rfl hR (by simp only [List.length_cons, List.length_nil]; omega) hBA.size ?_; intro vs ws hS0 hg; replace hBA := hT.below hBA (Nat.le_refl _) hg; have hS := hS0.rd; clear hg hS0 hT hR)
    | (go_at_call 8; refine (same_any _ _ _ _ _ (hA.below hBA) hS).mono ?_; rw [decide_eq_true rfl]; rintro e w5 ⟨rfl, hb5⟩; replace hBa := bnext (bnext hBa hBA) hb5; have hcv := run_convert_rd (P := Try.prog) w5 22 9 5 (by kernel_rfl) (by kernel_rfl) (by kernel_rfl) _ x (HVX.below hBa); clear hb5 hA hS hBA)
    | (go_at_call 7; go_must (refine (alive_any _).mono ?_; rintro e w6 ⟨rfl, hb6⟩; replace hBa := bnext hBa hb6)))
  go_ret
  exact ⟨rfl, hBa⟩

set_option maxHeartbeats 1000000 in
theorem forms_walk (vb vx : Value) (l x : List Int) (n : Nat) (m : Int) (is : Bool) (w : World) (hvb : Rd w vb l) (hvx : Rd w vx x)
    (hn : n < 18446744073709551616) (hm : -9223372036854775808 ≤ m ∧ m ≤ 9223372036854775807) :
    Calls Try.prog 3 #[vb, vx, .int .u64 n, .int .i64 m, .bool is] w fun e w' => e = .returned (.bool true) ∧ Below w.heap.size w w' := by
  by_cases h : l.length ≤ 1000 ∧ x.length ≤ 1000
  · exact forms_core vb vx l x n m is w hvb hvx h.1 h.2 hn hm
  · obtain ⟨ab, cb, rfl⟩ := hvb.len
    obtain ⟨ax, cx, rfl⟩ := hvx.len
    have hc := hvb.cap
    have hd := hvx.cap
    have h' : 1000 < l.length ∨ l.length ≤ 1000 ∧ 1000 < x.length := by omega
    clear h hvb hvx hn hm
    rcases h' with h | ⟨h, h2⟩
    all_goals
      go_enter Try.func3, Try.ntmps3
      go_wp2_with (first | (go_at_call 7; go_must (refine (alive_any _).mono ?_; rintro e w1 ⟨rfl, hb⟩)))
      go_ret
      exact ⟨rfl, hb⟩

end Go.Proofs.Ytdbfdocokefbbaa
