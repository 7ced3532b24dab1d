/-
  The program's answers of a nil tree.
-/
import Derived.Test.YtjlpdoomchkfgaaTsI
import Derived.Test.YtjlpdoomchkfgaaTsH
namespace Go.Proofs.Ytjlpdoomchkfgaa
set_option linter.unusedVariables false
set_option linter.unusedSimpArgs false
set_option synthInstance.maxSize 20000
set_option maxHeartbeats 2000000
set_option maxRecDepth 20000
open Go.RowKit Go.Maps

section
variable {w : World}
theorem do11n (q : OpT) : Calls Try.prog 11 #[.pointer none, ov q] w fun e w' => e = .returned (.tuple #[iv zT, .bool false, .int .i64 23]) ∧ Below w.heap.size w w' := by
  obtain ⟨w1, hw1⟩ : ∃ w1, w1 = (w.alloc (.cells (oc q).toArray 40)).alloc (.cells (ic zT).toArray 35) := ⟨_, rfl⟩
  obtain ⟨B0, hB0⟩ : ∃ B0, B0 = w.heap.size := ⟨_, rfl⟩
  obtain ⟨B1, hB1⟩ : ∃ B1, B1 = w.heap.size + 1 := ⟨_, rfl⟩
  obtain ⟨i1, i2, i3, i4⟩ := two_op hw1 hB0 hB1
  have HT1 : Hid (w1.there B1 0 10) := i3.there
  have HPx : Hid (Itp (w1.setCells B1 0 (ic zT)) B1 zT) := i3.put zT
  have HBx : Hid (Below w.heap.size w (w1.setCells B1 0 (ic zT))) := below_put i1 i4
  clear i1 i2 i3 i4
  go_enter Try.func11, Try.ntmps11
  go_upto_region 1 with (first | (refine wpList_okw rfl (exec_box40 (q := q) (.tmp 1) rfl rfl) ?_) | (refine wpList_okw rfl (exec_alloc35 rfl) ?_))
  rw [← hw1, ← hB1]
  rw [← hB0]
  clear hw1 hB0 hB1
  go_wp2_with (first
    | (refine wpList_okw rfl (exec_zero35 rfl) ?_)
    | (refine wpList_skipw rfl (exec_store35 (q := zT) (.tmp 4) (.tmp 13) rfl rfl rfl HT1.out) ?_))
  exact bodyPost_ret (v := .tuple #[iv zT, .bool false, .int .i64 23]) (HPx.out.ret11 rfl rfl rfl) rfl ⟨rfl, HBx.out⟩
theorem look42n (n : S) : Calls Try.prog 42 #[.pointer none, sv n] w fun e w' => e = .returned (.tuple #[iv zT, .bool false]) ∧ Below w.heap.size w w' := by
  obtain ⟨w1, hw1⟩ : ∃ w1, w1 = (w.alloc (.cells (sc n).toArray 24)).alloc (.cells (ic zT).toArray 35) := ⟨_, rfl⟩
  obtain ⟨B0, hB0⟩ : ∃ B0, B0 = w.heap.size := ⟨_, rfl⟩
  obtain ⟨B1, hB1⟩ : ∃ B1, B1 = w.heap.size + 1 := ⟨_, rfl⟩
  obtain ⟨i1, i2, i3, i4⟩ := two_new hw1 hB0 hB1
  have HT1 : Hid (w1.there B1 0 10) := i3.there
  have HPx : Hid (Itp (w1.setCells B1 0 (ic zT)) B1 zT) := i3.put zT
  have HBx : Hid (Below w.heap.size w (w1.setCells B1 0 (ic zT))) := below_put i1 i4
  clear i1 i2 i3 i4
  go_enter Try.func42, Try.ntmps42
  go_upto_region 1 with (first | (refine wpList_okw rfl (exec_box24 (n := n) (.tmp 1) rfl rfl) ?_) | (refine wpList_okw rfl (exec_alloc35 rfl) ?_))
  rw [← hw1, ← hB1]
  rw [← hB0]
  clear hw1 hB0 hB1
  go_wp2_with (first
    | (refine wpList_okw rfl (exec_zero35 rfl) ?_)
    | (refine wpList_skipw rfl (exec_store35 (q := zT) (.tmp 4) (.tmp 10) rfl rfl rfl HT1.out) ?_))
  exact bodyPost_ret (v := .tuple #[iv zT, .bool false]) (HPx.out.ret42 rfl rfl) rfl ⟨rfl, HBx.out⟩
theorem get19n (n : S) : Calls Try.prog 19 #[.pointer none, sv n] w fun e w' => ∃ y, e = .returned (.tuple #[iv y, .bool false]) ∧ Below w.heap.size w w' := by
  have HF : Hid (∀ w', Calls Try.prog 42 #[.pointer none, sv n] w' fun e w'' => e = .returned (.tuple #[iv zT, .bool false]) ∧ Below w'.heap.size w' w'') := fun w' => look42n n
  obtain ⟨w1, hw1⟩ : ∃ w1, w1 = (w.alloc (.cells (sc n).toArray 24)).alloc (.cells (ic zT).toArray 35) := ⟨_, rfl⟩
  obtain ⟨B0, hB0⟩ : ∃ B0, B0 = w.heap.size := ⟨_, rfl⟩
  obtain ⟨B1, hB1⟩ : ∃ B1, B1 = w.heap.size + 1 := ⟨_, rfl⟩
  obtain ⟨i1, i2, i3, i4⟩ := two_new hw1 hB0 hB1
  have HB1 : Hid (Below w.heap.size w w1) := i1
  have HX : Hid (w1.rangeAt B0 0 (sc n)) := i2.range0
  have HZ : Hid (Itp w1 B1 zT) := i3
  have HBB : Hid (w.heap.size ≤ B1) := i4
  clear i1 i2 i3 i4
  go_enter Try.func19, Try.ntmps19
  go_upto_region 1 with (first | (refine wpList_okw rfl (exec_box24 (n := n) (.tmp 1) rfl rfl) ?_) | (refine wpList_okw rfl (exec_alloc35 rfl) ?_))
  rw [← hw1, ← hB1]
  rw [← hB0]
  clear hw1 hB0 hB1
  have tk1 : Hid True := trivial
  have tk2 : Hid True := trivial
  go_upto_region 2 with (first
    | (refine wpList_okw rfl (exec_load24n (n := n) (.tmp 3) rfl rfl HX.out) ?_)
    | (go_at_call 42; go_must (refine (HF.out _).mono ?_; rintro r w2 ⟨rfl, hb2⟩; have HB12 : Hid (Below w1.heap.size w1 w2) := hb2; have HBz : Hid (Below w.heap.size w w2) := bnext HB1.out hb2; clear hb2; obtain ⟨w3, hw3⟩ : ∃ w3, w3 = w2.alloc (.cells (ic zT).toArray 35) := ⟨_, rfl⟩; obtain ⟨g, hg⟩ : ∃ g, g = w2.heap.size := ⟨_, rfl⟩; have HT3 : Hid (w3.there g 0 10) := (show _ from by rw [hw3, hg]; exact (itp_new w2 zT).there); have HW3 : Hid (w3 = w2.alloc (.cells (ic zT).toArray 35)) := hw3; have HGG : Hid (g = w2.heap.size) := hg; clear hw3 hg))
    | (clear tk1; refine wpList_okw rfl (exec_alloc35 rfl) ?_; rw [← HW3.out, ← HGG.out])
    | (clear tk2; refine wpList_skipw rfl (exec_store35 (q := zT) (.tmp 6) (.tmp 12) rfl rfl rfl HT3.out) ?_; obtain ⟨w4, hw4⟩ : ∃ w4, w4 = w3.setCells g 0 (ic zT) := ⟨_, rfl⟩; rw [← hw4]; obtain ⟨i1, i2, i3, i4⟩ := item_putp HBz.out HW3.out HGG.out hw4; have HI4 : Hid (Itp w4 g zT) := i1; have HB4 : Hid (Below w.heap.size w w4) := i2; have HB24 : Hid (Below w2.heap.size w2 w4) := i3; clear hw4 i1 i2 i3 i4 HT3 HW3 HGG))
  have HR4 : Hid (w4.rangeAt g 0 (ic zT)) := HI4.out.range
  have HC : Hid (Calls Try.prog 43 #[iv zT] w4 fun e w' => ∃ y, e = .returned (iv y) ∧ CopyT w4.heap.size w' zT y ∧ Below w4.heap.size w4 w') := copied43 zT (rd_nil _) (Nat.zero_le _)
  have HZ4 : Hid (Itp w4 B1 zT) := HZ.out.below (bnext HB12.out HB24.out)
  have tk3 : Hid True := trivial
  have tk4 : Hid True := trivial
  go_wp2_with (first
    | (clear tk3; refine wpList_okw rfl (exec_load35 (q := zT) (.tmp 6) rfl rfl HR4.out) ?_)
    | (go_at_call 43; go_must (refine HC.out.mono ?_; rintro r w5 ⟨y, rfl, hcp, hb5⟩; have HB5 : Hid (Below w.heap.size w w5) := bnext HB4.out hb5; have HZ5 : Hid (Itp w5 B1 zT) := HZ4.out.below hb5; clear hb5 hcp; have HT5 : Hid (w5.there B1 0 10) := HZ5.out.there))
    | (clear tk4; refine wpList_skipw rfl (exec_store35 (q := y) (.tmp 4) (.tmp 15) rfl rfl rfl HT5.out) ?_))
  have HP : Hid (Itp (w5.setCells B1 0 (ic y)) B1 y) := HZ5.out.put y
  have HBp : Hid (Below w.heap.size w (w5.setCells B1 0 (ic y))) := below_put HB5.out HBB.out
  exact bodyPost_ret (v := .tuple #[iv y, .bool false]) (HP.out.ret19 rfl rfl) rfl ⟨y, rfl, HBp.out⟩
theorem set30n (it : IT) (there : Bool) : Calls Try.prog 30 #[.pointer none, iv it, .bool there] w fun e w' => e = .returned (.int .i64 23) ∧ Below w.heap.size w w' := by
  have HB1 : Hid (Below w.heap.size w (w.alloc (.cells (ic it).toArray 35))) := (show Below _ _ _ from balloc (Below.refl _ _) _)
  go_enter Try.func30, Try.ntmps30
  go_wp2_with (refine wpList_okw rfl (exec_box35 (q := it) (.tmp 1) rfl rfl) ?_)
  go_ret
  exact ⟨rfl, HB1.out⟩
theorem len18n : Calls Try.prog 18 #[.pointer none] w fun e w' => e = .returned (.int .i64 0) ∧ w' = w := by
  go_enter Try.func18, Try.ntmps18
  go_wp2
  go_ret
  exact ⟨rfl, rfl⟩
theorem those40n (f : Value) : Calls Try.prog 40 #[.pointer none, f] w fun e w' => e = .returned (.slice none 0 0) ∧ w' = w := by
  go_enter Try.func40, Try.ntmps40
  go_wp2
  go_ret
  exact ⟨rfl, rfl⟩
theorem all17n : Calls Try.prog 17 #[.pointer none] w fun e w' => e = .returned (.slice none 0 0) ∧ w' = w := by
  have HT : Hid (∀ f w', Calls Try.prog 40 #[.pointer none, f] w' fun e w'' => e = .returned (.slice none 0 0) ∧ w'' = w') := fun f w' => those40n f
  go_enter Try.func17, Try.ntmps17
  go_wp2_with (go_at_call 40; go_must (refine (HT.out _ _).mono ?_; rintro e w2 ⟨rfl, hw⟩; replace hw := hw.symm; subst hw))
  go_ret
  exact ⟨rfl, rfl⟩
theorem kids25n (n : S) : Calls Try.prog 25 #[.pointer none, sv n] w fun e w' => e = .returned (.slice none 0 0) ∧ Below w.heap.size w w' := by
  have HT : Hid (∀ f w', Calls Try.prog 40 #[.pointer none, f] w' fun e w'' => e = .returned (.slice none 0 0) ∧ w'' = w') := fun f w' => those40n f
  have HB1 : Hid (Below w.heap.size w (w.alloc (.cells (sc n).toArray 24))) := (show Below _ _ _ from balloc (Below.refl _ _) _)
  go_enter Try.func25, Try.ntmps25
  go_upto_region 1 with (refine wpList_okw rfl (exec_box24 (n := n) (.tmp 1) rfl rfl) ?_)
  go_wp2_with (go_at_call 40; go_must (refine (HT.out _ _).mono ?_; rintro e w2 ⟨rfl, hw⟩; replace hw := hw.symm; subst hw))
  go_ret
  exact ⟨rfl, HB1.out⟩
theorem within21n (n m : S) : Calls Try.prog 21 #[.pointer none, sv n, sv m] w fun e w' => e = .returned (.bool false) ∧ Below w.heap.size w w' := by
  have HB1 : Hid (Below w.heap.size w ((w.alloc (.cells (sc n).toArray 24)).alloc (.cells (sc m).toArray 24))) := (show Below _ _ _ from balloc (balloc (Below.refl _ _) _) _)
  go_enter Try.func21, Try.ntmps21
  go_wp2_with (first | (refine wpList_okw rfl (exec_box24 (n := n) (.tmp 1) rfl rfl) ?_) | (refine wpList_okw rfl (exec_box24 (n := m) (.tmp 2) rfl rfl) ?_))
  go_ret
  exact ⟨rfl, HB1.out⟩
theorem hangs23n (n : S) : Calls Try.prog 23 #[.pointer none, sv n] w fun e w' => e = .returned (.bool false) ∧ Below w.heap.size w w' := by
  have HB1 : Hid (Below w.heap.size w (w.alloc (.cells (sc n).toArray 24))) := (show Below _ _ _ from balloc (Below.refl _ _) _)
  go_enter Try.func23, Try.ntmps23
  go_wp2_with (refine wpList_okw rfl (exec_box24 (n := n) (.tmp 1) rfl rfl) ?_)
  go_ret
  exact ⟨rfl, HB1.out⟩
end
end Go.Proofs.Ytjlpdoomchkfgaa
