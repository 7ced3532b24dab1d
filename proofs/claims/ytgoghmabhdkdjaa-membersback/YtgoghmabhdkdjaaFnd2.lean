/-
  Find, counts, New and May of the program.
-/
import Derived.Test.YtgoghmabhdkdjaaFnd
namespace Go.Proofs.Ytgoghmabhdkdjaa
set_option linter.unusedVariables false
set_option linter.unusedSimpArgs false
set_option synthInstance.maxSize 20000
set_option maxHeartbeats 2000000
set_option maxRecDepth 20000
open Go.RowKit Go.Maps

theorem counts41 (m : Mb) (i e : Int) (w : World) : Calls Try.prog 41 #[mv m, .int .i64 i, .int .i64 e] w fun r w' => r = .returned (.bool (countsM m i e)) ∧ Below w.heap.size w w' := by
  have HR : Hid (∀ w', Calls Try.prog 39 #[mv m] w' fun r w'' => r = .returned (.bool (!on m)) ∧ Below w'.heap.size w' w'') := fun w' => revoked39 m w'
  obtain ⟨x0, x1, x2, x3, x4⟩ := m
  have HX : Hid (countsM ⟨x0, x1, x2, x3, x4⟩ i e = true ↔ x2 ≤ e ∧ (x3 = -1 ∨ (e ≤ x3 ∧ i < x4))) := (by unfold countsM; exact decide_eq_true_iff)
  have HO : Hid (on ⟨x0, x1, x2, x3, x4⟩ = true ↔ x3 = -1) := (by unfold on; exact decide_eq_true_iff)
  generalize countsM ⟨x0, x1, x2, x3, x4⟩ i e = cb at *
  generalize on ⟨x0, x1, x2, x3, x4⟩ = ob at *
  unfold mv at *
  dsimp only at *
  have HK : Hid (∀ w', Below (w.heap.size + 1) (w.alloc (.cells #[.int .i64 x0, .int .u64 x1, .int .i64 x2, .int .i64 x3, .int .i64 x4] 51)) w' → Blk w' w.heap.size 51 [.int .i64 x0, .int .u64 x1, .int .i64 x2, .int .i64 x3, .int .i64 x4]) := fun w' hb => (blk_new w [.int .i64 x0, .int .u64 x1, .int .i64 x2, .int .i64 x3, .int .i64 x4] 51).block (hb.block _ (by omega))
  by_cases c1 : x2 ≤ e
  · cases ob
    · have h3 : ¬ x3 = -1 := fun h => by have := HO.out.2 h; cases this
      by_cases c2 : e ≤ x3
      all_goals
        go_enter Try.func41, Try.ntmps41
        go_wp2_with (go_at_call 39; go_must (refine (HR.out _).mono ?_; rintro r w2 ⟨rfl, hb2⟩; simp only [World.size_alloc] at hb2; have X := HK.out w2 hb2; have k3 := X.cell 3 _ rfl; have k4 := X.cell 4 _ rfl; clear X))
        go_ret
        refine ⟨ret_bool ?_, bnext (balloc (Below.refl _ _) _) (by simpa using hb2)⟩
        rw [HX.out]
        simp
        omega
    · have H3 : Hid (x3 = -1) := HO.out.1 rfl
      go_enter Try.func41, Try.ntmps41
      go_wp2_with (go_at_call 39; go_must (refine (HR.out _).mono ?_; rintro r w2 ⟨rfl, hb2⟩))
      go_ret
      refine ⟨ret_bool ?_, bnext (balloc (Below.refl _ _) _) (by simpa using hb2)⟩
      rw [HX.out]
      have := H3.out
      simp
      omega
  · have HC : Hid (¬ x2 ≤ e) := c1
    go_enter Try.func41, Try.ntmps41
    go_wp2
    go_ret
    refine ⟨ret_bool ?_, balloc (Below.refl _ _) _⟩
    rw [HX.out]
    have := HC.out
    simp
    omega

theorem new10 (p : Int) (w : World) : Calls Try.prog 10 #[.int .u64 p] w fun r w' => ∃ v, r = .returned (stv v (-1)) ∧ RowF mc w' v [⟨0, p, 0, -1, 0⟩] ∧ Below w.heap.size w w' := by
  have HR : Hid (∀ w' : World, RowF mc (w'.alloc (.cells #[.int .i64 0, .int .u64 p, .int .i64 0, .int .i64 (-1), .int .i64 0] 51)) (.slice (some ⟨w'.heap.size, 0, none⟩) 1 1) [(⟨0, p, 0, -1, 0⟩ : Mb)]) := fun w' => rowF_one w' (⟨0, p, 0, -1, 0⟩ : Mb) 51
  go_enter Try.func10, Try.ntmps10
  go_wp2
  refine bodyPost_ret (v := stv (.slice (some ⟨w.heap.size + 1, 0, none⟩) 1 1) (-1)) ?_ rfl ⟨_, rfl, ?_, ?_⟩
  · rw [results_cell1 rfl]
    unfold stv
    go_simp
  · have := HR.out (w.alloc (.cells #[.slice (some ⟨w.heap.size + 1, 0, none⟩) 1 1, .int .i64 (-1)] 28))
    simp only [World.size_alloc] at this
    exact this
  · exact balloc2 _ _ _

theorem find17 {w : World} {v : Value} {l : List Mb} (hv : RowF mc w v l) (who e : Int) : Calls Try.prog 17 #[stv v e, .int .i64 who] w fun r w' => r = .returned (.tuple #[mv ((findM l who).getD zm), .bool (findM l who).isSome]) ∧ Below w.heap.size w w' := by
  obtain ⟨av, cap, rfl⟩ := hv.len
  have hcap := hv.caps
  have hc1 : l.length ≤ cap := hcap.2.1
  have hc2 : cap ≤ 9223372036854775807 := hcap.2.2
  have HV : Hid (∀ w', Below w.heap.size w w' → RowF mc w' (.slice av l.length cap) l) := fun w' hb => hv.below hb
  have HP : Hid (Calls Try.prog 38 #[.slice av l.length cap, .int .i64 who] ((w.alloc (.cells #[.slice av l.length cap, .int .i64 e] 28)).alloc (.cells #[.int .i64 0, .int .u64 0, .int .i64 0, .int .i64 0, .int .i64 0] 51)) fun r w' => r = .returned (.int .i64 (idxG (atW who) l)) ∧ Below (w.heap.size + 1 + 1) ((w.alloc (.cells #[.slice av l.length cap, .int .i64 e] 28)).alloc (.cells #[.int .i64 0, .int .u64 0, .int .i64 0, .int .i64 0, .int .i64 0] 51)) w') := by
    have := place38 (hv.below (balloc2 w (.cells #[.slice av l.length cap, .int .i64 e] 28) (.cells #[.int .i64 0, .int .u64 0, .int .i64 0, .int .i64 0, .int .i64 0] 51))) who
    simp only [World.size_alloc] at this
    exact this
  have HK : Hid (∀ w', Below (w.heap.size + 1 + 1) ((w.alloc (.cells #[.slice av l.length cap, .int .i64 e] 28)).alloc (.cells #[.int .i64 0, .int .u64 0, .int .i64 0, .int .i64 0, .int .i64 0] 51)) w' → Blk w' w.heap.size 28 [.slice av l.length cap, .int .i64 e] ∧ Blk w' (w.heap.size + 1) 51 [.int .i64 0, .int .u64 0, .int .i64 0, .int .i64 0, .int .i64 0] ∧ Below w.heap.size w w') := fun w' hb =>
    ⟨(blk2_0 w _ _ 28 51).block (hb.block _ (by omega)), (blk2_1 w _ _ 28 51).block (hb.block _ (by omega)), bnext (balloc2 _ _ _) (by simpa using hb)⟩
  unfold findM
  rcases idxG_find (l := l) (p := atW who) with ⟨h1, h2⟩ | ⟨i, m, h1, h2, h3, h4, h5⟩
  · rw [h1]
    rw [h2] at HP
    show Calls _ _ _ _ (fun r w' => r = .returned (.tuple #[mv zm, .bool false]) ∧ _)
    clear h1 h2 hv hcap
    unfold stv
    go_enter Try.func17, Try.ntmps17
    go_wp2_with (go_at_call 38; go_must (refine HP.out.mono ?_; rintro r w2 ⟨rfl, hb2⟩; obtain ⟨X, Y, HB⟩ := HK.out w2 hb2; have j0 := Y.cell 0 _ rfl; have j1 := Y.cell 1 _ rfl; have j2 := Y.cell 2 _ rfl; have j3 := Y.cell 3 _ rfl; have j4 := Y.cell 4 _ rfl; have i0 := Y.frozen 0; have i1 := Y.frozen 1; have i2 := Y.frozen 2; have i3 := Y.frozen 3; have i4 := Y.frozen 4; clear X Y))
    refine bodyPost_ret (v := .tuple #[mv zm, .bool false]) ?_ rfl ⟨rfl, ?_⟩
    · rw [results_cell_tmp rfl]
      unfold mv zm
      go_simp
    · iterate 5 refine Below.setCell ?_ (by simp) _
      exact HB
  · rw [h1]
    rw [h2] at HP
    have hil : i < l.length := (List.getElem?_eq_some_iff.1 h3).1
    have HM : Hid (l[i]? = some m) := h3
    obtain ⟨x0, x1, x2, x3, x4⟩ := m
    show Calls _ _ _ _ (fun r w' => r = .returned (.tuple #[mv ⟨x0, x1, x2, x3, x4⟩, .bool true]) ∧ _)
    clear h1 h2 h3 h4 h5 hv hcap
    unfold stv
    go_enter Try.func17, Try.ntmps17
    go_wp2_with (go_at_call 38; go_must (refine HP.out.mono ?_; rintro r w2 ⟨rfl, hb2⟩; obtain ⟨X, Y, HB⟩ := HK.out w2 hb2; have k0 := X.cell 0 _ rfl; have k1 := X.cell 1 _ rfl; have j0 := Y.cell 0 _ rfl; have j1 := Y.cell 1 _ rfl; have j2 := Y.cell 2 _ rfl; have j3 := Y.cell 3 _ rfl; have j4 := Y.cell 4 _ rfl; have i0 := Y.frozen 0; have i1 := Y.frozen 1; have i2 := Y.frozen 2; have i3 := Y.frozen 3; have i4 := Y.frozen 4; clear X Y; obtain ⟨b, off, ea, hc⟩ := (HV.out w2 HB).at mc_len HM.out; subst ea; have c0 := hc 0 _ rfl; have c1 := hc 1 _ rfl; have c2 := hc 2 _ rfl; have c3 := hc 3 _ rfl; have c4 := hc 4 _ rfl; simp only [Nat.add_zero] at c0; clear hc))
    refine bodyPost_ret (v := .tuple #[mv ⟨x0, x1, x2, x3, x4⟩, .bool true]) ?_ rfl ⟨rfl, ?_⟩
    · rw [results_cell_tmp rfl]
      unfold mv
      go_simp
    · iterate 5 refine Below.setCell ?_ (by simp) _
      exact HB
end Go.Proofs.Ytgoghmabhdkdjaa
