/-
  A run has no hole, ends at one, and leaves all others: the walk of BufferRuns.
-/
import Derived.Test.YtigfklcclfpcjaaAlive8
import Derived.Test.YtigfklcclfpcjaaLawFull
namespace Go.Proofs.Ytigfklcclfpcjaa
set_option linter.unusedVariables false
set_option linter.unusedSimpArgs false
set_option synthInstance.maxSize 20000
set_option maxHeartbeats 400000
set_option maxRecDepth 20000
open Go.RowKit Go.Maps

theorem run_facts {a : Int} : ∀ (n : Nat) (M : List Ent) (i : Int), Srt M → M.length ≤ n → (∀ (k : Nat) (e : Ent), (runM n M a i).1[k]? = some e → e.w = a ∧ e.i = i + (k : Int) ∧ e ∈ M) ∧ (∀ f ∈ (runM n M a i).2, ¬ (f.w = a ∧ f.i = i + (runM n M a i).1.length) ∧ f ∈ M) ∧ (runM n M a i).1.length + (runM n M a i).2.length = M.length
  | 0, M, i, hs, hl => by
    have : M = [] := List.eq_nil_of_length_eq_zero (by omega)
    subst this
    refine ⟨fun k e h => ?_, fun f hf => ?_, rfl⟩
    · simp [runM] at h
    · simp [runM] at hf
  | n + 1, M, i, hs, hl => by
    cases hf : findM M a i with
    | none =>
      rw [runM_no hf]
      refine ⟨fun k e h => by simp at h, fun f hf' => ⟨fun h => ?_, hf'⟩, by simp⟩
      have h1 := findM_none hf f hf'
      rw [atB_no] at h1
      exact h1 ⟨h.1, by simpa using h.2⟩
    | some e =>
      obtain ⟨h1, h2, h3⟩ := findM_some hf
      have h4 := lessM_length hs h1
      rw [h2, h3] at h4
      have hr : runM (n + 1) M a i = (e :: (runM n (lessM M a i) a (i + 1)).1, (runM n (lessM M a i) a (i + 1)).2) := by
        conv => lhs; unfold runM
        rw [hf]
      obtain ⟨f1, f2, f3⟩ := run_facts n (lessM M a i) (i + 1) (lessM_srt hs a i) (by omega)
      rw [hr]
      refine ⟨fun k g hg => ?_, fun f hf' => ?_, ?_⟩
      · cases k with
        | zero =>
          simp at hg
          subst hg
          exact ⟨h2, by simpa using h3, h1⟩
        | succ k =>
          have := f1 k g (by simpa using hg)
          refine ⟨this.1, ?_, (List.mem_filter.1 this.2.2).1⟩
          rw [this.2.1]
          push_cast
          omega
      · have := f2 f hf'
        refine ⟨fun h => this.1 ⟨h.1, ?_⟩, (List.mem_filter.1 this.2).1⟩
        rw [h.2]
        simp
        omega
      · simp only [List.length_cons]
        omega

theorem runs_walk (v : Value) (l : List (Ent × Value)) (sw ix : Int) (w : World) (hrd : RowE w v l) (hE : Ents w (fun _ => 0) l) (hsw : I64 sw) (hix : I64 ix) :
    Calls Try.prog 5 #[v, .int .i64 sw, .int .i64 ix] w fun e w' => e = .returned (.bool true) ∧ Below w.heap.size w w' := by
  obtain ⟨a, cap, rfl⟩ := hrd.len
  have hcap : l.length ≤ cap ∧ cap ≤ 9223372036854775807 := hrd.cap.2
  have HAl : Hid (∀ w', Calls Try.prog 8 #[] w' fun r w2 => r = .returned (.bool true) ∧ Below w'.heap.size w' w2) := fun w' => alive_any w'
  by_cases c3 : 40 < l.length
  · clear hrd hE
    go_enter Try.func5, Try.ntmps5
    go_wp2_with (go_at_call 8; go_must (refine (HAl.out w).mono ?_; rintro r w2 ⟨rfl, hb2⟩))
    go_ret
    exact ⟨rfl, hb2⟩
  have HN : Hid (Calls Try.prog 9 #[.int .i64 16] w fun r w' => r = .returned (.tuple #[ptr w.heap.size, .int .i64 0]) ∧ BufIs w' (newTo (fun _ => 0) w 5) 5 w.heap.size 16 [] ∧ Below w.heap.size w w') := bnew_ok w (fun _ => 0) 5 (by omega) 16 (by omega)
  have HV : Hid (RowE w (.slice a l.length cap) l) := hrd
  have HE : Hid (Ents w (fun _ => 0) l) := hE
  have HBel : Hid (∀ w2 o2, Mv [5] w (fun _ => 0) w2 o2 → Below w.heap.size w w2) := fun w2 o2 m => m.below (Nat.le_refl _) (fun k hk => by simp)
  clear hrd hE
  go_enter Try.func5, Try.ntmps5
  go_wp2_with (go_at_call 9; go_must (refine HN.out.mono ?_; rintro r w1 ⟨rfl, hB1, hb1⟩; have HS : Hid (∃ o' M, BufIs w1 o' 5 w.heap.size 16 M ∧ Mv [5] w (fun _ => 0) w1 o') := ⟨_, _, hB1, Mv.of_below 5 hb1⟩; clear hB1 hb1))
  go_loopw [9] (fun i wr => ∃ k : Nat, i = .int .i64 k ∧ k ≤ l.length ∧ Hid (∃ o' M, BufIs wr o' 5 w.heap.size 16 M ∧ Mv [5] w (fun _ => 0) wr o')) (fun i _ => l.length - (intOf i).toNat)
  case atStart => exact ⟨0, rfl, by omega, HS⟩
  case round =>
    obtain ⟨k, rfl, hk, HI⟩ := hrel
    obtain ⟨o', M, hB, hM⟩ := HI.out
    by_cases hkl : k < l.length
    · obtain ⟨q, hq⟩ : ∃ q, l[k]? = some q := ⟨_, List.getElem?_eq_getElem hkl⟩
      have hRw : RowE wr (.slice a l.length cap) l := HV.out.mv hM (fun k hk => by simp)
      obtain ⟨g, off, ea, hc⟩ := hRw.at hq
      subst ea
      have hEq := (HE.out q (List.mem_of_getElem? hq))
      obtain ⟨ax, cx, hxx⟩ := hEq.2.1.len
      by_cases hlong : 1200 < q.1.b.length
      · obtain ⟨e, x⟩ := q
        dsimp only at *
        subst hxx
        obtain ⟨ew, ei, ep, et, eu, en, eb, eg⟩ := e
        unfold ec at hc
        dsimp only at *
        have c6 := hc 6 _ rfl
        have HBw' : Hid (Below w.heap.size w wr) := HBel.out wr o' hM
        have hbl : eb.length ≤ 9223372036854775807 := by have := hEq.2.1.cap; omega
        clear hc hRw hEq HI hB hM hq HS
        go_wp2_with (go_at_call 8; go_must (refine (HAl.out wr).mono ?_; rintro r w2 ⟨rfl, hb2⟩))
        go_ret
        exact ⟨rfl, bnext HBw'.out hb2⟩
      · have HH := hold_any (e := q.1) (x := q.2) hB (by omega) hEq.1 (hEq.2.mv hM (by simp))
        have HM0 : Hid (Mv [5] w (fun _ => 0) wr o') := hM
        generalize hK : (holdM 16 M q.1).1 = K at *
        generalize (holdM 16 M q.1).2 = M' at *
        clear hK hRw hq hB hM HI HS
        obtain ⟨e, x⟩ := q
        dsimp only at *
        subst hxx
        obtain ⟨ew, ei, ep, et, eu, en, eb, eg⟩ := e
        unfold ec at hc
        unfold ev at HH
        dsimp only at *
        have HHo : Hid (Calls _ _ _ _ _) := HH
        clear HH hEq
        have d0 := hc 0 _ rfl; have d1 := hc 1 _ rfl; have d2 := hc 2 _ rfl; have d3 := hc 3 _ rfl; have d4 := hc 4 _ rfl; have d5 := hc 5 _ rfl; have d6 := hc 6 _ rfl; have d7 := hc 7 _ rfl
        simp only [Nat.add_zero] at d0
        clear hc
        go_wp2_with (go_at_call 10; go_must (refine HHo.out.mono ?_; rintro r w3 ⟨rfl, o3, hB3, hm3⟩; have HB3 : Hid (∃ o' M, BufIs w3 o' 5 w.heap.size 16 M ∧ Mv [5] w (fun _ => 0) w3 o') := ⟨o3, M', hB3, HM0.out.trans hm3⟩; clear hB3 hm3))
        go_roundw
        case rel => exact ⟨k + 1, by go_num, by omega, HB3⟩
        case measure => simp [intOf]; omega
    · obtain rfl : k = l.length := by omega
      have RF := run_facts (a := sw) M.length M ix hB.srt (Nat.le_refl _)
      have hMl := hB.len
      have HRt : Hid (∀ e ∈ M, rightE e) := hB.right
      have RN := fun w2 o2 (h : BufIs w2 o2 5 w.heap.size 16 M) => brun_any (a := sw) (i := ix) h (by omega)
      generalize runM M.length M sw ix = RL at *
      obtain ⟨R, L⟩ := RL
      dsimp only at *
      obtain ⟨f1, f2, f3⟩ := RF
      have HRN : Hid (_) := RN
      have HF1 : Hid (∀ (k : Nat) (e : Ent), R[k]? = some e → e.w = sw ∧ e.i = ix + (k : Int) ∧ e ∈ M) := f1
      have hsum : ((M.length : Int) == (R.length : Int) + (L.length : Int)) = true := by rw [beq_iff_eq]; omega
      have HRl : Hid (R.length ≤ 16 ∧ L.length ≤ 16) := ⟨by omega, by omega⟩
      have HF2 : Hid (∀ f ∈ L, ¬ (f.w = sw ∧ f.i = ix + R.length) ∧ f ∈ M) := f2
      have HAll : Hid (∀ w2 o2 M2, BufIs w2 o2 5 w.heap.size 16 M2 → Calls Try.prog 23 #[ptr w.heap.size] w2 fun r w' => ∃ v', r = .returned v' ∧ ∃ rs, rs.map (·.1) = M2 ∧ OutAt w' (newTo o2 w2 0) 0 w2.heap.size v' rs ∧ Below w2.heap.size w2 w') := fun w2 o2 M2 h => ball_any h
      have HB0 : Hid (BufIs wr o' 5 w.heap.size 16 M) := hB
      have HM0 : Hid (Mv [5] w (fun _ => 0) wr o') := hM
      have tA : Hid True := trivial
      clear RN f1 f2 f3 hB hM HI HS HV HE
      go_wp2_with (first
        | (replace tA := tA; go_at_call 23; go_must (refine (HAll.out wr o' M HB0.out).mono ?_; rintro r w2 ⟨v2, rfl, rs, hrs, hO2, hb2⟩; obtain ⟨a2, c2', hv2, _⟩ := slice_of_own hO2.row; have hl2 : rs.length = M.length := map_len hrs; rw [hl2] at hv2; subst hv2; have HB2 : Hid (BufIs w2 (newTo o' wr 0) 5 w.heap.size 16 M) := HB0.out.below hb2; have HM2 : Hid (Mv [5] w (fun _ => 0) w2 (newTo o' wr 0)) := HM0.out.trans (Mv.of_below 0 hb2); clear hO2 hb2 hl2 hrs tA))
        | (go_at_call 16; go_must (refine (HRN.out w2 _ HB2.out).mono ?_; rintro r w3 ⟨v3, rfl, o3, rsR, hrsR, hB3, hO3, hm3⟩; obtain ⟨a3, c3', hv3, _⟩ := slice_of_own hO3.row; have hl3 : rsR.length = R.length := map_len hrsR; rw [hl3] at hv3; subst hv3; have HB3 : Hid (BufIs w3 o3 5 w.heap.size 16 L) := hB3; have HM3 : Hid (Mv [5] w (fun _ => 0) w3 o3) := HM2.out.trans hm3; have HO3 : Hid (OutAt w3 o3 0 w2.heap.size (.slice a3 R.length c3') rsR) := hO3; have HRS3 : Hid (rsR.map (·.1) = R) := hrsR; clear hO3 hm3 hB3 hl3 hrsR))
        | (go_at_call 23; go_must (refine (HAll.out w3 o3 L HB3.out).mono ?_; rintro r w4 ⟨v4, rfl, rsL, hrsL, hO4, hb4⟩; obtain ⟨a4, c4', hv4, _⟩ := slice_of_own hO4.row; have hl4 : rsL.length = L.length := map_len hrsL; rw [hl4] at hv4; subst hv4; have HO4 : Hid (OutAt w4 (newTo o3 w3 0) 0 w3.heap.size (.slice a4 L.length c4') rsL) := hO4; have HRS4 : Hid (rsL.map (·.1) = L) := hrsL; have HO34 : Hid (OutAt w4 (newTo o3 w3 0) 0 w2.heap.size (.slice a3 R.length c3') rsR) := HO3.out.mv (Mv.of_below (I := []) 0 hb4) (by simp) (by simp); have HBw : Hid (Below w.heap.size w w4) := HBel.out w4 _ (HM3.out.trans (Mv.of_below 0 hb4)); clear hO4 hrsL hb4 hl4)))
      have hcR : R.length ≤ c3' ∧ c3' ≤ 9223372036854775807 := HO34.out.rowE.cap.2
      have hcL : L.length ≤ c4' ∧ c4' ≤ 9223372036854775807 := HO4.out.rowE.cap.2
      go_loopw [13] (fun i wz => ∃ k : Nat, i = .int .i64 k ∧ k ≤ R.length ∧ Hid (w4 = wz)) (fun i _ => R.length - (intOf i).toNat)
      case atStart => exact ⟨0, rfl, by omega, (show w4 = w4 from rfl)⟩
      case round =>
        obtain ⟨k, rfl, hk2, HZ⟩ := hrel
        have hz := HZ.out
        subst hz
        clear HZ
        by_cases hkl2 : k < R.length
        · obtain ⟨q, hq⟩ : ∃ q, rsR[k]? = some q := ⟨_, List.getElem?_eq_getElem (by have := map_len HRS3.out; omega)⟩
          obtain ⟨g, off, ea, hc⟩ := HO34.out.rowE.at hq
          subst ea
          have hqR : R[k]? = some q.1 := by rw [← HRS3.out, List.getElem?_map, hq]; rfl
          obtain ⟨e1, e2, e3⟩ := HF1.out k q.1 hqR
          have hir := (HRt.out q.1 e3).2.1
          have d0 := hc 0 _ rfl
          have d1 := hc 1 _ rfl
          rw [e1] at d0
          rw [e2] at d1 hir
          simp only [Nat.add_zero] at d0
          have e9 : ix + (k : Int) - ix = (k : Int) := by omega
          unfold I64 at hix
          clear hc hq hqR e1 e2 e3
          go_wp2
          go_roundw
          case rel => exact ⟨k + 1, by go_num, by omega, trivial⟩
          case measure => simp [intOf]; omega
        · obtain rfl : k = R.length := by omega
          go_wp2
          go_loopw [14] (fun i wz => ∃ k : Nat, i = .int .i64 k ∧ k ≤ L.length ∧ Hid (w4 = wz)) (fun i _ => L.length - (intOf i).toNat)
          case atStart => exact ⟨0, rfl, by omega, (show w4 = w4 from rfl)⟩
          case round =>
            obtain ⟨k, rfl, hk3, HZ⟩ := hrel
            have hz := HZ.out
            subst hz
            clear HZ
            by_cases hkl3 : k < L.length
            · obtain ⟨q, hq⟩ : ∃ q, rsL[k]? = some q := ⟨_, List.getElem?_eq_getElem (by have := map_len HRS4.out; omega)⟩
              obtain ⟨g, off, ea, hc⟩ := HO4.out.rowE.at hq
              subst ea
              have hqL : q.1 ∈ L := by rw [← HRS4.out]; exact List.mem_map_of_mem (List.mem_of_getElem? hq)
              obtain ⟨e1, e3⟩ := HF2.out q.1 hqL
              have hir := (HRt.out q.1 e3).2.1
              have d0 := hc 0 _ rfl
              have d1 := hc 1 _ rfl
              simp only [Nat.add_zero] at d0
              unfold I64 at hix
              generalize q.1.w = fw at *
              generalize q.1.i = fi at *
              have hRl := HRl.out.1
              clear hc hq hqL e3
              by_cases g1 : fw = sw
              · subst g1
                by_cases g2 : ix < 0
                · clear e1
                  go_wp2
                  go_roundw
                  case rel => exact ⟨k + 1, by go_num, by omega, trivial⟩
                  case measure => simp [intOf]; omega
                · by_cases g3 : fi < ix
                  · clear e1
                    go_wp2
                    go_roundw
                    case rel => exact ⟨k + 1, by go_num, by omega, trivial⟩
                    case measure => simp [intOf]; omega
                  · have g4 : (fi - ix == (R.length : Int)) = false := by
                      rw [beq_eq_false_iff_ne]
                      intro h
                      exact e1 ⟨rfl, by omega⟩
                    clear e1
                    go_wp2
                    go_roundw
                    case rel => exact ⟨k + 1, by go_num, by omega, trivial⟩
                    case measure => simp [intOf]; omega
              · have g4 : (fw == sw) = false := by simpa using g1
                clear e1 g1
                go_wp2
                go_roundw
                case rel => exact ⟨k + 1, by go_num, by omega, trivial⟩
                case measure => simp [intOf]; omega
            · obtain rfl : k = L.length := by omega
              have hRl := HRl.out
              go_wp2_with (go_at_call 8; go_must (refine (HAl.out w4).mono ?_; rintro r w7 ⟨rfl, hb7⟩))
              go_ret
              exact ⟨rfl, bnext HBw.out hb7⟩
end Go.Proofs.Ytigfklcclfpcjaa
