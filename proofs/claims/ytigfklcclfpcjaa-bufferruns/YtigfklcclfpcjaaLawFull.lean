/-
  A buffer takes as many as it may: the walk of BufferFull.
-/
import Derived.Test.YtigfklcclfpcjaaAlive8
import Derived.Test.YtigfklcclfpcjaaAllE
namespace Go.Proofs.Ytigfklcclfpcjaa
set_option linter.unusedVariables false
set_option linter.unusedSimpArgs false
set_option synthInstance.maxSize 20000
set_option maxHeartbeats 400000
set_option maxRecDepth 20000
open Go.RowKit Go.Maps

theorem hold_cases (most : Int) (M : List Ent) (e : Ent) (hf : (M.length : Int) ≤ most) : ((holdM most M e).1 = 0 ∧ (M.length : Int) < most) ∨ ((holdM most M e).1 ≠ 0 ∧ (holdM most M e).2 = M ∧ ((holdM most M e).1 = 3 → (M.length : Int) = most)) := by
  unfold holdM
  split
  · split
    · right
      refine ⟨?_, rfl, fun h => ?_⟩
      · dsimp only; split <;> omega
      · dsimp only at h; split at h <;> omega
    · split
      · right
        exact ⟨by simp, rfl, fun _ => by omega⟩
      · left
        exact ⟨rfl, by omega⟩
  · right
    exact ⟨by simp, rfl, fun h => by simp at h⟩

theorem map_len {rs : List (Ent × Value)} {M : List Ent} (h : rs.map (·.1) = M) : rs.length = M.length := by
  have := congrArg List.length h
  simpa using this

theorem blen_nil (w : World) : Calls Try.prog 22 #[.pointer none] w fun r w' => r = .returned (.int .i64 0) ∧ w' = w := by
  go_enter Try.func22, Try.ntmps22
  go_wp2
  go_ret
  exact ⟨rfl, rfl⟩
theorem bdrop_nil (w : World) (a n : Int) : Calls Try.prog 18 #[.pointer none, .int .i64 a, .int .i64 n] w fun r w' => r = .returned (.int .i64 0) ∧ w' = w := by
  go_enter Try.func18, Try.ntmps18
  go_wp2
  go_ret
  exact ⟨rfl, rfl⟩

theorem full_walk (most : Int) (v : Value) (l : List (Ent × Value)) (w : World) (hI : I64 most) (hrd : RowE w v l) (hE : Ents w (fun _ => 0) l) :
    Calls Try.prog 6 #[.int .i64 most, v] w fun e w' => e = .returned (.bool true) ∧ Below w.heap.size w w' := by
  obtain ⟨a, cap, rfl⟩ := hrd.len
  have hcap : l.length ≤ cap ∧ cap ≤ 9223372036854775807 := hrd.cap.2
  have HAl : Hid (∀ w', Calls Try.prog 8 #[] w' fun r w2 => r = .returned (.bool true) ∧ Below w'.heap.size w' w2) := fun w' => alive_any w'
  by_cases c1 : most < 1
  · clear hrd hE
    go_enter Try.func6, Try.ntmps6
    go_wp2_with (go_at_call 8; go_must (refine (HAl.out w).mono ?_; rintro r w2 ⟨rfl, hb2⟩))
    go_ret
    exact ⟨rfl, hb2⟩
  by_cases c2 : 16 < most
  · clear hrd hE
    go_enter Try.func6, Try.ntmps6
    go_wp2_with (go_at_call 8; go_must (refine (HAl.out w).mono ?_; rintro r w2 ⟨rfl, hb2⟩))
    go_ret
    exact ⟨rfl, hb2⟩
  by_cases c3 : 40 < l.length
  · clear hrd hE
    go_enter Try.func6, Try.ntmps6
    go_wp2_with (go_at_call 8; go_must (refine (HAl.out w).mono ?_; rintro r w2 ⟨rfl, hb2⟩))
    go_ret
    exact ⟨rfl, hb2⟩
  have HN : Hid (Calls Try.prog 9 #[.int .i64 most] w fun r w' => r = .returned (.tuple #[ptr w.heap.size, .int .i64 0]) ∧ BufIs w' (newTo (fun _ => 0) w 5) 5 w.heap.size most [] ∧ Below w.heap.size w w') := bnew_ok w (fun _ => 0) 5 (by omega) most (by omega)
  have HV : Hid (RowE w (.slice a l.length cap) l) := hrd
  have HE : Hid (Ents w (fun _ => 0) l) := hE
  clear hrd hE
  go_enter Try.func6, Try.ntmps6
  go_wp2_with (go_at_call 9; go_must (refine HN.out.mono ?_; rintro r w1 ⟨rfl, hB1, hb1⟩; have HS : Hid (∃ o' M, BufIs w1 o' 5 w.heap.size most M ∧ Mv [5] w (fun _ => 0) w1 o') := ⟨_, _, hB1, Mv.of_below 5 hb1⟩; clear hB1 hb1))
  go_loopw [7] (fun i wr => ∃ k : Nat, i = .int .i64 k ∧ k ≤ l.length ∧ Hid (∃ o' M, BufIs wr o' 5 w.heap.size most M ∧ Mv [5] w (fun _ => 0) wr o')) (fun i _ => l.length - (intOf i).toNat)
  case atStart => exact ⟨0, rfl, by omega, HS⟩
  case round =>
    obtain ⟨k, rfl, hk, HI⟩ := hrel
    obtain ⟨o', M, hB, hM⟩ := HI.out
    have HBel : Hid (∀ w2 o2, Mv [5] w (fun _ => 0) w2 o2 → Below w.heap.size w w2) := fun w2 o2 m => m.below (Nat.le_refl _) (fun k hk => by simp)
    by_cases hkl : k < l.length
    · obtain ⟨q, hq⟩ : ∃ q, l[k]? = some q := ⟨_, List.getElem?_eq_getElem hkl⟩
      have hRw : RowE wr (.slice a l.length cap) l := HV.out.mv hM (fun k hk => by simp)
      obtain ⟨g, off, ea, hc⟩ := hRw.at hq
      subst ea
      have hEq := (HE.out q (List.mem_of_getElem? hq))
      obtain ⟨ax, cx, hxx⟩ := hEq.2.1.len
      by_cases hlong : 1200 < q.1.b.length
      · obtain ⟨e, x⟩ := q
        dsimp only at *
        subst hxx
        obtain ⟨ew, ei, ep, et, eu, en, eb, eg⟩ := e
        unfold ec at hc
        dsimp only at *
        have c6 := hc 6 _ rfl
        have HBw := HBel.out wr o' hM
        have HBw' : Hid (Below w.heap.size w wr) := HBw
        have hbl : eb.length ≤ 9223372036854775807 := by have := hEq.2.1.cap; omega
        clear hc hRw hEq HI hB hM hq HS HBw
        go_wp2_with (go_at_call 8; go_must (refine (HAl.out wr).mono ?_; rintro r w2 ⟨rfl, hb2⟩))
        go_ret
        exact ⟨rfl, bnext HBw'.out hb2⟩
      · have hx2 : ∀ w2 o2, Mv [5] w (fun _ => 0) w2 o2 → Kp0 w2 o2 q.2 q.1.b := fun w2 o2 m => hEq.2.mv m (by simp)
        have HAll : Hid (∀ w2 o2 M2, BufIs w2 o2 5 w.heap.size most M2 → Calls Try.prog 23 #[ptr w.heap.size] w2 fun r w' => ∃ v', r = .returned v' ∧ ∃ rs, rs.map (·.1) = M2 ∧ OutAt w' (newTo o2 w2 0) 0 w2.heap.size v' rs ∧ Below w2.heap.size w2 w') := fun w2 o2 M2 h => ball_any h
        have hcs := hold_cases most M q.1 hB.few
        have HH := fun w2 o2 (h : BufIs w2 o2 5 w.heap.size most M) (m : Mv [5] w (fun _ => 0) w2 o2) => hold_any (e := q.1) (x := q.2) h (by omega) hEq.1 (hx2 w2 o2 m)
        have HRow : Hid (∀ w2, Below wr.heap.size wr w2 → RowE w2 (.slice (some ⟨g, off, none⟩) l.length cap) l) := fun w2 hb => hRw.below hb
        have HQ : Hid (l[k]? = some q) := hq
        have hml := hB.len
        have HB0 : Hid (BufIs wr o' 5 w.heap.size most M) := hB
        have HM0 : Hid (Mv [5] w (fun _ => 0) wr o') := hM
        have HSame : Hid (∀ (w3 w4 : World) (o3 : Nat → Nat) (v2 v4 : Value) (rs rs4 : List (Ent × Value)) (B B4 : Nat), OutAt w3 o3 0 B v2 rs → Below w3.heap.size w3 w4 → OutAt w4 (newTo o3 w3 0) 0 B4 v4 rs4 → rs.map (·.1) = M → rs4.map (·.1) = M → Calls Try.prog 15 #[v4, v2] w4 fun r w' => r = .returned (.bool true) ∧ Below w4.heap.size w4 w') := fun w3 w4 o3 v2 v4 rs rs4 B B4 h2 hb h4 e2 e4 => by
          have h2' := h2.mv (Mv.of_below (I := []) 0 hb) (by simp) (by simp)
          exact refall_eq h4.rowE h4.ents h2'.rowE h2'.ents (e4.trans e2.symm)
        generalize hK : (holdM most M q.1).1 = K at *
        generalize (holdM most M q.1).2 = M' at *
        clear hK hx2 hRw hq hB hM HI HS
        obtain ⟨e, x⟩ := q
        dsimp only at *
        subst hxx
        obtain ⟨ew, ei, ep, et, eu, en, eb, eg⟩ := e
        unfold ec at hc
        unfold ev at HH
        dsimp only at *
        have HHo : Hid (_) := HH
        clear HH hEq
        have c6 := hc 6 _ rfl
        clear hc
        rcases hcs with ⟨hK0, hlt⟩ | ⟨hK0, hMM, hK3⟩
        · subst hK0
          go_wp2_with (first
            | (go_at_call 23; go_must (refine (HAll.out wr o' M HB0.out).mono ?_; rintro r w2 ⟨v2, rfl, rs, hrs, hO2, hb2⟩; obtain ⟨a2, c2', hv2, _⟩ := slice_of_own hO2.row; have hl2 : rs.length = M.length := map_len hrs; rw [hl2] at hv2; subst hv2; have HB2 : Hid (BufIs w2 (newTo o' wr 0) 5 w.heap.size most M) := HB0.out.below hb2; have HM2 : Hid (Mv [5] w (fun _ => 0) w2 (newTo o' wr 0)) := HM0.out.trans (Mv.of_below 0 hb2); obtain ⟨g2, off2, ea2, hcc⟩ := (HRow.out w2 hb2).at HQ.out; cases ea2; unfold ec at hcc; dsimp only at hcc; have d0 := hcc 0 _ rfl; have d1 := hcc 1 _ rfl; have d2 := hcc 2 _ rfl; have d3 := hcc 3 _ rfl; have d4 := hcc 4 _ rfl; have d5 := hcc 5 _ rfl; have d6 := hcc 6 _ rfl; have d7 := hcc 7 _ rfl; simp only [Nat.add_zero] at d0; clear hO2 hb2 hcc hl2 hrs))
            | (go_at_call 10; go_must (refine (HHo.out w2 _ HB2.out HM2.out).mono ?_; rintro r w3 ⟨rfl, o3, hB3, hm3⟩; have HB3 : Hid (∃ o' M, BufIs w3 o' 5 w.heap.size most M ∧ Mv [5] w (fun _ => 0) w3 o') := ⟨o3, M', hB3, HM2.out.trans hm3⟩; clear hB3 hm3)))
          go_roundw
          case rel => exact ⟨k + 1, by go_num, by omega, HB3⟩
          case measure => simp [intOf]; omega
        · subst hMM
          have hKn : (K == 0) = false := by simpa using hK0
          have hKm : (K != 0) = true := by simpa using hK0
          clear hK0
          by_cases c33 : K = 3
          · have hmm := hK3 c33
            subst c33
            clear hK3
            have tA : Hid True := trivial
            go_wp2_with (first
              | (replace tA := tA; go_at_call 23; go_must (refine (HAll.out wr o' M' HB0.out).mono ?_; rintro r w2 ⟨v2, rfl, rs, hrs, hO2, hb2⟩; obtain ⟨a2, c2', hv2, _⟩ := slice_of_own hO2.row; have hl2 : rs.length = M'.length := map_len hrs; rw [hl2] at hv2; subst hv2; have HO2 : Hid (OutAt w2 (newTo o' wr 0) 0 wr.heap.size (.slice a2 M'.length c2') rs) := hO2; have HRS : Hid (rs.map (·.1) = M') := hrs; have HB2 : Hid (BufIs w2 (newTo o' wr 0) 5 w.heap.size most M') := HB0.out.below hb2; have HM2 : Hid (Mv [5] w (fun _ => 0) w2 (newTo o' wr 0)) := HM0.out.trans (Mv.of_below 0 hb2); obtain ⟨g2, off2, ea2, hcc⟩ := (HRow.out w2 hb2).at HQ.out; cases ea2; unfold ec at hcc; dsimp only at hcc; have d0 := hcc 0 _ rfl; have d1 := hcc 1 _ rfl; have d2 := hcc 2 _ rfl; have d3 := hcc 3 _ rfl; have d4 := hcc 4 _ rfl; have d5 := hcc 5 _ rfl; have d6 := hcc 6 _ rfl; have d7 := hcc 7 _ rfl; simp only [Nat.add_zero] at d0; clear hO2 hb2 hcc hl2 hrs tA))
              | (go_at_call 10; go_must (refine (HHo.out w2 _ HB2.out HM2.out).mono ?_; rintro r w3 ⟨rfl, o3, hB3, hm3⟩; have HB3 : Hid (BufIs w3 o3 5 w.heap.size most M') := hB3; have HM3 : Hid (Mv [5] w2 (newTo o' wr 0) w3 o3) := hm3; clear hB3 hm3))
              | (go_at_call 23; go_must (refine (HAll.out w3 o3 M' HB3.out).mono ?_; rintro r w4 ⟨v4, rfl, rs4, hrs4, hO4, hb4⟩; obtain ⟨a4, c4', hv4, _⟩ := slice_of_own hO4.row; have hl4 : rs4.length = M'.length := map_len hrs4; rw [hl4] at hv4; subst hv4; have HO4 : Hid (OutAt w4 (newTo o3 w3 0) 0 w3.heap.size (.slice a4 M'.length c4') rs4) := hO4; have HRS4 : Hid (rs4.map (·.1) = M') := hrs4; have HB4 : Hid (Below w3.heap.size w3 w4) := hb4; clear hO4 hrs4 hb4 hl4))
              | (go_at_call 15; go_must (refine (HSame.out w3 w4 o3 _ _ rs rs4 _ _ (HO2.out.mv HM3.out (by simp) (by simp)) HB4.out HO4.out HRS.out HRS4.out).mono ?_; rintro r w5 ⟨rfl, hb5⟩; have HI5 : Hid (∃ o' M, BufIs w5 o' 5 w.heap.size most M ∧ Mv [5] w (fun _ => 0) w5 o') := ⟨_, M', (HB3.out.below HB4.out).below hb5, ((HM2.out.trans HM3.out).trans (Mv.of_below 0 HB4.out)).trans (Mv.of_below 0 hb5)⟩; clear hb5)))
            go_roundw
            case rel => exact ⟨k + 1, by go_num, by omega, HI5⟩
            case measure => simp [intOf]; omega
          · have hK33 : (K == 3) = false := by simpa using c33
            clear hK3 c33
            have tA : Hid True := trivial
            go_wp2_with (first
              | (replace tA := tA; go_at_call 23; go_must (refine (HAll.out wr o' M' HB0.out).mono ?_; rintro r w2 ⟨v2, rfl, rs, hrs, hO2, hb2⟩; obtain ⟨a2, c2', hv2, _⟩ := slice_of_own hO2.row; have hl2 : rs.length = M'.length := map_len hrs; rw [hl2] at hv2; subst hv2; have HO2 : Hid (OutAt w2 (newTo o' wr 0) 0 wr.heap.size (.slice a2 M'.length c2') rs) := hO2; have HRS : Hid (rs.map (·.1) = M') := hrs; have HB2 : Hid (BufIs w2 (newTo o' wr 0) 5 w.heap.size most M') := HB0.out.below hb2; have HM2 : Hid (Mv [5] w (fun _ => 0) w2 (newTo o' wr 0)) := HM0.out.trans (Mv.of_below 0 hb2); obtain ⟨g2, off2, ea2, hcc⟩ := (HRow.out w2 hb2).at HQ.out; cases ea2; unfold ec at hcc; dsimp only at hcc; have d0 := hcc 0 _ rfl; have d1 := hcc 1 _ rfl; have d2 := hcc 2 _ rfl; have d3 := hcc 3 _ rfl; have d4 := hcc 4 _ rfl; have d5 := hcc 5 _ rfl; have d6 := hcc 6 _ rfl; have d7 := hcc 7 _ rfl; simp only [Nat.add_zero] at d0; clear hO2 hb2 hcc hl2 hrs tA))
              | (go_at_call 10; go_must (refine (HHo.out w2 _ HB2.out HM2.out).mono ?_; rintro r w3 ⟨rfl, o3, hB3, hm3⟩; have HB3 : Hid (BufIs w3 o3 5 w.heap.size most M') := hB3; have HM3 : Hid (Mv [5] w2 (newTo o' wr 0) w3 o3) := hm3; clear hB3 hm3))
              | (go_at_call 23; go_must (refine (HAll.out w3 o3 M' HB3.out).mono ?_; rintro r w4 ⟨v4, rfl, rs4, hrs4, hO4, hb4⟩; obtain ⟨a4, c4', hv4, _⟩ := slice_of_own hO4.row; have hl4 : rs4.length = M'.length := map_len hrs4; rw [hl4] at hv4; subst hv4; have HO4 : Hid (OutAt w4 (newTo o3 w3 0) 0 w3.heap.size (.slice a4 M'.length c4') rs4) := hO4; have HRS4 : Hid (rs4.map (·.1) = M') := hrs4; have HB4 : Hid (Below w3.heap.size w3 w4) := hb4; clear hO4 hrs4 hb4 hl4))
              | (go_at_call 15; go_must (refine (HSame.out w3 w4 o3 _ _ rs rs4 _ _ (HO2.out.mv HM3.out (by simp) (by simp)) HB4.out HO4.out HRS.out HRS4.out).mono ?_; rintro r w5 ⟨rfl, hb5⟩; have HI5 : Hid (∃ o' M, BufIs w5 o' 5 w.heap.size most M ∧ Mv [5] w (fun _ => 0) w5 o') := ⟨_, M', (HB3.out.below HB4.out).below hb5, ((HM2.out.trans HM3.out).trans (Mv.of_below 0 HB4.out)).trans (Mv.of_below 0 hb5)⟩; clear hb5)))
            go_roundw
            case rel => exact ⟨k + 1, by go_num, by omega, HI5⟩
            case measure => simp [intOf]; omega
    · obtain rfl : k = l.length := by omega
      have HBw : Hid (Below w.heap.size w wr) := HBel.out wr o' hM
      have B1 := fun (w' : World) => btake_nil w' 0 0
      have B2 := fun (w' : World) => bfirst_nil w'
      have B3 : ∀ w' : World, Calls Try.prog 10 #[.pointer none, .agg #[.int .i64 0, .int .i64 0, .int .u64 0, .int .i64 0, .int .i64 0, .int .i64 0, .slice none 0 0, .int .u64 0]] w' fun r w2 => r = .returned (.int .i64 23) ∧ Below w'.heap.size w' w2 := fun w' => hold_nil (e := zeroE) (x := .slice none 0 0) (rd_nil w')
      unfold ev zeroE at B1 B2
      dsimp only at B1 B2
      have HB1 : Hid (_) := B1
      have HB2 : Hid (_) := B2
      have HB3 : Hid (_) := B3
      clear B1 B2 B3 HI hB hM HS HBel HV HE
      go_wp2_with (first
        | (go_at_call 12; go_must (refine (HB1.out wr).mono ?_; rintro r w2 ⟨rfl, hb2⟩; have HW2 : Hid (Below w.heap.size w w2) := bnext HBw.out hb2; clear hb2))
        | (go_at_call 20; go_must (refine (HB2.out _).mono ?_; rintro r w3 ⟨rfl, hb3⟩; have HW3 : Hid (Below w.heap.size w w3) := bnext (balloc HW2.out _) hb3; clear hb3))
        | (go_at_call 10; go_must (refine (HB3.out _).mono ?_; rintro r w4 ⟨rfl, hb4⟩; have HW4 : Hid (Below w.heap.size w w4) := bnext (balloc HW3.out _) hb4; clear hb4))
        | (go_at_call 16; go_must (refine (brun_nil w4 _ _).mono ?_; rintro r w5 ⟨rfl, hb5⟩; have HW5 : Hid (Below w.heap.size w w5) := bnext HW4.out hb5; clear hb5))
        | (go_at_call 18; go_must (refine (bdrop_nil _ _ _).mono ?_; rintro r w6 ⟨rfl, hw6⟩; replace hw6 := hw6.symm; subst hw6))
        | (go_at_call 22; go_must (refine (blen_nil _).mono ?_; rintro r w6 ⟨rfl, hw6⟩; replace hw6 := hw6.symm; subst hw6))
        | (go_at_call 23; go_must (refine (ball_nil _).mono ?_; rintro r w6 ⟨rfl, hw6⟩; replace hw6 := hw6.symm; subst hw6))
        | (go_at_call 8; go_must (refine (HAl.out w5).mono ?_; rintro r w7 ⟨rfl, hb7⟩)))
      go_ret
      exact ⟨rfl, bnext HW5.out hb7⟩
end Go.Proofs.Ytigfklcclfpcjaa
