/-
  swapRange and rotate of the library's stable sort, at operations.
  rotate of the library's stable sort, at operations: two runs beside each other change their places.
-/
import Derived.Test.YthnjbjlhfohpfaaRow
namespace Go.Proofs.Ythnjbjlhfohpfaa
section
set_option linter.unusedVariables false
set_option linter.unusedSimpArgs false
set_option synthInstance.maxSize 20000
set_option maxHeartbeats 2000000
set_option maxRecDepth 20000
open Go.RowKit Go.Maps

/-- swapRange: two runs of n operations are exchanged. -/
theorem swapRange103 {w : World} {g N cap a b n : Nat} {cf : Value} {p U q V s : List OpT} (hr : Row w g N cap (p ++ (U ++ (q ++ (V ++ s))))) (hU : U.length = n) (hV : V.length = n) (ha : a = p.length) (hb : b = p.length + n + q.length) (hN : N ≤ 1000000) :
    Calls Try.prog 116 #[.slice (some ⟨g, 0, none⟩) N cap, .int .i64 (a : Int), .int .i64 (b : Int), .int .i64 (n : Int), cf] w fun e w' => e = .returned (.tuple #[]) ∧ Row w' g N cap (p ++ (V ++ (q ++ (U ++ s)))) ∧ w.grownBy w' (some g) := by
  have hlen := hr.1
  have hcap := hr.caps
  have hbn : b + n ≤ N := by simp at hlen; omega
  have han : a + n ≤ b := by omega
  have HS : Hid (Half p U q V s n 0 (p ++ (U ++ (q ++ (V ++ s))))) := Half.start hU hV
  have HR : Hid (Row w g N cap (p ++ (U ++ (q ++ (V ++ s))))) := hr
  have HA : Hid (a = p.length ∧ b = p.length + n + q.length) := ⟨ha, hb⟩
  clear hr hU hV ha hb hlen
  go_enter Try.func116, Try.ntmps116
  go_wp2
  go_loopw [10] (fun vi wr => ∃ (i : Nat) (l' : List OpT), vi = .int .i64 (i : Int) ∧ i ≤ n ∧ Hid (Row wr g N cap l') ∧ Hid (w.grownBy wr (some g)) ∧ Hid (Half p U q V s n i l')) (fun vi _ => n - (intOf vi).toNat)
  case atStart => exact ⟨0, _, rfl, Nat.zero_le _, HR, grown_refl _ _, HS⟩
  case round =>
    obtain ⟨i, l', rfl, hi, HR1, HG1, HH⟩ := hrel
    by_cases hlt : i < n
    · obtain ⟨u, v, hu, hv, hh⟩ := HH.out.more hlt
      rw [← HA.out.2] at hv hh
      rw [← HA.out.1] at hu hh
      have hwi : (i : Int) < (n : Int) := by omega
      have k1 : (a : Int) + (i : Int) < (N : Int) := by omega
      have k2 : (b : Int) + (i : Int) < (N : Int) := by omega
      have HH2 : Hid (Half p U q V s n (i + 1) ((l'.set (a + i) v).set (b + i) u)) := hh
      go_wp2_with fail
      have ne : Nonempty (WIn (fun _ => True)) := ⟨⟨wr, trivial⟩⟩
      refine wp_region_tree (C := fun w' => ∃ z : WIn (fun _ => True), w' = z.w) (.still 0 (.still 1 (.still 2 (.still 3 (.still 4 (.still 5 (.still 6 (.still 7 (.still 8 (.still 9 (.still 10 (.still 11 (.still 12 (.still 14 (.still 15 (.still 16 (.still 17 (.still 18 (.two 13 (.one 19 (.still 20 (.one 21 (.still 22 (.one 23 .done))))) 19 (.one 13 (.still 20 (.one 21 (.still 22 (.one 23 .done)))))))))))))))))))))))) (by kernel_rfl) (by kernel_rfl) ⟨⟨wr.drew, trivial⟩, rfl⟩ ?_
      have HRD : Hid (Row wr.drew g N cap l') := HR1.out
      have HGD : Hid (w.grownBy wr.drew (some g)) := grown_drew HG1.out
      generalize wr.drew = wd at *
      iterate 18 (refine tree_still rfl rfl ?_; go_big_quiet_step (fail); refine wpQuiet_nil ?_)
      obtain ⟨w1, w2, hw1, hw2, R2, G2, T1, T2⟩ := HRD.out.xchg HGD.out (i := a + i) (j := b + i) (by omega) (by omega) u v
      have HW1 : Hid (w1 = wd.setCells g ((a + i) * 10) (oc v)) := hw1
      have HW2 : Hid (w2 = w1.setCells g ((b + i) * 10) (oc u)) := hw2
      have HLu : Hid (wd.rangeAt g ((a + i) * 10) (oc u)) := HRD.out.load hu
      have HLv : Hid (wd.rangeAt g ((b + i) * 10) (oc v)) := HRD.out.load hv
      have HT1 : Hid (wd.there g ((a + i) * 10) 10) := T1
      have HT2 : Hid (w1.there g ((b + i) * 10) 10) := T2
      have HR2 : Hid (Row w2 g N cap ((l'.set (a + i) v).set (b + i) u)) := R2
      have HG2 : Hid (w.grownBy w2 (some g)) := G2
      clear hw1 hw2 R2 G2 T1 T2 hh hu hv
      refine tree_two rfl rfl rfl rfl ?_ ?_
      · refine wp_ok (exec_load26 (q := v) (.tmp 28) rfl rfl HLv.out) ?_
        refine ⟨⟨⟨_, trivial⟩, rfl⟩, ?_⟩
        go_simp
        refine tree_one rfl rfl ?_
        refine wp_ok (exec_load26 (q := u) (.tmp 34) rfl rfl HLu.out) ?_
        refine ⟨⟨⟨_, trivial⟩, rfl⟩, ?_⟩
        go_simp
        refine tree_still rfl rfl ?_; go_big_quiet_step (fail); refine wpQuiet_nil ?_
        refine tree_one rfl rfl ?_
        refine wp_skip (exec_store26 (q := v) (.tmp 36) (.tmp 29) rfl rfl rfl HT1.out) ?_
        rw [← HW1.out]
        refine ⟨⟨⟨_, trivial⟩, rfl⟩, ?_⟩
        go_simp
        refine tree_still rfl rfl ?_; go_big_quiet_step (fail); refine wpQuiet_nil ?_
        refine tree_one rfl rfl ?_
        refine wp_skip (exec_store26 (q := u) (.tmp 37) (.tmp 35) rfl rfl rfl HT2.out) ?_
        rw [← HW2.out]
        refine ⟨⟨⟨_, trivial⟩, rfl⟩, ?_⟩
        go_simp
        refine tree_done ?_
        clear ne
        go_wp2
        go_roundw
        case rel => exact ⟨i + 1, _, by go_num, by omega, HR2, HG2, HH2⟩
        case measure => simp [intOf]; omega
      · refine wp_ok (exec_load26 (q := u) (.tmp 34) rfl rfl HLu.out) ?_
        refine ⟨⟨⟨_, trivial⟩, rfl⟩, ?_⟩
        go_simp
        refine tree_one rfl rfl ?_
        refine wp_ok (exec_load26 (q := v) (.tmp 28) rfl rfl HLv.out) ?_
        refine ⟨⟨⟨_, trivial⟩, rfl⟩, ?_⟩
        go_simp
        refine tree_still rfl rfl ?_; go_big_quiet_step (fail); refine wpQuiet_nil ?_
        refine tree_one rfl rfl ?_
        refine wp_skip (exec_store26 (q := v) (.tmp 36) (.tmp 29) rfl rfl rfl HT1.out) ?_
        rw [← HW1.out]
        refine ⟨⟨⟨_, trivial⟩, rfl⟩, ?_⟩
        go_simp
        refine tree_still rfl rfl ?_; go_big_quiet_step (fail); refine wpQuiet_nil ?_
        refine tree_one rfl rfl ?_
        refine wp_skip (exec_store26 (q := u) (.tmp 37) (.tmp 35) rfl rfl rfl HT2.out) ?_
        rw [← HW2.out]
        refine ⟨⟨⟨_, trivial⟩, rfl⟩, ?_⟩
        go_simp
        refine tree_done ?_
        clear ne
        go_wp2
        go_roundw
        case rel => exact ⟨i + 1, _, by go_num, by omega, HR2, HG2, HH2⟩
        case measure => simp [intOf]; omega
    · obtain rfl : i = n := by omega
      have hwi : ¬ (i : Int) < (i : Int) := by omega
      have hd := HH.out.done
      subst hd
      go_wp2
      go_end0
      exact ⟨rfl, HR1.out, HG1.out⟩
end

section
set_option linter.unusedVariables false
set_option linter.unusedSimpArgs false
set_option synthInstance.maxSize 20000
set_option maxHeartbeats 2000000
set_option maxRecDepth 20000
open Go.RowKit Go.Maps

structure RotS (p U V s : List OpT) (m i j : Nat) (p' U' V' s' : List OpT) : Prop where
  hi : U'.length = i
  hj : V'.length = j
  hm : p'.length + i = m
  same : p' ++ (V' ++ (U' ++ s')) = p ++ (V ++ (U ++ s))
theorem rotate100 {w : World} {g N cap a m b : Nat} {cf : Value} {p U V s : List OpT} (hr : Row w g N cap (p ++ (U ++ (V ++ s)))) (ha : a = p.length) (hm : m = p.length + U.length) (hb : b = m + V.length) (hU : 0 < U.length) (hV : 0 < V.length) (hN : N ≤ 1000000) :
    Calls Try.prog 109 #[.slice (some ⟨g, 0, none⟩) N cap, .int .i64 (a : Int), .int .i64 (m : Int), .int .i64 (b : Int), cf] w fun e w' => e = .returned (.tuple #[]) ∧ Row w' g N cap (p ++ (V ++ (U ++ s))) ∧ w.grownBy w' (some g) := by
  have hlen := hr.1
  have hmN : m ≤ N := by simp at hlen; omega
  have hbN : b ≤ N := by simp at hlen; omega
  have ham : a ≤ m := by omega
  obtain ⟨i0, hi0⟩ : ∃ i0, i0 = U.length := ⟨_, rfl⟩
  obtain ⟨j0, hj0⟩ : ∃ j0, j0 = V.length := ⟨_, rfl⟩
  have HS : Hid (RotS p U V s m i0 j0 p U V s) := ⟨hi0.symm, hj0.symm, by omega, rfl⟩
  have e0 : (m : Int) - (a : Int) = (i0 : Int) := by omega
  have e1 : (b : Int) - (m : Int) = (j0 : Int) := by omega
  have hp0 : 0 < i0 := by omega
  have hp1 : 0 < j0 := by omega
  have hle : m + j0 ≤ N := by omega
  have HR : Hid (Row w g N cap (p ++ (U ++ (V ++ s)))) := hr
  clear hr hU hV ha hb hm hlen hi0 hj0
  go_enter Try.func109, Try.ntmps109
  go_wp2
  go_loopw [10, 11] (fun vi vj wr => ∃ (i j : Nat) (p' U' V' s' : List OpT), vi = .int .i64 (i : Int) ∧ vj = .int .i64 (j : Int) ∧ 0 < i ∧ 0 < j ∧ i ≤ m ∧ m + j ≤ N ∧ Hid (RotS p U V s m i j p' U' V' s') ∧ Hid (Row wr g N cap (p' ++ (U' ++ (V' ++ s')))) ∧ Hid (w.grownBy wr (some g))) (fun vi vj _ => (intOf vi).toNat + (intOf vj).toNat)
  case atStart => exact ⟨i0, j0, p, U, V, s, rfl, rfl, hp0, hp1, by omega, hle, HS, HR, grown_refl _ _⟩
  case round =>
    obtain ⟨i, j, p', U', V', s', rfl, rfl, hi, hj, him, hjN, HT, HR1, HG1⟩ := hrel
    have hi' : (0 : Int) < (i : Int) := by omega
    have him' : (i : Int) ≤ (m : Int) := by omega
    by_cases hne : i = j
    · subst hne
      have HSW : Hid (Calls Try.prog 116 #[.slice (some ⟨g, 0, none⟩) N cap, .int .i64 ((m : Int) - (i : Int)), .int .i64 (m : Int), .int .i64 (i : Int), cf] wr fun e w' => e = .returned (.tuple #[]) ∧ Row w' g N cap (p' ++ (V' ++ ([] ++ (U' ++ s')))) ∧ wr.grownBy w' (some g)) := by
        have h1 := HT.out.hi; have h2 := HT.out.hj; have h3 := HT.out.hm
        have := swapRange103 (a := p'.length) (b := m) (n := i) (cf := cf) (p := p') (U := U') (q := []) (V := V') (s := s') HR1.out h1 h2 rfl (by simp; omega) hN
        rw [show (m : Int) - (i : Int) = (p'.length : Int) by omega]
        exact this
      have hbb : ((i : Int) != (i : Int)) = false := by simp
      go_wp2_with (go_at_call 116; go_must (refine HSW.out.mono ?_; rintro r w2 ⟨rfl, hR2, hG2⟩; have HR2 : Hid (Row w2 g N cap (p' ++ (V' ++ ([] ++ (U' ++ s'))))) := hR2; have HG2 : Hid (wr.grownBy w2 (some g)) := hG2; clear hR2 hG2))
      go_end0
      refine ⟨rfl, ?_, grown_trans HG1.out HG2.out (fun k hk => .inl hk)⟩
      have := HR2.out
      rw [List.nil_append, HT.out.same] at this
      exact this
    · have hbb : ((i : Int) != (j : Int)) = true := by simp; omega
      by_cases hgt : j < i
      · have hgt' : (j : Int) < (i : Int) := by omega
        have HNX : ∃ U1 U2, U' = U1 ++ U2 ∧ U1.length = j := ⟨U'.take j, U'.drop j, (List.take_append_drop _ _).symm, by rw [List.length_take, HT.out.hi]; omega⟩
        obtain ⟨U1, U2, rfl, hU1⟩ := HNX
        have hl2 : U2.length = i - j := by have := HT.out.hi; simp at this; omega
        have HSW : Hid (Calls Try.prog 116 #[.slice (some ⟨g, 0, none⟩) N cap, .int .i64 ((m : Int) - (i : Int)), .int .i64 (m : Int), .int .i64 (j : Int), cf] wr fun e w' => e = .returned (.tuple #[]) ∧ Row w' g N cap (p' ++ (V' ++ (U2 ++ (U1 ++ s')))) ∧ wr.grownBy w' (some g)) := by
          have h2 := HT.out.hj; have h3 := HT.out.hm
          have hR := HR1.out
          rw [List.append_assoc] at hR
          have := swapRange103 (a := p'.length) (b := m) (n := j) (cf := cf) (p := p') (U := U1) (q := U2) (V := V') (s := s') hR hU1 h2 rfl (by omega) hN
          rw [show (m : Int) - (i : Int) = (p'.length : Int) by omega]
          exact this
        have HT2 : Hid (RotS p U V s m (i - j) j (p' ++ V') U2 U1 s') := by
          have h1 := HT.out.hi; have h2 := HT.out.hj; have h3 := HT.out.hm; have h4 := HT.out.same
          refine ⟨hl2, hU1, by simp; omega, ?_⟩
          rw [← h4]
          simp
        clear hl2 hU1
        go_wp2_with (go_at_call 116; go_must (refine HSW.out.mono ?_; rintro r w2 ⟨rfl, hR2, hG2⟩; have HR2 : Hid (Row w2 g N cap (p' ++ (V' ++ (U2 ++ (U1 ++ s'))))) := hR2; have HG2 : Hid (w.grownBy w2 (some g)) := grown_trans HG1.out hG2 (fun k hk => .inl hk); clear hR2 hG2))
        go_roundw
        case rel =>
          refine ⟨i - j, j, p' ++ V', U2, U1, s', by go_num, rfl, by omega, hj, by omega, hjN, HT2, ?_, HG2⟩
          show Row _ _ _ _ _
          rw [List.append_assoc]
          exact HR2.out
        case measure => simp [intOf]; omega
      · have hgt' : ¬ (j : Int) < (i : Int) := by omega
        have hlt' : (i : Int) < (j : Int) := by omega
        have HNX : ∃ V1 V2, V' = V1 ++ V2 ∧ V1.length = j - i := ⟨V'.take (j - i), V'.drop (j - i), (List.take_append_drop _ _).symm, by rw [List.length_take, HT.out.hj]; omega⟩
        obtain ⟨V1, V2, rfl, hV1⟩ := HNX
        have hl2 : V2.length = i := by have := HT.out.hj; simp at this; omega
        have HSW : Hid (Calls Try.prog 116 #[.slice (some ⟨g, 0, none⟩) N cap, .int .i64 ((m : Int) - (i : Int)), .int .i64 ((m : Int) + (j : Int) - (i : Int)), .int .i64 (i : Int), cf] wr fun e w' => e = .returned (.tuple #[]) ∧ Row w' g N cap (p' ++ (V2 ++ (V1 ++ (U' ++ s')))) ∧ wr.grownBy w' (some g)) := by
          have h1 := HT.out.hi; have h3 := HT.out.hm
          have hR := HR1.out
          rw [List.append_assoc] at hR
          have := swapRange103 (a := p'.length) (b := m + j - i) (n := i) (cf := cf) (p := p') (U := U') (q := V1) (V := V2) (s := s') hR h1 hl2 rfl (by omega) hN
          rw [show (m : Int) - (i : Int) = (p'.length : Int) by omega, show (m : Int) + (j : Int) - (i : Int) = ((m + j - i : Nat) : Int) by omega]
          exact this
        have HT2 : Hid (RotS p U V s m i (j - i) p' V2 V1 (U' ++ s')) := by
          have h1 := HT.out.hi; have h2 := HT.out.hj; have h3 := HT.out.hm; have h4 := HT.out.same
          refine ⟨hl2, hV1, h3, ?_⟩
          rw [← h4]
          simp
        clear hl2 hV1
        go_wp2_with (go_at_call 116; go_must (refine HSW.out.mono ?_; rintro r w2 ⟨rfl, hR2, hG2⟩; have HR2 : Hid (Row w2 g N cap (p' ++ (V2 ++ (V1 ++ (U' ++ s'))))) := hR2; have HG2 : Hid (w.grownBy w2 (some g)) := grown_trans HG1.out hG2 (fun k hk => .inl hk); clear hR2 hG2))
        go_roundw
        case rel => exact ⟨i, j - i, p', V2, V1, U' ++ s', rfl, by go_num, hi, by omega, him, by omega, HT2, HR2, HG2⟩
        case measure => simp [intOf]; omega
end
end Go.Proofs.Ythnjbjlhfohpfaa
