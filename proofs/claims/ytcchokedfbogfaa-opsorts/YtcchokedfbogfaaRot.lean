/-
  rotate of the library's stable sort, at operations: two runs beside each other change their places.
-/
import Derived.Test.YtcchokedfbogfaaSwp
namespace Go.Proofs.Ytcchokedfbogfaa
set_option linter.unusedVariables false
set_option linter.unusedSimpArgs false
set_option synthInstance.maxSize 20000
set_option maxHeartbeats 2000000
set_option maxRecDepth 20000
open Go.RowKit Go.Maps

structure RotS (p U V s : List OpT) (m i j : Nat) (p' U' V' s' : List OpT) : Prop where
  hi : U'.length = i
  hj : V'.length = j
  hm : p'.length + i = m
  same : p' ++ (V' ++ (U' ++ s')) = p ++ (V ++ (U ++ s))
theorem rotate100 {w : World} {g N cap a m b : Nat} {cf : Value} {p U V s : List OpT} (hr : Row w g N cap (p ++ (U ++ (V ++ s)))) (ha : a = p.length) (hm : m = p.length + U.length) (hb : b = m + V.length) (hU : 0 < U.length) (hV : 0 < V.length) (hN : N ≤ 1000000) :
    Calls Try.prog 100 #[.slice (some ⟨g, 0, none⟩) N cap, .int .i64 (a : Int), .int .i64 (m : Int), .int .i64 (b : Int), cf] w fun e w' => e = .returned (.tuple #[]) ∧ Row w' g N cap (p ++ (V ++ (U ++ s))) ∧ w.grownBy w' (some g) := by
  have hlen := hr.1
  have hmN : m ≤ N := by simp at hlen; omega
  have hbN : b ≤ N := by simp at hlen; omega
  have ham : a ≤ m := by omega
  obtain ⟨i0, hi0⟩ : ∃ i0, i0 = U.length := ⟨_, rfl⟩
  obtain ⟨j0, hj0⟩ : ∃ j0, j0 = V.length := ⟨_, rfl⟩
  have HS : Hid (RotS p U V s m i0 j0 p U V s) := ⟨hi0.symm, hj0.symm, by omega, rfl⟩
  have e0 : (m : Int) - (a : Int) = (i0 : Int) := by omega
  have e1 : (b : Int) - (m : Int) = (j0 : Int) := by omega
  have hp0 : 0 < i0 := by omega
  have hp1 : 0 < j0 := by omega
  have hle : m + j0 ≤ N := by omega
  have HR : Hid (Row w g N cap (p ++ (U ++ (V ++ s)))) := hr
  clear hr hU hV ha hb hm hlen hi0 hj0
  go_enter Try.func100, Try.ntmps100
  go_wp2
  go_loopw [10, 11] (fun vi vj wr => ∃ (i j : Nat) (p' U' V' s' : List OpT), vi = .int .i64 (i : Int) ∧ vj = .int .i64 (j : Int) ∧ 0 < i ∧ 0 < j ∧ i ≤ m ∧ m + j ≤ N ∧ Hid (RotS p U V s m i j p' U' V' s') ∧ Hid (Row wr g N cap (p' ++ (U' ++ (V' ++ s')))) ∧ Hid (w.grownBy wr (some g))) (fun vi vj _ => (intOf vi).toNat + (intOf vj).toNat)
  case atStart => exact ⟨i0, j0, p, U, V, s, rfl, rfl, hp0, hp1, by omega, hle, HS, HR, grown_refl _ _⟩
  case round =>
    obtain ⟨i, j, p', U', V', s', rfl, rfl, hi, hj, him, hjN, HT, HR1, HG1⟩ := hrel
    have hi' : (0 : Int) < (i : Int) := by omega
    have him' : (i : Int) ≤ (m : Int) := by omega
    by_cases hne : i = j
    · subst hne
      have HSW : Hid (Calls Try.prog 103 #[.slice (some ⟨g, 0, none⟩) N cap, .int .i64 ((m : Int) - (i : Int)), .int .i64 (m : Int), .int .i64 (i : Int), cf] wr fun e w' => e = .returned (.tuple #[]) ∧ Row w' g N cap (p' ++ (V' ++ ([] ++ (U' ++ s')))) ∧ wr.grownBy w' (some g)) := by
        have h1 := HT.out.hi; have h2 := HT.out.hj; have h3 := HT.out.hm
        have := swapRange103 (a := p'.length) (b := m) (n := i) (cf := cf) (p := p') (U := U') (q := []) (V := V') (s := s') HR1.out h1 h2 rfl (by simp; omega) hN
        rw [show (m : Int) - (i : Int) = (p'.length : Int) by omega]
        exact this
      have hbb : ((i : Int) != (i : Int)) = false := by simp
      go_wp2_with (go_at_call 103; go_must (refine HSW.out.mono ?_; rintro r w2 ⟨rfl, hR2, hG2⟩; have HR2 : Hid (Row w2 g N cap (p' ++ (V' ++ ([] ++ (U' ++ s'))))) := hR2; have HG2 : Hid (wr.grownBy w2 (some g)) := hG2; clear hR2 hG2))
      go_end0
      refine ⟨rfl, ?_, grown_trans HG1.out HG2.out (fun k hk => .inl hk)⟩
      have := HR2.out
      rw [List.nil_append, HT.out.same] at this
      exact this
    · have hbb : ((i : Int) != (j : Int)) = true := by simp; omega
      by_cases hgt : j < i
      · have hgt' : (j : Int) < (i : Int) := by omega
        have HNX : ∃ U1 U2, U' = U1 ++ U2 ∧ U1.length = j := ⟨U'.take j, U'.drop j, (List.take_append_drop _ _).symm, by rw [List.length_take, HT.out.hi]; omega⟩
        obtain ⟨U1, U2, rfl, hU1⟩ := HNX
        have hl2 : U2.length = i - j := by have := HT.out.hi; simp at this; omega
        have HSW : Hid (Calls Try.prog 103 #[.slice (some ⟨g, 0, none⟩) N cap, .int .i64 ((m : Int) - (i : Int)), .int .i64 (m : Int), .int .i64 (j : Int), cf] wr fun e w' => e = .returned (.tuple #[]) ∧ Row w' g N cap (p' ++ (V' ++ (U2 ++ (U1 ++ s')))) ∧ wr.grownBy w' (some g)) := by
          have h2 := HT.out.hj; have h3 := HT.out.hm
          have hR := HR1.out
          rw [List.append_assoc] at hR
          have := swapRange103 (a := p'.length) (b := m) (n := j) (cf := cf) (p := p') (U := U1) (q := U2) (V := V') (s := s') hR hU1 h2 rfl (by omega) hN
          rw [show (m : Int) - (i : Int) = (p'.length : Int) by omega]
          exact this
        have HT2 : Hid (RotS p U V s m (i - j) j (p' ++ V') U2 U1 s') := by
          have h1 := HT.out.hi; have h2 := HT.out.hj; have h3 := HT.out.hm; have h4 := HT.out.same
          refine ⟨hl2, hU1, by simp; omega, ?_⟩
          rw [← h4]
          simp
        clear hl2 hU1
        go_wp2_with (go_at_call 103; go_must (refine HSW.out.mono ?_; rintro r w2 ⟨rfl, hR2, hG2⟩; have HR2 : Hid (Row w2 g N cap (p' ++ (V' ++ (U2 ++ (U1 ++ s'))))) := hR2; have HG2 : Hid (w.grownBy w2 (some g)) := grown_trans HG1.out hG2 (fun k hk => .inl hk); clear hR2 hG2))
        go_roundw
        case rel =>
          refine ⟨i - j, j, p' ++ V', U2, U1, s', by go_num, rfl, by omega, hj, by omega, hjN, HT2, ?_, HG2⟩
          show Row _ _ _ _ _
          rw [List.append_assoc]
          exact HR2.out
        case measure => simp [intOf]; omega
      · have hgt' : ¬ (j : Int) < (i : Int) := by omega
        have hlt' : (i : Int) < (j : Int) := by omega
        have HNX : ∃ V1 V2, V' = V1 ++ V2 ∧ V1.length = j - i := ⟨V'.take (j - i), V'.drop (j - i), (List.take_append_drop _ _).symm, by rw [List.length_take, HT.out.hj]; omega⟩
        obtain ⟨V1, V2, rfl, hV1⟩ := HNX
        have hl2 : V2.length = i := by have := HT.out.hj; simp at this; omega
        have HSW : Hid (Calls Try.prog 103 #[.slice (some ⟨g, 0, none⟩) N cap, .int .i64 ((m : Int) - (i : Int)), .int .i64 ((m : Int) + (j : Int) - (i : Int)), .int .i64 (i : Int), cf] wr fun e w' => e = .returned (.tuple #[]) ∧ Row w' g N cap (p' ++ (V2 ++ (V1 ++ (U' ++ s')))) ∧ wr.grownBy w' (some g)) := by
          have h1 := HT.out.hi; have h3 := HT.out.hm
          have hR := HR1.out
          rw [List.append_assoc] at hR
          have := swapRange103 (a := p'.length) (b := m + j - i) (n := i) (cf := cf) (p := p') (U := U') (q := V1) (V := V2) (s := s') hR h1 hl2 rfl (by omega) hN
          rw [show (m : Int) - (i : Int) = (p'.length : Int) by omega, show (m : Int) + (j : Int) - (i : Int) = ((m + j - i : Nat) : Int) by omega]
          exact this
        have HT2 : Hid (RotS p U V s m i (j - i) p' V2 V1 (U' ++ s')) := by
          have h1 := HT.out.hi; have h2 := HT.out.hj; have h3 := HT.out.hm; have h4 := HT.out.same
          refine ⟨hl2, hV1, h3, ?_⟩
          rw [← h4]
          simp
        clear hl2 hV1
        go_wp2_with (go_at_call 103; go_must (refine HSW.out.mono ?_; rintro r w2 ⟨rfl, hR2, hG2⟩; have HR2 : Hid (Row w2 g N cap (p' ++ (V2 ++ (V1 ++ (U' ++ s'))))) := hR2; have HG2 : Hid (w.grownBy w2 (some g)) := grown_trans HG1.out hG2 (fun k hk => .inl hk); clear hR2 hG2))
        go_roundw
        case rel => exact ⟨i, j - i, p', V2, V1, U' ++ s', rfl, by go_num, hi, by omega, him, by omega, HT2, HR2, HG2⟩
        case measure => simp [intOf]; omega
end Go.Proofs.Ytcchokedfbogfaa
