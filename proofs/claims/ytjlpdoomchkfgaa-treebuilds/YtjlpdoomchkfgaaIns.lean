/-
  swapRange and rotate of the library's stable sort, at operations.
  rotate of the library's stable sort, at operations: two runs beside each other change their places.
  insertionSort of the library's stable sort, at operations.
-/
import Derived.Test.YtjlpdoomchkfgaaRow
namespace Go.Proofs.Ytjlpdoomchkfgaa
section
set_option linter.unusedVariables false
set_option linter.unusedSimpArgs false
set_option synthInstance.maxSize 20000
set_option maxHeartbeats 2000000
set_option maxRecDepth 20000
open Go.RowKit Go.Maps

/-- swapRange: two runs of n operations are exchanged. -/
theorem swapRange103 {w : World} {g N cap a b n : Nat} {cf : Value} {p U q V s : List OpT} (hr : Row w g N cap (p ++ (U ++ (q ++ (V ++ s))))) (hU : U.length = n) (hV : V.length = n) (ha : a = p.length) (hb : b = p.length + n + q.length) (hN : N ≤ 1000000) :
    Calls Try.prog 107 #[.slice (some ⟨g, 0, none⟩) N cap, .int .i64 (a : Int), .int .i64 (b : Int), .int .i64 (n : Int), cf] w fun e w' => e = .returned (.tuple #[]) ∧ Row w' g N cap (p ++ (V ++ (q ++ (U ++ s)))) ∧ w.grownBy w' (some g) := by
  have hlen := hr.1
  have hcap := hr.caps
  have hbn : b + n ≤ N := by simp at hlen; omega
  have han : a + n ≤ b := by omega
  have HS : Hid (Half p U q V s n 0 (p ++ (U ++ (q ++ (V ++ s))))) := Half.start hU hV
  have HR : Hid (Row w g N cap (p ++ (U ++ (q ++ (V ++ s))))) := hr
  have HA : Hid (a = p.length ∧ b = p.length + n + q.length) := ⟨ha, hb⟩
  clear hr hU hV ha hb hlen
  go_enter Try.func107, Try.ntmps107
  go_wp2
  go_loopw [10] (fun vi wr => ∃ (i : Nat) (l' : List OpT), vi = .int .i64 (i : Int) ∧ i ≤ n ∧ Hid (Row wr g N cap l') ∧ Hid (w.grownBy wr (some g)) ∧ Hid (Half p U q V s n i l')) (fun vi _ => n - (intOf vi).toNat)
  case atStart => exact ⟨0, _, rfl, Nat.zero_le _, HR, grown_refl _ _, HS⟩
  case round =>
    obtain ⟨i, l', rfl, hi, HR1, HG1, HH⟩ := hrel
    by_cases hlt : i < n
    · obtain ⟨u, v, hu, hv, hh⟩ := HH.out.more hlt
      rw [← HA.out.2] at hv hh
      rw [← HA.out.1] at hu hh
      have hwi : (i : Int) < (n : Int) := by omega
      have k1 : (a : Int) + (i : Int) < (N : Int) := by omega
      have k2 : (b : Int) + (i : Int) < (N : Int) := by omega
      have HH2 : Hid (Half p U q V s n (i + 1) ((l'.set (a + i) v).set (b + i) u)) := hh
      go_wp2_with fail
      have ne : Nonempty (WIn (fun _ => True)) := ⟨⟨wr, trivial⟩⟩
      refine wp_region_tree (C := fun w' => ∃ z : WIn (fun _ => True), w' = z.w) (.still 0 (.still 1 (.still 2 (.still 3 (.still 4 (.still 5 (.still 6 (.still 7 (.still 8 (.still 9 (.still 10 (.still 11 (.still 12 (.still 14 (.still 15 (.still 16 (.still 17 (.still 18 (.two 13 (.one 19 (.still 20 (.one 21 (.still 22 (.one 23 .done))))) 19 (.one 13 (.still 20 (.one 21 (.still 22 (.one 23 .done)))))))))))))))))))))))) (by kernel_rfl) (by kernel_rfl) ⟨⟨wr.drew, trivial⟩, rfl⟩ ?_
      have HRD : Hid (Row wr.drew g N cap l') := HR1.out
      have HGD : Hid (w.grownBy wr.drew (some g)) := grown_drew HG1.out
      generalize wr.drew = wd at *
      iterate 18 (refine tree_still rfl rfl ?_; go_big_quiet_step (fail); refine wpQuiet_nil ?_)
      obtain ⟨w1, w2, hw1, hw2, R2, G2, T1, T2⟩ := HRD.out.xchg HGD.out (i := a + i) (j := b + i) (by omega) (by omega) u v
      have HW1 : Hid (w1 = wd.setCells g ((a + i) * 10) (oc v)) := hw1
      have HW2 : Hid (w2 = w1.setCells g ((b + i) * 10) (oc u)) := hw2
      have HLu : Hid (wd.rangeAt g ((a + i) * 10) (oc u)) := HRD.out.load hu
      have HLv : Hid (wd.rangeAt g ((b + i) * 10) (oc v)) := HRD.out.load hv
      have HT1 : Hid (wd.there g ((a + i) * 10) 10) := T1
      have HT2 : Hid (w1.there g ((b + i) * 10) 10) := T2
      have HR2 : Hid (Row w2 g N cap ((l'.set (a + i) v).set (b + i) u)) := R2
      have HG2 : Hid (w.grownBy w2 (some g)) := G2
      clear hw1 hw2 R2 G2 T1 T2 hh hu hv
      refine tree_two rfl rfl rfl rfl ?_ ?_
      · refine wp_ok (exec_load26 (q := v) (.tmp 28) rfl rfl HLv.out) ?_
        refine ⟨⟨⟨_, trivial⟩, rfl⟩, ?_⟩
        go_simp
        refine tree_one rfl rfl ?_
        refine wp_ok (exec_load26 (q := u) (.tmp 34) rfl rfl HLu.out) ?_
        refine ⟨⟨⟨_, trivial⟩, rfl⟩, ?_⟩
        go_simp
        refine tree_still rfl rfl ?_; go_big_quiet_step (fail); refine wpQuiet_nil ?_
        refine tree_one rfl rfl ?_
        refine wp_skip (exec_store26 (q := v) (.tmp 36) (.tmp 29) rfl rfl rfl HT1.out) ?_
        rw [← HW1.out]
        refine ⟨⟨⟨_, trivial⟩, rfl⟩, ?_⟩
        go_simp
        refine tree_still rfl rfl ?_; go_big_quiet_step (fail); refine wpQuiet_nil ?_
        refine tree_one rfl rfl ?_
        refine wp_skip (exec_store26 (q := u) (.tmp 37) (.tmp 35) rfl rfl rfl HT2.out) ?_
        rw [← HW2.out]
        refine ⟨⟨⟨_, trivial⟩, rfl⟩, ?_⟩
        go_simp
        refine tree_done ?_
        clear ne
        go_wp2
        go_roundw
        case rel => exact ⟨i + 1, _, by go_num, by omega, HR2, HG2, HH2⟩
        case measure => simp [intOf]; omega
      · refine wp_ok (exec_load26 (q := u) (.tmp 34) rfl rfl HLu.out) ?_
        refine ⟨⟨⟨_, trivial⟩, rfl⟩, ?_⟩
        go_simp
        refine tree_one rfl rfl ?_
        refine wp_ok (exec_load26 (q := v) (.tmp 28) rfl rfl HLv.out) ?_
        refine ⟨⟨⟨_, trivial⟩, rfl⟩, ?_⟩
        go_simp
        refine tree_still rfl rfl ?_; go_big_quiet_step (fail); refine wpQuiet_nil ?_
        refine tree_one rfl rfl ?_
        refine wp_skip (exec_store26 (q := v) (.tmp 36) (.tmp 29) rfl rfl rfl HT1.out) ?_
        rw [← HW1.out]
        refine ⟨⟨⟨_, trivial⟩, rfl⟩, ?_⟩
        go_simp
        refine tree_still rfl rfl ?_; go_big_quiet_step (fail); refine wpQuiet_nil ?_
        refine tree_one rfl rfl ?_
        refine wp_skip (exec_store26 (q := u) (.tmp 37) (.tmp 35) rfl rfl rfl HT2.out) ?_
        rw [← HW2.out]
        refine ⟨⟨⟨_, trivial⟩, rfl⟩, ?_⟩
        go_simp
        refine tree_done ?_
        clear ne
        go_wp2
        go_roundw
        case rel => exact ⟨i + 1, _, by go_num, by omega, HR2, HG2, HH2⟩
        case measure => simp [intOf]; omega
    · obtain rfl : i = n := by omega
      have hwi : ¬ (i : Int) < (i : Int) := by omega
      have hd := HH.out.done
      subst hd
      go_wp2
      go_end0
      exact ⟨rfl, HR1.out, HG1.out⟩
end

section
set_option linter.unusedVariables false
set_option linter.unusedSimpArgs false
set_option synthInstance.maxSize 20000
set_option maxHeartbeats 2000000
set_option maxRecDepth 20000
open Go.RowKit Go.Maps

structure RotS (p U V s : List OpT) (m i j : Nat) (p' U' V' s' : List OpT) : Prop where
  hi : U'.length = i
  hj : V'.length = j
  hm : p'.length + i = m
  same : p' ++ (V' ++ (U' ++ s')) = p ++ (V ++ (U ++ s))
theorem rotate100 {w : World} {g N cap a m b : Nat} {cf : Value} {p U V s : List OpT} (hr : Row w g N cap (p ++ (U ++ (V ++ s)))) (ha : a = p.length) (hm : m = p.length + U.length) (hb : b = m + V.length) (hU : 0 < U.length) (hV : 0 < V.length) (hN : N ≤ 1000000) :
    Calls Try.prog 104 #[.slice (some ⟨g, 0, none⟩) N cap, .int .i64 (a : Int), .int .i64 (m : Int), .int .i64 (b : Int), cf] w fun e w' => e = .returned (.tuple #[]) ∧ Row w' g N cap (p ++ (V ++ (U ++ s))) ∧ w.grownBy w' (some g) := by
  have hlen := hr.1
  have hmN : m ≤ N := by simp at hlen; omega
  have hbN : b ≤ N := by simp at hlen; omega
  have ham : a ≤ m := by omega
  obtain ⟨i0, hi0⟩ : ∃ i0, i0 = U.length := ⟨_, rfl⟩
  obtain ⟨j0, hj0⟩ : ∃ j0, j0 = V.length := ⟨_, rfl⟩
  have HS : Hid (RotS p U V s m i0 j0 p U V s) := ⟨hi0.symm, hj0.symm, by omega, rfl⟩
  have e0 : (m : Int) - (a : Int) = (i0 : Int) := by omega
  have e1 : (b : Int) - (m : Int) = (j0 : Int) := by omega
  have hp0 : 0 < i0 := by omega
  have hp1 : 0 < j0 := by omega
  have hle : m + j0 ≤ N := by omega
  have HR : Hid (Row w g N cap (p ++ (U ++ (V ++ s)))) := hr
  clear hr hU hV ha hb hm hlen hi0 hj0
  go_enter Try.func104, Try.ntmps104
  go_wp2
  go_loopw [10, 11] (fun vi vj wr => ∃ (i j : Nat) (p' U' V' s' : List OpT), vi = .int .i64 (i : Int) ∧ vj = .int .i64 (j : Int) ∧ 0 < i ∧ 0 < j ∧ i ≤ m ∧ m + j ≤ N ∧ Hid (RotS p U V s m i j p' U' V' s') ∧ Hid (Row wr g N cap (p' ++ (U' ++ (V' ++ s')))) ∧ Hid (w.grownBy wr (some g))) (fun vi vj _ => (intOf vi).toNat + (intOf vj).toNat)
  case atStart => exact ⟨i0, j0, p, U, V, s, rfl, rfl, hp0, hp1, by omega, hle, HS, HR, grown_refl _ _⟩
  case round =>
    obtain ⟨i, j, p', U', V', s', rfl, rfl, hi, hj, him, hjN, HT, HR1, HG1⟩ := hrel
    have hi' : (0 : Int) < (i : Int) := by omega
    have him' : (i : Int) ≤ (m : Int) := by omega
    by_cases hne : i = j
    · subst hne
      have HSW : Hid (Calls Try.prog 107 #[.slice (some ⟨g, 0, none⟩) N cap, .int .i64 ((m : Int) - (i : Int)), .int .i64 (m : Int), .int .i64 (i : Int), cf] wr fun e w' => e = .returned (.tuple #[]) ∧ Row w' g N cap (p' ++ (V' ++ ([] ++ (U' ++ s')))) ∧ wr.grownBy w' (some g)) := by
        have h1 := HT.out.hi; have h2 := HT.out.hj; have h3 := HT.out.hm
        have := swapRange103 (a := p'.length) (b := m) (n := i) (cf := cf) (p := p') (U := U') (q := []) (V := V') (s := s') HR1.out h1 h2 rfl (by simp; omega) hN
        rw [show (m : Int) - (i : Int) = (p'.length : Int) by omega]
        exact this
      have hbb : ((i : Int) != (i : Int)) = false := by simp
      go_wp2_with (go_at_call 107; go_must (refine HSW.out.mono ?_; rintro r w2 ⟨rfl, hR2, hG2⟩; have HR2 : Hid (Row w2 g N cap (p' ++ (V' ++ ([] ++ (U' ++ s'))))) := hR2; have HG2 : Hid (wr.grownBy w2 (some g)) := hG2; clear hR2 hG2))
      go_end0
      refine ⟨rfl, ?_, grown_trans HG1.out HG2.out (fun k hk => .inl hk)⟩
      have := HR2.out
      rw [List.nil_append, HT.out.same] at this
      exact this
    · have hbb : ((i : Int) != (j : Int)) = true := by simp; omega
      by_cases hgt : j < i
      · have hgt' : (j : Int) < (i : Int) := by omega
        have HNX : ∃ U1 U2, U' = U1 ++ U2 ∧ U1.length = j := ⟨U'.take j, U'.drop j, (List.take_append_drop _ _).symm, by rw [List.length_take, HT.out.hi]; omega⟩
        obtain ⟨U1, U2, rfl, hU1⟩ := HNX
        have hl2 : U2.length = i - j := by have := HT.out.hi; simp at this; omega
        have HSW : Hid (Calls Try.prog 107 #[.slice (some ⟨g, 0, none⟩) N cap, .int .i64 ((m : Int) - (i : Int)), .int .i64 (m : Int), .int .i64 (j : Int), cf] wr fun e w' => e = .returned (.tuple #[]) ∧ Row w' g N cap (p' ++ (V' ++ (U2 ++ (U1 ++ s')))) ∧ wr.grownBy w' (some g)) := by
          have h2 := HT.out.hj; have h3 := HT.out.hm
          have hR := HR1.out
          rw [List.append_assoc] at hR
          have := swapRange103 (a := p'.length) (b := m) (n := j) (cf := cf) (p := p') (U := U1) (q := U2) (V := V') (s := s') hR hU1 h2 rfl (by omega) hN
          rw [show (m : Int) - (i : Int) = (p'.length : Int) by omega]
          exact this
        have HT2 : Hid (RotS p U V s m (i - j) j (p' ++ V') U2 U1 s') := by
          have h1 := HT.out.hi; have h2 := HT.out.hj; have h3 := HT.out.hm; have h4 := HT.out.same
          refine ⟨hl2, hU1, by simp; omega, ?_⟩
          rw [← h4]
          simp
        clear hl2 hU1
        go_wp2_with (go_at_call 107; go_must (refine HSW.out.mono ?_; rintro r w2 ⟨rfl, hR2, hG2⟩; have HR2 : Hid (Row w2 g N cap (p' ++ (V' ++ (U2 ++ (U1 ++ s'))))) := hR2; have HG2 : Hid (w.grownBy w2 (some g)) := grown_trans HG1.out hG2 (fun k hk => .inl hk); clear hR2 hG2))
        go_roundw
        case rel =>
          refine ⟨i - j, j, p' ++ V', U2, U1, s', by go_num, rfl, by omega, hj, by omega, hjN, HT2, ?_, HG2⟩
          show Row _ _ _ _ _
          rw [List.append_assoc]
          exact HR2.out
        case measure => simp [intOf]; omega
      · have hgt' : ¬ (j : Int) < (i : Int) := by omega
        have hlt' : (i : Int) < (j : Int) := by omega
        have HNX : ∃ V1 V2, V' = V1 ++ V2 ∧ V1.length = j - i := ⟨V'.take (j - i), V'.drop (j - i), (List.take_append_drop _ _).symm, by rw [List.length_take, HT.out.hj]; omega⟩
        obtain ⟨V1, V2, rfl, hV1⟩ := HNX
        have hl2 : V2.length = i := by have := HT.out.hj; simp at this; omega
        have HSW : Hid (Calls Try.prog 107 #[.slice (some ⟨g, 0, none⟩) N cap, .int .i64 ((m : Int) - (i : Int)), .int .i64 ((m : Int) + (j : Int) - (i : Int)), .int .i64 (i : Int), cf] wr fun e w' => e = .returned (.tuple #[]) ∧ Row w' g N cap (p' ++ (V2 ++ (V1 ++ (U' ++ s')))) ∧ wr.grownBy w' (some g)) := by
          have h1 := HT.out.hi; have h3 := HT.out.hm
          have hR := HR1.out
          rw [List.append_assoc] at hR
          have := swapRange103 (a := p'.length) (b := m + j - i) (n := i) (cf := cf) (p := p') (U := U') (q := V1) (V := V2) (s := s') hR h1 hl2 rfl (by omega) hN
          rw [show (m : Int) - (i : Int) = (p'.length : Int) by omega, show (m : Int) + (j : Int) - (i : Int) = ((m + j - i : Nat) : Int) by omega]
          exact this
        have HT2 : Hid (RotS p U V s m i (j - i) p' V2 V1 (U' ++ s')) := by
          have h1 := HT.out.hi; have h2 := HT.out.hj; have h3 := HT.out.hm; have h4 := HT.out.same
          refine ⟨hl2, hV1, h3, ?_⟩
          rw [← h4]
          simp
        clear hl2 hV1
        go_wp2_with (go_at_call 107; go_must (refine HSW.out.mono ?_; rintro r w2 ⟨rfl, hR2, hG2⟩; have HR2 : Hid (Row w2 g N cap (p' ++ (V2 ++ (V1 ++ (U' ++ s'))))) := hR2; have HG2 : Hid (w.grownBy w2 (some g)) := grown_trans HG1.out hG2 (fun k hk => .inl hk); clear hR2 hG2))
        go_roundw
        case rel => exact ⟨i, j - i, p', V2, V1, U' ++ s', rfl, by go_num, hi, by omega, him, by omega, HT2, HR2, HG2⟩
        case measure => simp [intOf]; omega
end

section
set_option linter.unusedVariables false
set_option linter.unusedSimpArgs false
set_option synthInstance.maxSize 20000
set_option maxHeartbeats 2000000
set_option maxRecDepth 20000
open Go.RowKit Go.Maps

/-- Of a list that is put in order: what is in order (z), then what stands as it came. -/
structure InsS (x z y : List OpT) : Prop where
  srt : SrtO z
  keep : Keep x (z ++ y)
  len : z.length + y.length = x.length
/-- One of them on its way down: e stands behind z1, ahead of z2, which it is ahead of. -/
structure DownS (x z1 : List OpT) (e : OpT) (z2 y : List OpT) : Prop where
  srt : SrtO (z1 ++ z2)
  less : ∀ q ∈ z2, LtO e q
  keep : Keep x (z1 ++ e :: z2 ++ y)
  len : z1.length + 1 + z2.length + y.length = x.length
theorem DownS.start {x z y : List OpT} {e : OpT} (h : InsS x z (e :: y)) : DownS x z e [] y := by
  refine ⟨by simpa using h.srt, (fun q hq => by cases hq), ?_, ?_⟩
  · have := h.keep
    simpa using this
  · have := h.len
    simp at this ⊢
    omega
theorem DownS.less' {x z1 z2 y : List OpT} {e d : OpT} (h : DownS x (z1 ++ [d]) e z2 y) (hl : LtO e d) : DownS x z1 e (d :: z2) y := by
  refine ⟨by simpa using h.srt, fun q hq => ?_, ?_, ?_⟩
  · rcases List.mem_cons.1 hq with rfl | hq
    · exact hl
    · exact h.less q hq
  · refine h.keep.trans ?_
    have t : Keep ([d] ++ [e]) ([e] ++ [d]) := Keep.turn (fun a ha b hb => by
      simp at ha hb
      subst ha hb
      exact fun k => lt_ne hl k.symm)
    have := ((Keep.refl z1).append t).append (Keep.refl (z2 ++ y))
    simpa using this
  · have := h.len
    simp at this ⊢
    omega
theorem DownS.stop {x z1 z2 y : List OpT} {e : OpT} (h : DownS x z1 e z2 y) (hs : ∀ q ∈ z1, LeO q e) : InsS x (z1 ++ e :: z2) y := by
  obtain ⟨a1, a2, a3⟩ := srt_append.1 h.srt
  refine ⟨srt_append.2 ⟨a1, List.pairwise_cons.2 ⟨fun q hq => lt_le (h.less q hq), a2⟩, fun p hp q hq => ?_⟩, h.keep, ?_⟩
  · rcases List.mem_cons.1 hq with rfl | hq
    · exact hs p hp
    · exact a3 p hp q hq
  · have := h.len
    simp at this ⊢
    omega
theorem DownS.top {x z1 z2 y : List OpT} {e d : OpT} (h : DownS x (z1 ++ [d]) e z2 y) (hl : ¬ LtO e d) : ∀ q ∈ z1 ++ [d], LeO q e := fun q hq => by
  have a1 := (srt_append.1 h.srt).1
  rcases List.mem_append.1 hq with hq | hq
  · have := (srt_append.1 a1).2.2 q hq d (by simp)
    exact le_trans' this hl
  · simp at hq
    subst hq
    exact hl
theorem insertion90 {w : World} {g N cap a b : Nat} {p x s : List OpT} (hr : Row w g N cap (p ++ (x ++ s))) (ha : a = p.length) (hb : b = a + x.length) (hN : N ≤ 1000000) :
    Calls Try.prog 94 #[.slice (some ⟨g, 0, none⟩) N cap, .int .i64 (a : Int), .int .i64 (b : Int), .func (.func 69) #[] #[]] w fun e w' => e = .returned (.tuple #[]) ∧ ∃ z, InsS x z [] ∧ Row w' g N cap (p ++ (z ++ s)) ∧ w.grownBy w' (some g) := by
  have hlen := hr.1
  have hbN : b ≤ N := by simp at hlen; omega
  have hbN' : (b : Int) ≤ (N : Int) := by omega
  have hN' : (N : Int) ≤ 1000000 := by omega
  have HR : Hid (Row w g N cap (p ++ (x ++ s))) := hr
  have HA : Hid (a = p.length ∧ b = a + x.length) := ⟨ha, hb⟩
  by_cases hx : x = []
  · subst hx
    have h0 : ¬ ((a : Int) + 1 < (b : Int)) := by simp at hb; omega
    have haz : (a : Int) ≤ 1000000 := by omega
    clear hr ha hb hlen
    go_enter Try.func94, Try.ntmps94
    go_wp2
    go_loopw [8] (fun vi wr => vi = .int .i64 ((a : Int) + 1) ∧ Hid (wr = w)) (fun _ _ => 0)
    case atStart => exact ⟨rfl, rfl⟩
    case round =>
      obtain ⟨rfl, HW⟩ := hrel
      have hw := HW.out
      subst hw
      go_wp2
      go_end0
      exact ⟨rfl, [], ⟨List.Pairwise.nil, Keep.refl _, rfl⟩, HR.out, grown_refl _ _⟩
  · obtain ⟨x0, x1, hx01⟩ : ∃ x0 x1, x = x0 :: x1 := by
      cases x with
      | nil => exact absurd rfl hx
      | cons x0 x1 => exact ⟨x0, x1, rfl⟩
    have hab : a < b := by rw [hb, hx01]; simp
    have haz : (a : Int) ≤ 1000000 := by omega
    have HI0 : Hid (InsS x [x0] x1 ∧ p ++ (x ++ s) = p ++ ([x0] ++ (x1 ++ s))) := ⟨⟨List.pairwise_singleton _ _, by rw [hx01]; exact Keep.refl _, by rw [hx01]; simp; omega⟩, by rw [hx01]; simp⟩
    clear hr ha hb hlen hx hx01
    go_enter Try.func94, Try.ntmps94
    go_wp2
    go_loopw [8] (fun vi wr => ∃ (i : Nat) (z y : List OpT), vi = .int .i64 (i : Int) ∧ a < i ∧ i ≤ b ∧ Hid (a + z.length = i) ∧ Hid (InsS x z y) ∧ Hid (Row wr g N cap (p ++ (z ++ (y ++ s)))) ∧ Hid (w.grownBy wr (some g))) (fun vi _ => b - (intOf vi).toNat)
    case atStart =>
      refine ⟨a + 1, [x0], x1, by go_num, by omega, by omega, rfl, HI0.out.1, ?_, grown_refl _ _⟩
      show Row _ _ _ _ _
      rw [← HI0.out.2]
      exact HR.out
    case round =>
      obtain ⟨i, z, y, rfl, hai, hib, HL, HI, HR1, HG1⟩ := hrel
      by_cases hlt : i < b
      · have hlt' : (i : Int) < (b : Int) := by omega
        obtain ⟨e, y2, rfl⟩ : ∃ e y2, y = e :: y2 := by
          cases y with
          | nil =>
            have h1 := HI.out.len; have h2 := HL.out; have h3 := HA.out.2
            simp at h1
            omega
          | cons e y2 => exact ⟨e, y2, rfl⟩
        go_wp2
        go_loopw [9] (fun vj wr2 => ∃ (j : Nat) (z1 z2 : List OpT), vj = .int .i64 (j : Int) ∧ a ≤ j ∧ j ≤ i ∧ Hid (a + z1.length = j) ∧ Hid (z1.length + z2.length = z.length) ∧ Hid (DownS x z1 e z2 y2) ∧ Hid (Row wr2 g N cap (p ++ (z1 ++ (e :: (z2 ++ (y2 ++ s)))))) ∧ Hid (w.grownBy wr2 (some g))) (fun vj _ => (intOf vj).toNat)
        case atStart => exact ⟨i, z, [], rfl, by omega, Nat.le_refl _, HL, rfl, DownS.start HI.out, by simpa using HR1, HG1⟩
        case round =>
          obtain ⟨j, z1, z2, rfl, haj, hji, HL1, HL2, HD, HR2, HG2⟩ := hrel
          rename World => wq
          have haj' : (0 : Int) ≤ (j : Int) := by omega
          by_cases hz : z1 = []
          · subst hz
            have hja : j = a := by have := HL1.out; simp at this; omega
            subst hja
            have hjaz : decide ((j : Int) > (j : Int)) = false := decide_eq_false (by omega)
            have HEnd : Hid (InsS x ([] ++ e :: z2) y2) := HD.out.stop (fun q hq => by cases hq)
            have HL3 : Hid (j + ([] ++ e :: z2 : List OpT).length = i + 1) := by
              show _ = _
              have h1 := HL2.out; have h2 := HL.out
              simp at h1 ⊢
              omega
            go_wp2_with fail
            go_quiet (fail)
            go_wp2
            go_roundw
            case rel =>
              refine ⟨i + 1, [] ++ e :: z2, y2, by go_num, by omega, by omega, HL3, HEnd, ?_, ?_⟩
              · show Row _ _ _ _ _
                have : Row (wq.drewN nq) g N cap _ := HR2.out
                simpa using this
              · exact grown_drewn HG2.out nq
            case measure => simp [intOf]; omega
          · obtain ⟨z0, d, rfl⟩ : ∃ z0 d, z1 = z0 ++ [d] := ⟨z1.dropLast, z1.getLast hz, (List.dropLast_concat_getLast hz).symm⟩
            obtain ⟨jp, rfl⟩ : ∃ jp, j = jp + 1 := ⟨j - 1, by have := HL1.out; simp at this; omega⟩
            have hajp : a ≤ jp := by have := HL1.out; simp at this; omega
            have hja : (a : Int) < (jp : Int) + 1 := by omega
            have hjaz : decide (((jp : Int) + 1) > (a : Int)) = true := decide_eq_true (by omega)
            have hjN : (jp : Int) + 1 < (N : Int) := by omega
            have hjN0 : (jp : Int) < (N : Int) := by omega
            have hz0 : p.length + z0.length = jp := by have h1 := HL1.out; have h2 := HA.out.1; simp at h1; omega
            have elist : p ++ (z0 ++ [d] ++ (e :: (z2 ++ (y2 ++ s)))) = (p ++ z0) ++ d :: e :: (z2 ++ (y2 ++ s)) := by simp
            have hRow : Row wq g N cap ((p ++ z0) ++ d :: e :: (z2 ++ (y2 ++ s))) := by
              have := HR2.out
              rw [elist] at this
              exact this
            have hd : ((p ++ z0) ++ d :: e :: (z2 ++ (y2 ++ s)))[jp]? = some d := by
              rw [← hz0, ← List.length_append]; exact get_mid _ _ _
            have he : ((p ++ z0) ++ d :: e :: (z2 ++ (y2 ++ s)))[jp + 1]? = some e := by
              have := get_mid ((p ++ z0) ++ [d]) (z2 ++ (y2 ++ s)) e
              rw [show ((p ++ z0) ++ [d]).length = jp + 1 by simp; omega] at this
              rw [← this]
              simp
            have hC : ∀ w' : World, Below wq.heap.size wq w' → w'.rangeAt g (jp * 10) (oc d) ∧ w'.rangeAt g ((jp + 1) * 10) (oc e) := fun w' hb => ⟨(hRow.below hb).load hd, (hRow.below hb).load he⟩
            have HCL : Hid (∀ z : WIn (fun w' => Below wq.heap.size wq w'), z.w.rangeAt g (jp * 10) (oc d) ∧ z.w.rangeAt g ((jp + 1) * 10) (oc e)) := fun z => hC z.w z.ok
            have HK : Hid (∀ w' : World, Calls Try.prog 69 #[ov e, ov d] w' fun r w'' => r = .returned (.int .i64 (cmpS e.a d.a)) ∧ Below w'.heap.size w' w'') := fun w' => byAt50 e d w'
            have hcm := cmpS_neg e.a d.a
            have HRow : Hid (Row wq g N cap ((p ++ z0) ++ d :: e :: (z2 ++ (y2 ++ s)))) := hRow
            generalize hrr : cmpS e.a d.a = rr at HK hcm
            have ne : Nonempty (WIn (fun w' => Below wq.heap.size wq w')) := ⟨⟨wq, Below.refl _ _⟩⟩
            clear hrr hC hRow elist
            by_cases hl : LtO e d
            · have hneg : rr < 0 := hcm.2 hl
              have HD2 : Hid (DownS x z0 e (d :: z2) y2) := HD.out.less' hl
              clear hcm
              go_wp2_with fail
              refine wp_region_tree (C := fun w' => ∃ z : WIn (fun w' => Below wq.heap.size wq w'), w' = z.w) (.still 0 (.still 1 (.still 2 (.still 3 (.still 4 (.still 5 (.still 6 (.still 7 (.still 8 (.still 9 (.still 10 (.still 11 (.still 12 (.still 13 (.one 14 (.still 15 (.still 16 .done))))))))))))))))) (by kernel_rfl) (by kernel_rfl) ⟨⟨wq.drew, below_drewn wq 1⟩, rfl⟩ ?_
              iterate 8 (refine tree_still rfl rfl ?_; go_big_quiet_step (fail); refine wpQuiet_nil ?_)
              refine tree_still rfl rfl ?_
              refine quiet_ok1 rfl (fun w' hw' => by obtain ⟨z, rfl⟩ := hw'; exact exec_load26 (q := e) (.tmp 25) rfl rfl (HCL.out z).2) ?_
              go_simp
              iterate 4 (refine tree_still rfl rfl ?_; go_big_quiet_step (fail); refine wpQuiet_nil ?_)
              refine tree_still rfl rfl ?_
              refine quiet_ok1 rfl (fun w' hw' => by obtain ⟨z, rfl⟩ := hw'; exact exec_load26 (q := d) (.tmp 30) rfl rfl (HCL.out z).1) ?_
              go_simp
              refine tree_one rfl rfl ?_
              go_simp
              refine (HK.out _).mono ?_
              rintro r w3 ⟨rfl, hb3⟩
              have HB3 : Hid (Below wq.heap.size wq w3) := bnext (below_drewn wq 1) hb3
              clear hb3
              refine ⟨⟨⟨w3, HB3.out⟩, rfl⟩, ?_⟩
              go_simp
              iterate 2 (refine tree_still rfl rfl ?_; go_big_quiet_step (fail); refine wpQuiet_nil ?_)
              refine tree_done ?_
              clear ne HCL HK
              obtain ⟨wd, hwd⟩ : ∃ wd, wd = w3.drew := ⟨_, rfl⟩
              have HDR : Hid (wd = w3.drew) := hwd
              have R3 : Row wd g N cap ((p ++ z0) ++ d :: e :: (z2 ++ (y2 ++ s))) := by rw [hwd]; exact (HRow.out.below HB3.out).drew
              have G3 : w.grownBy wd (some g) := by rw [hwd]; exact grown_drew (grown_trans HG2.out (below_grown HB3.out) (fun k hk => by cases hk))
              obtain ⟨w1, w2, hw1, hw2, R2, G2, T1, T2⟩ := R3.xchg G3 (i := jp + 1) (j := jp) (by omega) (by omega) e d
              have HW1 : Hid (w1 = wd.setCells g ((jp + 1) * 10) (oc d)) := hw1
              have HW2 : Hid (w2 = w1.setCells g (jp * 10) (oc e)) := hw2
              have HLA : Hid (wd.rangeAt g (jp * 10) (oc d)) := R3.load hd
              have HLB : Hid (wd.rangeAt g ((jp + 1) * 10) (oc e)) := R3.load he
              have HT1 : Hid (wd.there g ((jp + 1) * 10) 10) := T1
              have HT2 : Hid (w1.there g (jp * 10) 10) := T2
              have HREnd : Hid (Row w2 g N cap (p ++ (z0 ++ (e :: (d :: z2 ++ (y2 ++ s)))))) := by
                show Row _ _ _ _ _
                rw [swap_next (p ++ z0) (z2 ++ (y2 ++ s)) d e jp (by simp; omega)] at R2
                simpa using R2
              have HGEnd : Hid (w.grownBy w2 (some g)) := G2
              have HLE : Hid (a + z0.length = jp) := by show _ = _; have := HA.out.1; omega
              have HLE2 : Hid (z0.length + (d :: z2).length = z.length) := by show _ = _; have h1 := HL2.out; rw [List.length_append, List.length_singleton] at h1; rw [List.length_cons]; omega
              clear hwd hw1 hw2 R2 G2 R3 G3 T1 T2 hd he
              go_wp2_with fail
              have ne : Nonempty (WIn (fun _ => True)) := ⟨⟨w3, trivial⟩⟩
              refine wp_region_tree (C := fun w' => ∃ z : WIn (fun _ => True), w' = z.w) (.still 0 (.still 1 (.still 2 (.still 3 (.still 4 (.still 5 (.still 6 (.still 7 (.still 8 (.still 10 (.still 11 (.still 12 (.two 9 (.one 13 (.still 14 (.one 15 (.still 16 (.one 17 .done))))) 13 (.one 9 (.still 14 (.one 15 (.still 16 (.one 17 .done)))))))))))))))))) (by kernel_rfl) (by kernel_rfl) ⟨⟨_, trivial⟩, rfl⟩ ?_
              rw [← HDR.out]
              iterate 12 (refine tree_still rfl rfl ?_; go_big_quiet_step (fail); refine wpQuiet_nil ?_)
              refine tree_two rfl rfl rfl rfl ?_ ?_
              · refine wp_ok (exec_load26 (q := d) (.tmp 45) rfl rfl HLA.out) ?_
                refine ⟨⟨⟨_, trivial⟩, rfl⟩, ?_⟩
                go_simp
                refine tree_one rfl rfl ?_
                refine wp_ok (exec_load26 (q := e) (.tmp 49) rfl rfl HLB.out) ?_
                refine ⟨⟨⟨_, trivial⟩, rfl⟩, ?_⟩
                go_simp
                refine tree_still rfl rfl ?_; go_big_quiet_step (fail); refine wpQuiet_nil ?_
                refine tree_one rfl rfl ?_
                refine wp_skip (exec_store26 (q := d) (.tmp 51) (.tmp 46) rfl rfl rfl HT1.out) ?_
                rw [← HW1.out]
                refine ⟨⟨⟨_, trivial⟩, rfl⟩, ?_⟩
                go_simp
                refine tree_still rfl rfl ?_; go_big_quiet_step (fail); refine wpQuiet_nil ?_
                refine tree_one rfl rfl ?_
                refine wp_skip (exec_store26 (q := e) (.tmp 52) (.tmp 50) rfl rfl rfl HT2.out) ?_
                rw [← HW2.out]
                refine ⟨⟨⟨_, trivial⟩, rfl⟩, ?_⟩
                go_simp
                refine tree_done ?_
                clear ne
                go_wp2
                go_roundw
                case rel => exact ⟨jp, z0, d :: z2, by go_num, hajp, by omega, HLE, HLE2, HD2, HREnd, HGEnd⟩
                case measure => simp [intOf] <;> omega
              · refine wp_ok (exec_load26 (q := e) (.tmp 49) rfl rfl HLB.out) ?_
                refine ⟨⟨⟨_, trivial⟩, rfl⟩, ?_⟩
                go_simp
                refine tree_one rfl rfl ?_
                refine wp_ok (exec_load26 (q := d) (.tmp 45) rfl rfl HLA.out) ?_
                refine ⟨⟨⟨_, trivial⟩, rfl⟩, ?_⟩
                go_simp
                refine tree_still rfl rfl ?_; go_big_quiet_step (fail); refine wpQuiet_nil ?_
                refine tree_one rfl rfl ?_
                refine wp_skip (exec_store26 (q := d) (.tmp 51) (.tmp 46) rfl rfl rfl HT1.out) ?_
                rw [← HW1.out]
                refine ⟨⟨⟨_, trivial⟩, rfl⟩, ?_⟩
                go_simp
                refine tree_still rfl rfl ?_; go_big_quiet_step (fail); refine wpQuiet_nil ?_
                refine tree_one rfl rfl ?_
                refine wp_skip (exec_store26 (q := e) (.tmp 52) (.tmp 50) rfl rfl rfl HT2.out) ?_
                rw [← HW2.out]
                refine ⟨⟨⟨_, trivial⟩, rfl⟩, ?_⟩
                go_simp
                refine tree_done ?_
                clear ne
                go_wp2
                go_roundw
                case rel => exact ⟨jp, z0, d :: z2, by go_num, hajp, by omega, HLE, HLE2, HD2, HREnd, HGEnd⟩
                case measure => simp [intOf] <;> omega
            · have hneg : ¬ rr < 0 := fun h => hl (hcm.1 h)
              have HEnd : Hid (InsS x ((z0 ++ [d]) ++ e :: z2) y2) := HD.out.stop (HD.out.top hl)
              have HL3 : Hid (a + ((z0 ++ [d]) ++ e :: z2 : List OpT).length = i + 1) := by
                show _ = _
                have h1 := HL2.out; have h2 := HL.out
                simp at h1 ⊢
                omega
              clear hcm
              go_wp2_with fail
              refine wp_region_tree (C := fun w' => ∃ z : WIn (fun w' => Below wq.heap.size wq w'), w' = z.w) (.still 0 (.still 1 (.still 2 (.still 3 (.still 4 (.still 5 (.still 6 (.still 7 (.still 8 (.still 9 (.still 10 (.still 11 (.still 12 (.still 13 (.one 14 (.still 15 (.still 16 .done))))))))))))))))) (by kernel_rfl) (by kernel_rfl) ⟨⟨wq.drew, below_drewn wq 1⟩, rfl⟩ ?_
              iterate 8 (refine tree_still rfl rfl ?_; go_big_quiet_step (fail); refine wpQuiet_nil ?_)
              refine tree_still rfl rfl ?_
              refine quiet_ok1 rfl (fun w' hw' => by obtain ⟨z, rfl⟩ := hw'; exact exec_load26 (q := e) (.tmp 25) rfl rfl (HCL.out z).2) ?_
              go_simp
              iterate 4 (refine tree_still rfl rfl ?_; go_big_quiet_step (fail); refine wpQuiet_nil ?_)
              refine tree_still rfl rfl ?_
              refine quiet_ok1 rfl (fun w' hw' => by obtain ⟨z, rfl⟩ := hw'; exact exec_load26 (q := d) (.tmp 30) rfl rfl (HCL.out z).1) ?_
              go_simp
              refine tree_one rfl rfl ?_
              go_simp
              refine (HK.out _).mono ?_
              rintro r w3 ⟨rfl, hb3⟩
              have HB3 : Hid (Below wq.heap.size wq w3) := bnext (below_drewn wq 1) hb3
              clear hb3
              refine ⟨⟨⟨w3, HB3.out⟩, rfl⟩, ?_⟩
              go_simp
              iterate 2 (refine tree_still rfl rfl ?_; go_big_quiet_step (fail); refine wpQuiet_nil ?_)
              refine tree_done ?_
              clear ne HCL HK
              go_wp2
              go_roundw
              case rel =>
                refine ⟨i + 1, (z0 ++ [d]) ++ e :: z2, y2, by go_num, by omega, by omega, HL3, HEnd, ?_, ?_⟩
                · show Row _ _ _ _ _
                  have : Row w3 g N cap _ := HRow.out.below HB3.out
                  simpa using this
                · exact grown_trans HG2.out (below_grown HB3.out) (fun k hk => by cases hk)
              case measure => simp [intOf]; omega
      · obtain rfl : i = b := by omega
        have hlt' : ¬ (i : Int) < (i : Int) := by omega
        have hy : y = [] := by
          have h1 := HI.out.len; have h2 := HL.out; have h3 := HA.out.2
          exact List.eq_nil_of_length_eq_zero (by omega)
        subst hy
        go_wp2
        go_end0
        exact ⟨rfl, z, HI.out, HR1.out, HG1.out⟩
end
end Go.Proofs.Ytjlpdoomchkfgaa
