/-
  The vector of bytes, by the program.
-/
import Derived.Test.YtdjfedlkfekeoaaPureRow
import Derived.Test.YtdjfedlkfekeoaaVecBytes
import Derived.Test.YtdjfedlkfekeoaaGet
namespace Go.Proofs.Ytdjfedlkfekeoaa
set_option linter.unusedVariables false
set_option linter.unusedSimpArgs false
open Go.RowKit

theorem stored3 {w w3 : World} {b : Nat} {o : Obj} {u0 u1 u2 : Value} (hlt : b < w.heap.size) (hg : (w.alloc o).grownBy w3 (some b)) : w.grownBy (((w3.setCell ⟨w.heap.size, 0, none⟩ u0).setCell ⟨w.heap.size, 1, none⟩ u1).setCell ⟨w.heap.size, 2, none⟩ u2) (some b) := by
  have h := grown_none (World.grownBy_alloc w o none) hg
  refine grown_trans (grown_trans (grown_trans h (grown_setCell _ _ _ _) (fun k hk => .inr ?_)) (grown_setCell _ _ _ _) (fun k hk => .inr ?_)) (grown_setCell _ _ _ _) (fun k hk => .inr ?_)
  all_goals (have := Option.some.inj hk; omega)

set_option maxHeartbeats 1000000 in
set_option maxRecDepth 20000 in
theorem take_any (w : World) (b : Nat) (l : List Int) (k : Int) (h : Rdr w b l k) :
    Calls Try.prog 47 #[ptr b] w fun e w' => e = .returned (hv (takeH l k).1) ∧ Rdr w' b (takeH l k).2.1 (takeH l k).2.2 ∧ HOk (takeH l k).1 ∧ w.grownBy w' (some b) := by
  have H0 : Hid (Rdr (w.alloc (.cells #[.int .i64 0, .int .i64 0, .int .u64 0] 25)) b l k) := h.kept (World.grownBy_alloc w _ none)
  have hlt := h.lt
  have HK := fun q => takeH_ok (l := l) (k := k) q
  unfold takeH at HK ⊢
  clear h
  have hC1 := fun w' q => rcount_any w' b l k 7 q (by omega)
  generalize rCount l k 7 = c1 at hC1 HK
  obtain ⟨n1, l1, k1⟩ := c1
  dsimp only at hC1 HK ⊢
  have hC2 := fun w' q => rcount_any w' b l1 k1 200 q (by omega)
  generalize rCount l1 k1 200 = c2 at hC2 HK
  obtain ⟨n2, l2, k2⟩ := c2
  dsimp only at hC2 HK ⊢
  have hC3 := fun w' q => rnum_any w' b l2 k2 q
  have HLT : Hid (Oct l2 → (rNum l2 k2).1 < 18446744073709551616) := fun q => rnum_lt l2 k2 q
  generalize rNum l2 k2 = c3 at hC3 HK HLT
  obtain ⟨n3, l3, k3⟩ := c3
  dsimp only at hC3 HK HLT ⊢
  have HKK : Hid _ := HK
  clear HK
  go_enter Try.func47, Try.ntmps47
  have tk : Hid True := trivial
  go_wp2_with (first
    | (go_at_call 46; have _t := tk; refine (hC1 _ H0.out).mono ?_; rintro e w1 ⟨rfl, hr1, hg1⟩; clear tk _t)
    | (go_at_call 46; refine (hC2 _ hr1).mono ?_; rintro e w2 ⟨rfl, hr2, hg2⟩)
    | (go_at_call 58; refine (hC3 _ hr2).mono ?_; rintro e w3 ⟨rfl, hr3, hg3⟩
       have X := (blk_new w [.int .i64 0, .int .i64 0, .int .u64 0] 25).block (hg1.block _ (by simp) (fun e => by have := Option.some.inj e; omega))
       have Y := X.block (hg2.block _ X.lt (fun e => by have := Option.some.inj e; omega))
       have Z := Y.block (hg3.block _ Y.lt (fun e => by have := Option.some.inj e; omega))
       have z0 := Z.cell 0 _ rfl
       have z1 := Z.cell 1 _ rfl
       have z2 := Z.cell 2 _ rfl
       have f0 := Z.frozen 0
       have f1 := Z.frozen 1
       have f2 := Z.frozen 2
       have HZ : Hid (Blk w3 w.heap.size 25 [.int .i64 0, .int .i64 0, .int .u64 0]) := Z
       have HG3 : Hid _ := grown_trans (grown_trans hg1 hg2 (fun k hk => .inl hk)) hg3 (fun k hk => .inl hk)
       have HR3 : Hid (Rdr w3 b l3 k3) := hr3
       have HOK : Hid _ := HKK.out (HLT.out hr2.oct)
       clear X Y Z))
  refine bodyPost_ret (v := hv (n1, n2, (n3 : Int))) ?_ rfl ⟨rfl, ?_, HOK.out, ?_⟩
  · rw [results_cell1 rfl]
    unfold hv
    go_simp
  · have p : ∀ (x y z : Value), noB x = true → noB y = true → noB z = true → ∀ u ∈ [x, y, z], noB u = true := fun x y z h1 h2 h3 u hu => by
      simp at hu
      rcases hu with rfl | rfl | rfl <;> assumption
    have q1 := HR3.out.pastX HZ.out (p _ _ _ rfl rfl rfl) (grown_setCell w3 w.heap.size 0 (.int .i64 n1)) (by omega)
    have Z1 := HZ.out.set 0 (.int .i64 n1)
    have q2 := q1.pastX Z1 (p _ _ _ rfl rfl rfl) (grown_setCell _ w.heap.size 1 (.int .i64 n2)) (by omega)
    exact q2.pastX (Z1.set 1 (.int .i64 n2)) (p _ _ _ rfl rfl rfl) (grown_setCell _ w.heap.size 2 (.int .u64 (n3 : Int))) (by omega)
  · exact stored3 hlt HG3.out

set_option maxHeartbeats 2000000 in
set_option maxRecDepth 20000 in
theorem readV_any (v : Value) (m : List Int) (w : World) (hv0 : Rd w v m) (hl : m.length ≤ 1000000) :
    Calls Try.prog 28 #[v] w fun e w' => ∃ v', e = .returned (.tuple #[v', .int .i64 (readV m).2]) ∧ RdH w' v' (readV m).1 ∧ Below w.heap.size w w' := by
  have hrg := rCount_range m 0 8 (by omega)
  have HD : Hid (readV m = endV (takesTo (rCount m 0 8).2.1 (rCount m 0 8).2.2 (rCount m 0 8).1.toNat)) := (rfl : readV m = _)
  have hC := fun w' b q => rcount_any w' b m 0 8 q (by omega)
  have hR := read_any w v m hv0 (by omega)
  rw [show readV m = _ from HD.out]
  clear HD hv0
  generalize rCount m 0 8 = c at hrg hC
  obtain ⟨n0, L, K⟩ := c
  dsimp only at hrg hC ⊢
  obtain ⟨n, rfl⟩ : ∃ n : Nat, n0 = (n : Int) := ⟨n0.toNat, by omega⟩
  have hn8 : n ≤ 8 := by omega
  rw [Int.toNat_natCast]
  have HS : Hid (∀ j, takesTo L K (j + 1) = ((takesTo L K j).1 ++ [(takeH (takesTo L K j).2.1 (takesTo L K j).2.2).1], (takeH (takesTo L K j).2.1 (takesTo L K j).2.2).2)) := fun j => rfl
  have HL : Hid (∀ j, (takesTo L K j).1.length = j) := takesTo_len L K
  have H0 : Hid (takesTo L K 0 = ([], L, K)) := (rfl : takesTo L K 0 = _)
  clear hrg
  go_enter Try.func28, Try.ntmps28
  go_upto_region 4 with (first
    | (go_at_call 45; refine hR.mono ?_; rintro e w1 ⟨b, rfl, hb, hr1, hg1⟩)
    | (go_at_call 46; refine (hC _ _ hr1).mono ?_; rintro e w2 ⟨rfl, hr2, hg2⟩))
  have HB2 : Hid (Below w.heap.size w w2) := bgrown (grown_below hg1) hb hg2
  have HR2 : Hid (Rdr w2 b L K) := hr2
  clear hr1 hg1 hr2 hg2 hC hR
  go_wp2
  go_loopw [5, 11] (fun o i wr => ∃ j : Nat, i = .int .i64 j ∧ j ≤ n ∧ Hid (OwnH (b + 1) wr o (takesTo L K j).1) ∧ Hid (PureRow wr o) ∧ Hid (Rdr wr b (takesTo L K j).2.1 (takesTo L K j).2.2) ∧ Hid (Below w.heap.size w wr)) (fun _ i _ => n - (intOf i).toNat)
  case atStart => exact ⟨0, rfl, by omega, (by show OwnH _ _ _ _; rw [H0.out]; exact ownH_nil _ _), pure_nil _, (by show Rdr _ _ _ _; rw [H0.out]; exact HR2.out), HB2⟩
  case round =>
    obtain ⟨j, rfl, hj, HO, HP, HR, HW⟩ := hrel
    clear HR2 HB2
    obtain ⟨ov, oc, ho⟩ := HO.out.rd.len
    subst ho
    have HLJ : Hid ((takesTo L K j).1.length = j) := HL.out j
    have hcap := HO.out.rd.cap
    by_cases hjn : j < n
    · have hT := take_any wr b _ _ HR.out
      have HSJ := HS.out j
      have HE : Hid (takesTo L K (j + 1) = ((takesTo L K j).1 ++ [(takeH (takesTo L K j).2.1 (takesTo L K j).2.2).1], (takeH (takesTo L K j).2.1 (takesTo L K j).2.2).2)) := HSJ
      clear HSJ
      generalize takeH (takesTo L K j).2.1 (takesTo L K j).2.2 = t at hT HE
      generalize (takesTo L K j).1 = hs at HO HE HLJ hcap HP ⊢
      obtain ⟨⟨x1, x2, x3⟩, l', k'⟩ := t
      simp only [hv] at hT
      have hblt := HR.out.lt
      go_wp2_with (first
        | (go_at_call 47; go_must (refine hT.mono ?_; rintro e w3 ⟨rfl, hr3, hok3, hg3⟩)
           go_must (have HR3 : Hid (Rdr w3 b l' k') := hr3)
           go_must (have HB3 : Hid (Below w.heap.size w w3) := bgrown HW.out hb hg3)
           go_must (have HO3 : Hid (OwnH (b + 1) w3 _ hs) := HO.out.past hg3 (by omega))
           go_must (have HP3 : Hid (PureRow w3 _) := HP.out.past HO.out hg3 (by omega))
           have HK3 : Hid (HOk (x1, x2, x3)) := hok3
           have hblt3 : b < w3.heap.size := hr3.lt
           clear hr3 hok3 hg3)
        | (at_builtin
           obtain ⟨v4, w4, hrun, ho4, hp4, hg4⟩ := run_append_pure 28 Try.underlying28 (w3.alloc (.cells #[.int .i64 x1, .int .i64 x2, .int .u64 x3] 25)) (b + 1) _ hs (x1, x2, x3) w3.heap.size (OwnH.below HO3.out (balloc (Below.refl _ _) _)) (PureRow.below HP3.out HO3.out (balloc (Below.refl _ _) _)) (blk_new w3 [.int .i64 x1, .int .i64 x2, .int .u64 x3] 25) HK3.out (by have := HLJ.out; omega) (by simp; omega)
           go_must (refine wpList_append_at rfl (.tmp 13) (.tmp 16) 28 28 rfl _ _ rfl rfl hrun ?_)
           have HO4 : Hid (OwnH (b + 1) w4 v4 (hs ++ [(x1, x2, x3)])) := ho4
           have HP4 : Hid (PureRow w4 v4) := hp4
           have HR4 : Hid (Rdr w4 b l' k') := Rdr.pastOwn (HR3.out.kept (World.grownBy_alloc w3 _ none)) (OwnH.below HO3.out (balloc (Below.refl _ _) _)) (PureRow.below HP3.out HO3.out (balloc (Below.refl _ _) _)) hg4 (by omega)
           have HB4 : Hid (Below w.heap.size w w4) := (balloc HB3.out _).grown hg4 (by have := HB3.out.size; simp; omega) (fun k hk => by have := (OwnH.lt (OwnH.below HO3.out (balloc (Below.refl _ _) (.cells #[.int .i64 x1, .int .i64 x2, .int .u64 x3] 25))) k hk).1; omega)
           clear hrun ho4 hp4 hg4))
      go_roundw
      case rel => exact ⟨j + 1, by go_num, by omega, (by show OwnH _ _ _ _; rw [HE.out]; exact HO4.out), HP4, (by show Rdr _ _ _ _; rw [HE.out]; exact HR4.out), HB4⟩
      case measure => simp [intOf]; omega
    · obtain rfl : j = n := by omega
      have HEV : Hid (endV (takesTo L K j) = if doneK (takesTo L K j).2.1 (takesTo L K j).2.2 = 0 then (if rightB (takesTo L K j).1 then ((takesTo L K j).1, 0) else ([], 4)) else ([], doneK (takesTo L K j).2.1 (takesTo L K j).2.2)) := (rfl : endV (takesTo L K j) = _)
      have hDn := done_any wr b _ _ HR.out
      have HRT : Hid (∀ v w', RdH w' v (takesTo L K j).1 → Calls Try.prog 13 #[v] w' fun e w'' => e = .returned (.bool (rightB (takesTo L K j).1)) ∧ Below w'.heap.size w' w'') := fun v w' q => rightV_any v _ w' q
      generalize doneK (takesTo L K j).2.1 (takesTo L K j).2.2 = d at hDn HEV
      generalize rightB (takesTo L K j).1 = rb at HRT HEV
      by_cases hd : d = 0
      · subst hd
        cases rb with
        | true =>
          have HF : Hid (endV (takesTo L K j) = ((takesTo L K j).1, 0)) := HEV.out
          go_wp2_with (first
            | (go_at_call 48; refine hDn.mono ?_; rintro e w3 ⟨rfl, rfl⟩)
            | (go_at_call 13; refine (HRT.out _ _ HO.out.rd).mono ?_; rintro e w4 ⟨rfl, hb4⟩))
          go_ret2
          exact ⟨_, by rw [HF.out]; rfl, by rw [HF.out]; exact HO.out.rd.below hb4, bnext HW.out hb4⟩
        | false =>
          have HF : Hid (endV (takesTo L K j) = ([], 4)) := HEV.out
          go_wp2_with (first
            | (go_at_call 48; refine hDn.mono ?_; rintro e w3 ⟨rfl, rfl⟩)
            | (go_at_call 13; refine (HRT.out _ _ HO.out.rd).mono ?_; rintro e w4 ⟨rfl, hb4⟩))
          go_ret2
          exact ⟨_, by rw [HF.out]; rfl, by rw [HF.out]; exact rdH_nil _, bnext HW.out hb4⟩
      · have HF : Hid (endV (takesTo L K j) = ([], d)) := by show _ = _; rw [HEV.out, if_neg hd]
        have hd' : (d != 0) = true := by simpa using hd
        go_wp2_with (first
          | (go_at_call 48; refine hDn.mono ?_; rintro e w3 ⟨rfl, rfl⟩))
        go_ret2
        exact ⟨_, by rw [HF.out]; rfl, by rw [HF.out]; exact rdH_nil _, HW.out⟩
end Go.Proofs.Ytdjfedlkfekeoaa
