/-
  The vector of bytes, by the reference.
-/
import Derived.Test.YtdjfedlkfekeoaaReadV
import Derived.Test.YtdjfedlkfekeoaaRefReader2
namespace Go.Proofs.Ytdjfedlkfekeoaa
set_option linter.unusedVariables false
set_option linter.unusedSimpArgs false
open Go.RowKit

theorem refdone_any (w : World) (b : Nat) (l : List Int) (k : Int) (h : Rdr w b l k) :
    Calls Try.prog 50 #[ptr b] w fun e w' => e = .returned (.int .i64 (doneK l k)) ∧ w' = w := by
  obtain ⟨v, hv, hrd⟩ := h.left
  obtain ⟨av, cap, rfl⟩ := hrd.len
  have hw := h.wrong
  have hcap := hrd.cap
  clear h hrd
  by_cases hk : k = 0
  · subst hk
    by_cases hl : 0 < l.length
    · have HD : Hid (doneK l 0 = 4) := by show _ = _; unfold doneK; rw [if_pos ⟨rfl, hl⟩]
      go_enter Try.func50, Try.ntmps50
      go_wp2
      go_ret
      exact ⟨by rw [HD.out]; rfl, rfl⟩
    · have HD : Hid (doneK l 0 = 0) := by show _ = _; unfold doneK; rw [if_neg (fun h => hl h.2)]
      go_enter Try.func50, Try.ntmps50
      go_wp2
      go_ret
      exact ⟨by rw [HD.out]; rfl, rfl⟩
  · have HD : Hid (doneK l k = k) := by show _ = _; unfold doneK; rw [if_neg (fun h => hk h.1)]
    have hk' : (k == 0) = false := by simpa using hk
    go_enter Try.func50, Try.ntmps50
    go_wp2
    go_ret
    exact ⟨by rw [HD.out]; rfl, rfl⟩

/-- The reference's count, as the program's. -/
theorem refcount_any (w : World) (b : Nat) (l : List Int) (k most : Int) (h : Rdr w b l k) (hm : 0 ≤ most ∧ most ≤ 9223372036854775807) :
    Calls Try.prog 61 #[ptr b, .int .i64 most] w fun e w' => e = .returned (.int .i64 (rCount l k most).1) ∧ Rdr w' b (rCount l k most).2.1 (rCount l k most).2.2 ∧ w.grownBy w' (some b) := by
  obtain ⟨q1, q2, q3⟩ := refCount_eq l k most h.gone hm.1
  have := refrcount_any w b l k most h (by omega)
  rwa [q1, q2, q3] at this

set_option maxHeartbeats 2000000 in
set_option maxRecDepth 20000 in
theorem reftake_any (w : World) (b : Nat) (m : List Int) (h : Rdr w b m 0) :
    Calls Try.prog 49 #[ptr b] w fun e w' => ∃ v', e = .returned v' ∧ ∃ j, j ≤ (rCount m 0 8).1.toNat ∧ (j = (rCount m 0 8).1.toNat ∨ (takesTo (rCount m 0 8).2.1 (rCount m 0 8).2.2 j).2.2 ≠ 0) ∧
      OwnH w.heap.size w' v' (takesTo (rCount m 0 8).2.1 (rCount m 0 8).2.2 j).1 ∧ Rdr w' b (takesTo (rCount m 0 8).2.1 (rCount m 0 8).2.2 j).2.1 (takesTo (rCount m 0 8).2.1 (rCount m 0 8).2.2 j).2.2 ∧ w.grownBy w' (some b) := by
  have hrg := rCount_range m 0 8 (by omega)
  have hC := refcount_any w b m 0 8 h (by omega)
  have hblt0 := h.lt
  clear h
  generalize rCount m 0 8 = c at hrg hC
  obtain ⟨n0, L, K⟩ := c
  dsimp only at hrg hC ⊢
  obtain ⟨n, rfl⟩ : ∃ n : Nat, n0 = (n : Int) := ⟨n0.toNat, by omega⟩
  have hn8 : n ≤ 8 := by omega
  rw [Int.toNat_natCast]
  have HS : Hid (∀ j, takesTo L K (j + 1) = ((takesTo L K j).1 ++ [(takeH (takesTo L K j).2.1 (takesTo L K j).2.2).1], (takeH (takesTo L K j).2.1 (takesTo L K j).2.2).2)) := fun j => rfl
  have HL : Hid (∀ j, (takesTo L K j).1.length = j) := takesTo_len L K
  have H0 : Hid (takesTo L K 0 = ([], L, K)) := (rfl : takesTo L K 0 = _)
  clear hrg
  go_enter Try.func49, Try.ntmps49
  go_upto_region 4 with (first
    | (go_at_call 61; refine hC.mono ?_; rintro e w2 ⟨rfl, hr2, hg2⟩))
  have HG2 : Hid (w.grownBy w2 (some b)) := hg2
  have HR2 : Hid (Rdr w2 b L K) := hr2
  clear hr2 hg2 hC
  go_wp2
  go_loopw [4, 5] (fun o i wr => ∃ j : Nat, i = .int .i64 j ∧ j ≤ n ∧ Hid (OwnH w.heap.size wr o (takesTo L K j).1) ∧ Hid (PureRow wr o) ∧ Hid (Rdr wr b (takesTo L K j).2.1 (takesTo L K j).2.2) ∧ Hid (w.grownBy wr (some b))) (fun _ i _ => n - (intOf i).toNat)
  case atStart => exact ⟨0, rfl, by omega, (by show OwnH _ _ _ _; rw [H0.out]; exact ownH_nil _ _), pure_nil _, (by show Rdr _ _ _ _; rw [H0.out]; exact HR2.out), HG2⟩
  case round =>
    obtain ⟨j, rfl, hj, HO, HP, HR, HW⟩ := hrel
    clear HR2 HG2
    obtain ⟨ov, oc, ho⟩ := HO.out.rd.len
    subst ho
    have HLJ : Hid ((takesTo L K j).1.length = j) := HL.out j
    have hcap := HO.out.rd.cap
    have hwr := HR.out.wrong
    by_cases hjn : j < n
    · by_cases hk : (takesTo L K j).2.2 = 0
      · rw [hk] at hwr
        have HE : Hid (takesTo L K (j + 1) = ((takesTo L K j).1 ++ [(takeH (takesTo L K j).2.1 (takesTo L K j).2.2).1], (takeH (takesTo L K j).2.1 (takesTo L K j).2.2).2)) := HS.out j
        clear hk
        have HKK := fun q => takeH_ok (l := (takesTo L K j).2.1) (k := (takesTo L K j).2.2) q
        unfold takeH at HE HKK
        generalize (takesTo L K j).1 = hs at HO HE HLJ hcap HP ⊢
        generalize (takesTo L K j).2.1 = lj at HR HE HKK
        generalize (takesTo L K j).2.2 = kj at HR HE HKK
        have hC1 := fun w' q => refcount_any w' b lj kj 7 q (by omega)
        generalize rCount lj kj 7 = c1 at hC1 HKK HE
        obtain ⟨n1, l1, k1⟩ := c1
        dsimp only at hC1 HKK HE
        have hC2 := fun w' q => refcount_any w' b l1 k1 200 q (by omega)
        generalize rCount l1 k1 200 = c2 at hC2 HKK HE
        obtain ⟨n2, l2, k2⟩ := c2
        dsimp only at hC2 HKK HE
        have hC3 := fun w' q => refrnum_any w' b l2 k2 q
        have HLT : Hid (Oct l2 → (rNum l2 k2).1 < 18446744073709551616) := fun q => rnum_lt l2 k2 q
        generalize rNum l2 k2 = c3 at hC3 HKK HLT HE
        obtain ⟨n3, l3, k3⟩ := c3
        dsimp only at hC3 HKK HLT HE
        have HK4 : Hid _ := HKK
        clear HKK
        have tk : Hid True := trivial
        go_wp2_with (first
          | (go_at_call 61; have _t := tk; refine (hC1 _ HR.out).mono ?_; rintro e w3 ⟨rfl, hr3, hg3⟩
             have HR3 : Hid (Rdr w3 b l1 k1) := hr3
             have HW3 : Hid (w.grownBy w3 (some b)) := grown_trans HW.out hg3 (fun k hk => .inl hk)
             have HO3 : Hid (OwnH w.heap.size w3 _ hs) := HO.out.past hg3 hblt0
             have HP3 : Hid (PureRow w3 _) := HP.out.past HO.out hg3 hblt0
             clear hr3 hg3 tk _t)
          | (go_at_call 61; refine (hC2 _ HR3.out).mono ?_; rintro e w4 ⟨rfl, hr4, hg4⟩
             have HR4 : Hid (Rdr w4 b l2 k2) := hr4
             have HW4 : Hid (w.grownBy w4 (some b)) := grown_trans HW3.out hg4 (fun k hk => .inl hk)
             have HO4 : Hid (OwnH w.heap.size w4 _ hs) := HO3.out.past hg4 hblt0
             have HP4 : Hid (PureRow w4 _) := HP3.out.past HO3.out hg4 hblt0
             clear hr4 hg4)
          | (go_at_call 62; refine (hC3 _ HR4.out).mono ?_; rintro e w5 ⟨rfl, hr5, hg5⟩
             have HR5 : Hid (Rdr w5 b l3 k3) := hr5
             have HW5 : Hid (w.grownBy w5 (some b)) := grown_trans HW4.out hg5 (fun k hk => .inl hk)
             have HO5 : Hid (OwnH w.heap.size w5 _ hs) := HO4.out.past hg5 hblt0
             have HP5 : Hid (PureRow w5 _) := HP4.out.past HO4.out hg5 hblt0
             have HOK : Hid (HOk (n1, n2, (n3 : Int))) := HK4.out (HLT.out HR4.out.oct)
             have hsz5 : w.heap.size ≤ w5.heap.size := HW5.out.size
             clear hr5 hg5)
          | (at_builtin
             obtain ⟨v6, w6, hrun, ho6, hp6, hg6⟩ := run_append_pure 22 Try.underlying22 (w5.alloc (.cells #[.int .i64 n1, .int .i64 n2, .int .u64 (n3 : Int)] 25)) w.heap.size _ hs (n1, n2, (n3 : Int)) w5.heap.size (OwnH.below HO5.out (balloc (Below.refl _ _) _)) (PureRow.below HP5.out HO5.out (balloc (Below.refl _ _) _)) (blk_new w5 [.int .i64 n1, .int .i64 n2, .int .u64 (n3 : Int)] 25) HOK.out (by have := HLJ.out; omega) (by simp; omega)
             go_must (refine wpList_append_at rfl (.tmp 29) (.tmp 34) 22 22 rfl _ _ rfl rfl hrun ?_)
             have HO6 : Hid (OwnH w.heap.size w6 v6 (hs ++ [(n1, n2, (n3 : Int))])) := ho6
             have HP6 : Hid (PureRow w6 v6) := hp6
             have HR6 : Hid (Rdr w6 b l3 k3) := Rdr.pastOwn (HR5.out.kept (World.grownBy_alloc w5 _ none)) (OwnH.below HO5.out (balloc (Below.refl _ _) _)) (PureRow.below HP5.out HO5.out (balloc (Below.refl _ _) _)) hg6 hblt0
             have HW6 : Hid (w.grownBy w6 (some b)) := grown_trans (grown_trans HW5.out (World.grownBy_alloc w5 _ none) (fun k hk => by cases hk)) hg6 (fun k hk => .inr (OwnH.lt (OwnH.below HO5.out (balloc (Below.refl _ _) (.cells #[.int .i64 n1, .int .i64 n2, .int .u64 (n3 : Int)] 25))) k hk).1)
             clear hrun ho6 hp6 hg6))
        go_roundw
        case rel => exact ⟨j + 1, by go_num, by omega, (by show OwnH _ _ _ _; rw [HE.out]; exact HO6.out), HP6, (by show Rdr _ _ _ _; rw [HE.out]; exact HR6.out), HW6⟩
        case measure => simp [intOf]; omega
      · have HKN : Hid ((takesTo L K j).2.2 ≠ 0) := hk
        have hk' : ((takesTo L K j).2.2 == 0) = false := by simpa using hk
        clear hk
        go_wp2
        go_ret
        exact ⟨_, rfl, j, hj, .inr HKN.out, HO.out, HR.out, HW.out⟩
    · obtain rfl : j = n := by omega
      go_wp2
      go_ret
      exact ⟨_, rfl, j, hj, .inl rfl, HO.out, HR.out, HW.out⟩

theorem readV_of {m : List Int} {j : Nat} (hj : j ≤ (rCount m 0 8).1.toNat) (hcase : j = (rCount m 0 8).1.toNat ∨ (takesTo (rCount m 0 8).2.1 (rCount m 0 8).2.2 j).2.2 ≠ 0)
    (hgone : (takesTo (rCount m 0 8).2.1 (rCount m 0 8).2.2 j).2.2 ≠ 0 → (takesTo (rCount m 0 8).2.1 (rCount m 0 8).2.2 j).2.1 = []) : readV m = endV (takesTo (rCount m 0 8).2.1 (rCount m 0 8).2.2 j) := by
  rcases hcase with rfl | hk
  · rfl
  · have h0 := hgone hk
    have hs : (takesTo (rCount m 0 8).2.1 (rCount m 0 8).2.2 j).2 = ([], (takesTo (rCount m 0 8).2.1 (rCount m 0 8).2.2 j).2.2) := Prod.ext h0 rfl
    have h1 := takesTo_stuck hk hs ((rCount m 0 8).1.toNat - j)
    rw [show j + ((rCount m 0 8).1.toNat - j) = (rCount m 0 8).1.toNat by omega] at h1
    rw [endV_stuck hk hs]
    exact endV_stuck hk h1

set_option maxHeartbeats 1000000 in
set_option maxRecDepth 20000 in
theorem refreadV_any (v : Value) (m : List Int) (w : World) (hv0 : Rd w v m) :
    Calls Try.prog 29 #[v] w fun e w' => ∃ v', e = .returned (.tuple #[v', .int .i64 (readV m).2]) ∧ RdH w' v' (readV m).1 ∧ Below w.heap.size w w' := by
  have hT := reftake_any (w.alloc (.cells #[v, .int .i64 0] 76)) w.heap.size m (rdr_new w v m 76 hv0)
  obtain ⟨av, cv, rfl⟩ := hv0.len
  have HD : Hid (∀ j, j ≤ (rCount m 0 8).1.toNat → (j = (rCount m 0 8).1.toNat ∨ (takesTo (rCount m 0 8).2.1 (rCount m 0 8).2.2 j).2.2 ≠ 0) → ((takesTo (rCount m 0 8).2.1 (rCount m 0 8).2.2 j).2.2 ≠ 0 → (takesTo (rCount m 0 8).2.1 (rCount m 0 8).2.2 j).2.1 = []) → readV m = endV (takesTo (rCount m 0 8).2.1 (rCount m 0 8).2.2 j)) := fun j h1 h2 h3 => readV_of h1 h2 h3
  clear hv0
  go_enter Try.func29, Try.ntmps29
  go_upto_region 3 with (first
    | (go_at_call 49; refine hT.mono ?_; rintro e w2 ⟨v2, rfl, j, hj, hcase, ho2, hr2, hg2⟩))
  have HRV : Hid (readV m = endV (takesTo (rCount m 0 8).2.1 (rCount m 0 8).2.2 j)) := HD.out j hj hcase hr2.gone
  have HB2 : Hid (Below w.heap.size w w2) := bgrown (balloc (Below.refl _ _) _) (Nat.le_refl _) hg2
  have HRd : Hid (RdH w2 v2 (takesTo (rCount m 0 8).2.1 (rCount m 0 8).2.2 j).1) := ho2.rd
  have hDn := refdone_any w2 w.heap.size _ _ hr2
  clear HD hj hcase ho2 hg2 hr2 hT
  generalize takesTo (rCount m 0 8).2.1 (rCount m 0 8).2.2 j = s at HRd hDn HRV
  have HEV : Hid (endV s = if doneK s.2.1 s.2.2 = 0 then (if rightB s.1 then (s.1, 0) else ([], 4)) else ([], doneK s.2.1 s.2.2)) := (rfl : endV s = _)
  have HRT : Hid (∀ v w', RdH w' v s.1 → Calls Try.prog 14 #[v] w' fun e w'' => e = .returned (.bool (rightB s.1)) ∧ Below w'.heap.size w' w'') := fun v w' q => refrightV_any v _ w' q
  generalize doneK s.2.1 s.2.2 = d at hDn HEV
  generalize rightB s.1 = rb at HRT HEV
  obtain ⟨a2, c2, hv2⟩ := HRd.out.len
  subst hv2
  by_cases hd : d = 0
  · subst hd
    cases rb with
    | true =>
      have HF : Hid (endV s = (s.1, 0)) := HEV.out
      go_wp2_with (first
        | (go_at_call 50; refine hDn.mono ?_; rintro e w3 ⟨rfl, rfl⟩)
        | (go_at_call 14; refine (HRT.out _ _ HRd.out).mono ?_; rintro e w4 ⟨rfl, hb4⟩))
      go_ret2
      exact ⟨_, by rw [HRV.out, HF.out]; rfl, by rw [HRV.out, HF.out]; exact HRd.out.below hb4, bnext HB2.out hb4⟩
    | false =>
      have HF : Hid (endV s = ([], 4)) := HEV.out
      go_wp2_with (first
        | (go_at_call 50; refine hDn.mono ?_; rintro e w3 ⟨rfl, rfl⟩)
        | (go_at_call 14; refine (HRT.out _ _ HRd.out).mono ?_; rintro e w4 ⟨rfl, hb4⟩))
      go_ret2
      exact ⟨_, by rw [HRV.out, HF.out]; rfl, by rw [HRV.out, HF.out]; exact rdH_nil _, bnext HB2.out hb4⟩
  · have HF : Hid (endV s = ([], d)) := by show _ = _; rw [HEV.out, if_neg hd]
    have hd' : (d != 0) = true := by simpa using hd
    go_wp2_with (first
      | (go_at_call 50; refine hDn.mono ?_; rintro e w3 ⟨rfl, rfl⟩))
    go_ret2
    exact ⟨_, by rw [HRV.out, HF.out]; rfl, by rw [HRV.out, HF.out]; exact rdH_nil _, HB2.out⟩
end Go.Proofs.Ytdjfedlkfekeoaa
