/-
  The reference's Sort.
-/
import Derived.Test.YtmifionpagpnfaaRefS
namespace Go.Proofs.Ytmifionpagpnfaa
set_option linter.unusedVariables false
open Go.RowKit

set_option maxHeartbeats 4000000 in
set_option maxRecDepth 20000 in
theorem refsort_any (v : Value) (l : List S) (w : World) (hv : RdS w v l) (hl : l.length ≤ 1000) :
    Calls Try.prog 20 #[v] w fun e w' => ∃ v', e = .returned v' ∧ OwnS w.heap.size w' v' (sortS l) ∧ Below w.heap.size w w' := by
  obtain ⟨av, cv, rfl⟩ := hv.len
  have HV : Hid (RdS w (.slice av l.length cv) l) := hv
  have hcapv := hv.cap
  clear hv
  go_enter Try.func20, Try.ntmps20
  go_wp2
  go_loopw [3, 4] (fun vo i wr => ∃ (j : Nat) (O : List S), i = .int .i64 (j : Int) ∧ j ≤ l.length ∧ O.length ≤ j ∧ Hid (Rises O) ∧ Hid (∀ s, s ∈ O ↔ s ∈ l.take j) ∧ Hid (OwnS w.heap.size wr vo O) ∧ Hid (Below w.heap.size w wr)) (fun _ i _ => l.length - (intOf i).toNat)
  case atStart => exact ⟨0, [], rfl, by omega, by simp, List.Pairwise.nil, fun s => by simp, ownS_nil _ _, Below.refl _ _⟩
  case round =>
    obtain ⟨j, O, rfl, hj, hOj, HRI, HME, HOW, HB⟩ := hrel
    obtain ⟨ao, co, hvo⟩ := HOW.out.rd.len
    subst hvo
    have hcapo := HOW.out.rd.cap
    by_cases hjl : j < l.length
    · obtain ⟨bv, ov, rfl, _, _⟩ := HV.out.at HB.out j hjl
      have hlc : ∀ w', Below wr.heap.size wr w' → w'.cell? ⟨bv, ov + j * 2, none⟩ = some (.int .i64 (l.getD j (0, 0)).1) ∧ w'.cell? ⟨bv, ov + j * 2 + 1, none⟩ = some (.int .i64 (l.getD j (0, 0)).2) := fun w' h => by
        obtain ⟨b1, o1, e1, h1, h2⟩ := HV.out.at (bnext HB.out h) j hjl
        cases e1
        exact ⟨h1, h2⟩
      have HOK : Hid (SOk (l.getD j (0, 0))) := HV.out.ok j hjl
      have HTK : Hid (l.take (j + 1) = l.take j ++ [l.getD j (0, 0)]) := take_more hjl
      generalize l.getD j (0, 0) = x at hlc HOK HTK
      obtain ⟨x1, x2⟩ := x
      dsimp only at hlc
      have HLC : Hid (∀ w', Below wr.heap.size wr w' → w'.cell? ⟨bv, ov + j * 2, none⟩ = some (.int .i64 x1) ∧ w'.cell? ⟨bv, ov + j * 2 + 1, none⟩ = some (.int .i64 x2)) := hlc
      clear hlc
      obtain ⟨w2, hw2⟩ : ∃ w2, w2 = wr := ⟨_, rfl⟩
      subst hw2
      go_wp2
      go_loopw [5] (fun k wr => ∃ q : Nat, k = .int .i64 (q : Int) ∧ q ≤ O.length ∧ Hid (∀ i, i < q → i < O.length → ltP (O.getD i (0, 0)) (x1, x2)) ∧ Hid (Below w2.heap.size w2 wr)) (fun k _ => O.length - (intOf k).toNat)
      case atStart => exact ⟨0, rfl, by omega, fun i h => by omega, Below.refl _ _⟩
      case round =>
        obtain ⟨q, rfl, hq, HLO, HB3⟩ := hrel
        obtain ⟨T1, hT1⟩ : ∃ T1, T1 = O.take q := ⟨_, rfl⟩
        obtain ⟨T2, hT2⟩ : ∃ T2, T2 = O.drop q := ⟨_, rfl⟩
        have HT1 : Hid (T1 = O.take q) := hT1
        have HT2 : Hid (T2 = O.drop q) := hT2
        have HIN : Hid (T1 ++ [(x1, x2)] ++ T2 = insAt O q (x1, x2)) := by show _ = _; rw [hT1, hT2]; rfl
        have HMX : Hid (∀ s, s ∈ T1 ++ [(x1, x2)] ++ T2 ↔ s ∈ l.take (j + 1)) := fun s => by
          rw [HIN.out, ins_mem, HTK.out, List.mem_append, HME.out s, List.mem_singleton]
        have hlenx : T1.length + 1 + T2.length ≤ j + 1 := by
          have h1 := ins_len O q (x1, x2) hq
          have h2 := congrArg List.length HIN.out
          simp only [List.length_append, List.length_cons, List.length_nil] at h2
          omega
        clear hT1 hT2
        by_cases hqo : q < O.length
        case' pos =>
          obtain ⟨bo, oo, rfl, _, _⟩ := HOW.out.rd.at HB3.out q hqo
          have hoc : ∀ w', Below w2.heap.size w2 w' → w'.cell? ⟨bo, oo + q * 2, none⟩ = some (.int .i64 (O.getD q (0, 0)).1) ∧ w'.cell? ⟨bo, oo + q * 2 + 1, none⟩ = some (.int .i64 (O.getD q (0, 0)).2) := fun w' h => by
            obtain ⟨b1, o1, e1, h1, h2⟩ := HOW.out.rd.at h q hqo
            cases e1
            exact ⟨h1, h2⟩
          have HYM : Hid (O.getD q (0, 0) ∈ O) := by
            show _ ∈ _
            rw [List.getD_eq_getElem?_getD, List.getElem?_eq_getElem hqo]
            exact List.getElem_mem hqo
          generalize hy : O.getD q (0, 0) = y at hoc HYM
          have HY : Hid (O.getD q (0, 0) = y) := hy
          obtain ⟨y1, y2⟩ := y
          dsimp only at hoc
          have HOC : Hid (∀ w', Below w2.heap.size w2 w' → w'.cell? ⟨bo, oo + q * 2, none⟩ = some (.int .i64 y1) ∧ w'.cell? ⟨bo, oo + q * 2 + 1, none⟩ = some (.int .i64 y2)) := hoc
          have hL := fun w' => refless_any (y1, y2) (x1, x2) w'
          have HDL : Hid (ltP (y1, y2) (x1, x2) ∨ ¬ ltP (y1, y2) (x1, x2)) := Decidable.em _
          obtain ⟨db, hdb⟩ : ∃ db, db = decide (ltP (y1, y2) (x1, x2)) := ⟨_, rfl⟩
          have HDB : Hid (db = decide (ltP (y1, y2) (x1, x2))) := hdb
          simp only [sv, ← hdb] at hL
          clear hoc hy hdb
          go_upto_region 6 with fail
          have hg1 : (q : Int) < (O.length : Int) := by omega
          have q0 := fun z : WIn (fun w' => Below wr.heap.size wr w') => (HOC.out z.w (bnext HB3.out z.ok)).1
          have q1 := fun z : WIn (fun w' => Below wr.heap.size wr w') => (HOC.out z.w (bnext HB3.out z.ok)).2
          have q2 := fun z : WIn (fun w' => Below wr.heap.size wr w') => (HLC.out z.w (bnext HB3.out z.ok)).1
          have q3 := fun z : WIn (fun w' => Below wr.heap.size wr w') => (HLC.out z.w (bnext HB3.out z.ok)).2
          have ne : Nonempty (WIn (fun w' => Below wr.heap.size wr w')) := ⟨⟨wr, Below.refl _ _⟩⟩
          refine wp_region_ord (C := fun w' => ∃ z : WIn (fun w' => Below wr.heap.size wr w'), w' = z.w) [(false, 0), (false, 1), (false, 2), (false, 3), (false, 4), (false, 5), (false, 6), (false, 7), (false, 8), (false, 9), (false, 10), (false, 11), (false, 12), (true, 13), (false, 14)] (by kernel_rfl) (by kernel_rfl) ⟨⟨wr.drew, (Below.refl _ _).drew⟩, rfl⟩ ?_
          iterate 13 (refine ord_still rfl rfl ?_; go_big_quiet_step (fail); refine wpQuiet_nil ?_)
          refine ord_mem rfl rfl ?_
          go_simp
          refine (hL _).mono ?_
          rintro e w4 ⟨rfl, hb4⟩
          have HB4 : Hid (Below w2.heap.size w2 w4) := bnext HB3.out (below_undrew hb4)
          have HB34 : Hid (Below wr.heap.size wr w4) := below_undrew hb4
          clear hb4 hL
          refine ⟨⟨⟨w4, HB34.out⟩, rfl⟩, ?_⟩
          iterate 1 (refine ord_still rfl rfl ?_; go_big_quiet_step (fail); refine wpQuiet_nil ?_)
          refine ord_end ?_
          clear q0 q1 q2 q3 ne
          by_cases hlt : ltP (y1, y2) (x1, x2)
          case' pos =>
            obtain rfl : db = true := by rw [HDB.out, decide_eq_true hlt]
            have HL2 : Hid (∀ i, i < q + 1 → i < O.length → ltP (O.getD i (0, 0)) (x1, x2)) := fun i h1 h2 => by
              by_cases e : i = q
              · rw [e, HY.out]; exact hlt
              · exact HLO.out i (by omega) h2
            clear hlt HDB HDL
            go_wp2
            go_roundw
            case rel => exact ⟨q + 1, by go_num, by omega, HL2, HB4⟩
            case measure => simp [intOf]; omega
          case' neg =>
            obtain rfl : db = false := by rw [HDB.out, decide_eq_false hlt]
            have e0 := (HOC.out w4 HB4.out).1
            have e1 := (HOC.out w4 HB4.out).2
            have d0 := (HLC.out w4 HB4.out).1
            have d1 := (HLC.out w4 HB4.out).2
            have hk : ((q : Int) == (O.length : Int)) = false := by simp; omega
            go_upto_region 8 with fail
            rcases pair_cases (y1, y2) (x1, x2) with he | he | ⟨he, he2⟩
            case' inl =>
              have HM2 : Hid (∀ s, s ∈ O ↔ s ∈ l.take (j + 1)) := fun s => by
                rw [HTK.out, List.mem_append, ← HME.out s, List.mem_singleton]
                constructor
                · exact .inl
                · rintro (h | h)
                  · exact h
                  · rw [h, ← he]; exact HYM.out
              obtain ⟨rfl, rfl⟩ : y1 = x1 ∧ y2 = x2 := by simpa using he
              clear hlt HDB HDL he
              go_quiet (fail)
              go_wp2
              go_roundw
              case rel => exact ⟨j + 1, O, by go_num, by omega, by omega, HRI, HM2, HOW.out.below (bnext HB4.out ⟨rfl, rfl, rfl, Nat.le_refl _, fun _ _ => rfl⟩), bnext HB.out (bnext HB4.out ⟨rfl, rfl, rfl, Nat.le_refl _, fun _ _ => rfl⟩)⟩
              case measure => simp [intOf]; omega
            all_goals
              dsimp only at he
              have hne : ¬ (y1, y2) = (x1, x2) := fun e => by
                simp only [Prod.mk.injEq] at e
                simp_all
              have hup : ltP (x1, x2) (y1, y2) := by
                by_cases h : ltP (x1, x2) (y1, y2)
                · exact h
                · exact absurd (ltP_total hlt h) hne
              have HRX : Hid (Rises (T1 ++ [(x1, x2)] ++ T2)) := by show Rises _; rw [HIN.out]; exact ins_rises HRI.out HLO.out (fun _ => by rw [HY.out]; exact hup)
              clear hne hup hlt HDB HDL HLO HY HYM HOC
              try (have he' := he.symm; subst he')
              go_quiet (fail)
              go_upto_region 9 with fail
              obtain ⟨wz, hwz⟩ : ∃ wz, wz = w4.drewN nq := ⟨_, rfl⟩
              have HBZ : Hid (Below w2.heap.size w2 wz) := by show Below _ _ _; rw [hwz]; exact bnext HB4.out ⟨rfl, rfl, rfl, Nat.le_refl _, fun _ _ => rfl⟩
              rw [← hwz]
              have HVH : Hid (∀ w', Below w2.heap.size w2 w' → RdS w' (.slice (some ⟨bo, oo, none⟩) q co) T1) := fun w' h => by rw [HT1.out]; exact rdS_head (HOW.out.rd.below h) hq
              have HVT : Hid (∀ w', Below w2.heap.size w2 w' → RdS w' (.slice (some ⟨bo, oo + q * 2, none⟩) (O.length - q) (co - q)) T2) := fun w' h => by rw [HT2.out]; exact rdS_cut (HOW.out.rd.below h) hq
              clear hwz e0 e1 d0 d1 HB4 HB34 hk hg1
        case' neg =>
          have hqe : q = O.length := by omega
          have HRX : Hid (Rises (T1 ++ [(x1, x2)] ++ T2)) := by show Rises _; rw [HIN.out]; exact ins_rises HRI.out HLO.out (fun h => by omega)
          have HE1 : Hid (T1 = O) := by show _ = _; rw [HT1.out, hqe, List.take_length]
          have HE2 : Hid (T2 = []) := by show _ = _; rw [HT2.out, hqe, List.drop_length]
          have hgd : decide ((q : Int) < (O.length : Int)) = false := by simp; omega
          have hkk : ((q : Int) == (O.length : Int)) = true := by simp; omega
          have HQE : Hid (q = O.length) := hqe
          clear HLO hqe
          go_upto_region 6 with fail
          go_quiet (fail)
          obtain ⟨wy, hwy⟩ : ∃ wy, wy = wr.drewN nq := ⟨_, rfl⟩
          have HBY : Hid (Below w2.heap.size w2 wy) := by show Below _ _ _; rw [hwy]; exact bnext HB3.out ⟨rfl, rfl, rfl, Nat.le_refl _, fun _ _ => rfl⟩
          rw [← hwy]
          clear hwy hgd
          go_upto_region 8 with fail
          go_quiet (fail)
          obtain ⟨wz, hwz⟩ : ∃ wz, wz = wy.drewN nq := ⟨_, rfl⟩
          have HBZ : Hid (Below w2.heap.size w2 wz) := by show Below _ _ _; rw [hwz]; exact bnext HBY.out ⟨rfl, rfl, rfl, Nat.le_refl _, fun _ _ => rfl⟩
          rw [← hwz]
          clear hwz hkk HBY
          go_upto_region 9 with fail
          by_cases hao : ao = none
          case' pos =>
            subst hao
            have hc0 : co = 0 := by
              obtain ⟨_, a', c', e, _, _, h3, _⟩ := HOW.out.rd
              obtain ⟨rfl, rfl⟩ : none = a' ∧ co = c' := by simpa using e
              exact h3 rfl
            have hO0 : O = [] := List.eq_nil_of_length_eq_zero (by omega)
            have hq0 : q = 0 := by have := HQE.out; rw [hO0] at this; simpa using this
            subst hc0 hO0 hq0
            have HVH : Hid (∀ w', Below w2.heap.size w2 w' → RdS w' (.slice none 0 0) T1) := fun w' h => by rw [HE1.out]; exact rdS_none w' none
            have HVT : Hid (∀ w', Below w2.heap.size w2 w' → RdS w' (.slice none 0 0) T2) := fun w' h => by rw [HE2.out]; exact rdS_none w' none
          case' neg =>
            obtain ⟨ad, rfl⟩ := Option.ne_none_iff_exists'.1 hao
            clear hao
            obtain ⟨g, rfl⟩ : ∃ g, ad = ⟨g, 0, none⟩ := by
              rcases HOW.out.2.2 with ⟨h, _⟩ | ⟨g, cap, cur, h, _⟩
              · cases h
              · cases h; exact ⟨g, rfl⟩
            have HVH : Hid (∀ w', Below w2.heap.size w2 w' → RdS w' (.slice (some ⟨g, 0, none⟩) q co) T1) := fun w' h => by rw [HT1.out]; exact rdS_head (HOW.out.rd.below h) hq
            by_cases hcq : co = q
            case' pos =>
              subst hcq
              have HVT : Hid (∀ w', Below w2.heap.size w2 w' → RdS w' (.slice (some ⟨g, 0, none⟩) 0 0) T2) := fun w' h => by rw [HE2.out]; exact rdS_none w' _
            case' neg =>
              have HVT : Hid (∀ w', Below w2.heap.size w2 w' → RdS w' (.slice (some ⟨g, q * 2, none⟩) (O.length - q) (co - q)) T2) := fun w' h => by
                have := rdS_cut (HOW.out.rd.below h) hq
                rw [Nat.zero_add] at this
                rw [HT2.out]
                exact this
        all_goals
          have p0 := fun z : WIn (fun w' => Below wz.heap.size wz w') => (HLC.out z.w (bnext HBZ.out z.ok)).1
          have p1 := fun z : WIn (fun w' => Below wz.heap.size wz w') => (HLC.out z.w (bnext HBZ.out z.ok)).2
          have ne : Nonempty (WIn (fun w' => Below wz.heap.size wz w')) := ⟨⟨wz, Below.refl _ _⟩⟩
          refine wp_region_tree (C := fun w' => ∃ z : WIn (fun w' => Below wz.heap.size wz w'), w' = z.w)
            (.still 1 (.still 2 (.still 3 (.still 5 (.still 6 (.still 7 (.still 8 (.still 11 (.still 12 (.still 13 (.two 0 (.two 4 (.one 9 (.one 10 (.one 14 (.still 15 .done)))) 9 (.one 4 (.one 10 (.one 14 (.still 15 .done))))) 9 (.one 0 (.one 4 (.one 10 (.one 14 (.still 15 .done))))))))))))))))
            (by kernel_rfl) (by kernel_rfl) ⟨⟨wz.drew, (Below.refl _ _).drew⟩, rfl⟩ ?_
          iterate 10 (refine tree_still rfl rfl ?_; go_big_quiet_step (fail); refine wpQuiet_nil ?_)
          refine tree_two rfl rfl rfl rfl ?_ ?_
          · go_simp
            refine ⟨⟨⟨_, (balloc (Below.refl _ _) _).drew⟩, rfl⟩, ?_⟩
            refine tree_two rfl rfl rfl rfl ?_ ?_
            · refine wp_of_list rfl ?_
              refine wpList_append_stamps rfl (.tmp 44) (.tmp 47) rfl wz.heap.size _ [] rfl (OwnS.below (own_empty wz) (Below.refl _ _).drew) _ T1 rfl (HVH.out _ (bnext HBZ.out (balloc (Below.refl _ _) _).drew)) (by simp; omega) (by simp) ?_
              intro v4 wa hown4 hg4
              have HOW4 : Hid (OwnS wz.heap.size wa v4 T1) := hown4
              have HB4' : Hid (Below wz.heap.size wz wa) := (balloc (Below.refl _ _) _).drew.grown hg4 (by simp) (fun k hk => by have := Option.some.inj hk; simp at this; omega)
              clear hown4 hg4
              refine ⟨rfl, ⟨⟨wa, HB4'.out⟩, rfl⟩, ?_⟩
              go_simp
              refine tree_one rfl rfl ?_
              go_simp
              have HBA : Hid (Below wz.heap.size wz (wa.alloc (.cells #[.int .i64 x1, .int .i64 x2] 23))) := balloc HB4'.out _
              have HOA : Hid (OwnS wz.heap.size (wa.alloc (.cells #[.int .i64 x1, .int .i64 x2] 23)) v4 T1) := HOW4.out.below (balloc (Below.refl _ _) _)
              have HXA : Hid (RdS (wa.alloc (.cells #[.int .i64 x1, .int .i64 x2] 23)) (.slice (some ⟨wa.heap.size, 0, none⟩) 1 1) [(x1, x2)]) := rdS_one wa (x1, x2) HOK.out
              refine ⟨⟨⟨_, HBA.out⟩, rfl⟩, ?_⟩
              refine tree_one rfl rfl ?_
              refine wp_of_list rfl ?_
              refine wpList_append_stamps rfl (.tmp 48) (.tmp 53) rfl wz.heap.size v4 T1 rfl HOA.out _ [(x1, x2)] rfl HXA.out (by simp; omega) HBA.out.size ?_
              intro v5 w5 hown5 hg5
              have HO5 : Hid (OwnS wz.heap.size w5 v5 (T1 ++ [(x1, x2)])) := hown5
              have HB5 : Hid (Below wz.heap.size wz w5) := HBA.out.grown hg5 HBA.out.size (fun k hk => (HOA.out.lt k hk).1)
              clear hown5 hg5
              refine ⟨rfl, ⟨⟨w5, HB5.out⟩, rfl⟩, ?_⟩
              go_simp
              refine tree_one rfl rfl ?_
              refine wp_of_list rfl ?_
              refine wpList_append_stamps rfl (.tmp 54) (.tmp 57) rfl wz.heap.size v5 (T1 ++ [(x1, x2)]) rfl HO5.out _ T2 rfl (HVT.out _ (bnext HBZ.out HB5.out)) (by simp; omega) HB5.out.size ?_
              intro v6 w6 hown6 hg6
              have HO6 : Hid (OwnS wz.heap.size w6 v6 (T1 ++ [(x1, x2)] ++ T2)) := hown6
              have HB6 : Hid (Below wz.heap.size wz w6) := HB5.out.grown hg6 HB5.out.size (fun k hk => (HO5.out.lt k hk).1)
              clear hown6 hg6
              refine ⟨rfl, ⟨⟨w6, HB6.out⟩, rfl⟩, ?_⟩
              go_simp
              refine tree_still rfl rfl ?_
              go_big_quiet_step (fail)
              refine wpQuiet_nil ?_
              refine tree_done ?_
              clear p0 p1 ne
              go_wp2
              go_roundw
              case rel => exact ⟨j + 1, T1 ++ [(x1, x2)] ++ T2, by go_num, by omega, by simp; omega, HRX, HMX, HO6.out.lower (Nat.le_trans HB.out.size HBZ.out.size), bnext HB.out (bnext HBZ.out HB6.out)⟩
              case measure => simp [intOf]; omega
            · go_simp
              refine ⟨⟨⟨_, (balloc (balloc (Below.refl _ _) _) _).drew⟩, rfl⟩, ?_⟩
              refine tree_one rfl rfl ?_
              refine wp_of_list rfl ?_
              refine wpList_append_stamps rfl (.tmp 44) (.tmp 47) rfl wz.heap.size _ [] rfl (OwnS.below (own_empty wz) (balloc (Below.refl _ _) _).drew) _ T1 rfl (HVH.out _ (bnext HBZ.out (balloc (balloc (Below.refl _ _) _) _).drew)) (by simp; omega) (by simp; omega) ?_
              intro v4 wa hown4 hg4
              have HOA : Hid (OwnS wz.heap.size wa v4 T1) := hown4
              have HBA : Hid (Below wz.heap.size wz wa) := (balloc (balloc (Below.refl _ _) _) _).drew.grown hg4 (by simp; omega) (fun k hk => by have := Option.some.inj hk; simp at this; omega)
              have HXA : Hid (RdS wa (.slice (some ⟨wz.heap.size + 1, 0, none⟩) 1 1) [(x1, x2)]) := by
                have h1 := rdS_one (wz.alloc (.cells #[] 23)) (x1, x2) HOK.out
                have h2 := (h1.below (Below.refl _ _).drew).kept hg4 (fun k hk h2 => by have h3 : wz.heap.size = k := Option.some.inj hk; have h4 : (wz.alloc (.cells #[] 23)).heap.size = k := Option.some.inj h2; simp at h4; omega)
                have h5 : RdS wa (.slice (some ⟨wz.heap.size + 1, 0, none⟩) 1 1) [(x1, x2)] := by simpa using h2
                exact h5
              clear hown4 hg4
              refine ⟨rfl, ⟨⟨wa, HBA.out⟩, rfl⟩, ?_⟩
              go_simp
              refine tree_one rfl rfl ?_
              refine wp_of_list rfl ?_
              refine wpList_append_stamps rfl (.tmp 48) (.tmp 53) rfl wz.heap.size v4 T1 rfl HOA.out _ [(x1, x2)] rfl HXA.out (by simp; omega) HBA.out.size ?_
              intro v5 w5 hown5 hg5
              have HO5 : Hid (OwnS wz.heap.size w5 v5 (T1 ++ [(x1, x2)])) := hown5
              have HB5 : Hid (Below wz.heap.size wz w5) := HBA.out.grown hg5 HBA.out.size (fun k hk => (HOA.out.lt k hk).1)
              clear hown5 hg5
              refine ⟨rfl, ⟨⟨w5, HB5.out⟩, rfl⟩, ?_⟩
              go_simp
              refine tree_one rfl rfl ?_
              refine wp_of_list rfl ?_
              refine wpList_append_stamps rfl (.tmp 54) (.tmp 57) rfl wz.heap.size v5 (T1 ++ [(x1, x2)]) rfl HO5.out _ T2 rfl (HVT.out _ (bnext HBZ.out HB5.out)) (by simp; omega) HB5.out.size ?_
              intro v6 w6 hown6 hg6
              have HO6 : Hid (OwnS wz.heap.size w6 v6 (T1 ++ [(x1, x2)] ++ T2)) := hown6
              have HB6 : Hid (Below wz.heap.size wz w6) := HB5.out.grown hg6 HB5.out.size (fun k hk => (HO5.out.lt k hk).1)
              clear hown6 hg6
              refine ⟨rfl, ⟨⟨w6, HB6.out⟩, rfl⟩, ?_⟩
              go_simp
              refine tree_still rfl rfl ?_
              go_big_quiet_step (fail)
              refine wpQuiet_nil ?_
              refine tree_done ?_
              clear p0 p1 ne
              go_wp2
              go_roundw
              case rel => exact ⟨j + 1, T1 ++ [(x1, x2)] ++ T2, by go_num, by omega, by simp; omega, HRX, HMX, HO6.out.lower (Nat.le_trans HB.out.size HBZ.out.size), bnext HB.out (bnext HBZ.out HB6.out)⟩
              case measure => simp [intOf]; omega
          · go_simp
            refine ⟨⟨⟨_, (balloc (Below.refl _ _) _).drew⟩, rfl⟩, ?_⟩
            refine tree_one rfl rfl ?_
            go_simp
            refine ⟨⟨⟨_, (balloc (balloc (Below.refl _ _) _) _).drew⟩, rfl⟩, ?_⟩
            refine tree_one rfl rfl ?_
            refine wp_of_list rfl ?_
            have hoe : OwnS wz.heap.size ((wz.alloc (.cells #[.int .i64 x1, .int .i64 x2] 23)).alloc (.cells #[] 23)).drew (.slice (some ⟨wz.heap.size + 1, 0, none⟩) 0 0) [] := by
              have h1 := (own_empty (wz.alloc (.cells #[.int .i64 x1, .int .i64 x2] 23))).lower (B' := wz.heap.size) (by simp)
              have h2 := h1.below (Below.refl _ _).drew
              simpa using h2
            refine wpList_append_stamps rfl (.tmp 44) (.tmp 47) rfl wz.heap.size _ [] rfl hoe _ T1 rfl (HVH.out _ (bnext HBZ.out (balloc (balloc (Below.refl _ _) _) _).drew)) (by simp; omega) (by simp; omega) ?_
            intro v4 wa hown4 hg4
            have HOA : Hid (OwnS wz.heap.size wa v4 T1) := hown4
            have HBA : Hid (Below wz.heap.size wz wa) := (balloc (balloc (Below.refl _ _) _) _).drew.grown hg4 (by simp; omega) (fun k hk => by have := Option.some.inj hk; simp at this; omega)
            have HXA : Hid (RdS wa (.slice (some ⟨wz.heap.size, 0, none⟩) 1 1) [(x1, x2)]) := by
              have h1 := rdS_one wz (x1, x2) HOK.out
              exact (h1.below (balloc (Below.refl _ _) _).drew).kept hg4 (fun k hk h2 => by have h3 : wz.heap.size + 1 = k := Option.some.inj hk; have h4 : wz.heap.size = k := Option.some.inj h2; omega)
            clear hown4 hg4 hoe
            refine ⟨rfl, ⟨⟨wa, HBA.out⟩, rfl⟩, ?_⟩
            go_simp
            refine tree_one rfl rfl ?_
            refine wp_of_list rfl ?_
            refine wpList_append_stamps rfl (.tmp 48) (.tmp 53) rfl wz.heap.size v4 T1 rfl HOA.out _ [(x1, x2)] rfl HXA.out (by simp; omega) HBA.out.size ?_
            intro v5 w5 hown5 hg5
            have HO5 : Hid (OwnS wz.heap.size w5 v5 (T1 ++ [(x1, x2)])) := hown5
            have HB5 : Hid (Below wz.heap.size wz w5) := HBA.out.grown hg5 HBA.out.size (fun k hk => (HOA.out.lt k hk).1)
            clear hown5 hg5
            refine ⟨rfl, ⟨⟨w5, HB5.out⟩, rfl⟩, ?_⟩
            go_simp
            refine tree_one rfl rfl ?_
            refine wp_of_list rfl ?_
            refine wpList_append_stamps rfl (.tmp 54) (.tmp 57) rfl wz.heap.size v5 (T1 ++ [(x1, x2)]) rfl HO5.out _ T2 rfl (HVT.out _ (bnext HBZ.out HB5.out)) (by simp; omega) HB5.out.size ?_
            intro v6 w6 hown6 hg6
            have HO6 : Hid (OwnS wz.heap.size w6 v6 (T1 ++ [(x1, x2)] ++ T2)) := hown6
            have HB6 : Hid (Below wz.heap.size wz w6) := HB5.out.grown hg6 HB5.out.size (fun k hk => (HO5.out.lt k hk).1)
            clear hown6 hg6
            refine ⟨rfl, ⟨⟨w6, HB6.out⟩, rfl⟩, ?_⟩
            go_simp
            refine tree_still rfl rfl ?_
            go_big_quiet_step (fail)
            refine wpQuiet_nil ?_
            refine tree_done ?_
            clear p0 p1 ne
            go_wp2
            go_roundw
            case rel => exact ⟨j + 1, T1 ++ [(x1, x2)] ++ T2, by go_num, by omega, by simp; omega, HRX, HMX, HO6.out.lower (Nat.le_trans HB.out.size HBZ.out.size), bnext HB.out (bnext HBZ.out HB6.out)⟩
            case measure => simp [intOf]; omega
    · have hjl2 : j = l.length := by omega
      have HE : Hid (O = sortS l) := by
        show _ = _
        refine rises_ext _ _ HRI.out (sortS_rises l) fun s => ?_
        rw [HME.out s, hjl2, List.take_length, mem_sortS]
      clear hjl2
      go_wp2
      go_ret
      refine ⟨_, rfl, ?_, HB.out⟩
      rw [← HE.out]
      exact HOW.out
end Go.Proofs.Ytmifionpagpnfaa
