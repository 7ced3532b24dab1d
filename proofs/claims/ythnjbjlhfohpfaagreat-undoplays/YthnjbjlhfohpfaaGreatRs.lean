/-
  The reference's Sort.
-/
import Derived.Test.YthnjbjlhfohpfaaGreatLsG
import Derived.Test.YthnjbjlhfohpfaaGreatRow
import Derived.Test.YthnjbjlhfohpfaaGreatWirP
namespace Go.Proofs.YthnjbjlhfohpfaaGreat
set_option linter.unusedVariables false
set_option linter.unusedSimpArgs false
set_option synthInstance.maxSize 20000
set_option maxHeartbeats 2000000
set_option maxRecDepth 20000
open Go.RowKit Go.Maps

theorem two_cases (x y : S) : x = y ∨ (x.1 == y.1) = false ∨ (x.1 = y.1 ∧ (x.2 == y.2) = false) := by
  obtain ⟨a, b⟩ := x
  obtain ⟨c, d⟩ := y
  simp only [Prod.mk.injEq, beq_eq_false_iff_ne, ne_eq]
  omega
theorem own0 (w : World) : (w.alloc (.cells #[] 38)).ownsRow 0 38 10 (.slice (some ⟨w.heap.size, 0, none⟩) 0 0) ([] : List OpT).length (flat oc []) :=
  ⟨rfl, .inr ⟨w.heap.size, 0, #[], rfl, Nat.zero_le _, heap_alloc_new w _, Nat.le_refl _, Nat.zero_le _, rfl, rfl⟩⟩
theorem own_below {w w' : World} {v : Value} {n : Nat} {cs : List Value} (h : w.ownsRow 0 38 10 v n cs) (hb : Below w.heap.size w w') : w'.ownsRow 0 38 10 v n cs := ownsRow_block h fun k hk => hb.block _ (h.lt k hk).2
theorem new_of {B : Nat} {w : World} {v v' : Value} (hv : ∀ k, v.ownBlock = some k → B ≤ k) (hs : B ≤ w.heap.size) (hw : ∀ j, v'.ownBlock = some j → v.ownBlock = some j ∨ w.heap.size ≤ j) : ∀ k, v'.ownBlock = some k → B ≤ k := fun k hk =>
  (hw k hk).elim (fun e => hv k e) (fun e => Nat.le_trans hs e)
theorem RowF.kept {w w' : World} {v : Value} {l : List OpT} {r : Option Nat} (h : RowF oc w v l) (hg : w.grownBy w' r) (hne : ∀ k, r = some k → v.ownBlock ≠ some k) : RowF oc w' v l := h.blocks fun j hj hlt => hg.block j hlt fun e => hne j e.symm hj
set_option maxHeartbeats 8000000 in
theorem rsort22n {w : World} {v : Value} {l : List OpT} (hv : RowF oc w v l) (hl : l.length ≤ 1000) :
    Calls Tryz.prog 26 #[v] w fun e w' => ∃ v' O, e = .returned v' ∧ FirstOf O l ∧ w'.ownsRow 0 38 10 v' O.length (flat oc O) ∧ (∀ k, v'.ownBlock = some k → w.heap.size ≤ k) ∧ Below w.heap.size w w' := by
  obtain ⟨av, cv, rfl⟩ := hv.len
  have HV : Hid (RowF oc w (.slice av l.length cv) l) := hv
  have hcapv := hv.caps
  clear hv
  go_enter Tryz.func26, Tryz.ntmps26
  go_wp2
  go_loopw [3, 4] (fun vo i wr => ∃ (j : Nat) (O : List OpT), i = .int .i64 (j : Int) ∧ j ≤ l.length ∧ O.length ≤ j ∧ Hid (FirstOf O (l.take j)) ∧ Hid (wr.ownsRow 0 38 10 vo O.length (flat oc O)) ∧ Hid (∀ k, vo.ownBlock = some k → w.heap.size ≤ k) ∧ Hid (Below w.heap.size w wr)) (fun _ i _ => l.length - (intOf i).toNat)
  case atStart => exact ⟨0, [], rfl, by omega, by simp, FirstOf.nil, World.ownsRow_nil _ _ _ _, fun k hk => (by cases hk), Below.refl _ _⟩
  case round =>
    obtain ⟨j, O, rfl, hj, hOj, HFO, HOW, HNW, HB⟩ := hrel
    have HRO : Hid (RowF oc _ _ O) := rowF_own oc_len HOW.out
    obtain ⟨ao, co, hvo⟩ := HRO.out.len
    subst hvo
    have hcapo := HRO.out.caps
    by_cases hjl : j < l.length
    · have hjI : (j : Int) < (l.length : Int) := by omega
      obtain ⟨x, hx⟩ : ∃ x, l[j]? = some x := ⟨_, List.getElem?_eq_getElem hjl⟩
      have HTK : Hid (l.take (j + 1) = l.take j ++ [x]) := take_more' hx
      obtain ⟨bv, ov', rfl, _⟩ := HV.out.at oc_len hx
      have HLX : Hid (∀ w', Below wr.heap.size wr w' → w'.rangeAt bv (ov' + j * 10) (oc x)) := fun w' h => by
        obtain ⟨b1, o1, e1, h1⟩ := (HV.out.below (bnext HB.out h)).at oc_len hx
        cases e1
        exact h1
      obtain ⟨x1, x2, hxa⟩ : ∃ x1 x2, x.a = (x1, x2) := ⟨_, _, rfl⟩
      have HXA : Hid (x.a = (x1, x2)) := hxa
      have HLC : Hid (∀ w', Below wr.heap.size wr w' → w'.cell? ⟨bv, ov' + j * 10 + 1, none⟩ = some (.int .i64 x1) ∧ w'.cell? ⟨bv, ov' + j * 10 + 1 + 1, none⟩ = some (.int .i64 x2)) := fun w' h => by
        have h1 := HLX.out w' h 1 _ rfl
        have h2 := HLX.out w' h 2 _ rfl
        rw [hxa] at h1 h2
        exact ⟨h1, h2⟩
      clear hx hxa
      obtain ⟨w2, hw2⟩ : ∃ w2, w2 = wr := ⟨_, rfl⟩
      subst hw2
      go_wp2
      go_loopw [5] (fun k wr => ∃ q : Nat, k = .int .i64 (q : Int) ∧ q ≤ O.length ∧ Hid (∀ i y, i < q → O[i]? = some y → LtO y x) ∧ Hid (Below w2.heap.size w2 wr)) (fun k _ => O.length - (intOf k).toNat)
      case atStart => exact ⟨0, rfl, by omega, fun i y h => by omega, Below.refl _ _⟩
      case round =>
        obtain ⟨q, rfl, hq, HLO, HB3⟩ := hrel
        obtain ⟨T1, hT1⟩ : ∃ T1, T1 = O.take q := ⟨_, rfl⟩
        obtain ⟨T2, hT2⟩ : ∃ T2, T2 = O.drop q := ⟨_, rfl⟩
        have HT1 : Hid (T1 = O.take q) := hT1
        have HT2 : Hid (T2 = O.drop q) := hT2
        have HIN : Hid (T1 ++ [x] ++ T2 = O.take q ++ x :: O.drop q) := by show _ = _; rw [hT1, hT2]; simp
        have hlen1 : T1.length = q := by rw [hT1, List.length_take]; omega
        have hlen2 : T2.length = O.length - q := by rw [hT2, List.length_drop]
        clear hT1 hT2
        by_cases hqo : q < O.length
        case' pos =>
          obtain ⟨y, hy⟩ : ∃ y, O[q]? = some y := ⟨_, List.getElem?_eq_getElem hqo⟩
          have HY : Hid (O[q]? = some y) := hy
          obtain ⟨bo, oo, rfl, _⟩ := HRO.out.at oc_len hy
          obtain ⟨y1, y2, hya⟩ : ∃ y1 y2, y.a = (y1, y2) := ⟨_, _, rfl⟩
          have HYA : Hid (y.a = (y1, y2)) := hya
          have HOC : Hid (∀ w', Below w2.heap.size w2 w' → w'.cell? ⟨bo, oo + q * 10 + 1, none⟩ = some (.int .i64 y1) ∧ w'.cell? ⟨bo, oo + q * 10 + 1 + 1, none⟩ = some (.int .i64 y2)) := fun w' h => by
            obtain ⟨b1, o1, e1, h1⟩ := (HRO.out.below h).at oc_len hy
            cases e1
            have h2 := h1 1 _ rfl
            have h3 := h1 2 _ rfl
            rw [hya] at h2 h3
            exact ⟨h2, h3⟩
          have hL := fun w' => refless_any (y1, y2) (x1, x2) w'
          have HDL : Hid (ltP (y1, y2) (x1, x2) ∨ ¬ ltP (y1, y2) (x1, x2)) := Decidable.em _
          obtain ⟨db, hdb⟩ : ∃ db, db = decide (ltP (y1, y2) (x1, x2)) := ⟨_, rfl⟩
          have HDB : Hid (db = decide (ltP (y1, y2) (x1, x2))) := hdb
          simp only [sv, ← hdb] at hL
          have HLL : Hid (∀ w', Calls Tryz.prog 44 #[.agg #[.int .i64 y1, .int .i64 y2], .agg #[.int .i64 x1, .int .i64 x2]] w' fun e w'' => e = .returned (.bool db) ∧ Below w'.heap.size w' w'') := hL
          clear hy hya hdb hL
          go_upto_region 6 with fail
          have hg1 : (q : Int) < (O.length : Int) := by omega
          have q0 := fun z : WIn (fun w' => Below wr.heap.size wr w') => (HOC.out z.w (bnext HB3.out z.ok)).1
          have q1 := fun z : WIn (fun w' => Below wr.heap.size wr w') => (HOC.out z.w (bnext HB3.out z.ok)).2
          have q2 := fun z : WIn (fun w' => Below wr.heap.size wr w') => (HLC.out z.w (bnext HB3.out z.ok)).1
          have q3 := fun z : WIn (fun w' => Below wr.heap.size wr w') => (HLC.out z.w (bnext HB3.out z.ok)).2
          have ne : Nonempty (WIn (fun w' => Below wr.heap.size wr w')) := ⟨⟨wr, Below.refl _ _⟩⟩
          refine wp_region_ord (C := fun w' => ∃ z : WIn (fun w' => Below wr.heap.size wr w'), w' = z.w) [(false, 0), (false, 1), (false, 2), (false, 3), (false, 4), (false, 5), (false, 6), (false, 7), (false, 8), (false, 9), (false, 10), (false, 11), (false, 12), (false, 13), (false, 14), (true, 15), (false, 16)] (by kernel_rfl) (by kernel_rfl) ⟨⟨wr.drew, below_drewn wr 1⟩, rfl⟩ ?_
          iterate 15 (refine ord_still rfl rfl ?_; go_big_quiet_step (fail); refine wpQuiet_nil ?_)
          refine ord_mem rfl rfl ?_
          go_simp
          refine (HLL.out _).mono ?_
          rintro e w4 ⟨rfl, hb4⟩
          have HB34 : Hid (Below wr.heap.size wr w4) := bnext (below_drewn wr 1) hb4
          have HB4 : Hid (Below w2.heap.size w2 w4) := bnext HB3.out HB34.out
          clear hb4 HLL
          refine ⟨⟨⟨w4, HB34.out⟩, rfl⟩, ?_⟩
          iterate 1 (refine ord_still rfl rfl ?_; go_big_quiet_step (fail); refine wpQuiet_nil ?_)
          refine ord_end ?_
          clear q0 q1 q2 q3 ne
          by_cases hlt : ltP (y1, y2) (x1, x2)
          case' pos =>
            obtain rfl : db = true := by rw [HDB.out, decide_eq_true hlt]
            have HL2 : Hid (∀ i z, i < q + 1 → O[i]? = some z → LtO z x) := fun i z h1 h2 => by
              by_cases e : i = q
              · rw [e, HY.out] at h2
                cases h2
                show ltP y.a x.a
                rw [HYA.out, HXA.out]
                exact hlt
              · exact HLO.out i z (by omega) h2
            clear hlt HDB HDL
            go_wp2
            go_roundw
            case rel => exact ⟨q + 1, by go_num, by omega, HL2, HB4⟩
            case measure => simp [intOf]; omega
          case' neg =>
            obtain rfl : db = false := by rw [HDB.out, decide_eq_false hlt]
            have e0 := (HOC.out w4 HB4.out).1
            have e1 := (HOC.out w4 HB4.out).2
            have d0 := (HLC.out w4 HB4.out).1
            have d1 := (HLC.out w4 HB4.out).2
            have hk : ((q : Int) == (O.length : Int)) = false := by simp; omega
            go_upto_region 8 with fail
            rcases two_cases (y1, y2) (x1, x2) with he | he | ⟨he, he2⟩
            case' inl =>
              have HM2 : Hid (FirstOf O (l.take (j + 1))) := by
                show FirstOf _ _
                rw [HTK.out]
                exact HFO.out.pass (List.mem_of_getElem? HY.out) (by rw [HYA.out, HXA.out, he])
              obtain ⟨rfl, rfl⟩ : y1 = x1 ∧ y2 = x2 := by simpa using he
              clear hlt HDB HDL he
              go_quiet (fail)
              go_wp2
              go_roundw
              case rel => exact ⟨j + 1, O, by go_num, by omega, by omega, HM2, own_below HOW.out (bnext HB4.out (below_drewn _ _)), HNW, bnext HB.out (bnext HB4.out (below_drewn _ _))⟩
              case measure => simp [intOf]; omega
            all_goals
              dsimp only at he
              have hne : ¬ (y1, y2) = (x1, x2) := fun e => by
                simp only [Prod.mk.injEq] at e
                simp_all
              have hup : ltP (x1, x2) (y1, y2) := by
                by_cases h : ltP (x1, x2) (y1, y2)
                · exact h
                · exact absurd (ltP_total hlt h) hne
              have HRX : Hid (FirstOf (T1 ++ [x] ++ T2) (l.take (j + 1))) := by
                show FirstOf _ _
                rw [HIN.out, HTK.out]
                refine HFO.out.ins HLO.out fun z hz => ?_
                rw [HY.out] at hz
                cases hz
                show ltP x.a y.a
                rw [HYA.out, HXA.out]
                exact hup
              clear hne hup hlt HDB HDL HLO HY HYA HOC
              try (have he' := he.symm; subst he')
              go_quiet (fail)
              go_upto_region 9 with fail
              obtain ⟨wz, hwz⟩ : ∃ wz, wz = w4.drewN nq := ⟨_, rfl⟩
              have HBZ : Hid (Below w2.heap.size w2 wz) := by show Below _ _ _; rw [hwz]; exact bnext HB4.out (below_drewn _ _)
              rw [← hwz]
              have HVH : Hid (∀ w', Below w2.heap.size w2 w' → RowF oc w' (.slice (some ⟨bo, oo, none⟩) q co) T1) := fun w' h => by rw [HT1.out]; exact rowF_head oc_len (HRO.out.below h) hq
              have HVT : Hid (∀ w', Below w2.heap.size w2 w' → RowF oc w' (.slice (some ⟨bo, oo + q * 10, none⟩) (O.length - q) (co - q)) T2) := fun w' h => by rw [HT2.out]; exact rowF_cut oc_len (HRO.out.below h) hq
              clear hwz e0 e1 d0 d1 HB4 HB34 hk hg1
        case' neg =>
          have hqe : q = O.length := by omega
          have HRX : Hid (FirstOf (T1 ++ [x] ++ T2) (l.take (j + 1))) := by
            show FirstOf _ _
            rw [HIN.out, HTK.out]
            refine HFO.out.ins HLO.out fun z hz => ?_
            rw [List.getElem?_eq_none (by omega)] at hz
            cases hz
          have HE1 : Hid (T1 = O) := by show _ = _; rw [HT1.out, hqe, List.take_length]
          have HE2 : Hid (T2 = []) := by show _ = _; rw [HT2.out, hqe, List.drop_length]
          have hgd : decide ((q : Int) < (O.length : Int)) = false := by simp; omega
          have hkk : ((q : Int) == (O.length : Int)) = true := by simp; omega
          have HQE : Hid (q = O.length) := hqe
          clear HLO hqe
          go_upto_region 6 with fail
          go_quiet (fail)
          obtain ⟨wy, hwy⟩ : ∃ wy, wy = wr.drewN nq := ⟨_, rfl⟩
          have HBY : Hid (Below w2.heap.size w2 wy) := by show Below _ _ _; rw [hwy]; exact bnext HB3.out (below_drewn _ _)
          rw [← hwy]
          clear hwy hgd
          go_upto_region 8 with fail
          go_quiet (fail)
          obtain ⟨wz, hwz⟩ : ∃ wz, wz = wy.drewN nq := ⟨_, rfl⟩
          have HBZ : Hid (Below w2.heap.size w2 wz) := by show Below _ _ _; rw [hwz]; exact bnext HBY.out (below_drewn _ _)
          rw [← hwz]
          clear hwz hkk HBY
          go_upto_region 9 with fail
          by_cases hao : ao = none
          case' pos =>
            subst hao
            have hc0 : co = 0 := by
              obtain ⟨a', c', e, _, _, h3, _⟩ := HRO.out
              obtain ⟨rfl, rfl⟩ : none = a' ∧ co = c' := by simpa using e
              exact h3 rfl
            have hO0 : O = [] := List.eq_nil_of_length_eq_zero (by omega)
            have hq0 : q = 0 := by have := HQE.out; rw [hO0] at this; simpa using this
            subst hc0 hO0 hq0
            have HVH : Hid (∀ w', Below w2.heap.size w2 w' → RowF oc w' (.slice none 0 0) T1) := fun w' h => by rw [HE1.out]; exact rowF_none w' none
            have HVT : Hid (∀ w', Below w2.heap.size w2 w' → RowF oc w' (.slice none 0 0) T2) := fun w' h => by rw [HE2.out]; exact rowF_none w' none
          case' neg =>
            obtain ⟨ad, rfl⟩ := Option.ne_none_iff_exists'.1 hao
            clear hao
            obtain ⟨g, rfl⟩ : ∃ g, ad = ⟨g, 0, none⟩ := by
              rcases HOW.out.2 with ⟨h, _⟩ | ⟨g, cap, cur, h, _⟩
              · cases h
              · cases h; exact ⟨g, rfl⟩
            have HVH : Hid (∀ w', Below w2.heap.size w2 w' → RowF oc w' (.slice (some ⟨g, 0, none⟩) q co) T1) := fun w' h => by rw [HT1.out]; exact rowF_head oc_len (HRO.out.below h) hq
            by_cases hcq : co = q
            case' pos =>
              subst hcq
              have HVT : Hid (∀ w', Below w2.heap.size w2 w' → RowF oc w' (.slice (some ⟨g, 0, none⟩) 0 0) T2) := fun w' h => by rw [HE2.out]; exact rowF_none w' _
            case' neg =>
              have HVT : Hid (∀ w', Below w2.heap.size w2 w' → RowF oc w' (.slice (some ⟨g, q * 10, none⟩) (O.length - q) (co - q)) T2) := fun w' h => by
                have := rowF_cut oc_len (HRO.out.below h) hq
                rw [Nat.zero_add] at this
                rw [HT2.out]
                exact this
        all_goals
          have HP : Hid (∀ z : WIn (fun w' => Below wz.heap.size wz w'), z.w.rangeAt bv (ov' + j * 10) (oc x)) := fun z => HLX.out z.w (bnext HBZ.out z.ok)
          have ne : Nonempty (WIn (fun w' => Below wz.heap.size wz w')) := ⟨⟨wz, Below.refl _ _⟩⟩
          refine wp_region_tree (C := fun w' => ∃ z : WIn (fun w' => Below wz.heap.size wz w'), w' = z.w) (.still 1 (.still 2 (.still 3 (.still 5 (.still 6 (.still 7 (.still 8 (.still 11 (.still 12 (.still 13 (.two 0 (.two 4 (.one 9 (.one 10 (.one 14 (.still 15 .done)))) 9 (.one 4 (.one 10 (.one 14 (.still 15 .done))))) 9 (.one 0 (.one 4 (.one 10 (.one 14 (.still 15 .done)))))))))))))))) (by kernel_rfl) (by kernel_rfl) ⟨⟨wz.drew, below_drewn wz 1⟩, rfl⟩ ?_
          obtain ⟨wy, hwy⟩ : ∃ wy, wy = wz.drew := ⟨_, rfl⟩
          rw [← hwy]
          have HBY : Hid (Below wz.heap.size wz wy) := by show Below _ _ _; rw [hwy]; exact below_drewn wz 1
          clear hwy
          have HVH2 : Hid (∀ w', Below wy.heap.size wy w' → RowF oc w' _ T1) := fun w' h => HVH.out w' (bnext HBZ.out (bnext HBY.out h))
          have HVT2 : Hid (∀ w', Below wy.heap.size wy w' → RowF oc w' _ T2) := fun w' h => HVT.out w' (bnext HBZ.out (bnext HBY.out h))
          iterate 6 (refine tree_still rfl rfl ?_; go_big_quiet_step (fail); refine wpQuiet_nil ?_)
          refine tree_still rfl rfl ?_
          refine quiet_ok1 rfl (fun w' hw' => by obtain ⟨z, rfl⟩ := hw'; exact exec_load26 (q := x) (.tmp 55) rfl rfl (HP.out z)) ?_
          go_simp
          iterate 3 (refine tree_still rfl rfl ?_; go_big_quiet_step (fail); refine wpQuiet_nil ?_)
          refine tree_two rfl rfl rfl rfl ?_ ?_
          · go_simp
            have HBa : Hid (Below wy.heap.size wy (wy.alloc (.cells #[] 38))) := balloc (Below.refl _ _) _
            refine ⟨⟨⟨_, bnext HBY.out HBa.out⟩, rfl⟩, ?_⟩
            refine tree_two rfl rfl rfl rfl ?_ ?_
            · refine wp_of_list rfl ?_
              refine wpList_append_rows ty28 oc_len (by omega) rfl (.tmp 48) (.tmp 51) rfl _ [] rfl (own0 wy) _ T1 rfl (HVH2.out _ HBa.out) (flat_oc_one _) (by simp; omega) ?_
              intro v4 wa hown4 hg4 hn4
              have HO4 : Hid (wa.ownsRow 0 38 10 v4 T1.length (flat oc T1)) := (show World.ownsRow _ _ _ _ _ _ _ from by simpa using hown4)
              have HBb : Hid (Below wy.heap.size wy wa) := bgrown HBa.out (Nat.le_refl _) hg4
              have HN4 : Hid (∀ k, v4.ownBlock = some k → wy.heap.size ≤ k) := new_of (fun k hk => by cases hk; exact Nat.le_refl _) HBa.out.size hn4
              clear hown4 hg4 hn4
              refine ⟨rfl, ⟨⟨wa, bnext HBY.out HBb.out⟩, rfl⟩, ?_⟩
              go_simp
              refine tree_one rfl rfl ?_
              refine wp_ok (exec_build1 (q := x) (.tmp 56) rfl rfl) ?_
              obtain ⟨wb, hwb⟩ : ∃ wb, wb = wa.alloc (.cells (oc x).toArray 38) := ⟨_, rfl⟩
              rw [← hwb]
              have HBc : Hid (Below wy.heap.size wy wb) := by show Below _ _ _; rw [hwb]; exact balloc HBb.out _
              have HOb : Hid (wb.ownsRow 0 38 10 v4 T1.length (flat oc T1)) := by show World.ownsRow _ _ _ _ _ _ _; rw [hwb]; exact own_below HO4.out (balloc (Below.refl _ _) _)
              have HXb : Hid (RowF oc wb (.slice (some ⟨wa.heap.size, 0, none⟩) 1 1) [x]) := by show RowF _ _ _ _; rw [hwb]; exact rowF_one wa x 38
              clear hwb
              refine ⟨⟨⟨wb, bnext HBY.out HBc.out⟩, rfl⟩, ?_⟩
              go_simp
              refine tree_one rfl rfl ?_
              refine wp_of_list rfl ?_
              refine wpList_append_rows ty28 oc_len (by omega) rfl (.tmp 52) (.tmp 57) rfl v4 T1 rfl HOb.out _ [x] rfl HXb.out (flat_oc_one _) (by simp; omega) ?_
              intro v5 w5 hown5 hg5 hn5
              have HO5 : Hid (w5.ownsRow 0 38 10 v5 (T1 ++ [x]).length (flat oc (T1 ++ [x]))) := hown5
              have HBd : Hid (Below wy.heap.size wy w5) := HBc.out.grown hg5 HBc.out.size HN4.out
              have HN5 : Hid (∀ k, v5.ownBlock = some k → wy.heap.size ≤ k) := new_of HN4.out HBc.out.size hn5
              clear hown5 hg5 hn5
              refine ⟨rfl, ⟨⟨w5, bnext HBY.out HBd.out⟩, rfl⟩, ?_⟩
              go_simp
              refine tree_one rfl rfl ?_
              refine wp_of_list rfl ?_
              refine wpList_append_rows ty28 oc_len (by omega) rfl (.tmp 58) (.tmp 61) rfl v5 (T1 ++ [x]) rfl HO5.out _ T2 rfl (HVT2.out _ HBd.out) (flat_oc_one _) (by simp; omega) ?_
              intro v6 w6 hown6 hg6 hn6
              have HO6 : Hid (w6.ownsRow 0 38 10 v6 (T1 ++ [x] ++ T2).length (flat oc (T1 ++ [x] ++ T2))) := hown6
              have HBe : Hid (Below wy.heap.size wy w6) := HBd.out.grown hg6 HBd.out.size HN5.out
              have HN6 : Hid (∀ k, v6.ownBlock = some k → w.heap.size ≤ k) := fun k hk => Nat.le_trans (bnext HB.out (bnext HBZ.out HBY.out)).size (new_of HN5.out HBd.out.size hn6 k hk)
              clear hown6 hg6 hn6
              refine ⟨rfl, ⟨⟨w6, bnext HBY.out HBe.out⟩, rfl⟩, ?_⟩
              go_simp
              refine tree_still rfl rfl ?_
              go_big_quiet_step (fail)
              refine wpQuiet_nil ?_
              refine tree_done ?_
              clear ne HP
              go_wp2
              go_roundw
              case rel => exact ⟨j + 1, T1 ++ [x] ++ T2, by go_num, by omega, by simp; omega, HRX, HO6, HN6, bnext HB.out (bnext HBZ.out (bnext HBY.out HBe.out))⟩
              case measure => simp [intOf]; omega
            · refine wp_ok (exec_build1 (q := x) (.tmp 56) rfl rfl) ?_
              obtain ⟨wb, hwb⟩ : ∃ wb, wb = (wy.alloc (.cells #[] 38)).alloc (.cells (oc x).toArray 38) := ⟨_, rfl⟩
              rw [← hwb]
              have HBc0 : Hid (Below wy.heap.size wy wb) := by show Below _ _ _; rw [hwb]; exact balloc HBa.out _
              have HOb0 : Hid (wb.ownsRow 0 38 10 (.slice (some ⟨wy.heap.size, 0, none⟩) 0 0) ([] : List OpT).length (flat oc [])) := by show World.ownsRow _ _ _ _ _ _ _; rw [hwb]; exact own_below (own0 wy) (balloc (Below.refl _ _) _)
              obtain ⟨gx, hgx⟩ : ∃ gx, gx = (wy.alloc (.cells #[] 38)).heap.size := ⟨_, rfl⟩
              rw [← hgx]
              have HXb0 : Hid (RowF oc wb (.slice (some ⟨gx, 0, none⟩) 1 1) [x]) := by show RowF _ _ _ _; rw [hwb, hgx]; exact rowF_one _ x 38
              have HGX : Hid (gx ≠ wy.heap.size) := by show gx ≠ _; rw [hgx]; simp
              clear hwb hgx
              refine ⟨⟨⟨wb, bnext HBY.out HBc0.out⟩, rfl⟩, ?_⟩
              go_simp
              refine tree_one rfl rfl ?_
              refine wp_of_list rfl ?_
              refine wpList_append_rows ty28 oc_len (by omega) rfl (.tmp 48) (.tmp 51) rfl _ [] rfl HOb0.out _ T1 rfl (HVH2.out _ HBc0.out) (flat_oc_one _) (by simp; omega) ?_
              intro v4 wa hown4 hg4 hn4
              have HOb : Hid (wa.ownsRow 0 38 10 v4 T1.length (flat oc T1)) := (show World.ownsRow _ _ _ _ _ _ _ from by simpa using hown4)
              have HBc : Hid (Below wy.heap.size wy wa) := bgrown HBc0.out (Nat.le_refl _) hg4
              have HN4 : Hid (∀ k, v4.ownBlock = some k → wy.heap.size ≤ k) := new_of (fun k hk => by cases hk; exact (Nat.le_refl _)) HBc0.out.size hn4
              have HXb : Hid (RowF oc wa (.slice (some ⟨gx, 0, none⟩) 1 1) [x]) := HXb0.out.kept hg4 (fun k hk h2 => by cases hk; cases h2; exact HGX.out rfl)
              clear hown4 hg4 hn4
              obtain ⟨wb, hwb⟩ : ∃ wb, wb = wa := ⟨_, rfl⟩
              subst hwb
              refine ⟨rfl, ⟨⟨wb, bnext HBY.out HBc.out⟩, rfl⟩, ?_⟩
              go_simp
              refine tree_one rfl rfl ?_
              refine wp_of_list rfl ?_
              refine wpList_append_rows ty28 oc_len (by omega) rfl (.tmp 52) (.tmp 57) rfl v4 T1 rfl HOb.out _ [x] rfl HXb.out (flat_oc_one _) (by simp; omega) ?_
              intro v5 w5 hown5 hg5 hn5
              have HO5 : Hid (w5.ownsRow 0 38 10 v5 (T1 ++ [x]).length (flat oc (T1 ++ [x]))) := hown5
              have HBd : Hid (Below wy.heap.size wy w5) := HBc.out.grown hg5 HBc.out.size HN4.out
              have HN5 : Hid (∀ k, v5.ownBlock = some k → wy.heap.size ≤ k) := new_of HN4.out HBc.out.size hn5
              clear hown5 hg5 hn5
              refine ⟨rfl, ⟨⟨w5, bnext HBY.out HBd.out⟩, rfl⟩, ?_⟩
              go_simp
              refine tree_one rfl rfl ?_
              refine wp_of_list rfl ?_
              refine wpList_append_rows ty28 oc_len (by omega) rfl (.tmp 58) (.tmp 61) rfl v5 (T1 ++ [x]) rfl HO5.out _ T2 rfl (HVT2.out _ HBd.out) (flat_oc_one _) (by simp; omega) ?_
              intro v6 w6 hown6 hg6 hn6
              have HO6 : Hid (w6.ownsRow 0 38 10 v6 (T1 ++ [x] ++ T2).length (flat oc (T1 ++ [x] ++ T2))) := hown6
              have HBe : Hid (Below wy.heap.size wy w6) := HBd.out.grown hg6 HBd.out.size HN5.out
              have HN6 : Hid (∀ k, v6.ownBlock = some k → w.heap.size ≤ k) := fun k hk => Nat.le_trans (bnext HB.out (bnext HBZ.out HBY.out)).size (new_of HN5.out HBd.out.size hn6 k hk)
              clear hown6 hg6 hn6
              refine ⟨rfl, ⟨⟨w6, bnext HBY.out HBe.out⟩, rfl⟩, ?_⟩
              go_simp
              refine tree_still rfl rfl ?_
              go_big_quiet_step (fail)
              refine wpQuiet_nil ?_
              refine tree_done ?_
              clear ne HP
              go_wp2
              go_roundw
              case rel => exact ⟨j + 1, T1 ++ [x] ++ T2, by go_num, by omega, by simp; omega, HRX, HO6, HN6, bnext HB.out (bnext HBZ.out (bnext HBY.out HBe.out))⟩
              case measure => simp [intOf]; omega
          · refine wp_ok (exec_build1 (q := x) (.tmp 56) rfl rfl) ?_
            obtain ⟨wb0, hwb0⟩ : ∃ wb, wb = wy.alloc (.cells (oc x).toArray 38) := ⟨_, rfl⟩
            rw [← hwb0]
            have HBw : Hid (Below wy.heap.size wy wb0) := by show Below _ _ _; rw [hwb0]; exact balloc (Below.refl _ _) _
            have HXw : Hid (RowF oc wb0 (.slice (some ⟨wy.heap.size, 0, none⟩) 1 1) [x]) := by show RowF _ _ _ _; rw [hwb0]; exact rowF_one _ x 38
            have HSw : Hid (wb0.heap.size = wy.heap.size + 1) := by show _ = _; rw [hwb0]; simp
            clear hwb0
            refine ⟨⟨⟨wb0, bnext HBY.out HBw.out⟩, rfl⟩, ?_⟩
            go_simp
            refine tree_one rfl rfl ?_
            go_simp
            obtain ⟨wb, hwb⟩ : ∃ wb, wb = wb0.alloc (.cells #[] 38) := ⟨_, rfl⟩
            rw [← hwb]
            have HBc0 : Hid (Below wy.heap.size wy wb) := by show Below _ _ _; rw [hwb]; exact balloc HBw.out _
            obtain ⟨g0, hg0⟩ : ∃ g0, g0 = wb0.heap.size := ⟨_, rfl⟩
            rw [← hg0]
            have HOb0 : Hid (wb.ownsRow 0 38 10 (.slice (some ⟨g0, 0, none⟩) 0 0) ([] : List OpT).length (flat oc [])) := by show World.ownsRow _ _ _ _ _ _ _; rw [hwb, hg0]; exact own0 wb0
            obtain ⟨gx, hgx⟩ : ∃ gx, gx = wy.heap.size := ⟨_, rfl⟩
            have HXb0 : Hid (RowF oc wb (.slice (some ⟨gx, 0, none⟩) 1 1) [x]) := by show RowF _ _ _ _; rw [hwb, hgx]; exact HXw.out.below (balloc (Below.refl _ _) _)
            have HG0 : Hid (wy.heap.size ≤ g0 ∧ gx ≠ g0) := by have := HSw.out; exact (by omega : wy.heap.size ≤ g0 ∧ gx ≠ g0)
            rw [← hgx]
            clear hwb hg0 hgx
            refine ⟨⟨⟨wb, bnext HBY.out HBc0.out⟩, rfl⟩, ?_⟩
            refine tree_one rfl rfl ?_
            refine wp_of_list rfl ?_
            refine wpList_append_rows ty28 oc_len (by omega) rfl (.tmp 48) (.tmp 51) rfl _ [] rfl HOb0.out _ T1 rfl (HVH2.out _ HBc0.out) (flat_oc_one _) (by simp; omega) ?_
            intro v4 wa hown4 hg4 hn4
            have HOb : Hid (wa.ownsRow 0 38 10 v4 T1.length (flat oc T1)) := (show World.ownsRow _ _ _ _ _ _ _ from by simpa using hown4)
            have HBc : Hid (Below wy.heap.size wy wa) := bgrown HBc0.out HG0.out.1 hg4
            have HN4 : Hid (∀ k, v4.ownBlock = some k → wy.heap.size ≤ k) := new_of (fun k hk => by cases hk; exact HG0.out.1) HBc0.out.size hn4
            have HXb : Hid (RowF oc wa (.slice (some ⟨gx, 0, none⟩) 1 1) [x]) := HXb0.out.kept hg4 (fun k hk h2 => by cases hk; cases h2; exact HG0.out.2 rfl)
            clear hown4 hg4 hn4
            obtain ⟨wb, hwb⟩ : ∃ wb, wb = wa := ⟨_, rfl⟩
            subst hwb
            refine ⟨rfl, ⟨⟨wb, bnext HBY.out HBc.out⟩, rfl⟩, ?_⟩
            go_simp
            refine tree_one rfl rfl ?_
            refine wp_of_list rfl ?_
            refine wpList_append_rows ty28 oc_len (by omega) rfl (.tmp 52) (.tmp 57) rfl v4 T1 rfl HOb.out _ [x] rfl HXb.out (flat_oc_one _) (by simp; omega) ?_
            intro v5 w5 hown5 hg5 hn5
            have HO5 : Hid (w5.ownsRow 0 38 10 v5 (T1 ++ [x]).length (flat oc (T1 ++ [x]))) := hown5
            have HBd : Hid (Below wy.heap.size wy w5) := HBc.out.grown hg5 HBc.out.size HN4.out
            have HN5 : Hid (∀ k, v5.ownBlock = some k → wy.heap.size ≤ k) := new_of HN4.out HBc.out.size hn5
            clear hown5 hg5 hn5
            refine ⟨rfl, ⟨⟨w5, bnext HBY.out HBd.out⟩, rfl⟩, ?_⟩
            go_simp
            refine tree_one rfl rfl ?_
            refine wp_of_list rfl ?_
            refine wpList_append_rows ty28 oc_len (by omega) rfl (.tmp 58) (.tmp 61) rfl v5 (T1 ++ [x]) rfl HO5.out _ T2 rfl (HVT2.out _ HBd.out) (flat_oc_one _) (by simp; omega) ?_
            intro v6 w6 hown6 hg6 hn6
            have HO6 : Hid (w6.ownsRow 0 38 10 v6 (T1 ++ [x] ++ T2).length (flat oc (T1 ++ [x] ++ T2))) := hown6
            have HBe : Hid (Below wy.heap.size wy w6) := HBd.out.grown hg6 HBd.out.size HN5.out
            have HN6 : Hid (∀ k, v6.ownBlock = some k → w.heap.size ≤ k) := fun k hk => Nat.le_trans (bnext HB.out (bnext HBZ.out HBY.out)).size (new_of HN5.out HBd.out.size hn6 k hk)
            clear hown6 hg6 hn6
            refine ⟨rfl, ⟨⟨w6, bnext HBY.out HBe.out⟩, rfl⟩, ?_⟩
            go_simp
            refine tree_still rfl rfl ?_
            go_big_quiet_step (fail)
            refine wpQuiet_nil ?_
            refine tree_done ?_
            clear ne HP
            go_wp2
            go_roundw
            case rel => exact ⟨j + 1, T1 ++ [x] ++ T2, by go_num, by omega, by simp; omega, HRX, HO6, HN6, bnext HB.out (bnext HBZ.out (bnext HBY.out HBe.out))⟩
            case measure => simp [intOf]; omega
    · have hjl2 : j = l.length := by omega
      have hjI : ¬ (j : Int) < (l.length : Int) := by omega
      have HE : Hid (FirstOf O l) := by
        have h := HFO.out
        rw [hjl2, List.take_length] at h
        exact h
      clear hjl2
      go_wp2
      go_ret
      exact ⟨_, rfl, O, HE.out, HOW.out, HNW.out, HB.out⟩
theorem rsort22 {w : World} {v : Value} {l : List OpT} (hv : RowF oc w v l) (hl : l.length ≤ 1000) :
    Calls Tryz.prog 26 #[v] w fun e w' => ∃ v' O, e = .returned v' ∧ FirstOf O l ∧ RowF oc w' v' O ∧ Below w.heap.size w w' :=
  (rsort22n hv hl).mono fun e w' ⟨v', O, h1, h2, h3, h4, h5⟩ => ⟨v', O, h1, h2, rowF_own oc_len h3, h5⟩
end Go.Proofs.YthnjbjlhfohpfaaGreat
