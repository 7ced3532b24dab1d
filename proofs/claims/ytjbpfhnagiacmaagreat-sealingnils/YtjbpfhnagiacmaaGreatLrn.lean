/-
  The ring's Learn.
-/
import Derived.Test.YtjbpfhnagiacmaaGreatGob
namespace Go.Proofs.YtjbpfhnagiacmaaGreat
set_option linter.unusedVariables false
set_option linter.unusedSimpArgs false
set_option synthInstance.maxSize 20000
set_option maxHeartbeats 2000000
set_option maxRecDepth 20000
open Go.RowKit Go.Maps
theorem learnG_no {S : St} {r : Rg} {c : Cg} {f : List Int → List (List Int) → List (List Int)} (h : ¬ (rightB c = true ∧ c.k = 3)) : learnG S r c f = (r, 1) := by unfold learnG; rw [if_neg h]
theorem learnG_full {S : St} {r : Rg} {c : Cg} {f : List Int → List (List Int) → List (List Int)} (h : rightB c = true ∧ c.k = 3) (h2 : 20 ≤ r.ks.length) : learnG S r c f = (r, 3) := by unfold learnG; rw [if_pos h, if_pos h2]
theorem learnG_go {S : St} {r : Rg} {c : Cg} {f : List Int → List (List Int) → List (List Int)} (h : rightB c = true ∧ c.k = 3) (h2 : ¬ 20 ≤ r.ks.length) : learnG S r c f = (⟨r.w, r.s, backF S (r.os ++ [c.o]) r.ks.length (r.ks ++ [(unwM S r.w r.s c.ws).1]), f (r.ks ++ [(unwM S r.w r.s c.ws).1]) (r.os ++ [c.o])⟩, (unwM S r.w r.s c.ws).2) := by unfold learnG; rw [if_pos h, if_neg h2]
theorem learn20 {w : World} {o : Nat → Nat} {j rb ob N : Nat} {r : Rg} {S : St} (hR : RIs w o j rb ob r) (hO : OrcAt w o ob S) (hS : Ora S N) (hj : j ≠ 0) (hj1 : j ≠ 1) {c : Cg} {a b : Value} {qs : List Wq} (hc : CgAt w c a b qs) (hk : Kp0 w o b c.o) (hol : c.o.length ≤ 1000) :
    Calls Tryz.prog 30 #[ptr rb, cv c a b] w fun x w' => x = .returned (.int .i64 (learnP S r c).2) ∧ ∃ o', RIs w' o' j rb ob (learnP S r c).1 ∧ Mv [j] w o w' o' := by
  have HRI : Hid (RIs w o j rb ob r) := hR
  obtain ⟨kv, ov, os, hA, hos, hlen, hfew⟩ := hR
  obtain ⟨rw', rs, ks, ro⟩ := r
  dsimp only at hA hos hlen hfew
  have HRt : Hid (∀ w', Below w.heap.size w w' → Calls Tryz.prog 62 #[cv c a b] w' fun r w'' => r = .returned (.bool (rightB c)) ∧ Below w'.heap.size w' w'') := fun w' hb => right27 (hc.below hb)
  have HUn : Hid (∀ w', Below w.heap.size w w' → Calls Tryz.prog 70 #[ptr rb, a] w' fun x w'' => x = .returned (.tuple #[.int .u64 (unwM S rw' rs c.ws).1, .int .i64 (unwM S rw' rs c.ws).2]) ∧ Below w'.heap.size w' w'') := fun w' hb => by
    have := unwrap47 (hA.below hb) (hO.below hb) (hc.row.below hb) (fun q hq => (hc.rd q hq).below hb)
    rw [hc.ws] at this
    exact this
  obtain ⟨⟨xa, na, pa, rfl⟩, xb, nb, pb, rfl⟩ := slices_of hc
  obtain ⟨ck, cw, cp, cm, cws, co⟩ := c
  dsimp only at HUn hk hol
  unfold cv at HRt ⊢
  dsimp only at HRt ⊢
  obtain ⟨w1, hw1⟩ : ∃ w1, w1 = w.alloc (.cells #[.int .i64 ck, .int .i64 cw, .int .u64 cp, .int .i64 cm, .slice xa na pa, .slice xb nb pb] 75) := ⟨_, rfl⟩
  have HW1 : Hid (w1 = w.alloc (.cells #[.int .i64 ck, .int .i64 cw, .int .u64 cp, .int .i64 cm, .slice xa na pa, .slice xb nb pb] 75)) := hw1
  have HB1 : Hid (Below w.heap.size w w1) := (by show Below _ _ _; rw [hw1]; exact balloc (Below.refl _ _) _)
  have X1 : Hid (Blk w1 w.heap.size 75 [.int .i64 ck, .int .i64 cw, .int .u64 cp, .int .i64 cm, .slice xa na pa, .slice xb nb pb]) := (by show Blk _ _ _ _; rw [hw1]; exact blk_new w _ 75)
  have x0 := X1.out.cell 0 _ rfl; have x1 := X1.out.cell 1 _ rfl; have x2 := X1.out.cell 2 _ rfl; have x3 := X1.out.cell 3 _ rfl; have x4 := X1.out.cell 4 _ rfl; have x5 := X1.out.cell 5 _ rfl
  obtain ⟨av, cap, rfl, hc1, hc2⟩ := hA.kslice
  have HA : Hid (RgAt 114 [ptr ob, .int .i64 rw', .int .u64 rs] w o j rb ks (.slice av ks.length cap) ov os) := hA
  have HK : Hid (Kp0 w o (.slice xb nb pb) co) := hk
  have HO : Hid (OrcAt w o ob S) := hO
  have HS : Hid (Ora S N) := hS
  have HJ : Hid (j ≠ 0 ∧ j ≠ 1) := ⟨hj, hj1⟩
  have HI : Hid (os.map (·.2) = ro ∧ ro.length = ks.length ∧ ks.length ≤ 20 ∧ co.length ≤ 1000) := ⟨hos, hlen, hfew, hol⟩
  clear hA hk hO hS hj hj1 hos hlen hc hw1
  by_cases h3 : ck = 3
  · subst h3
    cases hrt : rightB ⟨3, cw, cp, cm, cws, co⟩ with
    | false =>
      rw [hrt] at HRt
      unfold learnP
      rw [learnG_no (fun h => by rw [hrt] at h; cases h.1)]
      dsimp only
      clear hrt HUn
      go_enter Tryz.func30, Tryz.ntmps30
      go_upto_region 1 with fail
      rw [← HW1.out]
      go_wp2_with (go_at_call 62; go_must (refine (HRt.out w1 HB1.out).mono ?_; rintro r w2 ⟨rfl, hb2⟩))
      go_ret
      exact ⟨rfl, _, HRI.out.mv (Mv.of_below (I := []) 0 (bnext HB1.out hb2)) (by simp) (by simp), Mv.of_below 0 (bnext HB1.out hb2)⟩
    | true =>
      rw [hrt] at HRt
      by_cases h20 : 20 ≤ ks.length
      · unfold learnP
        rw [learnG_full ⟨hrt, rfl⟩ h20]
        dsimp only
        have HC3 : Hid (∀ w', Below w.heap.size w w' → w'.cell? ⟨rb, 3, none⟩ = some (.slice av ks.length cap)) := fun w' hb => (HA.out.blk.below hb).cell 3 _ rfl
        generalize ks.length = n at *
        clear hrt HUn HA
        go_enter Tryz.func30, Tryz.ntmps30
        go_upto_region 1 with fail
        rw [← HW1.out]
        go_wp2_with (go_at_call 62; go_must (refine (HRt.out w1 HB1.out).mono ?_; rintro r w2 ⟨rfl, hb2⟩; have y3 := HC3.out w2 (bnext HB1.out hb2)))
        go_ret
        exact ⟨rfl, _, HRI.out.mv (Mv.of_below (I := []) 0 (bnext HB1.out hb2)) (by simp) (by simp), Mv.of_below 0 (bnext HB1.out hb2)⟩
      · obtain ⟨LP, hLP⟩ : ∃ LP, LP = learnP S ⟨rw', rs, ks, ro⟩ ⟨3, cw, cp, cm, cws, co⟩ := ⟨_, rfl⟩
        have HLP : Hid (LP = (⟨rw', rs, backF S (ro ++ [co]) ks.length (ks ++ [(unwM S rw' rs cws).1]), struck (ks ++ [(unwM S rw' rs cws).1]) (ro ++ [co])⟩, (unwM S rw' rs cws).2)) := (show _ = _ by rw [hLP]; unfold learnP; rw [learnG_go ⟨hrt, rfl⟩ h20])
        rw [← hLP]
        generalize unwM S rw' rs cws = U at HUn HLP
        obtain ⟨x, uk⟩ := U
        dsimp only at HUn HLP
        have HLk : Hid (LP.2 = uk) := (show _ = _ by rw [HLP.out])
        have hlk : LP.2 = uk := HLk.out
        rw [hlk]
        have HC3 : Hid (∀ w', Below w.heap.size w w' → w'.cell? ⟨rb, 3, none⟩ = some (.slice av ks.length cap)) := fun w' hb => (HA.out.blk.below hb).cell 3 _ rfl
        obtain ⟨n, hn⟩ : ∃ n, n = ks.length := ⟨_, rfl⟩
        have HN : Hid (n = ks.length) := hn
        rw [← hn] at HC3 h20 HA hc1 hfew
        clear hrt hLP hlk hn HRI
        go_enter Tryz.func30, Tryz.ntmps30
        go_upto_region 1 with fail
        rw [← HW1.out]
        go_upto_region 8 with (first
          | (go_at_call 62; go_must (refine (HRt.out w1 HB1.out).mono ?_; rintro r w2 ⟨rfl, hb2⟩; have HB2 : Hid (Below w.heap.size w w2) := (show Below _ _ _ from bnext HB1.out hb2); have y3 := HC3.out w2 HB2.out; have y4 := (X1.out.below hb2).cell 4 _ rfl; have X2 : Hid (Blk w2 w.heap.size 75 [.int .i64 3, .int .i64 cw, .int .u64 cp, .int .i64 cm, .slice xa na pa, .slice xb nb pb]) := X1.out.below hb2; clear hb2))
          | (go_at_call 70; go_must (refine (HUn.out w2 HB2.out).mono ?_; rintro r w3 ⟨rfl, hb3⟩; have HB3 : Hid (Below w.heap.size w w3) := (show Below _ _ _ from bnext HB2.out hb3); have X3 : Hid (Blk w3 w.heap.size 75 [.int .i64 3, .int .i64 cw, .int .u64 cp, .int .i64 cm, .slice xa na pa, .slice xb nb pb]) := X2.out.below hb3; clear hb3)))
        have HA3 : Hid (RgAt 114 [ptr ob, .int .i64 rw', .int .u64 rs] w3 (newTo o w 0) j rb ks (.slice av n cap) ov os) := (show RgAt _ _ _ _ _ _ _ _ _ _ from HA.out.below HB3.out)
        have z3 := HA3.out.blk.cell 3 _ rfl
        have HRow : Hid (RowF uc (w3.alloc (.cells #[.int .u64 x] 26)) (.slice (some ⟨w3.heap.size, 0, none⟩) 1 1) [x]) := rowF_one w3 x 26
        have HKr : Hid ((w3.alloc (.cells #[.int .u64 x] 26)).ownsRow 0 26 1 (.slice av n cap) ks.length (flat uc ks)) := HA3.out.krow.alloc _
        have HBk : Hid (∀ w4, (w3.alloc (.cells #[.int .u64 x] 26)).grownBy w4 (Value.slice av n cap).ownBlock → Blk w4 rb 114 [ptr ob, .int .i64 rw', .int .u64 rs, .slice av n cap, ov]) := fun w4 hg => (HA3.out.blk.alloc _).past' hg (fun e => (HA3.out.kown rb e).2 rfl)
        have HL4 : Hid ((ks ++ [x]).length = n + 1) := (show _ = _ by rw [List.length_append, ← HN.out]; rfl)
        clear y3 y4
        go_upto_region 9 with (at_builtin; go_must (refine wpList_append_rows tyK uc_len (by omega) rfl (.tmp 34) (.tmp 36) rfl _ ks rfl HKr.out _ [x] rfl HRow.out (flat_uc_one _) (by have := HI.out; simp; omega) ?_; intro v4 w4 hr4 hg4 hn4; have e3 := (HBk.out w4 hg4).cell 3 _ rfl; have f3 := (HBk.out w4 hg4).frozen 3; obtain ⟨a4, q4, hv4, hq4⟩ := slice_of_own hr4; rw [HL4.out] at hv4; subst hv4))
        obtain ⟨o4, A4, M4⟩ := HA3.out.addKey HJ.out.1 (p := 3) rfl hr4 hg4 hn4
        have MM4 : Mv [j] w o (w4.setCell ⟨rb, 3, none⟩ (.slice a4 (n + 1) q4)) o4 := (Mv.of_below 0 HB3.out).trans M4
        have X4 : Blk (w4.setCell ⟨rb, 3, none⟩ (.slice a4 (n + 1) q4)) w.heap.size 75 [.int .i64 3, .int .i64 cw, .int .u64 cp, .int .i64 cm, .slice xa na pa, .slice xb nb pb] := X3.out.block (M4.block w.heap.size X3.out.lt (by rw [newTo_new (Nat.le_refl _)]; simp; exact fun e => HJ.out.1 e.symm))
        have hO4 : o4 w.heap.size = 0 := by rw [M4.ext _ X3.out.lt, newTo_new (Nat.le_refl _)]
        have HO4 : Hid (o4 w.heap.size = 0) := hO4
        generalize w4.setCell ⟨rb, 3, none⟩ (.slice a4 (n + 1) q4) = w5 at *
        have HA5 : Hid (RgAt 114 [ptr ob, .int .i64 rw', .int .u64 rs] w5 o4 j rb (ks ++ [x]) (.slice a4 (n + 1) q4) ov os) := A4
        have HM5 : Hid (Mv [j] w o w5 o4) := MM4
        have X5 : Hid (Blk w5 w.heap.size 75 [.int .i64 3, .int .i64 cw, .int .u64 cp, .int .i64 cm, .slice xa na pa, .slice xb nb pb]) := X4
        have HK5 : Hid (Kp0 w5 o4 (.slice xb nb pb) co) := (show Kp0 _ _ _ _ from HK.out.mv MM4 (by simp; exact fun e => HJ.out.1 e.symm))
        clear A4 M4 MM4 X4 hr4 hg4 hn4 e3 f3 hq4 z3 HRow HKr HBk
        obtain ⟨ao, co2, hov, _, _⟩ := HA5.out.oslice
        subst hov
        have hosn : os.length = n := by have := HI.out; rw [← this.1, List.length_map] at this; have := HN.out; omega
        have HOSN : Hid (os.length = n) := hosn
        rw [hosn] at HA5
        obtain ⟨xk, hxk⟩ : ∃ xk, xk = nb := ⟨_, rfl⟩
        have y4 : ∀ z : WIn (fun w' => Blk w' rb 114 [ptr ob, .int .i64 rw', .int .u64 rs, .slice a4 (n + 1) q4, .slice ao n co2] ∧ Blk w' w.heap.size 75 [.int .i64 3, .int .i64 cw, .int .u64 cp, .int .i64 cm, .slice xa na pa, .slice xb nb pb]), z.w.cell? ⟨rb, 4, none⟩ = some (.slice ao n co2) := fun z => z.ok.1.cell 4 _ rfl
        have y5 : ∀ z : WIn (fun w' => Blk w' rb 114 [ptr ob, .int .i64 rw', .int .u64 rs, .slice a4 (n + 1) q4, .slice ao n co2] ∧ Blk w' w.heap.size 75 [.int .i64 3, .int .i64 cw, .int .u64 cp, .int .i64 cm, .slice xa na pa, .slice xb nb pb]), z.w.cell? ⟨w.heap.size, 5, none⟩ = some (.slice xb nb pb) := fun z => z.ok.2.cell 5 _ rfl
        have ne : Nonempty (WIn (fun w' => Blk w' rb 114 [ptr ob, .int .i64 rw', .int .u64 rs, .slice a4 (n + 1) q4, .slice ao n co2] ∧ Blk w' w.heap.size 75 [.int .i64 3, .int .i64 cw, .int .u64 cp, .int .i64 cm, .slice xa na pa, .slice xb nb pb])) := ⟨⟨w5, HA5.out.blk, X5.out⟩⟩
        have HCl : Hid (Calls Tryz.prog 71 #[.slice xb nb pb] w5.drew fun e w' => ∃ v', e = .returned v' ∧ Own w5.drew.heap.size 5 w' v' co ∧ Below w5.drew.heap.size w5.drew w') := bclone_any _ co w5.drew (show Rd w5.drew _ _ from HK5.out.1.drew) (by have := HI.out; omega)
        refine wp_region_treeZ (C := fun w' => ∃ z : WIn (fun w' => Blk w' rb 114 [ptr ob, .int .i64 rw', .int .u64 rs, .slice a4 (n + 1) q4, .slice ao n co2] ∧ Blk w' w.heap.size 75 [.int .i64 3, .int .i64 cw, .int .u64 cp, .int .i64 cm, .slice xa na pa, .slice xb nb pb]), w' = z.w) 12 (.still 0 (.still 1 (.still 2 (.still 3 (.still 4 (.still 5 (.still 6 (.one 7 (.one 8 (.one 9 (.one 10 (.still 11 .done)))))))))))) rfl (by kernel_rfl) (by kernel_rfl) ⟨⟨w5.drew, HA5.out.blk, X5.out⟩, rfl⟩ ?_
        iterate 7 (refine tree_still rfl rfl ?_; go_big_quiet_step (fail); refine wpQuiet_nil ?_)
        refine tree_one rfl rfl ?_
        go_simp
        refine HCl.out.mono ?_
        rintro r w6 ⟨v6, rfl, ho6, hb6⟩
        obtain ⟨a6, c6, hv6⟩ := ho6.rd.len
        subst hv6
        have HB6 : Hid (Below w5.heap.size w5 w6) := (show Below _ _ _ from bnext ((Below.refl _ _).drew) hb6)
        have HA6 : Hid (RgAt 114 [ptr ob, .int .i64 rw', .int .u64 rs] w6 (newTo o4 w5 0) j rb (ks ++ [x]) (.slice a4 (n + 1) q4) (.slice ao n co2) os) := (show RgAt _ _ _ _ _ _ _ _ _ _ from HA5.out.below HB6.out)
        have HK6 : Hid (Kp0 w6 (newTo o4 w5 0) (.slice a6 co.length c6) co) := (show Kp0 _ _ _ _ from Kp0.of_new (w1 := w5) ho6 (Nat.le_refl _))
        have X6 : Hid (Blk w6 w.heap.size 75 [.int .i64 3, .int .i64 cw, .int .u64 cp, .int .i64 cm, .slice xa na pa, .slice xb nb pb]) := X5.out.below HB6.out
        have HM6 : Hid (Mv [j] w o w6 (newTo o4 w5 0)) := (show Mv _ _ _ _ _ from HM5.out.trans (Mv.of_below 0 HB6.out))
        have HO6 : Hid (newTo o4 w5 0 w.heap.size = 0) := (show _ = _ by rw [newTo_old X5.out.lt]; exact HO4.out)
        generalize newTo o4 w5 0 = o6 at *
        refine ⟨⟨⟨w6, HA6.out.blk, X6.out⟩, rfl⟩, ?_⟩
        go_simp
        refine tree_one rfl rfl ?_
        go_simp
        have HOr : Hid ((w6.alloc (.cells #[.slice a6 co.length c6] 25)).ownsRow 0 25 1 (.slice ao n co2) os.length (flat lc os)) := HA6.out.orow.alloc _
        have HRo : Hid (RowF lc (w6.alloc (.cells #[.slice a6 co.length c6] 25)) (.slice (some ⟨w6.heap.size, 0, none⟩) 1 1) [((.slice a6 co.length c6, co) : VB)]) := rowF_one w6 ((.slice a6 co.length c6, co) : VB) 25
        refine ⟨⟨⟨_, HA6.out.blk.alloc _, X6.out.alloc _⟩, rfl⟩, ?_⟩
        go_simp
        refine tree_one rfl rfl ?_
        refine wp_of_list rfl ?_
        refine wpList_append_rows tyO lc_len (by omega) rfl (.tmp 44) (.tmp 48) rfl _ os rfl HOr.out _ [((.slice a6 co.length c6, co) : VB)] rfl HRo.out (flat_one fun q hq u hu => by simp at hq; subst hq; simp [lc] at hu; subst hu; rfl) (by have := HOSN.out; simp; omega) ?_
        intro v7 w7 hr7 hg7 hn7
        have hb7 : Blk w7 rb 114 [ptr ob, .int .i64 rw', .int .u64 rs, .slice a4 (n + 1) q4, .slice ao n co2] := (HA6.out.blk.alloc _).past' hg7 (fun e => (HA6.out.oown rb e).2 rfl)
        have hx7 : Blk w7 w.heap.size 75 [.int .i64 3, .int .i64 cw, .int .u64 cp, .int .i64 cm, .slice xa na pa, .slice xb nb pb] := (X6.out.alloc _).past' hg7 (fun e => by
          have h9 := (HA6.out.oown _ e).1
          rw [HO6.out] at h9
          exact HJ.out.1 h9.symm)
        obtain ⟨o8, A8, M8⟩ := HA6.out.addOld HJ.out.1 (q := (.slice a6 co.length c6, co)) HK6.out (p := 4) rfl hr7 hg7 hn7
        have hlen7 : (os ++ [((.slice a6 co.length c6, co) : VB)]).length = n + 1 := by rw [List.length_append, HOSN.out]; rfl
        obtain ⟨a7, q7, hv7, hq7⟩ := slice_of_own hr7
        rw [hlen7] at hv7
        subst hv7
        have HA8 : Hid (RgAt 114 [ptr ob, .int .i64 rw', .int .u64 rs] (w7.setCell ⟨rb, 4, none⟩ (.slice a7 (n + 1) q7)) o8 j rb (ks ++ [x]) (.slice a4 (n + 1) q4) (.slice a7 (n + 1) q7) (os ++ [((.slice a6 co.length c6, co) : VB)])) := A8
        have HM8 : Hid (Mv [j] w o (w7.setCell ⟨rb, 4, none⟩ (.slice a7 (n + 1) q7)) o8) := (show Mv _ _ _ _ _ from HM6.out.trans M8)
        have HGb := goBack49 HA8.out (HO.out.mv HM8.out (by simp; exact fun e => HJ.out.2 e.symm)) HS.out (by simp) (by rw [hlen7, HL4.out]) (by rw [HL4.out]; omega) HJ.out.1 HJ.out.2
        have l4 := hb7.cell 4 _ rfl
        have l5 := hb7.frozen 4
        clear A8 M8 hr7 hg7 hn7 hq7 hlen7
        refine ⟨rfl, ⟨⟨_, hb7, hx7⟩, rfl⟩, ?_⟩
        go_simp
        refine tree_one rfl rfl ?_
        go_simp
        refine ⟨⟨⟨_, hb7, hx7⟩, rfl⟩, ?_⟩
        go_simp
        iterate 1 (refine tree_still rfl rfl ?_; go_big_quiet_step (fail); refine wpQuiet_nil ?_)
        refine tree_done ?_
        refine ⟨rfl, ?_⟩
        go_simp
        generalize w7.setCell ⟨rb, 4, none⟩ (.slice a7 (n + 1) q7) = w8 at *
        go_wp2_with (go_at_call 72; go_must (refine HGb.mono ?_; rintro r w9 ⟨rfl, o9, kv9, ov9, qs9, A9, hq9, M9⟩))
        go_ret
        have hmap : (os ++ [((.slice a6 co.length c6, co) : VB)]).map (·.2) = ro ++ [co] := by rw [List.map_append, HI.out.1]; rfl
        rw [hmap] at A9 hq9
        refine ⟨rfl, o9, ?_, HM8.out.trans M9⟩
        rw [HLP.out]
        refine ⟨kv9, ov9, qs9, ?_, hq9, ?_, ?_⟩
        · have e1 : (ks ++ [x]).length - 1 = ks.length := by simp
          rw [e1] at A9
          exact A9
        · dsimp only
          rw [backF_length]
          unfold struck
          have := HI.out.2.1
          split <;> simp [this]
        · dsimp only
          rw [backF_length, HL4.out]
          omega
  · unfold learnP
    rw [learnG_no (fun h => h3 h.2)]
    have hk3 : (ck != 3) = true := by simpa using h3
    dsimp only
    clear h3 HUn HRt
    go_enter Tryz.func30, Tryz.ntmps30
    go_upto_region 1 with fail
    rw [← HW1.out]
    go_wp2
    go_ret
    exact ⟨rfl, _, HRI.out.mv (Mv.of_below (I := []) 0 HB1.out) (by simp) (by simp), Mv.of_below 0 HB1.out⟩
end Go.Proofs.YtjbpfhnagiacmaaGreat
