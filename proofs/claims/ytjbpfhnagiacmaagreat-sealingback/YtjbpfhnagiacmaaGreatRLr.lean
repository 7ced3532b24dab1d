/-
  The reference's ring: Learn.
-/
import Derived.Test.YtjbpfhnagiacmaaGreatLrn
namespace Go.Proofs.YtjbpfhnagiacmaaGreat
set_option linter.unusedVariables false
set_option linter.unusedSimpArgs false
set_option synthInstance.maxSize 20000
set_option maxHeartbeats 2000000
set_option maxRecDepth 20000
open Go.RowKit Go.Maps
def foldU (S : St) (who sec : Int) (ws : List Wp) : Int × Int := ws.foldl (fun acc x => if x.w = who then S.unwrap sec x.b else acc) (0, 11)
theorem foldU_snoc {S : St} {who sec : Int} {ws : List Wp} {k : Nat} {x : Wp} (h : ws[k]? = some x) : foldU S who sec (ws.take (k + 1)) = if x.w = who then S.unwrap sec x.b else foldU S who sec (ws.take k) := by
  have hk := List.getElem?_eq_some_iff.1 h
  unfold foldU
  rw [List.take_succ_eq_append_getElem hk.1, List.foldl_append, hk.2]
  rfl
theorem wsF_rise : ∀ (l : List Wp) (p : Option Int), wsF p l = true → (∀ q, p = some q → ∀ x ∈ l, q < x.w) ∧ l.Pairwise (fun a b => a.w < b.w)
  | [], p, _ => ⟨fun q _ x hx => (by cases hx), List.Pairwise.nil⟩
  | y :: l, p, h => by
    unfold wsF at h
    rw [Bool.and_eq_true] at h
    obtain ⟨h1, h2⟩ := wsF_rise l _ h.2
    have h3 : behB p y.w = true := by
      have := h.1
      unfold stepB at this
      simp only [Bool.and_eq_true] at this
      exact this.2
    refine ⟨fun q hq x hx => ?_, List.pairwise_cons.2 ⟨fun x hx => h1 _ rfl x hx, h2⟩⟩
    subst hq
    simp [behB] at h3
    rcases List.mem_cons.1 hx with rfl | e
    · exact h3
    · have := h1 _ rfl x e
      omega
theorem fold_none {S : St} {who sec : Int} : ∀ (l : List Wp) (acc : Int × Int), (∀ x ∈ l, x.w ≠ who) → l.foldl (fun acc x => if x.w = who then S.unwrap sec x.b else acc) acc = acc
  | [], acc, _ => rfl
  | x :: l, acc, h => by
    rw [List.foldl_cons, if_neg (h x (by simp))]
    exact fold_none l acc (fun y hy => h y (by simp [hy]))
theorem foldU_eq {S : St} {who sec : Int} {ws : List Wp} (h : ws.Pairwise (fun a b => a.w < b.w)) : foldU S who sec ws = unwM S who sec ws := by
  have key : ∀ (l : List Wp), l.Pairwise (fun a b => a.w < b.w) → ∀ acc, l.foldl (fun acc x => if x.w = who then S.unwrap sec x.b else acc) acc = match l.find? (fun x => decide (x.w = who)) with
      | none => acc
      | some x => S.unwrap sec x.b := by
    intro l
    induction l with
    | nil => intro _ acc; rfl
    | cons x l ih =>
      intro hp acc
      obtain ⟨h1, h2⟩ := List.pairwise_cons.1 hp
      rw [List.foldl_cons, List.find?_cons]
      by_cases hx : x.w = who
      · rw [if_pos hx]
        simp only [decide_eq_true hx]
        exact fold_none l _ (fun y hy => by have := h1 y hy; omega)
      · rw [if_neg hx]
        simp only [decide_eq_false hx]
        exact ih h2 acc
  unfold foldU unwM
  rw [key ws h]
  cases ws.find? (fun x => decide (x.w = who)) <;> rfl
theorem right_rise {c : Cg} (h : rightB c = true) (h3 : c.k = 3) : c.ws.Pairwise (fun a b => a.w < b.w) := by
  unfold rightB at h
  rw [if_neg (by omega), if_neg (by omega), if_pos h3] at h
  simp only [Bool.and_eq_true, wsB] at h
  exact (wsF_rise _ _ h.1.2.1).2
theorem rlearn32 {w0 w : World} {o : Nat → Nat} {j rb rr N : Nat} {r : Rg} {S : St} (hR : RRIs w o j rb r) (hO : ROrc w0 w o rr S) (hS : Ora S N) (hj : j ≠ 0) (hj8 : j ≠ 8) {c : Cg} {a b : Value} {qs : List Wq} (hc : CgAt w c a b qs) (hk : Kp0 w o b c.o) (hql : qs.length ≤ 1000) :
    Calls Tryz.prog 31 #[ptr rb, ptr rr, cv c a b] w fun x w' => x = .returned (.int .i64 (learnR S r c).2) ∧ ∃ o', RRIs w' o' j rb (learnR S r c).1 ∧ Mv [j] w o w' o' := by
  have HRI : Hid (RRIs w o j rb r) := hR
  obtain ⟨kv, ov, os, hA, hos, hlen, hfew⟩ := hR
  obtain ⟨rw', rs, ks, ro⟩ := r
  dsimp only at hA hos hlen hfew
  have HRt : Hid (∀ w', Below w.heap.size w w' → Calls Tryz.prog 67 #[cv c a b] w' fun r w'' => r = .returned (.bool (rightB c)) ∧ Below w'.heap.size w' w'') := fun w' hb => rright36 (hc.below hb)
  have HCG : Hid (CgAt w c a b qs) := hc
  obtain ⟨⟨xa, na, pa, rfl⟩, xb, nb, pb, rfl⟩ := slices_of hc
  have hna : na = qs.length := hc.row.caps.1
  have hpa : na ≤ pa ∧ pa ≤ 9223372036854775807 := hc.row.caps.2
  obtain ⟨ck, cw, cp, cm, cws, co⟩ := c
  dsimp only at hk
  unfold cv at HRt ⊢
  dsimp only at HRt ⊢
  obtain ⟨w1, hw1⟩ : ∃ w1, w1 = w.alloc (.cells #[.int .i64 ck, .int .i64 cw, .int .u64 cp, .int .i64 cm, .slice xa na pa, .slice xb nb pb] 80) := ⟨_, rfl⟩
  have HW1 : Hid (w1 = w.alloc (.cells #[.int .i64 ck, .int .i64 cw, .int .u64 cp, .int .i64 cm, .slice xa na pa, .slice xb nb pb] 80)) := hw1
  have HB1 : Hid (Below w.heap.size w w1) := (by show Below _ _ _; rw [hw1]; exact balloc (Below.refl _ _) _)
  have X1 : Hid (Blk w1 w.heap.size 80 [.int .i64 ck, .int .i64 cw, .int .u64 cp, .int .i64 cm, .slice xa na pa, .slice xb nb pb]) := (by show Blk _ _ _ _; rw [hw1]; exact blk_new w _ 80)
  have x0 := X1.out.cell 0 _ rfl; have x1 := X1.out.cell 1 _ rfl; have x2 := X1.out.cell 2 _ rfl; have x3 := X1.out.cell 3 _ rfl; have x4 := X1.out.cell 4 _ rfl; have x5 := X1.out.cell 5 _ rfl
  obtain ⟨av, cap, rfl, hc1, hc2⟩ := hA.kslice
  have HA : Hid (RgAt 64 [.int .i64 rw', .int .u64 rs] w o j rb ks (.slice av ks.length cap) ov os) := hA
  have HK : Hid (Kp0 w o (.slice xb nb pb) co) := hk
  have HO : Hid (ROrc w0 w o rr S) := hO
  have HS : Hid (Ora S N) := hS
  have HJ : Hid (j ≠ 0 ∧ j ≠ 8) := ⟨hj, hj8⟩
  have HI : Hid (os.map (·.2) = ro ∧ ro.length = ks.length ∧ ks.length ≤ 20) := ⟨hos, hlen, hfew⟩
  have HNA : Hid (na = qs.length ∧ na ≤ 1000) := ⟨hna, by omega⟩
  clear hA hk hO hS hj hj8 hos hlen hc hw1 hna
  cases hrt : rightB ⟨ck, cw, cp, cm, cws, co⟩ with
  | false =>
    rw [hrt] at HRt
    unfold learnR
    rw [learnG_no (fun h => by rw [hrt] at h; cases h.1)]
    dsimp only
    clear hrt
    go_enter Tryz.func31, Tryz.ntmps31
    go_upto_region 1 with fail
    rw [← HW1.out]
    go_wp2_with (go_at_call 67; go_must (refine (HRt.out w1 HB1.out).mono ?_; rintro r w2 ⟨rfl, hb2⟩))
    go_ret
    exact ⟨rfl, _, HRI.out.mv (Mv.of_below (I := []) 0 (bnext HB1.out hb2)) (by simp) (by simp), Mv.of_below 0 (bnext HB1.out hb2)⟩
  | true =>
    rw [hrt] at HRt
    by_cases h3 : ck = 3
    · subst h3
      by_cases h20 : 20 ≤ ks.length
      · unfold learnR
        rw [learnG_full ⟨hrt, rfl⟩ h20]
        dsimp only
        have HC3 : Hid (∀ w', Below w.heap.size w w' → w'.cell? ⟨rb, 2, none⟩ = some (.slice av ks.length cap)) := fun w' hb => (HA.out.blk.below hb).cell 2 _ rfl
        generalize ks.length = n at *
        clear hrt HA
        go_enter Tryz.func31, Tryz.ntmps31
        go_upto_region 1 with fail
        rw [← HW1.out]
        go_wp2_with (go_at_call 67; go_must (refine (HRt.out w1 HB1.out).mono ?_; rintro r w2 ⟨rfl, hb2⟩; have y3 := HC3.out w2 (bnext HB1.out hb2); have y0 := (X1.out.below hb2).cell 0 _ rfl))
        go_ret
        exact ⟨rfl, _, HRI.out.mv (Mv.of_below (I := []) 0 (bnext HB1.out hb2)) (by simp) (by simp), Mv.of_below 0 (bnext HB1.out hb2)⟩
      · obtain ⟨LP, hLP⟩ : ∃ LP, LP = learnR S ⟨rw', rs, ks, ro⟩ ⟨3, cw, cp, cm, cws, co⟩ := ⟨_, rfl⟩
        obtain ⟨TG, htg⟩ : ∃ TG, TG = backF S (ro ++ [co]) ks.length (ks ++ [(unwM S rw' rs cws).1]) := ⟨_, rfl⟩
        have HLP0 : Hid (LP = (⟨rw', rs, TG, ro ++ [co]⟩, (unwM S rw' rs cws).2)) := (show _ = _ by rw [hLP, htg]; unfold learnR; rw [learnG_go ⟨hrt, rfl⟩ h20])
        have HTG0 : Hid (TG = backF S (ro ++ [co]) ks.length (ks ++ [(unwM S rw' rs cws).1])) := htg
        have HUW : Hid (foldU S rw' rs cws = unwM S rw' rs cws) := foldU_eq (right_rise hrt rfl)
        have hlk : LP.2 = (unwM S rw' rs cws).2 := by rw [HLP0.out]
        have HLP : Hid (LP.1 = ⟨rw', rs, TG, ro ++ [co]⟩) := (show _ = _ by rw [HLP0.out])
        rw [← hLP, hlk]
        obtain ⟨U, hU⟩ : ∃ U, U = unwM S rw' rs cws := ⟨_, rfl⟩
        have HU : Hid (foldU S rw' rs cws = U) := (show _ = _ by rw [HUW.out, hU])
        have HTG : Hid (backF S (ro ++ [co]) ks.length (ks ++ [U.1]) = TG) := (show _ = _ by rw [HTG0.out, hU])
        rw [← hU]
        have HWS : Hid (qs.map (·.1) = cws) := HCG.out.ws
        have HC3 : Hid (∀ w', Below w.heap.size w w' → w'.cell? ⟨rb, 2, none⟩ = some (.slice av ks.length cap)) := fun w' hb => (HA.out.blk.below hb).cell 2 _ rfl
        obtain ⟨n, hn⟩ : ∃ n, n = ks.length := ⟨_, rfl⟩
        have HN : Hid (n = ks.length) := hn
        rw [← hn] at HC3 h20 HA hc1 hfew HTG
        clear hrt hLP hlk hn HRI hU htg HLP0 HTG0 HUW
        go_enter Tryz.func31, Tryz.ntmps31
        go_upto_region 1 with fail
        rw [← HW1.out]
        go_upto_region 6 with (go_at_call 67; go_must (refine (HRt.out w1 HB1.out).mono ?_; rintro r w2 ⟨rfl, hb2⟩; have HB2 : Hid (Below w.heap.size w w2) := (show Below _ _ _ from bnext HB1.out hb2); have y3 := HC3.out w2 HB2.out; have y4 := (X1.out.below hb2).cell 0 _ rfl; have X2 : Hid (Blk w2 w.heap.size 80 [.int .i64 3, .int .i64 cw, .int .u64 cp, .int .i64 cm, .slice xa na pa, .slice xb nb pb]) := X1.out.below hb2; clear hb2))
        have HA2 : Hid (RgAt 64 [.int .i64 rw', .int .u64 rs] w2 (newTo o w 0) j rb ks (.slice av n cap) ov os) := (show RgAt _ _ _ _ _ _ _ _ _ _ from HA.out.below HB2.out)
        have HO2 : Hid (ROrc w0 w2 (newTo o w 0) rr S) := (show ROrc _ _ _ _ _ from HO.out.below HB2.out)
        have HK2 : Hid (Kp0 w2 (newTo o w 0) (.slice xb nb pb) co) := (show Kp0 _ _ _ _ from HK.out.mv (Mv.of_below (I := []) 0 HB2.out) (by simp))
        have HM2 : Hid (Mv [j] w o w2 (newTo o w 0)) := (show Mv _ _ _ _ _ from Mv.of_below 0 HB2.out)
        have HOc : Hid (newTo o w 0 w.heap.size = 0) := (show _ = _ from newTo_new (Nat.le_refl _))
        have HCG2 : Hid (CgAt w2 ⟨3, cw, cp, cm, cws, co⟩ (.slice xa na pa) (.slice xb nb pb) qs) := (show CgAt _ _ _ _ _ from HCG.out.below HB2.out)
        generalize newTo o w 0 = o2 at *
        clear y3 y4 X1 x0 x1 x2 x3 x4 x5 HCG HC3 HRt HB1
        go_wp2
        go_loopw [7, 8, 9] (fun kvv kkv i wr => ∃ k : Nat, i = .int .i64 k ∧ k ≤ na ∧ kvv = .int .u64 (foldU S rw' rs (cws.take k)).1 ∧ kkv = .int .i64 (foldU S rw' rs (cws.take k)).2 ∧ Hid (Below w2.heap.size w2 wr)) (fun _ _ i _ => na - (intOf i).toNat)
        case atStart => exact ⟨0, rfl, by omega, rfl, rfl, (show Below _ _ _ from Below.refl _ _)⟩
        case round =>
          obtain ⟨k, rfl, hk, rfl, rfl, HB⟩ := hrel
          have X4 := (X2.out.below HB.out).cell 4 _ rfl
          by_cases hki : k < na
          · obtain ⟨q, hq⟩ : ∃ q, qs[k]? = some q := ⟨_, List.getElem?_eq_getElem (by have := HNA.out; omega)⟩
            obtain ⟨g, off, ea, hr⟩ := (HCG2.out.row.below HB.out).at wq_len hq
            subst ea
            have hrd := (HCG2.out.rd q (List.mem_of_getElem? hq)).below HB.out
            have hwk : cws[k]? = some q.1 := by rw [← HWS.out, List.getElem?_map, hq]; rfl
            have HF := foldU_snoc (S := S) (who := rw') (sec := rs) hwk
            obtain ⟨⟨qw, qb⟩, qv⟩ := q
            dsimp only at HF hrd
            obtain ⟨qa, qc, hqv⟩ := hrd.len
            subst hqv
            have HRQ : Hid (Rd wr (.slice qa qb.length qc) qb) := hrd
            have r0 := hr 0 _ rfl; have r1 := hr 1 _ rfl
            simp only [Nat.add_zero] at r0
            have z0 := (HA2.out.blk.below HB.out).cell 0 _ rfl; have z1 := (HA2.out.blk.below HB.out).cell 1 _ rfl
            have hcl : ∀ (z : WIn (fun w' => Below wr.heap.size wr w')) p v, wr.cell? p = some v → z.w.cell? p = some v := fun z p v hp => (z.ok.cell (World.block_lt_of_cell? wr _ hp)).trans hp
            have s4 := fun z => hcl z _ _ X4; have s0 := fun z => hcl z _ _ r0; have s1 := fun z => hcl z _ _ r1; have t0 := fun z => hcl z _ _ z0; have t1 := fun z => hcl z _ _ z1
            have HD : Hid (Below wr.heap.size wr wr.drew) := (show Below _ _ _ from (Below.refl _ _).drew)
            have ne : Nonempty (WIn (fun w' => Below wr.heap.size wr w')) := ⟨⟨wr, Below.refl _ _⟩⟩
            by_cases hw : qw = rw'
            · rw [if_pos hw] at HF
              have HF2 : Hid (foldU S rw' rs (cws.take (k + 1)) = S.unwrap rs qb) := HF
              have HUn : Hid (∀ w', Below wr.heap.size wr w' → Calls Tryz.prog 73 #[ptr rr, .int .u64 rs, .slice qa qb.length qc] w' fun e w'' => e = .returned (.tuple #[.int .u64 (S.unwrap rs qb).1, .int .i64 (S.unwrap rs qb).2]) ∧ Below w'.heap.size w' w'') := fun w' hb => rorc_unwrap (HO2.out.below (bnext HB.out hb)) HS.out rs (HRQ.out.below hb)
              generalize foldU S rw' rs (cws.take k) = FU at *
              generalize qb.length = nq at *
              clear HF hcl r0 r1 z0 z1 hr hrd hwk hq
              subst hw
              go_upto_region 9 with fail
              refine wp_region_ord (C := fun w' => ∃ z : WIn (fun w' => Below wr.heap.size wr w'), w' = z.w) [(false, 0), (false, 1), (false, 2), (false, 3), (false, 4), (false, 5), (false, 6), (false, 7), (false, 8), (false, 9), (false, 10)] (by kernel_rfl) (by kernel_rfl) ⟨⟨wr.drew, HD.out⟩, rfl⟩ ?_
              iterate 11 (refine ord_still rfl rfl ?_; go_big_quiet_step (exact rfl); refine wpQuiet_nil ?_)
              refine ord_end ?_
              go_upto_region 10 with fail
              refine wp_region_ord (C := fun w' => ∃ z : WIn (fun w' => Below wr.heap.size wr w'), w' = z.w) [(false, 0), (false, 1), (false, 2), (false, 3), (false, 4), (false, 5), (false, 6), (false, 7), (false, 8), (false, 9), (false, 10), (true, 11), (false, 12), (false, 13), (false, 14), (false, 15), (false, 16)] (by kernel_rfl) (by kernel_rfl) ⟨⟨wr.drew.drew, (show Below _ _ _ from HD.out.drew)⟩, rfl⟩ ?_
              iterate 11 (refine ord_still rfl rfl ?_; go_big_quiet_step (exact rfl); refine wpQuiet_nil ?_)
              refine ord_mem rfl rfl ?_
              go_simp
              refine (HUn.out wr.drew.drew (show Below _ _ _ from HD.out.drew)).mono ?_
              rintro r w3 ⟨rfl, hb3⟩
              have HB3 : Hid (Below wr.heap.size wr w3) := (show Below _ _ _ from bnext (show Below wr.heap.size wr wr.drew.drew from HD.out.drew) hb3)
              refine ⟨⟨⟨w3, HB3.out⟩, rfl⟩, ?_⟩
              iterate 5 (refine ord_still rfl rfl ?_; go_big_quiet_step (exact rfl); refine wpQuiet_nil ?_)
              refine ord_end ?_
              go_wp2
              go_roundw
              case rel => exact ⟨k + 1, by go_num, by omega, by rw [HF2.out], by rw [HF2.out], (show Below _ _ _ from bnext HB.out HB3.out)⟩
              case measure => simp [intOf]; omega
            · rw [if_neg hw] at HF
              have HF2 : Hid (foldU S rw' rs (cws.take (k + 1)) = foldU S rw' rs (cws.take k)) := HF
              have hw2 : (qw == rw') = false := by simpa using hw
              generalize foldU S rw' rs (cws.take k) = FU at *
              generalize qb.length = nq at *
              clear HF hcl r0 r1 z0 z1 hr hrd hwk hq hw
              go_upto_region 9 with fail
              refine wp_region_ord (C := fun w' => ∃ z : WIn (fun w' => Below wr.heap.size wr w'), w' = z.w) [(false, 0), (false, 1), (false, 2), (false, 3), (false, 4), (false, 5), (false, 6), (false, 7), (false, 8), (false, 9), (false, 10)] (by kernel_rfl) (by kernel_rfl) ⟨⟨wr.drew, HD.out⟩, rfl⟩ ?_
              iterate 11 (refine ord_still rfl rfl ?_; go_big_quiet_step (exact rfl); refine wpQuiet_nil ?_)
              refine ord_end ?_
              go_wp2
              go_roundw
              case rel => exact ⟨k + 1, by go_num, by omega, by rw [HF2.out], by rw [HF2.out], (show Below _ _ _ from bnext HB.out HD.out)⟩
              case measure => simp [intOf]; omega
          · have hkn : na = k := by omega
            subst hkn
            have htk : cws.take na = cws := List.take_of_length_le (by rw [← HWS.out, List.length_map]; have := HNA.out; omega)
            rw [htk, HU.out]
            obtain ⟨x, uk⟩ := U
            dsimp only at HTG ⊢
            have HB3 : Hid (Below w2.heap.size w2 wr) := HB
            have HA3 : Hid (RgAt 64 [.int .i64 rw', .int .u64 rs] wr (newTo o2 w2 0) j rb ks (.slice av n cap) ov os) := (show RgAt _ _ _ _ _ _ _ _ _ _ from HA2.out.below HB.out)
            have HO3 : Hid (ROrc w0 wr (newTo o2 w2 0) rr S) := (show ROrc _ _ _ _ _ from HO2.out.below HB.out)
            have HK3 : Hid (Kp0 wr (newTo o2 w2 0) (.slice xb nb pb) co) := (show Kp0 _ _ _ _ from HK2.out.mv (Mv.of_below (I := []) 0 HB.out) (by simp))
            have HM3 : Hid (Mv [j] w o wr (newTo o2 w2 0)) := (show Mv _ _ _ _ _ from HM2.out.trans (Mv.of_below 0 HB.out))
            have HOc3 : Hid (newTo o2 w2 0 w.heap.size = 0) := (show _ = _ by rw [newTo_old X2.out.lt]; exact HOc.out)
            have X3 : Hid (Blk wr w.heap.size 80 [.int .i64 3, .int .i64 cw, .int .u64 cp, .int .i64 cm, .slice xa na pa, .slice xb nb pb]) := X2.out.below HB.out
            generalize newTo o2 w2 0 = o3 at *
            have z3 := HA3.out.blk.cell 2 _ rfl
            have HRow : Hid (RowF uc (wr.alloc (.cells #[.int .u64 x] 26)) (.slice (some ⟨wr.heap.size, 0, none⟩) 1 1) [x]) := rowF_one wr x 26
            have HKr : Hid ((wr.alloc (.cells #[.int .u64 x] 26)).ownsRow 0 26 1 (.slice av n cap) ks.length (flat uc ks)) := HA3.out.krow.alloc _
            have HBk : Hid (∀ w4, (wr.alloc (.cells #[.int .u64 x] 26)).grownBy w4 (Value.slice av n cap).ownBlock → Blk w4 rb 64 [.int .i64 rw', .int .u64 rs, .slice av n cap, ov]) := fun w4 hg => (HA3.out.blk.alloc _).past' hg (fun e => (HA3.out.kown rb e).2 rfl)
            have HL4 : Hid ((ks ++ [x]).length = n + 1) := (show _ = _ by rw [List.length_append, ← HN.out]; rfl)
            clear htk HB HA2 HO2 HK2 HM2 HOc HCG2
            go_upto_region 12 with (at_builtin; go_must (refine wpList_append_rows tyK uc_len (by omega) rfl (.tmp 66) (.tmp 68) rfl _ ks rfl HKr.out _ [x] rfl HRow.out (flat_uc_one _) (by have := HI.out; simp; omega) ?_; intro v4 w4 hr4 hg4 hn4; have e3 := (HBk.out w4 hg4).cell 2 _ rfl; have f3 := (HBk.out w4 hg4).frozen 2; obtain ⟨a4, q4, hv4, hq4⟩ := slice_of_own hr4; rw [HL4.out] at hv4; subst hv4))
            obtain ⟨o4, A4, M4⟩ := HA3.out.addKey HJ.out.1 (p := 2) rfl hr4 hg4 hn4
            have MM4 : Mv [j] w o (w4.setCell ⟨rb, 2, none⟩ (.slice a4 (n + 1) q4)) o4 := HM3.out.trans M4
            have X4b : Blk (w4.setCell ⟨rb, 2, none⟩ (.slice a4 (n + 1) q4)) w.heap.size 80 [.int .i64 3, .int .i64 cw, .int .u64 cp, .int .i64 cm, .slice xa na pa, .slice xb nb pb] := X3.out.block (M4.block w.heap.size X3.out.lt (by rw [HOc3.out]; simp; exact fun e => HJ.out.1 e.symm))
            have hO4 : o4 w.heap.size = 0 := by rw [M4.ext _ X3.out.lt]; exact HOc3.out
            have hK4 : Kp0 (w4.setCell ⟨rb, 2, none⟩ (.slice a4 (n + 1) q4)) o4 (.slice xb nb pb) co := HK3.out.mv M4 (by simp; exact fun e => HJ.out.1 e.symm)
            have HO4 : Hid (o4 w.heap.size = 0) := hO4
            generalize w4.setCell ⟨rb, 2, none⟩ (.slice a4 (n + 1) q4) = w5 at *
            have HA5 : Hid (RgAt 64 [.int .i64 rw', .int .u64 rs] w5 o4 j rb (ks ++ [x]) (.slice a4 (n + 1) q4) ov os) := A4
            have HM5 : Hid (Mv [j] w o w5 o4) := MM4
            have X5 : Hid (Blk w5 w.heap.size 80 [.int .i64 3, .int .i64 cw, .int .u64 cp, .int .i64 cm, .slice xa na pa, .slice xb nb pb]) := X4b
            have HK5 : Hid (Kp0 w5 o4 (.slice xb nb pb) co) := hK4
            clear A4 M4 MM4 X4b hr4 hg4 hn4 e3 f3 hq4 z3 HRow HKr HBk hK4 HA3 HK3 HM3 hO4 X4
            obtain ⟨ao, co2, hov, _, _⟩ := HA5.out.oslice
            subst hov
            have hosn : os.length = n := by have := HI.out; rw [← this.1, List.length_map] at this; have := HN.out; omega
            have HOSN : Hid (os.length = n) := hosn
            rw [hosn] at HA5
            have y4 : ∀ z : WIn (fun w' => Blk w' rb 64 [.int .i64 rw', .int .u64 rs, .slice a4 (n + 1) q4, .slice ao n co2] ∧ Blk w' w.heap.size 80 [.int .i64 3, .int .i64 cw, .int .u64 cp, .int .i64 cm, .slice xa na pa, .slice xb nb pb]), z.w.cell? ⟨rb, 3, none⟩ = some (.slice ao n co2) := fun z => z.ok.1.cell 3 _ rfl
            have y5 : ∀ z : WIn (fun w' => Blk w' rb 64 [.int .i64 rw', .int .u64 rs, .slice a4 (n + 1) q4, .slice ao n co2] ∧ Blk w' w.heap.size 80 [.int .i64 3, .int .i64 cw, .int .u64 cp, .int .i64 cm, .slice xa na pa, .slice xb nb pb]), z.w.cell? ⟨w.heap.size, 5, none⟩ = some (.slice xb nb pb) := fun z => z.ok.2.cell 5 _ rfl
            have ne : Nonempty (WIn (fun w' => Blk w' rb 64 [.int .i64 rw', .int .u64 rs, .slice a4 (n + 1) q4, .slice ao n co2] ∧ Blk w' w.heap.size 80 [.int .i64 3, .int .i64 cw, .int .u64 cp, .int .i64 cm, .slice xa na pa, .slice xb nb pb])) := ⟨⟨w5, HA5.out.blk, X5.out⟩⟩
            have HA6 : Hid (RgAt 64 [.int .i64 rw', .int .u64 rs] w5.drew o4 j rb (ks ++ [x]) (.slice a4 (n + 1) q4) (.slice ao n co2) os) := (show RgAt _ _ _ _ _ _ _ _ _ _ from HA5.out.mv (I := []) ⟨rfl, rfl, rfl, Nat.le_refl _, fun _ _ => rfl, fun _ _ _ => rfl⟩ (by simp) (by simp))
            have HK6 : Hid (Kp0 w5.drew o4 (.slice xb nb pb) co) := (show Kp0 _ _ _ _ from ⟨HK5.out.1.drew, HK5.out.2⟩)
            have HM6 : Hid (Mv [j] w o w5.drew o4) := (show Mv _ _ _ _ _ from HM5.out.trans ⟨rfl, rfl, rfl, Nat.le_refl _, fun _ _ => rfl, fun _ _ _ => rfl⟩)
            have X6 : Hid (Blk w5.drew w.heap.size 80 [.int .i64 3, .int .i64 cw, .int .u64 cp, .int .i64 cm, .slice xa na pa, .slice xb nb pb]) := X5.out
            refine wp_region_treeZ (C := fun w' => ∃ z : WIn (fun w' => Blk w' rb 64 [.int .i64 rw', .int .u64 rs, .slice a4 (n + 1) q4, .slice ao n co2] ∧ Blk w' w.heap.size 80 [.int .i64 3, .int .i64 cw, .int .u64 cp, .int .i64 cm, .slice xa na pa, .slice xb nb pb]), w' = z.w) 11 (.still 0 (.still 1 (.still 2 (.still 3 (.still 4 (.still 5 (.still 6 (.one 7 (.one 8 (.one 9 (.still 10 .done))))))))))) rfl (by kernel_rfl) (by kernel_rfl) ⟨⟨w5.drew, HA6.out.blk, X6.out⟩, rfl⟩ ?_
            generalize w5.drew = w6 at *
            iterate 7 (refine tree_still rfl rfl ?_; go_big_quiet_step (fail); refine wpQuiet_nil ?_)
            refine tree_one rfl rfl ?_
            go_simp
            have HOr : Hid ((w6.alloc (.cells #[.slice xb nb pb] 25)).ownsRow 0 25 1 (.slice ao n co2) os.length (flat lc os)) := HA6.out.orow.alloc _
            have HRo : Hid (RowF lc (w6.alloc (.cells #[.slice xb nb pb] 25)) (.slice (some ⟨w6.heap.size, 0, none⟩) 1 1) [((.slice xb nb pb, co) : VB)]) := rowF_one w6 ((.slice xb nb pb, co) : VB) 25
            refine ⟨⟨⟨_, HA6.out.blk.alloc _, X6.out.alloc _⟩, rfl⟩, ?_⟩
            go_simp
            refine tree_one rfl rfl ?_
            refine wp_of_list rfl ?_
            refine wpList_append_rows tyO lc_len (by omega) rfl (.tmp 76) (.tmp 79) rfl _ os rfl HOr.out _ [((.slice xb nb pb, co) : VB)] rfl HRo.out (flat_one fun q hq u hu => by simp at hq; subst hq; simp [lc] at hu; subst hu; rfl) (by have := HOSN.out; simp; omega) ?_
            intro v7 w7 hr7 hg7 hn7
            have hb7 : Blk w7 rb 64 [.int .i64 rw', .int .u64 rs, .slice a4 (n + 1) q4, .slice ao n co2] := (HA6.out.blk.alloc _).past' hg7 (fun e => (HA6.out.oown rb e).2 rfl)
            have hx7 : Blk w7 w.heap.size 80 [.int .i64 3, .int .i64 cw, .int .u64 cp, .int .i64 cm, .slice xa na pa, .slice xb nb pb] := (X6.out.alloc _).past' hg7 (fun e => by
              have h9 := (HA6.out.oown _ e).1
              rw [HO4.out] at h9
              exact HJ.out.1 h9.symm)
            obtain ⟨o8, A8, M8⟩ := HA6.out.addOld HJ.out.1 (q := (.slice xb nb pb, co)) HK6.out (p := 3) rfl hr7 hg7 hn7
            have hlen7 : (os ++ [((.slice xb nb pb, co) : VB)]).length = n + 1 := by rw [List.length_append, HOSN.out]; rfl
            obtain ⟨a7, q7, hv7, hq7⟩ := slice_of_own hr7
            rw [hlen7] at hv7
            subst hv7
            obtain ⟨qs2, hqs2⟩ : ∃ qs2, qs2 = os ++ [((.slice xb nb pb, co) : VB)] := ⟨_, rfl⟩
            rw [← hqs2] at A8 hlen7
            have HI2 : Hid (qs2.map (·.2) = ro ++ [co] ∧ (ro ++ [co]).length = n + 1 ∧ n + 1 ≤ 20) := ⟨by rw [hqs2, List.map_append, HI.out.1]; rfl, by rw [List.length_append, HI.out.2.1, ← HN.out]; rfl, by omega⟩
            have HQL : Hid (qs2.length = n + 1) := hlen7
            have HA8 : Hid (RgAt 64 [.int .i64 rw', .int .u64 rs] (w7.setCell ⟨rb, 3, none⟩ (.slice a7 (n + 1) q7)) o8 j rb (ks ++ [x]) (.slice a4 (n + 1) q4) (.slice a7 (n + 1) q7) qs2) := A8
            have HM8 : Hid (Mv [j] w o (w7.setCell ⟨rb, 3, none⟩ (.slice a7 (n + 1) q7)) o8) := (show Mv _ _ _ _ _ from HM6.out.trans M8)
            have HO8 : Hid (ROrc w0 (w7.setCell ⟨rb, 3, none⟩ (.slice a7 (n + 1) q7)) o8 rr S) := (show ROrc _ _ _ _ _ from HO.out.mv HM8.out (by simp; exact fun e => HJ.out.1 e.symm) (by simp; exact fun e => HJ.out.2 e.symm))
            have l4 := hb7.cell 3 _ rfl
            have l5 := hb7.frozen 3
            clear A8 M8 hr7 hg7 hn7 hq7 hlen7 hqs2
            refine ⟨rfl, ⟨⟨_, hb7, hx7⟩, rfl⟩, ?_⟩
            go_simp
            refine tree_one rfl rfl ?_
            go_simp
            refine ⟨⟨⟨_, hb7, hx7⟩, rfl⟩, ?_⟩
            go_simp
            iterate 1 (refine tree_still rfl rfl ?_; go_big_quiet_step (fail); refine wpQuiet_nil ?_)
            refine tree_done ?_
            refine ⟨rfl, ?_⟩
            go_simp
            generalize w7.setCell ⟨rb, 3, none⟩ (.slice a7 (n + 1) q7) = w8 at *
            obtain ⟨gk, ck2, hkv, hck1, hck2, _⟩ := HA8.out.kcell (i := 0) (by rw [HL4.out]; omega)
            have hkv2 : a4 = some ⟨gk, 0, none⟩ ∧ n + 1 = (ks ++ [x]).length ∧ q4 = ck2 := by simpa using hkv
            obtain ⟨hkv3, hkv5, hkv4⟩ := hkv2
            subst hkv3
            have hq41 : n + 1 ≤ q4 := by rw [hkv4]; rw [HL4.out] at hck1; exact hck1
            have hq42 : q4 ≤ 9223372036854775807 := by rw [hkv4]; exact hck2
            clear hkv hck1 hck2 hkv4 hkv5 l4 l5 hb7 hx7 y4 y5 ne HA6 HK6 HM6 X6 HOr HRo HA5 HM5 X5 HK5 HO3 X3
            obtain ⟨gO, cO, hov2, _, _⟩ := own_some HA8.out.orow (by rw [HQL.out]; omega)
            have hov3 : a7 = some ⟨gO, 0, none⟩ := by
              have : a7 = some ⟨gO, 0, none⟩ ∧ n + 1 = qs2.length ∧ q7 = cO := by simpa using hov2
              exact this.1
            subst hov3
            clear hov2
            have d2 := HA8.out.blk.cell 2 _ rfl
            have hnm : ((n + 1 : Nat) : Int) - 1 = (n : Int) := by omega
            go_wp2
            go_loopw [10] (fun i wr2 => ∃ (k : Nat), i = .int .i64 k ∧ k ≤ n ∧ ∃ (ks1 : List Int) (o1 : Nat → Nat), Hid (RgAt 64 [.int .i64 rw', .int .u64 rs] wr2 o1 j rb ks1 (.slice (some ⟨gk, 0, none⟩) (n + 1) q4) (.slice (some ⟨gO, 0, none⟩) (n + 1) q7) qs2) ∧ Hid (Mv [j] w o wr2 o1) ∧ Hid (backF S (ro ++ [co]) k ks1 = TG) ∧ Hid (ks1.length = n + 1)) (fun i _ => (intOf i).toNat)
            case atStart => exact ⟨n, by go_num, Nat.le_refl _, ks ++ [x], o8, HA8.out, HM8.out, HTG.out, HL4.out⟩
            case round =>
              obtain ⟨k2, rfl, hk2, ks1, o1, HA, HM, HT, HK1⟩ := hrel
              have b3 := HA.out.blk.cell 2 _ rfl
              cases k2 with
              | zero =>
                have HE : TG = ks1 := HT.out.symm
                clear HT
                go_wp2
                go_ret
                refine ⟨rfl, o1, ?_, HM.out⟩
                rw [HLP.out, HE]
                exact ⟨_, _, qs2, HA.out, HI2.out.1, (show _ = _ by dsimp only; rw [HK1.out]; exact HI2.out.2.1), (show _ ≤ _ by dsimp only; rw [HK1.out]; exact HI2.out.2.2)⟩
              | succ k2 =>
                obtain ⟨gg, cc, ee, _, _, hc1b⟩ := HA.out.kcell (i := 0) (by rw [HK1.out]; omega)
                have e3 : gk = gg ∧ n + 1 = ks1.length ∧ q4 = cc := by simpa using ee
                rw [← e3.1] at hc1b
                clear ee e3
                have b5 := hc1b (k2 + 1) (by rw [HK1.out]; omega)
                have b6 := hc1b k2 (by rw [HK1.out]; omega)
                have hkk : ((k2 + 1 : Nat) : Int) - 1 = (k2 : Int) := by omega
                clear hc1b
                by_cases ha : ks1.getD (k2 + 1) 0 = 0
                · have HE : TG = ks1 := by rw [← HT.out]; exact backF_no (fun q => q.1 ha)
                  rw [ha] at b5
                  clear HT ha
                  go_wp2
                  go_ret
                  refine ⟨rfl, o1, ?_, HM.out⟩
                  rw [HLP.out, HE]
                  exact ⟨_, _, qs2, HA.out, HI2.out.1, (show _ = _ by dsimp only; rw [HK1.out]; exact HI2.out.2.1), (show _ ≤ _ by dsimp only; rw [HK1.out]; exact HI2.out.2.2)⟩
                · by_cases hb : ks1.getD k2 0 = 0
                  · obtain ⟨q, hq⟩ : ∃ q, qs2[k2 + 1]? = some q := ⟨_, List.getElem?_eq_getElem (by rw [HQL.out]; omega)⟩
                    obtain ⟨g9, c9, e9, _, _, hc9⟩ := HA.out.ocell hq
                    have e10 : gO = g9 ∧ n + 1 = qs2.length ∧ q7 = c9 := by simpa using e9
                    rw [← e10.1] at hc9
                    have hko := HA.out.olds q (List.mem_of_getElem? hq)
                    have hqo : (ro ++ [co]).getD (k2 + 1) [] = q.2 := by rw [← HI2.out.1]; exact getD_map hq
                    have HG : Hid (backF S (ro ++ [co]) k2 (ks1.set k2 (aheadM S (ks1.getD (k2 + 1) 0) (k2 + 1) ((ro ++ [co]).getD (k2 + 1) []))) = TG) := (show _ = _ by rw [← HT.out]; exact (backF_go ha hb).symm)
                    have HStop : Hid (aheadM S (ks1.getD (k2 + 1) 0) (k2 + 1) ((ro ++ [co]).getD (k2 + 1) []) = 0 → TG = ks1) := (fun h0 => by rw [← HT.out]; exact backF_stop ha hb h0)
                    rw [hqo] at HG HStop
                    obtain ⟨qv, ql⟩ := q
                    dsimp only at HG HStop hko hc9
                    obtain ⟨qa, qc, hqv⟩ := hko.1.len
                    subst hqv
                    have HKO : Hid (Rd wr (.slice qa ql.length qc) ql) := hko.1
                    rw [hb] at b6
                    have hka : (ks1.getD (k2 + 1) 0 == 0) = false := by simpa using ha
                    have hkb : (ks1.getD (k2 + 1) 0 != 0) = true := by simpa using ha
                    generalize ks1.getD (k2 + 1) 0 = xk at *
                    have HOr8 : Hid (ROrc w0 wr o1 rr S) := (show ROrc _ _ _ _ _ from HO.out.mv HM.out (by simp; exact fun e => HJ.out.1 e.symm) (by simp; exact fun e => HJ.out.2 e.symm))
                    have HNm : Hid (∀ w' : World, Calls Tryz.prog 60 #[.int .u64 ((k2 + 1 : Nat) : Int)] w' fun r w'' => ∃ v', r = .returned v' ∧ Own w'.heap.size 5 w'' v' (form (k2 + 1)) ∧ Below w'.heap.size w' w'') := fun w' => refnum_any 10 (k2 + 1) w' (Nat.lt_of_lt_of_le (show k2 + 1 < 21 by omega) (by decide)) (by omega) (by omega) (by omega)
                    have HOp : Hid (∀ (w' : World) (u : Value), Below wr.heap.size wr w' → Rd w' u (form (k2 + 1)) → Calls Tryz.prog 42 #[ptr rr, .int .u64 xk, u, .slice qa ql.length qc] w' fun r w'' => ∃ v', r = .returned (.tuple #[v', .int .i64 (S.open xk (form (k2 + 1)) ql).2]) ∧ Rd w'' v' (S.open xk (form (k2 + 1)) ql).1 ∧ Below w'.heap.size w' w'') := fun w' u hb' hu => rorc_open (HOr8.out.below hb') xk hu (HKO.out.below hb')
                    have hcl2 : ∀ (z : WIn (fun w' => Below wr.heap.size wr w')) p v, wr.cell? p = some v → z.w.cell? p = some v := fun z p v hp => (z.ok.cell (World.block_lt_of_cell? wr _ hp)).trans hp
                    have b4 := HA.out.blk.cell 3 _ rfl
                    have y2 := fun z => hcl2 z _ _ b3; have y3 := fun z => hcl2 z _ _ b4; have y5 := fun z => hcl2 z _ _ b5; have y6 := fun z => hcl2 z _ _ hc9
                    have HD : Hid (Below wr.heap.size wr wr.drew) := (show Below _ _ _ from (Below.refl _ _).drew)
                    have ne : Nonempty (WIn (fun w' => Below wr.heap.size wr w')) := ⟨⟨wr, Below.refl _ _⟩⟩
                    unfold aheadM at HG HStop
                    generalize S.open xk (form (k2 + 1)) ql = OPN at *
                    obtain ⟨pl, kd⟩ := OPN
                    dsimp only at HOp HG HStop
                    generalize ql.length = nql at *
                    clear hcl2 hq e9 e10 hko hqo ha hb HT hc9 b4
                    have hk20 : k2 + 1 < 20 := by omega
                    go_upto_region 16 with fail
                    refine wp_region_ord (C := fun w' => ∃ z : WIn (fun w' => Below wr.heap.size wr w'), w' = z.w) [(false, 0), (false, 1), (false, 2), (false, 3), (false, 4), (false, 5), (false, 6), (false, 7), (false, 8), (false, 9), (false, 11), (false, 12), (false, 13), (false, 14), (false, 15), (false, 16), (false, 17), (true, 10), (true, 18), (false, 19), (false, 20), (false, 21), (false, 22), (false, 23)] (by kernel_rfl) (by kernel_rfl) ⟨⟨wr.drew, HD.out⟩, rfl⟩ ?_
                    iterate 17 (refine ord_still rfl rfl ?_; go_big_quiet_step (exact rfl); refine wpQuiet_nil ?_)
                    refine ord_mem rfl rfl ?_
                    go_simp
                    refine (HNm.out wr.drew).mono ?_
                    rintro r w9 ⟨v9, rfl, ho9, hb9⟩
                    obtain ⟨a9, c9', hv9⟩ := ho9.rd.len
                    subst hv9
                    have HB9 : Hid (Below wr.heap.size wr w9) := (show Below _ _ _ from bnext HD.out hb9)
                    refine ⟨⟨⟨w9, HB9.out⟩, rfl⟩, ?_⟩
                    refine ord_mem rfl rfl ?_
                    go_simp
                    refine (HOp.out w9 _ HB9.out ho9.rd).mono ?_
                    rintro r w10 ⟨v10, rfl, hr10, hb10⟩
                    obtain ⟨a10, c10, hv10⟩ := hr10.len
                    subst hv10
                    have HB10 : Hid (Below wr.heap.size wr w10) := (show Below _ _ _ from bnext HB9.out hb10)
                    have HR10 : Hid (Rd w10 (.slice a10 pl.length c10) pl) := hr10
                    refine ⟨⟨⟨w10, HB10.out⟩, rfl⟩, ?_⟩
                    iterate 5 (refine ord_still rfl rfl ?_; go_big_quiet_step (exact rfl); refine wpQuiet_nil ?_)
                    refine ord_end ?_
                    have HA10 : Hid (RgAt 64 [.int .i64 rw', .int .u64 rs] w10 (newTo o1 wr 0) j rb ks1 (.slice (some ⟨gk, 0, none⟩) (n + 1) q4) (.slice (some ⟨gO, 0, none⟩) (n + 1) q7) qs2) := (show RgAt _ _ _ _ _ _ _ _ _ _ from HA.out.below HB10.out)
                    have HM10 : Hid (Mv [j] w o w10 (newTo o1 wr 0)) := (show Mv _ _ _ _ _ from HM.out.trans (Mv.of_below 0 HB10.out))
                    generalize newTo o1 wr 0 = o10 at *
                    have d6 : w10.cell? ⟨gk, k2, none⟩ = some (.int .u64 0) := (HB10.out.cell (World.block_lt_of_cell? wr _ b6)).trans b6
                    clear hr10 hb10 ho9 hb9 y2 y3 y5 y6 HOp HNm HOr8 b3 b5 b6 HD ne HB9 HA HM HKO
                    by_cases hkd : kd = 0
                    · subst hkd
                      by_cases h8 : pl.length = 8
                      · rw [if_pos ⟨rfl, h8⟩] at HG
                        obtain ⟨hOct, ap, cpp, hep, hp1, hp2, hp3, hp4⟩ := HR10.out
                        have hep2 : a10 = ap ∧ c10 = cpp := by simpa using hep
                        obtain ⟨b10, off10, hb10', hcp⟩ := hp4 (by omega)
                        have haz : a10 = some ⟨b10, off10, none⟩ := by rw [hep2.1]; exact hb10'
                        subst haz
                        have hcz : 8 ≤ c10 := by rw [hep2.2]; omega
                        have hcy : c10 ≤ 9223372036854775807 := by rw [hep2.2]; unfold maxLen at hp2; omega
                        have HCP : Hid (∀ jj, jj < pl.length → w10.cell? ⟨b10, off10 + jj, none⟩ = some (.int .u8 (pl.getD jj 0))) := hcp
                        have HOC : Hid (Oct pl) := hOct
                        have H8 : Hid (pl.length = 8) := h8
                        have HU8 : Hid (ofBe8 pl = upTo pl 8) := (rfl : ofBe8 pl = upTo pl 8)
                        rw [h8]
                        clear hep hp1 hp2 hp3 hp4 hb10' hcp hep2 hOct h8 HR10 HStop
                        go_wp2
                        go_loopw [13, 14] (fun nv iv wr3 => ∃ k3 : Nat, k3 ≤ 8 ∧ iv = .int .i64 k3 ∧ nv = .int .u64 (upTo pl k3) ∧ wr3 = w10) (fun _ iv _ => 8 - (intOf iv).toNat)
                        case atStart => exact ⟨0, by omega, rfl, rfl, rfl⟩
                        case round =>
                          obtain ⟨k3, hk3, rfl, rfl, rfl⟩ := hrel
                          by_cases hk8 : k3 < 8
                          · have hl8 := H8.out
                            have cj := HCP.out k3 (by omega)
                            have hx := HOC.out.at k3
                            have hu := upTo_bound HOC.out k3 (by omega)
                            have hu2 : (256 : Int) ^ k3 ≤ 256 ^ 7 := by
                              have : (256 : Nat) ^ k3 ≤ 256 ^ 7 := Nat.pow_le_pow_right (by omega) (by omega)
                              have h3 := Int.ofNat_le.2 this
                              rw [Int.natCast_pow, Int.natCast_pow] at h3
                              exact h3
                            have e7 : (256 : Int) ^ 7 = 72057594037927936 := by decide
                            have HS1 : Hid (upTo pl (k3 + 1) = upTo pl k3 * 256 + pl.getD k3 0) := upTo_succ (by omega)
                            obtain ⟨y, hy⟩ : ∃ y, pl.getD k3 0 = y := ⟨_, rfl⟩
                            rw [hy] at cj hx HS1
                            clear hy
                            have m1 : IntKind.u64.wrap (upTo pl k3 * 256) = upTo pl k3 * 256 := wraps_u64 _ (by omega) (by omega)
                            have m2 : IntKind.u64.wrap (upTo pl k3 * 256 + y) = upTo pl k3 * 256 + y := wraps_u64 _ (by omega) (by omega)
                            have m3 : IntKind.u64.wrap y = y := wraps_u64 _ (by omega) (by omega)
                            clear hu hu2 e7 hl8
                            generalize upTo pl k3 = NN at HS1 m1 m2 ⊢
                            go_wp2
                            go_roundw
                            case rel => exact ⟨k3 + 1, by omega, by go_num, by rw [HS1.out], by first | rfl | trivial⟩
                            case measure => simp [intOf]; omega
                          · obtain rfl : k3 = 8 := by omega
                            rw [← HU8.out]
                            obtain ⟨A, hA⟩ : ∃ A, A = ofBe8 pl := ⟨_, rfl⟩
                            rw [← hA] at HG ⊢
                            have d2 := HA10.out.blk.cell 2 _ rfl
                            have HK2b : n + 1 = ks1.length := by have := HK1.out; omega
                            have hk3r := HA10.out.krow
                            rw [← HK2b] at hk3r
                            have d7 := hk3r.frozenAt k2
                            have hs := HA10.out
                            have hn1 : Value.slice (some ⟨gk, 0, none⟩) (n + 1) q4 = Value.slice (some ⟨gk, 0, none⟩) ks1.length q4 := by rw [HK2b]
                            rw [hn1] at hs
                            obtain ⟨s1, s2⟩ := hs.setKey HJ.out.1 (i := k2) (by omega) A
                            rw [List.length_set, ← hn1] at s1
                            have HS1 : Hid (RgAt 64 [.int .i64 rw', .int .u64 rs] (wr.setCell ⟨gk, k2, none⟩ (.int .u64 A)) (newTo o10 wr 0) j rb (ks1.set k2 A) (.slice (some ⟨gk, 0, none⟩) (n + 1) q4) (.slice (some ⟨gO, 0, none⟩) (n + 1) q7) qs2) := s1
                            have HS2 : Hid (Mv [j] w o (wr.setCell ⟨gk, k2, none⟩ (.int .u64 A)) (newTo o10 wr 0)) := (show Mv _ _ _ _ _ from HM10.out.trans s2)
                            have HG2 : Hid (backF S (ro ++ [co]) k2 (ks1.set k2 A) = TG) := HG
                            clear s1 s2 hs HK2b hk3r hn1 hA HG
                            go_wp2
                            go_roundw
                            case rel => exact ⟨k2, by go_num, by omega, ks1.set k2 A, _, HS1.out, HS2.out, HG2.out, (show _ = _ by rw [List.length_set]; exact HK1.out)⟩
                            case measure => simp [intOf]
                      · rw [if_neg (fun h => h8 h.2)] at HStop
                        have HE : TG = ks1 := HStop.out rfl
                        have h9 : ((pl.length : Int) != 8) = true := by simp; omega
                        generalize pl.length = npl at *
                        have HA := HA10
                        have HM := HM10
                        obtain ⟨o1, ho1⟩ : ∃ o1, o1 = o10 := ⟨_, rfl⟩
                        rw [← ho1] at HA HM
                        clear h8 HStop HG HA10 HM10 ho1 HR10
                        go_wp2
                        go_ret
                        refine ⟨rfl, o1, ?_, HM.out⟩
                        rw [HLP.out, HE]
                        exact ⟨_, _, qs2, HA.out, HI2.out.1, (show _ = _ by dsimp only; rw [HK1.out]; exact HI2.out.2.1), (show _ ≤ _ by dsimp only; rw [HK1.out]; exact HI2.out.2.2)⟩
                    · rw [if_neg (fun h => hkd h.1)] at HStop
                      have HE : TG = ks1 := HStop.out rfl
                      have h9 : (kd != 0) = true := by simpa using hkd
                      have HA := HA10
                      have HM := HM10
                      obtain ⟨o1, ho1⟩ : ∃ o1, o1 = o10 := ⟨_, rfl⟩
                      rw [← ho1] at HA HM
                      clear hkd HStop HG HA10 HM10 ho1 HR10
                      go_wp2
                      go_ret
                      refine ⟨rfl, o1, ?_, HM.out⟩
                      rw [HLP.out, HE]
                      exact ⟨_, _, qs2, HA.out, HI2.out.1, (show _ = _ by dsimp only; rw [HK1.out]; exact HI2.out.2.1), (show _ ≤ _ by dsimp only; rw [HK1.out]; exact HI2.out.2.2)⟩
                  · have HE : TG = ks1 := by rw [← HT.out]; exact backF_no (fun q => hb q.2)
                    have hka : (ks1.getD (k2 + 1) 0 == 0) = false := by simpa using ha
                    have hkb : (ks1.getD (k2 + 1) 0 != 0) = true := by simpa using ha
                    have hkc : (ks1.getD k2 0 == 0) = false := by simpa using hb
                    generalize ks1.getD (k2 + 1) 0 = xk at *
                    generalize ks1.getD k2 0 = xb2 at *
                    clear HT ha hb
                    go_wp2
                    go_ret
                    refine ⟨rfl, o1, ?_, HM.out⟩
                    rw [HLP.out, HE]
                    exact ⟨_, _, qs2, HA.out, HI2.out.1, (show _ = _ by dsimp only; rw [HK1.out]; exact HI2.out.2.1), (show _ ≤ _ by dsimp only; rw [HK1.out]; exact HI2.out.2.2)⟩
    · unfold learnR
      rw [learnG_no (fun h => h3 h.2)]
      have hk3 : (ck != 3) = true := by simpa using h3
      dsimp only
      clear h3 hrt
      go_enter Tryz.func31, Tryz.ntmps31
      go_upto_region 1 with fail
      rw [← HW1.out]
      go_wp2_with (go_at_call 67; go_must (refine (HRt.out w1 HB1.out).mono ?_; rintro r w2 ⟨rfl, hb2⟩; have y0 := (X1.out.below hb2).cell 0 _ rfl))
      go_ret
      exact ⟨rfl, _, HRI.out.mv (Mv.of_below (I := []) 0 (bnext HB1.out hb2)) (by simp) (by simp), Mv.of_below 0 (bnext HB1.out hb2)⟩
end Go.Proofs.YtjbpfhnagiacmaaGreat
