/-
  The reference's Set.
-/
import Derived.Test.YthnjbjlhfohpfaaGreatTrP
import Derived.Test.YthnjbjlhfohpfaaGreatTrU
namespace Go.Proofs.YthnjbjlhfohpfaaGreat
set_option linter.unusedVariables false
set_option linter.unusedSimpArgs false
set_option synthInstance.maxSize 20000
set_option maxHeartbeats 2000000
set_option maxRecDepth 20000
open Go.RowKit Go.Maps

theorem exec_ne24 {o : Oper} {r : Operand → Value} {w : World} {a b : S} (x y : Operand) (ho : o.op = .binOp .neq 35 x y 35) (hx : r x = sv a) (hy : r y = sv b) : (execOp r o).run Tryz.prog w = .ok (.value (.bool (!decide (a = b)))) w := by
  obtain ⟨a1, a2⟩ := a
  obtain ⟨b1, b2⟩ := b
  unfold sv at hx hy
  dsimp only at hx hy
  have e : decide ((a1, a2) = (b1, b2)) = (a1 == b1 && a2 == b2) := by
    by_cases h1 : a1 = b1 <;> by_cases h2 : a2 = b2 <;> simp [h1, h2]
  rw [e]
  unfold execOp
  simp only [ho]
  go_simp
  by_cases h1 : a1 = b1 <;> by_cases h2 : a2 = b2 <;> simp [h1, h2]
theorem exec_store30 {o : Oper} {r : Operand → Value} {w : World} {b off : Nat} {a : Option Addr} {n c : Nat} {u : Value} (x y : Operand) (ho : o.op = .store 47 x y) (hx : r x = .pointer (some ⟨b, off, none⟩)) (hy : r y = .slice a n c) (hc : w.cell? ⟨b, off, none⟩ = some u) (hf : w.frozen? ⟨b, off, none⟩ = false) : (execOp r o).run Tryz.prog w = .ok .skip (w.setCell ⟨b, off, none⟩ (.slice a n c)) := by
  unfold execOp
  simp only [ho]
  go_simp
theorem range_node {w : World} {b off : Nat} {x : IT} (h : w.rangeAt b off (ic x)) : w.rangeAt b off (sc x.m.n) := by
  intro j u hj
  match j, hj with
  | 0, hj => exact h 0 u hj
  | 1, hj => exact h 1 u hj
  | j + 2, hj => simp [sc] at hj
theorem OwnT.at_drew {B : Nat} {wa wz : World} {v : Value} {O : List IT} (ho : OwnT B wa v O) (h : wz = wa.drew) : OwnT B wz v O := by
  rw [h]
  exact ho.below (below_drewn wa 1)
theorem set_end {w w1 wq : World} {tb : Nat} {a : Option Addr} {n c : Nat} {v' : Value} {L O : List IT} {it : IT} (hR : RTr w tb (.slice a n c) L) (hit : Rd w it.v it.m.b) (h1 : Below w.heap.size w w1) (hq : Below w1.heap.size w1 wq) (ho : OwnT w1.heap.size wq v' O) (hm : ∀ x ∈ O, x ∈ L ∨ x = it) :
    RTr (wq.setCell ⟨tb, 0, none⟩ v') tb v' O ∧ w.grownBy (wq.setCell ⟨tb, 0, none⟩ v') (some tb) ∧ ∀ k, v'.ownBlock = some k → w.heap.size ≤ k := by
  have hb := bnext h1 hq
  have hRq := hR.below hb
  have hlt : tb < w.heap.size := Blk.lt hR.blk
  have hg : wq.grownBy (wq.setCell ⟨tb, 0, none⟩ v') (some tb) := grown_setCells tb [v'] 0 wq
  refine ⟨⟨?_, ?_, fun x hx => ?_⟩, grown_none (below_grown hb) hg, fun k hk => Nat.le_trans h1.size (ho.new k hk)⟩
  · have := Blk.setCells hRq.blk 0 [v'] (by simp)
    have e : splice [Value.slice a n c] 0 [v'] = [v'] := rfl
    rw [e] at this
    exact this
  · exact ho.row.blocks fun j hj hlt2 => hg.block j hlt2 fun e => by
      have h2 := ho.new j hj
      have h3 := h1.size
      have := Option.some.inj e
      omega
  · refine rd_past ?_ hRq.blk (fun n => by simp) hg
    rcases hm x hx with h | rfl
    · exact hRq.rd x h
    · exact hit.below hb
/-- What the reference's Set answers. -/
def SetAns (w : World) (tb : Nat) (L : List IT) (it : IT) (there : Bool) (e : Ending) (w' : World) : Prop := e = .returned (.tuple #[]) ∧ ∃ v', RTr w' tb v' (setT L it there) ∧ w.grownBy w' (some tb) ∧ ∀ k, v'.ownBlock = some k → w.heap.size ≤ k
set_option maxHeartbeats 8000000 in
theorem set38 {w : World} {tb : Nat} {v : Value} {L : List IT} (h : RTr w tb v L) (hlen : L.length ≤ 1000) (hsr : SrtI (L.map IT.m)) (it : IT) (hit : Rd w it.v it.m.b) (there : Bool) :
    Calls Tryz.prog 54 #[ptr tb, iv it, .bool there] w (SetAns w tb L it there) := by
  obtain ⟨a, c, rfl⟩ := h.row.len
  have hcap := h.row.caps
  have HRT : Hid (RTr w tb (.slice a L.length c) L) := h
  have HSR : Hid (SrtI (L.map IT.m)) := hsr
  have HIT : Hid (Rd w it.v it.m.b) := hit
  have HH0 : Hid (Hf it there [] (!there) []) := hf_start it there
  clear h hsr hit
  obtain ⟨w1, hw1⟩ : ∃ w1, w1 = w.alloc (.cells (ic it).toArray 76) := ⟨_, rfl⟩
  obtain ⟨B0, hB0⟩ : ∃ B0, B0 = w.heap.size := ⟨_, rfl⟩
  have HB1 : Hid (Below w.heap.size w w1) := by show Below _ _ _; rw [hw1]; exact balloc (Below.refl _ _) _
  have HN1 : Hid (Itb w1 B0 it) := by show Itb _ _ _; rw [hw1, hB0]; exact itb_new w it
  have HIr : Hid (∀ w', Below w1.heap.size w1 w' → w'.rangeAt B0 0 (ic it)) := fun w' hb => (HN1.out.below hb).range
  have HIn : Hid (∀ w', Below w1.heap.size w1 w' → w'.rangeAt B0 0 (sc it.m.n)) := fun w' hb => range_node (HIr.out w' hb)
  go_enter Tryz.func54, Tryz.ntmps54
  go_upto_region 1 with (refine wpList_okw rfl (exec_box41 (q := it) (.tmp 1) rfl rfl) ?_)
  rw [← hw1, ← hB0]
  clear hw1 hB0 HN1
  go_wp2
  go_loopw [6, 7, 8] (fun vo vi i wr => ∃ (k : Nat) (inn : Bool) (O : List IT), i = .int .i64 (k : Int) ∧ vi = .bool inn ∧ k ≤ L.length ∧ O.length ≤ 2 * k + 1 ∧ Hid (Hf it there (L.take k) inn O) ∧ Hid (∀ x ∈ O, x ∈ L ∨ x = it) ∧ Hid (OwnT w1.heap.size wr vo O) ∧ Hid (Below w1.heap.size w1 wr)) (fun _ _ i _ => L.length - (intOf i).toNat)
  case atStart => exact ⟨0, !there, [], rfl, rfl, Nat.zero_le _, by simp, HH0, (fun x hx => by cases hx), ownT_nil _ _, Below.refl _ _⟩
  case round =>
    obtain ⟨k, inn, O, rfl, rfl, hk, hOk, HH, HM, HO, HB⟩ := hrel
    rename World => wr
    clear HH0
    by_cases hlt : k < L.length
    · have hkI : (k : Int) < (L.length : Int) := by omega
      obtain ⟨x, hx⟩ : ∃ x, L[k]? = some x := ⟨_, List.getElem?_eq_getElem hlt⟩
      have HXm : Hid (x ∈ L) := List.mem_of_getElem? hx
      have HTA : Hid (L.take (k + 1) = L.take k ++ [x] ∧ ∀ y ∈ L.take k, ltP y.m.n x.m.n) := by
        obtain ⟨h1, h2⟩ := List.getElem?_eq_some_iff.1 hx
        refine ⟨by rw [List.take_succ_eq_append_getElem h1, h2], ?_⟩
        refine srtI_ahead (r := L.drop (k + 1)) HSR.out ?_
        rw [← h2, List.getElem_cons_drop, List.take_append_drop]
      obtain ⟨b1, o1, rfl, _⟩ := HRT.out.row.at ic_len hx
      have HC : Hid (∀ w', Below w1.heap.size w1 w' → w'.rangeAt b1 (o1 + k * 10) (ic x)) := fun w' hb => by
        obtain ⟨b1', o1', e1, h1⟩ := (HRT.out.below (bnext HB1.out hb)).row.at ic_len hx
        cases e1
        exact h1
      have HCn : Hid (∀ w', Below w1.heap.size w1 w' → w'.rangeAt b1 (o1 + k * 10) (sc x.m.n)) := fun w' hb => range_node (HC.out w' hb)
      have HTT : Hid (∀ w', Below w1.heap.size w1 w' → w'.cell? ⟨tb, 0, none⟩ = some (.slice (some ⟨b1, o1, none⟩) L.length c)) := fun w' hb => (HRT.out.below (bnext HB1.out hb)).blk.cell 0 _ rfl
      have t0 := HTT.out _ HB.out
      clear hx
      cases inn
      · have HLs : Hid (∀ w', Calls Tryz.prog 44 #[sv it.m.n, sv x.m.n] w' fun e w'' => e = .returned (.bool (decide (ltP it.m.n x.m.n))) ∧ Below w'.heap.size w' w'') := fun w' => refless_any it.m.n x.m.n w'
        cases hd : decide (ltP it.m.n x.m.n)
        · rw [hd] at HLs
          have HMd : Hid (Md it there (L.take k) x false O) := HH.out.mid_no (of_decide_eq_false hd)
          clear hd HH
          go_upto_region 6 with fail
          have c8 := fun z : WIn (fun w' => Below wr.heap.size wr w') => HTT.out z.w (bnext HB.out z.ok)
          have ne : Nonempty (WIn (fun w' => Below wr.heap.size wr w')) := ⟨⟨wr.drew, below_drewn wr 1⟩⟩
          refine wp_region_ord (C := fun w' => ∃ z : WIn (fun w' => Below wr.heap.size wr w'), w' = z.w) [(false, 0), (false, 1), (false, 2), (false, 3), (false, 4), (false, 5), (false, 6), (false, 7), (false, 8), (false, 9), (false, 10), (false, 11), (false, 12), (true, 13), (false, 14)] (by kernel_rfl) (by kernel_rfl) ⟨⟨wr.drew, below_drewn wr 1⟩, rfl⟩ ?_
          iterate 4 (refine ord_still rfl rfl ?_; go_big_quiet_step (fail); refine wpQuiet_nil ?_)
          refine ord_still rfl rfl ?_
          refine quiet_ok1 rfl (fun w' hw' => by obtain ⟨z, rfl⟩ := hw'; exact exec_load24n (n := it.m.n) (.tmp 23) rfl rfl (HIn.out z.w (bnext HB.out z.ok))) ?_
          go_simp
          iterate 7 (refine ord_still rfl rfl ?_; go_big_quiet_step (fail); refine wpQuiet_nil ?_)
          refine ord_still rfl rfl ?_
          refine quiet_ok1 rfl (fun w' hw' => by obtain ⟨z, rfl⟩ := hw'; exact exec_load24n (n := x.m.n) (.tmp 31) rfl rfl (HCn.out z.w (bnext HB.out z.ok))) ?_
          go_simp
          refine ord_mem rfl rfl ?_
          go_simp
          refine (HLs.out _).mono ?_
          rintro r w5 ⟨rfl, hb⟩
          have HB5 : Hid (Below wr.heap.size wr w5) := bnext (below_drewn wr 1) hb
          clear hb
          refine ⟨⟨⟨w5, HB5.out⟩, rfl⟩, ?_⟩
          go_simp
          iterate 1 (refine ord_still rfl rfl ?_; go_big_quiet_step (fail); refine wpQuiet_nil ?_)
          refine ord_end ?_
          clear ne
          clear c8
          go_upto_region 9 with fail
          obtain ⟨wa, hwa⟩ : ∃ wa, wa = w5 := ⟨_, rfl⟩
          rw [← hwa] at HB5 ⊢
          have HBa : Hid (Below w1.heap.size w1 wa) := bnext HB.out HB5.out
          have HOa : Hid (OwnT w1.heap.size wa _ O) := HO.out.below HB5.out
          have HMm : Hid (∀ y ∈ O, y ∈ L ∨ y = it) := HM.out
          have hOl : O.length ≤ 2 * k + 2 := by omega
          clear hwa HLs HB5 HO HM HB
          have c9 := fun z : WIn (fun w' => Below wa.heap.size wa w') => HTT.out z.w (bnext HBa.out z.ok)
          cases he : decide (x.m.n = it.m.n)
          · have HE : Hid (decide (x.m.n = it.m.n) = false) := he
            have HHn : Hid (Hf it there (L.take (k + 1)) false (O ++ [x])) := by show Hf _ _ _ _ _; rw [HTA.out.1]; exact HMd.out.ne HTA.out.2 (of_decide_eq_false he)
            clear he
            have ne : Nonempty (WIn (fun w' => Below wa.heap.size wa w')) := ⟨⟨wa.drew, below_drewn wa 1⟩⟩
            refine wp_region_ord (C := fun w' => ∃ z : WIn (fun w' => Below wa.heap.size wa w'), w' = z.w) [(false, 0), (false, 1), (false, 2), (false, 3), (false, 4), (false, 5), (false, 6), (false, 7), (false, 8), (false, 9), (false, 10)] (by kernel_rfl) (by kernel_rfl) ⟨⟨wa.drew, below_drewn wa 1⟩, rfl⟩ ?_
            iterate 7 (refine ord_still rfl rfl ?_; go_big_quiet_step (fail); refine wpQuiet_nil ?_)
            refine ord_still rfl rfl ?_
            refine quiet_ok1 rfl (fun w' hw' => by obtain ⟨z, rfl⟩ := hw'; exact exec_load24n (n := x.m.n) (.tmp 45) rfl rfl (HCn.out z.w (bnext HBa.out z.ok))) ?_
            go_simp
            iterate 1 (refine ord_still rfl rfl ?_; go_big_quiet_step (fail); refine wpQuiet_nil ?_)
            refine ord_still rfl rfl ?_
            refine quiet_ok1 rfl (fun w' hw' => by obtain ⟨z, rfl⟩ := hw'; exact exec_load24n (n := it.m.n) (.tmp 47) rfl rfl (HIn.out z.w (bnext HBa.out z.ok))) ?_
            go_simp
            refine ord_still rfl rfl ?_
            refine quiet_ok1 rfl (fun w' hw' => exec_ne24 (a := x.m.n) (b := it.m.n) (.tmp 46) (.tmp 48) rfl rfl rfl) ?_
            rw [HE.out]
            go_simp
            refine ord_end ?_
            clear ne
            clear c9
            obtain ⟨wz, hwz⟩ : ∃ wz, wz = wa.drew := ⟨_, rfl⟩
            rw [← hwz]
            have HBz : Hid (Below w1.heap.size w1 wz) := by show Below _ _ _; rw [hwz]; exact bnext HBa.out (below_drewn wa 1)
            have HOz : Hid (OwnT w1.heap.size wz _ (O)) := HOa.out.at_drew hwz
            have HCz : Hid (wz.rangeAt b1 (o1 + k * 10) (ic x)) := HC.out _ HBz.out
            have t0 := HTT.out _ HBz.out
            have HBX : Hid (Below w1.heap.size w1 (wz.alloc (.cells (ic x).toArray 76))) := balloc HBz.out _
            have HOX : Hid (OwnT w1.heap.size (wz.alloc (.cells (ic x).toArray 76)) _ (O)) := HOz.out.below (balloc (Below.refl _ _) _)
            have HXX : Hid (RowF ic (wz.alloc (.cells (ic x).toArray 76)) (.slice (some ⟨wz.heap.size, 0, none⟩) 1 1) [x]) := rowF_one wz x 76
            clear hwz
            have tk1 : Hid True := trivial
            have tk2 : Hid True := trivial
            have tk3 : Hid True := trivial
            go_wp2_with (first
              | (clear tk1; refine wpList_okw rfl (exec_load41 (q := x) (.tmp 56) rfl rfl HCz.out) ?_)
              | (clear tk2; refine wpList_okw rfl (exec_build41 (q := x) (.tmp 57) rfl rfl) ?_)
              | (clear tk3; refine wpList_app41 rfl (.tmp 50) (.tmp 58) rfl _ (O) rfl HOX.out _ x rfl HXX.out (by first | omega | (simp only [List.length_append, List.length_singleton]; omega)) HBX.out ?_; intro v7 w7 ho7 hb7 _; have HO7 : Hid (OwnT w1.heap.size w7 v7 (O ++ [x])) := ho7; have HB7 : Hid (Below w1.heap.size w1 w7) := hb7; clear ho7 hb7))
            go_roundw
            case rel => exact ⟨k + 1, false, _, by go_num, rfl, by omega, by simp only [List.length_append, List.length_singleton] at hOl ⊢; omega, HHn, (fun y hy => by
              rcases List.mem_append.1 hy with h | h
              · exact HMm.out y h
              · rw [List.mem_singleton.1 h]; exact .inl HXm.out), HO7, HB7⟩
            case measure => simp [intOf]; omega
          · have HE : Hid (decide (x.m.n = it.m.n) = true) := he
            have HHn : Hid (Hf it there (L.take (k + 1)) false (O)) := by show Hf _ _ _ _ _; rw [HTA.out.1]; exact HMd.out.eq (of_decide_eq_true he)
            clear he
            have ne : Nonempty (WIn (fun w' => Below wa.heap.size wa w')) := ⟨⟨wa.drew, below_drewn wa 1⟩⟩
            refine wp_region_ord (C := fun w' => ∃ z : WIn (fun w' => Below wa.heap.size wa w'), w' = z.w) [(false, 0), (false, 1), (false, 2), (false, 3), (false, 4), (false, 5), (false, 6), (false, 7), (false, 8), (false, 9), (false, 10)] (by kernel_rfl) (by kernel_rfl) ⟨⟨wa.drew, below_drewn wa 1⟩, rfl⟩ ?_
            iterate 7 (refine ord_still rfl rfl ?_; go_big_quiet_step (fail); refine wpQuiet_nil ?_)
            refine ord_still rfl rfl ?_
            refine quiet_ok1 rfl (fun w' hw' => by obtain ⟨z, rfl⟩ := hw'; exact exec_load24n (n := x.m.n) (.tmp 45) rfl rfl (HCn.out z.w (bnext HBa.out z.ok))) ?_
            go_simp
            iterate 1 (refine ord_still rfl rfl ?_; go_big_quiet_step (fail); refine wpQuiet_nil ?_)
            refine ord_still rfl rfl ?_
            refine quiet_ok1 rfl (fun w' hw' => by obtain ⟨z, rfl⟩ := hw'; exact exec_load24n (n := it.m.n) (.tmp 47) rfl rfl (HIn.out z.w (bnext HBa.out z.ok))) ?_
            go_simp
            refine ord_still rfl rfl ?_
            refine quiet_ok1 rfl (fun w' hw' => exec_ne24 (a := x.m.n) (b := it.m.n) (.tmp 46) (.tmp 48) rfl rfl rfl) ?_
            rw [HE.out]
            go_simp
            refine ord_end ?_
            clear ne
            clear c9
            go_wp2
            go_roundw
            case rel => exact ⟨k + 1, false, _, by go_num, rfl, by omega, by omega, HHn, HMm.out, HOa.out.below (below_drewn wa 1), bnext HBa.out (below_drewn wa 1)⟩
            case measure => simp [intOf]; omega
        · rw [hd] at HLs
          have HMd : Hid (Md it there (L.take k) x true (O ++ [it])) := HH.out.mid_put (of_decide_eq_true hd)
          clear hd HH
          go_upto_region 6 with fail
          have c8 := fun z : WIn (fun w' => Below wr.heap.size wr w') => HTT.out z.w (bnext HB.out z.ok)
          have ne : Nonempty (WIn (fun w' => Below wr.heap.size wr w')) := ⟨⟨wr.drew, below_drewn wr 1⟩⟩
          refine wp_region_ord (C := fun w' => ∃ z : WIn (fun w' => Below wr.heap.size wr w'), w' = z.w) [(false, 0), (false, 1), (false, 2), (false, 3), (false, 4), (false, 5), (false, 6), (false, 7), (false, 8), (false, 9), (false, 10), (false, 11), (false, 12), (true, 13), (false, 14)] (by kernel_rfl) (by kernel_rfl) ⟨⟨wr.drew, below_drewn wr 1⟩, rfl⟩ ?_
          iterate 4 (refine ord_still rfl rfl ?_; go_big_quiet_step (fail); refine wpQuiet_nil ?_)
          refine ord_still rfl rfl ?_
          refine quiet_ok1 rfl (fun w' hw' => by obtain ⟨z, rfl⟩ := hw'; exact exec_load24n (n := it.m.n) (.tmp 23) rfl rfl (HIn.out z.w (bnext HB.out z.ok))) ?_
          go_simp
          iterate 7 (refine ord_still rfl rfl ?_; go_big_quiet_step (fail); refine wpQuiet_nil ?_)
          refine ord_still rfl rfl ?_
          refine quiet_ok1 rfl (fun w' hw' => by obtain ⟨z, rfl⟩ := hw'; exact exec_load24n (n := x.m.n) (.tmp 31) rfl rfl (HCn.out z.w (bnext HB.out z.ok))) ?_
          go_simp
          refine ord_mem rfl rfl ?_
          go_simp
          refine (HLs.out _).mono ?_
          rintro r w5 ⟨rfl, hb⟩
          have HB5 : Hid (Below wr.heap.size wr w5) := bnext (below_drewn wr 1) hb
          clear hb
          refine ⟨⟨⟨w5, HB5.out⟩, rfl⟩, ?_⟩
          go_simp
          iterate 1 (refine ord_still rfl rfl ?_; go_big_quiet_step (fail); refine wpQuiet_nil ?_)
          refine ord_end ?_
          clear ne
          clear c8
          have HB15 : Hid (Below w1.heap.size w1 w5) := bnext HB.out HB5.out
          have HIz : Hid (w5.rangeAt B0 0 (ic it)) := HIr.out _ HB15.out
          have HBX : Hid (Below w1.heap.size w1 (w5.alloc (.cells (ic it).toArray 76))) := balloc HB15.out _
          have HOX : Hid (OwnT w1.heap.size (w5.alloc (.cells (ic it).toArray 76)) _ O) := (HO.out.below HB5.out).below (balloc (Below.refl _ _) _)
          have HXX : Hid (RowF ic (w5.alloc (.cells (ic it).toArray 76)) (.slice (some ⟨w5.heap.size, 0, none⟩) 1 1) [it]) := rowF_one w5 it 76
          have tk1 : Hid True := trivial
          have tk2 : Hid True := trivial
          have tk3 : Hid True := trivial
          go_upto_region 9 with (first
            | (clear tk1; refine wpList_okw rfl (exec_load41 (q := it) (.tmp 4) rfl rfl HIz.out) ?_)
            | (clear tk2; refine wpList_okw rfl (exec_build41 (q := it) (.tmp 36) rfl rfl) ?_)
            | (clear tk3; refine wpList_app41 rfl (.tmp 35) (.tmp 37) rfl _ O rfl HOX.out _ it rfl HXX.out (by omega) HBX.out ?_; intro va wa hoa hba _; have HOa : Hid (OwnT w1.heap.size wa va (O ++ [it])) := hoa; have HBa : Hid (Below w1.heap.size w1 wa) := hba; clear hoa hba))
          have HMm : Hid (∀ y ∈ O ++ [it], y ∈ L ∨ y = it) := fun y hy => by
            rcases List.mem_append.1 hy with h | h
            · exact HM.out y h
            · exact .inr (List.mem_singleton.1 h)
          have hOl : (O ++ [it]).length ≤ 2 * k + 2 := by simp only [List.length_append, List.length_singleton]; omega
          clear HLs HB5 HO HM HB HB15 HIz HBX HOX HXX
          have c9 := fun z : WIn (fun w' => Below wa.heap.size wa w') => HTT.out z.w (bnext HBa.out z.ok)
          cases he : decide (x.m.n = it.m.n)
          · have HE : Hid (decide (x.m.n = it.m.n) = false) := he
            have HHn : Hid (Hf it there (L.take (k + 1)) true ((O ++ [it]) ++ [x])) := by show Hf _ _ _ _ _; rw [HTA.out.1]; exact HMd.out.ne HTA.out.2 (of_decide_eq_false he)
            clear he
            have ne : Nonempty (WIn (fun w' => Below wa.heap.size wa w')) := ⟨⟨wa.drew, below_drewn wa 1⟩⟩
            refine wp_region_ord (C := fun w' => ∃ z : WIn (fun w' => Below wa.heap.size wa w'), w' = z.w) [(false, 0), (false, 1), (false, 2), (false, 3), (false, 4), (false, 5), (false, 6), (false, 7), (false, 8), (false, 9), (false, 10)] (by kernel_rfl) (by kernel_rfl) ⟨⟨wa.drew, below_drewn wa 1⟩, rfl⟩ ?_
            iterate 7 (refine ord_still rfl rfl ?_; go_big_quiet_step (fail); refine wpQuiet_nil ?_)
            refine ord_still rfl rfl ?_
            refine quiet_ok1 rfl (fun w' hw' => by obtain ⟨z, rfl⟩ := hw'; exact exec_load24n (n := x.m.n) (.tmp 45) rfl rfl (HCn.out z.w (bnext HBa.out z.ok))) ?_
            go_simp
            iterate 1 (refine ord_still rfl rfl ?_; go_big_quiet_step (fail); refine wpQuiet_nil ?_)
            refine ord_still rfl rfl ?_
            refine quiet_ok1 rfl (fun w' hw' => by obtain ⟨z, rfl⟩ := hw'; exact exec_load24n (n := it.m.n) (.tmp 47) rfl rfl (HIn.out z.w (bnext HBa.out z.ok))) ?_
            go_simp
            refine ord_still rfl rfl ?_
            refine quiet_ok1 rfl (fun w' hw' => exec_ne24 (a := x.m.n) (b := it.m.n) (.tmp 46) (.tmp 48) rfl rfl rfl) ?_
            rw [HE.out]
            go_simp
            refine ord_end ?_
            clear ne
            clear c9
            obtain ⟨wz, hwz⟩ : ∃ wz, wz = wa.drew := ⟨_, rfl⟩
            rw [← hwz]
            have HBz : Hid (Below w1.heap.size w1 wz) := by show Below _ _ _; rw [hwz]; exact bnext HBa.out (below_drewn wa 1)
            have HOz : Hid (OwnT w1.heap.size wz _ ((O ++ [it]))) := HOa.out.at_drew hwz
            have HCz : Hid (wz.rangeAt b1 (o1 + k * 10) (ic x)) := HC.out _ HBz.out
            have t0 := HTT.out _ HBz.out
            have HBX : Hid (Below w1.heap.size w1 (wz.alloc (.cells (ic x).toArray 76))) := balloc HBz.out _
            have HOX : Hid (OwnT w1.heap.size (wz.alloc (.cells (ic x).toArray 76)) _ ((O ++ [it]))) := HOz.out.below (balloc (Below.refl _ _) _)
            have HXX : Hid (RowF ic (wz.alloc (.cells (ic x).toArray 76)) (.slice (some ⟨wz.heap.size, 0, none⟩) 1 1) [x]) := rowF_one wz x 76
            clear hwz
            have tk1 : Hid True := trivial
            have tk2 : Hid True := trivial
            have tk3 : Hid True := trivial
            go_wp2_with (first
              | (clear tk1; refine wpList_okw rfl (exec_load41 (q := x) (.tmp 56) rfl rfl HCz.out) ?_)
              | (clear tk2; refine wpList_okw rfl (exec_build41 (q := x) (.tmp 57) rfl rfl) ?_)
              | (clear tk3; refine wpList_app41 rfl (.tmp 50) (.tmp 58) rfl _ ((O ++ [it])) rfl HOX.out _ x rfl HXX.out (by first | omega | (simp only [List.length_append, List.length_singleton]; omega)) HBX.out ?_; intro v7 w7 ho7 hb7 _; have HO7 : Hid (OwnT w1.heap.size w7 v7 ((O ++ [it]) ++ [x])) := ho7; have HB7 : Hid (Below w1.heap.size w1 w7) := hb7; clear ho7 hb7))
            go_roundw
            case rel => exact ⟨k + 1, true, _, by go_num, rfl, by omega, by simp only [List.length_append, List.length_singleton] at hOl ⊢; omega, HHn, (fun y hy => by
              rcases List.mem_append.1 hy with h | h
              · exact HMm.out y h
              · rw [List.mem_singleton.1 h]; exact .inl HXm.out), HO7, HB7⟩
            case measure => simp [intOf]; omega
          · have HE : Hid (decide (x.m.n = it.m.n) = true) := he
            have HHn : Hid (Hf it there (L.take (k + 1)) true ((O ++ [it]))) := by show Hf _ _ _ _ _; rw [HTA.out.1]; exact HMd.out.eq (of_decide_eq_true he)
            clear he
            have ne : Nonempty (WIn (fun w' => Below wa.heap.size wa w')) := ⟨⟨wa.drew, below_drewn wa 1⟩⟩
            refine wp_region_ord (C := fun w' => ∃ z : WIn (fun w' => Below wa.heap.size wa w'), w' = z.w) [(false, 0), (false, 1), (false, 2), (false, 3), (false, 4), (false, 5), (false, 6), (false, 7), (false, 8), (false, 9), (false, 10)] (by kernel_rfl) (by kernel_rfl) ⟨⟨wa.drew, below_drewn wa 1⟩, rfl⟩ ?_
            iterate 7 (refine ord_still rfl rfl ?_; go_big_quiet_step (fail); refine wpQuiet_nil ?_)
            refine ord_still rfl rfl ?_
            refine quiet_ok1 rfl (fun w' hw' => by obtain ⟨z, rfl⟩ := hw'; exact exec_load24n (n := x.m.n) (.tmp 45) rfl rfl (HCn.out z.w (bnext HBa.out z.ok))) ?_
            go_simp
            iterate 1 (refine ord_still rfl rfl ?_; go_big_quiet_step (fail); refine wpQuiet_nil ?_)
            refine ord_still rfl rfl ?_
            refine quiet_ok1 rfl (fun w' hw' => by obtain ⟨z, rfl⟩ := hw'; exact exec_load24n (n := it.m.n) (.tmp 47) rfl rfl (HIn.out z.w (bnext HBa.out z.ok))) ?_
            go_simp
            refine ord_still rfl rfl ?_
            refine quiet_ok1 rfl (fun w' hw' => exec_ne24 (a := x.m.n) (b := it.m.n) (.tmp 46) (.tmp 48) rfl rfl rfl) ?_
            rw [HE.out]
            go_simp
            refine ord_end ?_
            clear ne
            clear c9
            go_wp2
            go_roundw
            case rel => exact ⟨k + 1, true, _, by go_num, rfl, by omega, by omega, HHn, HMm.out, HOa.out.below (below_drewn wa 1), bnext HBa.out (below_drewn wa 1)⟩
            case measure => simp [intOf]; omega
      · have HMd : Hid (Md it there (L.take k) x true O) := HH.out.mid x
        clear HH
        go_upto_region 6 with fail
        have ne : Nonempty (WIn (fun w' => Below wr.heap.size wr w')) := ⟨⟨wr.drew, below_drewn wr 1⟩⟩
        refine wp_region_ord (C := fun w' => ∃ z : WIn (fun w' => Below wr.heap.size wr w'), w' = z.w) [(false, 0), (false, 1), (false, 2), (false, 3), (false, 4), (false, 5), (false, 6), (false, 7), (false, 8), (false, 9), (false, 10), (false, 11), (false, 12), (false, 13), (false, 14)] (by kernel_rfl) (by kernel_rfl) ⟨⟨wr.drew, below_drewn wr 1⟩, rfl⟩ ?_
        iterate 15 (first | (refine ord_still rfl rfl ?_; go_big_quiet_step (fail); refine wpQuiet_nil ?_) | (refine ord_shut rfl rfl ?_; go_big_quiet_step (fail); refine wpQuiet_nil ?_))
        refine ord_end ?_
        clear ne
        go_upto_region 9 with fail
        obtain ⟨wa, hwa⟩ : ∃ wa, wa = wr.drew := ⟨_, rfl⟩
        rw [← hwa]
        have HBa : Hid (Below w1.heap.size w1 wa) := by show Below _ _ _; rw [hwa]; exact bnext HB.out (below_drewn wr 1)
        have HOa : Hid (OwnT w1.heap.size wa _ O) := HO.out.at_drew hwa
        have HMm : Hid (∀ y ∈ O, y ∈ L ∨ y = it) := HM.out
        have hOl : O.length ≤ 2 * k + 2 := by omega
        clear hwa HO HM HB
        have c9 := fun z : WIn (fun w' => Below wa.heap.size wa w') => HTT.out z.w (bnext HBa.out z.ok)
        cases he : decide (x.m.n = it.m.n)
        · have HE : Hid (decide (x.m.n = it.m.n) = false) := he
          have HHn : Hid (Hf it there (L.take (k + 1)) true (O ++ [x])) := by show Hf _ _ _ _ _; rw [HTA.out.1]; exact HMd.out.ne HTA.out.2 (of_decide_eq_false he)
          clear he
          have ne : Nonempty (WIn (fun w' => Below wa.heap.size wa w')) := ⟨⟨wa.drew, below_drewn wa 1⟩⟩
          refine wp_region_ord (C := fun w' => ∃ z : WIn (fun w' => Below wa.heap.size wa w'), w' = z.w) [(false, 0), (false, 1), (false, 2), (false, 3), (false, 4), (false, 5), (false, 6), (false, 7), (false, 8), (false, 9), (false, 10)] (by kernel_rfl) (by kernel_rfl) ⟨⟨wa.drew, below_drewn wa 1⟩, rfl⟩ ?_
          iterate 7 (refine ord_still rfl rfl ?_; go_big_quiet_step (fail); refine wpQuiet_nil ?_)
          refine ord_still rfl rfl ?_
          refine quiet_ok1 rfl (fun w' hw' => by obtain ⟨z, rfl⟩ := hw'; exact exec_load24n (n := x.m.n) (.tmp 45) rfl rfl (HCn.out z.w (bnext HBa.out z.ok))) ?_
          go_simp
          iterate 1 (refine ord_still rfl rfl ?_; go_big_quiet_step (fail); refine wpQuiet_nil ?_)
          refine ord_still rfl rfl ?_
          refine quiet_ok1 rfl (fun w' hw' => by obtain ⟨z, rfl⟩ := hw'; exact exec_load24n (n := it.m.n) (.tmp 47) rfl rfl (HIn.out z.w (bnext HBa.out z.ok))) ?_
          go_simp
          refine ord_still rfl rfl ?_
          refine quiet_ok1 rfl (fun w' hw' => exec_ne24 (a := x.m.n) (b := it.m.n) (.tmp 46) (.tmp 48) rfl rfl rfl) ?_
          rw [HE.out]
          go_simp
          refine ord_end ?_
          clear ne
          clear c9
          obtain ⟨wz, hwz⟩ : ∃ wz, wz = wa.drew := ⟨_, rfl⟩
          rw [← hwz]
          have HBz : Hid (Below w1.heap.size w1 wz) := by show Below _ _ _; rw [hwz]; exact bnext HBa.out (below_drewn wa 1)
          have HOz : Hid (OwnT w1.heap.size wz _ (O)) := HOa.out.at_drew hwz
          have HCz : Hid (wz.rangeAt b1 (o1 + k * 10) (ic x)) := HC.out _ HBz.out
          have t0 := HTT.out _ HBz.out
          have HBX : Hid (Below w1.heap.size w1 (wz.alloc (.cells (ic x).toArray 76))) := balloc HBz.out _
          have HOX : Hid (OwnT w1.heap.size (wz.alloc (.cells (ic x).toArray 76)) _ (O)) := HOz.out.below (balloc (Below.refl _ _) _)
          have HXX : Hid (RowF ic (wz.alloc (.cells (ic x).toArray 76)) (.slice (some ⟨wz.heap.size, 0, none⟩) 1 1) [x]) := rowF_one wz x 76
          clear hwz
          have tk1 : Hid True := trivial
          have tk2 : Hid True := trivial
          have tk3 : Hid True := trivial
          go_wp2_with (first
            | (clear tk1; refine wpList_okw rfl (exec_load41 (q := x) (.tmp 56) rfl rfl HCz.out) ?_)
            | (clear tk2; refine wpList_okw rfl (exec_build41 (q := x) (.tmp 57) rfl rfl) ?_)
            | (clear tk3; refine wpList_app41 rfl (.tmp 50) (.tmp 58) rfl _ (O) rfl HOX.out _ x rfl HXX.out (by first | omega | (simp only [List.length_append, List.length_singleton]; omega)) HBX.out ?_; intro v7 w7 ho7 hb7 _; have HO7 : Hid (OwnT w1.heap.size w7 v7 (O ++ [x])) := ho7; have HB7 : Hid (Below w1.heap.size w1 w7) := hb7; clear ho7 hb7))
          go_roundw
          case rel => exact ⟨k + 1, true, _, by go_num, rfl, by omega, by simp only [List.length_append, List.length_singleton] at hOl ⊢; omega, HHn, (fun y hy => by
            rcases List.mem_append.1 hy with h | h
            · exact HMm.out y h
            · rw [List.mem_singleton.1 h]; exact .inl HXm.out), HO7, HB7⟩
          case measure => simp [intOf]; omega
        · have HE : Hid (decide (x.m.n = it.m.n) = true) := he
          have HHn : Hid (Hf it there (L.take (k + 1)) true (O)) := by show Hf _ _ _ _ _; rw [HTA.out.1]; exact HMd.out.eq (of_decide_eq_true he)
          clear he
          have ne : Nonempty (WIn (fun w' => Below wa.heap.size wa w')) := ⟨⟨wa.drew, below_drewn wa 1⟩⟩
          refine wp_region_ord (C := fun w' => ∃ z : WIn (fun w' => Below wa.heap.size wa w'), w' = z.w) [(false, 0), (false, 1), (false, 2), (false, 3), (false, 4), (false, 5), (false, 6), (false, 7), (false, 8), (false, 9), (false, 10)] (by kernel_rfl) (by kernel_rfl) ⟨⟨wa.drew, below_drewn wa 1⟩, rfl⟩ ?_
          iterate 7 (refine ord_still rfl rfl ?_; go_big_quiet_step (fail); refine wpQuiet_nil ?_)
          refine ord_still rfl rfl ?_
          refine quiet_ok1 rfl (fun w' hw' => by obtain ⟨z, rfl⟩ := hw'; exact exec_load24n (n := x.m.n) (.tmp 45) rfl rfl (HCn.out z.w (bnext HBa.out z.ok))) ?_
          go_simp
          iterate 1 (refine ord_still rfl rfl ?_; go_big_quiet_step (fail); refine wpQuiet_nil ?_)
          refine ord_still rfl rfl ?_
          refine quiet_ok1 rfl (fun w' hw' => by obtain ⟨z, rfl⟩ := hw'; exact exec_load24n (n := it.m.n) (.tmp 47) rfl rfl (HIn.out z.w (bnext HBa.out z.ok))) ?_
          go_simp
          refine ord_still rfl rfl ?_
          refine quiet_ok1 rfl (fun w' hw' => exec_ne24 (a := x.m.n) (b := it.m.n) (.tmp 46) (.tmp 48) rfl rfl rfl) ?_
          rw [HE.out]
          go_simp
          refine ord_end ?_
          clear ne
          clear c9
          go_wp2
          go_roundw
          case rel => exact ⟨k + 1, true, _, by go_num, rfl, by omega, by omega, HHn, HMm.out, HOa.out.below (below_drewn wa 1), bnext HBa.out (below_drewn wa 1)⟩
          case measure => simp [intOf]; omega
    · have hkI : ¬ (k : Int) < (L.length : Int) := by omega
      have HTL : Hid (L.take k = L) := by show _ = _; rw [List.take_of_length_le (by omega)]
      have HTT : Hid (∀ w', Below w1.heap.size w1 w' → w'.cell? ⟨tb, 0, none⟩ = some (.slice a L.length c) ∧ w'.frozen? ⟨tb, 0, none⟩ = false) := fun w' hb => ⟨(HRT.out.below (bnext HB1.out hb)).blk.cell 0 _ rfl, (HRT.out.below (bnext HB1.out hb)).blk.frozen 0⟩
      have t0 := (HTT.out _ HB.out).1
      rw [HTL.out] at HH
      cases inn
      · have HZ : Hid (O ++ [it] = setT L it there) := HH.out.done_no
        have HIz : Hid (wr.rangeAt B0 0 (ic it)) := HIr.out _ HB.out
        have HBX : Hid (Below w1.heap.size w1 (wr.alloc (.cells (ic it).toArray 76))) := balloc HB.out _
        have HOX : Hid (OwnT w1.heap.size (wr.alloc (.cells (ic it).toArray 76)) _ O) := HO.out.below (balloc (Below.refl _ _) _)
        have HXX : Hid (RowF ic (wr.alloc (.cells (ic it).toArray 76)) (.slice (some ⟨wr.heap.size, 0, none⟩) 1 1) [it]) := rowF_one wr it 76
        have tk1 : Hid True := trivial
        have tk2 : Hid True := trivial
        have tk3 : Hid True := trivial
        go_upto_region 13 with (first
          | (clear tk1; refine wpList_okw rfl (exec_load41 (q := it) (.tmp 4) rfl rfl HIz.out) ?_)
          | (clear tk2; refine wpList_okw rfl (exec_build41 (q := it) (.tmp 63) rfl rfl) ?_)
          | (clear tk3; refine wpList_app41 rfl (.tmp 62) (.tmp 64) rfl _ O rfl HOX.out _ it rfl HXX.out (by omega) HBX.out ?_; intro va wa hoa hba _; have HOa : Hid (OwnT w1.heap.size wa va (O ++ [it])) := hoa; have HBa : Hid (Below w1.heap.size w1 wa) := hba; clear hoa hba))
        clear t0
        obtain ⟨a9, c9, rfl⟩ := HOa.out.row.len
        have HCF : Hid (wa.cell? ⟨tb, 0, none⟩ = some (.slice a L.length c) ∧ wa.frozen? ⟨tb, 0, none⟩ = false) := HTT.out _ HBa.out
        have HEnd := set_end HRT.out HIT.out HB1.out HBa.out HOa.out (fun y hy => by
          rcases List.mem_append.1 hy with h | h
          · exact HM.out y h
          · exact .inr (List.mem_singleton.1 h))
        have HEnd2 : Hid (∃ v', RTr (wa.setCell ⟨tb, 0, none⟩ (.slice a9 (O ++ [it]).length c9)) tb v' (setT L it there) ∧ w.grownBy (wa.setCell ⟨tb, 0, none⟩ (.slice a9 (O ++ [it]).length c9)) (some tb) ∧ ∀ k, v'.ownBlock = some k → w.heap.size ≤ k) := by rw [← HZ.out]; exact ⟨_, HEnd⟩
        clear HEnd
        go_wp2_with (refine wpList_skipw rfl (exec_store30 (.tmp 69) (.tmp 67) rfl rfl rfl HCF.out.1 HCF.out.2) ?_)
        go_end0
        refine ⟨rfl, ?_⟩
        have e := HEnd2.out
        try simp only [List.length_append, List.length_singleton] at e
        exact e
      · have HZ : Hid (O = setT L it there) := HH.out.done_in
        obtain ⟨a9, c9, rfl⟩ := HO.out.row.len
        have HCF : Hid (wr.cell? ⟨tb, 0, none⟩ = some (.slice a L.length c) ∧ wr.frozen? ⟨tb, 0, none⟩ = false) := HTT.out _ HB.out
        have HEnd := set_end HRT.out HIT.out HB1.out HB.out HO.out HM.out
        have HEnd2 : Hid (∃ v', RTr (wr.setCell ⟨tb, 0, none⟩ (.slice a9 O.length c9)) tb v' (setT L it there) ∧ w.grownBy (wr.setCell ⟨tb, 0, none⟩ (.slice a9 O.length c9)) (some tb) ∧ ∀ k, v'.ownBlock = some k → w.heap.size ≤ k) := by rw [← HZ.out]; exact ⟨_, HEnd⟩
        clear HEnd
        go_wp2_with (refine wpList_skipw rfl (exec_store30 (.tmp 69) (.tmp 67) rfl rfl rfl HCF.out.1 HCF.out.2) ?_)
        go_end0
        refine ⟨rfl, ?_⟩
        have e := HEnd2.out
        try simp only [List.length_append, List.length_singleton] at e
        exact e
end Go.Proofs.YthnjbjlhfohpfaaGreat
