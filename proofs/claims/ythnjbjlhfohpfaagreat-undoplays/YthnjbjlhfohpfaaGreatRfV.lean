/-
  The reference's log in memory; what its Insert and Remove make of it, by lists.
-/
import Derived.Test.YthnjbjlhfohpfaaGreatLgt
import Derived.Test.YthnjbjlhfohpfaaGreatRs
import Derived.Test.YthnjbjlhfohpfaaGreatRfR
import Derived.Test.YthnjbjlhfohpfaaGreatRfS
import Derived.Test.YthnjbjlhfohpfaaGreatUdW
namespace Go.Proofs.YthnjbjlhfohpfaaGreat
set_option linter.unusedVariables false
set_option linter.unusedSimpArgs false
set_option synthInstance.maxSize 20000
set_option maxHeartbeats 2000000
set_option maxRecDepth 20000
open Go.RowKit Go.Maps

theorem exec_slice0 {o : Oper} {r : Operand → Value} {w : World} (ho : o.op = .buildSlice 28 0 #[]) : (execOp r o).run Tryz.prog w = .ok (.value (.slice (some ⟨w.heap.size, 0, none⟩) 0 0)) (w.alloc (.cells #[] 38)) := by
  unfold execOp
  simp only [ho]
  go_simp
theorem rowF_take {w : World} {b off n cap : Nat} {l : List OpT} (h : RowF oc w (.slice (some ⟨b, off, none⟩) n cap) l) {i : Nat} (hi : i ≤ l.length) : RowF oc w (.slice (some ⟨b, off, none⟩) i cap) (l.take i) := by
  obtain ⟨a, c, e, h1, h2, h3, h4⟩ := h
  injection e with e1 e2 e3
  subst e1 e2 e3
  refine ⟨some ⟨b, off, none⟩, cap, by rw [List.length_take, Nat.min_eq_left hi], by rw [List.length_take]; omega, h2, (fun h => by cases h), fun hp => ?_⟩
  rw [List.length_take] at hp
  obtain ⟨b', off', e, hc⟩ := h4 (by omega)
  refine ⟨b', off', e, fun j u hj => hc j u ?_⟩
  rw [← flat_take oc_len, List.getElem?_take] at hj
  split at hj
  · exact hj
  · cases hj
theorem rowF_drop {w : World} {b off n cap : Nat} {l : List OpT} (h : RowF oc w (.slice (some ⟨b, off, none⟩) n cap) l) {i : Nat} (hi : i ≤ l.length) : RowF oc w (.slice (some ⟨b, off + i * 10, none⟩) (n - i) (cap - i)) (l.drop i) := by
  obtain ⟨a, c, e, h1, h2, h3, h4⟩ := h
  injection e with e1 e2 e3
  subst e1 e2 e3
  refine ⟨some ⟨b, off + i * 10, none⟩, cap - i, by rw [List.length_drop], by rw [List.length_drop]; omega, Nat.le_trans (Nat.sub_le _ _) h2, (fun h => by cases h), fun hp => ?_⟩
  rw [List.length_drop] at hp
  obtain ⟨b', off', e, hc⟩ := h4 (by omega)
  cases e
  refine ⟨b, off + i * 10, rfl, fun j u hj => ?_⟩
  rw [← flat_drop oc_len, List.getElem?_drop] at hj
  have := hc (i * 10 + j) u hj
  rwa [← Nat.add_assoc] at this
/-- The reference's log: its block, its row, in order. -/
structure RLg (B : Nat) (w : World) (rb : Nat) (v : Value) (R : List OpT) : Prop where
  blk : Blk w rb 30 [v]
  own : OwnO B w v R
  str : R.Pairwise LtO
  rd : ∀ q ∈ R, Rd w q.v q.b
theorem RLg.below {B : Nat} {w w' : World} {rb : Nat} {v : Value} {R : List OpT} (h : RLg B w rb v R) (hb : Below w.heap.size w w') : RLg B w' rb v R := ⟨h.blk.below hb, h.own.below hb, h.str, fun q hq => (h.rd q hq).below hb⟩
/-- Sorted with one more: among those before and those behind. -/
theorem sort_in {R O : List OpT} {q : OpT} {U : List ST} (hR : R.map bare = Ob U) (hs : R.Pairwise LtO) (hn : hasO q.a R = false) (hO : FirstOf O (R ++ [q])) : ∀ x, x ∈ O.map bare ↔ x = bare q ∨ x ∈ Ob U := fun x => by
  rw [← hR]
  have hin : ∀ y, y ∈ R ++ [q] → y ∈ O := fun y hy => by
    have h1 := hO.one y.a
    have hf : (R ++ [q]).filter (atK y.a) = [y] := by
      rcases List.mem_append.1 hy with hy | hy
      · rw [List.filter_append]
        have e1 : R.filter (atK y.a) = [y] := by
          have hp : (R.filter (atK y.a)).Pairwise LtO := hs.filter _
          have hm : y ∈ R.filter (atK y.a) := List.mem_filter.2 ⟨hy, decide_eq_true rfl⟩
          match hl : R.filter (atK y.a), hp, hm with
          | [z], _, hm => rw [List.mem_singleton.1 hm]
          | z :: z2 :: r, hp, _ =>
            have h2 := (List.pairwise_cons.1 hp).1 z2 List.mem_cons_self
            have m1 : z ∈ R.filter (atK y.a) := by rw [hl]; exact List.mem_cons_self
            have m2 : z2 ∈ R.filter (atK y.a) := by rw [hl]; exact List.mem_cons_of_mem _ List.mem_cons_self
            have t1 : z.a = y.a := of_decide_eq_true (List.mem_filter.1 m1).2
            have t2 : z2.a = y.a := of_decide_eq_true (List.mem_filter.1 m2).2
            exact absurd (t1.trans t2.symm) (lt_ne h2)
        have e2 : [q].filter (atK y.a) = [] := List.filter_eq_nil_iff.2 fun z hz e => by
          rw [List.mem_singleton.1 hz] at e
          exact hasO_no hn y hy (of_decide_eq_true e).symm
        rw [e1, e2]; rfl
      · rw [List.mem_singleton.1 hy, List.filter_append]
        have e1 : R.filter (atK q.a) = [] := List.filter_eq_nil_iff.2 fun z hz e => hasO_no hn z hz (of_decide_eq_true e)
        have e2 : [q].filter (atK q.a) = [q] := List.filter_eq_self.2 fun z hz => by rw [List.mem_singleton.1 hz]; exact decide_eq_true rfl
        rw [e1, e2]; rfl
    rw [hf] at h1
    have : y ∈ O.filter (atK y.a) := by rw [h1]; exact List.mem_cons_self
    exact (List.mem_filter.1 this).1
  constructor
  · intro h
    obtain ⟨y, hy, rfl⟩ := List.mem_map.1 h
    rcases List.mem_append.1 (hO.mem hy) with h1 | h1
    · exact .inr (List.mem_map.2 ⟨y, h1, rfl⟩)
    · rw [List.mem_singleton.1 h1]; exact .inl rfl
  · rintro (rfl | h)
    · exact List.mem_map.2 ⟨q, hin q (List.mem_append_right _ List.mem_cons_self), rfl⟩
    · obtain ⟨y, hy, rfl⟩ := List.mem_map.1 h
      exact List.mem_map.2 ⟨y, hin y (List.mem_append_left _ hy), rfl⟩
theorem grown_of_below {w w1 w2 : World} {g : Nat} (h : Below w.heap.size w w1) (h2 : w1.grownBy w2 (some g)) : w.grownBy w2 (some g) := ⟨h2.os.trans h.os, h2.tape.trans h.tape, h2.output.trans h.output, Nat.le_trans h.size h2.size, fun k hk hne => (h2.block k (Nat.lt_of_lt_of_le hk h.size) hne).trans (h.block k hk)⟩
theorem grown_belowR {w w1 : World} {r : Option Nat} (h : Below w.heap.size w w1) : w.grownBy w1 r := ⟨h.os, h.tape, h.output, h.size, fun k hk _ => h.block k hk⟩
theorem rlg_store {w0 w w2 wA : World} {rb N cv nA cA : Nat} {av aA : Option Addr} {R O : List OpT} {q : OpT} (h0 : Below w0.heap.size w0 w) (h2 : Below w.heap.size w w2) (hA : Below w2.heap.size w2 wA) (nl : w0.heap.size ≤ rb) (hb : Blk wA rb 30 [.slice av N cv]) (hrb : rb < w2.heap.size) (ho : OwnO w2.heap.size wA (.slice aA nA cA) O) (hF : FirstOf O (R ++ [q])) (hr : ∀ r ∈ R, Rd w r.v r.b) (hq : Rd w q.v q.b) :
    RLg w0.heap.size (wA.setCell ⟨rb, 0, none⟩ (.slice aA nA cA)) rb (.slice aA nA cA) O ∧ w.grownBy (wA.setCell ⟨rb, 0, none⟩ (.slice aA nA cA)) (some rb) ∧ Below w0.heap.size w0 (wA.setCell ⟨rb, 0, none⟩ (.slice aA nA cA)) := by
  have hg : wA.grownBy (wA.setCell ⟨rb, 0, none⟩ (.slice aA nA cA)) (some rb) := grown_setCell _ _ _ _
  have hnb : NoB [.slice av N cv] := fun u hu n e => by
    simp at hu
    rw [hu] at e; cases e
  refine ⟨⟨Blk.set hb 0 _, ⟨ownsRow_block ho.own fun k hk => hg.block k (ho.own.lt k hk).2 fun e => ?_, fun k hk => Nat.le_trans (Nat.le_trans h0.size h2.size) (ho.new k hk)⟩, hF.str, fun r hx => ?_⟩, grown_of_below (bnext h2 hA) hg, bgrown (bnext h0 (bnext h2 hA)) nl hg⟩
  · cases e
    have := ho.new rb hk
    omega
  · rcases List.mem_append.1 (hF.mem hx) with hx | hx
    · exact rd_pastNoB ((hr r hx).below (bnext h2 hA)) hb hnb hg
    · rw [List.mem_singleton.1 hx]; exact rd_pastNoB (hq.below (bnext h2 hA)) hb hnb hg
def RInsL (R : List OpT) (q : OpT) (R' : List OpT) (n k : Int) : Prop := (rightO q = false ∧ n = 0 ∧ k = 1 ∧ R' = R) ∨ (rightO q = true ∧ ((hasO q.a R = true ∧ n = 0 ∧ k = 8 ∧ R' = R) ∨ (hasO q.a R = false ∧ k = 0 ∧ n = ((hiO q.a R).length : Int) ∧ FirstOf R' (R ++ [q]))))
def RInsAns (w0 w : World) (rb : Nat) (R : List OpT) (q : OpT) (e : Ending) (w' : World) : Prop := ∃ n k v' R', e = .returned (.tuple #[.int .i64 n, .int .i64 k]) ∧ (RLg w0.heap.size w' rb v' R' ∧ w.grownBy w' (some rb) ∧ Below w0.heap.size w0 w') ∧ RInsL R q R' n k
set_option maxHeartbeats 8000000 in
theorem rins9 {w0 w : World} {rb : Nat} {v : Value} {R : List OpT} {q : OpT} (h : RLg w0.heap.size w rb v R) (h0 : Below w0.heap.size w0 w) (nl : w0.heap.size ≤ rb) (hl : R.length ≤ 900) (hq : Rd w q.v q.b) : Calls Tryz.prog 9 #[ptr rb, ov q] w (RInsAns w0 w rb R q) := by
  obtain ⟨av, cv, rfl⟩ := h.own.row.len
  have HH : Hid (RLg w0.heap.size w rb (.slice av R.length cv) R) := h
  have H0 : Hid (Below w0.heap.size w0 w) := h0
  have HNl : Hid (w0.heap.size ≤ rb) := nl
  have HRq : Hid (Rd w q.v q.b) := hq
  have HR : Hid (∀ r ∈ R, Rd w r.v r.b) := h.rd
  clear h h0 nl hq
  generalize hN : R.length = N at *
  have HN : Hid (R.length = N) := hN
  clear hN
  obtain ⟨w1, hw1⟩ : ∃ w1, w1 = w.alloc (.cells (oc q).toArray 38) := ⟨_, rfl⟩
  obtain ⟨B0, hB0⟩ : ∃ B0, B0 = w.heap.size := ⟨_, rfl⟩
  obtain ⟨i1, i2⟩ := box_op hw1 hB0
  have HB1 : Hid (Below w.heap.size w w1) := i1
  have HQ1 : Hid (Opb w1 B0 q) := i2
  have HQl : Hid (w1.rangeAt B0 0 (oc q)) := Blk.range0 i2
  have HRt : Hid (Calls Tryz.prog 25 #[ov q] w1 fun e w' => e = .returned (.bool (rightO q)) ∧ Below w1.heap.size w1 w') := right36 q w1
  clear i1 i2
  go_enter Tryz.func9, Tryz.ntmps9
  go_upto_region 1 with (refine wpList_okw rfl (exec_box40 (q := q) (.tmp 1) rfl rfl) ?_)
  rw [← hw1, ← hB0]
  clear hw1 hB0
  cases hr : rightO q
  · rw [hr] at HRt
    go_wp2_with (first
      | (refine wpList_okw rfl (exec_load40 (q := q) (.tmp 3) rfl rfl HQl.out) ?_)
      | (go_at_call 25; go_must (refine HRt.out.mono ?_; rintro e wx ⟨rfl, hb⟩; have HBx : Hid (Below w.heap.size w wx) := bnext HB1.out hb; clear hb)))
    go_ret2
    exact ⟨0, 1, _, R, rfl, ⟨HH.out.below HBx.out, grown_belowR HBx.out, bnext H0.out HBx.out⟩, .inl ⟨hr, rfl, rfl, rfl⟩⟩
  rw [hr] at HRt
  have HRi : Hid (rightO q = true) := hr
  clear hr
  go_upto_region 4 with (first
    | (refine wpList_okw rfl (exec_load40 (q := q) (.tmp 3) rfl rfl HQl.out) ?_)
    | (go_at_call 25; go_must (refine HRt.out.mono ?_; rintro e wx ⟨rfl, hb⟩; have HBx : Hid (Below w.heap.size w wx) := bnext HB1.out hb; have HQx : Hid (Opb wx B0 q) := HQ1.out.below hb; have HQa : Hid (wx.rangeAt B0 1 (sc q.a)) := (fun j u hj => (match j, hj with | 0, hj => Blk.range0 HQx.out 1 u hj | 1, hj => Blk.range0 HQx.out 2 u hj | j + 2, hj => (by simp [sc] at hj))); have HBe : Hid (Calls Tryz.prog 24 #[ptr rb, sv q.a] wx (BehAns wx q.a R)) := behind24 (HH.out.below HBx.out).blk (HH.out.below HBx.out).own.row (by have := HN.out; omega) q.a; clear hb))
    | (refine wpList_okw rfl (exec_load24n (n := q.a) (.tmp 13) rfl rfl HQa.out) ?_)
    | (go_at_call 24; go_must (refine HBe.out.mono ?_; rintro e w2 ⟨n, p, rfl, hn, hp, hb⟩; have H2 : Hid (Below w.heap.size w w2) := bnext HBx.out hb; have HNn : Hid (n = (hiO q.a R).length) := hn; have HP : Hid (PlaceB q.a R p) := hp; have HQ2 : Hid (Opb w2 B0 q) := HQx.out.below hb; clear hn hp hb)))
  rcases HP.out with ⟨hh, hp⟩ | ⟨j, x, hj, hx, hp⟩
  · subst hp
    have HHs : Hid (hasO q.a R = false) := hh
    clear hh
    have HQz : Hid (∀ z : WIn (fun w' => Below w2.heap.size w2 w'), z.w.rangeAt B0 0 (oc q)) := fun z => Blk.range0 (HQ2.out.below z.ok)
    have HRb2 : Hid (Blk w2 rb 30 [.slice av N cv]) := (HH.out.below H2.out).blk
    have HV : Hid (RowF oc w2 (.slice av N cv) R) := (HH.out.below H2.out).own.row
    have cl : ∀ z : WIn (fun w' => Below w2.heap.size w2 w'), z.w.cell? ⟨rb, 0, none⟩ = some (.slice av N cv) := fun z => (HRb2.out.below z.ok).cell 0 _ rfl
    clear HRt HBx HQx HQa HBe HP HQ1 HQl HB1 HQ2
    go_upto_region 6 with fail
    have ne : Nonempty (WIn (fun w' => Below w2.heap.size w2 w')) := ⟨⟨w2.drew, below_drewn w2 1⟩⟩
    refine wp_region_treeZ (C := fun w' => ∃ z : WIn (fun w' => Below w2.heap.size w2 w'), w' = z.w) (n := 13) 13 (.still 0 (.still 2 (.still 3 (.still 4 (.still 5 (.still 7 (.two 1 (.two 6 (.one 8 (.one 9 (.one 10 (.one 11 (.still 12 .done))))) 8 (.one 6 (.one 9 (.one 10 (.one 11 (.still 12 .done)))))) 8 (.one 1 (.one 6 (.one 9 (.one 10 (.one 11 (.still 12 .done))))))))))))) rfl (by kernel_rfl) (by kernel_rfl) ⟨⟨w2.drew, below_drewn w2 1⟩, rfl⟩ ?_
    refine tree_still rfl rfl ?_
    go_big_quiet_step (fail)
    refine wpQuiet_nil ?_
    refine tree_still rfl rfl ?_
    go_big_quiet_step (fail)
    refine wpQuiet_nil ?_
    refine tree_still rfl rfl ?_
    go_big_quiet_step (fail)
    refine wpQuiet_nil ?_
    refine tree_still rfl rfl ?_
    go_big_quiet_step (fail)
    refine wpQuiet_nil ?_
    refine tree_still rfl rfl ?_
    go_big_quiet_step (fail)
    refine wpQuiet_nil ?_
    refine tree_still rfl rfl ?_
    refine quiet_ok1 rfl (fun w' hw' => by obtain ⟨z, rfl⟩ := hw'; exact exec_load40 (q := q) (.tmp 3) rfl rfl (HQz.out z)) ?_
    go_simp
    refine tree_two rfl rfl rfl rfl ?_ ?_
    · obtain ⟨wa, hwa⟩ : ∃ wa, wa = World.alloc (w2.drew) (.cells #[] 38) := ⟨_, rfl⟩
      obtain ⟨pa, hpa⟩ : ∃ pa, pa = Array.size (World.heap (w2.drew)) := ⟨_, rfl⟩
      have HWa : Hid (wa = World.alloc (w2.drew) (.cells #[] 38)) := hwa
      have HPa : Hid (pa = Array.size (World.heap (w2.drew))) := hpa
      have hba : Below (Array.size (World.heap (w2.drew))) (w2.drew) wa := (by rw [hwa]; exact balloc (Below.refl _ _) _)
      have FEwa : Hid (OwnO w2.heap.size wa (.slice (some ⟨pa, 0, none⟩) 0 0) []) := ⟨by rw [hwa, hpa]; exact own0 _, fun k hk => (by cases hk; rw [hpa]; exact (below_drewn w2 1).size)⟩
      have HBwa : Hid (Below w2.heap.size w2 wa) := bnext (below_drewn w2 1) hba
      clear hwa hpa hba
      refine wp_ok (exec_slice0 rfl) ?_
      rw [← HWa.out, ← HPa.out]
      refine ⟨⟨⟨wa, HBwa.out⟩, rfl⟩, ?_⟩
      go_simp
      refine tree_two rfl rfl rfl rfl ?_ ?_
      · refine wp_of_list rfl ?_
        refine wpList_append_rows ty28 oc_len (by omega) rfl (.tmp 21) (.tmp 25) rfl _ [] rfl FEwa.out.own _ R rfl (HV.out.below HBwa.out) (flat_oc_one _) (by simp; have := HN.out; omega) ?_
        intro v6 w6 ho hg hn
        rw [List.nil_append] at ho
        have FAw6 : Hid (OwnO w2.heap.size w6 v6 R) := ⟨ho, new_of FEwa.out.new HBwa.out.size hn⟩
        have HBw6 : Hid (Below w2.heap.size w2 w6) := HBwa.out.grown hg HBwa.out.size FEwa.out.new
        clear ho hg hn
        refine ⟨rfl, ⟨⟨w6, HBw6.out⟩, rfl⟩, ?_⟩
        go_simp
        refine tree_one rfl rfl ?_
        obtain ⟨wb, hwb⟩ : ∃ wb, wb = World.alloc (w6) (.cells (oc q).toArray 38) := ⟨_, rfl⟩
        obtain ⟨pb, hpb⟩ : ∃ pb, pb = Array.size (World.heap (w6)) := ⟨_, rfl⟩
        have HWb : Hid (wb = World.alloc (w6) (.cells (oc q).toArray 38)) := hwb
        have HPb : Hid (pb = Array.size (World.heap (w6))) := hpb
        have hbb : Below (Array.size (World.heap (w6))) (w6) wb := (by rw [hwb]; exact balloc (Below.refl _ _) _)
        have HPbl : Hid (pb < wb.heap.size) := (show _ < _ from by rw [hwb, hpb]; exact (blk_new _ (oc q) 38).lt)
        have FQwb : Hid (RowF oc wb (.slice (some ⟨pb, 0, none⟩) 1 1) [q]) := (show RowF _ _ _ _ from by rw [hwb, hpb]; exact rowF_one _ q 38)
        have FAwb : Hid (OwnO w2.heap.size wb v6 R) := FAw6.out.below hbb
        have HBwb : Hid (Below w2.heap.size w2 wb) := bnext HBw6.out hbb
        clear hwb hpb hbb
        refine wp_ok (exec_build1 (q := q) (.tmp 27) rfl rfl) ?_
        rw [← HWb.out, ← HPb.out]
        refine ⟨⟨⟨wb, HBwb.out⟩, rfl⟩, ?_⟩
        go_simp
        refine tree_one rfl rfl ?_
        refine wp_of_list rfl ?_
        refine wpList_app36 (w0 := w2) rfl (.tmp 26) (.tmp 28) rfl _ R rfl FAwb.out _ q rfl FQwb.out (by have := HN.out; omega) HBwb.out ?_
        intro v9 w9 ho9 hb9 hg9
        have HBw9 : Hid (Below w2.heap.size w2 w9) := hb9
        have HSo : Hid (Calls Tryz.prog 26 #[v9] w9 fun e w' => ∃ v' O, e = .returned v' ∧ FirstOf O (R ++ [q]) ∧ w'.ownsRow 0 38 10 v' O.length (flat oc O) ∧ (∀ k, v'.ownBlock = some k → w9.heap.size ≤ k) ∧ Below w9.heap.size w9 w') := rsort22n ho9.row (by simp; have := HN.out; omega)
        clear ho9 hb9 hg9
        refine ⟨rfl, ⟨⟨w9, HBw9.out⟩, rfl⟩, ?_⟩
        go_simp
        refine tree_one rfl rfl ?_
        go_simp
        refine HSo.out.mono ?_
        rintro r wA ⟨vA, O, rfl, hF, ho, hn, hb⟩
        obtain ⟨aA, nA, cA, heA⟩ : ∃ a n c, vA = .slice a n c := by obtain ⟨a, c, e⟩ := (rowF_own oc_len ho).len; exact ⟨a, _, c, e⟩
        subst heA
        have HBwA : Hid (Below w2.heap.size w2 wA) := bnext HBw9.out hb
        have HF : Hid (FirstOf O (R ++ [q])) := hF
        have HOA : Hid (OwnO w2.heap.size wA (.slice aA nA cA) O) := ⟨ho, fun k hk => Nat.le_trans HBw9.out.size (hn k hk)⟩
        clear hF ho hn hb
        refine ⟨⟨⟨wA, HBwA.out⟩, rfl⟩, ?_⟩
        go_simp
        refine tree_one rfl rfl ?_
        go_simp
        refine ⟨⟨⟨wA, HBwA.out⟩, rfl⟩, ?_⟩
        go_simp
        refine tree_still rfl rfl ?_
        go_big_quiet_step (fail)
        refine wpQuiet_nil ?_
        refine tree_done ?_
        clear ne
        have HLA : Hid (Blk wA rb 30 [.slice av N cv]) := HRb2.out.below HBwA.out
        have c8 : wA.cell? ⟨rb, 0, none⟩ = some (.slice av N cv) := HLA.out.cell 0 _ rfl
        have f8 : wA.frozen? ⟨rb, 0, none⟩ = false := HLA.out.frozen 0
        refine ⟨rfl, ?_⟩
        go_simp
        clear c8 f8
        go_wp2
        go_ret2
        exact ⟨_, 0, _, O, rfl, rlg_store H0.out H2.out HBwA.out HNl.out HLA.out HRb2.out.lt HOA.out HF.out HR.out HRq.out, .inr ⟨HRi.out, .inr ⟨HHs.out, rfl, by rw [HNn.out], HF.out⟩⟩⟩
      · obtain ⟨wb, hwb⟩ : ∃ wb, wb = World.alloc (wa) (.cells (oc q).toArray 38) := ⟨_, rfl⟩
        obtain ⟨pb, hpb⟩ : ∃ pb, pb = Array.size (World.heap (wa)) := ⟨_, rfl⟩
        have HWb : Hid (wb = World.alloc (wa) (.cells (oc q).toArray 38)) := hwb
        have HPb : Hid (pb = Array.size (World.heap (wa))) := hpb
        have hbb : Below (Array.size (World.heap (wa))) (wa) wb := (by rw [hwb]; exact balloc (Below.refl _ _) _)
        have HPbl : Hid (pb < wb.heap.size) := (show _ < _ from by rw [hwb, hpb]; exact (blk_new _ (oc q) 38).lt)
        have HPab : Hid (pa ≠ pb) := fun e => by have h1 := (FEwa.out.own.lt pa rfl).2; omega
        have FQwb : Hid (RowF oc wb (.slice (some ⟨pb, 0, none⟩) 1 1) [q]) := (show RowF _ _ _ _ from by rw [hwb, hpb]; exact rowF_one _ q 38)
        have FEwb : Hid (OwnO w2.heap.size wb (.slice (some ⟨pa, 0, none⟩) 0 0) []) := FEwa.out.below hbb
        have HBwb : Hid (Below w2.heap.size w2 wb) := bnext HBwa.out hbb
        clear hwb hpb hbb
        refine wp_ok (exec_build1 (q := q) (.tmp 27) rfl rfl) ?_
        rw [← HWb.out, ← HPb.out]
        refine ⟨⟨⟨wb, HBwb.out⟩, rfl⟩, ?_⟩
        go_simp
        refine tree_one rfl rfl ?_
        refine wp_of_list rfl ?_
        refine wpList_append_rows ty28 oc_len (by omega) rfl (.tmp 21) (.tmp 25) rfl _ [] rfl FEwb.out.own _ R rfl (HV.out.below HBwb.out) (flat_oc_one _) (by simp; have := HN.out; omega) ?_
        intro v6 w6 ho hg hn
        rw [List.nil_append] at ho
        have FAw6 : Hid (OwnO w2.heap.size w6 v6 R) := ⟨ho, new_of FEwb.out.new HBwb.out.size hn⟩
        have HBw6 : Hid (Below w2.heap.size w2 w6) := HBwb.out.grown hg HBwb.out.size FEwb.out.new
        have FQw6 : Hid (RowF oc w6 (.slice (some ⟨pb, 0, none⟩) 1 1) [q]) := FQwb.out.blocks fun j hj hlt => hg.block j hlt fun e => by have h1 := HPab.out; cases hj; cases e; exact h1 rfl
        clear ho hg hn
        refine ⟨rfl, ⟨⟨w6, HBw6.out⟩, rfl⟩, ?_⟩
        go_simp
        refine tree_one rfl rfl ?_
        refine wp_of_list rfl ?_
        refine wpList_app36 (w0 := w2) rfl (.tmp 26) (.tmp 28) rfl _ R rfl FAw6.out _ q rfl FQw6.out (by have := HN.out; omega) HBw6.out ?_
        intro v9 w9 ho9 hb9 hg9
        have HBw9 : Hid (Below w2.heap.size w2 w9) := hb9
        have HSo : Hid (Calls Tryz.prog 26 #[v9] w9 fun e w' => ∃ v' O, e = .returned v' ∧ FirstOf O (R ++ [q]) ∧ w'.ownsRow 0 38 10 v' O.length (flat oc O) ∧ (∀ k, v'.ownBlock = some k → w9.heap.size ≤ k) ∧ Below w9.heap.size w9 w') := rsort22n ho9.row (by simp; have := HN.out; omega)
        clear ho9 hb9 hg9
        refine ⟨rfl, ⟨⟨w9, HBw9.out⟩, rfl⟩, ?_⟩
        go_simp
        refine tree_one rfl rfl ?_
        go_simp
        refine HSo.out.mono ?_
        rintro r wA ⟨vA, O, rfl, hF, ho, hn, hb⟩
        obtain ⟨aA, nA, cA, heA⟩ : ∃ a n c, vA = .slice a n c := by obtain ⟨a, c, e⟩ := (rowF_own oc_len ho).len; exact ⟨a, _, c, e⟩
        subst heA
        have HBwA : Hid (Below w2.heap.size w2 wA) := bnext HBw9.out hb
        have HF : Hid (FirstOf O (R ++ [q])) := hF
        have HOA : Hid (OwnO w2.heap.size wA (.slice aA nA cA) O) := ⟨ho, fun k hk => Nat.le_trans HBw9.out.size (hn k hk)⟩
        clear hF ho hn hb
        refine ⟨⟨⟨wA, HBwA.out⟩, rfl⟩, ?_⟩
        go_simp
        refine tree_one rfl rfl ?_
        go_simp
        refine ⟨⟨⟨wA, HBwA.out⟩, rfl⟩, ?_⟩
        go_simp
        refine tree_still rfl rfl ?_
        go_big_quiet_step (fail)
        refine wpQuiet_nil ?_
        refine tree_done ?_
        clear ne
        have HLA : Hid (Blk wA rb 30 [.slice av N cv]) := HRb2.out.below HBwA.out
        have c8 : wA.cell? ⟨rb, 0, none⟩ = some (.slice av N cv) := HLA.out.cell 0 _ rfl
        have f8 : wA.frozen? ⟨rb, 0, none⟩ = false := HLA.out.frozen 0
        refine ⟨rfl, ?_⟩
        go_simp
        clear c8 f8
        go_wp2
        go_ret2
        exact ⟨_, 0, _, O, rfl, rlg_store H0.out H2.out HBwA.out HNl.out HLA.out HRb2.out.lt HOA.out HF.out HR.out HRq.out, .inr ⟨HRi.out, .inr ⟨HHs.out, rfl, by rw [HNn.out], HF.out⟩⟩⟩
    · obtain ⟨wb, hwb⟩ : ∃ wb, wb = World.alloc (w2.drew) (.cells (oc q).toArray 38) := ⟨_, rfl⟩
      obtain ⟨pb, hpb⟩ : ∃ pb, pb = Array.size (World.heap (w2.drew)) := ⟨_, rfl⟩
      have HWb : Hid (wb = World.alloc (w2.drew) (.cells (oc q).toArray 38)) := hwb
      have HPb : Hid (pb = Array.size (World.heap (w2.drew))) := hpb
      have hbb : Below (Array.size (World.heap (w2.drew))) (w2.drew) wb := (by rw [hwb]; exact balloc (Below.refl _ _) _)
      have HPbl : Hid (pb < wb.heap.size) := (show _ < _ from by rw [hwb, hpb]; exact (blk_new _ (oc q) 38).lt)
      have FQwb : Hid (RowF oc wb (.slice (some ⟨pb, 0, none⟩) 1 1) [q]) := (show RowF _ _ _ _ from by rw [hwb, hpb]; exact rowF_one _ q 38)
      have HBwb : Hid (Below w2.heap.size w2 wb) := bnext (below_drewn w2 1) hbb
      clear hwb hpb hbb
      refine wp_ok (exec_build1 (q := q) (.tmp 27) rfl rfl) ?_
      rw [← HWb.out, ← HPb.out]
      refine ⟨⟨⟨wb, HBwb.out⟩, rfl⟩, ?_⟩
      go_simp
      refine tree_one rfl rfl ?_
      obtain ⟨wa, hwa⟩ : ∃ wa, wa = World.alloc (wb) (.cells #[] 38) := ⟨_, rfl⟩
      obtain ⟨pa, hpa⟩ : ∃ pa, pa = Array.size (World.heap (wb)) := ⟨_, rfl⟩
      have HPab : Hid (pa ≠ pb) := fun e => by have h1 := HPbl.out; omega
      have HWa : Hid (wa = World.alloc (wb) (.cells #[] 38)) := hwa
      have HPa : Hid (pa = Array.size (World.heap (wb))) := hpa
      have hba : Below (Array.size (World.heap (wb))) (wb) wa := (by rw [hwa]; exact balloc (Below.refl _ _) _)
      have FEwa : Hid (OwnO w2.heap.size wa (.slice (some ⟨pa, 0, none⟩) 0 0) []) := ⟨by rw [hwa, hpa]; exact own0 _, fun k hk => (by cases hk; rw [hpa]; exact HBwb.out.size)⟩
      have FQwa : Hid (RowF oc wa (.slice (some ⟨pb, 0, none⟩) 1 1) [q]) := FQwb.out.below hba
      have HBwa : Hid (Below w2.heap.size w2 wa) := bnext HBwb.out hba
      clear hwa hpa hba
      refine wp_ok (exec_slice0 rfl) ?_
      rw [← HWa.out, ← HPa.out]
      refine ⟨⟨⟨wa, HBwa.out⟩, rfl⟩, ?_⟩
      go_simp
      refine tree_one rfl rfl ?_
      refine wp_of_list rfl ?_
      refine wpList_append_rows ty28 oc_len (by omega) rfl (.tmp 21) (.tmp 25) rfl _ [] rfl FEwa.out.own _ R rfl (HV.out.below HBwa.out) (flat_oc_one _) (by simp; have := HN.out; omega) ?_
      intro v6 w6 ho hg hn
      rw [List.nil_append] at ho
      have FAw6 : Hid (OwnO w2.heap.size w6 v6 R) := ⟨ho, new_of FEwa.out.new HBwa.out.size hn⟩
      have HBw6 : Hid (Below w2.heap.size w2 w6) := HBwa.out.grown hg HBwa.out.size FEwa.out.new
      have FQw6 : Hid (RowF oc w6 (.slice (some ⟨pb, 0, none⟩) 1 1) [q]) := FQwa.out.blocks fun j hj hlt => hg.block j hlt fun e => by have h1 := HPab.out; cases hj; cases e; exact h1 rfl
      clear ho hg hn
      refine ⟨rfl, ⟨⟨w6, HBw6.out⟩, rfl⟩, ?_⟩
      go_simp
      refine tree_one rfl rfl ?_
      refine wp_of_list rfl ?_
      refine wpList_app36 (w0 := w2) rfl (.tmp 26) (.tmp 28) rfl _ R rfl FAw6.out _ q rfl FQw6.out (by have := HN.out; omega) HBw6.out ?_
      intro v9 w9 ho9 hb9 hg9
      have HBw9 : Hid (Below w2.heap.size w2 w9) := hb9
      have HSo : Hid (Calls Tryz.prog 26 #[v9] w9 fun e w' => ∃ v' O, e = .returned v' ∧ FirstOf O (R ++ [q]) ∧ w'.ownsRow 0 38 10 v' O.length (flat oc O) ∧ (∀ k, v'.ownBlock = some k → w9.heap.size ≤ k) ∧ Below w9.heap.size w9 w') := rsort22n ho9.row (by simp; have := HN.out; omega)
      clear ho9 hb9 hg9
      refine ⟨rfl, ⟨⟨w9, HBw9.out⟩, rfl⟩, ?_⟩
      go_simp
      refine tree_one rfl rfl ?_
      go_simp
      refine HSo.out.mono ?_
      rintro r wA ⟨vA, O, rfl, hF, ho, hn, hb⟩
      obtain ⟨aA, nA, cA, heA⟩ : ∃ a n c, vA = .slice a n c := by obtain ⟨a, c, e⟩ := (rowF_own oc_len ho).len; exact ⟨a, _, c, e⟩
      subst heA
      have HBwA : Hid (Below w2.heap.size w2 wA) := bnext HBw9.out hb
      have HF : Hid (FirstOf O (R ++ [q])) := hF
      have HOA : Hid (OwnO w2.heap.size wA (.slice aA nA cA) O) := ⟨ho, fun k hk => Nat.le_trans HBw9.out.size (hn k hk)⟩
      clear hF ho hn hb
      refine ⟨⟨⟨wA, HBwA.out⟩, rfl⟩, ?_⟩
      go_simp
      refine tree_one rfl rfl ?_
      go_simp
      refine ⟨⟨⟨wA, HBwA.out⟩, rfl⟩, ?_⟩
      go_simp
      refine tree_still rfl rfl ?_
      go_big_quiet_step (fail)
      refine wpQuiet_nil ?_
      refine tree_done ?_
      clear ne
      have HLA : Hid (Blk wA rb 30 [.slice av N cv]) := HRb2.out.below HBwA.out
      have c8 : wA.cell? ⟨rb, 0, none⟩ = some (.slice av N cv) := HLA.out.cell 0 _ rfl
      have f8 : wA.frozen? ⟨rb, 0, none⟩ = false := HLA.out.frozen 0
      refine ⟨rfl, ?_⟩
      go_simp
      clear c8 f8
      go_wp2
      go_ret2
      exact ⟨_, 0, _, O, rfl, rlg_store H0.out H2.out HBwA.out HNl.out HLA.out HRb2.out.lt HOA.out HF.out HR.out HRq.out, .inr ⟨HRi.out, .inr ⟨HHs.out, rfl, by rw [HNn.out], HF.out⟩⟩⟩
  · subst hp
    have hh : hasO q.a R = true := hasO_iff.2 ⟨x, List.mem_of_getElem? hj, hx⟩
    have hjI : ¬ (j : Int) < 0 := by omega
    go_wp2
    go_ret2
    exact ⟨0, 8, _, R, rfl, ⟨HH.out.below H2.out, grown_belowR H2.out, bnext H0.out H2.out⟩, .inr ⟨HRi.out, .inl ⟨hh, rfl, rfl, rfl⟩⟩⟩
end Go.Proofs.YthnjbjlhfohpfaaGreat
