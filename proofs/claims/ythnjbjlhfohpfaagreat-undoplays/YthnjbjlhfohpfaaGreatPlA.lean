/-
  The reference's Remove walked.
  Both logs answer alike: by lists.
-/
import Derived.Test.YthnjbjlhfohpfaaGreatRfV
import Derived.Test.YthnjbjlhfohpfaaGreatRfR
import Derived.Test.YthnjbjlhfohpfaaGreatUdW
namespace Go.Proofs.YthnjbjlhfohpfaaGreat
section
set_option linter.unusedVariables false
set_option linter.unusedSimpArgs false
set_option synthInstance.maxSize 20000
set_option maxHeartbeats 2000000
set_option maxRecDepth 20000
open Go.RowKit Go.Maps

theorem rowF_dropI {w : World} {b off n cap : Nat} {l : List OpT} (h : RowF oc w (.slice (some ⟨b, off, none⟩) n cap) l) {i : Nat} (hi : i ≤ l.length) : RowF oc w (.slice (if cap = i then some ⟨b, off, none⟩ else some ⟨b, off + i * 10, none⟩) (n - i) (cap - i)) (l.drop i) := by
  have h1 := h.caps
  by_cases hc : cap = i
  · rw [if_pos hc]
    refine ⟨_, _, by rw [List.length_drop, h1.1], by rw [List.length_drop]; omega, by unfold maxLen; omega, (fun h => by cases h), fun hp => ?_⟩
    rw [List.length_drop] at hp
    omega
  · rw [if_neg hc]
    exact rowF_drop h hi
/-- What is left behind a removal. -/
theorem rem_mem {R : List OpT} {j : Nat} {x : OpT} (hs : R.Pairwise LtO) (hx : R[j]? = some x) : ∀ y, y ∈ R.take j ++ R.drop (j + 1) ↔ y ∈ R ∧ y.a ≠ x.a := fun y => by
  obtain ⟨hi, e⟩ := List.getElem?_eq_some_iff.1 hx
  have er : R = R.take j ++ x :: R.drop (j + 1) := by rw [← e, List.getElem_cons_drop, List.take_append_drop]
  have h2 := hs
  rw [er] at h2
  obtain ⟨p1, p2, p3⟩ := List.pairwise_append.1 h2
  obtain ⟨p4, p5⟩ := List.pairwise_cons.1 p2
  constructor
  · intro h
    rcases List.mem_append.1 h with h | h
    · exact ⟨List.mem_of_mem_take h, lt_ne (p3 y h x List.mem_cons_self)⟩
    · exact ⟨List.mem_of_mem_drop h, fun e => lt_ne (p4 y h) e.symm⟩
  · rintro ⟨h, hn⟩
    rw [er] at h
    rcases List.mem_append.1 h with h | h
    · exact List.mem_append_left _ h
    · rcases List.mem_cons.1 h with rfl | h
      · exact absurd rfl hn
      · exact List.mem_append_right _ h
theorem rem_str {R : List OpT} (j : Nat) (hs : R.Pairwise LtO) : (R.take j ++ R.drop (j + 1)).Pairwise LtO := by
  refine List.Pairwise.sublist ?_ hs
  have h1 : (R.drop (j + 1)).Sublist (R.drop j) := by
    rw [show R.drop (j + 1) = (R.drop j).drop 1 by rw [List.drop_drop]]
    exact List.drop_sublist _ _
  have := (List.Sublist.refl (R.take j)).append h1
  rwa [List.take_append_drop] at this
theorem rlg_cut {w0 w w2 wA : World} {rb N cv nA cA : Nat} {av aA : Option Addr} {R O : List OpT} (h0 : Below w0.heap.size w0 w) (h2 : Below w.heap.size w w2) (hA : Below w2.heap.size w2 wA) (nl : w0.heap.size ≤ rb) (hb : Blk wA rb 30 [.slice av N cv]) (hrb : rb < w2.heap.size) (ho : OwnO w2.heap.size wA (.slice aA nA cA) O) (hs : O.Pairwise LtO) (hm : ∀ y ∈ O, y ∈ R) (hr : ∀ r ∈ R, Rd w r.v r.b) :
    RLg w0.heap.size (wA.setCell ⟨rb, 0, none⟩ (.slice aA nA cA)) rb (.slice aA nA cA) O ∧ w.grownBy (wA.setCell ⟨rb, 0, none⟩ (.slice aA nA cA)) (some rb) ∧ Below w0.heap.size w0 (wA.setCell ⟨rb, 0, none⟩ (.slice aA nA cA)) := by
  have hg : wA.grownBy (wA.setCell ⟨rb, 0, none⟩ (.slice aA nA cA)) (some rb) := grown_setCell _ _ _ _
  have hnb : NoB [.slice av N cv] := fun u hu n e => by
    simp at hu
    rw [hu] at e; cases e
  refine ⟨⟨Blk.set hb 0 _, ⟨ownsRow_block ho.own fun k hk => hg.block k (ho.own.lt k hk).2 fun e => ?_, fun k hk => Nat.le_trans (Nat.le_trans h0.size h2.size) (ho.new k hk)⟩, hs, fun r hx => rd_pastNoB ((hr r (hm r hx)).below (bnext h2 hA)) hb hnb hg⟩, grown_of_below (bnext h2 hA) hg, bgrown (bnext h0 (bnext h2 hA)) nl hg⟩
  cases e
  have := ho.new rb hk
  omega
def RRemL (R : List OpT) (a : S) (R' : List OpT) (n k : Int) : Prop := (hasO a R = false ∧ n = 0 ∧ k = 12 ∧ R' = R) ∨ (hasO a R = true ∧ k = 0 ∧ n = ((hiO a R).length : Int) ∧ R'.Pairwise LtO ∧ ∀ y, y ∈ R' ↔ y ∈ R ∧ y.a ≠ a)
def RRemAns (w0 w : World) (rb : Nat) (R : List OpT) (a : S) (e : Ending) (w' : World) : Prop := ∃ n k v' R', e = .returned (.tuple #[.int .i64 n, .int .i64 k]) ∧ (RLg w0.heap.size w' rb v' R' ∧ w.grownBy w' (some rb) ∧ Below w0.heap.size w0 w') ∧ RRemL R a R' n k
set_option maxHeartbeats 8000000 in
theorem rrem8 {w0 w : World} {rb : Nat} {v : Value} {R : List OpT} {a : S} (h : RLg w0.heap.size w rb v R) (h0 : Below w0.heap.size w0 w) (nl : w0.heap.size ≤ rb) (hl : R.length ≤ 900) : Calls Tryz.prog 8 #[ptr rb, sv a] w (RRemAns w0 w rb R a) := by
  obtain ⟨av, cv, rfl⟩ := h.own.row.len
  have hcap := h.own.row.caps.2
  have HH : Hid (RLg w0.heap.size w rb (.slice av R.length cv) R) := h
  have H0 : Hid (Below w0.heap.size w0 w) := h0
  have HNl : Hid (w0.heap.size ≤ rb) := nl
  have HR : Hid (∀ r ∈ R, Rd w r.v r.b) := h.rd
  clear h h0 nl
  generalize hN : R.length = N at *
  have HN : Hid (R.length = N) := hN
  clear hN
  obtain ⟨w1, hw1⟩ : ∃ w1, w1 = w.alloc (.cells (sc a).toArray 35) := ⟨_, rfl⟩
  obtain ⟨B0, hB0⟩ : ∃ B0, B0 = w.heap.size := ⟨_, rfl⟩
  obtain ⟨i1, i2⟩ := box_new hw1 hB0
  have HB1 : Hid (Below w.heap.size w w1) := i1
  have HQa : Hid (w1.rangeAt B0 0 (sc a)) := Blk.range0 i2
  have HBe : Hid (Calls Tryz.prog 24 #[ptr rb, sv a] w1 (BehAns w1 a R)) := behind24 (HH.out.below i1).blk (HH.out.below i1).own.row (by have := HN.out; omega) a
  clear i1 i2
  go_enter Tryz.func8, Tryz.ntmps8
  go_upto_region 1 with (refine wpList_okw rfl (exec_box24 (n := a) (.tmp 1) rfl rfl) ?_)
  rw [← hw1, ← hB0]
  clear hw1 hB0
  go_upto_region 2 with (first
    | (refine wpList_okw rfl (exec_load24n (n := a) (.tmp 3) rfl rfl HQa.out) ?_)
    | (go_at_call 24; go_must (refine HBe.out.mono ?_; rintro e w2 ⟨n, p, rfl, hn, hp, hb⟩; have H2 : Hid (Below w.heap.size w w2) := bnext HB1.out hb; have HNn : Hid (n = (hiO a R).length) := hn; have HP : Hid (PlaceB a R p) := hp; clear hn hp hb)))
  rcases HP.out with ⟨hh, hp⟩ | ⟨j, x, hj, hx, hp⟩
  · subst hp
    go_wp2
    go_ret2
    exact ⟨0, 12, _, R, rfl, ⟨HH.out.below H2.out, grown_belowR H2.out, bnext H0.out H2.out⟩, .inl ⟨hh, rfl, rfl, rfl⟩⟩
  · subst hp
    have HJ : Hid (R[j]? = some x ∧ x.a = a) := ⟨hj, hx⟩
    have hjI : ¬ (j : Int) < 0 := by omega
    have hjN : j < N := by have := (List.getElem?_eq_some_iff.1 hj).1; have := HN.out; omega
    have HRb2 : Hid (Blk w2 rb 30 [.slice av N cv]) := (HH.out.below H2.out).blk
    have HV : Hid (RowF oc w2 (.slice av N cv) R) := (HH.out.below H2.out).own.row
    obtain ⟨bx, ox, rfl, _⟩ := RowF.at oc_len HV.out hj
    have cl : ∀ z : WIn (fun w' => Below w2.heap.size w2 w'), z.w.cell? ⟨rb, 0, none⟩ = some (.slice (some ⟨bx, ox, none⟩) N cv) := fun z => (HRb2.out.below z.ok).cell 0 _ rfl
    clear HQa HBe HP HB1 hj hx
    go_upto_region 4 with fail
    have ne : Nonempty (WIn (fun w' => Below w2.heap.size w2 w')) := ⟨⟨w2.drew, below_drewn w2 1⟩⟩
    refine wp_region_treeZ (C := fun w' => ∃ z : WIn (fun w' => Below w2.heap.size w2 w'), w' = z.w) (n := 19) 19 (.still 0 (.still 2 (.still 3 (.still 4 (.still 5 (.still 6 (.still 7 (.still 9 (.still 10 (.still 11 (.still 12 (.still 13 (.still 14 (.still 15 (.one 1 (.one 8 (.one 16 (.one 17 (.still 18 .done))))))))))))))))))) rfl (by kernel_rfl) (by kernel_rfl) ⟨⟨w2.drew, below_drewn w2 1⟩, rfl⟩ ?_
    refine tree_still rfl rfl ?_
    go_big_quiet_step (fail)
    refine wpQuiet_nil ?_
    refine tree_still rfl rfl ?_
    go_big_quiet_step (fail)
    refine wpQuiet_nil ?_
    refine tree_still rfl rfl ?_
    go_big_quiet_step (fail)
    refine wpQuiet_nil ?_
    refine tree_still rfl rfl ?_
    go_big_quiet_step (fail)
    refine wpQuiet_nil ?_
    refine tree_still rfl rfl ?_
    go_big_quiet_step (fail)
    refine wpQuiet_nil ?_
    refine tree_still rfl rfl ?_
    go_big_quiet_step (fail)
    refine wpQuiet_nil ?_
    refine tree_still rfl rfl ?_
    go_big_quiet_step (fail)
    refine wpQuiet_nil ?_
    refine tree_still rfl rfl ?_
    go_big_quiet_step (fail)
    refine wpQuiet_nil ?_
    refine tree_still rfl rfl ?_
    go_big_quiet_step (fail)
    refine wpQuiet_nil ?_
    refine tree_still rfl rfl ?_
    go_big_quiet_step (fail)
    refine wpQuiet_nil ?_
    refine tree_still rfl rfl ?_
    go_big_quiet_step (fail)
    refine wpQuiet_nil ?_
    refine tree_still rfl rfl ?_
    go_big_quiet_step (fail)
    refine wpQuiet_nil ?_
    refine tree_still rfl rfl ?_
    go_big_quiet_step (fail)
    refine wpQuiet_nil ?_
    refine tree_still rfl rfl ?_
    go_big_quiet_step (fail)
    refine wpQuiet_nil ?_
    refine tree_one rfl rfl ?_
    obtain ⟨wa, hwa⟩ : ∃ wa, wa = World.alloc (w2.drew) (.cells #[] 38) := ⟨_, rfl⟩
    obtain ⟨pa, hpa⟩ : ∃ pa, pa = Array.size (World.heap (w2.drew)) := ⟨_, rfl⟩
    have HWa : Hid (wa = World.alloc (w2.drew) (.cells #[] 38)) := hwa
    have HPa : Hid (pa = Array.size (World.heap (w2.drew))) := hpa
    have FE : Hid (OwnO w2.heap.size wa (.slice (some ⟨pa, 0, none⟩) 0 0) []) := ⟨by rw [hwa, hpa]; exact own0 _, fun k hk => (by cases hk; rw [hpa]; exact (below_drewn w2 1).size)⟩
    have HBwa : Hid (Below w2.heap.size w2 wa) := (show Below _ _ _ from by rw [hwa]; exact balloc (below_drewn w2 1) _)
    clear hwa hpa
    refine wp_ok (exec_slice0 rfl) ?_
    rw [← HWa.out, ← HPa.out]
    refine ⟨⟨⟨wa, HBwa.out⟩, rfl⟩, ?_⟩
    go_simp
    refine tree_one rfl rfl ?_
    refine wp_of_list rfl ?_
    refine wpList_append_rows ty28 oc_len (by omega) rfl (.tmp 17) (.tmp 23) rfl _ ([]) rfl FE.out.own _ (R.take j) rfl (rowF_take (HV.out.below HBwa.out) (by have := HN.out; omega)) (flat_oc_one _) (by simp; have := HN.out; omega) ?_
    intro v6 w6 ho hg hn
    have FA : Hid (OwnO w2.heap.size w6 v6 ([] ++ R.take j)) := ⟨ho, new_of FE.out.new HBwa.out.size hn⟩
    have HBw6 : Hid (Below w2.heap.size w2 w6) := HBwa.out.grown hg HBwa.out.size FE.out.new
    clear ho hg hn
    refine ⟨rfl, ⟨⟨w6, HBw6.out⟩, rfl⟩, ?_⟩
    go_simp
    refine tree_one rfl rfl ?_
    refine wp_of_list rfl ?_
    refine wpList_append_rows ty28 oc_len (by omega) rfl (.tmp 24) (.tmp 31) rfl _ ([] ++ R.take j) rfl FA.out.own _ (R.drop (j + 1)) rfl (rowF_dropI (i := j + 1) (HV.out.below HBw6.out) (by have := HN.out; omega)) (flat_oc_one _) (by simp; have := HN.out; omega) ?_
    intro vA wA ho hg hn
    have FB : Hid (OwnO w2.heap.size wA vA ([] ++ R.take j ++ R.drop (j + 1))) := ⟨ho, new_of FA.out.new HBw6.out.size hn⟩
    have HBwA : Hid (Below w2.heap.size w2 wA) := HBw6.out.grown hg HBw6.out.size FA.out.new
    clear ho hg hn
    refine ⟨rfl, ⟨⟨wA, HBwA.out⟩, rfl⟩, ?_⟩
    go_simp
    refine tree_one rfl rfl ?_
    obtain ⟨aA, nA, cA, heA⟩ : ∃ a n c, vA = .slice a n c := by obtain ⟨a, c, e⟩ := FB.out.row.len; exact ⟨a, _, c, e⟩
    subst heA
    go_simp
    refine ⟨⟨⟨wA, HBwA.out⟩, rfl⟩, ?_⟩
    go_simp
    refine tree_still rfl rfl ?_
    go_big_quiet_step (fail)
    refine wpQuiet_nil ?_
    refine tree_done ?_
    clear ne
    have HLA : Hid (Blk wA rb 30 [.slice (some ⟨bx, ox, none⟩) N cv]) := HRb2.out.below HBwA.out
    have FC : Hid (OwnO w2.heap.size wA (.slice aA nA cA) (R.take j ++ R.drop (j + 1))) := (show OwnO _ _ _ _ from by have := FB.out; rwa [List.nil_append] at this)
    have c8 : wA.cell? ⟨rb, 0, none⟩ = some (.slice (some ⟨bx, ox, none⟩) N cv) := HLA.out.cell 0 _ rfl
    have f8 : wA.frozen? ⟨rb, 0, none⟩ = false := HLA.out.frozen 0
    refine ⟨rfl, ?_⟩
    go_simp
    clear c8 f8
    all_goals go_wp2
    all_goals go_ret2
    all_goals exact ⟨_, 0, _, R.take j ++ R.drop (j + 1), rfl, rlg_cut H0.out H2.out HBwA.out HNl.out HLA.out HRb2.out.lt FC.out (rem_str j HH.out.str) (fun y hy => ((rem_mem HH.out.str HJ.out.1 y).1 hy).1) HR.out, .inr ⟨hasO_iff.2 ⟨x, List.mem_of_getElem? HJ.out.1, HJ.out.2⟩, rfl, by rw [HNn.out], rem_str j HH.out.str, fun y => (rem_mem HH.out.str HJ.out.1 y).trans (by rw [HJ.out.2])⟩⟩
end

section
set_option linter.unusedVariables false
set_option linter.unusedSimpArgs false
set_option synthInstance.maxSize 20000
set_option maxHeartbeats 2000000
set_option maxRecDepth 20000
open Go.RowKit Go.Maps

theorem has_map {R : List OpT} {U : List ST} (h : R.map bare = Ob U) (a : S) : hasO a (Ob U) = hasO a R := by
  rw [← h]
  unfold hasO
  rw [List.any_map]
  rfl
theorem hi_map {R : List OpT} {U : List ST} (h : R.map bare = Ob U) (a : S) : (hiO a (Ob U)).length = (hiO a R).length := by
  rw [← h]
  unfold hiO
  rw [List.filter_map, List.length_map]
  rfl
theorem str_map {R : List OpT} (h : R.Pairwise LtO) : (R.map bare).Pairwise LtO := List.pairwise_map.2 (h.imp fun {a b} h => h)
theorem ins_alike {R R' : List OpT} {U T : List ST} {q : OpT} {n k n' k' : Int} (hR : R.map bare = Ob U) (hs : R.Pairwise LtO) (hT : StrS T) (h1 : InsB U q T n k) (h2 : RInsL R q R' n' k') : n = n' ∧ k = k' ∧ R'.map bare = Ob T := by
  have eh := has_map hR q.a
  have en := hi_map hR q.a
  have hm := h1.mem
  rcases h1 with ⟨a1, rfl, rfl, rfl⟩ | ⟨a1, ⟨a2, rfl, rfl, rfl⟩ | ⟨a2, rfl, a3, rfl⟩⟩
  · rcases h2 with ⟨_, rfl, rfl, rfl⟩ | ⟨b1, _⟩
    · exact ⟨rfl, rfl, hR⟩
    · rw [a1] at b1; cases b1
  · rcases h2 with ⟨b1, _⟩ | ⟨_, ⟨_, rfl, rfl, rfl⟩ | ⟨b2, _⟩⟩
    · rw [a1] at b1; cases b1
    · exact ⟨rfl, rfl, hR⟩
    · rw [eh, b2] at a2; cases a2
  · rcases h2 with ⟨b1, _⟩ | ⟨_, ⟨b2, _⟩ | ⟨b2, rfl, rfl, b3⟩⟩
    · rw [a1] at b1; cases b1
    · rw [eh, b2] at a2; cases a2
    · refine ⟨by rw [en], rfl, strict_uniq _ _ (str_map b3.str) (ob_str hT) fun x => ?_⟩
      rw [sort_in hR hs b2 b3 x]
      rcases hm with ⟨c, _⟩ | ⟨_, c, _⟩ | ⟨_, _, c⟩
      · rw [a1] at c; cases c
      · rw [a2] at c; cases c
      · exact (c x).symm
theorem rem_alike {R R' : List OpT} {U T : List ST} {a : S} {n k n' k' : Int} (hR : R.map bare = Ob U) (hT : StrS T) (h1 : RemB U a T n k) (h2 : RRemL R a R' n' k') : n = n' ∧ k = k' ∧ R'.map bare = Ob T := by
  have eh := has_map hR a
  have en := hi_map hR a
  have hm := h1.mem
  rcases h1 with ⟨a2, rfl, rfl, rfl⟩ | ⟨a2, rfl, a3, rfl⟩
  · rcases h2 with ⟨_, rfl, rfl, rfl⟩ | ⟨b2, _⟩
    · exact ⟨rfl, rfl, hR⟩
    · rw [eh, b2] at a2; cases a2
  · rcases h2 with ⟨b2, _⟩ | ⟨_, rfl, rfl, b3, b4⟩
    · rw [eh, b2] at a2; cases a2
    · refine ⟨by rw [en], rfl, strict_uniq _ _ (str_map b3) (ob_str hT) fun x => ?_⟩
      rw [hm x, ← hR]
      constructor
      · intro h
        obtain ⟨y, hy, rfl⟩ := List.mem_map.1 h
        exact ⟨List.mem_map.2 ⟨y, ((b4 y).1 hy).1, rfl⟩, ((b4 y).1 hy).2⟩
      · rintro ⟨h, hn⟩
        obtain ⟨y, hy, rfl⟩ := List.mem_map.1 h
        exact List.mem_map.2 ⟨y, (b4 y).2 ⟨hy, hn⟩, rfl⟩
section
variable {B : Nat} {w w' : World} {rb lb tb : Nat} {v va va' : Value} {mo mo' : Option Nat} {L : List IT} {U : List ST} {R : List OpT}
/-- The reference's log stays when the program's is changed. -/
theorem RLg.lw (h : RLg B w rb v R) (hw : Lw lb tb mo va w w' mo' va') (hL : LogAt w lb va tb mo L U) : RLg B w' rb v R := ⟨hw.blk hL h.blk (by decide) (by decide) (by decide), ⟨own36_lw h.own.own hw hL, h.own.new⟩, h.str, fun q hq => hw.rd hL (h.rd q hq)⟩
/-- The program's log stays when the reference's is changed. -/
theorem LogAt.beside (h : LogAt w lb va tb mo L U) (hR : RLg B w rb v R) (hg : w.grownBy w' (some rb)) : LogAt w' lb va tb mo L U := by
  have hnb : NoB [v] := fun u hu n e => by
    obtain ⟨a, c, hv⟩ := hR.own.row.len
    simp at hu
    rw [hu, hv] at e
    cases e
  exact h.pastRow hg hR.blk (by decide) (by decide) (by decide) fun {u l} hr => rd_pastNoB hr hR.blk hnb hg
end
end
end Go.Proofs.YthnjbjlhfohpfaaGreat
