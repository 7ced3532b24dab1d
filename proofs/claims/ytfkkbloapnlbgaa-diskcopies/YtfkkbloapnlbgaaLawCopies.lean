/-
  A copy is as the disk, and goes its own way: the walk of DiskCopies.
-/
import Derived.Test.YtfkkbloapnlbgaaLawPlays
namespace Go.Proofs.Ytfkkbloapnlbgaa
set_option linter.unusedVariables false
set_option linter.unusedSimpArgs false
set_option synthInstance.maxSize 20000
set_option maxHeartbeats 4000000
set_option maxRecDepth 20000
open Go.RowKit Go.Maps

theorem PlW.step {w wr : World} {b rb nn k : Nat} (h : PlW w wr b rb nn k) (hk : k ≤ 1000) {q : OpD} {kv : Value} (hq : OpOk w (q, kv)) : Calls Try.prog 13 #[ptr b, ptr rb, .agg #[.int .i64 q.k, .int .i64 q.n, .int .u8 q.y, .bool q.s, kv]] wr fun r w4 => r = .returned (.bool true) ∧ PlW w w4 b rb nn (k + 1) := by
  obtain ⟨o', D, R, hDR, hok, hrok, hrel, hn, m⟩ := h
  have hs := hrel.step hok q hq.y
  refine (step_any (w := wr) (o := o') (jd := 5) (b := b) (jr := 8) (rb := rb) (D := D) (R := R) (N := k) (M := k) (q := q) (kv := kv) hDR (by omega) (by omega) (by omega) hok (by omega) hrok (by omega) hq.y (fun w' o2 m2 => ?_)).mono ?_
  · have hb := mv58_below (m.trans m2)
    exact hq.ks.blocks (fun j _ hlt => hb.block j hlt)
  · rintro r w4 ⟨rfl, o4, h4, m4⟩
    have hn4 : (stepD D q).now.length = nn := by
      have e1 := hs.2.n
      rw [stepR_n, hrel.n] at e1
      have : (D.now.length : Int) = ((stepD D q).now.length : Int) := e1
      omega
    exact ⟨by rw [hs.1], o4, _, _, h4, stepD_ok hok q hq.n.2, stepR_ok hrok q hq.n.2, hs.2, hn4, m.trans m4⟩
/-- Both disks, and a copy that goes its own way. -/
def CpW (w wr : World) (b rb cb N k : Nat) (D : Dk) (R : Rk) : Prop := ∃ o' C, DR wr o' 5 b 8 rb D R ∧ DIs wr o' 6 cb C ∧ DOk D N ∧ ROk R N ∧ Rel D R ∧ DOk C (N + k) ∧ Mv [5, 6, 7, 8, 9] w (fun _ => 0) wr o'
section
variable {w wr w' : World} {b rb cb N k : Nat} {D : Dk} {R : Rk}
theorem CpW.bel (h : CpW w wr b rb cb N k D R) : Below w.heap.size w wr := by
  obtain ⟨o', C, _, _, _, _, _, _, m⟩ := h
  exact m.below (Nat.le_refl _) (fun k hk => by simp)
theorem CpW.below (h : CpW w wr b rb cb N k D R) (hb : Below wr.heap.size wr w') : CpW w w' b rb cb N k D R := by
  obtain ⟨o', C, hDR, hC, h1, h2, h3, h4, m⟩ := h
  exact ⟨_, C, ⟨hDR.1.below hb, hDR.2.below hb⟩, hC.below hb, h1, h2, h3, h4, m.trans (Mv.of_below 0 hb)⟩
theorem CpW.drew (h : CpW w wr b rb cb N k D R) : CpW w wr.drew b rb cb N k D R := h.below ((Below.refl _ _).drew)
/-- What was read is the caller's. -/
theorem CpW.mine (h : CpW w wr b rb cb N k D R) (hb : Below wr.heap.size wr w') (x : Value) : CpW w (w'.setCell ⟨wr.heap.size, 0, none⟩ x) b rb cb N k D R := by
  obtain ⟨o', C, hDR, hC, h1, h2, h3, h4, m⟩ := h
  have M1 : Mv [] wr o' w' (newTo o' wr 7) := Mv.of_below 7 hb
  have M2 : Mv [7] w' (newTo o' wr 7) (w'.setCell ⟨wr.heap.size, 0, none⟩ x) (newTo o' wr 7) := Mv.of_set (grown_setCell _ _ _ _) (fun _ => by rw [newTo_new (Nat.le_refl _)]; simp)
  exact ⟨_, C, ⟨(hDR.1.mv M1 (by simp)).mv M2 (by simp), (hDR.2.mv M1 (by simp) (by simp)).mv M2 (by simp) (by simp)⟩, (hC.mv M1 (by simp)).mv M2 (by simp), h1, h2, h3, h4, (m.trans (M1.widen (by simp))).trans (M2.widen (by simp))⟩
theorem CpW.step (h : CpW w wr b rb cb N k D R) (hk : N + k ≤ 1000) {q : OpD} {kv : Value} (hq : OpOk w (q, kv)) {w1 : World} (hw1 : w1 = wr.alloc (.cells #[.int .i64 0, .slice none 0 0, .slice none 0 0, .int .i64 0, .bool false, .bool false, .int .i64 0] 40)) : Calls Try.prog 13 #[ptr cb, ptr wr.heap.size, .agg #[.int .i64 q.k, .int .i64 q.n, .int .u8 q.y, .bool q.s, kv]] w1 fun r w4 => ∃ bb, r = .returned (.bool bb) ∧ CpW w w4 b rb cb N (k + 1) D R := by
  obtain ⟨o', C, hDR, hC, h1, h2, h3, h4, m⟩ := h
  have hb1 : Below wr.heap.size wr w1 := by rw [hw1]; exact balloc (Below.refl _ _) _
  have M1 : Mv [] wr o' w1 (newTo o' wr 9) := Mv.of_below 9 hb1
  have hR1 : RIs w1 (newTo o' wr 9) 9 wr.heap.size zeroR := by rw [hw1]; exact ris_new wr o' 9 zeroR rfl rfl
  have mm : Mv [5, 6, 7, 8, 9] w (fun _ => 0) w1 (newTo o' wr 9) := m.trans (M1.widen (by simp))
  refine (step_any (w := w1) (o := newTo o' wr 9) (jd := 6) (b := cb) (jr := 9) (rb := wr.heap.size) (D := C) (R := zeroR) (N := N + k) (M := 0) (q := q) (kv := kv) ⟨hC.mv M1 (by simp), hR1⟩ (by omega) (by omega) (by omega) h4 (by omega) zeroR_ok (by omega) hq.y (fun w' o2 m2 => ?_)).mono ?_
  · have hb : Below w.heap.size w w' := (mm.trans (m2.widen (by simp))).below (Nat.le_refl _) (fun k hk => by simp)
    exact hq.ks.blocks (fun j _ hlt => hb.block j hlt)
  · rintro r w4 ⟨rfl, o4, h44, m4⟩
    exact ⟨_, rfl, o4, _, ⟨(hDR.1.mv M1 (by simp)).mv m4 (by simp), (hDR.2.mv M1 (by simp) (by simp)).mv m4 (by simp) (by simp)⟩, h44.1, h1, h2, h3, stepD_ok h4 q hq.n.2, mm.trans (m4.widen (by simp))⟩
theorem exec_box40 {o : Oper} {r : Operand → Value} {w : World} (x : Operand) (ho : o.op = .box 40 x) (hx : r x = .agg #[.int .i64 0, .slice none 0 0, .slice none 0 0, .int .i64 0, .bool false, .bool false, .int .i64 0]) : (execOp r o).run Try.prog w = .ok (.value (ptr w.heap.size)) (w.alloc (.cells #[.int .i64 0, .slice none 0 0, .slice none 0 0, .int .i64 0, .bool false, .bool false, .int .i64 0] 40)) := by
  unfold execOp
  simp only [ho, hx]
  rfl
/-- What is asked in the end. -/
structure Ends (w8 : World) (b rb was : Nat) (dn : Bool) : Prop where
  kd : Calls Try.prog 14 #[ptr b] w8 fun r w5 => r = .returned (.bool dn) ∧ w5 = w8
  kp : Calls Try.prog 15 #[ptr b] w8 fun r w5 => r = .returned (.int .i64 (was : Int)) ∧ w5 = w8
  c4 : w8.cell? ⟨rb, 4, none⟩ = some (.bool dn)
theorem CpW.ends (h : CpW w wr b rb cb N k D R) : Ends wr b rb D.pend.length D.down := by
  obtain ⟨o', C, ⟨⟨gv, nv, pv, d⟩, gv2, pv2, gs, ps, r⟩, _, _, _, h3, _, _⟩ := h
  exact ⟨down_any d, pending_any d, by rw [r.c4, h3.dn]⟩
end

theorem copies_walk (v : Value) (l : List (OpD × Value)) (v' : Value) (l' : List (OpD × Value)) (w : World) (hrd : RowF oc w v l) (hE : OpsOk w l) (hrd' : RowF oc w v' l') (hE' : OpsOk w l') :
    Calls Try.prog 5 #[v, v'] w fun e w' => e = .returned (.bool true) ∧ Below w.heap.size w w' := by
  obtain ⟨a, cap, rfl⟩ := hrd.len
  obtain ⟨a', cap', rfl⟩ := hrd'.len
  have hcap := hrd.caps.2
  have hcap' := hrd'.caps.2
  have HAl : Hid (∀ w', Calls Try.prog 8 #[] w' fun r w2 => r = .returned (.bool true) ∧ Below w'.heap.size w' w2) := fun w' => alive_any w'
  have HLi : Hid (Calls Try.prog 7 #[.slice a l.length cap] w fun r w2 => r = .returned (.bool (lightB l)) ∧ w2 = w) := light_any hrd hE
  have HLi' : Hid (Calls Try.prog 7 #[.slice a' l'.length cap'] w fun r w2 => r = .returned (.bool (lightB l')) ∧ w2 = w) := light_any hrd' hE'
  cases hli : lightB l
  · rw [hli] at HLi
    clear hrd hE hrd' hE' hli HLi'
    go_enter Try.func5, Try.ntmps5
    go_wp2_with (first
      | (go_at_call 7; go_must (refine HLi.out.mono ?_; rintro r w2 ⟨rfl, hw2⟩; replace hw2 := hw2.symm; subst hw2))
      | (go_at_call 8; go_must (refine (HAl.out w).mono ?_; rintro r w2 ⟨rfl, hb2⟩)))
    go_ret
    exact ⟨rfl, hb2⟩
  rw [hli] at HLi
  cases hli' : lightB l'
  · rw [hli'] at HLi'
    clear hrd hE hrd' hE' hli hli'
    have t1 : Hid True := trivial
    go_enter Try.func5, Try.ntmps5
    go_wp2_with (first
      | (replace t1 := t1; go_at_call 7; go_must (refine HLi.out.mono ?_; rintro r w2 ⟨rfl, hw2⟩; replace hw2 := hw2.symm; subst hw2; clear t1))
      | (go_at_call 7; go_must (refine HLi'.out.mono ?_; rintro r w2 ⟨rfl, hw2⟩; replace hw2 := hw2.symm; subst hw2))
      | (go_at_call 8; go_must (refine (HAl.out w).mono ?_; rintro r w2 ⟨rfl, hb2⟩)))
    go_ret
    exact ⟨rfl, hb2⟩
  rw [hli'] at HLi'
  have hfew := (light_few hli).1
  have hfew' := (light_few hli').1
  have HN : Hid (Calls Try.prog 9 #[.int .i64 6] w fun r w' => r = .returned (.tuple #[ptr (w.heap.size + 2), .int .i64 0]) ∧ DIs w' (newTo (fun _ => 0) w 5) 5 (w.heap.size + 2) (newD 6) ∧ Below w.heap.size w w') := dnew_any w (fun _ => 0) 5 6 (by omega) (by omega) (by omega)
  have HR : Hid (∀ w1, DIs w1 (newTo (fun _ => 0) w 5) 5 (w.heap.size + 2) (newD 6) → Below w.heap.size w w1 → Calls Try.prog 10 #[.int .i64 6] w1 fun r w' => r = .returned (.tuple #[ptr w1.heap.size, .int .i64 0]) ∧ PlW w w' (w.heap.size + 2) w1.heap.size 6 0) := fun w1 hd hb => (rnew_any w1 (newTo (fun _ => 0) w 5) 8 6 (by omega) (by omega)).mono fun r w2 ⟨e, hr, hb2⟩ =>
    ⟨e, _, _, _, ⟨hd.mv (Mv.of_below (I := []) 8 hb2) (by simp), hr⟩, newD_ok 6 (by omega) (by omega), newR_ok _, rel_new 6, by simp [newD], ((Mv.of_below (I := [5]) 5 hb).widen (by simp)).trans (Mv.of_below 8 hb2)⟩
  have HV : Hid (RowF oc w (.slice a l.length cap) l) := hrd
  have HE : Hid (OpsOk w l) := hE
  have HV' : Hid (RowF oc w (.slice a' l'.length cap') l') := hrd'
  have HE' : Hid (OpsOk w l') := hE'
  clear hrd hE hrd' hE' hli hli'
  have t1 : Hid True := trivial
  go_enter Try.func5, Try.ntmps5
  go_wp2_with (first
    | (replace t1 := t1; go_at_call 7; go_must (refine HLi.out.mono ?_; rintro r w2 ⟨rfl, hw2⟩; replace hw2 := hw2.symm; subst hw2; clear t1))
    | (go_at_call 7; go_must (refine HLi'.out.mono ?_; rintro r w2 ⟨rfl, hw2⟩; replace hw2 := hw2.symm; subst hw2))
    | (go_at_call 9; go_must (refine HN.out.mono ?_; rintro r w1 ⟨rfl, hB1, hb1⟩; have HB1 : Hid (DIs w1 (newTo (fun _ => 0) w 5) 5 (w.heap.size + 2) (newD 6)) := hB1; have Hb1 : Hid (Below w.heap.size w w1) := hb1; clear hB1 hb1))
    | (go_at_call 10; go_must (refine (HR.out w1 HB1.out Hb1.out).mono ?_; rintro r w2 ⟨rfl, h2⟩; have HS : Hid (PlW w w2 (w.heap.size + 2) w1.heap.size 6 0) := h2; clear h2)))
  obtain ⟨b, hb⟩ : ∃ b, b = w.heap.size + 2 := ⟨_, rfl⟩
  rw [← hb] at HS ⊢
  generalize w1.heap.size = rb at *
  clear hb HLi HLi' HN HR HB1 Hb1
  go_loopw [9] (fun i wr => ∃ (k : Nat), i = .int .i64 k ∧ k ≤ l.length ∧ Hid (PlW w wr b rb 6 k)) (fun i _ => l.length - (intOf i).toNat)
  case atStart => exact ⟨0, rfl, by omega, HS⟩
  case round =>
    obtain ⟨k, rfl, hk, HI⟩ := hrel
    clear HS
    by_cases hkl : k < l.length
    · have hbw := HI.out.bel
      obtain ⟨q, hq⟩ : ∃ q, l[k]? = some q := ⟨_, List.getElem?_eq_getElem hkl⟩
      obtain ⟨g, off, ea, hr⟩ := HV.out.at oc_len hq
      subst ea
      have hqo := HE.out q (List.mem_of_getElem? hq)
      have hr' : wr.rangeAt g (off + k * 5) (oc q) := rangeAt_blocks hr (fun hlt => hbw.block g hlt)
      obtain ⟨q, kv⟩ := q
      obtain ⟨ak, ck, hkv⟩ := hqo.ks.len
      dsimp only at hkv
      subst hkv
      have e0 := hr' 0 _ rfl
      have e1 := hr' 1 _ rfl
      have e2 := hr' 2 _ rfl
      have e3 := hr' 3 _ rfl
      have e4 := hr' 4 _ rfl
      have hk3 : (k : Int) < (l.length : Int) := by omega
      simp only [Nat.add_zero] at e0
      have HSt : Hid (Calls Try.prog 13 #[ptr b, ptr rb, .agg #[.int .i64 q.k, .int .i64 q.n, .int .u8 q.y, .bool q.s, .slice ak q.ks.length ck]] wr fun r w4 => r = .returned (.bool true) ∧ PlW w w4 b rb 6 (k + 1)) := HI.out.step (by omega) hqo
      clear hr hr' hq hqo HI hbw
      obtain ⟨qk, qn, qy, qs, qks⟩ := q
      dsimp only at *
      generalize qks.length = LQ at *
      go_wp2_with (go_at_call 13; go_must (refine HSt.out.mono ?_; rintro r w4 ⟨rfl, h4⟩; have HP4 : Hid (PlW w w4 b rb 6 (k + 1)) := h4; clear h4))
      go_roundw
      case rel => exact ⟨k + 1, by go_num, by omega, HP4⟩
      case measure => simp [intOf]; omega
    · obtain rfl : k = l.length := by omega
      obtain ⟨o', D, R, hDR, hok, hrok, hrel, hn, m⟩ := HI.out
      have HCp : Hid (Calls Try.prog 12 #[ptr b] wr fun r w3 => r = .returned (ptr wr.heap.size) ∧ CpW w w3 b rb wr.heap.size l.length 0 D R) := by
        obtain ⟨⟨gv, nv, pv, d⟩, hR⟩ := hDR
        refine (copy_any d hok (by omega) 6).mono ?_
        rintro r w3 ⟨rfl, d3, b3⟩
        have M3 : Mv [] wr o' w3 (newTo o' wr 6) := Mv.of_below 6 b3
        exact ⟨rfl, _, D, ⟨DIs.mv ⟨_, _, _, d⟩ M3 (by simp), hR.mv M3 (by simp) (by simp)⟩, d3, hok, hrok, hrel, hok, (m.widen (by simp)).trans (M3.widen (by simp))⟩
      obtain ⟨was, hwas⟩ : ∃ was, was = D.pend.length := ⟨_, rfl⟩
      obtain ⟨dn, hdn⟩ : ∃ dn, dn = D.down := ⟨_, rfl⟩
      have HEnd : Hid (∀ {k : Nat} {cb : Nat} (w8 : World), CpW w w8 b rb cb l.length k D R → Ends w8 b rb was dn) := fun w8 h => by
        have := h.ends
        rw [← hwas, ← hdn] at this
        exact this
      have hread := hrel.read 0
      obtain ⟨KK, hKK⟩ : ∃ KK, KK = D.readK 0 := ⟨_, rfl⟩
      obtain ⟨BB, hBB⟩ : ∃ BB, BB = D.readB 0 := ⟨_, rfl⟩
      have HRd0 : Hid (∀ {k : Nat} {cb : Nat} (w3 : World), CpW w w3 b rb cb l.length k D R → Calls Try.prog 22 #[ptr b, .int .i64 0] w3 fun r w6 => ∃ v6, r = .returned (.tuple #[v6, .int .i64 KK]) ∧ ReadOut w3 w6 v6 KK (D.readS 0) ∧ Below w3.heap.size w3 w6) := fun w3 h => by
        obtain ⟨o3, C, ⟨⟨gv, nv, pv, d⟩, _⟩, _⟩ := h
        rw [hKK]
        exact read_any d 0
      have HRdD : Hid (∀ {k : Nat} {cb : Nat} (w3 : World), CpW w w3 b rb cb l.length k D R → Calls Try.prog 22 #[ptr b, .int .i64 0] w3 fun r w6 => ∃ v6, r = .returned (.tuple #[v6, .int .i64 KK]) ∧ Rd w6 v6 BB ∧ Below w3.heap.size w3 w6) := fun w3 h => by
        obtain ⟨o3, C, ⟨⟨gv, nv, pv, d⟩, _⟩, _⟩ := h
        refine (read_any d 0).mono ?_
        rintro r w6 ⟨v6, rfl, h6, b6⟩
        exact ⟨v6, by rw [hKK], by rw [hBB]; exact h6.rd, b6⟩
      have HRdR : Hid (∀ {k : Nat} {cb : Nat} (w3 : World), CpW w w3 b rb cb l.length k D R → Calls Try.prog 24 #[ptr rb, .int .i64 0] w3 fun r w7 => ∃ v7, r = .returned (.tuple #[v7, .int .i64 KK]) ∧ Rd w7 v7 BB ∧ Below w3.heap.size w3 w7) := fun w3 h => by
        obtain ⟨o3, C, ⟨_, gv, pv, gs, ps, r⟩, _⟩ := h
        have := rread_any r hrok (by omega) 0
        rw [← hread.1, ← hread.2, ← hKK, ← hBB] at this
        exact this
      clear hDR hok hrok hrel hn m HI HV HE hread hwas hdn hKK hBB
      go_upto_region 13 with (first
        | (go_at_call 12; go_must (refine HCp.out.mono ?_; rintro r w3 ⟨rfl, h3⟩; have HP3 : Hid (CpW w w3 b rb wr.heap.size l.length 0 D R) := h3; clear h3))
        | (go_at_call 15; go_must (refine (HEnd.out w3 HP3.out).kp.mono ?_; rintro r w5 ⟨rfl, hw5⟩; replace hw5 := hw5.symm; subst hw5)))
      generalize wr.heap.size = cb at *
      generalize D.readS 0 = s0 at *
      clear HCp
      go_wp2
      go_loopw [12] (fun i wr => ∃ (k2 : Nat), i = .int .i64 k2 ∧ k2 ≤ l'.length ∧ Hid (CpW w wr b rb cb l.length k2 D R)) (fun i _ => l'.length - (intOf i).toNat)
      case atStart => exact ⟨0, rfl, by omega, HP3⟩
      case round =>
        obtain ⟨k2, rfl, hk2, HI2⟩ := hrel
        clear HP3
        by_cases hkl2 : k2 < l'.length
        · have hbw := HI2.out.bel
          obtain ⟨q, hq⟩ : ∃ q, l'[k2]? = some q := ⟨_, List.getElem?_eq_getElem hkl2⟩
          obtain ⟨g, off, ea, hr⟩ := HV'.out.at oc_len hq
          subst ea
          have hqo := HE'.out q (List.mem_of_getElem? hq)
          obtain ⟨w4, hw4⟩ : ∃ w4, w4 = wr.alloc (.cells #[.int .i64 0, .slice none 0 0, .slice none 0 0, .int .i64 0, .bool false, .bool false, .int .i64 0] 40) := ⟨_, rfl⟩
          have hbw4 : Below w.heap.size w w4 := by rw [hw4]; exact balloc hbw _
          have hr' : w4.rangeAt g (off + k2 * 5) (oc q) := rangeAt_blocks hr (fun hlt => hbw4.block g hlt)
          obtain ⟨q, kv⟩ := q
          obtain ⟨ak, ck, hkv⟩ := hqo.ks.len
          dsimp only at hkv
          subst hkv
          have e0 := hr' 0 _ rfl
          have e1 := hr' 1 _ rfl
          have e2 := hr' 2 _ rfl
          have e3 := hr' 3 _ rfl
          have e4 := hr' 4 _ rfl
          have hk3 : (k2 : Int) < (l'.length : Int) := by omega
          simp only [Nat.add_zero] at e0
          have HSt : Hid (Calls Try.prog 13 #[ptr cb, ptr wr.heap.size, .agg #[.int .i64 q.k, .int .i64 q.n, .int .u8 q.y, .bool q.s, .slice ak q.ks.length ck]] w4 fun r w5 => ∃ bb, r = .returned (.bool bb) ∧ CpW w w5 b rb cb l.length (k2 + 1) D R) := HI2.out.step (by omega) hqo hw4
          have HW4 : Hid (w4 = wr.alloc (.cells #[.int .i64 0, .slice none 0 0, .slice none 0 0, .int .i64 0, .bool false, .bool false, .int .i64 0] 40)) := hw4
          clear hr hr' hq hqo HI2 hbw hbw4 hw4
          obtain ⟨qk, qn, qy, qs, qks⟩ := q
          dsimp only at *
          generalize qks.length = LQ at *
          go_wp2_with (first
            | (refine wpList_ok rfl (exec_box40 (.tmp 62) rfl rfl) ?_; rw [← HW4.out])
            | (go_at_call 13; go_must (refine HSt.out.mono ?_; rintro r w5 ⟨bb, rfl, h5⟩; have HP5 : Hid (CpW w w5 b rb cb l.length (k2 + 1) D R) := h5; clear h5)))
          go_roundw
          case rel => exact ⟨k2 + 1, by go_num, by omega, HP5⟩
          case measure => simp [intOf]; omega
        · obtain rfl : k2 = l'.length := by omega
          have HRd1 : Hid (Calls Try.prog 22 #[ptr b, .int .i64 0] wr fun r w6 => ∃ v6, r = .returned (.tuple #[v6, .int .i64 KK]) ∧ ReadOut wr w6 v6 KK s0 ∧ Below wr.heap.size wr w6) := HRd0.out wr HI2.out
          clear HRd0 HV' HE'
          by_cases hK : KK = 0
          · subst hK
            have HMine : Hid (∀ (w6 : World) (x : Value), Below wr.heap.size wr w6 → CpW w (w6.setCell ⟨wr.heap.size, 0, none⟩ x) b rb cb l.length l'.length D R) := fun w6 x hb => HI2.out.mine hb x
            go_upto_region 18 with (go_at_call 22; go_must (refine HRd1.out.mono ?_; rintro r w6 ⟨v6', rfl, h6, b6⟩; unfold ReadOut at h6; rw [if_pos rfl] at h6; obtain ⟨hv6, B6⟩ := h6; subst hv6; have Hb6' : Hid (Below wr.heap.size wr w6) := b6; have c6 := B6.cell 0 _ (kc_byte s0 0 (by omega)); have f6 := B6.frozen 0; clear b6 B6))
            have HMy := fun x => HMine.out w6 x Hb6'.out
            have HMy' : Hid (∀ x : Value, CpW w (w6.setCell ⟨wr.heap.size, 0, none⟩ x) b rb cb l.length l'.length D R) := HMy
            clear HMine HMy HI2 HRd1 Hb6'
            generalize wr.heap.size = sz at *
            generalize s0.d.getD 0 0 = y0 at *
            go_upto_region 20 with fail
            clear c6 f6
            generalize hw3 : World.setCell w6 _ _ = w3
            have HP3 : Hid (CpW w w3 b rb cb l.length l'.length D R) := by rw [← hw3]; exact HMy'.out _
            clear hw3 HMy'
            have HRd2 : Hid (Calls Try.prog 22 #[ptr b, .int .i64 0] w3 fun r w6 => ∃ v6, r = .returned (.tuple #[v6, .int .i64 0]) ∧ Rd w6 v6 BB ∧ Below w3.heap.size w3 w6) := HRdD.out w3 HP3.out
            have HRd3 : Hid (∀ w6, Below w3.heap.size w3 w6 → Calls Try.prog 24 #[ptr rb, .int .i64 0] w6 fun r w7 => ∃ v7, r = .returned (.tuple #[v7, .int .i64 0]) ∧ Rd w7 v7 BB ∧ Below w6.heap.size w6 w7) := fun w6 hb => HRdR.out w6 (HP3.out.below hb)
            have HEn3 : Hid (∀ w8, Below w3.heap.size w3 w8 → Ends w8 b rb was dn) := fun w8 hb => HEnd.out w8 (HP3.out.below hb)
            have Hb3 : Hid (Below w.heap.size w w3) := HP3.out.bel
            clear HRdD HRdR HEnd HP3
            go_upto_region 21 with (go_at_call 22; go_must (refine HRd2.out.mono ?_; rintro r w6 ⟨v6, rfl, r6, b6⟩; have Hr6 : Hid (Rd w6 v6 BB) := r6; have Hb6 : Hid (Below w3.heap.size w3 w6) := b6; clear r6 b6))
            go_upto_region 22 with (go_at_call 24; go_must (refine (HRd3.out w6 Hb6.out).mono ?_; rintro r w7 ⟨v7, rfl, r7, b7⟩; have Hr7 : Hid (Rd w7 v7 BB) := r7; have Hr67 : Hid (Rd w7 v6 BB) := Hr6.out.below b7; have Hb7 : Hid (Below w3.heap.size w3 w7) := bnext Hb6.out b7; clear r7 b7))
            have HSm : Hid (Calls Try.prog 23 #[v6, v7] w7.drew fun e w8 => e = .returned (.bool true) ∧ Below w7.drew.heap.size w7.drew w8) := (same_any v6 v7 _ _ w7.drew Hr67.out.drew Hr7.out.drew).mono fun e w8 ⟨he, hb⟩ => ⟨by rw [he, decide_eq_true rfl], hb⟩
            have HBd : Hid (Below w.heap.size w w7.drew) := (show Below _ _ _ from bnext (bnext Hb3.out Hb7.out) ((Below.refl _ _).drew))
            have HBn : Hid (∀ w8, Below w7.drew.heap.size w7.drew w8 → Below w.heap.size w w8) := fun w8 h => bnext HBd.out h
            have HEn : Hid (∀ w8, Below w7.drew.heap.size w7.drew w8 → Ends w8 b rb was dn) := fun w8 h => HEn3.out w8 (bnext (bnext Hb7.out ((Below.refl _ _).drew)) h)
            clear HRd2 HRd3 HEn3 Hb3 Hr6 Hr7 Hr67 Hb6 Hb7
            have zz : (dn == dn) = true := by cases dn <;> rfl
            have zz2 : ((was : Int) == (was : Int)) = true := by simp
            have ne : Nonempty (WIn (Below w.heap.size w)) := ⟨⟨w, Below.refl _ _⟩⟩
            refine wp_region_tree (C := fun w' => ∃ z : WIn (Below w.heap.size w), w' = z.w) (.still 0 (.still 1 (.still 2 (.still 3 (.still 4 (.still 5 (.one 6 (.still 7 (.still 8 (.still 9 (.still 11 (.one 10 (.still 12 (.still 13 (.still 14 (.still 15 (.still 17 (.still 18 (.still 19 (.two 16 (.one 20 (.still 21 (.still 22 (.still 23 (.one 24 (.still 25 (.still 26 .done))))))) 20 (.one 16 (.still 21 (.still 22 (.still 23 (.one 24 (.still 25 (.still 26 .done))))))))))))))))))))))))))) (by kernel_rfl) (by kernel_rfl) ⟨⟨w7.drew, HBd.out⟩, rfl⟩ ?_
            generalize w7.drew = wd at *
            iterate 6 (refine tree_still rfl rfl ?_; go_big_quiet_step (fail); refine wpQuiet_nil ?_)
            refine tree_one rfl rfl ?_
            go_simp
            refine HSm.out.mono ?_
            rintro r w8 ⟨rfl, b8⟩
            have HC8 : Hid (Below w.heap.size w w8) := HBn.out w8 b8
            have hE8 := HEn.out w8 b8
            have HE8 : Hid (Ends w8 b rb was dn) := hE8
            have g4 := hE8.c4
            clear b8 hE8
            refine ⟨⟨⟨_, HC8.out⟩, rfl⟩, ?_⟩
            iterate 4 (refine tree_still rfl rfl ?_; go_big_quiet_step (fail); refine wpQuiet_nil ?_)
            refine tree_one rfl rfl ?_
            go_simp
            refine (HE8.out.kp).mono ?_
            rintro r w5 ⟨rfl, hw5⟩
            replace hw5 := hw5.symm
            subst hw5
            refine ⟨⟨⟨_, HC8.out⟩, rfl⟩, ?_⟩
            iterate 7 (refine tree_still rfl rfl ?_; go_big_quiet_step (fail); refine wpQuiet_nil ?_)
            refine tree_two rfl rfl rfl rfl ?_ ?_
            · go_simp
              refine (HE8.out.kd).mono ?_
              rintro r w5 ⟨rfl, hw5⟩
              replace hw5 := hw5.symm
              subst hw5
              refine ⟨⟨⟨_, HC8.out⟩, rfl⟩, ?_⟩
              refine tree_one rfl rfl ?_
              go_simp
              refine ⟨⟨⟨_, HC8.out⟩, rfl⟩, ?_⟩
              iterate 3 (refine tree_still rfl rfl ?_; go_big_quiet_step (fail); refine wpQuiet_nil ?_)
              refine tree_one rfl rfl ?_
              go_simp
              refine (HAl.out w8).mono ?_
              rintro r w9 ⟨rfl, b9⟩
              have HC9 : Hid (Below w.heap.size w w9) := bnext HC8.out b9
              clear b9
              refine ⟨⟨⟨_, HC9.out⟩, rfl⟩, ?_⟩
              iterate 2 (refine tree_still rfl rfl ?_; go_big_quiet_step (fail); refine wpQuiet_nil ?_)
              refine tree_done ?_
              clear g4 ne
              go_wp2
              go_ret
              exact ⟨rfl, HC9.out⟩
            · go_simp
              refine ⟨⟨⟨_, HC8.out⟩, rfl⟩, ?_⟩
              refine tree_one rfl rfl ?_
              go_simp
              refine (HE8.out.kd).mono ?_
              rintro r w5 ⟨rfl, hw5⟩
              replace hw5 := hw5.symm
              subst hw5
              refine ⟨⟨⟨_, HC8.out⟩, rfl⟩, ?_⟩
              iterate 3 (refine tree_still rfl rfl ?_; go_big_quiet_step (fail); refine wpQuiet_nil ?_)
              refine tree_one rfl rfl ?_
              go_simp
              refine (HAl.out w8).mono ?_
              rintro r w9 ⟨rfl, b9⟩
              have HC9 : Hid (Below w.heap.size w w9) := bnext HC8.out b9
              clear b9
              refine ⟨⟨⟨_, HC9.out⟩, rfl⟩, ?_⟩
              iterate 2 (refine tree_still rfl rfl ?_; go_big_quiet_step (fail); refine wpQuiet_nil ?_)
              refine tree_done ?_
              clear g4 ne
              go_wp2
              go_ret
              exact ⟨rfl, HC9.out⟩
          · have hKn : (KK == 0) = false := by simpa using hK
            have HMine : Hid (∀ (w6 : World), Below wr.heap.size wr w6 → CpW w w6 b rb cb l.length l'.length D R) := fun w6 hb => HI2.out.below hb
            go_upto_region 20 with (go_at_call 22; go_must (refine HRd1.out.mono ?_; rintro r w3 ⟨v6', rfl, h6, b6⟩; have HP3 : Hid (CpW w w3 b rb cb l.length l'.length D R) := HMine.out w3 b6; clear h6 b6))
            clear HMine HI2 HRd1 hK
            have HRd2 : Hid (Calls Try.prog 22 #[ptr b, .int .i64 0] w3 fun r w6 => ∃ v6, r = .returned (.tuple #[v6, .int .i64 KK]) ∧ Rd w6 v6 BB ∧ Below w3.heap.size w3 w6) := HRdD.out w3 HP3.out
            have HRd3 : Hid (∀ w6, Below w3.heap.size w3 w6 → Calls Try.prog 24 #[ptr rb, .int .i64 0] w6 fun r w7 => ∃ v7, r = .returned (.tuple #[v7, .int .i64 KK]) ∧ Rd w7 v7 BB ∧ Below w6.heap.size w6 w7) := fun w6 hb => HRdR.out w6 (HP3.out.below hb)
            have HEn3 : Hid (∀ w8, Below w3.heap.size w3 w8 → Ends w8 b rb was dn) := fun w8 hb => HEnd.out w8 (HP3.out.below hb)
            have Hb3 : Hid (Below w.heap.size w w3) := HP3.out.bel
            clear HRdD HRdR HEnd HP3
            go_upto_region 21 with (go_at_call 22; go_must (refine HRd2.out.mono ?_; rintro r w6 ⟨v6, rfl, r6, b6⟩; have Hr6 : Hid (Rd w6 v6 BB) := r6; have Hb6 : Hid (Below w3.heap.size w3 w6) := b6; clear r6 b6))
            go_upto_region 22 with (go_at_call 24; go_must (refine (HRd3.out w6 Hb6.out).mono ?_; rintro r w7 ⟨v7, rfl, r7, b7⟩; have Hr7 : Hid (Rd w7 v7 BB) := r7; have Hr67 : Hid (Rd w7 v6 BB) := Hr6.out.below b7; have Hb7 : Hid (Below w3.heap.size w3 w7) := bnext Hb6.out b7; clear r7 b7))
            have HSm : Hid (Calls Try.prog 23 #[v6, v7] w7.drew fun e w8 => e = .returned (.bool true) ∧ Below w7.drew.heap.size w7.drew w8) := (same_any v6 v7 _ _ w7.drew Hr67.out.drew Hr7.out.drew).mono fun e w8 ⟨he, hb⟩ => ⟨by rw [he, decide_eq_true rfl], hb⟩
            have HBd : Hid (Below w.heap.size w w7.drew) := (show Below _ _ _ from bnext (bnext Hb3.out Hb7.out) ((Below.refl _ _).drew))
            have HBn : Hid (∀ w8, Below w7.drew.heap.size w7.drew w8 → Below w.heap.size w w8) := fun w8 h => bnext HBd.out h
            have HEn : Hid (∀ w8, Below w7.drew.heap.size w7.drew w8 → Ends w8 b rb was dn) := fun w8 h => HEn3.out w8 (bnext (bnext Hb7.out ((Below.refl _ _).drew)) h)
            clear HRd2 HRd3 HEn3 Hb3 Hr6 Hr7 Hr67 Hb6 Hb7
            have zz : (dn == dn) = true := by cases dn <;> rfl
            have zz2 : ((was : Int) == (was : Int)) = true := by simp
            have ne : Nonempty (WIn (Below w.heap.size w)) := ⟨⟨w, Below.refl _ _⟩⟩
            refine wp_region_tree (C := fun w' => ∃ z : WIn (Below w.heap.size w), w' = z.w) (.still 0 (.still 1 (.still 2 (.still 3 (.still 4 (.still 5 (.one 6 (.still 7 (.still 8 (.still 9 (.still 11 (.one 10 (.still 12 (.still 13 (.still 14 (.still 15 (.still 17 (.still 18 (.still 19 (.two 16 (.one 20 (.still 21 (.still 22 (.still 23 (.one 24 (.still 25 (.still 26 .done))))))) 20 (.one 16 (.still 21 (.still 22 (.still 23 (.one 24 (.still 25 (.still 26 .done))))))))))))))))))))))))))) (by kernel_rfl) (by kernel_rfl) ⟨⟨w7.drew, HBd.out⟩, rfl⟩ ?_
            generalize w7.drew = wd at *
            iterate 6 (refine tree_still rfl rfl ?_; go_big_quiet_step (fail); refine wpQuiet_nil ?_)
            refine tree_one rfl rfl ?_
            go_simp
            refine HSm.out.mono ?_
            rintro r w8 ⟨rfl, b8⟩
            have HC8 : Hid (Below w.heap.size w w8) := HBn.out w8 b8
            have hE8 := HEn.out w8 b8
            have HE8 : Hid (Ends w8 b rb was dn) := hE8
            have g4 := hE8.c4
            clear b8 hE8
            refine ⟨⟨⟨_, HC8.out⟩, rfl⟩, ?_⟩
            iterate 4 (refine tree_still rfl rfl ?_; go_big_quiet_step (fail); refine wpQuiet_nil ?_)
            refine tree_one rfl rfl ?_
            go_simp
            refine (HE8.out.kp).mono ?_
            rintro r w5 ⟨rfl, hw5⟩
            replace hw5 := hw5.symm
            subst hw5
            refine ⟨⟨⟨_, HC8.out⟩, rfl⟩, ?_⟩
            iterate 7 (refine tree_still rfl rfl ?_; go_big_quiet_step (fail); refine wpQuiet_nil ?_)
            refine tree_two rfl rfl rfl rfl ?_ ?_
            · go_simp
              refine (HE8.out.kd).mono ?_
              rintro r w5 ⟨rfl, hw5⟩
              replace hw5 := hw5.symm
              subst hw5
              refine ⟨⟨⟨_, HC8.out⟩, rfl⟩, ?_⟩
              refine tree_one rfl rfl ?_
              go_simp
              refine ⟨⟨⟨_, HC8.out⟩, rfl⟩, ?_⟩
              iterate 3 (refine tree_still rfl rfl ?_; go_big_quiet_step (fail); refine wpQuiet_nil ?_)
              refine tree_one rfl rfl ?_
              go_simp
              refine (HAl.out w8).mono ?_
              rintro r w9 ⟨rfl, b9⟩
              have HC9 : Hid (Below w.heap.size w w9) := bnext HC8.out b9
              clear b9
              refine ⟨⟨⟨_, HC9.out⟩, rfl⟩, ?_⟩
              iterate 2 (refine tree_still rfl rfl ?_; go_big_quiet_step (fail); refine wpQuiet_nil ?_)
              refine tree_done ?_
              clear g4 ne
              go_wp2
              go_ret
              exact ⟨rfl, HC9.out⟩
            · go_simp
              refine ⟨⟨⟨_, HC8.out⟩, rfl⟩, ?_⟩
              refine tree_one rfl rfl ?_
              go_simp
              refine (HE8.out.kd).mono ?_
              rintro r w5 ⟨rfl, hw5⟩
              replace hw5 := hw5.symm
              subst hw5
              refine ⟨⟨⟨_, HC8.out⟩, rfl⟩, ?_⟩
              iterate 3 (refine tree_still rfl rfl ?_; go_big_quiet_step (fail); refine wpQuiet_nil ?_)
              refine tree_one rfl rfl ?_
              go_simp
              refine (HAl.out w8).mono ?_
              rintro r w9 ⟨rfl, b9⟩
              have HC9 : Hid (Below w.heap.size w w9) := bnext HC8.out b9
              clear b9
              refine ⟨⟨⟨_, HC9.out⟩, rfl⟩, ?_⟩
              iterate 2 (refine tree_still rfl rfl ?_; go_big_quiet_step (fail); refine wpQuiet_nil ?_)
              refine tree_done ?_
              clear g4 ne
              go_wp2
              go_ret
              exact ⟨rfl, HC9.out⟩
end Go.Proofs.Ytfkkbloapnlbgaa
