/-
  The walk of MembersBack: what is put comes back, what is read is put so.
-/
import Derived.Test.YtgoghmabhdkdjaaBkD
import Derived.Test.YtgoghmabhdkdjaaChg
import Derived.Test.YtgoghmabhdkdjaaAlv
import Derived.Test.YtgoghmabhdkdjaaLawK
import Derived.Test.YtgoghmabhdkdjaaBck
namespace Go.Proofs.Ytgoghmabhdkdjaa
set_option linter.unusedVariables false
set_option linter.unusedSimpArgs false
set_option synthInstance.maxSize 20000
set_option maxHeartbeats 2000000
set_option maxRecDepth 20000
open Go.RowKit Go.Maps

/-- The law's change, in its box. -/
structure BSt (w wr : World) (vs : List Value) : Prop where
  box : Blk wr w.heap.size 42 vs
  bel : Below w.heap.size w wr
theorem BSt.next {w wr w' : World} {vs : List Value} (h : BSt w wr vs) (hb : Below wr.heap.size wr w') : BSt w w' vs := ⟨h.box.below hb, bnext h.bel hb⟩
theorem back30s {w : World} {a b : Value} {c : Cg} {qs : List Wq} (h : CgAt w c a b qs) (hlen : qs.length ≤ 1000) : Calls Try.prog 30 #[cv c a b] w fun r w' => ∃ x n p, r = .returned (cv c (.slice x n p) b) ∧ CgAt w' c (.slice x n p) b qs ∧ Below w.heap.size w w' := by
  refine (back30 h hlen).mono ?_
  rintro r w' ⟨a', rfl, h1, h2⟩
  obtain ⟨x, p, rfl⟩ := h1.row.len
  exact ⟨x, _, p, rfl, h1, h2⟩
theorem own12s {w : World} {a b : Value} {c : Cg} {qs : List Wq} (h : CgAt w c a b qs) (hlen : qs.length ≤ 1000) : Calls Try.prog 12 #[cv c a b] w fun r w' => ∃ x n p, r = .returned (cv c (.slice x n p) b) ∧ CgAt w' c (.slice x n p) b qs ∧ Below w.heap.size w w' := by
  refine (own12 h hlen).mono ?_
  rintro r w' ⟨a', rfl, h1, h2⟩
  obtain ⟨x, p, rfl⟩ := h1.row.len
  exact ⟨x, _, p, rfl, h1, h2⟩
theorem bytes26s {w : World} {c : Cg} {a b : Value} {qs : List Wq} (h : CgAt w c a b qs) (hn : c.ws.length ≤ 20) (ho : c.o.length ≤ 100) : Calls Try.prog 26 #[cv c a b] w fun r w' => ∃ x n p, r = .returned (.tuple #[.slice x n p, .int .i64 (if rightB c = true then 0 else 1)]) ∧ Rd w' (.slice x n p) (if rightB c = true then bytesC c else []) ∧ Below w.heap.size w w' := by
  refine (bytes26 h hn ho).mono ?_
  rintro r w' ⟨v, rfl, h1, h2⟩
  obtain ⟨x, p, rfl⟩ := h1.len
  exact ⟨x, _, p, rfl, h1, h2⟩
theorem read28s {w : World} {v : Value} {l : List Int} (h : Rd w v l) (hl : l.length ≤ 1000000) : Calls Try.prog 28 #[v] w fun r w' => ∃ xa na pa xb nb pb qs, r = .returned (.tuple #[cv (readM l).1 (.slice xa na pa) (.slice xb nb pb), .int .i64 (readM l).2]) ∧ CgAt w' (readM l).1 (.slice xa na pa) (.slice xb nb pb) qs ∧ Below w.heap.size w w' := by
  refine (read28 h hl).mono ?_
  rintro r w' ⟨a, b, qs, rfl, h1, h2⟩
  obtain ⟨⟨xa, na, pa, rfl⟩, xb, nb, pb, rfl⟩ := slices_of h1
  exact ⟨xa, na, pa, xb, nb, pb, qs, rfl, h1, h2⟩
theorem light_one {c : Cg} (h : lightB [c] = true) : c.ws.length ≤ 20 ∧ c.o.length ≤ 100 := by
  simp [lightB, lightC] at h
  exact ⟨h.1.1, h.1.2⟩
theorem readM_zero {l : List Int} (ho : Oct l) (h : (readM l).2 = 0) : rightB (readM l).1 = true ∧ bytesC (readM l).1 = l := by
  unfold readM at h ⊢
  split at h
  · rename_i h1
    exact absurd h h1
  · rename_i h1
    rw [if_neg h1]
    split at h
    · rename_i h2
      rw [if_pos h2]
      exact ⟨h2, read_back ho (by omega) h2⟩
    · simp at h
theorem readM_bad {l : List Int} (h : (readM l).2 ≠ 0) : (readM l).1 = zC := by
  rcases readM_cases l with r | r
  · exact r
  · exact absurd r.1 h
theorem readM_back {c : Cg} (h : rightB c = true) (hp : U64 c.p) : readM (bytesC c) = (c, 0) := by
  have e := back_read h hp
  unfold readM
  rw [e]
  have : doneK [] 0 = 0 := rfl
  simp [this, h]
theorem cg_zero (w : World) : CgAt w ⟨0, 0, 0, 0, [], []⟩ (.slice none 0 0) (.slice none 0 0) [] := by
  refine cg_flat ?_ ?_ ?_ ?_ rfl rfl <;> simp [I64, U64]
theorem changes29z {w : World} {a b : Value} {q : List Wq} (h : CgAt w ⟨0, 0, 0, 0, [], []⟩ a b q) : Calls Try.prog 29 #[.agg #[.int .i64 0, .int .i64 0, .int .u64 0, .int .i64 0, a, b], .agg #[.int .i64 0, .int .i64 0, .int .u64 0, .int .i64 0, .slice none 0 0, .slice none 0 0]] w fun r w'' => r = .returned (.bool true) ∧ Below w.heap.size w w'' := by
  have h1 := changes29 h (cg_zero w)
  unfold cv at h1
  exact h1
set_option maxHeartbeats 8000000 in
theorem back_walk (c : Cg) (x y : Value) (qs : List Wq) (bv : Value) (bl : List Int) (w : World) (hc : CgAt w c x y qs) (hb : Rd w bv bl) : Calls Try.prog 5 #[cv c x y, bv] w fun r w' => r = .returned (.bool true) ∧ Below w.heap.size w w' := by
  obtain ⟨⟨xa, na, pa, rfl⟩, xb, nb, pb, rfl⟩ := slices_of hc
  have hb2 := hb
  obtain ⟨xv, pv, rfl⟩ := hb.len
  have hcap : bl.length ≤ 9223372036854775807 := (by obtain ⟨_, a, cap, e, h1, h2, _⟩ := hb; unfold maxLen at h2; omega)
  obtain ⟨nv, hnv⟩ : ∃ nv, nv = bl.length := ⟨_, rfl⟩
  have HNv : Hid (nv = bl.length) := hnv
  rw [← hnv] at hb hcap ⊢
  have HC : Hid (∀ w', Below w.heap.size w w' → CgAt w' c (.slice xa na pa) (.slice xb nb pb) qs) := fun w' h => hc.below h
  have HR : Hid (∀ w', Below w.heap.size w w' → Rd w' (.slice xv nv pv) bl) := fun w' h => hb.below h
  obtain ⟨w1, hw1⟩ : ∃ w1, w1 = (w.alloc (.cells (cc c (.slice xa na pa) (.slice xb nb pb)).toArray 42)).alloc (.cells (cc c (.slice xa na pa) (.slice xb nb pb)).toArray 42) := ⟨_, rfl⟩
  have hB1 : Below w.heap.size w w1 := by rw [hw1]; exact balloc2 _ _ _
  have HS1 : Hid (BSt w w1 (cc c (.slice xa na pa) (.slice xb nb pb))) := ⟨by rw [hw1]; exact blk2_0 w _ _ 42 42, hB1⟩
  have HW1 : Hid (w1 = (w.alloc (.cells (cc c (.slice xa na pa) (.slice xb nb pb)).toArray 42)).alloc (.cells (cc c (.slice xa na pa) (.slice xb nb pb)).toArray 42)) := hw1
  have H8 : Hid (Calls Try.prog 8 #[.slice (some ⟨w.heap.size + 1, 0, none⟩) 1 1] w1 fun r w' => r = .returned (.bool (lightB [c])) ∧ w' = w1) := (show Calls _ _ _ _ _ from by
    have h1 := rowF_one (f := cqf) (w.alloc (.cells (cc c (.slice xa na pa) (.slice xb nb pb)).toArray 42)) ((c, Value.slice xa na pa, Value.slice xb nb pb) : Cq) 42
    rw [World.size_alloc] at h1
    have h2 : RowF cqf w1 (.slice (some ⟨w.heap.size + 1, 0, none⟩) 1 1) [((c, Value.slice xa na pa, Value.slice xb nb pb) : Cq)] := by rw [hw1]; exact h1
    exact light8 (cs := [((c, Value.slice xa na pa, Value.slice xb nb pb) : Cq)]) ⟨h2, fun q hq => by
      simp at hq
      subst hq
      exact ⟨qs, HC.out w1 hB1⟩⟩)
  have HAl : Hid (∀ w, Calls Try.prog 9 #[] w fun r w' => r = .returned (.bool true) ∧ Below w.heap.size w w') := alive9
  have HB1 : Hid (Below w.heap.size w w1) := hB1
  have HP : Hid (U64 c.p) := hc.p
  have hqn := hc.len
  obtain ⟨LT, hLT⟩ : ∃ LT, LT = lightB [c] := ⟨_, rfl⟩
  rw [← hLT] at H8
  have HLT : Hid (LT = lightB [c]) := hLT
  have HLq : Hid (qs.length = c.ws.length) := hqn
  clear hc hb hb2 hnv hw1 hB1 hqn hLT
  obtain ⟨RB, hRB⟩ : ∃ RB, RB = rightB c := ⟨_, rfl⟩
  have HRB : Hid (RB = rightB c) := hRB
  cases LT
  · obtain ⟨ck, cw, cp, cm, cws, co⟩ := c
    unfold cv cc at *
    dsimp only at *
    go_enter Try.func5, Try.ntmps5
    go_upto_region 1 with fail
    go_wp2_with (first
      | (go_at_call 8; rw [← HW1.out]; go_must (refine H8.out.mono ?_; rintro r wy ⟨rfl, rfl⟩))
      | (go_at_call 9; go_must (refine (HAl.out _).mono ?_; rintro r wz ⟨rfl, hbz⟩)))
    go_ret
    exact ⟨rfl, bnext HB1.out hbz⟩
  · obtain ⟨hws, hco⟩ := light_one HLT.out.symm
    by_cases h500 : 500 < nv
    · obtain ⟨ck, cw, cp, cm, cws, co⟩ := c
      unfold cv cc at *
      dsimp only at *
      go_enter Try.func5, Try.ntmps5
      go_upto_region 1 with fail
      go_wp2_with (first
        | (go_at_call 8; rw [← HW1.out]; go_must (refine H8.out.mono ?_; rintro r wy ⟨rfl, rfl⟩))
        | (go_at_call 9; go_must (refine (HAl.out _).mono ?_; rintro r wz ⟨rfl, hbz⟩)))
      go_ret
      exact ⟨rfl, bnext HB1.out hbz⟩
    · have HLn : Hid (qs.length ≤ 1000) := (show _ ≤ _ by have := HLq.out; omega)
      have H12 : Hid (∀ w', Below w.heap.size w w' → Calls Try.prog 12 #[cv c (.slice xa na pa) (.slice xb nb pb)] w' fun r w'' => ∃ x n p, r = .returned (cv c (.slice x n p) (.slice xb nb pb)) ∧ CgAt w'' c (.slice x n p) (.slice xb nb pb) qs ∧ Below w'.heap.size w' w'') := fun w' h => own12s (HC.out w' h) HLn.out
      have H26 : Hid (∀ w' x n p, CgAt w' c (.slice x n p) (.slice xb nb pb) qs → Calls Try.prog 26 #[cv c (.slice x n p) (.slice xb nb pb)] w' fun r w'' => ∃ x n p, r = .returned (.tuple #[.slice x n p, .int .i64 (if RB = true then 0 else 1)]) ∧ Rd w'' (.slice x n p) (if RB = true then bytesC c else []) ∧ Below w'.heap.size w' w'') := fun w' x n p h => by rw [hRB]; exact bytes26s h hws hco
      have H27 : Hid (∀ w' x n p, CgAt w' c (.slice x n p) (.slice xb nb pb) qs → Calls Try.prog 27 #[cv c (.slice x n p) (.slice xb nb pb)] w' fun r w'' => r = .returned (.bool RB) ∧ Below w'.heap.size w' w'') := fun w' x n p h => by rw [hRB]; exact right27 h
      have H28a : Hid (RB = true → ∀ w' x n p, Rd w' (.slice x n p) (bytesC c) → Calls Try.prog 28 #[.slice x n p] w' fun r w'' => ∃ xa na pa xb nb pb qs, r = .returned (.tuple #[cv c (.slice xa na pa) (.slice xb nb pb), .int .i64 0]) ∧ CgAt w'' c (.slice xa na pa) (.slice xb nb pb) qs ∧ Below w'.heap.size w' w'') := fun hr w' x n p h => by
        have hl := bytesC_len (hRB ▸ hr) hco HP.out
        have e := readM_back (hRB ▸ hr) HP.out
        have h3 := read28s h (by omega)
        rw [e] at h3
        exact h3
      have H30a : Hid (∀ w' x n p x2 n2 p2 q2, CgAt w' c (.slice x n p) (.slice x2 n2 p2) q2 → Calls Try.prog 30 #[cv c (.slice x n p) (.slice x2 n2 p2)] w' fun r w'' => ∃ x n p, r = .returned (cv c (.slice x n p) (.slice x2 n2 p2)) ∧ CgAt w'' c (.slice x n p) (.slice x2 n2 p2) q2 ∧ Below w'.heap.size w' w'') := fun w' x n p x2 n2 p2 q2 h => back30s h (by have := h.len; omega)
      have H29a : Hid (∀ w' x n p x2 n2 p2 q2, CgAt w' c (.slice x n p) (.slice x2 n2 p2) q2 → Below w.heap.size w w' → Calls Try.prog 29 #[cv c (.slice x n p) (.slice x2 n2 p2), cv c (.slice xa na pa) (.slice xb nb pb)] w' fun r w'' => r = .returned (.bool true) ∧ Below w'.heap.size w' w'') := fun w' x n p x2 n2 p2 q2 h hb => changes29 h (HC.out w' hb)
      obtain ⟨c2, hc2⟩ : ∃ c2, c2 = (readM bl).1 := ⟨_, rfl⟩
      obtain ⟨J, hJ⟩ : ∃ J, J = (readM bl).2 := ⟨_, rfl⟩
      have H28b : Hid (∀ w', Below w.heap.size w w' → Calls Try.prog 28 #[.slice xv nv pv] w' fun r w'' => ∃ xa na pa xb nb pb qs, r = .returned (.tuple #[cv c2 (.slice xa na pa) (.slice xb nb pb), .int .i64 J]) ∧ CgAt w'' c2 (.slice xa na pa) (.slice xb nb pb) qs ∧ Below w'.heap.size w' w'') := fun w' h => by rw [hc2, hJ]; exact read28s (HR.out w' h) (by have := HNv.out; omega)
      have HSm : Hid (c2.ws.length ≤ 20 ∧ c2.o.length ≤ 100) := (show _ ∧ _ by rw [hc2]; exact readM_small bl)
      have HJ0 : Hid (J = 0 → rightB c2 = true ∧ bytesC c2 = bl) := fun e => by rw [hc2]; exact readM_zero (HR.out w (Below.refl _ _)).oct (hJ ▸ e)
      have HJz : Hid (J ≠ 0 → c2.k = 0 ∧ c2.w = 0 ∧ c2.p = 0 ∧ c2.l = 0 ∧ c2.ws = [] ∧ c2.o = []) := fun e => by rw [hc2, readM_bad (hJ ▸ e)]; simp [zC]
      have H31 : Hid (∀ w' x n p, Rd w' (.slice x n p) bl → Below w.heap.size w w' → Calls Try.prog 31 #[.slice x n p, .slice xv nv pv] w' fun r w'' => r = .returned (.bool true) ∧ Below w'.heap.size w' w'') := fun w' x n p h hb => by
        have h3 := same_any _ _ bl bl w' h (HR.out w' hb)
        simpa using h3
      obtain ⟨dk, dw, dp, dm, dws, dol⟩ := c2
      obtain ⟨ck, cw, cp, cm, cws, co⟩ := c
      unfold cv at *
      unfold cc at *
      dsimp only at *
      clear hc2 hJ hRB
      go_enter Try.func5, Try.ntmps5
      go_upto_region 1 with fail
      go_upto_region 3 with (go_at_call 8; rw [← HW1.out]; go_must (refine H8.out.mono ?_; rintro r wy ⟨rfl, rfl⟩))
      clear HW1 H8
      have u0 := HS1.out.box.cell 0 _ rfl; have u1 := HS1.out.box.cell 1 _ rfl; have u2 := HS1.out.box.cell 2 _ rfl; have u3 := HS1.out.box.cell 3 _ rfl; have u4 := HS1.out.box.cell 4 _ rfl; have u5 := HS1.out.box.cell 5 _ rfl
      go_upto_region 4 with (first
        | (go_at_call 12; go_must (refine (H12.out wy HB1.out).mono ?_; rintro r w3 ⟨x3, n3, p3, rfl, h3, hb3⟩; have H3 : Hid (CgAt w3 ⟨ck, cw, cp, cm, cws, co⟩ (.slice x3 n3 p3) (.slice xb nb pb) qs) := h3; have HS3 : Hid (BSt w w3 [.int .i64 ck, .int .i64 cw, .int .u64 cp, .int .i64 cm, .slice xa na pa, .slice xb nb pb]) := (show BSt _ _ _ from HS1.out.next hb3); clear h3 hb3))
        | (go_at_call 26; go_must (refine (H26.out w3 x3 n3 p3 H3.out).mono ?_; rintro r w4 ⟨x4, n4, p4, rfl, h4, hb4⟩; have H4 : Hid (Rd w4 (.slice x4 n4 p4) (if RB = true then bytesC ⟨ck, cw, cp, cm, cws, co⟩ else [])) := h4; have HS4 : Hid (BSt w w4 [.int .i64 ck, .int .i64 cw, .int .u64 cp, .int .i64 cm, .slice xa na pa, .slice xb nb pb]) := (show BSt _ _ _ from HS3.out.next hb4); clear h4 hb4)))
      clear u0 u1 u2 u3 u4 u5
      have u0 := HS4.out.box.cell 0 _ rfl; have u1 := HS4.out.box.cell 1 _ rfl; have u2 := HS4.out.box.cell 2 _ rfl; have u3 := HS4.out.box.cell 3 _ rfl; have u4 := HS4.out.box.cell 4 _ rfl; have u5 := HS4.out.box.cell 5 _ rfl
      have HB4 : Hid (Below w.heap.size w w4) := (show Below _ _ _ from HS4.out.bel)
      cases RB
      · simp only [Bool.false_eq_true, if_false] at *
        go_upto_region 10 with (first
          | (go_at_call 12; go_must (refine (H12.out w4 HB4.out).mono ?_; rintro r w5 ⟨x5, n5, p5, rfl, h5, hb5⟩; have H5 : Hid (CgAt w5 ⟨ck, cw, cp, cm, cws, co⟩ (.slice x5 n5 p5) (.slice xb nb pb) qs) := h5; have HS5 : Hid (BSt w w5 [.int .i64 ck, .int .i64 cw, .int .u64 cp, .int .i64 cm, .slice xa na pa, .slice xb nb pb]) := (show BSt _ _ _ from HS4.out.next hb5); clear h5 hb5))
          | (go_at_call 27; go_must (refine (H27.out w5 x5 n5 p5 H5.out).mono ?_; rintro r w6 ⟨rfl, hb6⟩; have HB6 : Hid (Below w.heap.size w w6) := (show Below _ _ _ from bnext HS5.out.bel hb6); clear hb6)))
        clear u0 u1 u2 u3 u4 u5
        go_upto_region 11 with (go_at_call 28; go_must (refine (H28b.out w6 HB6.out).mono ?_; rintro r w10 ⟨ya, ma, oa, yb, mb, ob, q10, rfl, h10, hb10⟩; have H10 : Hid (CgAt (w10.alloc (.cells #[.int .i64 dk, .int .i64 dw, .int .u64 dp, .int .i64 dm, .slice ya ma oa, .slice yb mb ob] 38)) ⟨dk, dw, dp, dm, dws, dol⟩ (.slice ya ma oa) (.slice yb mb ob) q10) := h10.below (balloc (Below.refl _ _) _); have HB10 : Hid (Below w.heap.size w (w10.alloc (.cells #[.int .i64 dk, .int .i64 dw, .int .u64 dp, .int .i64 dm, .slice ya ma oa, .slice yb mb ob] 38))) := (show Below _ _ _ from balloc (bnext HB6.out hb10) _); have X10 : Hid (Blk (w10.alloc (.cells #[.int .i64 dk, .int .i64 dw, .int .u64 dp, .int .i64 dm, .slice ya ma oa, .slice yb mb ob] 38)) w10.heap.size 38 [.int .i64 dk, .int .i64 dw, .int .u64 dp, .int .i64 dm, .slice ya ma oa, .slice yb mb ob]) := (show Blk _ _ _ _ from blk_newA _ _ _ 38 _ rfl rfl); clear h10 hb10))
        obtain ⟨w11, hw11⟩ : ∃ w11, w11 = w10.alloc (.cells #[.int .i64 dk, .int .i64 dw, .int .u64 dp, .int .i64 dm, .slice ya ma oa, .slice yb mb ob] 38) := ⟨_, rfl⟩
        obtain ⟨b11, hb11⟩ : ∃ b11, b11 = w10.heap.size := ⟨_, rfl⟩
        rw [← hw11] at H10 HB10
        rw [← hw11, ← hb11] at X10 ⊢
        clear hw11 hb11
        have k0 := X10.out.cell 0 _ rfl; have k1 := X10.out.cell 1 _ rfl; have k2 := X10.out.cell 2 _ rfl; have k3 := X10.out.cell 3 _ rfl; have k4 := X10.out.cell 4 _ rfl; have k5 := X10.out.cell 5 _ rfl
        by_cases hJ : J = 0
        · have HJ1 : Hid (rightB ⟨dk, dw, dp, dm, dws, dol⟩ = true ∧ bytesC ⟨dk, dw, dp, dm, dws, dol⟩ = bl) := HJ0.out hJ
          have H26b : Hid (Calls Try.prog 26 #[.agg #[.int .i64 dk, .int .i64 dw, .int .u64 dp, .int .i64 dm, .slice ya ma oa, .slice yb mb ob]] w11 fun r w' => ∃ x n p, r = .returned (.tuple #[.slice x n p, .int .i64 0]) ∧ Rd w' (.slice x n p) bl ∧ Below w11.heap.size w11 w') := (show Calls _ _ _ _ _ from by
            refine (bytes26s H10.out HSm.out.1 HSm.out.2).mono ?_
            rintro r w' ⟨x, n, p, rfl, h1, h2⟩
            rw [HJ1.out.1] at h1 ⊢
            simp only [if_true] at h1 ⊢
            rw [HJ1.out.2] at h1
            exact ⟨x, n, p, rfl, h1, h2⟩)
          subst hJ
          go_wp2_with (first
            | (go_at_call 26; go_must (refine H26b.out.mono ?_; rintro r w12 ⟨x12, n12, p12, rfl, h12, hb12⟩; have HR12 : Hid (Rd w12 (.slice x12 n12 p12) bl) := h12; have HB12 : Hid (Below w.heap.size w w12) := (show Below _ _ _ from bnext HB10.out hb12); clear h12 hb12))
            | (go_at_call 31; go_must (refine (H31.out w12 x12 n12 p12 HR12.out HB12.out).mono ?_; rintro r w13 ⟨rfl, hb13⟩; have HB13 : Hid (Below w.heap.size w w13) := (show Below _ _ _ from bnext HB12.out hb13); clear hb13))
            | (go_at_call 9; go_must (refine (HAl.out _).mono ?_; rintro r w14 ⟨rfl, hb14⟩; have HB14 : Hid (Below w.heap.size w w14) := (show Below _ _ _ from bnext HB13.out hb14); clear hb14)))
          go_ret
          exact ⟨rfl, HB14.out⟩
        · obtain ⟨e1, e2, e3, e4, e5, e6⟩ := HJz.out hJ
          subst e1 e2 e3 e4 e5 e6
          have H30b : Hid (Calls Try.prog 30 #[.agg #[.int .i64 0, .int .i64 0, .int .u64 0, .int .i64 0, .slice ya ma oa, .slice yb mb ob]] w11 fun r w' => ∃ x n p, r = .returned (.agg #[.int .i64 0, .int .i64 0, .int .u64 0, .int .i64 0, .slice x n p, .slice yb mb ob]) ∧ CgAt w' ⟨0, 0, 0, 0, [], []⟩ (.slice x n p) (.slice yb mb ob) q10 ∧ Below w11.heap.size w11 w') := (show Calls _ _ _ _ _ from back30s H10.out (by have := H10.out.len; simp at this; rw [this]; simp))
          have H29b : Hid (∀ w' x n p, CgAt w' ⟨0, 0, 0, 0, [], []⟩ (.slice x n p) (.slice yb mb ob) q10 → Calls Try.prog 29 #[.agg #[.int .i64 0, .int .i64 0, .int .u64 0, .int .i64 0, .slice x n p, .slice yb mb ob], .agg #[.int .i64 0, .int .i64 0, .int .u64 0, .int .i64 0, .slice none 0 0, .slice none 0 0]] w' fun r w'' => r = .returned (.bool true) ∧ Below w'.heap.size w' w'') := fun w' x n p hh => changes29z hh
          go_wp2_with (first
            | (go_at_call 30; go_must (refine H30b.out.mono ?_; rintro r w12 ⟨x12, n12, p12, rfl, h12, hb12⟩; have HR12 : Hid (CgAt w12 ⟨0, 0, 0, 0, [], []⟩ (.slice x12 n12 p12) (.slice yb mb ob) q10) := h12; have HB12 : Hid (Below w.heap.size w w12) := (show Below _ _ _ from bnext HB10.out hb12); clear h12 hb12))
            | (go_at_call 29; go_must (refine (H29b.out w12 x12 n12 p12 HR12.out).mono ?_; rintro r w13 ⟨rfl, hb13⟩; have HB13 : Hid (Below w.heap.size w w13) := (show Below _ _ _ from bnext HB12.out hb13); clear hb13))
            | (go_at_call 9; go_must (refine (HAl.out _).mono ?_; rintro r w14 ⟨rfl, hb14⟩; have HB14 : Hid (Below w.heap.size w w14) := (show Below _ _ _ from bnext HB13.out hb14); clear hb14)))
          go_ret
          exact ⟨rfl, HB14.out⟩
      · simp only [if_true] at *
        go_upto_region 8 with (first
          | (go_at_call 12; go_must (refine (H12.out w4 HB4.out).mono ?_; rintro r w5 ⟨x5, n5, p5, rfl, h5, hb5⟩; have H5 : Hid (CgAt w5 ⟨ck, cw, cp, cm, cws, co⟩ (.slice x5 n5 p5) (.slice xb nb pb) qs) := h5; have HS5 : Hid (BSt w w5 [.int .i64 ck, .int .i64 cw, .int .u64 cp, .int .i64 cm, .slice xa na pa, .slice xb nb pb]) := (show BSt _ _ _ from HS4.out.next hb5); have HR5 : Hid (Rd w5 (.slice x4 n4 p4) (bytesC ⟨ck, cw, cp, cm, cws, co⟩)) := (show Rd _ _ _ from H4.out.below hb5); clear h5 hb5))
          | (go_at_call 27; go_must (refine (H27.out w5 x5 n5 p5 H5.out).mono ?_; rintro r w6 ⟨rfl, hb6⟩; have HS6 : Hid (BSt w w6 [.int .i64 ck, .int .i64 cw, .int .u64 cp, .int .i64 cm, .slice xa na pa, .slice xb nb pb]) := (show BSt _ _ _ from HS5.out.next hb6); have HR6 : Hid (Rd w6 (.slice x4 n4 p4) (bytesC ⟨ck, cw, cp, cm, cws, co⟩)) := (show Rd _ _ _ from HR5.out.below hb6); clear hb6))
          | (go_at_call 28; go_must (refine (H28a.out trivial w6 x4 n4 p4 HR6.out).mono ?_; rintro r w7 ⟨xd, nd, pd, xe, me, pe, q7, rfl, h7, hb7⟩; have H7 : Hid (CgAt (w7.alloc (.cells #[.int .i64 ck, .int .i64 cw, .int .u64 cp, .int .i64 cm, .slice xd nd pd, .slice xe me pe] 38)) ⟨ck, cw, cp, cm, cws, co⟩ (.slice xd nd pd) (.slice xe me pe) q7) := h7.below (balloc (Below.refl _ _) _); have HS7 : Hid (BSt w (w7.alloc (.cells #[.int .i64 ck, .int .i64 cw, .int .u64 cp, .int .i64 cm, .slice xd nd pd, .slice xe me pe] 38)) [.int .i64 ck, .int .i64 cw, .int .u64 cp, .int .i64 cm, .slice xa na pa, .slice xb nb pb]) := (show BSt _ _ _ from (HS6.out.next hb7).next (balloc (Below.refl _ _) _)); have X7 : Hid (Blk (w7.alloc (.cells #[.int .i64 ck, .int .i64 cw, .int .u64 cp, .int .i64 cm, .slice xd nd pd, .slice xe me pe] 38)) w7.heap.size 38 [.int .i64 ck, .int .i64 cw, .int .u64 cp, .int .i64 cm, .slice xd nd pd, .slice xe me pe]) := (show Blk _ _ _ _ from blk_newA _ _ _ 38 _ rfl rfl); clear h7 hb7)))
        clear u0 u1 u2 u3 u4 u5
        obtain ⟨w8, hw8⟩ : ∃ w8, w8 = w7.alloc (.cells #[.int .i64 ck, .int .i64 cw, .int .u64 cp, .int .i64 cm, .slice xd nd pd, .slice xe me pe] 38) := ⟨_, rfl⟩
        obtain ⟨b8, hb8⟩ : ∃ b8, b8 = w7.heap.size := ⟨_, rfl⟩
        rw [← hw8] at H7 HS7
        rw [← hw8, ← hb8] at X7 ⊢
        clear hw8 hb8
        have HB8 : Hid (Below w.heap.size w w8) := (show Below _ _ _ from HS7.out.bel)
        have HD : Hid (Below w8.heap.size w8 w8.drew) := (show Below _ _ _ from (Below.refl _ _).drew)
        have ne : Nonempty (WIn (fun w' => Below w8.heap.size w8 w')) := ⟨⟨w8, Below.refl _ _⟩⟩
        have D0 := fun z : WIn (fun w' => Below w8.heap.size w8 w') => (X7.out.below z.ok).cell 0 _ rfl; have D1 := fun z : WIn (fun w' => Below w8.heap.size w8 w') => (X7.out.below z.ok).cell 1 _ rfl; have D2 := fun z : WIn (fun w' => Below w8.heap.size w8 w') => (X7.out.below z.ok).cell 2 _ rfl; have D3 := fun z : WIn (fun w' => Below w8.heap.size w8 w') => (X7.out.below z.ok).cell 3 _ rfl; have D4 := fun z : WIn (fun w' => Below w8.heap.size w8 w') => (X7.out.below z.ok).cell 4 _ rfl; have D5 := fun z : WIn (fun w' => Below w8.heap.size w8 w') => (X7.out.below z.ok).cell 5 _ rfl
        have E0 := fun z : WIn (fun w' => Below w8.heap.size w8 w') => (HS7.out.box.below z.ok).cell 0 _ rfl; have E1 := fun z : WIn (fun w' => Below w8.heap.size w8 w') => (HS7.out.box.below z.ok).cell 1 _ rfl; have E2 := fun z : WIn (fun w' => Below w8.heap.size w8 w') => (HS7.out.box.below z.ok).cell 2 _ rfl; have E3 := fun z : WIn (fun w' => Below w8.heap.size w8 w') => (HS7.out.box.below z.ok).cell 3 _ rfl; have E4 := fun z : WIn (fun w' => Below w8.heap.size w8 w') => (HS7.out.box.below z.ok).cell 4 _ rfl; have E5 := fun z : WIn (fun w' => Below w8.heap.size w8 w') => (HS7.out.box.below z.ok).cell 5 _ rfl
        have H7d : Hid (CgAt w8.drew ⟨ck, cw, cp, cm, cws, co⟩ (.slice xd nd pd) (.slice xe me pe) q7) := (show CgAt _ _ _ _ _ from H7.out.below HD.out)
        refine wp_region_ord (C := fun w' => ∃ z : WIn (fun w' => Below w8.heap.size w8 w'), w' = z.w) [(false, 0), (false, 1), (false, 2), (false, 3), (false, 5), (true, 4), (true, 6), (false, 7), (false, 8)] (by kernel_rfl) (by kernel_rfl) ⟨⟨w8.drew, HD.out⟩, rfl⟩ ?_
        iterate 5 (refine ord_still rfl rfl ?_; go_big_quiet_step (fail); refine wpQuiet_nil ?_)
        refine ord_mem rfl rfl ?_
        go_simp
        refine (H30a.out w8.drew xd nd pd xe me pe q7 H7d.out).mono ?_
        rintro r w9 ⟨x9, n9, p9, rfl, h9, hb9⟩
        have H9 : Hid (CgAt w9 ⟨ck, cw, cp, cm, cws, co⟩ (.slice x9 n9 p9) (.slice xe me pe) q7) := h9
        have HZ9 : Hid (Below w8.heap.size w8 w9) := (show Below _ _ _ from bnext HD.out hb9)
        have HB9 : Hid (Below w.heap.size w w9) := (show Below _ _ _ from bnext HB8.out HZ9.out)
        clear h9 hb9
        refine ⟨⟨⟨_, HZ9.out⟩, rfl⟩, ?_⟩
        go_simp
        refine ord_mem rfl rfl ?_
        go_simp
        refine (H29a.out w9 x9 n9 p9 xe me pe q7 H9.out HB9.out).mono ?_
        rintro r wA ⟨rfl, hbA⟩
        have HZA : Hid (Below w8.heap.size w8 wA) := (show Below _ _ _ from bnext HZ9.out hbA)
        have HBA : Hid (Below w.heap.size w wA) := (show Below _ _ _ from bnext HB9.out hbA)
        clear hbA
        refine ⟨⟨⟨_, HZA.out⟩, rfl⟩, ?_⟩
        go_simp
        iterate 2 (refine ord_still rfl rfl ?_; go_big_quiet_step (fail); refine wpQuiet_nil ?_)
        refine ord_end ?_
        clear ne D0 D1 D2 D3 D4 D5 E0 E1 E2 E3 E4 E5
        go_upto_region 11 with (go_at_call 28; go_must (refine (H28b.out wA HBA.out).mono ?_; rintro r w10 ⟨ya, ma, oa, yb, mb, ob, q10, rfl, h10, hb10⟩; have H10 : Hid (CgAt (w10.alloc (.cells #[.int .i64 dk, .int .i64 dw, .int .u64 dp, .int .i64 dm, .slice ya ma oa, .slice yb mb ob] 38)) ⟨dk, dw, dp, dm, dws, dol⟩ (.slice ya ma oa) (.slice yb mb ob) q10) := h10.below (balloc (Below.refl _ _) _); have HB10 : Hid (Below w.heap.size w (w10.alloc (.cells #[.int .i64 dk, .int .i64 dw, .int .u64 dp, .int .i64 dm, .slice ya ma oa, .slice yb mb ob] 38))) := (show Below _ _ _ from balloc (bnext HBA.out hb10) _); have X10 : Hid (Blk (w10.alloc (.cells #[.int .i64 dk, .int .i64 dw, .int .u64 dp, .int .i64 dm, .slice ya ma oa, .slice yb mb ob] 38)) w10.heap.size 38 [.int .i64 dk, .int .i64 dw, .int .u64 dp, .int .i64 dm, .slice ya ma oa, .slice yb mb ob]) := (show Blk _ _ _ _ from blk_newA _ _ _ 38 _ rfl rfl); clear h10 hb10))
        obtain ⟨w11, hw11⟩ : ∃ w11, w11 = w10.alloc (.cells #[.int .i64 dk, .int .i64 dw, .int .u64 dp, .int .i64 dm, .slice ya ma oa, .slice yb mb ob] 38) := ⟨_, rfl⟩
        obtain ⟨b11, hb11⟩ : ∃ b11, b11 = w10.heap.size := ⟨_, rfl⟩
        rw [← hw11] at H10 HB10
        rw [← hw11, ← hb11] at X10 ⊢
        clear hw11 hb11
        have k0 := X10.out.cell 0 _ rfl; have k1 := X10.out.cell 1 _ rfl; have k2 := X10.out.cell 2 _ rfl; have k3 := X10.out.cell 3 _ rfl; have k4 := X10.out.cell 4 _ rfl; have k5 := X10.out.cell 5 _ rfl
        by_cases hJ : J = 0
        · have HJ1 : Hid (rightB ⟨dk, dw, dp, dm, dws, dol⟩ = true ∧ bytesC ⟨dk, dw, dp, dm, dws, dol⟩ = bl) := HJ0.out hJ
          have H26b : Hid (Calls Try.prog 26 #[.agg #[.int .i64 dk, .int .i64 dw, .int .u64 dp, .int .i64 dm, .slice ya ma oa, .slice yb mb ob]] w11 fun r w' => ∃ x n p, r = .returned (.tuple #[.slice x n p, .int .i64 0]) ∧ Rd w' (.slice x n p) bl ∧ Below w11.heap.size w11 w') := (show Calls _ _ _ _ _ from by
            refine (bytes26s H10.out HSm.out.1 HSm.out.2).mono ?_
            rintro r w' ⟨x, n, p, rfl, h1, h2⟩
            rw [HJ1.out.1] at h1 ⊢
            simp only [if_true] at h1 ⊢
            rw [HJ1.out.2] at h1
            exact ⟨x, n, p, rfl, h1, h2⟩)
          subst hJ
          go_wp2_with (first
            | (go_at_call 26; go_must (refine H26b.out.mono ?_; rintro r w12 ⟨x12, n12, p12, rfl, h12, hb12⟩; have HR12 : Hid (Rd w12 (.slice x12 n12 p12) bl) := h12; have HB12 : Hid (Below w.heap.size w w12) := (show Below _ _ _ from bnext HB10.out hb12); clear h12 hb12))
            | (go_at_call 31; go_must (refine (H31.out w12 x12 n12 p12 HR12.out HB12.out).mono ?_; rintro r w13 ⟨rfl, hb13⟩; have HB13 : Hid (Below w.heap.size w w13) := (show Below _ _ _ from bnext HB12.out hb13); clear hb13))
            | (go_at_call 9; go_must (refine (HAl.out _).mono ?_; rintro r w14 ⟨rfl, hb14⟩; have HB14 : Hid (Below w.heap.size w w14) := (show Below _ _ _ from bnext HB13.out hb14); clear hb14)))
          go_ret
          exact ⟨rfl, HB14.out⟩
        · obtain ⟨e1, e2, e3, e4, e5, e6⟩ := HJz.out hJ
          subst e1 e2 e3 e4 e5 e6
          have H30b : Hid (Calls Try.prog 30 #[.agg #[.int .i64 0, .int .i64 0, .int .u64 0, .int .i64 0, .slice ya ma oa, .slice yb mb ob]] w11 fun r w' => ∃ x n p, r = .returned (.agg #[.int .i64 0, .int .i64 0, .int .u64 0, .int .i64 0, .slice x n p, .slice yb mb ob]) ∧ CgAt w' ⟨0, 0, 0, 0, [], []⟩ (.slice x n p) (.slice yb mb ob) q10 ∧ Below w11.heap.size w11 w') := (show Calls _ _ _ _ _ from back30s H10.out (by have := H10.out.len; simp at this; rw [this]; simp))
          have H29b : Hid (∀ w' x n p, CgAt w' ⟨0, 0, 0, 0, [], []⟩ (.slice x n p) (.slice yb mb ob) q10 → Calls Try.prog 29 #[.agg #[.int .i64 0, .int .i64 0, .int .u64 0, .int .i64 0, .slice x n p, .slice yb mb ob], .agg #[.int .i64 0, .int .i64 0, .int .u64 0, .int .i64 0, .slice none 0 0, .slice none 0 0]] w' fun r w'' => r = .returned (.bool true) ∧ Below w'.heap.size w' w'') := fun w' x n p hh => changes29z hh
          go_wp2_with (first
            | (go_at_call 30; go_must (refine H30b.out.mono ?_; rintro r w12 ⟨x12, n12, p12, rfl, h12, hb12⟩; have HR12 : Hid (CgAt w12 ⟨0, 0, 0, 0, [], []⟩ (.slice x12 n12 p12) (.slice yb mb ob) q10) := h12; have HB12 : Hid (Below w.heap.size w w12) := (show Below _ _ _ from bnext HB10.out hb12); clear h12 hb12))
            | (go_at_call 29; go_must (refine (H29b.out w12 x12 n12 p12 HR12.out).mono ?_; rintro r w13 ⟨rfl, hb13⟩; have HB13 : Hid (Below w.heap.size w w13) := (show Below _ _ _ from bnext HB12.out hb13); clear hb13))
            | (go_at_call 9; go_must (refine (HAl.out _).mono ?_; rintro r w14 ⟨rfl, hb14⟩; have HB14 : Hid (Below w.heap.size w w14) := (show Below _ _ _ from bnext HB13.out hb14); clear hb14)))
          go_ret
          exact ⟨rfl, HB14.out⟩
end Go.Proofs.Ytgoghmabhdkdjaa
