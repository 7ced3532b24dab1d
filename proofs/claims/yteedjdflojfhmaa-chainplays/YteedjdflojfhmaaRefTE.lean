/-
  The reference's Right, Text, Bytes and Same of entries.
  The reference's Text, Bytes and Same of entries.
-/
import Derived.Test.YteedjdflojfhmaaBytesE
namespace Go.Proofs.Yteedjdflojfhmaa
section
set_option linter.unusedVariables false
set_option linter.unusedSimpArgs false
set_option synthInstance.maxSize 20000
set_option maxHeartbeats 2000000
set_option maxRecDepth 20000
open Go.RowKit Go.Maps

theorem refrightE_any (e : Ent) (v : Value) (w : World) (hv : Rd w v e.b) : Calls Try.prog 47 #[ev e v] w fun r w' => r = .returned (.bool (rightB e)) ∧ Below w.heap.size w w' := by
  have HR : Hid (rightB e = true ↔ rightE e) := rightB_iff e
  generalize rightB e = p at HR ⊢
  have hcap : e.b.length ≤ 9223372036854775807 := by obtain ⟨a, cap, rfl⟩ := hv.len; have := hv.cap; omega
  obtain ⟨a, cap, rfl⟩ := hv.len
  obtain ⟨ew, ei, ep, et, eu, en, eb, eg⟩ := e
  unfold ev rightE at *
  dsimp only at *
  clear hv
  generalize eb.length = nl at *
  have HQ : Hid (decide (rightP (et, eu)) = true ↔ (1 ≤ et ∧ et ≤ 1099511627776 ∧ 0 ≤ eu ∧ eu ≤ 7)) := (decide_eq_true_iff : _ ↔ rightP (et, eu))
  have HR2 : Hid (p = true ↔ ((0 ≤ ew ∧ ew ≤ 7) ∧ (0 ≤ ei ∧ ei ≤ 199) ∧ (ep = 0 ↔ ei = 0) ∧ (1 ≤ et ∧ et ≤ 1099511627776 ∧ 0 ≤ eu ∧ eu ≤ 7) ∧ eu = ew ∧ (-1 ≤ en ∧ en ≤ 19) ∧ nl ≤ 1100)) := HR.out
  have C := fun w' => refright_any (et, eu) w'
  generalize decide (rightP (et, eu)) = q at HQ C
  unfold sv at C
  have HC : Hid (∀ w', Calls Try.prog 68 #[.agg #[.int .i64 et, .int .i64 eu]] w' fun r w'' => r = .returned (.bool q) ∧ Below w'.heap.size w' w'') := C
  clear C HR
  obtain ⟨w1, hw1⟩ : ∃ w1, w1 = w.alloc (.cells #[.int .i64 ew, .int .i64 ei, .int .u64 ep, .int .i64 et, .int .i64 eu, .int .i64 en, .slice a nl cap, .int .u64 eg] 47) := ⟨_, rfl⟩
  have HB1 : Hid (Below w.heap.size w w1) := by show Below _ _ _; rw [hw1]; exact balloc (Below.refl _ _) _
  have HX1 : Hid (Blk w1 w.heap.size 47 [.int .i64 ew, .int .i64 ei, .int .u64 ep, .int .i64 et, .int .i64 eu, .int .i64 en, .slice a nl cap, .int .u64 eg]) := by show Blk _ _ _ _; rw [hw1]; exact blk_new w [.int .i64 ew, .int .i64 ei, .int .u64 ep, .int .i64 et, .int .i64 eu, .int .i64 en, .slice a nl cap, .int .u64 eg] 47
  by_cases hP : (0 ≤ ew ∧ ew ≤ 7) ∧ (0 ≤ ei ∧ ei ≤ 199) ∧ (ep = 0 ↔ ei = 0)
  · have hPP := hP
    obtain ⟨⟨a1, a2⟩, ⟨a3, a4⟩, a5⟩ := hP
    have a5' : ((ep == 0) == (ei == 0)) = true := (beqq ep ei).2 a5
    cases q
    · have HN : Hid (p = false) := by
        show _ = _
        rw [Bool.eq_false_iff]
        intro h
        have := HQ.out.2 (HR2.out.1 h).2.2.2.1
        cases this
      clear HQ HR2 hPP a5
      go_enter Try.func47, Try.ntmps47
      go_upto_region 1 with fail
      rw [← hw1]
      obtain ⟨n, hn⟩ : ∃ n, n = w.heap.size := ⟨_, rfl⟩
      rw [← hn] at HX1 ⊢
      clear hw1 hn
      have x0 := HX1.out.cell 0 _ rfl
      have x1 := HX1.out.cell 1 _ rfl
      have x2 := HX1.out.cell 2 _ rfl
      have x3 := HX1.out.cell 3 _ rfl
      have x4 := HX1.out.cell 4 _ rfl
      go_wp2_with (go_at_call 68; go_must (refine (HC.out w1).mono ?_; rintro r w2 ⟨rfl, hb2⟩))
      all_goals
        go_ret
        exact ⟨by rw [HN.out]; rfl, bnext HB1.out hb2⟩
    · have hQ := HQ.out.1 rfl
      clear HQ
      have HR3 : Hid (p = true ↔ (eu = ew ∧ (-1 ≤ en ∧ en ≤ 19) ∧ nl ≤ 1100)) := by
        show _ ↔ _
        rw [HR2.out]
        exact ⟨fun h => h.2.2.2.2, fun h => ⟨hPP.1, hPP.2.1, hPP.2.2, hQ, h⟩⟩
      clear HR2 hQ hPP a5
      by_cases hu : eu = ew
      · have HR4 : Hid (p = true ↔ ((-1 ≤ en ∧ en ≤ 19) ∧ nl ≤ 1100)) := by show _ ↔ _; rw [HR3.out]; exact ⟨fun h => h.2, fun h => ⟨hu, h⟩⟩
        subst hu
        clear HR3
        go_enter Try.func47, Try.ntmps47
        go_upto_region 1 with fail
        rw [← hw1]
        obtain ⟨n, hn⟩ : ∃ n, n = w.heap.size := ⟨_, rfl⟩
        rw [← hn] at HX1 ⊢
        clear hw1 hn
        have x0 := HX1.out.cell 0 _ rfl
        have x1 := HX1.out.cell 1 _ rfl
        have x2 := HX1.out.cell 2 _ rfl
        have x3 := HX1.out.cell 3 _ rfl
        have x4 := HX1.out.cell 4 _ rfl
        go_wp2_with (go_at_call 68; go_must (refine (HC.out w1).mono ?_; rintro r w2 ⟨rfl, hb2⟩; have X2 := HX1.out.below hb2; have y0 := X2.cell 0 _ rfl; have y4 := X2.cell 4 _ rfl; have y5 := X2.cell 5 _ rfl; have y6 := X2.cell 6 _ rfl))
        all_goals
          go_ret
          refine ⟨ret_bool ?_, bnext HB1.out hb2⟩
          rw [HR4.out]
          (try simp only [decide_eq_true_eq, Bool.false_eq_true, false_iff]); omega
      · have HN : Hid (p = false) := by
          show _ = _
          rw [Bool.eq_false_iff]
          intro h
          exact hu (HR3.out.1 h).1
        have hu' : (eu == ew) = false := by simpa using hu
        clear HR3 hu
        go_enter Try.func47, Try.ntmps47
        go_upto_region 1 with fail
        rw [← hw1]
        obtain ⟨n, hn⟩ : ∃ n, n = w.heap.size := ⟨_, rfl⟩
        rw [← hn] at HX1 ⊢
        clear hw1 hn
        have x0 := HX1.out.cell 0 _ rfl
        have x1 := HX1.out.cell 1 _ rfl
        have x2 := HX1.out.cell 2 _ rfl
        have x3 := HX1.out.cell 3 _ rfl
        have x4 := HX1.out.cell 4 _ rfl
        go_wp2_with (go_at_call 68; go_must (refine (HC.out w1).mono ?_; rintro r w2 ⟨rfl, hb2⟩; have X2 := HX1.out.below hb2; have y0 := X2.cell 0 _ rfl; have y4 := X2.cell 4 _ rfl))
        all_goals
          go_ret
          exact ⟨by rw [HN.out]; rfl, bnext HB1.out hb2⟩
  · have HN : Hid (p = false) := by
      show _ = _
      rw [Bool.eq_false_iff]
      intro h
      have := HR2.out.1 h
      exact hP ⟨this.1, this.2.1, this.2.2.1⟩
    have hP' : ((ep == 0) == (ei == 0)) = true → ¬ ((0 ≤ ew ∧ ew ≤ 7) ∧ (0 ≤ ei ∧ ei ≤ 199)) := fun h1 h2 => hP ⟨h2.1, h2.2, (beqq ep ei).1 h1⟩
    have HNO : Hid (¬ ((0 ≤ ew ∧ ew ≤ 7) ∧ (0 ≤ ei ∧ ei ≤ 199) ∧ ((ep == 0) == (ei == 0)) = true)) := fun h => hP' h.2.2 ⟨h.1, h.2.1⟩
    clear HR2 HQ hP hP'
    generalize hz : ((ep == 0) == (ei == 0)) = z at *
    go_enter Try.func47, Try.ntmps47
    go_upto_region 1 with fail
    rw [← hw1]
    obtain ⟨n, hn⟩ : ∃ n, n = w.heap.size := ⟨_, rfl⟩
    rw [← hn] at HX1 ⊢
    clear hw1 hn
    have x0 := HX1.out.cell 0 _ rfl
    have x1 := HX1.out.cell 1 _ rfl
    have x2 := HX1.out.cell 2 _ rfl
    have x3 := HX1.out.cell 3 _ rfl
    have x4 := HX1.out.cell 4 _ rfl
    by_cases c1 : 0 ≤ ew
    · by_cases c2 : ew < 8
      · by_cases c3 : 0 ≤ ei
        · by_cases c4 : ei < 200
          · have hz' : z = false := by
              cases z
              · rfl
              · exact absurd ⟨⟨c1, by omega⟩, ⟨c3, by omega⟩, rfl⟩ HNO.out
            subst hz'
            go_wp2_with fail
            go_ret
            exact ⟨by rw [HN.out]; rfl, HB1.out⟩
          · go_wp2_with fail
            go_ret
            exact ⟨by rw [HN.out]; rfl, HB1.out⟩
        · go_wp2_with fail
          go_ret
          exact ⟨by rw [HN.out]; rfl, HB1.out⟩
      · go_wp2_with fail
        go_ret
        exact ⟨by rw [HN.out]; rfl, HB1.out⟩
    · go_wp2_with fail
      go_ret
      exact ⟨by rw [HN.out]; rfl, HB1.out⟩
end

section
set_option linter.unusedVariables false
set_option linter.unusedSimpArgs false
set_option synthInstance.maxSize 20000
set_option maxHeartbeats 2000000
set_option maxRecDepth 20000
open Go.RowKit Go.Maps

theorem reftext_no (w : World) (e : Ent) (v : Value) (hv : Rd w v e.b) (hr : rightB e = false) :
    Calls Try.prog 70 #[ev e v] w fun r w' => r = .returned (.tuple #[.slice none 0 0, .int .i64 1]) ∧ Below w.heap.size w w' := by
  have HV : Hid (Rd w v e.b) := hv
  have R := fun w' (h : Rd w' v e.b) => refrightE_any e v w' h
  rw [hr] at R
  obtain ⟨a, cap, rfl⟩ := hv.len
  obtain ⟨ew, ei, ep, et, eu, en, eb, eg⟩ := e
  unfold ev at *
  dsimp only at *
  have HR : Hid (∀ w', Rd w' (.slice a eb.length cap) eb → Calls Try.prog 47 #[.agg #[.int .i64 ew, .int .i64 ei, .int .u64 ep, .int .i64 et, .int .i64 eu, .int .i64 en, .slice a eb.length cap, .int .u64 eg]] w' fun r w'' => r = .returned (.bool false) ∧ Below w'.heap.size w' w'') := R
  clear R hv hr
  go_enter Try.func70, Try.ntmps70
  go_wp2_with (go_at_call 47; go_must (refine (HR.out _ (HV.out.below (balloc (Below.refl _ _) _))).mono ?_; rintro r w2 ⟨rfl, hb2⟩))
  go_ret2
  exact ⟨rfl, bnext (balloc (Below.refl _ _) _) hb2⟩

theorem reftext_yes (w : World) (e : Ent) (v : Value) (he : EOk e) (hv : Rd w v e.b) (hr : rightB e = true) :
    Calls Try.prog 70 #[ev e v] w fun r w' => ∃ x, r = .returned (.tuple #[x, .int .i64 0]) ∧ Own w.heap.size 5 w' x (textL e) ∧ Below w.heap.size w w' := by
  have HV : Hid (Rd w v e.b) := hv
  have R := fun w' (h : Rd w' v e.b) => refrightE_any e v w' h
  have hright := (rightB_iff e).1 hr
  rw [hr] at R
  obtain ⟨a, cap, rfl⟩ := hv.len
  have HL : Hid (textL e = form e.w.toNat ++ form e.i.toNat ++ form e.p.toNat ++ putS (e.t, e.u) ++ form (zig e.n) ++ form e.b.length ++ e.b) := rfl
  generalize textL e = L at *
  obtain ⟨ew, ei, ep, et, eu, en, eb, eg⟩ := e
  obtain ⟨h1, h2, h3, h4, h5, h6, h7, h8⟩ := he
  obtain ⟨⟨r1, r2⟩, ⟨r3, r4⟩, d1, d2, d3, d4, r5⟩ := hright
  clear d1 d2 d3 d4
  unfold ev at *
  dsimp only at *
  have HS : Hid (SOk (et, eu)) := ⟨h4, h5⟩
  have HE : Hid (I64 en) := h6
  obtain ⟨NX, eX⟩ : ∃ NX : Nat, ew = (NX : Int) := ⟨ew.toNat, by omega⟩
  obtain ⟨NY, eY⟩ : ∃ NY : Nat, ei = (NY : Int) := ⟨ei.toNat, by omega⟩
  obtain ⟨NZ, eZ⟩ : ∃ NZ : Nat, ep = (NZ : Int) := ⟨ep.toNat, by have := h3.1; omega⟩
  have hNZ : NZ < 18446744073709551616 := by have := h3.2; omega
  have hNX : NX < 8 := by omega
  have hNY : NY < 200 := by omega
  subst eX eY eZ
  simp only [Int.toNat_natCast] at HL
  have HNX : Hid (NX < 8) := hNX
  have HNY : Hid (NY < 200) := hNY
  have HNZ : Hid (NZ < 18446744073709551616) := hNZ
  have fX : Hid ((form NX).length ≤ 10) := form_le10 (by omega)
  have fY : Hid ((form NY).length ≤ 10) := form_le10 (by omega)
  have fZ : Hid ((form NZ).length ≤ 10) := form_le10 hNZ
  have fP : Hid ((putS (et, eu)).length ≤ 20) := putS_len (et, eu) ⟨h4, h5⟩
  have fE : Hid ((form (zig en)).length ≤ 10) := form_le10 (zig_lt en h6)
  have fB : Hid ((form eb.length).length ≤ 10) := form_le10 (by omega)
  have HLB : Hid (eb.length ≤ 1100) := r5
  have HR : Hid (∀ w', Rd w' (.slice a eb.length cap) eb → Calls Try.prog 47 #[.agg #[.int .i64 (NX : Int), .int .i64 (NY : Int), .int .u64 (NZ : Int), .int .i64 et, .int .i64 eu, .int .i64 en, .slice a eb.length cap, .int .u64 eg]] w' fun r w'' => r = .returned (.bool true) ∧ Below w'.heap.size w' w'') := R
  obtain ⟨w1, hw1⟩ : ∃ w1, w1 = w.alloc (.cells #[.int .i64 (NX : Int), .int .i64 (NY : Int), .int .u64 (NZ : Int), .int .i64 et, .int .i64 eu, .int .i64 en, .slice a eb.length cap, .int .u64 eg] 47) := ⟨_, rfl⟩
  have HB1 : Hid (Below w.heap.size w w1) := by show Below _ _ _; rw [hw1]; exact balloc (Below.refl _ _) _
  have HX1 : Hid (Blk w1 w.heap.size 47 [.int .i64 (NX : Int), .int .i64 (NY : Int), .int .u64 (NZ : Int), .int .i64 et, .int .i64 eu, .int .i64 en, .slice a eb.length cap, .int .u64 eg]) := by show Blk _ _ _ _; rw [hw1]; exact blk_new w [.int .i64 (NX : Int), .int .i64 (NY : Int), .int .u64 (NZ : Int), .int .i64 et, .int .i64 eu, .int .i64 en, .slice a eb.length cap, .int .u64 eg] 47
  have cX : (NX : Int) ≤ 9223372036854775807 := by omega
  have cY : (NY : Int) ≤ 9223372036854775807 := by omega
  clear R hv hr h1 h2 h3 h4 h5 h6 h7 h8 r1 r2 r3 r4 r5 hNX hNY hNZ
  go_enter Try.func70, Try.ntmps70
  go_upto_region 1 with fail
  rw [← hw1]
  obtain ⟨n, hn⟩ : ∃ n, n = w.heap.size := ⟨_, rfl⟩
  rw [← hn] at HX1 ⊢
  clear hw1 hn
  have x0 := HX1.out.cell 0 _ rfl
  have x1 := HX1.out.cell 1 _ rfl
  have x2 := HX1.out.cell 2 _ rfl
  have x3 := HX1.out.cell 3 _ rfl
  have x4 := HX1.out.cell 4 _ rfl
  have x5 := HX1.out.cell 5 _ rfl
  have x6 := HX1.out.cell 6 _ rfl
  have x7 := HX1.out.cell 7 _ rfl
  go_upto_region 4 with (first
    | (go_at_call 47; go_must (refine (HR.out w1 (HV.out.below HB1.out)).mono ?_; rintro r w2 ⟨rfl, hb2⟩; have X2 := HX1.out.below hb2; have y0 := X2.cell 0 _ rfl))
    | (go_at_call 88; go_must (refine (refnum NX w2 (by have := HNX.out; omega)).mono ?_; rintro r w3 ⟨v3, rfl, ho3, hb3⟩)))
  have HB3 : Hid (Below w1.heap.size w1 w3) := (show Below _ _ _ from bnext hb2 hb3)
  have HO3 : Hid (Own w1.heap.size 5 w3 v3 (form NX)) := ho3.lower hb2.size
  have X3 := HX1.out.below HB3.out
  have z1 := X3.cell 1 _ rfl
  clear y0 X2 hb2 hb3 ho3 x0 x1 x2 x3 x4 x5 x6 x7
  go_upto_region 5 with (first
    | (go_at_call 88; go_must (refine (refnum NY w3 (by have := HNY.out; omega)).mono ?_; rintro r w4 ⟨v4, rfl, ho4, hb4⟩))
    | (at_builtin; go_must (refine wpList_append_cells 43 5 byteTy rfl (.tmp 12) (.tmp 16) rfl w1.heap.size _ (form NX) rfl (HO3.out.kept (below_grown hb4)) _ (form NY) rfl ho4.rd (by have := fX.out; have := fY.out; omega) (Nat.le_trans HB3.out.size hb4.size) ?_; intro v5 w5 hown5 hg5)))
  have HO5 : Hid (Own w1.heap.size 5 w5 v5 (form NX ++ form NY)) := hown5
  have HB5 : Hid (Below w1.heap.size w1 w5) := (show Below _ _ _ from (bnext HB3.out hb4).grown hg5 (bnext HB3.out hb4).size (fun k hk => (HO3.out.2.lt k hk).1))
  have X5 := HX1.out.below HB5.out
  have q2 := X5.cell 2 _ rfl
  clear z1 X3 hb4 ho4 hown5 hg5
  go_upto_region 6 with (first
    | (go_at_call 88; go_must (refine (refnum NZ w5 HNZ.out).mono ?_; rintro r w6 ⟨v6, rfl, ho6, hb6⟩))
    | (at_builtin; go_must (refine wpList_append_cells 43 5 byteTy rfl (.tmp 18) (.tmp 21) rfl w1.heap.size _ (form NX ++ form NY) rfl (HO5.out.kept (below_grown hb6)) _ (form NZ) rfl ho6.rd (by have := fX.out; have := fY.out; have := fZ.out; simp only [List.length_append]; omega) (Nat.le_trans HB5.out.size hb6.size) ?_; intro v7 w7 hown7 hg7)))
  have HO7 : Hid (Own w1.heap.size 5 w7 v7 (form NX ++ form NY ++ form NZ)) := hown7
  have HB7 : Hid (Below w1.heap.size w1 w7) := (show Below _ _ _ from (bnext HB5.out hb6).grown hg7 (bnext HB5.out hb6).size (fun k hk => (HO5.out.2.lt k hk).1))
  have X7 := HX1.out.below HB7.out
  have q3 := X7.cell 3 _ rfl
  have q4 := X7.cell 4 _ rfl
  clear q2 X5 hb6 ho6 hown7 hg7
  go_upto_region 7 with (first
    | (go_at_call 89; go_must (refine (refput_any (et, eu) w7 HS.out).mono ?_; rintro r w8 ⟨v8, rfl, ho8, hb8⟩))
    | (at_builtin; go_must (refine wpList_append_cells 43 5 byteTy rfl (.tmp 23) (.tmp 26) rfl w1.heap.size _ (form NX ++ form NY ++ form NZ) rfl (HO7.out.kept (below_grown hb8)) _ (putS (et, eu)) rfl ho8.rd (by have := fX.out; have := fY.out; have := fZ.out; have := fP.out; simp only [List.length_append]; omega) (Nat.le_trans HB7.out.size hb8.size) ?_; intro v9 w9 hown9 hg9)))
  have HO9 : Hid (Own w1.heap.size 5 w9 v9 (form NX ++ form NY ++ form NZ ++ putS (et, eu))) := hown9
  have HB9 : Hid (Below w1.heap.size w1 w9) := (show Below _ _ _ from (bnext HB7.out hb8).grown hg9 (bnext HB7.out hb8).size (fun k hk => (HO7.out.2.lt k hk).1))
  have X9 := HX1.out.below HB9.out
  have q5 := X9.cell 5 _ rfl
  clear q3 q4 X7 hb8 ho8 hown9 hg9
  go_upto_region 8 with (first
    | (go_at_call 90; go_must (refine (refint_any en w9 HE.out).mono ?_; rintro r w10 ⟨v10, rfl, ho10, hb10⟩))
    | (at_builtin; go_must (refine wpList_append_cells 43 5 byteTy rfl (.tmp 28) (.tmp 31) rfl w1.heap.size _ (form NX ++ form NY ++ form NZ ++ putS (et, eu)) rfl (HO9.out.kept (below_grown hb10)) _ (form (zig en)) rfl ho10.rd (by have := fX.out; have := fY.out; have := fZ.out; have := fP.out; have := fE.out; simp only [List.length_append]; omega) (Nat.le_trans HB9.out.size hb10.size) ?_; intro v11 w11 hown11 hg11)))
  have HO11 : Hid (Own w1.heap.size 5 w11 v11 (form NX ++ form NY ++ form NZ ++ putS (et, eu) ++ form (zig en))) := hown11
  have HB11 : Hid (Below w1.heap.size w1 w11) := (show Below _ _ _ from (bnext HB9.out hb10).grown hg11 (bnext HB9.out hb10).size (fun k hk => (HO9.out.2.lt k hk).1))
  have X11 := HX1.out.below HB11.out
  have q6 := X11.cell 6 _ rfl
  clear q5 X9 hb10 ho10 hown11 hg11
  go_wp2_with (first
    | (go_at_call 91; go_must (refine (refbytes_any _ eb w11 (HV.out.below (bnext HB1.out HB11.out)) (by have := HLB.out; omega)).mono ?_; rintro r w12 ⟨v12, rfl, ho12, hb12⟩))
    | (at_builtin; go_must (refine wpList_append_cells 43 5 byteTy rfl (.tmp 33) (.tmp 36) rfl w1.heap.size _ (form NX ++ form NY ++ form NZ ++ putS (et, eu) ++ form (zig en)) rfl (HO11.out.kept (below_grown hb12)) _ (form eb.length ++ eb) rfl ho12.rd (by have := fX.out; have := fY.out; have := fZ.out; have := fP.out; have := fE.out; have := fB.out; have := HLB.out; simp only [List.length_append]; omega) (Nat.le_trans HB11.out.size hb12.size) ?_; intro v13 w13 hown13 hg13)))
  go_ret2
  refine ⟨_, rfl, ?_, bnext HB1.out ((bnext HB11.out hb12).grown hg13 (bnext HB11.out hb12).size (fun k hk => (HO11.out.2.lt k hk).1))⟩
  rw [HL.out]
  rw [← List.append_assoc] at hown13
  exact hown13.lower HB1.out.size

theorem refbytesE_no (w : World) (e : Ent) (v : Value) (hv : Rd w v e.b) (hr : rightB e = false) :
    Calls Try.prog 77 #[ev e v] w fun r w' => r = .returned (.tuple #[.slice none 0 0, .int .i64 1]) ∧ Below w.heap.size w w' := by
  have HV : Hid (Rd w v e.b) := hv
  have R := fun w' (h : Rd w' v e.b) => reftext_no w' e v h hr
  obtain ⟨a, cap, rfl⟩ := hv.len
  obtain ⟨ew, ei, ep, et, eu, en, eb, eg⟩ := e
  unfold ev at *
  dsimp only at *
  have HR : Hid (∀ w', Rd w' (.slice a eb.length cap) eb → Calls Try.prog 70 #[.agg #[.int .i64 ew, .int .i64 ei, .int .u64 ep, .int .i64 et, .int .i64 eu, .int .i64 en, .slice a eb.length cap, .int .u64 eg]] w' fun r w'' => r = .returned (.tuple #[.slice none 0 0, .int .i64 1]) ∧ Below w'.heap.size w' w'') := R
  clear R hv hr
  go_enter Try.func77, Try.ntmps77
  go_wp2_with (go_at_call 70; go_must (refine (HR.out _ (HV.out.below (balloc (Below.refl _ _) _))).mono ?_; rintro r w2 ⟨rfl, hb2⟩))
  go_ret2
  exact ⟨rfl, bnext (balloc (Below.refl _ _) _) hb2⟩

theorem refbytesE_yes (w : World) (e : Ent) (v : Value) (he : EOk e) (hv : Rd w v e.b) (hr : rightB e = true) :
    Calls Try.prog 77 #[ev e v] w fun r w' => ∃ x, r = .returned (.tuple #[x, .int .i64 0]) ∧ Own w.heap.size 5 w' x (bytesE e) ∧ Below w.heap.size w w' := by
  have HV : Hid (Rd w v e.b) := hv
  have R := fun w' (h : Rd w' v e.b) => reftext_yes w' e v he h hr
  have hlen := text_len he (by have := ((rightB_iff e).1 hr).2.2.2.2.2.2; omega)
  have hb := ((rightB_iff e).1 hr).2.2.2.2.2.2
  have hgn : U64 e.g := he.2.2.2.2.2.2.1
  have HBE : Hid (bytesE e = textL e ++ form e.g.toNat) := rfl
  obtain ⟨G, hG⟩ : ∃ G : Nat, e.g = (G : Int) := ⟨e.g.toNat, by unfold U64 at hgn; omega⟩
  have HG : Hid (G < 18446744073709551616) := by show _ < _; rw [hG] at hgn; unfold U64 at hgn; omega
  generalize bytesE e = BE at *
  generalize textL e = L at *
  obtain ⟨a, cap, rfl⟩ := hv.len
  obtain ⟨ew, ei, ep, et, eu, en, eb, eg⟩ := e
  unfold ev at *
  dsimp only at *
  subst hG
  rw [Int.toNat_natCast] at HBE
  have HLen : Hid (L.length ≤ 1200) := by show _ ≤ _; omega
  have HR : Hid (∀ w', Rd w' (.slice a eb.length cap) eb → Calls Try.prog 70 #[.agg #[.int .i64 ew, .int .i64 ei, .int .u64 ep, .int .i64 et, .int .i64 eu, .int .i64 en, .slice a eb.length cap, .int .u64 (G : Int)]] w' fun r w'' => ∃ x, r = .returned (.tuple #[x, .int .i64 0]) ∧ Own w'.heap.size 5 w'' x L ∧ Below w'.heap.size w' w'') := R
  have fG : Hid ((form G).length ≤ 10) := form_le10 HG.out
  obtain ⟨w1, hw1⟩ : ∃ w1, w1 = w.alloc (.cells #[.int .i64 ew, .int .i64 ei, .int .u64 ep, .int .i64 et, .int .i64 eu, .int .i64 en, .slice a eb.length cap, .int .u64 (G : Int)] 47) := ⟨_, rfl⟩
  have HB1 : Hid (Below w.heap.size w w1) := by show Below _ _ _; rw [hw1]; exact balloc (Below.refl _ _) _
  have HX1 : Hid (Blk w1 w.heap.size 47 [.int .i64 ew, .int .i64 ei, .int .u64 ep, .int .i64 et, .int .i64 eu, .int .i64 en, .slice a eb.length cap, .int .u64 (G : Int)]) := by show Blk _ _ _ _; rw [hw1]; exact blk_new w [.int .i64 ew, .int .i64 ei, .int .u64 ep, .int .i64 et, .int .i64 eu, .int .i64 en, .slice a eb.length cap, .int .u64 (G : Int)] 47
  clear R hv hr hlen hb hgn he
  go_enter Try.func77, Try.ntmps77
  go_upto_region 1 with fail
  rw [← hw1]
  obtain ⟨n, hn⟩ : ∃ n, n = w.heap.size := ⟨_, rfl⟩
  rw [← hn] at HX1 ⊢
  clear hw1 hn
  have x0 := HX1.out.cell 0 _ rfl
  have x1 := HX1.out.cell 1 _ rfl
  have x2 := HX1.out.cell 2 _ rfl
  have x3 := HX1.out.cell 3 _ rfl
  have x4 := HX1.out.cell 4 _ rfl
  have x5 := HX1.out.cell 5 _ rfl
  have x6 := HX1.out.cell 6 _ rfl
  have x7 := HX1.out.cell 7 _ rfl
  go_wp2_with (first
    | (go_at_call 70; go_must (refine (HR.out w1 (HV.out.below HB1.out)).mono ?_; rintro r w2 ⟨v2, rfl, ho2, hb2⟩; obtain ⟨a2, c2, hv2⟩ := ho2.rd.len; subst hv2; have X2 := HX1.out.below hb2; have y7 := X2.cell 7 _ rfl))
    | (go_at_call 88; go_must (refine (refnum G w2 HG.out).mono ?_; rintro r w3 ⟨v3, rfl, ho3, hb3⟩))
    | (at_builtin; go_must (refine wpList_append_cells 43 5 byteTy rfl (.tmp 14) (.tmp 17) rfl w1.heap.size _ L rfl (ho2.kept (below_grown hb3)) _ (form G) rfl ho3.rd (by have := HLen.out; have := fG.out; omega) (Nat.le_trans hb2.size hb3.size) ?_; intro v4 w4 hown4 hg4)))
  go_ret2
  refine ⟨_, rfl, ?_, bnext HB1.out ((bnext hb2 hb3).grown hg4 (bnext hb2 hb3).size (fun k hk => (ho2.2.lt k hk).1))⟩
  rw [HBE.out]
  exact hown4.lower HB1.out.size
end
end Go.Proofs.Yteedjdflojfhmaa
