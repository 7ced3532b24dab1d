/-
  The reference's Sign and Verify answer as the plain oracle does.
  What each row tells of the others stays so.
-/
import Derived.Test.YteedjdflojfhmaaRefM
namespace Go.Proofs.Yteedjdflojfhmaa
section
set_option linter.unusedVariables false
set_option synthInstance.maxSize 20000
open Classical
open Go.RowKit Go.Maps

/-! ### 'is', told by the plain oracle -/
theorem ris_no (W : WS) (w : World) (r : Nat) (fr : List Nat) (S : St) (h : RefAt W w r fr S) (g k : Int) (hk : ∀ x, S.at g = some x → kindOf x ≠ k) :
    Calls Try.prog 92 #[ptr r, .int .u64 g, .int .i64 k] w fun e w' => e = .returned (.tuple #[.agg #[.int .u64 0, .int .i64 0, .slice none 0 0, .slice none 0 0, .int .u64 0, .int .u64 0], .bool false]) ∧ Below w.heap.size w w' := by
  obtain ⟨R, dv, lv, h⟩ := h
  refine (ris_any W w r fr S R dv lv h g k).mono ?_
  cases hi : isOf R g k with
  | none => rintro e w' ⟨rfl, hb⟩; exact ⟨rfl, hb⟩
  | some q =>
    obtain ⟨_, _, h3, h4⟩ := isOf_some h.rows hi
    exact absurd h3 (hk _ h4)
theorem ris_yes (W : WS) (w : World) (r : Nat) (fr : List Nat) (S : St) (h : RefAt W w r fr S) (g k : Int) (x : What) (hx : S.at g = some x) (hk : kindOf x = k) :
    Calls Try.prog 92 #[ptr r, .int .u64 g, .int .i64 k] w fun e w' => ∃ a1 c1 a2 c2, e = .returned (.tuple #[.agg #[.int .u64 g, .int .i64 k, .slice a1 (aOf x).length c1, .slice a2 (bOf x).length c2, .int .u64 (nOf x), .int .u64 (mOf x)], .bool true]) ∧ Rd w (.slice a1 (aOf x).length c1) (aOf x) ∧ Rd w (.slice a2 (bOf x).length c2) (bOf x) ∧ Below w.heap.size w w' := by
  obtain ⟨R, dv, lv, h⟩ := h
  refine (ris_any W w r fr S R dv lv h g k).mono ?_
  cases hi : isOf R g k with
  | none => exact absurd hk (isOf_none h.rows hi x hx)
  | some q =>
    obtain ⟨h1, h2, h3, h4⟩ := isOf_some h.rows hi
    rw [hx] at h4
    have e : x = q.x := by injection h4
    subst e
    obtain ⟨va, vb⟩ := h.vals q h1
    obtain ⟨a1, c1, ea⟩ := va.1.len
    obtain ⟨a2, c2, eb⟩ := vb.1.len
    rintro e w' ⟨rfl, hb⟩
    refine ⟨a1, c1, a2, c2, ?_, ea ▸ va.1, eb ▸ vb.1, hb⟩
    unfold rowVal
    dsimp only
    rw [ea, eb, h2, h3]
    rfl

set_option maxHeartbeats 2000000 in
set_option maxRecDepth 20000 in
theorem rsign_any (W : WS) (w : World) (r : Nat) (fr : List Nat) (S : St) (h : RefAt W w r fr S) (hN : S.rows.length + 1 ≤ 100000) (s : Int) (v : Value) (b : List Int) (hv : Kp W w v b) :
    Calls Try.prog 71 #[ptr r, .int .u64 s, v] w fun e w' => e = .returned (.tuple #[.int .u64 (S.sign s b).1.1, .int .i64 (S.sign s b).1.2]) ∧ RLeft W w r fr (S.sign s b).2 w' := by
  have HV : Hid (Kp W w v b) := hv
  obtain ⟨bv, bc, rfl⟩ := hv.1.len
  have hob := hv.1.oct
  have HA0 : Hid (RefAt W w r fr S) := h
  clear hv
  unfold St.sign
  by_cases hs : S.at s = some .secret
  · rw [if_pos hs]
    have HS : Hid (S.at s = some .secret) := hs
    have HOB : Hid (WhatOk (.sig s b)) := (⟨(at_ok h.good hs).1, hob⟩ : WhatOk (.sig s b))
    obtain ⟨R, dv, lv, h⟩ := h
    have H0 : Hid (RO W w r fr S R dv lv) := h
    have HROWS : Hid (S.rows = R.map fun q => (q.h, q.x)) := h.rows
    have hfew := h.few
    obtain ⟨la, lc, rfl, hl1, hl2⟩ := slice_of_own h.own
    clear h hob hs
    go_enter Try.func71, Try.ntmps71
    go_wp2_with (go_at_call 92; go_must (refine (ris_yes W w r fr S HA0.out s 3 .secret HS.out rfl).mono ?_; dsimp only [aOf, bOf, nOf, mOf, List.length_nil]; rintro e w0 ⟨ya, yc, yb, yd, rfl, _, _, hb0⟩))
    obtain ⟨w1, hw1⟩ : ∃ w1, w1 = w0.alloc (.cells #[.int .u64 s, .int .i64 3, .slice ya 0 yc, .slice yb 0 yd, .int .u64 0, .int .u64 0] 89) := ⟨_, rfl⟩
    have HB1 : Hid (Below w.heap.size w w1) := (by show Below _ _ _; rw [hw1]; exact balloc hb0 _)
    rw [← hw1]
    have H1 : Hid (RO W w1 r fr S R dv (.slice la R.length lc)) := H0.out.below HB1.out
    clear hw1 hb0 HA0 H0
    go_loopw [10] (fun i wr => ∃ m : Nat, m ≤ R.length ∧ i = .int .i64 m ∧ Hid (∀ j p, j < m → R[j]? = some p → p.x ≠ .sig s b) ∧ Hid (RO W wr r fr S R dv (.slice la R.length lc)) ∧ Hid (Below w.heap.size w wr)) (fun i _ => R.length - (intOf i).toNat)
    case atStart => exact ⟨0, by omega, rfl, (fun j p hj => by omega), H1, HB1⟩
    case round =>
      obtain ⟨m, hm, rfl, hb, H, HBE⟩ := hrel
      clear H1 HB1
      have k1 := H.out.blk.cell 1 _ rfl
      by_cases hlt : m < R.length
      · obtain ⟨q, hq⟩ : ∃ q, R[m]? = some q := ⟨_, List.getElem?_eq_getElem hlt⟩
        have HQ : Hid (R[m]? = some q) := hq
        obtain ⟨gb, cap, e, _, _, hc⟩ := H.out.row hq
        cases e
        obtain ⟨va, vb⟩ := H.out.vals q (List.mem_of_getElem? hq)
        have VA : Hid (Kp W wr q.a (aOf q.x)) := va
        obtain ⟨a1, n1, ea⟩ := va.1.len
        have q1 := hc 1 _ rfl
        have q2 := hc 2 _ rfl
        have q4 := hc 4 _ rfl
        rw [ea] at q2 VA
        clear hc va vb ea hq
        by_cases hk : kindOf q.x = 5
        · obtain ⟨t, l, hl⟩ : ∃ t l, q.x = .sig t l := by
            revert hk
            generalize q.x = x
            intro hk
            cases x using What.each <;> simp [kindOf] at hk
            exact ⟨_, _, rfl⟩
          rw [hl] at q2 VA q4
          rw [hk] at q1
          have HL : Hid (q.x = .sig t l) := hl
          dsimp only [aOf, nOf] at q2 VA q4
          clear hl hk
          by_cases ht : t = s
          · subst ht
            by_cases he : l = b
            · have HE : Hid (l = b) := he
              clear he
              go_wp2_with (go_at_call 34; go_must (refine (same_any _ _ l b wr VA.out.1 (HV.out.1.below HBE.out)).mono ?_; rw [decide_eq_true HE.out]; rintro e w1 ⟨rfl, hb1⟩; have H1 : Hid (RO W w1 r fr S R dv (.slice (some ⟨gb, 0, none⟩) R.length lc)) := H.out.below hb1; have c1 := H1.out.blk.cell 1 _ rfl; have c0 : w1.cell? ⟨gb, m * 6, none⟩ = some (.int .u64 q.h) := (by obtain ⟨g2, cap2, e2, _, _, hc2⟩ := H1.out.row HQ.out; cases e2; exact hc2 0 _ rfl)))
              go_ret2
              have hof : S.of (.sig t b) = some q.h := of_hit HROWS.out HQ.out (by rw [HL.out, HE.out]) hb.out
              rw [get_some hof]
              exact ⟨rfl, RLeft.after HBE.out (RLeft.same ⟨R, dv, _, H.out⟩ hb1)⟩
            · have HE : Hid (¬ l = b) := he
              clear he
              go_wp2_with (go_at_call 34; go_must (refine (same_any _ _ l b wr VA.out.1 (HV.out.1.below HBE.out)).mono ?_; rw [decide_eq_false HE.out]; rintro e w1 ⟨rfl, hb1⟩))
              go_roundw
              case rel => exact ⟨m + 1, by omega, by go_num, (fun j p hj hp => by
                by_cases e : j = m
                · subst e
                  rw [HQ.out] at hp
                  cases hp
                  rw [HL.out]
                  exact fun e => HE.out (by rw [What.sig.injEq] at e; exact e.2)
                · exact hb.out j p (by omega) hp), H.out.below hb1, bnext HBE.out hb1⟩
              case measure => simp [intOf]; omega
          · have HT : Hid (¬ t = s) := ht
            have ht' : (t == s) = false := by simpa using ht
            clear ht
            go_wp2
            go_roundw
            case rel => exact ⟨m + 1, by omega, by go_num, (fun j p hj hp => by
              by_cases e : j = m
              · subst e
                rw [HQ.out] at hp
                cases hp
                rw [HL.out]
                exact fun e => HT.out (by rw [What.sig.injEq] at e; exact e.1)
              · exact hb.out j p (by omega) hp), H, HBE⟩
            case measure => simp [intOf]; omega
        · have HK : Hid (¬ kindOf q.x = 5) := hk
          have hk' : (kindOf q.x == 5) = false := by simpa using hk
          generalize kindOf q.x = kx at q1 hk'
          clear hk
          go_wp2
          go_roundw
          case rel => exact ⟨m + 1, by omega, by go_num, (fun j p hj hp => by
            by_cases e : j = m
            · subst e
              rw [HQ.out] at hp
              cases hp
              intro e
              exact HK.out (by rw [e]; rfl)
            · exact hb.out j p (by omega) hp), H, HBE⟩
          case measure => simp [intOf]; omega
      · have : m = R.length := by omega
        subst this
        have hof : S.of (.sig s b) = none := of_miss HROWS.out hb.out
        have HOF : Hid (S.of (.sig s b) = none) := hof
        have HA : Hid (RefAt W wr r fr S) := ⟨R, dv, _, H.out⟩
        clear hof H
        go_wp2_with (go_at_call 38; go_must (refine (rput_ref W wr r fr S HA.out (.sig s b) HOB.out (.slice bv b.length bc) (.slice none 0 0) (HV.out.below HBE.out) (kp_nil _ _) hN).mono ?_; rintro e w1 ⟨rfl, hl⟩))
        go_ret2
        rw [get_none HOF.out]
        exact ⟨rfl, RLeft.after HBE.out hl⟩
  · rw [if_neg hs]
    have HS : Hid (∀ x, S.at s = some x → kindOf x ≠ 3) := (fun x hx e => (by
      cases x using What.each <;> simp [kindOf] at e
      exact hs hx : False))
    clear hs h hob
    go_enter Try.func71, Try.ntmps71
    go_wp2_with (go_at_call 92; go_must (refine (ris_no W w r fr S HA0.out s 3 HS.out).mono ?_; rintro e w0 ⟨rfl, hb0⟩))
    go_ret2
    exact ⟨rfl, RLeft.same HA0.out (balloc hb0 _)⟩

/-- What each row tells of the others. -/
structure Fine (S : St) : Prop where
  once : ∀ s b g, (g, What.sig s b) ∈ S.rows → S.of (.sig s b) = some g
  wraps : ∀ g s k p, (g, What.wrap s k p) ∈ S.rows → S.at p = some (.pub s)

theorem vpub {S : St} {p s g : Int} {b : List Int} (hp : S.at p = some (.pub s)) : S.verify p b g = decide (S.of (.sig s b) = some g) := by unfold St.verify; rw [hp]
theorem verify_yes {S : St} (hg : Good S) (hf : Fine S) {p s g t : Int} {b l : List Int} (hp : S.at p = some (.pub s)) (hs : S.at g = some (.sig t l)) : S.verify p b g = (decide (t = s) && decide (l = b)) := by
  rw [vpub hp]
  by_cases h : S.of (.sig s b) = some g
  · have := at_of hg h
    rw [hs] at this
    cases this
    simp [h]
  · rw [decide_eq_false h]
    by_cases e1 : t = s
    · subst e1
      by_cases e2 : l = b
      · subst e2
        exact absurd (hf.once _ _ _ (at_some hs)) h
      · simp [e2]
    · simp [e1]
theorem verify_nosig {S : St} (hg : Good S) {p s g : Int} {b : List Int} (hp : S.at p = some (.pub s)) (hs : ∀ t l, S.at g ≠ some (.sig t l)) : S.verify p b g = false := by
  rw [vpub hp]
  exact decide_eq_false (fun h => hs _ _ (at_of hg h))
theorem verify_nopub {S : St} {p g : Int} {b : List Int} (hp : ∀ s, S.at p ≠ some (.pub s)) : S.verify p b g = false := by
  unfold St.verify
  split
  · rename_i s h
    exact absurd h (hp s)
  · rfl

theorem ris_form (W : WS) (w : World) (r : Nat) (fr : List Nat) (S : St) (h : RefAt W w r fr S) (g k : Int) :
    Calls Try.prog 92 #[ptr r, .int .u64 g, .int .i64 k] w fun e w' => ∃ i1 i2 a1 n1 c1 a2 n2 c2 i3 i4 bb, e = .returned (.tuple #[.agg #[.int .u64 i1, .int .i64 i2, .slice a1 n1 c1, .slice a2 n2 c2, .int .u64 i3, .int .u64 i4], .bool bb]) ∧ Below w.heap.size w w' := by
  obtain ⟨R, dv, lv, h⟩ := h
  refine (ris_any W w r fr S R dv lv h g k).mono ?_
  cases hi : isOf R g k with
  | none => rintro e w' ⟨rfl, hb⟩; exact ⟨_, _, _, _, _, _, _, _, _, _, _, rfl, hb⟩
  | some q =>
    obtain ⟨h1, h2, h3, h4⟩ := isOf_some h.rows hi
    obtain ⟨va, vb⟩ := h.vals q h1
    obtain ⟨a1, c1, ea⟩ := va.1.len
    obtain ⟨a2, c2, eb⟩ := vb.1.len
    rintro e w' ⟨rfl, hb⟩
    refine ⟨q.h, kindOf q.x, a1, (aOf q.x).length, c1, a2, (bOf q.x).length, c2, nOf q.x, mOf q.x, true, ?_, hb⟩
    unfold rowVal
    dsimp only
    rw [ea, eb]
    rfl
theorem notkind {S : St} {g : Int} {k : Int} : (∀ x, S.at g = some x → kindOf x ≠ k) ∨ ∃ x, S.at g = some x ∧ kindOf x = k := by
  cases h : S.at g with
  | none => exact .inl (fun x hx => by cases hx)
  | some x =>
    by_cases e : kindOf x = k
    · exact .inr ⟨x, rfl, e⟩
    · exact .inl (fun y hy => by cases hy; exact e)
theorem kind3 {x : What} (h : kindOf x = 3) : x = .secret := by cases x using What.each <;> simp [kindOf] at h; rfl
theorem kind2 {x : What} (h : kindOf x = 2) : x = .key := by cases x using What.each <;> simp [kindOf] at h; rfl
theorem kind4 {x : What} (h : kindOf x = 4) : ∃ s, x = .pub s := by cases x using What.each <;> simp [kindOf] at h; exact ⟨_, rfl⟩
theorem kind5 {x : What} (h : kindOf x = 5) : ∃ s l, x = .sig s l := by cases x using What.each <;> simp [kindOf] at h; exact ⟨_, _, rfl⟩
theorem kind6 {x : What} (h : kindOf x = 6) : ∃ k b p, x = .seal k b p := by cases x using What.each <;> simp [kindOf] at h; exact ⟨_, _, _, rfl⟩
theorem kind7 {x : What} (h : kindOf x = 7) : ∃ s k p, x = .wrap s k p := by cases x using What.each <;> simp [kindOf] at h; exact ⟨_, _, _, rfl⟩
set_option maxHeartbeats 2000000 in
set_option maxRecDepth 20000 in
theorem rverify_any (W : WS) (w : World) (r : Nat) (fr : List Nat) (S : St) (h : RefAt W w r fr S) (hf : Fine S) (p : Int) (v : Value) (b : List Int) (hv : Rd w v b) (g : Int) :
    Calls Try.prog 74 #[ptr r, .int .u64 p, v, .int .u64 g] w fun e w' => e = .returned (.bool (S.verify p b g)) ∧ Below w.heap.size w w' := by
  have HA : Hid (RefAt W w r fr S) := h
  have HV : Hid (Rd w v b) := hv
  have hgood := h.good
  obtain ⟨bv, bc, rfl⟩ := hv.len
  clear hv h
  rcases (notkind : (∀ x, S.at p = some x → kindOf x ≠ 4) ∨ _) with hp | ⟨x, hp, hk⟩
  · rw [verify_nopub (fun s e => hp _ e rfl)]
    have HP : Hid (∀ x, S.at p = some x → kindOf x ≠ 4) := hp
    clear hp hf hgood
    go_enter Try.func74, Try.ntmps74
    go_upto_region 2 with (go_at_call 92; go_must (refine (ris_no W w r fr S HA.out p 4 HP.out).mono ?_; rintro e w0 ⟨rfl, hb0⟩))
    obtain ⟨w1, hw1⟩ : ∃ w1, w1 = w0.alloc (.cells #[.int .u64 0, .int .i64 0, .slice none 0 0, .slice none 0 0, .int .u64 0, .int .u64 0] 89) := ⟨_, rfl⟩
    have HB1 : Hid (Below w.heap.size w w1) := (by show Below _ _ _; rw [hw1]; exact balloc hb0 _)
    rw [← hw1]
    have H1 : Hid (RefAt W w1 r fr S) := HA.out.below HB1.out
    clear hw1 hb0
    go_wp2_with (go_at_call 92; go_must (refine (ris_form W w1 r fr S H1.out g 5).mono ?_; rintro e w2 ⟨i1, i2, e1, n1, d1, e2, n2, d2, i3, i4, bb, rfl, hb2⟩))
    go_ret
    exact ⟨rfl, balloc (bnext HB1.out hb2) _⟩
  · obtain ⟨s, rfl⟩ := kind4 hk
    have HP : Hid (S.at p = some (.pub s)) := hp
    rcases (notkind : (∀ x, S.at g = some x → kindOf x ≠ 5) ∨ _) with hs | ⟨x, hs, hk⟩
    · rw [verify_nosig hgood hp (fun t l e => hs _ e rfl)]
      have HS : Hid (∀ x, S.at g = some x → kindOf x ≠ 5) := hs
      clear hp hs hk hf hgood
      go_enter Try.func74, Try.ntmps74
      go_upto_region 2 with (go_at_call 92; go_must (refine (ris_yes W w r fr S HA.out p 4 (.pub s) HP.out rfl).mono ?_; dsimp only [aOf, bOf, nOf, mOf, List.length_nil]; rintro e w0 ⟨ya, yc, yb, yd, rfl, _, _, hb0⟩))
      obtain ⟨w1, hw1⟩ : ∃ w1, w1 = w0.alloc (.cells #[.int .u64 p, .int .i64 4, .slice ya 0 yc, .slice yb 0 yd, .int .u64 s, .int .u64 0] 89) := ⟨_, rfl⟩
      have HB1 : Hid (Below w.heap.size w w1) := (by show Below _ _ _; rw [hw1]; exact balloc hb0 _)
      have Y1 : Hid (Blk w1 w0.heap.size 89 [.int .u64 p, .int .i64 4, .slice ya 0 yc, .slice yb 0 yd, .int .u64 s, .int .u64 0]) := (by show Blk _ _ _ _; rw [hw1]; exact heap_alloc_new w0 _)
      rw [← hw1]
      have H1 : Hid (RefAt W w1 r fr S) := HA.out.below HB1.out
      generalize w0.heap.size = ny at Y1 ⊢
      clear hw1 hb0
      go_wp2_with (go_at_call 92; go_must (refine (ris_no W w1 r fr S H1.out g 5 HS.out).mono ?_; rintro e w2 ⟨rfl, hb2⟩))
      go_ret
      exact ⟨rfl, balloc (bnext HB1.out hb2) _⟩
    · obtain ⟨t, l, rfl⟩ := kind5 hk
      have HS : Hid (S.at g = some (.sig t l)) := hs
      rw [verify_yes hgood hf hp hs]
      clear hp hs hk hf hgood
      by_cases ht : t = s
      · subst ht
        rw [decide_eq_true (rfl : t = t), Bool.true_and]
        go_enter Try.func74, Try.ntmps74
        go_upto_region 2 with (go_at_call 92; go_must (refine (ris_yes W w r fr S HA.out p 4 (.pub t) HP.out rfl).mono ?_; dsimp only [aOf, bOf, nOf, mOf, List.length_nil]; rintro e w0 ⟨ya, yc, yb, yd, rfl, _, _, hb0⟩))
        obtain ⟨w1, hw1⟩ : ∃ w1, w1 = w0.alloc (.cells #[.int .u64 p, .int .i64 4, .slice ya 0 yc, .slice yb 0 yd, .int .u64 t, .int .u64 0] 89) := ⟨_, rfl⟩
        have HB1 : Hid (Below w.heap.size w w1) := (by show Below _ _ _; rw [hw1]; exact balloc hb0 _)
        have Y1 : Hid (Blk w1 w0.heap.size 89 [.int .u64 p, .int .i64 4, .slice ya 0 yc, .slice yb 0 yd, .int .u64 t, .int .u64 0]) := (by show Blk _ _ _ _; rw [hw1]; exact heap_alloc_new w0 _)
        rw [← hw1]
        have H1 : Hid (RefAt W w1 r fr S) := HA.out.below HB1.out
        generalize w0.heap.size = ny at Y1 ⊢
        clear hw1 hb0
        go_upto_region 3 with (go_at_call 92; go_must (refine (ris_yes W w1 r fr S H1.out g 5 (.sig t l) HS.out rfl).mono ?_; dsimp only [aOf, bOf, nOf, mOf, List.length_nil]; rintro e w2 ⟨za, zc, zb, zd, rfl, zr, _, hb2⟩))
        obtain ⟨w3, hw3⟩ : ∃ w3, w3 = w2.alloc (.cells #[.int .u64 g, .int .i64 5, .slice za l.length zc, .slice zb 0 zd, .int .u64 t, .int .u64 0] 89) := ⟨_, rfl⟩
        have HB3 : Hid (Below w1.heap.size w1 w3) := (by show Below _ _ _; rw [hw3]; exact balloc hb2 _)
        have Z3 : Hid (Blk w3 w2.heap.size 89 [.int .u64 g, .int .i64 5, .slice za l.length zc, .slice zb 0 zd, .int .u64 t, .int .u64 0]) := (by show Blk _ _ _ _; rw [hw3]; exact heap_alloc_new w2 _)
        rw [← hw3]
        have H3 : Hid (RefAt W w3 r fr S) := H1.out.below HB3.out
        generalize w2.heap.size = nz at Z3 ⊢
        have ZR : Hid (Rd w1 (.slice za l.length zc) l) := zr
        have y4 := (Y1.out.below HB3.out).cell 4 _ rfl
        have z4 := Z3.out.cell 4 _ rfl
        have z2 := Z3.out.cell 2 _ rfl
        clear hw3 hb2 zr
        go_wp2_with (go_at_call 34; go_must (refine (same_any _ _ l b w3 (ZR.out.below HB3.out) (HV.out.below (bnext HB1.out HB3.out))).mono ?_; rintro e w4 ⟨rfl, hb4⟩))
        go_ret
        exact ⟨rfl, bnext (bnext HB1.out HB3.out) hb4⟩
      · have ht' : (t == s) = false := by simpa using ht
        rw [decide_eq_false ht, Bool.false_and]
        clear ht
        go_enter Try.func74, Try.ntmps74
        go_upto_region 2 with (go_at_call 92; go_must (refine (ris_yes W w r fr S HA.out p 4 (.pub s) HP.out rfl).mono ?_; dsimp only [aOf, bOf, nOf, mOf, List.length_nil]; rintro e w0 ⟨ya, yc, yb, yd, rfl, _, _, hb0⟩))
        obtain ⟨w1, hw1⟩ : ∃ w1, w1 = w0.alloc (.cells #[.int .u64 p, .int .i64 4, .slice ya 0 yc, .slice yb 0 yd, .int .u64 s, .int .u64 0] 89) := ⟨_, rfl⟩
        have HB1 : Hid (Below w.heap.size w w1) := (by show Below _ _ _; rw [hw1]; exact balloc hb0 _)
        have Y1 : Hid (Blk w1 w0.heap.size 89 [.int .u64 p, .int .i64 4, .slice ya 0 yc, .slice yb 0 yd, .int .u64 s, .int .u64 0]) := (by show Blk _ _ _ _; rw [hw1]; exact heap_alloc_new w0 _)
        rw [← hw1]
        have H1 : Hid (RefAt W w1 r fr S) := HA.out.below HB1.out
        generalize w0.heap.size = ny at Y1 ⊢
        clear hw1 hb0
        go_upto_region 3 with (go_at_call 92; go_must (refine (ris_yes W w1 r fr S H1.out g 5 (.sig t l) HS.out rfl).mono ?_; dsimp only [aOf, bOf, nOf, mOf, List.length_nil]; rintro e w2 ⟨za, zc, zb, zd, rfl, zr, _, hb2⟩))
        obtain ⟨w3, hw3⟩ : ∃ w3, w3 = w2.alloc (.cells #[.int .u64 g, .int .i64 5, .slice za l.length zc, .slice zb 0 zd, .int .u64 t, .int .u64 0] 89) := ⟨_, rfl⟩
        have HB3 : Hid (Below w1.heap.size w1 w3) := (by show Below _ _ _; rw [hw3]; exact balloc hb2 _)
        have Z3 : Hid (Blk w3 w2.heap.size 89 [.int .u64 g, .int .i64 5, .slice za l.length zc, .slice zb 0 zd, .int .u64 t, .int .u64 0]) := (by show Blk _ _ _ _; rw [hw3]; exact heap_alloc_new w2 _)
        rw [← hw3]
        have H3 : Hid (RefAt W w3 r fr S) := H1.out.below HB3.out
        generalize w2.heap.size = nz at Z3 ⊢
        have ZR : Hid (Rd w1 (.slice za l.length zc) l) := zr
        have y4 := (Y1.out.below HB3.out).cell 4 _ rfl
        have z4 := Z3.out.cell 4 _ rfl
        have z2 := Z3.out.cell 2 _ rfl
        clear hw3 hb2 zr
        go_wp2
        go_ret
        exact ⟨rfl, bnext HB1.out HB3.out⟩
end

section
set_option linter.unusedVariables false
set_option linter.unusedSimpArgs false
set_option synthInstance.maxSize 20000
open Classical
open Go.RowKit Go.Maps

theorem fine0 (ds : List Int) : Fine ⟨ds, []⟩ := ⟨fun _ _ _ h => by simp at h, fun _ _ _ _ h => by simp at h⟩
theorem put_rows (S : St) (x : What) : (S.put x).rows = S.rows ++ [(S.fresh, x)] := rfl
theorem Fine.put {S : St} (hf : Fine S) (hg : Good S) (hN : S.rows.length < 1000000000) {x : What} (hs : ∀ s b, x = .sig s b → S.of (.sig s b) = none) (hw : ∀ s k p, x = .wrap s k p → S.at p = some (.pub s)) : Fine (S.put x) := by
  constructor
  · intro s b g h
    rw [put_rows] at h
    rcases List.mem_append.1 h with e | e
    · exact put_keeps (hf.once s b g e)
    · simp at e
      obtain ⟨e1, e2⟩ := e
      subst e1
      rw [put_of, hs s b e2.symm, ← e2, if_pos rfl]
      rfl
  · intro g s k p h
    rw [put_rows] at h
    rcases List.mem_append.1 h with e | e
    · exact at_put_old hg hN (hf.wraps g s k p e)
    · simp at e
      exact at_put_old hg hN (hw s k p e.2.symm)
theorem Fine.get {S : St} (hf : Fine S) (hg : Good S) (hN : S.rows.length < 1000000000) {x : What} (hw : ∀ s k p, x ≠ .wrap s k p) : Fine (S.get x).2 := by
  cases h : S.of x with
  | some g => rw [get_some h]; exact hf
  | none =>
    rw [get_none h]
    exact hf.put hg hN (fun s b e => by rw [← e]; exact h) (fun s k p e => absurd e (hw s k p))
theorem Fine.pair {S : St} (hf : Fine S) (hg : Good S) (hN : S.rows.length + 1 < 1000000000) : Fine S.pair := by
  unfold St.pair
  have h1 : Fine (S.put .secret) := hf.put hg (by omega) (fun _ _ e => by cases e) (fun _ _ _ e => by cases e)
  exact h1.put (put_good hg (by omega) (x := .secret) trivial) (by rw [put_len]; exact hN) (fun _ _ e => by cases e) (fun _ _ _ e => by cases e)
theorem Fine.sign {S : St} (hf : Fine S) (hg : Good S) (hN : S.rows.length < 1000000000) (s : Int) (b : List Int) : Fine (S.sign s b).2 := by
  unfold St.sign
  split
  · exact hf.get hg hN (fun _ _ _ e => by cases e)
  · exact hf
end
end Go.Proofs.Yteedjdflojfhmaa
