/-
  The text of an operation.
-/
import Derived.Test.YtcchokedfbogfaaPrt
namespace Go.Proofs.Ytcchokedfbogfaa
set_option linter.unusedVariables false
set_option linter.unusedSimpArgs false
set_option synthInstance.maxSize 20000
set_option maxHeartbeats 2000000
set_option maxRecDepth 20000
open Go.RowKit Go.Maps

def kindF (k : Int) : List Nat := if k = 1 then [60, 64, 62] else if k = 2 then [58, 60, 62] else if k = 3 then [58] else if k = 4 then [58, 66] else []
/-- An operation's text. -/
def textL (q : OpT) : List Int := form q.k.toNat ++ ((kindF q.k).map (fun f => putX f q)).flatten
structure RightO (q : OpT) : Prop where
  a : rightB q.a = true
  kind : (q.k = 1 ∧ q.n = q.a ∧ placedB q = true) ∨ (q.k = 2 ∧ rightB q.n = true ∧ placedB q = true ∧ q.d = false) ∨ (q.k = 3 ∧ bareB q = true ∧ q.vn = 0) ∨ (q.k = 4 ∧ bareB q = true ∧ q.vn ≤ 400)
theorem rightO_iff (q : OpT) : rightO q = true ↔ RightO q := by
  have hs := sameAt_iff q.n q.a
  unfold rightO
  rw [Bool.and_eq_true]
  constructor
  · rintro ⟨h1, h2⟩
    refine ⟨h1, ?_⟩
    by_cases k1 : q.k = 1
    · rw [if_pos k1, Bool.and_eq_true] at h2
      exact .inl ⟨k1, hs.1 h2.1, h2.2⟩
    · rw [if_neg k1] at h2
      by_cases k2 : q.k = 2
      · rw [if_pos k2] at h2
        simp only [Bool.and_eq_true, Bool.not_eq_true'] at h2
        exact .inr (.inl ⟨k2, h2.1.1, h2.1.2, h2.2⟩)
      · rw [if_neg k2] at h2
        by_cases k3 : q.k = 3
        · rw [if_pos k3] at h2
          simp only [Bool.and_eq_true, beq_iff_eq] at h2
          exact .inr (.inr (.inl ⟨k3, h2.1, by omega⟩))
        · rw [if_neg k3] at h2
          by_cases k4 : q.k = 4
          · rw [if_pos k4] at h2
            simp only [Bool.and_eq_true, decide_eq_true_eq] at h2
            exact .inr (.inr (.inr ⟨k4, h2.1, by omega⟩))
          · rw [if_neg k4] at h2
            cases h2
  · rintro ⟨h1, h2⟩
    refine ⟨h1, ?_⟩
    rcases h2 with ⟨k, h3, h4⟩ | ⟨k, h3, h4, h5⟩ | ⟨k, h3, h4⟩ | ⟨k, h3, h4⟩
    · rw [if_pos k, hs.2 h3, h4]; rfl
    · rw [k]; simp [h3, h4, h5]
    · rw [k]; simp [h3, h4]
    · rw [k]; simp [h3]; omega
theorem name_size {s : ByteArray} (h : nameB s = true) : 1 ≤ s.size ∧ s.size ≤ 24 := by
  unfold nameB at h
  simp only [Bool.and_eq_true, decide_eq_true_eq] at h
  exact h.1.1.1
theorem placed_name {q : OpT} (h : placedB q = true) : nameB q.s = true := by
  unfold placedB at h
  simp only [Bool.and_eq_true] at h
  exact h.1.2
theorem oc_cons (q : OpT) : ∃ cs, oc q = .int .i64 q.k :: cs := ⟨_, rfl⟩
theorem text10_no {q : OpT} {w : World} (hr : rightO q = false) : Calls Try.prog 10 #[ov q] w fun e w' => e = .returned (.tuple #[.slice none 0 0, .int .i64 1]) ∧ Below w.heap.size w w' := by
  have HR : Hid (∀ w', Calls Try.prog 16 #[ov q] w' fun e w'' => e = .returned (.bool false) ∧ Below w'.heap.size w' w'') := fun w' => by rw [← hr]; exact right16 q w'
  clear hr
  obtain ⟨k, ⟨a1, a2⟩, ⟨n1, n2⟩, ⟨p1, p2⟩, d, s, va, vn, vc, b⟩ := q
  unfold ov oc at HR ⊢
  dsimp only at HR ⊢
  have HB0 : Hid (Below w.heap.size w (w.alloc (.cells #[.int .i64 k, .int .i64 a1, .int .i64 a2, .int .i64 n1, .int .i64 n2, .int .i64 p1, .int .i64 p2, .bool d, .string s, .slice va vn vc] 26))) := (show Below _ _ _ from balloc (Below.refl _ _) _)
  go_enter Try.func10, Try.ntmps10
  go_wp2_with (go_at_call 16; go_must (refine (HR.out _).mono ?_; rintro r w2 ⟨rfl, hb2⟩; have HB2 : Hid (Below _ _ w2) := hb2; clear hb2))
  go_ret2
  exact ⟨rfl, bnext HB0.out HB2.out⟩
theorem text10_1 {q : OpT} {w : World} (hq : QOk q) (hd : Rd w q.v q.b) (hk : q.k = 1) (hs : q.s.size ≤ 400) (hb : q.b.length ≤ 400) (hr : rightO q = true) : Calls Try.prog 10 #[ov q] w fun e w' => ∃ v, e = .returned (.tuple #[v, .int .i64 0]) ∧ Own w.heap.size 5 w' v (textL q) ∧ Below w.heap.size w w' := by
  have HR : Hid (∀ w', Calls Try.prog 16 #[ov q] w' fun e w'' => e = .returned (.bool true) ∧ Below w'.heap.size w' w'') := fun w' => by rw [← hr]; exact right16 q w'
  obtain ⟨ob, hob⟩ : ∃ ob, ob = w.heap.size := ⟨_, rfl⟩
  have P0 : Hid (PutAt 60 ob q) := put60 hq.p
  have P1 : Hid (PutAt 64 ob q) := put64
  have P2 : Hid (PutAt 62 ob q) := put62 (by omega)
  have x0 : (putX 60 q).length ≤ 500 := by
    unfold putX; simp
    have := putS_len q.p hq.p; omega
  have x1 : (putX 64 q).length ≤ 500 := by
    unfold putX; simp
  have x2 : (putX 62 q).length ≤ 500 := by
    unfold putX; simp
    have := form_le10 (n := q.s.size) (by omega); have := sb_length q.s; omega
  have HT : Hid (textL q = form 1 ++ [putX 60 q, putX 64 q, putX 62 q].flatten) := by
    show _ = _
    unfold textL
    rw [hk]
    rfl
  have Q0 : Hid (∀ (w : World) (v : Value) (l : List Int), Blk w ob 26 (oc q) → Rd w q.v q.b → Rd w v l → l.length ≤ 2000 → Calls Try.prog 60 #[hv ob, v] w fun e w' => ∃ v', e = .returned v' ∧ Own w.heap.size 5 w' v' (l ++ putX 60 q) ∧ Below w.heap.size w w') := P0.out
  have Q1 : Hid (∀ (w : World) (v : Value) (l : List Int), Blk w ob 26 (oc q) → Rd w q.v q.b → Rd w v l → l.length ≤ 2000 → Calls Try.prog 64 #[hv ob, v] w fun e w' => ∃ v', e = .returned v' ∧ Own w.heap.size 5 w' v' (l ++ putX 64 q) ∧ Below w.heap.size w w') := P1.out
  have Q2 : Hid (∀ (w : World) (v : Value) (l : List Int), Blk w ob 26 (oc q) → Rd w q.v q.b → Rd w v l → l.length ≤ 2000 → Calls Try.prog 62 #[hv ob, v] w fun e w' => ∃ v', e = .returned v' ∧ Own w.heap.size 5 w' v' (l ++ putX 62 q) ∧ Below w.heap.size w w') := P2.out
  clear P0 P1 P2
  generalize putX 60 q = X0 at Q0 x0 HT
  generalize putX 64 q = X1 at Q1 x1 HT
  generalize putX 62 q = X2 at Q2 x2 HT
  have HN : Hid (∀ w', Calls Try.prog 27 #[.slice none 0 0, .int .u64 1] w' fun e w'' => ∃ v', e = .returned v' ∧ Own w'.heap.size 5 w'' v' (form 1) ∧ Below w'.heap.size w' w'') := fun w' => by
    have := num_any (.slice none 0 0) [] 1 w' (rd_nil w') (by simp) (by omega)
    simpa using this
  have HL : Hid (∀ j, (form 1 ++ ([X0, X1, X2].take j).flatten).length ≤ 2000 ) := by
    intro j
    have h0 := form_le10 (n := 1) (by omega)
    match j with
    | 0 => simp; omega
    | 1 => simp; omega
    | 2 => simp; omega
    | j + 3 => simp; omega
  have HPT : Hid (∀ w', Blk w' ob 26 (oc q) → Calls Try.prog 28 #[hv ob] w' fun e w'' => ∃ pb, e = .returned (.slice (some ⟨pb, 0, none⟩) 3 3) ∧ w'.heap.size ≤ pb ∧ Blk w'' pb 58 [mf 60 ob, mf 61 ob, mf 64 ob, mf 65 ob, mf 62 ob, mf 63 ob] ∧ Below w'.heap.size w' w'') := fun w' h => by
    obtain ⟨cs, hcs⟩ := oc_cons q
    rw [hcs, hk] at h
    exact parts28_1 h
  obtain ⟨w1, hw1⟩ : ∃ w1, w1 = w.alloc (.cells (oc q).toArray 26) := ⟨_, rfl⟩
  have HB1 : Hid (Below w.heap.size w w1) := by show Below _ _ _; rw [hw1]; exact balloc (Below.refl _ _) _
  have HX : Hid (∀ w', Below w1.heap.size w1 w' → Blk w' ob 26 (oc q)) := fun w' h => by
    refine Blk.below ?_ h
    rw [hw1, hob]
    exact blk_new w (oc q) 26
  have HD : Hid (∀ w', Below w1.heap.size w1 w' → Rd w' q.v q.b) := fun w' h => hd.below (bnext HB1.out h)
  have HOB : Hid (ob = w.heap.size) := hob
  have HSO : Hid (ob ≤ w1.heap.size) := by show _ ≤ _; rw [hob]; exact HB1.out.size
  rw [← hob] at HB1
  clear hr hd hs hb hq
  obtain ⟨k, ⟨a1, a2⟩, ⟨n1, n2⟩, ⟨p1, p2⟩, d, s, va, vn, vc, b⟩ := q
  dsimp only at hk
  subst hk
  generalize textL _ = TL at HT ⊢
  unfold ov at HR ⊢
  unfold oc at HR HX HPT hw1 ⊢
  unfold oc at Q0 Q1 Q2
  dsimp only at *
  have X1 := HX.out w1 (Below.refl _ _)
  have c0 := X1.cell 0 _ rfl; have c1 := X1.cell 1 _ rfl; have c2 := X1.cell 2 _ rfl; have c3 := X1.cell 3 _ rfl; have c4 := X1.cell 4 _ rfl; have c5 := X1.cell 5 _ rfl; have c6 := X1.cell 6 _ rfl; have c7 := X1.cell 7 _ rfl; have c8 := X1.cell 8 _ rfl; have c9 := X1.cell 9 _ rfl
  clear X1
  go_enter Try.func10, Try.ntmps10
  go_upto_region 1 with fail
  rw [← hw1]
  rw [← hob]
  clear hw1
  clear hob
  unfold OpT.v at HD Q0 Q1 Q2
  dsimp only at HD Q0 Q1 Q2
  go_wp2_with (first
    | (go_at_call 16; go_must (refine (HR.out _).mono ?_; rintro r w2 ⟨rfl, hb2⟩; have HB2 : Hid (Below w1.heap.size w1 w2) := hb2; have y0 := (HX.out w2 HB2.out).cell 0 _ rfl; clear hb2))
    | (go_at_call 27; go_must (refine (HN.out _).mono ?_; rintro r w3 ⟨v3, rfl, ho3, hb3⟩; have HB3 : Hid (Below w1.heap.size w1 w3) := bnext HB2.out hb3; have HO3 : Hid (Own ob 5 w3 v3 (form 1)) := ho3.lower (Nat.le_trans HSO.out HB2.out.size); clear y0 hb3 ho3))
    | (go_at_call 28; go_must (refine (HPT.out _ (HX.out w3 HB3.out)).mono ?_; rintro r w4 ⟨pb, rfl, hpl, hpb, hb4⟩; have HB4 : Hid (Below w1.heap.size w1 w4) := bnext HB3.out hb4; have HO4 : Hid (Own ob 5 w4 v3 (form 1)) := HO3.out.kept (below_grown hb4); have HP4 : Hid (Blk w4 pb 58 [mf 60 ob, mf 61 ob, mf 64 ob, mf 65 ob, mf 62 ob, mf 63 ob]) := hpb; clear hb4 hpl hpb)))
  go_loopw [4, 17] (fun b i wr => ∃ (j : Nat) (v : Value), b = v ∧ i = .int .i64 (j : Int) ∧ j ≤ 3 ∧ Hid (Own ob 5 wr v (form 1 ++ ([X0, X1, X2].take j).flatten)) ∧ Hid (Blk wr pb 58 [mf 60 ob, mf 61 ob, mf 64 ob, mf 65 ob, mf 62 ob, mf 63 ob]) ∧ Hid (Below w1.heap.size w1 wr)) (fun _ i _ => 3 - (intOf i).toNat)
  case atStart => exact ⟨0, v3, rfl, rfl, by omega, by simpa using HO4, HP4, HB4⟩
  case round =>
    obtain ⟨j, v, hv1, rfl, hj, HO, HP, HB⟩ := hrel
    replace hv1 := hv1.symm
    subst hv1
    have hpl := HP.out.lt
    match j, hj, HO with
    | 0, _, HO =>
      have f0 := HP.out.cell 0 _ rfl
      have f1 := HP.out.cell 1 _ rfl
      have HBa : Hid (Below w1.heap.size w1 (wr.alloc (.cells #[mf 60 ob, mf 61 ob] 58))) := (show Below _ _ _ from balloc HB.out _)
      have HVa : Hid (Rd (wr.alloc (.cells #[mf 60 ob, mf 61 ob] 58)) v (form 1 ++ ([X0, X1, X2].take 0).flatten)) := HO.out.rd.below (balloc (Below.refl _ _) _)
      have HPa : Hid (Blk (wr.alloc (.cells #[mf 60 ob, mf 61 ob] 58)) pb 58 [mf 60 ob, mf 61 ob, mf 64 ob, mf 65 ob, mf 62 ob, mf 63 ob]) := HP.out.alloc _
      go_wp2_with (go_at_call 60; go_must (refine (Q0.out _ v _ (HX.out _ HBa.out) (HD.out _ HBa.out) HVa.out (HL.out 0)).mono ?_; rintro r w6 ⟨v6, rfl, ho6, hb6⟩; have HO6 : Hid (Own ob 5 w6 v6 _) := ho6.lower (Nat.le_trans HSO.out HBa.out.size); have HB6 : Hid (Below _ _ w6) := bnext HBa.out hb6; have HP6 : Hid (Blk w6 pb 58 [mf 60 ob, mf 61 ob, mf 64 ob, mf 65 ob, mf 62 ob, mf 63 ob]) := HPa.out.below hb6; clear ho6 hb6))
      go_roundw
      case rel => exact ⟨1, v6, rfl, by go_num, by omega, by simpa using HO6, HP6, HB6⟩
      case measure => simp [intOf] <;> omega
    | 1, _, HO =>
      have f0 := HP.out.cell 2 _ rfl
      have f1 := HP.out.cell 3 _ rfl
      have HBa : Hid (Below w1.heap.size w1 (wr.alloc (.cells #[mf 64 ob, mf 65 ob] 58))) := (show Below _ _ _ from balloc HB.out _)
      have HVa : Hid (Rd (wr.alloc (.cells #[mf 64 ob, mf 65 ob] 58)) v (form 1 ++ ([X0, X1, X2].take 1).flatten)) := HO.out.rd.below (balloc (Below.refl _ _) _)
      have HPa : Hid (Blk (wr.alloc (.cells #[mf 64 ob, mf 65 ob] 58)) pb 58 [mf 60 ob, mf 61 ob, mf 64 ob, mf 65 ob, mf 62 ob, mf 63 ob]) := HP.out.alloc _
      go_wp2_with (go_at_call 64; go_must (refine (Q1.out _ v _ (HX.out _ HBa.out) (HD.out _ HBa.out) HVa.out (HL.out 1)).mono ?_; rintro r w6 ⟨v6, rfl, ho6, hb6⟩; have HO6 : Hid (Own ob 5 w6 v6 _) := ho6.lower (Nat.le_trans HSO.out HBa.out.size); have HB6 : Hid (Below _ _ w6) := bnext HBa.out hb6; have HP6 : Hid (Blk w6 pb 58 [mf 60 ob, mf 61 ob, mf 64 ob, mf 65 ob, mf 62 ob, mf 63 ob]) := HPa.out.below hb6; clear ho6 hb6))
      go_roundw
      case rel => exact ⟨2, v6, rfl, by go_num, by omega, by simpa using HO6, HP6, HB6⟩
      case measure => simp [intOf] <;> omega
    | 2, _, HO =>
      have f0 := HP.out.cell 4 _ rfl
      have f1 := HP.out.cell 5 _ rfl
      have HBa : Hid (Below w1.heap.size w1 (wr.alloc (.cells #[mf 62 ob, mf 63 ob] 58))) := (show Below _ _ _ from balloc HB.out _)
      have HVa : Hid (Rd (wr.alloc (.cells #[mf 62 ob, mf 63 ob] 58)) v (form 1 ++ ([X0, X1, X2].take 2).flatten)) := HO.out.rd.below (balloc (Below.refl _ _) _)
      have HPa : Hid (Blk (wr.alloc (.cells #[mf 62 ob, mf 63 ob] 58)) pb 58 [mf 60 ob, mf 61 ob, mf 64 ob, mf 65 ob, mf 62 ob, mf 63 ob]) := HP.out.alloc _
      go_wp2_with (go_at_call 62; go_must (refine (Q2.out _ v _ (HX.out _ HBa.out) (HD.out _ HBa.out) HVa.out (HL.out 2)).mono ?_; rintro r w6 ⟨v6, rfl, ho6, hb6⟩; have HO6 : Hid (Own ob 5 w6 v6 _) := ho6.lower (Nat.le_trans HSO.out HBa.out.size); have HB6 : Hid (Below _ _ w6) := bnext HBa.out hb6; have HP6 : Hid (Blk w6 pb 58 [mf 60 ob, mf 61 ob, mf 64 ob, mf 65 ob, mf 62 ob, mf 63 ob]) := HPa.out.below hb6; clear ho6 hb6))
      go_roundw
      case rel => exact ⟨3, v6, rfl, by go_num, by omega, by simpa using HO6, HP6, HB6⟩
      case measure => simp [intOf] <;> omega
    | 3, _, HO =>
      go_wp2
      go_ret2
      have e := HOB.out
      subst e
      exact ⟨v, rfl, by rw [HT.out]; exact HO.out, HB1.out.trans (HB.out.mono HSO.out)⟩
    | j + 4, hj, HO => exact absurd hj (by omega)
theorem text10_2 {q : OpT} {w : World} (hq : QOk q) (hd : Rd w q.v q.b) (hk : q.k = 2) (hs : q.s.size ≤ 400) (hb : q.b.length ≤ 400) (hr : rightO q = true) : Calls Try.prog 10 #[ov q] w fun e w' => ∃ v, e = .returned (.tuple #[v, .int .i64 0]) ∧ Own w.heap.size 5 w' v (textL q) ∧ Below w.heap.size w w' := by
  have HR : Hid (∀ w', Calls Try.prog 16 #[ov q] w' fun e w'' => e = .returned (.bool true) ∧ Below w'.heap.size w' w'') := fun w' => by rw [← hr]; exact right16 q w'
  obtain ⟨ob, hob⟩ : ∃ ob, ob = w.heap.size := ⟨_, rfl⟩
  have P0 : Hid (PutAt 58 ob q) := put58 hq.n
  have P1 : Hid (PutAt 60 ob q) := put60 hq.p
  have P2 : Hid (PutAt 62 ob q) := put62 (by omega)
  have x0 : (putX 58 q).length ≤ 500 := by
    unfold putX; simp
    have := putS_len q.n hq.n; omega
  have x1 : (putX 60 q).length ≤ 500 := by
    unfold putX; simp
    have := putS_len q.p hq.p; omega
  have x2 : (putX 62 q).length ≤ 500 := by
    unfold putX; simp
    have := form_le10 (n := q.s.size) (by omega); have := sb_length q.s; omega
  have HT : Hid (textL q = form 2 ++ [putX 58 q, putX 60 q, putX 62 q].flatten) := by
    show _ = _
    unfold textL
    rw [hk]
    rfl
  have Q0 : Hid (∀ (w : World) (v : Value) (l : List Int), Blk w ob 26 (oc q) → Rd w q.v q.b → Rd w v l → l.length ≤ 2000 → Calls Try.prog 58 #[hv ob, v] w fun e w' => ∃ v', e = .returned v' ∧ Own w.heap.size 5 w' v' (l ++ putX 58 q) ∧ Below w.heap.size w w') := P0.out
  have Q1 : Hid (∀ (w : World) (v : Value) (l : List Int), Blk w ob 26 (oc q) → Rd w q.v q.b → Rd w v l → l.length ≤ 2000 → Calls Try.prog 60 #[hv ob, v] w fun e w' => ∃ v', e = .returned v' ∧ Own w.heap.size 5 w' v' (l ++ putX 60 q) ∧ Below w.heap.size w w') := P1.out
  have Q2 : Hid (∀ (w : World) (v : Value) (l : List Int), Blk w ob 26 (oc q) → Rd w q.v q.b → Rd w v l → l.length ≤ 2000 → Calls Try.prog 62 #[hv ob, v] w fun e w' => ∃ v', e = .returned v' ∧ Own w.heap.size 5 w' v' (l ++ putX 62 q) ∧ Below w.heap.size w w') := P2.out
  clear P0 P1 P2
  generalize putX 58 q = X0 at Q0 x0 HT
  generalize putX 60 q = X1 at Q1 x1 HT
  generalize putX 62 q = X2 at Q2 x2 HT
  have HN : Hid (∀ w', Calls Try.prog 27 #[.slice none 0 0, .int .u64 2] w' fun e w'' => ∃ v', e = .returned v' ∧ Own w'.heap.size 5 w'' v' (form 2) ∧ Below w'.heap.size w' w'') := fun w' => by
    have := num_any (.slice none 0 0) [] 2 w' (rd_nil w') (by simp) (by omega)
    simpa using this
  have HL : Hid (∀ j, (form 2 ++ ([X0, X1, X2].take j).flatten).length ≤ 2000 ) := by
    intro j
    have h0 := form_le10 (n := 2) (by omega)
    match j with
    | 0 => simp; omega
    | 1 => simp; omega
    | 2 => simp; omega
    | j + 3 => simp; omega
  have HPT : Hid (∀ w', Blk w' ob 26 (oc q) → Calls Try.prog 28 #[hv ob] w' fun e w'' => ∃ pb, e = .returned (.slice (some ⟨pb, 0, none⟩) 3 3) ∧ w'.heap.size ≤ pb ∧ Blk w'' pb 58 [mf 58 ob, mf 59 ob, mf 60 ob, mf 61 ob, mf 62 ob, mf 63 ob] ∧ Below w'.heap.size w' w'') := fun w' h => by
    obtain ⟨cs, hcs⟩ := oc_cons q
    rw [hcs, hk] at h
    exact parts28_2 h
  obtain ⟨w1, hw1⟩ : ∃ w1, w1 = w.alloc (.cells (oc q).toArray 26) := ⟨_, rfl⟩
  have HB1 : Hid (Below w.heap.size w w1) := by show Below _ _ _; rw [hw1]; exact balloc (Below.refl _ _) _
  have HX : Hid (∀ w', Below w1.heap.size w1 w' → Blk w' ob 26 (oc q)) := fun w' h => by
    refine Blk.below ?_ h
    rw [hw1, hob]
    exact blk_new w (oc q) 26
  have HD : Hid (∀ w', Below w1.heap.size w1 w' → Rd w' q.v q.b) := fun w' h => hd.below (bnext HB1.out h)
  have HOB : Hid (ob = w.heap.size) := hob
  have HSO : Hid (ob ≤ w1.heap.size) := by show _ ≤ _; rw [hob]; exact HB1.out.size
  rw [← hob] at HB1
  clear hr hd hs hb hq
  obtain ⟨k, ⟨a1, a2⟩, ⟨n1, n2⟩, ⟨p1, p2⟩, d, s, va, vn, vc, b⟩ := q
  dsimp only at hk
  subst hk
  generalize textL _ = TL at HT ⊢
  unfold ov at HR ⊢
  unfold oc at HR HX HPT hw1 ⊢
  unfold oc at Q0 Q1 Q2
  dsimp only at *
  have X1 := HX.out w1 (Below.refl _ _)
  have c0 := X1.cell 0 _ rfl; have c1 := X1.cell 1 _ rfl; have c2 := X1.cell 2 _ rfl; have c3 := X1.cell 3 _ rfl; have c4 := X1.cell 4 _ rfl; have c5 := X1.cell 5 _ rfl; have c6 := X1.cell 6 _ rfl; have c7 := X1.cell 7 _ rfl; have c8 := X1.cell 8 _ rfl; have c9 := X1.cell 9 _ rfl
  clear X1
  go_enter Try.func10, Try.ntmps10
  go_upto_region 1 with fail
  rw [← hw1]
  rw [← hob]
  clear hw1
  clear hob
  unfold OpT.v at HD Q0 Q1 Q2
  dsimp only at HD Q0 Q1 Q2
  go_wp2_with (first
    | (go_at_call 16; go_must (refine (HR.out _).mono ?_; rintro r w2 ⟨rfl, hb2⟩; have HB2 : Hid (Below w1.heap.size w1 w2) := hb2; have y0 := (HX.out w2 HB2.out).cell 0 _ rfl; clear hb2))
    | (go_at_call 27; go_must (refine (HN.out _).mono ?_; rintro r w3 ⟨v3, rfl, ho3, hb3⟩; have HB3 : Hid (Below w1.heap.size w1 w3) := bnext HB2.out hb3; have HO3 : Hid (Own ob 5 w3 v3 (form 2)) := ho3.lower (Nat.le_trans HSO.out HB2.out.size); clear y0 hb3 ho3))
    | (go_at_call 28; go_must (refine (HPT.out _ (HX.out w3 HB3.out)).mono ?_; rintro r w4 ⟨pb, rfl, hpl, hpb, hb4⟩; have HB4 : Hid (Below w1.heap.size w1 w4) := bnext HB3.out hb4; have HO4 : Hid (Own ob 5 w4 v3 (form 2)) := HO3.out.kept (below_grown hb4); have HP4 : Hid (Blk w4 pb 58 [mf 58 ob, mf 59 ob, mf 60 ob, mf 61 ob, mf 62 ob, mf 63 ob]) := hpb; clear hb4 hpl hpb)))
  go_loopw [4, 17] (fun b i wr => ∃ (j : Nat) (v : Value), b = v ∧ i = .int .i64 (j : Int) ∧ j ≤ 3 ∧ Hid (Own ob 5 wr v (form 2 ++ ([X0, X1, X2].take j).flatten)) ∧ Hid (Blk wr pb 58 [mf 58 ob, mf 59 ob, mf 60 ob, mf 61 ob, mf 62 ob, mf 63 ob]) ∧ Hid (Below w1.heap.size w1 wr)) (fun _ i _ => 3 - (intOf i).toNat)
  case atStart => exact ⟨0, v3, rfl, rfl, by omega, by simpa using HO4, HP4, HB4⟩
  case round =>
    obtain ⟨j, v, hv1, rfl, hj, HO, HP, HB⟩ := hrel
    replace hv1 := hv1.symm
    subst hv1
    have hpl := HP.out.lt
    match j, hj, HO with
    | 0, _, HO =>
      have f0 := HP.out.cell 0 _ rfl
      have f1 := HP.out.cell 1 _ rfl
      have HBa : Hid (Below w1.heap.size w1 (wr.alloc (.cells #[mf 58 ob, mf 59 ob] 58))) := (show Below _ _ _ from balloc HB.out _)
      have HVa : Hid (Rd (wr.alloc (.cells #[mf 58 ob, mf 59 ob] 58)) v (form 2 ++ ([X0, X1, X2].take 0).flatten)) := HO.out.rd.below (balloc (Below.refl _ _) _)
      have HPa : Hid (Blk (wr.alloc (.cells #[mf 58 ob, mf 59 ob] 58)) pb 58 [mf 58 ob, mf 59 ob, mf 60 ob, mf 61 ob, mf 62 ob, mf 63 ob]) := HP.out.alloc _
      go_wp2_with (go_at_call 58; go_must (refine (Q0.out _ v _ (HX.out _ HBa.out) (HD.out _ HBa.out) HVa.out (HL.out 0)).mono ?_; rintro r w6 ⟨v6, rfl, ho6, hb6⟩; have HO6 : Hid (Own ob 5 w6 v6 _) := ho6.lower (Nat.le_trans HSO.out HBa.out.size); have HB6 : Hid (Below _ _ w6) := bnext HBa.out hb6; have HP6 : Hid (Blk w6 pb 58 [mf 58 ob, mf 59 ob, mf 60 ob, mf 61 ob, mf 62 ob, mf 63 ob]) := HPa.out.below hb6; clear ho6 hb6))
      go_roundw
      case rel => exact ⟨1, v6, rfl, by go_num, by omega, by simpa using HO6, HP6, HB6⟩
      case measure => simp [intOf] <;> omega
    | 1, _, HO =>
      have f0 := HP.out.cell 2 _ rfl
      have f1 := HP.out.cell 3 _ rfl
      have HBa : Hid (Below w1.heap.size w1 (wr.alloc (.cells #[mf 60 ob, mf 61 ob] 58))) := (show Below _ _ _ from balloc HB.out _)
      have HVa : Hid (Rd (wr.alloc (.cells #[mf 60 ob, mf 61 ob] 58)) v (form 2 ++ ([X0, X1, X2].take 1).flatten)) := HO.out.rd.below (balloc (Below.refl _ _) _)
      have HPa : Hid (Blk (wr.alloc (.cells #[mf 60 ob, mf 61 ob] 58)) pb 58 [mf 58 ob, mf 59 ob, mf 60 ob, mf 61 ob, mf 62 ob, mf 63 ob]) := HP.out.alloc _
      go_wp2_with (go_at_call 60; go_must (refine (Q1.out _ v _ (HX.out _ HBa.out) (HD.out _ HBa.out) HVa.out (HL.out 1)).mono ?_; rintro r w6 ⟨v6, rfl, ho6, hb6⟩; have HO6 : Hid (Own ob 5 w6 v6 _) := ho6.lower (Nat.le_trans HSO.out HBa.out.size); have HB6 : Hid (Below _ _ w6) := bnext HBa.out hb6; have HP6 : Hid (Blk w6 pb 58 [mf 58 ob, mf 59 ob, mf 60 ob, mf 61 ob, mf 62 ob, mf 63 ob]) := HPa.out.below hb6; clear ho6 hb6))
      go_roundw
      case rel => exact ⟨2, v6, rfl, by go_num, by omega, by simpa using HO6, HP6, HB6⟩
      case measure => simp [intOf] <;> omega
    | 2, _, HO =>
      have f0 := HP.out.cell 4 _ rfl
      have f1 := HP.out.cell 5 _ rfl
      have HBa : Hid (Below w1.heap.size w1 (wr.alloc (.cells #[mf 62 ob, mf 63 ob] 58))) := (show Below _ _ _ from balloc HB.out _)
      have HVa : Hid (Rd (wr.alloc (.cells #[mf 62 ob, mf 63 ob] 58)) v (form 2 ++ ([X0, X1, X2].take 2).flatten)) := HO.out.rd.below (balloc (Below.refl _ _) _)
      have HPa : Hid (Blk (wr.alloc (.cells #[mf 62 ob, mf 63 ob] 58)) pb 58 [mf 58 ob, mf 59 ob, mf 60 ob, mf 61 ob, mf 62 ob, mf 63 ob]) := HP.out.alloc _
      go_wp2_with (go_at_call 62; go_must (refine (Q2.out _ v _ (HX.out _ HBa.out) (HD.out _ HBa.out) HVa.out (HL.out 2)).mono ?_; rintro r w6 ⟨v6, rfl, ho6, hb6⟩; have HO6 : Hid (Own ob 5 w6 v6 _) := ho6.lower (Nat.le_trans HSO.out HBa.out.size); have HB6 : Hid (Below _ _ w6) := bnext HBa.out hb6; have HP6 : Hid (Blk w6 pb 58 [mf 58 ob, mf 59 ob, mf 60 ob, mf 61 ob, mf 62 ob, mf 63 ob]) := HPa.out.below hb6; clear ho6 hb6))
      go_roundw
      case rel => exact ⟨3, v6, rfl, by go_num, by omega, by simpa using HO6, HP6, HB6⟩
      case measure => simp [intOf] <;> omega
    | 3, _, HO =>
      go_wp2
      go_ret2
      have e := HOB.out
      subst e
      exact ⟨v, rfl, by rw [HT.out]; exact HO.out, HB1.out.trans (HB.out.mono HSO.out)⟩
    | j + 4, hj, HO => exact absurd hj (by omega)
theorem text10_3 {q : OpT} {w : World} (hq : QOk q) (hd : Rd w q.v q.b) (hk : q.k = 3) (hs : q.s.size ≤ 400) (hb : q.b.length ≤ 400) (hr : rightO q = true) : Calls Try.prog 10 #[ov q] w fun e w' => ∃ v, e = .returned (.tuple #[v, .int .i64 0]) ∧ Own w.heap.size 5 w' v (textL q) ∧ Below w.heap.size w w' := by
  have HR : Hid (∀ w', Calls Try.prog 16 #[ov q] w' fun e w'' => e = .returned (.bool true) ∧ Below w'.heap.size w' w'') := fun w' => by rw [← hr]; exact right16 q w'
  obtain ⟨ob, hob⟩ : ∃ ob, ob = w.heap.size := ⟨_, rfl⟩
  have P0 : Hid (PutAt 58 ob q) := put58 hq.n
  have x0 : (putX 58 q).length ≤ 500 := by
    unfold putX; simp
    have := putS_len q.n hq.n; omega
  have HT : Hid (textL q = form 3 ++ [putX 58 q].flatten) := by
    show _ = _
    unfold textL
    rw [hk]
    rfl
  have Q0 : Hid (∀ (w : World) (v : Value) (l : List Int), Blk w ob 26 (oc q) → Rd w q.v q.b → Rd w v l → l.length ≤ 2000 → Calls Try.prog 58 #[hv ob, v] w fun e w' => ∃ v', e = .returned v' ∧ Own w.heap.size 5 w' v' (l ++ putX 58 q) ∧ Below w.heap.size w w') := P0.out
  clear P0
  generalize putX 58 q = X0 at Q0 x0 HT
  have HN : Hid (∀ w', Calls Try.prog 27 #[.slice none 0 0, .int .u64 3] w' fun e w'' => ∃ v', e = .returned v' ∧ Own w'.heap.size 5 w'' v' (form 3) ∧ Below w'.heap.size w' w'') := fun w' => by
    have := num_any (.slice none 0 0) [] 3 w' (rd_nil w') (by simp) (by omega)
    simpa using this
  have HL : Hid (∀ j, (form 3 ++ ([X0].take j).flatten).length ≤ 2000 ) := by
    intro j
    have h0 := form_le10 (n := 3) (by omega)
    match j with
    | 0 => simp; omega
    | j + 1 => simp; omega
  have HPT : Hid (∀ w', Blk w' ob 26 (oc q) → Calls Try.prog 28 #[hv ob] w' fun e w'' => ∃ pb, e = .returned (.slice (some ⟨pb, 0, none⟩) 1 1) ∧ w'.heap.size ≤ pb ∧ Blk w'' pb 58 [mf 58 ob, mf 59 ob] ∧ Below w'.heap.size w' w'') := fun w' h => by
    obtain ⟨cs, hcs⟩ := oc_cons q
    rw [hcs, hk] at h
    exact parts28_3 h
  obtain ⟨w1, hw1⟩ : ∃ w1, w1 = w.alloc (.cells (oc q).toArray 26) := ⟨_, rfl⟩
  have HB1 : Hid (Below w.heap.size w w1) := by show Below _ _ _; rw [hw1]; exact balloc (Below.refl _ _) _
  have HX : Hid (∀ w', Below w1.heap.size w1 w' → Blk w' ob 26 (oc q)) := fun w' h => by
    refine Blk.below ?_ h
    rw [hw1, hob]
    exact blk_new w (oc q) 26
  have HD : Hid (∀ w', Below w1.heap.size w1 w' → Rd w' q.v q.b) := fun w' h => hd.below (bnext HB1.out h)
  have HOB : Hid (ob = w.heap.size) := hob
  have HSO : Hid (ob ≤ w1.heap.size) := by show _ ≤ _; rw [hob]; exact HB1.out.size
  rw [← hob] at HB1
  clear hr hd hs hb hq
  obtain ⟨k, ⟨a1, a2⟩, ⟨n1, n2⟩, ⟨p1, p2⟩, d, s, va, vn, vc, b⟩ := q
  dsimp only at hk
  subst hk
  generalize textL _ = TL at HT ⊢
  unfold ov at HR ⊢
  unfold oc at HR HX HPT hw1 ⊢
  unfold oc at Q0
  dsimp only at *
  have X1 := HX.out w1 (Below.refl _ _)
  have c0 := X1.cell 0 _ rfl; have c1 := X1.cell 1 _ rfl; have c2 := X1.cell 2 _ rfl; have c3 := X1.cell 3 _ rfl; have c4 := X1.cell 4 _ rfl; have c5 := X1.cell 5 _ rfl; have c6 := X1.cell 6 _ rfl; have c7 := X1.cell 7 _ rfl; have c8 := X1.cell 8 _ rfl; have c9 := X1.cell 9 _ rfl
  clear X1
  go_enter Try.func10, Try.ntmps10
  go_upto_region 1 with fail
  rw [← hw1]
  rw [← hob]
  clear hw1
  clear hob
  unfold OpT.v at HD Q0
  dsimp only at HD Q0
  go_wp2_with (first
    | (go_at_call 16; go_must (refine (HR.out _).mono ?_; rintro r w2 ⟨rfl, hb2⟩; have HB2 : Hid (Below w1.heap.size w1 w2) := hb2; have y0 := (HX.out w2 HB2.out).cell 0 _ rfl; clear hb2))
    | (go_at_call 27; go_must (refine (HN.out _).mono ?_; rintro r w3 ⟨v3, rfl, ho3, hb3⟩; have HB3 : Hid (Below w1.heap.size w1 w3) := bnext HB2.out hb3; have HO3 : Hid (Own ob 5 w3 v3 (form 3)) := ho3.lower (Nat.le_trans HSO.out HB2.out.size); clear y0 hb3 ho3))
    | (go_at_call 28; go_must (refine (HPT.out _ (HX.out w3 HB3.out)).mono ?_; rintro r w4 ⟨pb, rfl, hpl, hpb, hb4⟩; have HB4 : Hid (Below w1.heap.size w1 w4) := bnext HB3.out hb4; have HO4 : Hid (Own ob 5 w4 v3 (form 3)) := HO3.out.kept (below_grown hb4); have HP4 : Hid (Blk w4 pb 58 [mf 58 ob, mf 59 ob]) := hpb; clear hb4 hpl hpb)))
  go_loopw [4, 17] (fun b i wr => ∃ (j : Nat) (v : Value), b = v ∧ i = .int .i64 (j : Int) ∧ j ≤ 1 ∧ Hid (Own ob 5 wr v (form 3 ++ ([X0].take j).flatten)) ∧ Hid (Blk wr pb 58 [mf 58 ob, mf 59 ob]) ∧ Hid (Below w1.heap.size w1 wr)) (fun _ i _ => 1 - (intOf i).toNat)
  case atStart => exact ⟨0, v3, rfl, rfl, by omega, by simpa using HO4, HP4, HB4⟩
  case round =>
    obtain ⟨j, v, hv1, rfl, hj, HO, HP, HB⟩ := hrel
    replace hv1 := hv1.symm
    subst hv1
    have hpl := HP.out.lt
    match j, hj, HO with
    | 0, _, HO =>
      have f0 := HP.out.cell 0 _ rfl
      have f1 := HP.out.cell 1 _ rfl
      have HBa : Hid (Below w1.heap.size w1 (wr.alloc (.cells #[mf 58 ob, mf 59 ob] 58))) := (show Below _ _ _ from balloc HB.out _)
      have HVa : Hid (Rd (wr.alloc (.cells #[mf 58 ob, mf 59 ob] 58)) v (form 3 ++ ([X0].take 0).flatten)) := HO.out.rd.below (balloc (Below.refl _ _) _)
      have HPa : Hid (Blk (wr.alloc (.cells #[mf 58 ob, mf 59 ob] 58)) pb 58 [mf 58 ob, mf 59 ob]) := HP.out.alloc _
      go_wp2_with (go_at_call 58; go_must (refine (Q0.out _ v _ (HX.out _ HBa.out) (HD.out _ HBa.out) HVa.out (HL.out 0)).mono ?_; rintro r w6 ⟨v6, rfl, ho6, hb6⟩; have HO6 : Hid (Own ob 5 w6 v6 _) := ho6.lower (Nat.le_trans HSO.out HBa.out.size); have HB6 : Hid (Below _ _ w6) := bnext HBa.out hb6; have HP6 : Hid (Blk w6 pb 58 [mf 58 ob, mf 59 ob]) := HPa.out.below hb6; clear ho6 hb6))
      go_roundw
      case rel => exact ⟨1, v6, rfl, by go_num, by omega, by simpa using HO6, HP6, HB6⟩
      case measure => simp [intOf] <;> omega
    | 1, _, HO =>
      go_wp2
      go_ret2
      have e := HOB.out
      subst e
      exact ⟨v, rfl, by rw [HT.out]; exact HO.out, HB1.out.trans (HB.out.mono HSO.out)⟩
    | j + 2, hj, HO => exact absurd hj (by omega)
theorem text10_4 {q : OpT} {w : World} (hq : QOk q) (hd : Rd w q.v q.b) (hk : q.k = 4) (hs : q.s.size ≤ 400) (hb : q.b.length ≤ 400) (hr : rightO q = true) : Calls Try.prog 10 #[ov q] w fun e w' => ∃ v, e = .returned (.tuple #[v, .int .i64 0]) ∧ Own w.heap.size 5 w' v (textL q) ∧ Below w.heap.size w w' := by
  have HR : Hid (∀ w', Calls Try.prog 16 #[ov q] w' fun e w'' => e = .returned (.bool true) ∧ Below w'.heap.size w' w'') := fun w' => by rw [← hr]; exact right16 q w'
  obtain ⟨ob, hob⟩ : ∃ ob, ob = w.heap.size := ⟨_, rfl⟩
  have P0 : Hid (PutAt 58 ob q) := put58 hq.n
  have P1 : Hid (PutAt 66 ob q) := put66 (by omega)
  have x0 : (putX 58 q).length ≤ 500 := by
    unfold putX; simp
    have := putS_len q.n hq.n; omega
  have x1 : (putX 66 q).length ≤ 500 := by
    unfold putX; simp
    have := form_le10 (n := q.b.length) (by omega); omega
  have HT : Hid (textL q = form 4 ++ [putX 58 q, putX 66 q].flatten) := by
    show _ = _
    unfold textL
    rw [hk]
    rfl
  have Q0 : Hid (∀ (w : World) (v : Value) (l : List Int), Blk w ob 26 (oc q) → Rd w q.v q.b → Rd w v l → l.length ≤ 2000 → Calls Try.prog 58 #[hv ob, v] w fun e w' => ∃ v', e = .returned v' ∧ Own w.heap.size 5 w' v' (l ++ putX 58 q) ∧ Below w.heap.size w w') := P0.out
  have Q1 : Hid (∀ (w : World) (v : Value) (l : List Int), Blk w ob 26 (oc q) → Rd w q.v q.b → Rd w v l → l.length ≤ 2000 → Calls Try.prog 66 #[hv ob, v] w fun e w' => ∃ v', e = .returned v' ∧ Own w.heap.size 5 w' v' (l ++ putX 66 q) ∧ Below w.heap.size w w') := P1.out
  clear P0 P1
  generalize putX 58 q = X0 at Q0 x0 HT
  generalize putX 66 q = X1 at Q1 x1 HT
  have HN : Hid (∀ w', Calls Try.prog 27 #[.slice none 0 0, .int .u64 4] w' fun e w'' => ∃ v', e = .returned v' ∧ Own w'.heap.size 5 w'' v' (form 4) ∧ Below w'.heap.size w' w'') := fun w' => by
    have := num_any (.slice none 0 0) [] 4 w' (rd_nil w') (by simp) (by omega)
    simpa using this
  have HL : Hid (∀ j, (form 4 ++ ([X0, X1].take j).flatten).length ≤ 2000 ) := by
    intro j
    have h0 := form_le10 (n := 4) (by omega)
    match j with
    | 0 => simp; omega
    | 1 => simp; omega
    | j + 2 => simp; omega
  have HPT : Hid (∀ w', Blk w' ob 26 (oc q) → Calls Try.prog 28 #[hv ob] w' fun e w'' => ∃ pb, e = .returned (.slice (some ⟨pb, 0, none⟩) 2 2) ∧ w'.heap.size ≤ pb ∧ Blk w'' pb 58 [mf 58 ob, mf 59 ob, mf 66 ob, mf 67 ob] ∧ Below w'.heap.size w' w'') := fun w' h => by
    obtain ⟨cs, hcs⟩ := oc_cons q
    rw [hcs, hk] at h
    exact parts28_4 h
  obtain ⟨w1, hw1⟩ : ∃ w1, w1 = w.alloc (.cells (oc q).toArray 26) := ⟨_, rfl⟩
  have HB1 : Hid (Below w.heap.size w w1) := by show Below _ _ _; rw [hw1]; exact balloc (Below.refl _ _) _
  have HX : Hid (∀ w', Below w1.heap.size w1 w' → Blk w' ob 26 (oc q)) := fun w' h => by
    refine Blk.below ?_ h
    rw [hw1, hob]
    exact blk_new w (oc q) 26
  have HD : Hid (∀ w', Below w1.heap.size w1 w' → Rd w' q.v q.b) := fun w' h => hd.below (bnext HB1.out h)
  have HOB : Hid (ob = w.heap.size) := hob
  have HSO : Hid (ob ≤ w1.heap.size) := by show _ ≤ _; rw [hob]; exact HB1.out.size
  rw [← hob] at HB1
  clear hr hd hs hb hq
  obtain ⟨k, ⟨a1, a2⟩, ⟨n1, n2⟩, ⟨p1, p2⟩, d, s, va, vn, vc, b⟩ := q
  dsimp only at hk
  subst hk
  generalize textL _ = TL at HT ⊢
  unfold ov at HR ⊢
  unfold oc at HR HX HPT hw1 ⊢
  unfold oc at Q0 Q1
  dsimp only at *
  have X1 := HX.out w1 (Below.refl _ _)
  have c0 := X1.cell 0 _ rfl; have c1 := X1.cell 1 _ rfl; have c2 := X1.cell 2 _ rfl; have c3 := X1.cell 3 _ rfl; have c4 := X1.cell 4 _ rfl; have c5 := X1.cell 5 _ rfl; have c6 := X1.cell 6 _ rfl; have c7 := X1.cell 7 _ rfl; have c8 := X1.cell 8 _ rfl; have c9 := X1.cell 9 _ rfl
  clear X1
  go_enter Try.func10, Try.ntmps10
  go_upto_region 1 with fail
  rw [← hw1]
  rw [← hob]
  clear hw1
  clear hob
  unfold OpT.v at HD Q0 Q1
  dsimp only at HD Q0 Q1
  go_wp2_with (first
    | (go_at_call 16; go_must (refine (HR.out _).mono ?_; rintro r w2 ⟨rfl, hb2⟩; have HB2 : Hid (Below w1.heap.size w1 w2) := hb2; have y0 := (HX.out w2 HB2.out).cell 0 _ rfl; clear hb2))
    | (go_at_call 27; go_must (refine (HN.out _).mono ?_; rintro r w3 ⟨v3, rfl, ho3, hb3⟩; have HB3 : Hid (Below w1.heap.size w1 w3) := bnext HB2.out hb3; have HO3 : Hid (Own ob 5 w3 v3 (form 4)) := ho3.lower (Nat.le_trans HSO.out HB2.out.size); clear y0 hb3 ho3))
    | (go_at_call 28; go_must (refine (HPT.out _ (HX.out w3 HB3.out)).mono ?_; rintro r w4 ⟨pb, rfl, hpl, hpb, hb4⟩; have HB4 : Hid (Below w1.heap.size w1 w4) := bnext HB3.out hb4; have HO4 : Hid (Own ob 5 w4 v3 (form 4)) := HO3.out.kept (below_grown hb4); have HP4 : Hid (Blk w4 pb 58 [mf 58 ob, mf 59 ob, mf 66 ob, mf 67 ob]) := hpb; clear hb4 hpl hpb)))
  go_loopw [4, 17] (fun b i wr => ∃ (j : Nat) (v : Value), b = v ∧ i = .int .i64 (j : Int) ∧ j ≤ 2 ∧ Hid (Own ob 5 wr v (form 4 ++ ([X0, X1].take j).flatten)) ∧ Hid (Blk wr pb 58 [mf 58 ob, mf 59 ob, mf 66 ob, mf 67 ob]) ∧ Hid (Below w1.heap.size w1 wr)) (fun _ i _ => 2 - (intOf i).toNat)
  case atStart => exact ⟨0, v3, rfl, rfl, by omega, by simpa using HO4, HP4, HB4⟩
  case round =>
    obtain ⟨j, v, hv1, rfl, hj, HO, HP, HB⟩ := hrel
    replace hv1 := hv1.symm
    subst hv1
    have hpl := HP.out.lt
    match j, hj, HO with
    | 0, _, HO =>
      have f0 := HP.out.cell 0 _ rfl
      have f1 := HP.out.cell 1 _ rfl
      have HBa : Hid (Below w1.heap.size w1 (wr.alloc (.cells #[mf 58 ob, mf 59 ob] 58))) := (show Below _ _ _ from balloc HB.out _)
      have HVa : Hid (Rd (wr.alloc (.cells #[mf 58 ob, mf 59 ob] 58)) v (form 4 ++ ([X0, X1].take 0).flatten)) := HO.out.rd.below (balloc (Below.refl _ _) _)
      have HPa : Hid (Blk (wr.alloc (.cells #[mf 58 ob, mf 59 ob] 58)) pb 58 [mf 58 ob, mf 59 ob, mf 66 ob, mf 67 ob]) := HP.out.alloc _
      go_wp2_with (go_at_call 58; go_must (refine (Q0.out _ v _ (HX.out _ HBa.out) (HD.out _ HBa.out) HVa.out (HL.out 0)).mono ?_; rintro r w6 ⟨v6, rfl, ho6, hb6⟩; have HO6 : Hid (Own ob 5 w6 v6 _) := ho6.lower (Nat.le_trans HSO.out HBa.out.size); have HB6 : Hid (Below _ _ w6) := bnext HBa.out hb6; have HP6 : Hid (Blk w6 pb 58 [mf 58 ob, mf 59 ob, mf 66 ob, mf 67 ob]) := HPa.out.below hb6; clear ho6 hb6))
      go_roundw
      case rel => exact ⟨1, v6, rfl, by go_num, by omega, by simpa using HO6, HP6, HB6⟩
      case measure => simp [intOf] <;> omega
    | 1, _, HO =>
      have f0 := HP.out.cell 2 _ rfl
      have f1 := HP.out.cell 3 _ rfl
      have HBa : Hid (Below w1.heap.size w1 (wr.alloc (.cells #[mf 66 ob, mf 67 ob] 58))) := (show Below _ _ _ from balloc HB.out _)
      have HVa : Hid (Rd (wr.alloc (.cells #[mf 66 ob, mf 67 ob] 58)) v (form 4 ++ ([X0, X1].take 1).flatten)) := HO.out.rd.below (balloc (Below.refl _ _) _)
      have HPa : Hid (Blk (wr.alloc (.cells #[mf 66 ob, mf 67 ob] 58)) pb 58 [mf 58 ob, mf 59 ob, mf 66 ob, mf 67 ob]) := HP.out.alloc _
      go_wp2_with (go_at_call 66; go_must (refine (Q1.out _ v _ (HX.out _ HBa.out) (HD.out _ HBa.out) HVa.out (HL.out 1)).mono ?_; rintro r w6 ⟨v6, rfl, ho6, hb6⟩; have HO6 : Hid (Own ob 5 w6 v6 _) := ho6.lower (Nat.le_trans HSO.out HBa.out.size); have HB6 : Hid (Below _ _ w6) := bnext HBa.out hb6; have HP6 : Hid (Blk w6 pb 58 [mf 58 ob, mf 59 ob, mf 66 ob, mf 67 ob]) := HPa.out.below hb6; clear ho6 hb6))
      go_roundw
      case rel => exact ⟨2, v6, rfl, by go_num, by omega, by simpa using HO6, HP6, HB6⟩
      case measure => simp [intOf] <;> omega
    | 2, _, HO =>
      go_wp2
      go_ret2
      have e := HOB.out
      subst e
      exact ⟨v, rfl, by rw [HT.out]; exact HO.out, HB1.out.trans (HB.out.mono HSO.out)⟩
    | j + 3, hj, HO => exact absurd hj (by omega)
end Go.Proofs.Ytcchokedfbogfaa
