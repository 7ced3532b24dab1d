/-
  What an operation's text is made of: the parts, and what each puts.
-/
import Derived.Test.YtcchokedfbogfaaRgt
import Derived.Laws.EntriesVeiled
namespace Go.Proofs.Ytcchokedfbogfaa
set_option linter.unusedVariables false
set_option linter.unusedSimpArgs false
set_option synthInstance.maxSize 20000
set_option maxHeartbeats 2000000
set_option maxRecDepth 20000
open Go.RowKit Go.Maps

/-- The hand of the operation in block ob. -/
abbrev hv (ob : Nat) : Value := .agg #[ptr ob]
abbrev mf (f ob : Nat) : Value := .func (.func f) #[hv ob] #[]
structure QOk (q : OpT) : Prop where
  k : I64 q.k
  a : SOk q.a
  n : SOk q.n
  p : SOk q.p
/-- What part f puts. -/
def putX (f : Nat) (q : OpT) : List Int := if f = 58 then putS q.n else if f = 60 then putS q.p else if f = 62 then form q.s.size ++ sb q.s else if f = 64 then [if q.d then 1 else 0] else form q.b.length ++ q.b
def PutAt (f ob : Nat) (q : OpT) : Prop := ∀ (w : World) (v : Value) (l : List Int), Blk w ob 26 (oc q) → Rd w q.v q.b → Rd w v l → l.length ≤ 2000 → Calls Try.prog f #[hv ob, v] w fun e w' => ∃ v', e = .returned v' ∧ Own w.heap.size 5 w' v' (l ++ putX f q) ∧ Below w.heap.size w w'
theorem put58 {ob : Nat} {q : OpT} (hs : SOk q.n) : PutAt 58 ob q := by
  intro w v l hB hq hv hl
  have HX : Hid (putX 58 q = putS q.n) := by show _ = _; unfold putX; simp
  generalize putX 58 q = X at HX ⊢
  have HV : Hid (Rd w v l) := hv
  have HQ : Hid (Rd w q.v q.b) := hq
  have HS : Hid (SOk q.n) := hs
  have HC : Hid (∀ w', Below w.heap.size w w' → Calls Try.prog 79 #[v, sv q.n] w' fun e w'' => ∃ v', e = .returned v' ∧ Own w'.heap.size 5 w'' v' (l ++ putS q.n) ∧ Below w'.heap.size w' w'') := fun w' hb => sput_any v l q.n w' (HV.out.below hb) (by omega) HS.out
  clear hs
  have hlt := hB.lt
  have hne : ¬ ob = w.heap.size := by omega
  obtain ⟨k, ⟨a1, a2⟩, ⟨n1, n2⟩, ⟨p1, p2⟩, d, s, va, vn, vc, b⟩ := q
  unfold oc at hB
  unfold OpT.v at HC hq HQ
  unfold sv at HC
  dsimp only at HC hB hq HQ
  have c0 := hB.cell 0 _ rfl
  have c1 := hB.cell 1 _ rfl
  have c2 := hB.cell 2 _ rfl
  have c3 := hB.cell 3 _ rfl
  have c4 := hB.cell 4 _ rfl
  have c5 := hB.cell 5 _ rfl
  have c6 := hB.cell 6 _ rfl
  have c7 := hB.cell 7 _ rfl
  have c8 := hB.cell 8 _ rfl
  have c9 := hB.cell 9 _ rfl
  have HB0 : Hid (Below w.heap.size w (w.alloc (.cells #[ptr ob] 53))) := (show Below _ _ _ from balloc (Below.refl _ _) _)
  clear hB hv hq hl
  go_enter Try.func58, Try.ntmps58
  go_wp2_with (go_at_call 79; go_must (refine (HC.out _ HB0.out).mono ?_; rintro r w2 ⟨v2, rfl, ho2, hb2⟩; have HO : Hid (Own _ 5 w2 v2 _) := ho2; have HB2 : Hid (Below _ _ w2) := hb2; clear ho2 hb2))
  go_ret
  refine ⟨_, rfl, ?_, bnext HB0.out HB2.out⟩
  rw [HX.out]
  have := HO.out.lower (B' := w.heap.size) HB0.out.size
  simpa [List.append_assoc] using this
theorem put60 {ob : Nat} {q : OpT} (hs : SOk q.p) : PutAt 60 ob q := by
  intro w v l hB hq hv hl
  have HX : Hid (putX 60 q = putS q.p) := by show _ = _; unfold putX; simp
  generalize putX 60 q = X at HX ⊢
  have HV : Hid (Rd w v l) := hv
  have HQ : Hid (Rd w q.v q.b) := hq
  have HS : Hid (SOk q.p) := hs
  have HC : Hid (∀ w', Below w.heap.size w w' → Calls Try.prog 79 #[v, sv q.p] w' fun e w'' => ∃ v', e = .returned v' ∧ Own w'.heap.size 5 w'' v' (l ++ putS q.p) ∧ Below w'.heap.size w' w'') := fun w' hb => sput_any v l q.p w' (HV.out.below hb) (by omega) HS.out
  clear hs
  have hlt := hB.lt
  have hne : ¬ ob = w.heap.size := by omega
  obtain ⟨k, ⟨a1, a2⟩, ⟨n1, n2⟩, ⟨p1, p2⟩, d, s, va, vn, vc, b⟩ := q
  unfold oc at hB
  unfold OpT.v at HC hq HQ
  unfold sv at HC
  dsimp only at HC hB hq HQ
  have c0 := hB.cell 0 _ rfl
  have c1 := hB.cell 1 _ rfl
  have c2 := hB.cell 2 _ rfl
  have c3 := hB.cell 3 _ rfl
  have c4 := hB.cell 4 _ rfl
  have c5 := hB.cell 5 _ rfl
  have c6 := hB.cell 6 _ rfl
  have c7 := hB.cell 7 _ rfl
  have c8 := hB.cell 8 _ rfl
  have c9 := hB.cell 9 _ rfl
  have HB0 : Hid (Below w.heap.size w (w.alloc (.cells #[ptr ob] 53))) := (show Below _ _ _ from balloc (Below.refl _ _) _)
  clear hB hv hq hl
  go_enter Try.func60, Try.ntmps60
  go_wp2_with (go_at_call 79; go_must (refine (HC.out _ HB0.out).mono ?_; rintro r w2 ⟨v2, rfl, ho2, hb2⟩; have HO : Hid (Own _ 5 w2 v2 _) := ho2; have HB2 : Hid (Below _ _ w2) := hb2; clear ho2 hb2))
  go_ret
  refine ⟨_, rfl, ?_, bnext HB0.out HB2.out⟩
  rw [HX.out]
  have := HO.out.lower (B' := w.heap.size) HB0.out.size
  simpa [List.append_assoc] using this
theorem put62 {ob : Nat} {q : OpT} (hz : q.s.size ≤ 1000) : PutAt 62 ob q := by
  intro w v l hB hq hv hl
  have HX : Hid (putX 62 q = form q.s.size ++ sb q.s) := by show _ = _; unfold putX; simp
  generalize putX 62 q = X at HX ⊢
  have HV : Hid (Rd w v l) := hv
  have HQ : Hid (Rd w q.v q.b) := hq
  have HZ : Hid (q.s.size ≤ 1000) := hz
  have HC : Hid (∀ w', Below w.heap.size w w' → Calls Try.prog 81 #[v, .string q.s] w' fun e w'' => ∃ v', e = .returned v' ∧ Own w'.heap.size 5 w'' v' (l ++ form q.s.size ++ sb q.s) ∧ Below w'.heap.size w' w'') := fun w' hb => text_any v q.s l w' (HV.out.below hb) (by omega) (by have := HZ.out; omega)
  clear hz
  have hlt := hB.lt
  have hne : ¬ ob = w.heap.size := by omega
  obtain ⟨k, ⟨a1, a2⟩, ⟨n1, n2⟩, ⟨p1, p2⟩, d, s, va, vn, vc, b⟩ := q
  unfold oc at hB
  unfold OpT.v at HC hq HQ
  dsimp only at HC hB hq HQ
  have c0 := hB.cell 0 _ rfl
  have c1 := hB.cell 1 _ rfl
  have c2 := hB.cell 2 _ rfl
  have c3 := hB.cell 3 _ rfl
  have c4 := hB.cell 4 _ rfl
  have c5 := hB.cell 5 _ rfl
  have c6 := hB.cell 6 _ rfl
  have c7 := hB.cell 7 _ rfl
  have c8 := hB.cell 8 _ rfl
  have c9 := hB.cell 9 _ rfl
  have HB0 : Hid (Below w.heap.size w (w.alloc (.cells #[ptr ob] 53))) := (show Below _ _ _ from balloc (Below.refl _ _) _)
  clear hB hv hq hl
  go_enter Try.func62, Try.ntmps62
  go_wp2_with (go_at_call 81; go_must (refine (HC.out _ HB0.out).mono ?_; rintro r w2 ⟨v2, rfl, ho2, hb2⟩; have HO : Hid (Own _ 5 w2 v2 _) := ho2; have HB2 : Hid (Below _ _ w2) := hb2; clear ho2 hb2))
  go_ret
  refine ⟨_, rfl, ?_, bnext HB0.out HB2.out⟩
  rw [HX.out]
  have := HO.out.lower (B' := w.heap.size) HB0.out.size
  simpa [List.append_assoc] using this
theorem put64 {ob : Nat} {q : OpT} : PutAt 64 ob q := by
  intro w v l hB hq hv hl
  have HX : Hid (putX 64 q = [if q.d then 1 else 0]) := by show _ = _; unfold putX; simp
  generalize putX 64 q = X at HX ⊢
  have HV : Hid (Rd w v l) := hv
  have HQ : Hid (Rd w q.v q.b) := hq
  have HC : Hid (∀ w', Below w.heap.size w w' → Calls Try.prog 83 #[v, .bool q.d] w' fun e w'' => ∃ v', e = .returned v' ∧ Own w'.heap.size 5 w'' v' (l ++ [if q.d then 1 else 0]) ∧ Below w'.heap.size w' w'') := fun w' hb => bool_any v l q.d w' (HV.out.below hb) (by omega)
  have hlt := hB.lt
  have hne : ¬ ob = w.heap.size := by omega
  obtain ⟨k, ⟨a1, a2⟩, ⟨n1, n2⟩, ⟨p1, p2⟩, d, s, va, vn, vc, b⟩ := q
  unfold oc at hB
  unfold OpT.v at HC hq HQ
  dsimp only at HC hB hq HQ
  have c0 := hB.cell 0 _ rfl
  have c1 := hB.cell 1 _ rfl
  have c2 := hB.cell 2 _ rfl
  have c3 := hB.cell 3 _ rfl
  have c4 := hB.cell 4 _ rfl
  have c5 := hB.cell 5 _ rfl
  have c6 := hB.cell 6 _ rfl
  have c7 := hB.cell 7 _ rfl
  have c8 := hB.cell 8 _ rfl
  have c9 := hB.cell 9 _ rfl
  have HB0 : Hid (Below w.heap.size w (w.alloc (.cells #[ptr ob] 53))) := (show Below _ _ _ from balloc (Below.refl _ _) _)
  clear hB hv hq hl
  go_enter Try.func64, Try.ntmps64
  go_wp2_with (go_at_call 83; go_must (refine (HC.out _ HB0.out).mono ?_; rintro r w2 ⟨v2, rfl, ho2, hb2⟩; have HO : Hid (Own _ 5 w2 v2 _) := ho2; have HB2 : Hid (Below _ _ w2) := hb2; clear ho2 hb2))
  go_ret
  refine ⟨_, rfl, ?_, bnext HB0.out HB2.out⟩
  rw [HX.out]
  have := HO.out.lower (B' := w.heap.size) HB0.out.size
  simpa [List.append_assoc] using this
theorem put66 {ob : Nat} {q : OpT} (hz : q.b.length ≤ 1000) : PutAt 66 ob q := by
  intro w v l hB hq hv hl
  have HX : Hid (putX 66 q = form q.b.length ++ q.b) := by show _ = _; unfold putX; simp
  generalize putX 66 q = X at HX ⊢
  have HV : Hid (Rd w v l) := hv
  have HQ : Hid (Rd w q.v q.b) := hq
  have HZ : Hid (q.b.length ≤ 1000) := hz
  have HC : Hid (∀ w', Below w.heap.size w w' → Calls Try.prog 85 #[v, q.v] w' fun e w'' => ∃ v', e = .returned v' ∧ Own w'.heap.size 5 w'' v' (l ++ form q.b.length ++ q.b) ∧ Below w'.heap.size w' w'') := fun w' hb => bytes_any v q.v l q.b w' (HV.out.below hb) (HQ.out.below hb) (by omega) (by have := HZ.out; omega)
  clear hz
  have hlt := hB.lt
  have hne : ¬ ob = w.heap.size := by omega
  obtain ⟨k, ⟨a1, a2⟩, ⟨n1, n2⟩, ⟨p1, p2⟩, d, s, va, vn, vc, b⟩ := q
  unfold oc at hB
  unfold OpT.v at HC hq HQ
  dsimp only at HC hB hq HQ
  have c0 := hB.cell 0 _ rfl
  have c1 := hB.cell 1 _ rfl
  have c2 := hB.cell 2 _ rfl
  have c3 := hB.cell 3 _ rfl
  have c4 := hB.cell 4 _ rfl
  have c5 := hB.cell 5 _ rfl
  have c6 := hB.cell 6 _ rfl
  have c7 := hB.cell 7 _ rfl
  have c8 := hB.cell 8 _ rfl
  have c9 := hB.cell 9 _ rfl
  have HB0 : Hid (Below w.heap.size w (w.alloc (.cells #[ptr ob] 53))) := (show Below _ _ _ from balloc (Below.refl _ _) _)
  clear hB hv hq hl
  go_enter Try.func66, Try.ntmps66
  go_wp2_with (go_at_call 85; go_must (refine (HC.out _ HB0.out).mono ?_; rintro r w2 ⟨v2, rfl, ho2, hb2⟩; have HO : Hid (Own _ 5 w2 v2 _) := ho2; have HB2 : Hid (Below _ _ w2) := hb2; clear ho2 hb2))
  go_ret
  refine ⟨_, rfl, ?_, bnext HB0.out HB2.out⟩
  rw [HX.out]
  have := HO.out.lower (B' := w.heap.size) HB0.out.size
  simpa [List.append_assoc] using this
theorem parts28_1 {w : World} {ob : Nat} {cs : List Value} (hB : Blk w ob 26 (.int .i64 1 :: cs)) : Calls Try.prog 28 #[hv ob] w fun e w' => ∃ pb, e = .returned (.slice (some ⟨pb, 0, none⟩) 3 3) ∧ w.heap.size ≤ pb ∧ Blk w' pb 58 [mf 60 ob, mf 61 ob, mf 64 ob, mf 65 ob, mf 62 ob, mf 63 ob] ∧ Below w.heap.size w w' := by
  have hlt := hB.lt
  have hne : ¬ ob = w.heap.size := by omega
  obtain ⟨w4, hw4⟩ : ∃ w4, w4 = ((((w.alloc (.cells #[ptr ob] 53)).alloc (.cells #[mf 58 ob, mf 59 ob] 58)).alloc (.cells #[mf 60 ob, mf 61 ob] 58)).alloc (.cells #[mf 62 ob, mf 63 ob] 58)) := ⟨_, rfl⟩
  have HB4 : Hid (Below w.heap.size w w4) := by show Below _ _ _; rw [hw4]; exact balloc (balloc (balloc (balloc (Below.refl _ _) _) _) _) _
  have c0 : w4.cell? ⟨ob, 0, none⟩ = some (.int .i64 1) := (hB.below HB4.out).cell 0 _ rfl
  have d0 : Blk w4 w.heap.size 53 [ptr ob] := by rw [hw4]; exact (((blk_new w _ 53).alloc _).alloc _).alloc _
  have d1 : Blk w4 (w.heap.size + 1) 58 [mf 58 ob, mf 59 ob] := by
    rw [hw4]
    have := ((blk_new (w.alloc (.cells #[ptr ob] 53)) [mf 58 ob, mf 59 ob] 58).alloc (.cells #[mf 60 ob, mf 61 ob] 58)).alloc (.cells #[mf 62 ob, mf 63 ob] 58)
    simpa using this
  have d2 : Blk w4 (w.heap.size + 1 + 1) 58 [mf 60 ob, mf 61 ob] := by
    rw [hw4]
    have := (blk_new ((w.alloc (.cells #[ptr ob] 53)).alloc (.cells #[mf 58 ob, mf 59 ob] 58)) [mf 60 ob, mf 61 ob] 58).alloc (.cells #[mf 62 ob, mf 63 ob] 58)
    simpa using this
  have d3 : Blk w4 (w.heap.size + 1 + 1 + 1) 58 [mf 62 ob, mf 63 ob] := by
    rw [hw4]
    have := blk_new (((w.alloc (.cells #[ptr ob] 53)).alloc (.cells #[mf 58 ob, mf 59 ob] 58)).alloc (.cells #[mf 60 ob, mf 61 ob] 58)) [mf 62 ob, mf 63 ob] 58
    simpa using this
  have e0 := d0.cell 0 _ rfl
  have e1 := d1.cell 0 _ rfl; have e2 := d1.cell 1 _ rfl
  have e3 := d2.cell 0 _ rfl; have e4 := d2.cell 1 _ rfl
  have e5 := d3.cell 0 _ rfl; have e6 := d3.cell 1 _ rfl
  have l0 := d0.lt; have l1 := d1.lt; have l2 := d2.lt; have l3 := d3.lt
  have HSZ : Hid (w.heap.size ≤ w4.heap.size) := HB4.out.size
  have lo : ob < w4.heap.size := Nat.lt_of_lt_of_le hlt HB4.out.size
  clear hB d0 d1 d2 d3
  go_enter Try.func28, Try.ntmps28
  go_upto_region 4 with fail
  rw [← hw4]
  clear hw4

  go_wp2
  go_ret
  exact ⟨_, rfl, HSZ.out, blk_new _ _ 58, bnext HB4.out (balloc (Below.refl _ _) _)⟩
theorem parts28_2 {w : World} {ob : Nat} {cs : List Value} (hB : Blk w ob 26 (.int .i64 2 :: cs)) : Calls Try.prog 28 #[hv ob] w fun e w' => ∃ pb, e = .returned (.slice (some ⟨pb, 0, none⟩) 3 3) ∧ w.heap.size ≤ pb ∧ Blk w' pb 58 [mf 58 ob, mf 59 ob, mf 60 ob, mf 61 ob, mf 62 ob, mf 63 ob] ∧ Below w.heap.size w w' := by
  have hlt := hB.lt
  have hne : ¬ ob = w.heap.size := by omega
  obtain ⟨w4, hw4⟩ : ∃ w4, w4 = ((((w.alloc (.cells #[ptr ob] 53)).alloc (.cells #[mf 58 ob, mf 59 ob] 58)).alloc (.cells #[mf 60 ob, mf 61 ob] 58)).alloc (.cells #[mf 62 ob, mf 63 ob] 58)) := ⟨_, rfl⟩
  have HB4 : Hid (Below w.heap.size w w4) := by show Below _ _ _; rw [hw4]; exact balloc (balloc (balloc (balloc (Below.refl _ _) _) _) _) _
  have c0 : w4.cell? ⟨ob, 0, none⟩ = some (.int .i64 2) := (hB.below HB4.out).cell 0 _ rfl
  have d0 : Blk w4 w.heap.size 53 [ptr ob] := by rw [hw4]; exact (((blk_new w _ 53).alloc _).alloc _).alloc _
  have d1 : Blk w4 (w.heap.size + 1) 58 [mf 58 ob, mf 59 ob] := by
    rw [hw4]
    have := ((blk_new (w.alloc (.cells #[ptr ob] 53)) [mf 58 ob, mf 59 ob] 58).alloc (.cells #[mf 60 ob, mf 61 ob] 58)).alloc (.cells #[mf 62 ob, mf 63 ob] 58)
    simpa using this
  have d2 : Blk w4 (w.heap.size + 1 + 1) 58 [mf 60 ob, mf 61 ob] := by
    rw [hw4]
    have := (blk_new ((w.alloc (.cells #[ptr ob] 53)).alloc (.cells #[mf 58 ob, mf 59 ob] 58)) [mf 60 ob, mf 61 ob] 58).alloc (.cells #[mf 62 ob, mf 63 ob] 58)
    simpa using this
  have d3 : Blk w4 (w.heap.size + 1 + 1 + 1) 58 [mf 62 ob, mf 63 ob] := by
    rw [hw4]
    have := blk_new (((w.alloc (.cells #[ptr ob] 53)).alloc (.cells #[mf 58 ob, mf 59 ob] 58)).alloc (.cells #[mf 60 ob, mf 61 ob] 58)) [mf 62 ob, mf 63 ob] 58
    simpa using this
  have e0 := d0.cell 0 _ rfl
  have e1 := d1.cell 0 _ rfl; have e2 := d1.cell 1 _ rfl
  have e3 := d2.cell 0 _ rfl; have e4 := d2.cell 1 _ rfl
  have e5 := d3.cell 0 _ rfl; have e6 := d3.cell 1 _ rfl
  have l0 := d0.lt; have l1 := d1.lt; have l2 := d2.lt; have l3 := d3.lt
  have HSZ : Hid (w.heap.size ≤ w4.heap.size) := HB4.out.size
  have lo : ob < w4.heap.size := Nat.lt_of_lt_of_le hlt HB4.out.size
  clear hB d0 d1 d2 d3
  go_enter Try.func28, Try.ntmps28
  go_upto_region 4 with fail
  rw [← hw4]
  clear hw4

  go_wp2
  go_ret
  exact ⟨_, rfl, HSZ.out, blk_new _ _ 58, bnext HB4.out (balloc (Below.refl _ _) _)⟩
theorem parts28_3 {w : World} {ob : Nat} {cs : List Value} (hB : Blk w ob 26 (.int .i64 3 :: cs)) : Calls Try.prog 28 #[hv ob] w fun e w' => ∃ pb, e = .returned (.slice (some ⟨pb, 0, none⟩) 1 1) ∧ w.heap.size ≤ pb ∧ Blk w' pb 58 [mf 58 ob, mf 59 ob] ∧ Below w.heap.size w w' := by
  have hlt := hB.lt
  have hne : ¬ ob = w.heap.size := by omega
  obtain ⟨w4, hw4⟩ : ∃ w4, w4 = ((((w.alloc (.cells #[ptr ob] 53)).alloc (.cells #[mf 58 ob, mf 59 ob] 58)).alloc (.cells #[mf 60 ob, mf 61 ob] 58)).alloc (.cells #[mf 62 ob, mf 63 ob] 58)) := ⟨_, rfl⟩
  have HB4 : Hid (Below w.heap.size w w4) := by show Below _ _ _; rw [hw4]; exact balloc (balloc (balloc (balloc (Below.refl _ _) _) _) _) _
  have c0 : w4.cell? ⟨ob, 0, none⟩ = some (.int .i64 3) := (hB.below HB4.out).cell 0 _ rfl
  have d0 : Blk w4 w.heap.size 53 [ptr ob] := by rw [hw4]; exact (((blk_new w _ 53).alloc _).alloc _).alloc _
  have d1 : Blk w4 (w.heap.size + 1) 58 [mf 58 ob, mf 59 ob] := by
    rw [hw4]
    have := ((blk_new (w.alloc (.cells #[ptr ob] 53)) [mf 58 ob, mf 59 ob] 58).alloc (.cells #[mf 60 ob, mf 61 ob] 58)).alloc (.cells #[mf 62 ob, mf 63 ob] 58)
    simpa using this
  have d2 : Blk w4 (w.heap.size + 1 + 1) 58 [mf 60 ob, mf 61 ob] := by
    rw [hw4]
    have := (blk_new ((w.alloc (.cells #[ptr ob] 53)).alloc (.cells #[mf 58 ob, mf 59 ob] 58)) [mf 60 ob, mf 61 ob] 58).alloc (.cells #[mf 62 ob, mf 63 ob] 58)
    simpa using this
  have d3 : Blk w4 (w.heap.size + 1 + 1 + 1) 58 [mf 62 ob, mf 63 ob] := by
    rw [hw4]
    have := blk_new (((w.alloc (.cells #[ptr ob] 53)).alloc (.cells #[mf 58 ob, mf 59 ob] 58)).alloc (.cells #[mf 60 ob, mf 61 ob] 58)) [mf 62 ob, mf 63 ob] 58
    simpa using this
  have e0 := d0.cell 0 _ rfl
  have e1 := d1.cell 0 _ rfl; have e2 := d1.cell 1 _ rfl
  have e3 := d2.cell 0 _ rfl; have e4 := d2.cell 1 _ rfl
  have e5 := d3.cell 0 _ rfl; have e6 := d3.cell 1 _ rfl
  have l0 := d0.lt; have l1 := d1.lt; have l2 := d2.lt; have l3 := d3.lt
  have HSZ : Hid (w.heap.size ≤ w4.heap.size) := HB4.out.size
  have lo : ob < w4.heap.size := Nat.lt_of_lt_of_le hlt HB4.out.size
  clear hB d0 d1 d2 d3
  go_enter Try.func28, Try.ntmps28
  go_upto_region 4 with fail
  rw [← hw4]
  clear hw4

  go_wp2
  go_ret
  exact ⟨_, rfl, HSZ.out, blk_new _ _ 58, bnext HB4.out (balloc (Below.refl _ _) _)⟩
theorem parts28_4 {w : World} {ob : Nat} {cs : List Value} (hB : Blk w ob 26 (.int .i64 4 :: cs)) : Calls Try.prog 28 #[hv ob] w fun e w' => ∃ pb, e = .returned (.slice (some ⟨pb, 0, none⟩) 2 2) ∧ w.heap.size ≤ pb ∧ Blk w' pb 58 [mf 58 ob, mf 59 ob, mf 66 ob, mf 67 ob] ∧ Below w.heap.size w w' := by
  have hlt := hB.lt
  have hne : ¬ ob = w.heap.size := by omega
  obtain ⟨w4, hw4⟩ : ∃ w4, w4 = ((((w.alloc (.cells #[ptr ob] 53)).alloc (.cells #[mf 58 ob, mf 59 ob] 58)).alloc (.cells #[mf 60 ob, mf 61 ob] 58)).alloc (.cells #[mf 62 ob, mf 63 ob] 58)) := ⟨_, rfl⟩
  have HB4 : Hid (Below w.heap.size w w4) := by show Below _ _ _; rw [hw4]; exact balloc (balloc (balloc (balloc (Below.refl _ _) _) _) _) _
  have c0 : w4.cell? ⟨ob, 0, none⟩ = some (.int .i64 4) := (hB.below HB4.out).cell 0 _ rfl
  have d0 : Blk w4 w.heap.size 53 [ptr ob] := by rw [hw4]; exact (((blk_new w _ 53).alloc _).alloc _).alloc _
  have d1 : Blk w4 (w.heap.size + 1) 58 [mf 58 ob, mf 59 ob] := by
    rw [hw4]
    have := ((blk_new (w.alloc (.cells #[ptr ob] 53)) [mf 58 ob, mf 59 ob] 58).alloc (.cells #[mf 60 ob, mf 61 ob] 58)).alloc (.cells #[mf 62 ob, mf 63 ob] 58)
    simpa using this
  have d2 : Blk w4 (w.heap.size + 1 + 1) 58 [mf 60 ob, mf 61 ob] := by
    rw [hw4]
    have := (blk_new ((w.alloc (.cells #[ptr ob] 53)).alloc (.cells #[mf 58 ob, mf 59 ob] 58)) [mf 60 ob, mf 61 ob] 58).alloc (.cells #[mf 62 ob, mf 63 ob] 58)
    simpa using this
  have d3 : Blk w4 (w.heap.size + 1 + 1 + 1) 58 [mf 62 ob, mf 63 ob] := by
    rw [hw4]
    have := blk_new (((w.alloc (.cells #[ptr ob] 53)).alloc (.cells #[mf 58 ob, mf 59 ob] 58)).alloc (.cells #[mf 60 ob, mf 61 ob] 58)) [mf 62 ob, mf 63 ob] 58
    simpa using this
  have e0 := d0.cell 0 _ rfl
  have e1 := d1.cell 0 _ rfl; have e2 := d1.cell 1 _ rfl
  have e3 := d2.cell 0 _ rfl; have e4 := d2.cell 1 _ rfl
  have e5 := d3.cell 0 _ rfl; have e6 := d3.cell 1 _ rfl
  have l0 := d0.lt; have l1 := d1.lt; have l2 := d2.lt; have l3 := d3.lt
  have HSZ : Hid (w.heap.size ≤ w4.heap.size) := HB4.out.size
  have lo : ob < w4.heap.size := Nat.lt_of_lt_of_le hlt HB4.out.size
  clear hB d0 d1 d2 d3
  go_enter Try.func28, Try.ntmps28
  go_upto_region 4 with fail
  rw [← hw4]
  clear hw4

  go_wp2
  go_ret
  exact ⟨_, rfl, HSZ.out, blk_new _ _ 58, bnext HB4.out (balloc (Below.refl _ _) _)⟩
theorem parts28_0 {w : World} {ob : Nat} {k : Int} {cs : List Value} (hB : Blk w ob 26 (.int .i64 k :: cs)) (h1 : k ≠ 1) (h2 : k ≠ 2) (h3 : k ≠ 3) (h4 : k ≠ 4) : Calls Try.prog 28 #[hv ob] w fun e w' => e = .returned (.slice none 0 0) ∧ Below w.heap.size w w' := by
  have hlt := hB.lt
  have hne : ¬ ob = w.heap.size := by omega
  have k1 : (k == 1) = false := by simp [h1]
  have k2 : (k == 2) = false := by simp [h2]
  have k3 : (k == 3) = false := by simp [h3]
  have k4 : (k == 4) = false := by simp [h4]
  obtain ⟨w4, hw4⟩ : ∃ w4, w4 = ((((w.alloc (.cells #[ptr ob] 53)).alloc (.cells #[mf 58 ob, mf 59 ob] 58)).alloc (.cells #[mf 60 ob, mf 61 ob] 58)).alloc (.cells #[mf 62 ob, mf 63 ob] 58)) := ⟨_, rfl⟩
  have HB4 : Hid (Below w.heap.size w w4) := by show Below _ _ _; rw [hw4]; exact balloc (balloc (balloc (balloc (Below.refl _ _) _) _) _) _
  have c0 : w4.cell? ⟨ob, 0, none⟩ = some (.int .i64 k) := (hB.below HB4.out).cell 0 _ rfl
  have d0 : Blk w4 w.heap.size 53 [ptr ob] := by rw [hw4]; exact (((blk_new w _ 53).alloc _).alloc _).alloc _
  have d1 : Blk w4 (w.heap.size + 1) 58 [mf 58 ob, mf 59 ob] := by
    rw [hw4]
    have := ((blk_new (w.alloc (.cells #[ptr ob] 53)) [mf 58 ob, mf 59 ob] 58).alloc (.cells #[mf 60 ob, mf 61 ob] 58)).alloc (.cells #[mf 62 ob, mf 63 ob] 58)
    simpa using this
  have d2 : Blk w4 (w.heap.size + 1 + 1) 58 [mf 60 ob, mf 61 ob] := by
    rw [hw4]
    have := (blk_new ((w.alloc (.cells #[ptr ob] 53)).alloc (.cells #[mf 58 ob, mf 59 ob] 58)) [mf 60 ob, mf 61 ob] 58).alloc (.cells #[mf 62 ob, mf 63 ob] 58)
    simpa using this
  have d3 : Blk w4 (w.heap.size + 1 + 1 + 1) 58 [mf 62 ob, mf 63 ob] := by
    rw [hw4]
    have := blk_new (((w.alloc (.cells #[ptr ob] 53)).alloc (.cells #[mf 58 ob, mf 59 ob] 58)).alloc (.cells #[mf 60 ob, mf 61 ob] 58)) [mf 62 ob, mf 63 ob] 58
    simpa using this
  have e0 := d0.cell 0 _ rfl
  have e1 := d1.cell 0 _ rfl; have e2 := d1.cell 1 _ rfl
  have e3 := d2.cell 0 _ rfl; have e4 := d2.cell 1 _ rfl
  have e5 := d3.cell 0 _ rfl; have e6 := d3.cell 1 _ rfl
  have l0 := d0.lt; have l1 := d1.lt; have l2 := d2.lt; have l3 := d3.lt
  have HSZ : Hid (w.heap.size ≤ w4.heap.size) := HB4.out.size
  have lo : ob < w4.heap.size := Nat.lt_of_lt_of_le hlt HB4.out.size
  clear hB d0 d1 d2 d3
  go_enter Try.func28, Try.ntmps28
  go_upto_region 4 with fail
  rw [← hw4]
  clear hw4

  go_wp2
  go_ret
  exact ⟨rfl, HB4.out⟩
end Go.Proofs.Ytcchokedfbogfaa
