/-
  Entries that are looked for: the method values holds and isBehind, slices.IndexFunc over them.
-/
import Derived.Test.YtigfklcclfpcjaaQueue
namespace Go.Proofs.Ytigfklcclfpcjaa
set_option linter.unusedVariables false
set_option linter.unusedSimpArgs false
set_option synthInstance.maxSize 20000
set_option maxHeartbeats 2000000
set_option maxRecDepth 20000
open Go.RowKit Go.Maps

/-- e stands at b of a's log. -/
def atB (a b : Int) (e : Ent) : Bool := decide (e.w = a ∧ e.i = b)
/-- e stands ahead of b in a's log. -/
def earlyB (a b : Int) (e : Ent) : Bool := decide (e.w = a ∧ e.i < b)

theorem behind_any (w : World) (a b : Int) (e : Ent) (x : Value) (hx : Rd w x e.b) : Calls Try.prog 36 #[.agg #[.int .i64 a, .int .i64 b], ev e x] w fun r w' => r = .returned (.bool (earlyB a b e)) ∧ Below w.heap.size w w' := by
  obtain ⟨ax, cap, rfl⟩ := hx.len
  obtain ⟨ew, ei, ep, et, eu, en, eb, eg⟩ := e
  unfold ev earlyB
  dsimp only at *
  clear hx
  generalize eb.length = nl
  by_cases c1 : ew = a
  · subst c1
    go_enter Try.func36, Try.ntmps36
    go_wp2
    all_goals
      go_ret
      refine ⟨ret_bool ?_, balloc (balloc (Below.refl _ _) _) _⟩
      simp
  · have c2 : (ew == a) = false := by simpa using c1
    rw [decide_eq_false (fun h => c1 h.1)]
    clear c1
    go_enter Try.func36, Try.ntmps36
    go_wp2
    go_ret
    exact ⟨rfl, balloc (balloc (Below.refl _ _) _) _⟩

theorem holds_any (w : World) (a b : Int) (e : Ent) (x : Value) (hx : Rd w x e.b) : Calls Try.prog 34 #[.agg #[.int .i64 a, .int .i64 b], ev e x] w fun r w' => r = .returned (.bool (atB a b e)) ∧ Below w.heap.size w w' := by
  have PL := fun w' (h : Rd w' x e.b) => placeOf_any w' e x h
  have HX : Hid (Rd w x e.b) := hx
  obtain ⟨ax, cap, rfl⟩ := hx.len
  obtain ⟨ew, ei, ep, et, eu, en, eb, eg⟩ := e
  unfold ev atB at *
  dsimp only at *
  clear hx
  have HPL : Hid (∀ w', Rd w' (.slice ax eb.length cap) eb → Calls Try.prog 43 #[.agg #[.int .i64 ew, .int .i64 ei, .int .u64 ep, .int .i64 et, .int .i64 eu, .int .i64 en, .slice ax eb.length cap, .int .u64 eg]] w' fun r w'' => r = .returned (.agg #[.int .i64 ew, .int .i64 ei]) ∧ Below w'.heap.size w' w'') := PL
  clear PL
  have HPB : Hid (decide (ew = a ∧ ei = b) = true ↔ ew = a ∧ ei = b) := (decide_eq_true_iff : _ ↔ _)
  generalize decide (ew = a ∧ ei = b) = pb at HPB ⊢
  obtain ⟨w1, hw1⟩ : ∃ w1, w1 = (w.alloc (.cells #[.int .i64 a, .int .i64 b] 67)).alloc (.cells #[.int .i64 ew, .int .i64 ei, .int .u64 ep, .int .i64 et, .int .i64 eu, .int .i64 en, .slice ax eb.length cap, .int .u64 eg] 38) := ⟨_, rfl⟩
  have HB1 : Hid (Below w.heap.size w w1) := by show Below _ _ _; rw [hw1]; exact balloc (balloc (Below.refl _ _) _) _
  have X1 : Blk w1 w.heap.size 67 [.int .i64 a, .int .i64 b] := by rw [hw1]; exact (blk_new w [.int .i64 a, .int .i64 b] 67).alloc _
  have X2 : Blk w1 (w.heap.size + 1) 38 [.int .i64 ew, .int .i64 ei, .int .u64 ep, .int .i64 et, .int .i64 eu, .int .i64 en, .slice ax eb.length cap, .int .u64 eg] := by
    rw [hw1]
    have := blk_new (w.alloc (.cells #[.int .i64 a, .int .i64 b] 67)) [.int .i64 ew, .int .i64 ei, .int .u64 ep, .int .i64 et, .int .i64 eu, .int .i64 en, .slice ax eb.length cap, .int .u64 eg] 38
    simpa using this
  have HX1 : Hid (Blk w1 w.heap.size 67 [.int .i64 a, .int .i64 b]) := X1
  have HX2 : Hid (Blk w1 (w.heap.size + 1) 38 [.int .i64 ew, .int .i64 ei, .int .u64 ep, .int .i64 et, .int .i64 eu, .int .i64 en, .slice ax eb.length cap, .int .u64 eg]) := X2
  clear X1 X2
  go_enter Try.func34, Try.ntmps34
  go_upto_region 1 with fail
  rw [← hw1]
  generalize w.heap.size = sz at HX1 HX2 ⊢
  clear hw1
  have k0 := fun z : WIn (fun w' => Below w1.heap.size w1 w') => (HX1.out.below z.ok).cell 0 _ rfl
  have k1 := fun z : WIn (fun w' => Below w1.heap.size w1 w') => (HX1.out.below z.ok).cell 1 _ rfl
  have c0 := fun z : WIn (fun w' => Below w1.heap.size w1 w') => (HX2.out.below z.ok).cell 0 _ rfl
  have c1 := fun z : WIn (fun w' => Below w1.heap.size w1 w') => (HX2.out.below z.ok).cell 1 _ rfl
  have c2 := fun z : WIn (fun w' => Below w1.heap.size w1 w') => (HX2.out.below z.ok).cell 2 _ rfl
  have c3 := fun z : WIn (fun w' => Below w1.heap.size w1 w') => (HX2.out.below z.ok).cell 3 _ rfl
  have c4 := fun z : WIn (fun w' => Below w1.heap.size w1 w') => (HX2.out.below z.ok).cell 4 _ rfl
  have c5 := fun z : WIn (fun w' => Below w1.heap.size w1 w') => (HX2.out.below z.ok).cell 5 _ rfl
  have c6 := fun z : WIn (fun w' => Below w1.heap.size w1 w') => (HX2.out.below z.ok).cell 6 _ rfl
  have c7 := fun z : WIn (fun w' => Below w1.heap.size w1 w') => (HX2.out.below z.ok).cell 7 _ rfl
  have ne : Nonempty (WIn (fun w' => Below w1.heap.size w1 w')) := ⟨⟨w1, Below.refl _ _⟩⟩
  refine wp_region_ord (C := fun w' => ∃ z : WIn (fun w' => Below w1.heap.size w1 w'), w' = z.w) [(false, 0), (false, 2), (true, 1), (false, 3), (false, 4)] (by kernel_rfl) (by kernel_rfl) ⟨⟨w1.drew, (Below.refl _ _).drew⟩, rfl⟩ ?_
  iterate 2 (refine ord_still rfl rfl ?_; go_big_quiet_step (fail); refine wpQuiet_nil ?_)
  refine ord_mem rfl rfl ?_
  go_simp
  refine (HPL.out w1.drew (HX.out.below HB1.out).drew).mono ?_
  rintro r w2 ⟨rfl, hb2⟩
  have HB2 : Hid (Below w1.heap.size w1 w2) := below_undrew hb2
  clear hb2
  refine ⟨⟨⟨w2, HB2.out⟩, rfl⟩, ?_⟩
  by_cases c1 : ew = a
  · by_cases c2 : ei = b
    · subst c1 c2
      refine ord_still rfl rfl ?_
      go_big_quiet_step (fail)
      refine wpQuiet_nil ?_
      refine ord_still rfl rfl ?_
      go_big_quiet_step (fail)
      refine wpQuiet_nil ?_
      refine ord_end ?_
      go_wp2
      go_ret
      exact ⟨ret_bool (by rw [HPB.out]; simp), bnext HB1.out HB2.out⟩
    · have c3 : (ei == b) = false := by simpa using c2
      have HC2 : Hid (¬ ei = b) := c2
      subst c1
      clear c2
      refine ord_still rfl rfl ?_
      go_big_quiet_step (fail)
      refine wpQuiet_nil ?_
      refine ord_still rfl rfl ?_
      go_big_quiet_step (fail)
      refine wpQuiet_nil ?_
      refine ord_end ?_
      go_wp2
      go_ret
      exact ⟨ret_bool (by rw [HPB.out]; simp [HC2.out]), bnext HB1.out HB2.out⟩
  · have c3 : (ew == a) = false := by simpa using c1
    have HC1 : Hid (¬ ew = a) := c1
    clear c1
    refine ord_still rfl rfl ?_
    go_big_quiet_step (fail)
    refine wpQuiet_nil ?_
    refine ord_still rfl rfl ?_
    go_big_quiet_step (fail)
    refine wpQuiet_nil ?_
    refine ord_end ?_
    go_wp2
    go_ret
    exact ⟨ret_bool (by rw [HPB.out]; simp [HC1.out]), bnext HB1.out HB2.out⟩

theorem idxAt_hit {w : World} {v : Value} {ps : List (Ent × Value)} (hv : RowE w v ps) (hE : ∀ q ∈ ps, Rd w q.2 q.1.b) (a b : Int) {i : Nat} {q : Ent × Value} (hi : ps[i]? = some q) (hq : atB a b q.1 = true) (hb : ∀ k p, k < i → ps[k]? = some p → atB a b p.1 = false) :
    Calls Try.prog 48 #[v, .func (.func 34) #[.agg #[.int .i64 a, .int .i64 b]] #[]] w fun r w' => r = .returned (.int .i64 (i : Int)) ∧ Below w.heap.size w w' := by
  have hil : i < ps.length := (List.getElem?_eq_some_iff.1 hi).1
  obtain ⟨av, cap, rfl⟩ := hv.len
  have hcap := hv.cap
  have HV : Hid (RowE w (.slice av ps.length cap) ps) := hv
  have HE : Hid (∀ q ∈ ps, Rd w q.2 q.1.b) := hE
  have HIi : Hid (ps[i]? = some q) := hi
  have HQ : Hid (atB a b q.1 = true) := hq
  have HBf : Hid (∀ k p, k < i → ps[k]? = some p → atB a b p.1 = false) := hb
  clear hv hE hi hq hb
  go_enter Try.func48, Try.ntmps48
  go_wp2
  go_loopw [8] (fun n wr => ∃ k : Nat, n = .int .i64 k ∧ k ≤ i ∧ Hid (Below w.heap.size w wr)) (fun n _ => ps.length - (intOf n).toNat)
  case atStart => exact ⟨0, rfl, by omega, (show Below _ _ _ from Below.refl _ _)⟩
  case round =>
    obtain ⟨k, rfl, hk, HB⟩ := hrel
    obtain ⟨p, hp⟩ : ∃ p, ps[k]? = some p := ⟨_, List.getElem?_eq_getElem (by omega)⟩
    obtain ⟨g, off, ea, hc⟩ := (HV.out.below HB.out).at hp
    subst ea
    have HX : Hid (Rd wr p.2 p.1.b) := (show Rd _ _ _ from (HE.out p (List.mem_of_getElem? hp)).below HB.out)
    have CL := holds_any wr a b p.1 p.2 HX.out
    have HNo : Hid (k < i → atB a b p.1 = false) := fun h => HBf.out k p h hp
    have HYes : Hid (k = i → atB a b p.1 = true) := fun h => by
      subst h
      have := HIi.out
      rw [hp] at this
      cases this
      exact HQ.out
    generalize atB a b p.1 = pb at *
    obtain ⟨e, x⟩ := p
    dsimp only at *
    obtain ⟨ax, cx, hxx⟩ := HX.out.len
    subst hxx
    obtain ⟨ew, ei, ep, et, eu, en, eb, eg⟩ := e
    unfold ec at hc
    unfold ev at CL
    dsimp only at *
    have HCL : Hid (Calls Try.prog 34 #[.agg #[.int .i64 a, .int .i64 b], .agg #[.int .i64 ew, .int .i64 ei, .int .u64 ep, .int .i64 et, .int .i64 eu, .int .i64 en, .slice ax eb.length cx, .int .u64 eg]] wr fun r w' => r = .returned (.bool pb) ∧ Below wr.heap.size wr w') := CL
    have c0 := hc 0 _ rfl; have c1 := hc 1 _ rfl; have c2 := hc 2 _ rfl; have c3 := hc 3 _ rfl; have c4 := hc 4 _ rfl; have c5 := hc 5 _ rfl; have c6 := hc 6 _ rfl; have c7 := hc 7 _ rfl
    simp only [Nat.add_zero] at c0
    clear hc CL hp
    by_cases hki : k < i
    · have hpb := HNo.out hki
      subst hpb
      go_wp2_with (go_at_call 34; go_must (refine HCL.out.mono ?_; rintro r w2 ⟨rfl, hb2⟩))
      go_roundw
      case rel => exact ⟨k + 1, by go_num, by omega, (show Below _ _ _ from bnext HB.out hb2)⟩
      case measure => simp [intOf]; omega
    · have hki' : k = i := by omega
      subst hki'
      have hpb := HYes.out rfl
      subst hpb
      go_wp2_with (go_at_call 34; go_must (refine HCL.out.mono ?_; rintro r w2 ⟨rfl, hb2⟩))
      go_ret
      exact ⟨rfl, bnext HB.out hb2⟩

theorem idxAt_none {w : World} {v : Value} {ps : List (Ent × Value)} (hv : RowE w v ps) (hE : ∀ q ∈ ps, Rd w q.2 q.1.b) (a b : Int) (hb : ∀ q ∈ ps, atB a b q.1 = false) :
    Calls Try.prog 48 #[v, .func (.func 34) #[.agg #[.int .i64 a, .int .i64 b]] #[]] w fun r w' => r = .returned (.int .i64 (-1)) ∧ Below w.heap.size w w' := by
  obtain ⟨av, cap, rfl⟩ := hv.len
  have hcap := hv.cap
  have HV : Hid (RowE w (.slice av ps.length cap) ps) := hv
  have HE : Hid (∀ q ∈ ps, Rd w q.2 q.1.b) := hE
  have HBf : Hid (∀ q ∈ ps, atB a b q.1 = false) := hb
  clear hv hE hb
  go_enter Try.func48, Try.ntmps48
  go_wp2
  go_loopw [8] (fun n wr => ∃ k : Nat, n = .int .i64 k ∧ k ≤ ps.length ∧ Hid (Below w.heap.size w wr)) (fun n _ => ps.length - (intOf n).toNat)
  case atStart => exact ⟨0, rfl, by omega, (show Below _ _ _ from Below.refl _ _)⟩
  case round =>
    obtain ⟨k, rfl, hk, HB⟩ := hrel
    by_cases hki : k < ps.length
    · obtain ⟨p, hp⟩ : ∃ p, ps[k]? = some p := ⟨_, List.getElem?_eq_getElem (by omega)⟩
      obtain ⟨g, off, ea, hc⟩ := (HV.out.below HB.out).at hp
      subst ea
      have HX : Hid (Rd wr p.2 p.1.b) := (show Rd _ _ _ from (HE.out p (List.mem_of_getElem? hp)).below HB.out)
      have CL := holds_any wr a b p.1 p.2 HX.out
      rw [HBf.out p (List.mem_of_getElem? hp)] at CL
      obtain ⟨e, x⟩ := p
      dsimp only at *
      obtain ⟨ax, cx, hxx⟩ := HX.out.len
      subst hxx
      obtain ⟨ew, ei, ep, et, eu, en, eb, eg⟩ := e
      unfold ec at hc
      unfold ev at CL
      dsimp only at *
      have HCL : Hid (Calls Try.prog 34 #[.agg #[.int .i64 a, .int .i64 b], .agg #[.int .i64 ew, .int .i64 ei, .int .u64 ep, .int .i64 et, .int .i64 eu, .int .i64 en, .slice ax eb.length cx, .int .u64 eg]] wr fun r w' => r = .returned (.bool false) ∧ Below wr.heap.size wr w') := CL
      have c0 := hc 0 _ rfl; have c1 := hc 1 _ rfl; have c2 := hc 2 _ rfl; have c3 := hc 3 _ rfl; have c4 := hc 4 _ rfl; have c5 := hc 5 _ rfl; have c6 := hc 6 _ rfl; have c7 := hc 7 _ rfl
      simp only [Nat.add_zero] at c0
      clear hc CL hp
      go_wp2_with (go_at_call 34; go_must (refine HCL.out.mono ?_; rintro r w2 ⟨rfl, hb2⟩))
      go_roundw
      case rel => exact ⟨k + 1, by go_num, by omega, (show Below _ _ _ from bnext HB.out hb2)⟩
      case measure => simp [intOf]; omega
    · obtain rfl : k = ps.length := by omega
      go_wp2
      go_ret
      exact ⟨rfl, HB.out⟩

theorem idxEarly_hit {w : World} {v : Value} {ps : List (Ent × Value)} (hv : RowE w v ps) (hE : ∀ q ∈ ps, Rd w q.2 q.1.b) (a b : Int) {i : Nat} {q : Ent × Value} (hi : ps[i]? = some q) (hq : earlyB a b q.1 = true) (hb : ∀ k p, k < i → ps[k]? = some p → earlyB a b p.1 = false) :
    Calls Try.prog 48 #[v, .func (.func 36) #[.agg #[.int .i64 a, .int .i64 b]] #[]] w fun r w' => r = .returned (.int .i64 (i : Int)) ∧ Below w.heap.size w w' := by
  have hil : i < ps.length := (List.getElem?_eq_some_iff.1 hi).1
  obtain ⟨av, cap, rfl⟩ := hv.len
  have hcap := hv.cap
  have HV : Hid (RowE w (.slice av ps.length cap) ps) := hv
  have HE : Hid (∀ q ∈ ps, Rd w q.2 q.1.b) := hE
  have HIi : Hid (ps[i]? = some q) := hi
  have HQ : Hid (earlyB a b q.1 = true) := hq
  have HBf : Hid (∀ k p, k < i → ps[k]? = some p → earlyB a b p.1 = false) := hb
  clear hv hE hi hq hb
  go_enter Try.func48, Try.ntmps48
  go_wp2
  go_loopw [8] (fun n wr => ∃ k : Nat, n = .int .i64 k ∧ k ≤ i ∧ Hid (Below w.heap.size w wr)) (fun n _ => ps.length - (intOf n).toNat)
  case atStart => exact ⟨0, rfl, by omega, (show Below _ _ _ from Below.refl _ _)⟩
  case round =>
    obtain ⟨k, rfl, hk, HB⟩ := hrel
    obtain ⟨p, hp⟩ : ∃ p, ps[k]? = some p := ⟨_, List.getElem?_eq_getElem (by omega)⟩
    obtain ⟨g, off, ea, hc⟩ := (HV.out.below HB.out).at hp
    subst ea
    have HX : Hid (Rd wr p.2 p.1.b) := (show Rd _ _ _ from (HE.out p (List.mem_of_getElem? hp)).below HB.out)
    have CL := behind_any wr a b p.1 p.2 HX.out
    have HNo : Hid (k < i → earlyB a b p.1 = false) := fun h => HBf.out k p h hp
    have HYes : Hid (k = i → earlyB a b p.1 = true) := fun h => by
      subst h
      have := HIi.out
      rw [hp] at this
      cases this
      exact HQ.out
    generalize earlyB a b p.1 = pb at *
    obtain ⟨e, x⟩ := p
    dsimp only at *
    obtain ⟨ax, cx, hxx⟩ := HX.out.len
    subst hxx
    obtain ⟨ew, ei, ep, et, eu, en, eb, eg⟩ := e
    unfold ec at hc
    unfold ev at CL
    dsimp only at *
    have HCL : Hid (Calls Try.prog 36 #[.agg #[.int .i64 a, .int .i64 b], .agg #[.int .i64 ew, .int .i64 ei, .int .u64 ep, .int .i64 et, .int .i64 eu, .int .i64 en, .slice ax eb.length cx, .int .u64 eg]] wr fun r w' => r = .returned (.bool pb) ∧ Below wr.heap.size wr w') := CL
    have c0 := hc 0 _ rfl; have c1 := hc 1 _ rfl; have c2 := hc 2 _ rfl; have c3 := hc 3 _ rfl; have c4 := hc 4 _ rfl; have c5 := hc 5 _ rfl; have c6 := hc 6 _ rfl; have c7 := hc 7 _ rfl
    simp only [Nat.add_zero] at c0
    clear hc CL hp
    by_cases hki : k < i
    · have hpb := HNo.out hki
      subst hpb
      go_wp2_with (go_at_call 36; go_must (refine HCL.out.mono ?_; rintro r w2 ⟨rfl, hb2⟩))
      go_roundw
      case rel => exact ⟨k + 1, by go_num, by omega, (show Below _ _ _ from bnext HB.out hb2)⟩
      case measure => simp [intOf]; omega
    · have hki' : k = i := by omega
      subst hki'
      have hpb := HYes.out rfl
      subst hpb
      go_wp2_with (go_at_call 36; go_must (refine HCL.out.mono ?_; rintro r w2 ⟨rfl, hb2⟩))
      go_ret
      exact ⟨rfl, bnext HB.out hb2⟩

theorem idxEarly_none {w : World} {v : Value} {ps : List (Ent × Value)} (hv : RowE w v ps) (hE : ∀ q ∈ ps, Rd w q.2 q.1.b) (a b : Int) (hb : ∀ q ∈ ps, earlyB a b q.1 = false) :
    Calls Try.prog 48 #[v, .func (.func 36) #[.agg #[.int .i64 a, .int .i64 b]] #[]] w fun r w' => r = .returned (.int .i64 (-1)) ∧ Below w.heap.size w w' := by
  obtain ⟨av, cap, rfl⟩ := hv.len
  have hcap := hv.cap
  have HV : Hid (RowE w (.slice av ps.length cap) ps) := hv
  have HE : Hid (∀ q ∈ ps, Rd w q.2 q.1.b) := hE
  have HBf : Hid (∀ q ∈ ps, earlyB a b q.1 = false) := hb
  clear hv hE hb
  go_enter Try.func48, Try.ntmps48
  go_wp2
  go_loopw [8] (fun n wr => ∃ k : Nat, n = .int .i64 k ∧ k ≤ ps.length ∧ Hid (Below w.heap.size w wr)) (fun n _ => ps.length - (intOf n).toNat)
  case atStart => exact ⟨0, rfl, by omega, (show Below _ _ _ from Below.refl _ _)⟩
  case round =>
    obtain ⟨k, rfl, hk, HB⟩ := hrel
    by_cases hki : k < ps.length
    · obtain ⟨p, hp⟩ : ∃ p, ps[k]? = some p := ⟨_, List.getElem?_eq_getElem (by omega)⟩
      obtain ⟨g, off, ea, hc⟩ := (HV.out.below HB.out).at hp
      subst ea
      have HX : Hid (Rd wr p.2 p.1.b) := (show Rd _ _ _ from (HE.out p (List.mem_of_getElem? hp)).below HB.out)
      have CL := behind_any wr a b p.1 p.2 HX.out
      rw [HBf.out p (List.mem_of_getElem? hp)] at CL
      obtain ⟨e, x⟩ := p
      dsimp only at *
      obtain ⟨ax, cx, hxx⟩ := HX.out.len
      subst hxx
      obtain ⟨ew, ei, ep, et, eu, en, eb, eg⟩ := e
      unfold ec at hc
      unfold ev at CL
      dsimp only at *
      have HCL : Hid (Calls Try.prog 36 #[.agg #[.int .i64 a, .int .i64 b], .agg #[.int .i64 ew, .int .i64 ei, .int .u64 ep, .int .i64 et, .int .i64 eu, .int .i64 en, .slice ax eb.length cx, .int .u64 eg]] wr fun r w' => r = .returned (.bool false) ∧ Below wr.heap.size wr w') := CL
      have c0 := hc 0 _ rfl; have c1 := hc 1 _ rfl; have c2 := hc 2 _ rfl; have c3 := hc 3 _ rfl; have c4 := hc 4 _ rfl; have c5 := hc 5 _ rfl; have c6 := hc 6 _ rfl; have c7 := hc 7 _ rfl
      simp only [Nat.add_zero] at c0
      clear hc CL hp
      go_wp2_with (go_at_call 36; go_must (refine HCL.out.mono ?_; rintro r w2 ⟨rfl, hb2⟩))
      go_roundw
      case rel => exact ⟨k + 1, by go_num, by omega, (show Below _ _ _ from bnext HB.out hb2)⟩
      case measure => simp [intOf]; omega
    · obtain rfl : k = ps.length := by omega
      go_wp2
      go_ret
      exact ⟨rfl, HB.out⟩

/-- The first one of a list that is wanted. -/
theorem first_of {P : Ent → Bool} {ps : List (Ent × Value)} (h : ∃ q ∈ ps, P q.1 = true) : ∃ (i : Nat) (q : Ent × Value), ps[i]? = some q ∧ P q.1 = true ∧ ∀ k p, k < i → ps[k]? = some p → P p.1 = false := by
  induction ps with
  | nil => obtain ⟨q, hq, _⟩ := h; cases hq
  | cons x ps ih =>
    by_cases hx : P x.1 = true
    · exact ⟨0, x, rfl, hx, fun k p hk => by omega⟩
    · obtain ⟨q, hq, hp⟩ := h
      have hq' : q ∈ ps := by
        rcases List.mem_cons.1 hq with r | r
        · subst r; exact absurd hp hx
        · exact r
      obtain ⟨i, r, h1, h2, h3⟩ := ih ⟨q, hq', hp⟩
      refine ⟨i + 1, r, by simpa using h1, h2, fun k p hk hp => ?_⟩
      cases k with
      | zero =>
        simp at hp
        subst hp
        simpa using hx
      | succ k => exact h3 k p (by omega) (by simpa using hp)
end Go.Proofs.Ytigfklcclfpcjaa
