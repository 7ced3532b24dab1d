/-
  container/heap over a queue: down.
-/
import Derived.Test.YtigfklcclfpcjaaHeap
namespace Go.Proofs.Ytigfklcclfpcjaa
set_option linter.unusedVariables false
set_option linter.unusedSimpArgs false
set_option synthInstance.maxSize 20000
set_option maxHeartbeats 2000000
set_option maxRecDepth 20000
open Go.RowKit Go.Maps

/-- All is well of the first n but at i; what is behind them has not been turned. -/
structure DownS (ps : List (Ent × Value)) (n i0 i : Nat) (qs : List (Ent × Value)) : Prop where
  perm : qs.Perm ps
  hole : HoleF ltQ (fn zq qs) n 0 i
  edge : i ≠ i0 → Edge ltQ (fn zq qs) i
  from_ : i0 ≤ i
  rest : ∀ k, n ≤ k → fn zq qs k = fn zq ps k
/-- What down answers, and leaves. -/
structure DownE (ps : List (Ent × Value)) (n i0 : Nat) (c : Bool) (qs : List (Ent × Value)) : Prop where
  perm : qs.Perm ps
  yes : c = true → HeapF ltQ (fn zq qs) n
  no : c = false → UpF ltQ (fn zq qs) n i0
  rest : ∀ k, n ≤ k → fn zq qs k = fn zq ps k
theorem DownS.stop {ps : List (Ent × Value)} {n i0 i : Nat} {qs : List (Ent × Value)} (h : DownS ps n i0 i qs) (hc : ∀ k, 0 < k → k < n → par k = i → ltQ (fn zq qs k) (fn zq qs i) = false) : DownE ps n i0 (decide (i0 < i)) qs := by
  refine ⟨h.perm, fun e => ?_, fun e => ?_, h.rest⟩
  · have := of_decide_eq_true e
    exact (down_low h.hole hc (fun _ _ => h.edge (by omega))).heap
  · have h1 := of_decide_eq_false e
    have h2 := h.from_
    have : i = i0 := by omega
    subst this
    exact down_stop h.hole hc
theorem DownS.step {ps : List (Ent × Value)} {n i0 i j : Nat} {qs : List (Ent × Value)} (h : DownS ps n i0 i qs) (h0 : 0 < j) (hj : j < n) (hn : n ≤ qs.length) (hp : par j = i) (hc : ∀ k, 0 < k → k < n → par k = i → ltQ (fn zq qs k) (fn zq qs j) = false) (hl : ltQ (fn zq qs j) (fn zq qs i) = true) : DownS ps n i0 j (swapL zq qs i j) := by
  have hij := par_lt h0
  have D := down_step ltQ_ahead h.hole (Nat.zero_le _) h0 hj hp hc hl
  have e := fn_swapL zq (l := qs) (i := i) (j := j) (by omega) (by omega)
  refine ⟨(swapL_perm zq (by omega) (by omega)).trans h.perm, ?_, fun _ => ?_, by have := h.from_; omega, fun k hk => ?_⟩
  · rw [e]; exact D.1
  · rw [e]; exact D.2
  · rw [e, sw_other _ (by omega) (by omega)]
    exact h.rest k hk

theorem down_any {w : World} {o : Nat → Nat} {j b : Nat} {T : TypeId} {pre : List Value} {v : Value} {ps : List (Ent × Value)} (h : QAt w o j b T pre v ps) (hj0 : j ≠ 0) (i0 n : Nat) (hn : n ≤ ps.length) (hi0 : i0 ≤ n) (hin : i0 < ps.length) (hH : HoleF ltQ (fn zq ps) n 0 i0) (hfew : ps.length ≤ 1000) :
    Calls Try.prog 55 #[hp b pre.length, .int .i64 (i0 : Int), .int .i64 (n : Int)] w fun r w' => ∃ c, r = .returned (.bool c) ∧ QMoved w o w' j b T pre (DownE ps n i0 c) := by
  have HQ : Hid (QWay w o w j b T pre v (DownS ps n i0 i0)) := ⟨o, ps, h, Mv.refl _ _ _, List.Perm.refl _, hH, fun e => absurd rfl e, Nat.le_refl _, fun _ _ => rfl⟩
  clear h hH
  generalize hoff : pre.length = off
  have HOff : Hid (pre.length = off) := hoff
  clear hoff
  go_enter Try.func55, Try.ntmps55
  go_wp2
  go_loopw [7] (fun i wr => ∃ k : Nat, i = .int .i64 k ∧ k < ps.length ∧ Hid (i0 ≤ k) ∧ Hid (QWay w o wr j b T pre v (DownS ps n i0 k))) (fun i _ => ps.length - (intOf i).toNat)
  case atStart => exact ⟨i0, rfl, hin, (show i0 ≤ i0 from Nat.le_refl _), HQ⟩
  case round =>
    obtain ⟨k, rfl, hk, HF, HI⟩ := hrel
    obtain ⟨o1, qs, hQ, hM, hS⟩ := HI.out
    have hl : qs.length = ps.length := hS.perm.length_eq
    obtain ⟨j1, hj1⟩ : ∃ j1, j1 = 2 * k + 1 := ⟨_, rfl⟩
    obtain ⟨j2, hj2⟩ : ∃ j2, j2 = 2 * k + 2 := ⟨_, rfl⟩
    have e1 : (2 : Int) * k + 1 = (j1 : Int) := by omega
    have e2 : (j1 : Int) + 1 = (j2 : Int) := by omega
    have HQ1 : Hid (QAt wr o1 j b T pre v qs) := hQ
    have HM1 : Hid (Mv [j] w o wr o1) := hM
    have HS1 : Hid (DownS ps n i0 k qs) := hS
    have HL : Hid (qs.length = ps.length) := hl
    have HJ1 : Hid (j1 = 2 * k + 1) := hj1
    have HJ2 : Hid (j2 = 2 * k + 2) := hj2
    have hj1s : j1 ≤ 2001 := by omega
    clear HI hQ hM hS hl HQ hj1 hj2
    by_cases c1 : n ≤ j1
    · have HD := HS1.out.stop (kids_none (by have := HJ1.out; omega))
      go_wp2
      go_ret
      refine ⟨_, rfl, o1, qs, ⟨v, HQ1.out⟩, HM1.out, ?_⟩
      have hdd : decide ((i0 : Int) < (k : Int)) = decide (i0 < k) := by rw [decide_eq_decide]; omega
      first | exact HD | (rw [hdd]; exact HD)
    · obtain ⟨p1, hp1⟩ : ∃ p, qs[j1]? = some p := ⟨_, List.getElem?_eq_getElem (by have := HL.out; omega)⟩
      obtain ⟨pi, hpi⟩ : ∃ p, qs[k]? = some p := ⟨_, List.getElem?_eq_getElem (by have := HL.out; omega)⟩
      have hm : (method 207 72 (.pointer (some ⟨b, off, none⟩)) "Less").run Try.prog wr = .ok (74, v) wr := m_less 206 b off wr v (by rw [← HOff.out]; exact HQ1.out.cell)
      by_cases c2 : j2 < n
      · obtain ⟨p2, hp2⟩ : ∃ p, qs[j2]? = some p := ⟨_, List.getElem?_eq_getElem (by have := HL.out; omega)⟩
        have LF := less_any HQ1.out.rowE hp2 hp1 (HQ1.out.ents p2 (List.mem_of_getElem? hp2)).2.1 (HQ1.out.ents p1 (List.mem_of_getElem? hp1)).2.1
        have HKF : Hid (keyB p2.1 p1.1 = ltQ (fn zq qs j2) (fn zq qs j1)) := (show _ = _ from by rw [fn_some hp2, fn_some hp1]; rfl)
        generalize keyB p2.1 p1.1 = kf at *
        have HLF : Hid (Calls Try.prog 74 #[v, .int .i64 (j2 : Int), .int .i64 (j1 : Int)] wr fun r w' => r = .returned (.bool kf) ∧ Below wr.heap.size wr w') := LF
        clear LF
        cases kf
        · have HC : Hid (∀ m, 0 < m → m < n → par m = k → ltQ (fn zq qs m) (fn zq qs j1) = false) := (show ∀ m, 0 < m → m < n → par m = k → ltQ (fn zq qs m) (fn zq qs j1) = false from by rw [HJ1.out]; exact kid_left ltQ_ahead (by rw [← HJ1.out, ← HJ2.out]; exact HKF.out.symm))
          have LS := fun (w' : World) (o' : Nat → Nat) (h : QAt w' o' j b T pre v qs) => less_any h.rowE hp1 hpi (h.ents p1 (List.mem_of_getElem? hp1)).2.1 (h.ents pi (List.mem_of_getElem? hpi)).2.1
          have HKB : Hid (keyB p1.1 pi.1 = ltQ (fn zq qs j1) (fn zq qs k)) := (show _ = _ from by rw [fn_some hp1, fn_some hpi]; rfl)
          generalize keyB p1.1 pi.1 = kb at *
          have HLS : Hid (∀ (w' : World) (o' : Nat → Nat), QAt w' o' j b T pre v qs → Calls Try.prog 74 #[v, .int .i64 (j1 : Int), .int .i64 (k : Int)] w' fun r w'' => r = .returned (.bool kb) ∧ Below w'.heap.size w' w'') := LS
          clear LS hp1 hpi hp2
          have tk : Hid True := trivial
          cases kb
          · have HD : Hid (DownE ps n i0 (decide (i0 < k)) qs) := HS1.out.stop (kids_below ltQ_ahead HC.out HKB.out.symm)
            go_wp2_with (first
              | (replace HLF := HLF; go_at_call 74; go_must (refine HLF.out.mono ?_; rintro r w2 ⟨rfl, hb2⟩; have HB2 : Hid (Below wr.heap.size wr w2) := hb2; have HQ2 : Hid (QAt w2 (newTo o1 wr 0) j b T pre v qs) := HQ1.out.below hb2; have hm2 : (method 207 72 (.pointer (some ⟨b, off, none⟩)) "Less").run Try.prog w2 = .ok (74, v) w2 := m_less 206 b off w2 v (by rw [← HOff.out]; exact HQ2.out.cell); clear hb2 HLF))
              | (go_at_call 74; go_must (refine (HLS.out _ _ HQ2.out).mono ?_; rintro r w3 ⟨rfl, hb3⟩; have HB3 : Hid (Below w2.heap.size w2 w3) := hb3; have HQ3 : Hid (QAt w3 (newTo (newTo o1 wr 0) w2 0) j b T pre v qs) := HQ2.out.below hb3; have hm3 : (method 207 72 (.pointer (some ⟨b, off, none⟩)) "Swap").run Try.prog w3 = .ok (75, v) w3 := m_swap 206 b off w3 v (by rw [← HOff.out]; exact HQ3.out.cell); clear hb3 tk)))
            go_ret
            refine ⟨_, rfl, _, qs, ⟨v, HQ3.out⟩, ((HM1.out.trans (Mv.of_below 0 HB2.out)).trans (Mv.of_below 0 HB3.out)), ?_⟩
            have hdd : decide ((i0 : Int) < (k : Int)) = decide (i0 < k) := by rw [decide_eq_decide]; omega
            first | exact HD.out | (rw [hdd]; exact HD.out)
          · have HT : Hid (DownS ps n i0 j1 (swapL zq qs k j1)) := HS1.out.step (by have := HJ1.out; have := HJ2.out; omega) (by omega) (by have := HL.out; omega) (by rw [HJ1.out]; exact par_left k) HC.out HKB.out.symm
            go_wp2_with (first
              | (replace HLF := HLF; go_at_call 74; go_must (refine HLF.out.mono ?_; rintro r w2 ⟨rfl, hb2⟩; have HB2 : Hid (Below wr.heap.size wr w2) := hb2; have HQ2 : Hid (QAt w2 (newTo o1 wr 0) j b T pre v qs) := HQ1.out.below hb2; have hm2 : (method 207 72 (.pointer (some ⟨b, off, none⟩)) "Less").run Try.prog w2 = .ok (74, v) w2 := m_less 206 b off w2 v (by rw [← HOff.out]; exact HQ2.out.cell); clear hb2 HLF))
              | (go_at_call 74; go_must (refine (HLS.out _ _ HQ2.out).mono ?_; rintro r w3 ⟨rfl, hb3⟩; have HB3 : Hid (Below w2.heap.size w2 w3) := hb3; have HQ3 : Hid (QAt w3 (newTo (newTo o1 wr 0) w2 0) j b T pre v qs) := HQ2.out.below hb3; have hm3 : (method 207 72 (.pointer (some ⟨b, off, none⟩)) "Swap").run Try.prog w3 = .ok (75, v) w3 := m_swap 206 b off w3 v (by rw [← HOff.out]; exact HQ3.out.cell); clear hb3 tk))
              | (go_at_call 75; go_must (refine (swap_any HQ3.out.row HQ3.out.slices (i := k) (j := j1) (by have := HL.out; omega) (by have := HL.out; omega)).mono ?_; rintro r w4 ⟨rfl, hrow4, hg4⟩)))
            go_roundw
            case rel =>
              have hkq : k < qs.length := by have := HL.out; omega
              have hjq : j1 < qs.length := by have := HL.out; omega
              obtain ⟨hQ4, hM4⟩ := HQ3.out.turned hj0 (swapL_length zq qs k j1) (mem_swapL hkq hjq) hrow4 hg4
              refine ⟨j1, rfl, by have := HL.out; omega, (show i0 ≤ j1 from HT.out.from_), _, _, hQ4, ((HM1.out.trans (Mv.of_below 0 HB2.out)).trans (Mv.of_below 0 HB3.out)).trans hM4, HT.out⟩
            case measure => have := HJ1.out; have := HJ2.out; have := HL.out; simp [intOf]; omega
        · have HC : Hid (∀ m, 0 < m → m < n → par m = k → ltQ (fn zq qs m) (fn zq qs j2) = false) := (show ∀ m, 0 < m → m < n → par m = k → ltQ (fn zq qs m) (fn zq qs j2) = false from by rw [HJ2.out]; exact kid_right ltQ_ahead (by rw [← HJ1.out, ← HJ2.out]; exact HKF.out.symm))
          have LS := fun (w' : World) (o' : Nat → Nat) (h : QAt w' o' j b T pre v qs) => less_any h.rowE hp2 hpi (h.ents p2 (List.mem_of_getElem? hp2)).2.1 (h.ents pi (List.mem_of_getElem? hpi)).2.1
          have HKB : Hid (keyB p2.1 pi.1 = ltQ (fn zq qs j2) (fn zq qs k)) := (show _ = _ from by rw [fn_some hp2, fn_some hpi]; rfl)
          generalize keyB p2.1 pi.1 = kb at *
          have HLS : Hid (∀ (w' : World) (o' : Nat → Nat), QAt w' o' j b T pre v qs → Calls Try.prog 74 #[v, .int .i64 (j2 : Int), .int .i64 (k : Int)] w' fun r w'' => r = .returned (.bool kb) ∧ Below w'.heap.size w' w'') := LS
          clear LS hp1 hpi hp2
          have tk : Hid True := trivial
          cases kb
          · have HD : Hid (DownE ps n i0 (decide (i0 < k)) qs) := HS1.out.stop (kids_below ltQ_ahead HC.out HKB.out.symm)
            go_wp2_with (first
              | (replace HLF := HLF; go_at_call 74; go_must (refine HLF.out.mono ?_; rintro r w2 ⟨rfl, hb2⟩; have HB2 : Hid (Below wr.heap.size wr w2) := hb2; have HQ2 : Hid (QAt w2 (newTo o1 wr 0) j b T pre v qs) := HQ1.out.below hb2; have hm2 : (method 207 72 (.pointer (some ⟨b, off, none⟩)) "Less").run Try.prog w2 = .ok (74, v) w2 := m_less 206 b off w2 v (by rw [← HOff.out]; exact HQ2.out.cell); clear hb2 HLF))
              | (go_at_call 74; go_must (refine (HLS.out _ _ HQ2.out).mono ?_; rintro r w3 ⟨rfl, hb3⟩; have HB3 : Hid (Below w2.heap.size w2 w3) := hb3; have HQ3 : Hid (QAt w3 (newTo (newTo o1 wr 0) w2 0) j b T pre v qs) := HQ2.out.below hb3; have hm3 : (method 207 72 (.pointer (some ⟨b, off, none⟩)) "Swap").run Try.prog w3 = .ok (75, v) w3 := m_swap 206 b off w3 v (by rw [← HOff.out]; exact HQ3.out.cell); clear hb3 tk)))
            go_ret
            refine ⟨_, rfl, _, qs, ⟨v, HQ3.out⟩, ((HM1.out.trans (Mv.of_below 0 HB2.out)).trans (Mv.of_below 0 HB3.out)), ?_⟩
            have hdd : decide ((i0 : Int) < (k : Int)) = decide (i0 < k) := by rw [decide_eq_decide]; omega
            first | exact HD.out | (rw [hdd]; exact HD.out)
          · have HT : Hid (DownS ps n i0 j2 (swapL zq qs k j2)) := HS1.out.step (by have := HJ1.out; have := HJ2.out; omega) (by omega) (by have := HL.out; omega) (by rw [HJ2.out]; exact par_right k) HC.out HKB.out.symm
            go_wp2_with (first
              | (replace HLF := HLF; go_at_call 74; go_must (refine HLF.out.mono ?_; rintro r w2 ⟨rfl, hb2⟩; have HB2 : Hid (Below wr.heap.size wr w2) := hb2; have HQ2 : Hid (QAt w2 (newTo o1 wr 0) j b T pre v qs) := HQ1.out.below hb2; have hm2 : (method 207 72 (.pointer (some ⟨b, off, none⟩)) "Less").run Try.prog w2 = .ok (74, v) w2 := m_less 206 b off w2 v (by rw [← HOff.out]; exact HQ2.out.cell); clear hb2 HLF))
              | (go_at_call 74; go_must (refine (HLS.out _ _ HQ2.out).mono ?_; rintro r w3 ⟨rfl, hb3⟩; have HB3 : Hid (Below w2.heap.size w2 w3) := hb3; have HQ3 : Hid (QAt w3 (newTo (newTo o1 wr 0) w2 0) j b T pre v qs) := HQ2.out.below hb3; have hm3 : (method 207 72 (.pointer (some ⟨b, off, none⟩)) "Swap").run Try.prog w3 = .ok (75, v) w3 := m_swap 206 b off w3 v (by rw [← HOff.out]; exact HQ3.out.cell); clear hb3 tk))
              | (go_at_call 75; go_must (refine (swap_any HQ3.out.row HQ3.out.slices (i := k) (j := j2) (by have := HL.out; omega) (by have := HL.out; omega)).mono ?_; rintro r w4 ⟨rfl, hrow4, hg4⟩)))
            go_roundw
            case rel =>
              have hkq : k < qs.length := by have := HL.out; omega
              have hjq : j2 < qs.length := by have := HL.out; omega
              obtain ⟨hQ4, hM4⟩ := HQ3.out.turned hj0 (swapL_length zq qs k j2) (mem_swapL hkq hjq) hrow4 hg4
              refine ⟨j2, rfl, by have := HL.out; omega, (show i0 ≤ j2 from HT.out.from_), _, _, hQ4, ((HM1.out.trans (Mv.of_below 0 HB2.out)).trans (Mv.of_below 0 HB3.out)).trans hM4, HT.out⟩
            case measure => have := HJ1.out; have := HJ2.out; have := HL.out; simp [intOf]; omega
      · have HC : Hid (∀ m, 0 < m → m < n → par m = k → ltQ (fn zq qs m) (fn zq qs j1) = false) := (show ∀ m, 0 < m → m < n → par m = k → ltQ (fn zq qs m) (fn zq qs j1) = false from by rw [HJ1.out]; exact kid_one ltQ_ahead (by have := HJ2.out; omega))
        have LS := fun (w' : World) (o' : Nat → Nat) (h : QAt w' o' j b T pre v qs) => less_any h.rowE hp1 hpi (h.ents p1 (List.mem_of_getElem? hp1)).2.1 (h.ents pi (List.mem_of_getElem? hpi)).2.1
        have HKB : Hid (keyB p1.1 pi.1 = ltQ (fn zq qs j1) (fn zq qs k)) := (show _ = _ from by rw [fn_some hp1, fn_some hpi]; rfl)
        generalize keyB p1.1 pi.1 = kb at *
        have HLS : Hid (∀ (w' : World) (o' : Nat → Nat), QAt w' o' j b T pre v qs → Calls Try.prog 74 #[v, .int .i64 (j1 : Int), .int .i64 (k : Int)] w' fun r w'' => r = .returned (.bool kb) ∧ Below w'.heap.size w' w'') := LS
        clear LS hp1 hpi
        have tk : Hid True := trivial
        cases kb
        · have HD : Hid (DownE ps n i0 (decide (i0 < k)) qs) := HS1.out.stop (kids_below ltQ_ahead HC.out HKB.out.symm)
          go_wp2_with (go_at_call 74; go_must (refine (HLS.out _ _ HQ1.out).mono ?_; rintro r w3 ⟨rfl, hb3⟩; have HB3 : Hid (Below wr.heap.size wr w3) := hb3; have HQ3 : Hid (QAt w3 (newTo o1 wr 0) j b T pre v qs) := HQ1.out.below hb3; have hm3 : (method 207 72 (.pointer (some ⟨b, off, none⟩)) "Swap").run Try.prog w3 = .ok (75, v) w3 := m_swap 206 b off w3 v (by rw [← HOff.out]; exact HQ3.out.cell); clear hb3 tk))
          go_ret
          refine ⟨_, rfl, _, qs, ⟨v, HQ3.out⟩, (HM1.out.trans (Mv.of_below 0 HB3.out)), ?_⟩
          have hdd : decide ((i0 : Int) < (k : Int)) = decide (i0 < k) := by rw [decide_eq_decide]; omega
          first | exact HD.out | (rw [hdd]; exact HD.out)
        · have HT : Hid (DownS ps n i0 j1 (swapL zq qs k j1)) := HS1.out.step (by have := HJ1.out; have := HJ2.out; omega) (by omega) (by have := HL.out; omega) (by rw [HJ1.out]; exact par_left k) HC.out HKB.out.symm
          go_wp2_with (first
            | (go_at_call 74; go_must (refine (HLS.out _ _ HQ1.out).mono ?_; rintro r w3 ⟨rfl, hb3⟩; have HB3 : Hid (Below wr.heap.size wr w3) := hb3; have HQ3 : Hid (QAt w3 (newTo o1 wr 0) j b T pre v qs) := HQ1.out.below hb3; have hm3 : (method 207 72 (.pointer (some ⟨b, off, none⟩)) "Swap").run Try.prog w3 = .ok (75, v) w3 := m_swap 206 b off w3 v (by rw [← HOff.out]; exact HQ3.out.cell); clear hb3 tk))
            | (go_at_call 75; go_must (refine (swap_any HQ3.out.row HQ3.out.slices (i := k) (j := j1) (by have := HL.out; omega) (by have := HL.out; omega)).mono ?_; rintro r w4 ⟨rfl, hrow4, hg4⟩)))
          go_roundw
          case rel =>
            have hkq : k < qs.length := by have := HL.out; omega
            have hjq : j1 < qs.length := by have := HL.out; omega
            obtain ⟨hQ4, hM4⟩ := HQ3.out.turned hj0 (swapL_length zq qs k j1) (mem_swapL hkq hjq) hrow4 hg4
            refine ⟨j1, rfl, by have := HL.out; omega, (show i0 ≤ j1 from HT.out.from_), _, _, hQ4, (HM1.out.trans (Mv.of_below 0 HB3.out)).trans hM4, HT.out⟩
          case measure => have := HJ1.out; have := HJ2.out; have := HL.out; simp [intOf]; omega
end Go.Proofs.Ytigfklcclfpcjaa
