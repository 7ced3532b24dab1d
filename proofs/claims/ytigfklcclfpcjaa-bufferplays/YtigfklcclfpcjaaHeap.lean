/-
  container/heap over a queue: up, down.
-/
import Derived.Test.YtigfklcclfpcjaaQueue
namespace Go.Proofs.Ytigfklcclfpcjaa
set_option linter.unusedVariables false
set_option linter.unusedSimpArgs false
set_option synthInstance.maxSize 20000
set_option maxHeartbeats 2000000
set_option maxRecDepth 20000
open Go.RowKit Go.Maps

/-- By where they stand. -/
def ltQ (p q : Ent × Value) : Bool := keyB p.1 q.1
theorem ltQ_ahead : Ahead ltQ := by
  refine ⟨fun a => ?_, fun a b => ?_, fun a b c => ?_⟩
  · unfold ltQ keyB
    exact decide_eq_false (ltP_irrefl _)
  · unfold ltQ keyB ltP
    rw [decide_eq_true_eq, decide_eq_false_iff_not]
    dsimp only
    omega
  · unfold ltQ keyB ltP
    rw [decide_eq_false_iff_not, decide_eq_false_iff_not, decide_eq_false_iff_not]
    dsimp only
    omega

/-- The queue has been turned. -/
def QMoved (w : World) (o : Nat → Nat) (w' : World) (j b : Nat) (T : TypeId) (pre : List Value) (R : List (Ent × Value) → Prop) : Prop := ∃ o' qs, QIs w' o' j b T pre qs ∧ Mv [j] w o w' o' ∧ R qs
/-- The queue on its way. -/
def QWay (w : World) (o : Nat → Nat) (w' : World) (j b : Nat) (T : TypeId) (pre : List Value) (v : Value) (R : List (Ent × Value) → Prop) : Prop := ∃ o' qs, QAt w' o' j b T pre v qs ∧ Mv [j] w o w' o' ∧ R qs

theorem quo2 (k : Nat) (h : 0 < k) : ((k : Int) - 1).tdiv 2 = (par k : Nat) := by
  unfold par
  rw [show ((k : Int) - 1) = ((k - 1 : Nat) : Int) by omega]
  rfl

theorem fn_some {qs : List (Ent × Value)} {k : Nat} {p : Ent × Value} (h : qs[k]? = some p) : fn zq qs k = p := fn_at zq h

theorem mem_swapL {qs : List (Ent × Value)} {i k : Nat} (hi : i < qs.length) (hk : k < qs.length) : ∀ q ∈ swapL zq qs i k, q ∈ qs := fun q hq => (swapL_perm zq hi hk).mem_iff.1 hq

structure UpS (ps : List (Ent × Value)) (n k : Nat) (qs : List (Ent × Value)) : Prop where
  perm : qs.Perm ps
  up : UpF ltQ (fn zq qs) n k
  rest : ∀ m, n ≤ m → fn zq qs m = fn zq ps m
structure UpE (ps : List (Ent × Value)) (n : Nat) (qs : List (Ent × Value)) : Prop where
  perm : qs.Perm ps
  heap : HeapF ltQ (fn zq qs) n
  rest : ∀ m, n ≤ m → fn zq qs m = fn zq ps m
theorem up_any {w : World} {o : Nat → Nat} {j b : Nat} {T : TypeId} {pre : List Value} {v : Value} {ps : List (Ent × Value)} (h : QAt w o j b T pre v ps) (hj0 : j ≠ 0) (k0 n : Nat) (hn : n ≤ ps.length) (hk0 : k0 < n) (hU : UpF ltQ (fn zq ps) n k0) (hfew : ps.length ≤ 1000) :
    Calls Try.prog 54 #[hp b pre.length, .int .i64 (k0 : Int)] w fun r w' => r = .returned (.tuple #[]) ∧ QMoved w o w' j b T pre (UpE ps n) := by
  have HQ : Hid (QWay w o w j b T pre v (UpS ps n k0)) := ⟨o, ps, h, Mv.refl _ _ _, List.Perm.refl _, hU, fun _ _ => rfl⟩
  clear h hU
  generalize hoff : pre.length = off
  have HOff : Hid (pre.length = off) := hoff
  clear hoff
  go_enter Try.func54, Try.ntmps54
  go_wp2
  go_loopw [1] (fun i wr => ∃ k : Nat, i = .int .i64 k ∧ k < n ∧ Hid (QWay w o wr j b T pre v (UpS ps n k))) (fun i _ => (intOf i).toNat)
  case atStart => exact ⟨k0, rfl, hk0, HQ⟩
  case round =>
    obtain ⟨k, rfl, hk, HI⟩ := hrel
    obtain ⟨o1, qs, hQ, hM, hP, hU, hR⟩ := HI.out
    have hl : qs.length = ps.length := hP.length_eq
    by_cases hz : k = 0
    · subst hz
      have HE : Hid (QMoved w o wr j b T pre (UpE ps n)) := ⟨o1, qs, ⟨v, hQ⟩, hM, hP, up_stop hU (.inl rfl), hR⟩
      clear HI hQ hM hP hU hl HQ hR
      go_wp2
      refine bodyPost_end (results_none rfl _ _ _) rfl ⟨rfl, HE.out⟩
    · have hpk := par_lt (k := k) (by omega)
      have hq2 := quo2 k (by omega)
      obtain ⟨p, hp⟩ : ∃ p, qs[k]? = some p := ⟨_, List.getElem?_eq_getElem (by omega)⟩
      obtain ⟨q, hq⟩ : ∃ q, qs[par k]? = some q := ⟨_, List.getElem?_eq_getElem (by omega)⟩
      have LS := less_any hQ.rowE hp hq (hQ.ents p (List.mem_of_getElem? hp)).2.1 (hQ.ents q (List.mem_of_getElem? hq)).2.1
      have HKB : Hid (keyB p.1 q.1 = ltQ (fn zq qs k) (fn zq qs (par k))) := (show _ = _ from by rw [fn_some hp, fn_some hq]; rfl)
      generalize keyB p.1 q.1 = kb at *
      have HLS : Hid (Calls Try.prog 74 #[v, .int .i64 (k : Int), .int .i64 (par k : Nat)] wr fun r w' => r = .returned (.bool kb) ∧ Below wr.heap.size wr w') := LS
      have hm : (method 207 72 (.pointer (some ⟨b, off, none⟩)) "Less").run Try.prog wr = .ok (74, v) wr := m_less 206 b off wr v (by rw [← HOff.out]; exact hQ.cell)
      have HQ1 : Hid (QAt wr o1 j b T pre v qs) := hQ
      have HM1 : Hid (Mv [j] w o wr o1) := hM
      have HP1 : Hid (qs.Perm ps) := hP
      have HU1 : Hid (UpF ltQ (fn zq qs) n k) := hU
      have HR1 : Hid (∀ m, n ≤ m → fn zq qs m = fn zq ps m) := hR
      have HL : Hid (qs.length = ps.length) := hl
      have hne : ((par k : Int) == (k : Int)) = false := by simp; omega
      clear HI hQ hM hP hU hl HQ LS hp hq hR
      generalize hpp : par k = pk at *
      have HPK : Hid (par k = pk) := hpp
      clear hpp
      cases kb
      · go_wp2_with (go_at_call 74; go_must (refine HLS.out.mono ?_; rintro r w2 ⟨rfl, hb2⟩))
        refine bodyPost_end (results_none rfl _ _ _) rfl ⟨rfl, _, qs, ⟨v, HQ1.out.below hb2⟩, HM1.out.trans (Mv.of_below 0 hb2), HP1.out, up_stop HU1.out (.inr ?_), HR1.out⟩
        rw [HPK.out]; exact HKB.out.symm
      · go_wp2_with (first
          | (go_at_call 74; go_must (refine HLS.out.mono ?_; rintro r w2 ⟨rfl, hb2⟩; have HQ2 : Hid (QAt w2 (newTo o1 wr 0) j b T pre v qs) := HQ1.out.below hb2; have hm2 : (method 207 72 (.pointer (some ⟨b, off, none⟩)) "Swap").run Try.prog w2 = .ok (75, v) w2 := m_swap 206 b off w2 v (by rw [← HOff.out]; exact HQ2.out.cell); have HB2 : Hid (Below wr.heap.size wr w2) := hb2; clear hb2 hm))
          | (go_at_call 75; go_must (refine (swap_any HQ2.out.row HQ2.out.slices (i := pk) (j := k) (by have := HL.out; omega) (by have := HL.out; omega)).mono ?_; rintro r w3 ⟨rfl, hrow3, hg3⟩)))
        go_roundw
        case rel =>
          have hkq : k < qs.length := by have := HL.out; omega
          have hpq : pk < qs.length := by omega
          obtain ⟨hQ3, hM3⟩ := HQ2.out.turned hj0 (swapL_length zq qs pk k) (mem_swapL hpq hkq) hrow3 hg3
          refine ⟨pk, rfl, by omega, _, _, hQ3, (HM1.out.trans (Mv.of_below 0 HB2.out)).trans hM3, (swapL_perm zq hpq hkq).trans HP1.out, ?_, fun m hm => ?_⟩
          · rw [fn_swapL zq hpq hkq, ← HPK.out]
            exact up_step ltQ_ahead HU1.out (by omega) hk (by rw [HPK.out]; exact HKB.out.symm)
          · rw [fn_swapL zq hpq hkq, sw_other _ (by omega) (by omega)]
            exact HR1.out m hm
        case measure => simp [intOf]; omega

end Go.Proofs.Ytigfklcclfpcjaa
