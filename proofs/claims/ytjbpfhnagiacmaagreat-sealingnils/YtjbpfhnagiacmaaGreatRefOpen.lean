/-
  The reference's Open and Unwrap answer as the plain oracle does.
-/
import Derived.Test.YtjbpfhnagiacmaaGreatRefBox
namespace Go.Proofs.YtjbpfhnagiacmaaGreat
set_option linter.unusedVariables false
set_option synthInstance.maxSize 20000
open Classical
open Go.RowKit Go.Maps
theorem upTo8 (l : List Int) : upTo l 8 = ofBe8 l := rfl
theorem at_none0 {S : St} (hg : Good S) {x : What} (h : S.at 0 = some x) : False := (at_ok hg h).2.1 rfl
theorem refHandle_at {S : St} (hg : Good S) {l : List Int} {x : What} (h : S.at (refHandle l) = some x) : 8 ≤ l.length ∧ refHandle l = ofBe8 l ∧ l.drop 8 = List.replicate (l.length - 8) 0 := by
  unfold refHandle at h ⊢
  split at h
  · exact (at_none0 hg h).elim
  · rename_i h8
    rw [if_neg h8]
    split at h
    · rename_i hz
      rw [if_pos hz]
      exact ⟨by omega, upTo8 l, hz⟩
    · exact (at_none0 hg h).elim
theorem box_iff {l : List Int} (ho : Oct l) (h8 : 8 ≤ l.length) (hz : l.drop 8 = List.replicate (l.length - 8) 0) (z : Nat) : l = boxOf (ofBe8 l) z ↔ l.length = 8 + z := by
  constructor
  · intro e
    rw [e, boxOf_length]
  · intro e
    unfold boxOf
    rw [be8_ofBe8 ho h8]
    have hz' : l.drop 8 = List.replicate z 0 := by rw [hz]; congr 1; omega
    rw [← hz']
    exact (List.take_append_drop 8 l).symm
theorem find_handle {S : St} (hg : Good S) {l : List Int} {x : What} (h : S.at (refHandle l) = some x) : S.find l = some x := by
  obtain ⟨h8, e, _⟩ := refHandle_at hg h
  unfold St.find
  rw [if_pos h8, ← e]
  exact h
theorem handle_box {l : List Int} (h8 : 8 ≤ l.length) {z : Nat} (e : l = boxOf (ofBe8 l) z) : refHandle l = ofBe8 l := by
  have hl : l.length = 8 + z := by
    have := congrArg List.length e
    rwa [boxOf_length] at this
  unfold refHandle
  rw [if_neg (by omega), if_pos, upTo8]
  have : l.drop 8 = List.replicate z 0 := by
    have := congrArg (List.drop 8) e
    rw [this]
    unfold boxOf
    rw [List.drop_left' (be8_length _)]
  rw [this, hl]
  congr 1
  omega
theorem open_no {S : St} {l : List Int} (h : ∀ x, S.at (refHandle l) = some x → kindOf x ≠ 6) (k : Int) (b : List Int) : S.open k b l = ([], 4) := by
  unfold St.open
  split
  · rename_i k' b' p hf
    split
    · rename_i e
      exfalso
      unfold St.find at hf
      split at hf
      · rename_i h8
        exact h _ (by rw [handle_box h8 e]; exact hf) rfl
      · cases hf
    · rfl
  · rfl
theorem open_yes {S : St} (hg : Good S) {l : List Int} (ho : Oct l) {k' : Int} {b' p : List Int} (h : S.at (refHandle l) = some (.seal k' b' p)) (k : Int) (b : List Int) :
    S.open k b l = if l.length = 8 + zerosOf p then (if k' = k then (if b' = b then (p, 0) else ([], 5)) else ([], 11)) else ([], 4) := by
  obtain ⟨h8, e, hz⟩ := refHandle_at hg h
  unfold St.open
  rw [find_handle hg h]
  dsimp only
  by_cases hl : l.length = 8 + zerosOf p
  · rw [if_pos hl, if_pos ((box_iff ho h8 hz _).2 hl)]
  · rw [if_neg hl, if_neg (fun e => hl ((box_iff ho h8 hz _).1 e))]
theorem unwrap_no {S : St} {l : List Int} (h : ∀ x, S.at (refHandle l) = some x → kindOf x ≠ 7) (s : Int) : S.unwrap s l = (0, 4) := by
  unfold St.unwrap
  split
  · rename_i s' k p hf
    split
    · rename_i e
      exfalso
      unfold St.find at hf
      split at hf
      · rename_i h8
        exact h _ (by rw [handle_box h8 e]; exact hf) rfl
      · cases hf
    · rfl
  · rfl
theorem unwrap_yes {S : St} (hg : Good S) {l : List Int} (ho : Oct l) {s' k p : Int} (h : S.at (refHandle l) = some (.wrap s' k p)) (s : Int) :
    S.unwrap s l = if l.length = 16 then (if s' = s then (k, 0) else (0, 11)) else (0, 4) := by
  obtain ⟨h8, e, hz⟩ := refHandle_at hg h
  unfold St.unwrap
  rw [find_handle hg h]
  dsimp only
  by_cases hl : l.length = 16
  · rw [if_pos hl, if_pos ((box_iff ho h8 hz _).2 hl)]
  · rw [if_neg hl, if_neg (fun e => hl ((box_iff ho h8 hz _).1 e))]
set_option maxHeartbeats 2000000 in
set_option maxRecDepth 20000 in
theorem ropen_any (W : WS) (w : World) (r : Nat) (fr : List Nat) (S : St) (h : RefAt W w r fr S) (k : Int) (u : Value) (bd : List Int) (hu : Rd w u bd) (v : Value) (l : List Int) (hv : Rd w v l) :
    Calls Tryz.prog 42 #[ptr r, .int .u64 k, u, v] w fun e w' => ∃ v', e = .returned (.tuple #[v', .int .i64 (S.open k bd l).2]) ∧ Rd w' v' (S.open k bd l).1 ∧ Below w.heap.size w w' := by
  have HA : Hid (RefAt W w r fr S) := h
  have HU : Hid (Rd w u bd) := hu
  have HV : Hid (Rd w v l) := hv
  have hgood := h.good
  have ho := hv.oct
  obtain ⟨av, cv, rfl⟩ := hv.len
  obtain ⟨au, cu, rfl⟩ := hu.len
  obtain ⟨hcap, hcap1, hcap2⟩ := hv.cap
  clear h hu hv hcap
  obtain ⟨g, hg⟩ : ∃ g, refHandle l = g := ⟨_, rfl⟩
  have HG : Hid (refHandle l = g) := hg
  rcases (notkind : (∀ x, S.at (refHandle l) = some x → kindOf x ≠ 6) ∨ _) with hp | ⟨x, hp, hk⟩
  · rw [open_no hp]
    rw [hg] at hp
    have HP : Hid (∀ x, S.at g = some x → kindOf x ≠ 6) := hp
    clear hp hg hgood ho
    go_enter Tryz.func42, Tryz.ntmps42
    go_wp2_with (first
      | (go_at_call 86; go_must (refine (handle_any _ l w HV.out).mono ?_; rw [HG.out]; rintro e wz ⟨rfl, hwz⟩; replace hwz := hwz.symm; subst hwz))
      | (go_at_call 78; go_must (refine (ris_no W w r fr S HA.out g 6 HP.out).mono ?_; rintro e w0 ⟨rfl, hb0⟩)))
    go_ret2
    exact ⟨_, rfl, rd_nil _, balloc hb0 _⟩
  · obtain ⟨k', b', p, rfl⟩ := kind6 hk
    have hopen := open_yes hgood ho hp k bd
    rw [hg] at hp
    have HS : Hid (S.at g = some (.seal k' b' p)) := hp
    have hplen : p.length ≤ 9223372036854775807 := by
      obtain ⟨R, dv, lv, ro⟩ := HA.out
      rcases idx_at ro.rows g with ⟨_, e⟩ | ⟨i, q, h1, _, _, e⟩
      · rw [hp] at e; cases e
      · rw [hp] at e
        have e2 : What.seal k' b' p = q.x := by injection e
        have := (ro.vals q (List.mem_of_getElem? h1)).2
        rw [← e2] at this
        replace this := this.1
        obtain ⟨aa, cc, ee⟩ := this.len
        rw [ee] at this
        have := this.cap
        dsimp only [bOf] at this
        omega
    have HZ : Hid (sizeI (cls p.length) = ((zerosOf p : Nat) : Int)) := by
      unfold zerosOf
      have := (sizeI_le (cls p.length)).1
      exact (Int.toNat_of_nonneg this).symm
    have hz2 : zerosOf p ≤ 2000 := by
      have := (sizeI_le (cls p.length)).2
      unfold zerosOf
      omega
    have hcl := cls_lt p.length
    have HC : Hid (∀ w, Calls Tryz.prog 47 #[.int .i64 (p.length : Int)] w fun e w' => e = .returned (.int .i64 (cls p.length)) ∧ Below w.heap.size w w') := fun w => by
      have := refclass_any (p.length : Int) w (by omega)
      rw [clsI_nat] at this
      exact this
    have HSZ : Hid (∀ w, Calls Tryz.prog 45 #[.int .i64 (cls p.length)] w fun e w' => e = .returned (.int .i64 ((zerosOf p : Nat) : Int)) ∧ Below w.heap.size w w') := fun w => by
      have := refsize_any (cls p.length) w (by omega)
      rw [HZ.out] at this
      exact this
    rw [hopen]
    generalize zerosOf p = z at HSZ hz2 ⊢
    generalize cls p.length = c at HSZ HC
    clear hp hg hk hopen HZ hcl hgood ho
    by_cases hl : l.length = 8 + z
    · rw [if_pos hl]
      have hl1 : (l.length : Int) = 8 + (z : Int) := by omega
      have hl2 : ((l.length : Int) != 8 + (z : Int)) = false := by simpa using hl1
      have HL : Hid (l.length = 8 + z) := hl
      clear hl hl1
      by_cases hk : k' = k
      · rw [if_pos hk]
        subst hk
        by_cases hb : b' = bd
        · rw [if_pos hb]
          have HE : Hid (b' = bd) := hb
          clear hb
          go_enter Tryz.func42, Tryz.ntmps42
          go_upto_region 2 with (first
            | (go_at_call 86; go_must (refine (handle_any _ l w HV.out).mono ?_; rw [HG.out]; rintro e wz ⟨rfl, hwz⟩; replace hwz := hwz.symm; subst hwz))
            | (go_at_call 78; go_must (refine (ris_yes W w r fr S HA.out g 6 (.seal k' b' p) HS.out rfl).mono ?_; dsimp only [aOf, bOf, nOf, mOf, List.length_nil]; rintro e w0 ⟨a1, c1, a2, c2, rfl, ra, rb, hb0⟩)))
          obtain ⟨w1, hw1⟩ : ∃ w1, w1 = w0.alloc (.cells #[.int .u64 g, .int .i64 6, .slice a1 b'.length c1, .slice a2 p.length c2, .int .u64 k', .int .u64 0] 112) := ⟨_, rfl⟩
          have HB1 : Hid (Below w.heap.size w w1) := (by show Below _ _ _; rw [hw1]; exact balloc hb0 _)
          have Y1 : Hid (Blk w1 w0.heap.size 112 [.int .u64 g, .int .i64 6, .slice a1 b'.length c1, .slice a2 p.length c2, .int .u64 k', .int .u64 0]) := (by show Blk _ _ _ _; rw [hw1]; exact heap_alloc_new w0 _)
          rw [← hw1]
          have RA : Hid (Rd w (.slice a1 b'.length c1) b') := ra
          have RB : Hid (Rd w (.slice a2 p.length c2) p) := rb
          have RA : Hid (Rd w1 (.slice a1 b'.length c1) b') := (show Rd _ _ _ from RA.out.below HB1.out)
          have RB : Hid (Rd w1 (.slice a2 p.length c2) p) := (show Rd _ _ _ from RB.out.below HB1.out)
          generalize w0.heap.size = ny at Y1 ⊢
          have y3 := Y1.out.cell 3 _ rfl
          clear hw1 hb0 ra rb
          go_wp2_with (first
            | (go_at_call 47; go_must (refine (HC.out w1).mono ?_; rintro e w2 ⟨rfl, hb2⟩; have HB2 : Hid (Below w1.heap.size w1 w2) := hb2; clear hb2))
            | (go_at_call 45; go_must (refine (HSZ.out w2).mono ?_; rintro e w3 ⟨rfl, hb3⟩; have HB3 : Hid (Below w1.heap.size w1 w3) := bnext HB2.out hb3; have y4 := (Y1.out.below HB3.out).cell 4 _ rfl; have y2 := (Y1.out.below HB3.out).cell 2 _ rfl; clear hb3 HB2))
            | (go_at_call 11; go_must (refine (same_any _ _ b' bd w3 (RA.out.below HB3.out) (HU.out.below (bnext HB1.out HB3.out))).mono ?_; rw [decide_eq_true HE.out]; rintro e w4 ⟨rfl, hb4⟩; have y5 := (Y1.out.below (bnext HB3.out hb4)).cell 3 _ rfl)))
          go_ret2
          exact ⟨_, rfl, RB.out.below (bnext HB3.out hb4), bnext HB1.out (bnext HB3.out hb4)⟩
        · rw [if_neg hb]
          have HE : Hid (¬ b' = bd) := hb
          clear hb
          go_enter Tryz.func42, Tryz.ntmps42
          go_upto_region 2 with (first
            | (go_at_call 86; go_must (refine (handle_any _ l w HV.out).mono ?_; rw [HG.out]; rintro e wz ⟨rfl, hwz⟩; replace hwz := hwz.symm; subst hwz))
            | (go_at_call 78; go_must (refine (ris_yes W w r fr S HA.out g 6 (.seal k' b' p) HS.out rfl).mono ?_; dsimp only [aOf, bOf, nOf, mOf, List.length_nil]; rintro e w0 ⟨a1, c1, a2, c2, rfl, ra, rb, hb0⟩)))
          obtain ⟨w1, hw1⟩ : ∃ w1, w1 = w0.alloc (.cells #[.int .u64 g, .int .i64 6, .slice a1 b'.length c1, .slice a2 p.length c2, .int .u64 k', .int .u64 0] 112) := ⟨_, rfl⟩
          have HB1 : Hid (Below w.heap.size w w1) := (by show Below _ _ _; rw [hw1]; exact balloc hb0 _)
          have Y1 : Hid (Blk w1 w0.heap.size 112 [.int .u64 g, .int .i64 6, .slice a1 b'.length c1, .slice a2 p.length c2, .int .u64 k', .int .u64 0]) := (by show Blk _ _ _ _; rw [hw1]; exact heap_alloc_new w0 _)
          rw [← hw1]
          have RA : Hid (Rd w (.slice a1 b'.length c1) b') := ra
          have RB : Hid (Rd w (.slice a2 p.length c2) p) := rb
          have RA : Hid (Rd w1 (.slice a1 b'.length c1) b') := (show Rd _ _ _ from RA.out.below HB1.out)
          have RB : Hid (Rd w1 (.slice a2 p.length c2) p) := (show Rd _ _ _ from RB.out.below HB1.out)
          generalize w0.heap.size = ny at Y1 ⊢
          have y3 := Y1.out.cell 3 _ rfl
          clear hw1 hb0 ra rb
          go_wp2_with (first
            | (go_at_call 47; go_must (refine (HC.out w1).mono ?_; rintro e w2 ⟨rfl, hb2⟩; have HB2 : Hid (Below w1.heap.size w1 w2) := hb2; clear hb2))
            | (go_at_call 45; go_must (refine (HSZ.out w2).mono ?_; rintro e w3 ⟨rfl, hb3⟩; have HB3 : Hid (Below w1.heap.size w1 w3) := bnext HB2.out hb3; have y4 := (Y1.out.below HB3.out).cell 4 _ rfl; have y2 := (Y1.out.below HB3.out).cell 2 _ rfl; clear hb3 HB2))
            | (go_at_call 11; go_must (refine (same_any _ _ b' bd w3 (RA.out.below HB3.out) (HU.out.below (bnext HB1.out HB3.out))).mono ?_; rw [decide_eq_false HE.out]; rintro e w4 ⟨rfl, hb4⟩; have y5 := (Y1.out.below (bnext HB3.out hb4)).cell 3 _ rfl)))
          go_ret2
          exact ⟨_, rfl, rd_nil _, bnext HB1.out (bnext HB3.out hb4)⟩
      · rw [if_neg hk]
        have hk' : (k' != k) = true := by simpa using hk
        clear hk
        go_enter Tryz.func42, Tryz.ntmps42
        go_upto_region 2 with (first
          | (go_at_call 86; go_must (refine (handle_any _ l w HV.out).mono ?_; rw [HG.out]; rintro e wz ⟨rfl, hwz⟩; replace hwz := hwz.symm; subst hwz))
          | (go_at_call 78; go_must (refine (ris_yes W w r fr S HA.out g 6 (.seal k' b' p) HS.out rfl).mono ?_; dsimp only [aOf, bOf, nOf, mOf, List.length_nil]; rintro e w0 ⟨a1, c1, a2, c2, rfl, ra, rb, hb0⟩)))
        obtain ⟨w1, hw1⟩ : ∃ w1, w1 = w0.alloc (.cells #[.int .u64 g, .int .i64 6, .slice a1 b'.length c1, .slice a2 p.length c2, .int .u64 k', .int .u64 0] 112) := ⟨_, rfl⟩
        have HB1 : Hid (Below w.heap.size w w1) := (by show Below _ _ _; rw [hw1]; exact balloc hb0 _)
        have Y1 : Hid (Blk w1 w0.heap.size 112 [.int .u64 g, .int .i64 6, .slice a1 b'.length c1, .slice a2 p.length c2, .int .u64 k', .int .u64 0]) := (by show Blk _ _ _ _; rw [hw1]; exact heap_alloc_new w0 _)
        rw [← hw1]
        have RA : Hid (Rd w (.slice a1 b'.length c1) b') := ra
        have RB : Hid (Rd w (.slice a2 p.length c2) p) := rb
        have RA : Hid (Rd w1 (.slice a1 b'.length c1) b') := (show Rd _ _ _ from RA.out.below HB1.out)
        have RB : Hid (Rd w1 (.slice a2 p.length c2) p) := (show Rd _ _ _ from RB.out.below HB1.out)
        generalize w0.heap.size = ny at Y1 ⊢
        have y3 := Y1.out.cell 3 _ rfl
        clear hw1 hb0 ra rb
        go_wp2_with (first
          | (go_at_call 47; go_must (refine (HC.out w1).mono ?_; rintro e w2 ⟨rfl, hb2⟩; have HB2 : Hid (Below w1.heap.size w1 w2) := hb2; clear hb2))
          | (go_at_call 45; go_must (refine (HSZ.out w2).mono ?_; rintro e w3 ⟨rfl, hb3⟩; have HB3 : Hid (Below w1.heap.size w1 w3) := bnext HB2.out hb3; have y4 := (Y1.out.below HB3.out).cell 4 _ rfl; have y2 := (Y1.out.below HB3.out).cell 2 _ rfl; clear hb3 HB2)))
        go_ret2
        exact ⟨_, rfl, rd_nil _, bnext HB1.out HB3.out⟩
    · rw [if_neg hl]
      have hl1 : ¬ (l.length : Int) = 8 + (z : Int) := by omega
      have hl2 : ((l.length : Int) != 8 + (z : Int)) = true := by simpa using hl1
      clear hl hl1
      go_enter Tryz.func42, Tryz.ntmps42
      go_upto_region 2 with (first
        | (go_at_call 86; go_must (refine (handle_any _ l w HV.out).mono ?_; rw [HG.out]; rintro e wz ⟨rfl, hwz⟩; replace hwz := hwz.symm; subst hwz))
        | (go_at_call 78; go_must (refine (ris_yes W w r fr S HA.out g 6 (.seal k' b' p) HS.out rfl).mono ?_; dsimp only [aOf, bOf, nOf, mOf, List.length_nil]; rintro e w0 ⟨a1, c1, a2, c2, rfl, ra, rb, hb0⟩)))
      obtain ⟨w1, hw1⟩ : ∃ w1, w1 = w0.alloc (.cells #[.int .u64 g, .int .i64 6, .slice a1 b'.length c1, .slice a2 p.length c2, .int .u64 k', .int .u64 0] 112) := ⟨_, rfl⟩
      have HB1 : Hid (Below w.heap.size w w1) := (by show Below _ _ _; rw [hw1]; exact balloc hb0 _)
      have Y1 : Hid (Blk w1 w0.heap.size 112 [.int .u64 g, .int .i64 6, .slice a1 b'.length c1, .slice a2 p.length c2, .int .u64 k', .int .u64 0]) := (by show Blk _ _ _ _; rw [hw1]; exact heap_alloc_new w0 _)
      rw [← hw1]
      have RA : Hid (Rd w (.slice a1 b'.length c1) b') := ra
      have RB : Hid (Rd w (.slice a2 p.length c2) p) := rb
      have RA : Hid (Rd w1 (.slice a1 b'.length c1) b') := (show Rd _ _ _ from RA.out.below HB1.out)
      have RB : Hid (Rd w1 (.slice a2 p.length c2) p) := (show Rd _ _ _ from RB.out.below HB1.out)
      generalize w0.heap.size = ny at Y1 ⊢
      have y3 := Y1.out.cell 3 _ rfl
      clear hw1 hb0 ra rb
      go_wp2_with (first
        | (go_at_call 47; go_must (refine (HC.out w1).mono ?_; rintro e w2 ⟨rfl, hb2⟩; have HB2 : Hid (Below w1.heap.size w1 w2) := hb2; clear hb2))
        | (go_at_call 45; go_must (refine (HSZ.out w2).mono ?_; rintro e w3 ⟨rfl, hb3⟩; have HB3 : Hid (Below w1.heap.size w1 w3) := bnext HB2.out hb3; have y4 := (Y1.out.below HB3.out).cell 4 _ rfl; have y2 := (Y1.out.below HB3.out).cell 2 _ rfl; clear hb3 HB2)))
      go_ret2
      exact ⟨_, rfl, rd_nil _, bnext HB1.out HB3.out⟩
end Go.Proofs.YtjbpfhnagiacmaaGreat
