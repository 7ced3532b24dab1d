/-
  The reference's Unwrap answers as the plain oracle does; what stays of a plain oracle through each call (Fine).
-/
import Derived.Test.YtcacioogklgahaaRefOpen
import Derived.Test.YtcacioogklgahaaRefSeal
namespace Go.Proofs.Ytcacioogklgahaa
set_option linter.unusedVariables false
set_option synthInstance.maxSize 20000
open Classical
open Go.RowKit Go.Maps

set_option maxHeartbeats 2000000 in
set_option maxRecDepth 20000 in
theorem runwrap_any (W w : World) (r : Nat) (fr : List Nat) (S : St) (h : RefAt W w r fr S) (hf : Fine S) (s : Int) (v : Value) (l : List Int) (hv : Rd w v l) :
    Calls Try.prog 38 #[ptr r, .int .u64 s, v] w fun e w' => e = .returned (.tuple #[.int .u64 (S.unwrap s l).1, .int .i64 (S.unwrap s l).2]) ∧ Below w.heap.size w w' := by
  have HA : Hid (RefAt W w r fr S) := h
  have HV : Hid (Rd w v l) := hv
  have hgood := h.good
  have ho := hv.oct
  obtain ⟨av, cv, rfl⟩ := hv.len
  obtain ⟨hcap, hcap1, hcap2⟩ := hv.cap
  clear h hv hcap
  obtain ⟨g, hg⟩ : ∃ g, refHandle l = g := ⟨_, rfl⟩
  have HG : Hid (refHandle l = g) := hg
  rcases (notkind : (∀ x, S.at (refHandle l) = some x → kindOf x ≠ 7) ∨ _) with hp | ⟨x, hp, hk⟩
  · rw [unwrap_no hp]
    rw [hg] at hp
    have HP : Hid (∀ x, S.at g = some x → kindOf x ≠ 7) := hp
    clear hp hg hgood ho hf
    go_enter Try.func38, Try.ntmps38
    go_wp2_with (first
      | (go_at_call 55; go_must (refine (handle_any _ l w HV.out).mono ?_; rw [HG.out]; rintro e wz ⟨rfl, hwz⟩; replace hwz := hwz.symm; subst hwz))
      | (go_at_call 51; go_must (refine (ris_no W w r fr S HA.out g 7 HP.out).mono ?_; rintro e w0 ⟨rfl, hb0⟩)))
    go_ret2
    exact ⟨rfl, balloc hb0 _⟩
  · obtain ⟨s', k, p, rfl⟩ := kind7 hk
    have hun := unwrap_yes hgood ho hp s
    have HP : Hid (S.at p = some (.pub s')) := hf.wraps _ _ _ _ (at_some hp)
    rw [hg] at hp
    have HS : Hid (S.at g = some (.wrap s' k p)) := hp
    rw [hun]
    clear hp hg hk hun hgood ho hf
    by_cases hl : l.length = 16
    · rw [if_pos hl]
      have hl1 : (l.length : Int) = 16 := by omega
      have hl2 : ((l.length : Int) != 16) = false := by simpa using hl1
      clear hl hl1
      by_cases hk : s' = s
      · rw [if_pos hk]
        subst hk
        go_enter Try.func38, Try.ntmps38
        go_upto_region 2 with (first
          | (go_at_call 55; go_must (refine (handle_any _ l w HV.out).mono ?_; rw [HG.out]; rintro e wz ⟨rfl, hwz⟩; replace hwz := hwz.symm; subst hwz))
          | (go_at_call 51; go_must (refine (ris_yes W w r fr S HA.out g 7 (.wrap s' k p) HS.out rfl).mono ?_; dsimp only [aOf, bOf, nOf, mOf, List.length_nil]; rintro e w0 ⟨a1, c1, a2, c2, rfl, _, _, hb0⟩)))
        obtain ⟨w1, hw1⟩ : ∃ w1, w1 = w0.alloc (.cells #[.int .u64 g, .int .i64 7, .slice a1 0 c1, .slice a2 0 c2, .int .u64 p, .int .u64 k] 86) := ⟨_, rfl⟩
        have HB1 : Hid (Below w.heap.size w w1) := (by show Below _ _ _; rw [hw1]; exact balloc hb0 _)
        have Y1 : Hid (Blk w1 w0.heap.size 86 [.int .u64 g, .int .i64 7, .slice a1 0 c1, .slice a2 0 c2, .int .u64 p, .int .u64 k]) := (by show Blk _ _ _ _; rw [hw1]; exact heap_alloc_new w0 _)
        rw [← hw1]
        generalize w0.heap.size = ny at Y1 ⊢
        have y4 := Y1.out.cell 4 _ rfl
        clear hw1 hb0
        go_upto_region 5 with (go_at_call 51; go_must (refine (ris_yes W w1 r fr S (HA.out.below HB1.out) p 4 (.pub s') HP.out rfl).mono ?_; dsimp only [aOf, bOf, nOf, mOf, List.length_nil]; rintro e w2 ⟨z1, d1, z2, d2, rfl, _, _, hb2⟩))
        obtain ⟨w3, hw3⟩ : ∃ w3, w3 = w2.alloc (.cells #[.int .u64 p, .int .i64 4, .slice z1 0 d1, .slice z2 0 d2, .int .u64 s', .int .u64 0] 86) := ⟨_, rfl⟩
        have HB3 : Hid (Below w1.heap.size w1 w3) := (by show Below _ _ _; rw [hw3]; exact balloc hb2 _)
        have Z3 : Hid (Blk w3 w2.heap.size 86 [.int .u64 p, .int .i64 4, .slice z1 0 d1, .slice z2 0 d2, .int .u64 s', .int .u64 0]) := (by show Blk _ _ _ _; rw [hw3]; exact heap_alloc_new w2 _)
        rw [← hw3]
        generalize w2.heap.size = nz at Z3 ⊢
        have x5 := (Y1.out.below HB3.out).cell 5 _ rfl
        have x4 := Z3.out.cell 4 _ rfl
        clear hw3 hb2
        go_wp2
        go_ret2
        exact ⟨rfl, bnext HB1.out HB3.out⟩
      · rw [if_neg hk]
        have hk' : (s' != s) = true := by simpa using hk
        clear hk
        go_enter Try.func38, Try.ntmps38
        go_upto_region 2 with (first
          | (go_at_call 55; go_must (refine (handle_any _ l w HV.out).mono ?_; rw [HG.out]; rintro e wz ⟨rfl, hwz⟩; replace hwz := hwz.symm; subst hwz))
          | (go_at_call 51; go_must (refine (ris_yes W w r fr S HA.out g 7 (.wrap s' k p) HS.out rfl).mono ?_; dsimp only [aOf, bOf, nOf, mOf, List.length_nil]; rintro e w0 ⟨a1, c1, a2, c2, rfl, _, _, hb0⟩)))
        obtain ⟨w1, hw1⟩ : ∃ w1, w1 = w0.alloc (.cells #[.int .u64 g, .int .i64 7, .slice a1 0 c1, .slice a2 0 c2, .int .u64 p, .int .u64 k] 86) := ⟨_, rfl⟩
        have HB1 : Hid (Below w.heap.size w w1) := (by show Below _ _ _; rw [hw1]; exact balloc hb0 _)
        have Y1 : Hid (Blk w1 w0.heap.size 86 [.int .u64 g, .int .i64 7, .slice a1 0 c1, .slice a2 0 c2, .int .u64 p, .int .u64 k]) := (by show Blk _ _ _ _; rw [hw1]; exact heap_alloc_new w0 _)
        rw [← hw1]
        generalize w0.heap.size = ny at Y1 ⊢
        have y4 := Y1.out.cell 4 _ rfl
        clear hw1 hb0
        go_upto_region 5 with (go_at_call 51; go_must (refine (ris_yes W w1 r fr S (HA.out.below HB1.out) p 4 (.pub s') HP.out rfl).mono ?_; dsimp only [aOf, bOf, nOf, mOf, List.length_nil]; rintro e w2 ⟨z1, d1, z2, d2, rfl, _, _, hb2⟩))
        obtain ⟨w3, hw3⟩ : ∃ w3, w3 = w2.alloc (.cells #[.int .u64 p, .int .i64 4, .slice z1 0 d1, .slice z2 0 d2, .int .u64 s', .int .u64 0] 86) := ⟨_, rfl⟩
        have HB3 : Hid (Below w1.heap.size w1 w3) := (by show Below _ _ _; rw [hw3]; exact balloc hb2 _)
        have Z3 : Hid (Blk w3 w2.heap.size 86 [.int .u64 p, .int .i64 4, .slice z1 0 d1, .slice z2 0 d2, .int .u64 s', .int .u64 0]) := (by show Blk _ _ _ _; rw [hw3]; exact heap_alloc_new w2 _)
        rw [← hw3]
        generalize w2.heap.size = nz at Z3 ⊢
        have x5 := (Y1.out.below HB3.out).cell 5 _ rfl
        have x4 := Z3.out.cell 4 _ rfl
        clear hw3 hb2
        go_wp2
        go_ret2
        exact ⟨rfl, bnext HB1.out HB3.out⟩
    · rw [if_neg hl]
      have hl1 : ¬ (l.length : Int) = 16 := by omega
      have hl2 : ((l.length : Int) != 16) = true := by simpa using hl1
      clear hl hl1
      go_enter Try.func38, Try.ntmps38
      go_upto_region 2 with (first
        | (go_at_call 55; go_must (refine (handle_any _ l w HV.out).mono ?_; rw [HG.out]; rintro e wz ⟨rfl, hwz⟩; replace hwz := hwz.symm; subst hwz))
        | (go_at_call 51; go_must (refine (ris_yes W w r fr S HA.out g 7 (.wrap s' k p) HS.out rfl).mono ?_; dsimp only [aOf, bOf, nOf, mOf, List.length_nil]; rintro e w0 ⟨a1, c1, a2, c2, rfl, _, _, hb0⟩)))
      obtain ⟨w1, hw1⟩ : ∃ w1, w1 = w0.alloc (.cells #[.int .u64 g, .int .i64 7, .slice a1 0 c1, .slice a2 0 c2, .int .u64 p, .int .u64 k] 86) := ⟨_, rfl⟩
      have HB1 : Hid (Below w.heap.size w w1) := (by show Below _ _ _; rw [hw1]; exact balloc hb0 _)
      have Y1 : Hid (Blk w1 w0.heap.size 86 [.int .u64 g, .int .i64 7, .slice a1 0 c1, .slice a2 0 c2, .int .u64 p, .int .u64 k]) := (by show Blk _ _ _ _; rw [hw1]; exact heap_alloc_new w0 _)
      rw [← hw1]
      generalize w0.heap.size = ny at Y1 ⊢
      have y4 := Y1.out.cell 4 _ rfl
      clear hw1 hb0
      go_wp2
      go_ret2
      exact ⟨rfl, HB1.out⟩

/-! ### what stays -/
theorem fine0 (ds : List Int) : Fine ⟨ds, []⟩ := ⟨fun _ _ _ h => by simp at h, fun _ _ _ _ h => by simp at h⟩
theorem put_rows (S : St) (x : What) : (S.put x).rows = S.rows ++ [(S.fresh, x)] := rfl
theorem Fine.put {S : St} (hf : Fine S) (hg : Good S) (hN : S.rows.length < 1000000000) {x : What} (hs : ∀ s b, x = .sig s b → S.of (.sig s b) = none) (hw : ∀ s k p, x = .wrap s k p → S.at p = some (.pub s)) : Fine (S.put x) := by
  constructor
  · intro s b g h
    rw [put_rows] at h
    rcases List.mem_append.1 h with e | e
    · exact put_keeps (hf.once s b g e)
    · simp at e
      obtain ⟨e1, e2⟩ := e
      subst e1
      rw [put_of, hs s b e2.symm, ← e2, if_pos rfl]
      rfl
  · intro g s k p h
    rw [put_rows] at h
    rcases List.mem_append.1 h with e | e
    · exact at_put_old hg hN (hf.wraps g s k p e)
    · simp at e
      exact at_put_old hg hN (hw s k p e.2.symm)
theorem Fine.get {S : St} (hf : Fine S) (hg : Good S) (hN : S.rows.length < 1000000000) {x : What} (hw : ∀ s k p, x ≠ .wrap s k p) : Fine (S.get x).2 := by
  cases h : S.of x with
  | some g => rw [get_some h]; exact hf
  | none =>
    rw [get_none h]
    exact hf.put hg hN (fun s b e => by rw [← e]; exact h) (fun s k p e => absurd e (hw s k p))
theorem Fine.pair {S : St} (hf : Fine S) (hg : Good S) (hN : S.rows.length + 1 < 1000000000) : Fine S.pair := by
  unfold St.pair
  have h1 : Fine (S.put .secret) := hf.put hg (by omega) (fun _ _ e => by cases e) (fun _ _ _ e => by cases e)
  exact h1.put (put_good hg (by omega) (x := .secret) trivial) (by rw [put_len]; exact hN) (fun _ _ e => by cases e) (fun _ _ _ e => by cases e)
theorem Fine.sign {S : St} (hf : Fine S) (hg : Good S) (hN : S.rows.length < 1000000000) (s : Int) (b : List Int) : Fine (S.sign s b).2 := by
  unfold St.sign
  split
  · exact hf.get hg hN (fun _ _ _ e => by cases e)
  · exact hf
theorem Fine.seal {S : St} (hf : Fine S) (hg : Good S) (hN : S.rows.length < 1000000000) (k : Int) (b p : List Int) : Fine (S.seal k b p).2 := by
  unfold St.seal
  split
  · split
    · exact hf
    · exact hf.put hg hN (fun _ _ e => by cases e) (fun _ _ _ e => by cases e)
  · exact hf
theorem Fine.wrap {S : St} (hf : Fine S) (hg : Good S) (hN : S.rows.length < 1000000000) (p k : Int) : Fine (S.wrap p k).2 := by
  unfold St.wrap
  split
  · rename_i s hp
    split
    · exact hf.put hg hN (fun _ _ e => by cases e) (fun s' k' p' e => by cases e; exact hp)
    · exact hf
  · exact hf
/-- How many rows a call lays. -/
theorem sign_len (S : St) (s : Int) (b : List Int) : (S.sign s b).2.rows.length ≤ S.rows.length + 1 := by
  unfold St.sign
  split
  · exact get_len S _
  · simp
theorem seal_len (S : St) (k : Int) (b p : List Int) : (S.seal k b p).2.rows.length ≤ S.rows.length + 1 := by
  unfold St.seal
  split
  · split
    · simp
    · simp [put_len]
  · simp
theorem wrap_len (S : St) (p k : Int) : (S.wrap p k).2.rows.length ≤ S.rows.length + 1 := by
  unfold St.wrap
  split
  · split
    · simp [put_len]
    · simp
  · simp
end Go.Proofs.Ytcacioogklgahaa
