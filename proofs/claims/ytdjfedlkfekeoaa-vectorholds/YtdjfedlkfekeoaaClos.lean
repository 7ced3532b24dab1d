/-
  The closures that are handed both heads of a writer, and what holds round by round.
-/
import Derived.Test.YtdjfedlkfekeoaaBoth
import Derived.Test.YtdjfedlkfekeoaaReader
namespace Go.Proofs.Ytdjfedlkfekeoaa
set_option linter.unusedVariables false
set_option linter.unusedSimpArgs false
open Go.RowKit

theorem Blk.set {w : World} {b : Nat} {e : TypeId} {vs : List Value} (h : Blk w b e vs) (i : Nat) (u : Value) : Blk (w.setCell ⟨b, i, none⟩ u) b e (vs.set i u) := by
  unfold Blk
  rw [heap_setCell_same w b i vs.toArray e u h]
  simp
theorem Blk.other {w : World} {b c : Nat} {e : TypeId} {vs : List Value} (h : Blk w b e vs) (i : Nat) (u : Value) (hne : b ≠ c) : Blk (w.setCell ⟨c, i, none⟩ u) b e vs :=
  h.block ((grown_setCell w c i u).block b h.lt (fun e => hne (Option.some.inj e)))

set_option maxHeartbeats 400000 in
theorem cmp1_any (w : World) (bm bl : Nat) (m l : Bool) (x y : H) (hm : Blk w bm 4 [.bool m]) (hl : Blk w bl 4 [.bool l]) (hne : bm ≠ bl) :
    Calls Try.prog 40 #[hv x, hv y, ptr bm, ptr bl] w fun e w' => e = .returned (.tuple #[]) ∧
      w' = ((((w.setCell ⟨bm, 0, none⟩ (.bool (m || decide (y.2.1 < x.2.1)))).setCell ⟨bl, 0, none⟩ (.bool (l || decide (x.2.1 < y.2.1)))).alloc (.cells (hc x).toArray 25)).alloc (.cells (hc y).toArray 25)) := by
  obtain ⟨x1, x2, x3⟩ := x
  obtain ⟨y1, y2, y3⟩ := y
  have m0 := hm.cell 0 _ rfl
  have l0 := hl.cell 0 _ rfl
  have fm := hm.frozen 0
  have fl := hl.frozen 0
  have hmlt := hm.lt
  have hllt := hl.lt
  have hne2 : bl ≠ bm := Ne.symm hne
  unfold hv hc
  clear hm hl
  cases m <;> cases l
  all_goals
    go_enter Try.func40, Try.ntmps40
    go_wp2
    go_end0
    refine ⟨rfl, ?_⟩
    simp

theorem below_set {w0 w : World} {b : Nat} (h : Below w0.heap.size w0 w) (hb : w0.heap.size ≤ b) (i : Nat) (u : Value) : Below w0.heap.size w0 (w.setCell ⟨b, i, none⟩ u) := h.setCell hb _
theorem len_zero {l : List H} (h : RightV l) {k : Nat} (hp : ¬ 0 < (getV l (k : Nat)).2.1) : lenV l k = 0 := by
  have := (getV_len h (k : Nat)).1
  unfold lenV
  omega

theorem cmp_rounds (w0 : World) (a b : List H) (ra : RightV a) (rb : RightV b) (bm bl : Nat) (hne : bm ≠ bl) (hm : w0.heap.size ≤ bm) (hl : w0.heap.size ≤ bl) :
    Rounds w0 a b 40 #[ptr bm, ptr bl] (fun k w => Below w0.heap.size w0 w ∧ Blk w bm 4 [.bool (moreTo a b k)] ∧ Blk w bl 4 [.bool (moreTo b a k)]) where
  bel := fun k w h => h.1
  grow := fun k w w' h hb => ⟨bnext h.1 hb, h.2.1.below hb, h.2.2.below hb⟩
  skip := fun k w hk h hz => by
    have e1 := len_zero ra (fun h => hz (.inl h))
    have e2 := len_zero rb (fun h => hz (.inr h))
    rw [moreTo_succ, moreTo_succ, e1, e2]
    simpa using h
  step := fun k w hk h hp => by
    refine (cmp1_any w bm bl _ _ _ _ h.2.1 h.2.2 hne).mono ?_
    rintro e w' ⟨rfl, rfl⟩
    refine ⟨rfl, balloc (balloc (below_set (below_set h.1 hm _ _) hl _ _) _) _, ?_, ?_⟩
    · rw [moreTo_succ]
      exact (((h.2.1.set 0 _).other 0 _ hne).alloc _).alloc _
    · rw [moreTo_succ]
      exact (((h.2.2.other 0 _ (Ne.symm hne)).set 0 _).alloc _).alloc _

set_option maxHeartbeats 400000 in
theorem conf1_any (w : World) (bi bw : Nat) (is : Bool) (n : Int) (x y : H) (hi : Blk w bi 4 [.bool is]) (hw : Blk w bw 3 [.int .i64 n]) (hne : bi ≠ bw) :
    Calls Try.prog 38 #[hv x, hv y, ptr bi, ptr bw] w fun e w' => e = .returned (.tuple #[]) ∧
      w' = ((if is = false ∧ x.2.1 = y.2.1 ∧ x.2.2 ≠ y.2.2 then (w.setCell ⟨bw, 0, none⟩ (.int .i64 x.1)).setCell ⟨bi, 0, none⟩ (.bool true) else w).alloc (.cells (hc x).toArray 25)).alloc (.cells (hc y).toArray 25) := by
  obtain ⟨x1, x2, x3⟩ := x
  obtain ⟨y1, y2, y3⟩ := y
  have m0 := hi.cell 0 _ rfl
  have l0 := hw.cell 0 _ rfl
  have fm := hi.frozen 0
  have fl := hw.frozen 0
  have hmlt := hi.lt
  have hllt := hw.lt
  have hne2 : bw ≠ bi := Ne.symm hne
  unfold hv hc
  clear hi hw
  dsimp only
  cases is with
  | true =>
    rw [if_neg (by simp)]
    go_enter Try.func38, Try.ntmps38
    go_wp2
    go_end0
    exact ⟨rfl, by simp⟩
  | false =>
    by_cases h1 : x2 = y2
    · by_cases h2 : x3 = y3
      · rw [if_neg (fun h => h.2.2 h2)]
        subst h1 h2
        go_enter Try.func38, Try.ntmps38
        go_wp2
        go_end0
        exact ⟨rfl, by simp⟩
      · rw [if_pos ⟨rfl, h1, h2⟩]
        subst h1
        have h2' : (x3 != y3) = true := by simpa using h2
        go_enter Try.func38, Try.ntmps38
        go_wp2
        go_end0
        exact ⟨rfl, by simp⟩
    · rw [if_neg (fun h => h1 h.2.1)]
      have h1' : (x2 == y2) = false := by simpa using h1
      go_enter Try.func38, Try.ntmps38
      go_wp2
      go_end0
      exact ⟨rfl, by simp⟩

theorem confW_some (k : Nat) : confW (some k) = (k : Int) := rfl
theorem conf_rounds (w0 : World) (a b : List H) (ra : RightV a) (rb : RightV b) (bi bw : Nat) (hne : bi ≠ bw) (hm : w0.heap.size ≤ bi) (hl : w0.heap.size ≤ bw) :
    Rounds w0 a b 38 #[ptr bi, ptr bw] (fun k w => Below w0.heap.size w0 w ∧ Blk w bi 4 [.bool (confTo a b k).isSome] ∧ Blk w bw 3 [.int .i64 (confW (confTo a b k))]) where
  bel := fun k w h => h.1
  grow := fun k w w' h hb => ⟨bnext h.1 hb, h.2.1.below hb, h.2.2.below hb⟩
  skip := fun k w hk h hz => by
    have e1 := len_zero ra (fun h => hz (.inl h))
    have e : oddB a b k = false := by unfold oddB; rw [e1]; simp
    rw [confTo_succ, e]
    simpa using h
  step := fun k w hk h hp => by
    refine (conf1_any w bi bw _ _ _ _ h.2.1 h.2.2 hne).mono ?_
    rintro e w' ⟨rfl, rfl⟩
    have hp' : lenV a k = lenV b k → 0 < lenV a k := fun e => by unfold lenV at e ⊢; omega
    rw [confTo_succ]
    have key : (∃ W, W = (if (confTo a b k).isSome = false ∧ (getV a (k : Nat)).2.1 = (getV b (k : Nat)).2.1 ∧ (getV a (k : Nat)).2.2 ≠ (getV b (k : Nat)).2.2 then (w.setCell ⟨bw, 0, none⟩ (.int .i64 (getV a (k : Nat)).1)).setCell ⟨bi, 0, none⟩ (.bool true) else w) ∧ Below w0.heap.size w0 W ∧ Blk W bi 4 [.bool ((confTo a b k).or (if oddB a b k = true then some k else none)).isSome] ∧ Blk W bw 3 [.int .i64 (confW ((confTo a b k).or (if oddB a b k = true then some k else none)))]) := by
      refine ⟨_, rfl, ?_⟩
      obtain ⟨h0, h1, h2⟩ := h
      cases hc : confTo a b k with
      | some j =>
        rw [hc] at h1 h2
        rw [if_neg (by simp)]
        exact ⟨h0, h1, h2⟩
      | none =>
        rw [hc] at h1 h2
        by_cases ho : oddB a b k = true
        · have hd := of_decide_eq_true ho
          rw [if_pos ⟨rfl, hd.1, hd.2.2⟩, if_pos ho]
          refine ⟨below_set (below_set h0 hl _ _) hm _ _, (h1.other 0 _ hne).set 0 _, ?_⟩
          have := (h2.set 0 (.int .i64 (getV a (k : Nat)).1)).other (c := bi) 0 (.bool true) (Ne.symm hne)
          rw [getV_writer] at this ⊢
          exact this
        · have hd : ¬ _ := fun h => ho (decide_eq_true h)
          rw [if_neg (fun h => hd ⟨h.2.1, hp' h.2.1, h.2.2⟩), if_neg ho]
          exact ⟨h0, h1, h2⟩
    obtain ⟨W, hW, k1, k2, k3⟩ := key
    rw [← hW]
    exact ⟨rfl, balloc (balloc k1 _) _, (k2.alloc _).alloc _, (k3.alloc _).alloc _⟩

set_option maxHeartbeats 400000 in
theorem miss1_any (w : World) (bo : Nat) (v : Value) (l : List H) (x y : H) (ho : Blk w bo 22 [v]) (hv0 : OwnH (bo + 1) w v l) (hl : l.length ≤ 1000) (hy : HOk y) :
    Calls Try.prog 41 #[hv x, hv y, ptr bo] w fun e w' => e = .returned (.tuple #[]) ∧ ∃ v', Blk w' bo 22 [v'] ∧ OwnH (bo + 1) w' v' (l ++ if x.2.1 < y.2.1 then [y] else []) ∧ ∀ w0 : World, w0.heap.size ≤ bo → Below w0.heap.size w0 w → Below w0.heap.size w0 w' := by
  obtain ⟨x1, x2, x3⟩ := x
  obtain ⟨y1, y2, y3⟩ := y
  obtain ⟨av, cv, rfl⟩ := hv0.rd.len
  have hcap := hv0.rd.cap
  have HO : Hid (Blk w bo 22 [.slice av l.length cv]) := ho
  have HV : Hid (OwnH (bo + 1) w (.slice av l.length cv) l) := hv0
  have HY : Hid (HOk (y1, y2, y3)) := hy
  have o0 := ho.cell 0 _ rfl
  have fo := ho.frozen 0
  have hlt := ho.lt
  unfold hv
  dsimp only
  clear ho hv0 hy
  by_cases h1 : x2 < y2
  · rw [if_pos h1]
    go_enter Try.func41, Try.ntmps41
    go_wp2_with (at_builtin; go_must (refine wpList_append_heads 22 Try.underlying22 rfl (.tmp 10) (.tmp 12) rfl (bo + 1) _ l rfl (OwnH.below HV.out (balloc (balloc (balloc (Below.refl _ _) _) _) _)) _ [(y1, y2, y3)] rfl (rdH_one' _ (y1, y2, y3) _ HY.out (by simp)) (by simp; omega) (by simp; omega) ?_; intro v3 w3 hown3 hg3
                                      obtain ⟨av3, cv3, rfl⟩ := hown3.rd.len
                                      have hcap3 := hown3.rd.cap
                                      rw [List.length_append] at hown3
                                      have HOW : Hid (OwnH (bo + 1) w3 (.slice av3 (l.length + 1) cv3) (l ++ [_])) := hown3
                                      clear hown3
                                      have X : Blk w3 bo 22 [.slice av l.length cv] := Blk.block (((HO.out.alloc _).alloc _).alloc _) (hg3.block bo (by simp; omega) (fun e => by have := (HV.out.lt bo e.symm).1; omega))
                                      have x0 := X.cell 0 _ rfl
                                      have f0 := X.frozen 0
                                      have HX : Hid _ := X
                                      clear X))
    go_end0
    refine ⟨rfl, _, Blk.set (vs := [.slice av l.length cv]) HX.out 0 _, ?_, fun w0 h0 hb => ?_⟩
    · exact OwnH.past HOW.out (grown_setCell _ _ _ _) (by omega)
    · exact below_set ((balloc (balloc (balloc hb _) _) _).grown hg3 (by have := hb.size; simp; omega) (fun k hk => by have := (HV.out.lt k hk).1; omega)) h0 _ _
  · rw [if_neg h1]
    go_enter Try.func41, Try.ntmps41
    go_wp2
    go_end0
    exact ⟨rfl, _, (HO.out.alloc _).alloc _, OwnH.below HV.out (balloc (balloc (Below.refl _ _) _) _), fun w0 h0 hb => balloc (balloc hb _) _⟩

set_option maxHeartbeats 400000 in
theorem merge1_any (w : World) (bo : Nat) (v : Value) (l : List H) (x y : H) (ho : Blk w bo 28 [v]) (hv0 : OwnH (bo + 1) w v l) (hl : l.length ≤ 1000) (hx : HOk x) (hy : HOk y) :
    Calls Try.prog 39 #[hv x, hv y, ptr bo] w fun e w' => e = .returned (.tuple #[]) ∧ ∃ v', Blk w' bo 28 [v'] ∧ OwnH (bo + 1) w' v' (l ++ [if x.2.1 < y.2.1 then y else x]) ∧ ∀ w0 : World, w0.heap.size ≤ bo → Below w0.heap.size w0 w → Below w0.heap.size w0 w' := by
  obtain ⟨x1, x2, x3⟩ := x
  obtain ⟨y1, y2, y3⟩ := y
  obtain ⟨av, cv, rfl⟩ := hv0.rd.len
  have hcap := hv0.rd.cap
  have HO : Hid (Blk w bo 28 [.slice av l.length cv]) := ho
  have HV : Hid (OwnH (bo + 1) w (.slice av l.length cv) l) := hv0
  have HX1 : Hid (HOk (x1, x2, x3)) := hx
  have HY : Hid (HOk (y1, y2, y3)) := hy
  have o0 := ho.cell 0 _ rfl
  have fo := ho.frozen 0
  have hlt := ho.lt
  unfold hv
  dsimp only
  clear ho hv0 hy hx
  by_cases h1 : x2 < y2
  all_goals
    first | rw [if_pos h1] | rw [if_neg h1]
    go_enter Try.func39, Try.ntmps39
    go_wp2_with (at_builtin; go_must ((first | refine wpList_append_heads 28 Try.underlying28 rfl (.tmp 11) (.tmp 13) rfl (bo + 1) _ l rfl (OwnH.below HV.out (balloc (balloc (balloc (Below.refl _ _) _) _) _)) _ [(y1, y2, y3)] rfl (rdH_one' _ (y1, y2, y3) _ HY.out (by simp)) (by simp; omega) (by simp; omega) ?_ | refine wpList_append_heads 28 Try.underlying28 rfl (.tmp 11) (.tmp 13) rfl (bo + 1) _ l rfl (OwnH.below HV.out (balloc (balloc (balloc (Below.refl _ _) _) _) _)) _ [(x1, x2, x3)] rfl (rdH_one' _ (x1, x2, x3) _ HX1.out (by simp)) (by simp; omega) (by simp; omega) ?_)
                                      intro v3 w3 hown3 hg3
                                      obtain ⟨av3, cv3, rfl⟩ := hown3.rd.len
                                      have hcap3 := hown3.rd.cap
                                      rw [List.length_append] at hown3
                                      have HOW : Hid (OwnH (bo + 1) w3 (.slice av3 (l.length + 1) cv3) (l ++ [_])) := hown3
                                      clear hown3
                                      have X : Blk w3 bo 28 [.slice av l.length cv] := Blk.block (((HO.out.alloc _).alloc _).alloc _) (hg3.block bo (by simp; omega) (fun e => by have := (HV.out.lt bo e.symm).1; omega))
                                      have x0 := X.cell 0 _ rfl
                                      have f0 := X.frozen 0
                                      have HX : Hid _ := X
                                      clear X))
    go_end0
    refine ⟨rfl, _, Blk.set (vs := [.slice av l.length cv]) HX.out 0 _, ?_, fun w0 h0 hb => ?_⟩
    · exact OwnH.past HOW.out (grown_setCell _ _ _ _) (by omega)
    · exact below_set ((balloc (balloc (balloc hb _) _) _).grown hg3 (by have := hb.size; simp; omega) (fun k hk => by have := (HV.out.lt k hk).1; omega)) h0 _ _

theorem small64 {k : Nat} (h : k < 8) : I64 (k : Int) := ⟨by omega, by omega⟩
theorem miss_one {a b : List H} (ra : RightV a) (k : Nat) : oneH (missF a b k) = if lenV a k < lenV b k then [getV b k] else [] := by
  have := (getV_len ra (k : Nat)).1
  unfold missF
  by_cases h : lenV a k < lenV b k
  · rw [if_pos h, if_pos h, oneH_pos]
    unfold lenV at h
    omega
  · rw [if_neg h, if_neg h, oneH_zero]
theorem merge_one {a b : List H} (ra : RightV a) (rb : RightV b) {k : Nat} (hp : 0 < lenV a k ∨ 0 < lenV b k) : oneH (mergeF a b k) = [if lenV a k < lenV b k then getV b k else getV a k] := by
  have h1 := (getV_len ra (k : Nat)).1
  have h2 := (getV_len rb (k : Nat)).1
  unfold mergeF
  rw [oneH_pos]
  unfold lenV at hp ⊢
  split <;> omega
theorem merge_skip {a b : List H} {k : Nat} (h1 : lenV a k = 0) (h2 : lenV b k = 0) : oneH (mergeF a b k) = [] := by
  unfold mergeF
  rw [if_neg (by omega), oneH_neg]
  unfold lenV at h1
  omega
theorem missTo_len (a b : List H) (k : Nat) : (missTo a b k).length ≤ k := by have := canon_len (missF a b) (List.range k); simpa [missTo] using this
theorem mergeTo_len (a b : List H) (k : Nat) : (mergeTo a b k).length ≤ k := by have := canon_len (mergeF a b) (List.range k); simpa [mergeTo] using this

theorem miss_rounds (w0 : World) (a b : List H) (ra : RightV a) (rb : RightV b) (hb0 : ∀ s ∈ b, HOk s) (bo : Nat) (ho : w0.heap.size ≤ bo) :
    Rounds w0 a b 41 #[ptr bo] (fun k w => Below w0.heap.size w0 w ∧ ∃ v, Blk w bo 22 [v] ∧ OwnH (bo + 1) w v (missTo a b k)) where
  bel := fun k w h => h.1
  grow := fun k w w' ⟨h, v, h1, h2⟩ hb => ⟨bnext h hb, v, h1.below hb, h2.below hb⟩
  skip := fun k w hk h hz => by
    have e1 := len_zero ra (fun h => hz (.inl h))
    have e2 := len_zero rb (fun h => hz (.inr h))
    rw [missTo_succ, miss_one ra, if_neg (by omega), List.append_nil]
    exact h
  step := fun k w hk ⟨h, v, h1, h2⟩ hp => by
    refine (miss1_any w bo v _ _ _ h1 h2 (by have := missTo_len a b k; omega) (getV_ok hb0 (small64 hk))).mono ?_
    rintro e w' ⟨rfl, v', k1, k2, k3⟩
    refine ⟨rfl, k3 w0 ho h, v', k1, ?_⟩
    rw [missTo_succ, miss_one ra]
    exact k2

theorem merge_rounds (w0 : World) (a b : List H) (ra : RightV a) (rb : RightV b) (ha0 : ∀ s ∈ a, HOk s) (hb0 : ∀ s ∈ b, HOk s) (bo : Nat) (ho : w0.heap.size ≤ bo) :
    Rounds w0 a b 39 #[ptr bo] (fun k w => Below w0.heap.size w0 w ∧ ∃ v, Blk w bo 28 [v] ∧ OwnH (bo + 1) w v (mergeTo a b k)) where
  bel := fun k w h => h.1
  grow := fun k w w' ⟨h, v, h1, h2⟩ hb => ⟨bnext h hb, v, h1.below hb, h2.below hb⟩
  skip := fun k w hk h hz => by
    have e1 := len_zero ra (fun h => hz (.inl h))
    have e2 := len_zero rb (fun h => hz (.inr h))
    rw [mergeTo_succ, merge_skip e1 e2, List.append_nil]
    exact h
  step := fun k w hk ⟨h, v, h1, h2⟩ hp => by
    refine (merge1_any w bo v _ _ _ h1 h2 (by have := mergeTo_len a b k; omega) (getV_ok ha0 (small64 hk)) (getV_ok hb0 (small64 hk))).mono ?_
    rintro e w' ⟨rfl, v', k1, k2, k3⟩
    refine ⟨rfl, k3 w0 ho h, v', k1, ?_⟩
    rw [mergeTo_succ, merge_one ra rb hp]
    exact k2
end Go.Proofs.Ytdjfedlkfekeoaa
