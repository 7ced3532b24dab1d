/-
  The reference's Key, Pair, Hash, Sign and Verify answer as the plain oracle does.
  The reference's Sign and Verify answer as the plain oracle does.
  What each row tells of the others stays so.
  The reference's classes: its Size, Class and Room answer the same numbers.
  The reference's eight bytes of a handle, the handle of bytes, and bytes 0 that are appended.
-/
import Derived.Test.YtjbpfhnagiacmaaGreatRefPut
import Derived.Test.YtjbpfhnagiacmaaGreatRef
import Derived.Lib.AppendZeros
namespace Go.Proofs.YtjbpfhnagiacmaaGreat
section
set_option linter.unusedVariables false
set_option synthInstance.maxSize 20000
open Classical
open Go.RowKit Go.Maps
def RefAt (W : WS) (w : World) (r : Nat) (fr : List Nat) (S : St) : Prop := ∃ R dv lv, RO W w r fr S R dv lv
def RLeft (W : WS) (w : World) (r : Nat) (fr : List Nat) (S' : St) (w' : World) : Prop := (∃ fr', RefAt W w' r fr' S' ∧ Of fr w fr') ∧ Turn fr w w'
theorem RefAt.turn {W : WS} {w w' : World} {r : Nat} {fr X : List Nat} {S : St} (h : RefAt W w r fr S) (ht : Turn X w w') (hX : ∀ k ∈ fr, k ∉ X) (hn : ∀ k ∈ X, W.wd.heap.size ≤ k ∧ k ∉ W.sb) : RefAt W w' r fr S := by
  obtain ⟨R, dv, lv, h⟩ := h
  exact ⟨R, dv, lv, h.turn ht hX hn⟩
theorem RefAt.below {W : WS} {w w' : World} {r : Nat} {fr : List Nat} {S : St} (h : RefAt W w r fr S) (hb : Below w.heap.size w w') : RefAt W w' r fr S := by
  obtain ⟨R, dv, lv, h⟩ := h
  exact ⟨R, dv, lv, h.below hb⟩
theorem RefAt.room {W : WS} {w : World} {r : Nat} {fr : List Nat} {S : St} (h : RefAt W w r fr S) : ∀ k ∈ fr, k < w.heap.size := by
  obtain ⟨R, dv, lv, h⟩ := h
  exact h.room
theorem RefAt.new {W : WS} {w : World} {r : Nat} {fr : List Nat} {S : St} (h : RefAt W w r fr S) : ∀ k ∈ fr, W.wd.heap.size ≤ k := by
  obtain ⟨R, dv, lv, h⟩ := h
  exact h.new
theorem RefAt.bel {W : WS} {w : World} {r : Nat} {fr : List Nat} {S : St} (h : RefAt W w r fr S) : Below W.wd.heap.size W.wd w := by
  obtain ⟨R, dv, lv, h⟩ := h
  exact h.bel
theorem RefAt.good {W : WS} {w : World} {r : Nat} {fr : List Nat} {S : St} (h : RefAt W w r fr S) : Good S := by
  obtain ⟨R, dv, lv, h⟩ := h
  exact h.good
theorem RefAt.fsep {W : WS} {w : World} {r : Nat} {fr : List Nat} {S : St} (h : RefAt W w r fr S) : ∀ k ∈ fr, W.wd.heap.size ≤ k ∧ k ∉ W.sb := by
  obtain ⟨R, dv, lv, h⟩ := h
  exact h.fsep
theorem RefAt.wider {W : WS} {w : World} {r : Nat} {fr : List Nat} {S : St} (h : RefAt W w r fr S) (ks : List Nat) (hk : ∀ k ∈ ks, k ∉ fr ∧ k < w.heap.size) : RefAt ⟨W.wd, ks ++ W.sb⟩ w r fr S := by
  obtain ⟨R, dv, lv, h⟩ := h
  exact ⟨R, dv, lv, h.rows, h.blk, h.foot, h.new, h.room, h.bel, h.draws, h.own, h.apart, fun q hq => ⟨⟨(h.vals q hq).1.1, fun k e => ((h.vals q hq).1.2 k e).imp id (fun r => List.mem_append_right _ r)⟩, ⟨(h.vals q hq).2.1, fun k e => ((h.vals q hq).2.2 k e).imp id (fun r => List.mem_append_right _ r)⟩⟩, fun k e => by
    rcases List.mem_append.1 e with r | r
    · exact hk k r
    · exact h.sep k r, h.good, h.few⟩
theorem RO.len {W : WS} {w : World} {r : Nat} {fr : List Nat} {S : St} {R : List RRow} {dv lv : Value} (h : RO W w r fr S R dv lv) : R.length = S.rows.length := by rw [h.rows]; simp
theorem RLeft.same {W : WS} {w w' : World} {r : Nat} {fr : List Nat} {S : St} (h : RefAt W w r fr S) (hb : Below w.heap.size w w') : RLeft W w r fr S w' := ⟨⟨fr, h.below hb, Of.refl _ _⟩, Turn.of_below hb⟩
theorem RLeft.after {W : WS} {w w1 w2 : World} {r : Nat} {fr : List Nat} {S2 : St} (hb : Below w.heap.size w w1) (h2 : RLeft W w1 r fr S2 w2) : RLeft W w r fr S2 w2 := by
  obtain ⟨⟨fr2, a2, o2⟩, t2⟩ := h2
  exact ⟨⟨fr2, a2, Of.trans (Of.refl _ _) o2 hb.size⟩, (Turn.of_below hb).same t2⟩
theorem RLeft.then {W : WS} {w w1 w2 : World} {r : Nat} {fr : List Nat} {S1 : St} (h1 : RLeft W w r fr S1 w1) (hb : Below w1.heap.size w1 w2) : RLeft W w r fr S1 w2 := by
  obtain ⟨⟨fr1, a1, o1⟩, t1⟩ := h1
  exact ⟨⟨fr1, a1.below hb, o1⟩, t1.same (Turn.of_below hb)⟩
theorem rput_ref (W : WS) (w : World) (r : Nat) (fr : List Nat) (S : St) (h : RefAt W w r fr S) (x : What) (hx : WhatOk x) (va vb : Value) (ha : Kp W w va (aOf x)) (hb : Kp W w vb (bOf x)) (hN : S.rows.length + 1 ≤ 100000) :
    Calls Tryz.prog 52 #[ptr r, .agg #[.int .u64 0, .int .i64 (kindOf x), va, vb, .int .u64 (nOf x), .int .u64 (mOf x)]] w fun e w' => e = .returned (.int .u64 S.fresh) ∧ RLeft W w r fr (S.put x) w' := by
  obtain ⟨R, dv, lv, h⟩ := h
  refine (rput_any W w r fr S R dv lv h x hx va vb ha hb (by rw [h.len]; exact hN)).mono ?_
  rintro e w' ⟨rfl, ⟨fr', R', dv', lv', h', o'⟩, t⟩
  exact ⟨rfl, ⟨fr', ⟨R', dv', lv', h'⟩, o'⟩, t⟩
theorem rkey_any (W : WS) (w : World) (r : Nat) (fr : List Nat) (S : St) (h : RefAt W w r fr S) (hN : S.rows.length + 1 ≤ 100000) :
    Calls Tryz.prog 57 #[ptr r] w fun e w' => e = .returned (.int .u64 S.fresh) ∧ RLeft W w r fr (S.put .key) w' := by
  have H : Hid (RefAt W w r fr S) := h
  clear h
  go_enter Tryz.func57, Tryz.ntmps57
  go_wp2_with (go_at_call 52; go_must (refine (rput_ref W w r fr S H.out .key trivial (.slice none 0 0) (.slice none 0 0) (kp_nil _ _) (kp_nil _ _) hN).mono ?_; rintro e w1 ⟨rfl, hl⟩))
  go_ret
  exact ⟨rfl, hl⟩
theorem rpair_any (W : WS) (w : World) (r : Nat) (fr : List Nat) (S : St) (h : RefAt W w r fr S) (hN : S.rows.length + 2 ≤ 100000) :
    Calls Tryz.prog 22 #[ptr r] w fun e w' => e = .returned (.tuple #[.int .u64 S.fresh, .int .u64 (S.put .secret).fresh]) ∧ RLeft W w r fr S.pair w' := by
  have H : Hid (RefAt W w r fr S) := h
  have hlen := put_len S .secret
  have hU : Hid (U64 S.fresh) := (fresh_ok h.good (by omega)).2.2.1
  clear h
  obtain ⟨f, hf⟩ : ∃ f, S.fresh = f := ⟨_, rfl⟩
  have HF : Hid (S.fresh = f) := hf
  rw [hf]
  rw [hf] at hU
  clear hf
  go_enter Tryz.func22, Tryz.ntmps22
  go_wp2_with (go_at_call 52; go_must (first
    | (refine (rput_ref W w1 r fr1 (S.put .secret) H1.out (.pub f) hU.out (.slice none 0 0) (.slice none 0 0) (kp_nil _ _) (kp_nil _ _) (by omega)).mono ?_; rintro e w2 ⟨rfl, hl2⟩; clear H1)
    | (refine (rput_ref W w r fr S H.out .secret trivial (.slice none 0 0) (.slice none 0 0) (kp_nil _ _) (kp_nil _ _) (by omega)).mono ?_; rw [HF.out]; rintro e w1 ⟨rfl, hl⟩; obtain ⟨⟨fr1, h1, o1⟩, t1⟩ := hl; have H1 : Hid (RefAt W w1 r fr1 (S.put .secret)) := h1; clear h1)))
  go_ret2
  refine ⟨rfl, ?_⟩
  obtain ⟨⟨fr2, h2, o2⟩, t2⟩ := hl2
  refine ⟨⟨fr2, ?_, Of.trans o1 o2 t1.size⟩, t1.trans t2 o1⟩
  unfold St.pair
  rw [HF.out]
  exact h2
/-! ### the handle of a thing, found by looking -/
end
section
section
set_option linter.unusedVariables false
set_option synthInstance.maxSize 20000
open Classical
open Go.RowKit Go.Maps
/-! ### 'is', told by the plain oracle -/
theorem ris_no (W : WS) (w : World) (r : Nat) (fr : List Nat) (S : St) (h : RefAt W w r fr S) (g k : Int) (hk : ∀ x, S.at g = some x → kindOf x ≠ k) :
    Calls Tryz.prog 78 #[ptr r, .int .u64 g, .int .i64 k] w fun e w' => e = .returned (.tuple #[.agg #[.int .u64 0, .int .i64 0, .slice none 0 0, .slice none 0 0, .int .u64 0, .int .u64 0], .bool false]) ∧ Below w.heap.size w w' := by
  obtain ⟨R, dv, lv, h⟩ := h
  refine (ris_any W w r fr S R dv lv h g k).mono ?_
  cases hi : isOf R g k with
  | none => rintro e w' ⟨rfl, hb⟩; exact ⟨rfl, hb⟩
  | some q =>
    obtain ⟨_, _, h3, h4⟩ := isOf_some h.rows hi
    exact absurd h3 (hk _ h4)
theorem ris_yes (W : WS) (w : World) (r : Nat) (fr : List Nat) (S : St) (h : RefAt W w r fr S) (g k : Int) (x : What) (hx : S.at g = some x) (hk : kindOf x = k) :
    Calls Tryz.prog 78 #[ptr r, .int .u64 g, .int .i64 k] w fun e w' => ∃ a1 c1 a2 c2, e = .returned (.tuple #[.agg #[.int .u64 g, .int .i64 k, .slice a1 (aOf x).length c1, .slice a2 (bOf x).length c2, .int .u64 (nOf x), .int .u64 (mOf x)], .bool true]) ∧ Rd w (.slice a1 (aOf x).length c1) (aOf x) ∧ Rd w (.slice a2 (bOf x).length c2) (bOf x) ∧ Below w.heap.size w w' := by
  obtain ⟨R, dv, lv, h⟩ := h
  refine (ris_any W w r fr S R dv lv h g k).mono ?_
  cases hi : isOf R g k with
  | none => exact absurd hk (isOf_none h.rows hi x hx)
  | some q =>
    obtain ⟨h1, h2, h3, h4⟩ := isOf_some h.rows hi
    rw [hx] at h4
    have e : x = q.x := by injection h4
    subst e
    obtain ⟨va, vb⟩ := h.vals q h1
    obtain ⟨a1, c1, ea⟩ := va.1.len
    obtain ⟨a2, c2, eb⟩ := vb.1.len
    rintro e w' ⟨rfl, hb⟩
    refine ⟨a1, c1, a2, c2, ?_, ea ▸ va.1, eb ▸ vb.1, hb⟩
    unfold rowVal
    dsimp only
    rw [ea, eb, h2, h3]
    rfl
structure Fine (S : St) : Prop where
  once : ∀ s b g, (g, What.sig s b) ∈ S.rows → S.of (.sig s b) = some g
  wraps : ∀ g s k p, (g, What.wrap s k p) ∈ S.rows → S.at p = some (.pub s)
theorem notkind {S : St} {g : Int} {k : Int} : (∀ x, S.at g = some x → kindOf x ≠ k) ∨ ∃ x, S.at g = some x ∧ kindOf x = k := by
  cases h : S.at g with
  | none => exact .inl (fun x hx => by cases hx)
  | some x =>
    by_cases e : kindOf x = k
    · exact .inr ⟨x, rfl, e⟩
    · exact .inl (fun y hy => by cases hy; exact e)
theorem kind2 {x : What} (h : kindOf x = 2) : x = .key := by cases x using What.each <;> simp [kindOf] at h; rfl
theorem kind4 {x : What} (h : kindOf x = 4) : ∃ s, x = .pub s := by cases x using What.each <;> simp [kindOf] at h; exact ⟨_, rfl⟩
theorem kind6 {x : What} (h : kindOf x = 6) : ∃ k b p, x = .seal k b p := by cases x using What.each <;> simp [kindOf] at h; exact ⟨_, _, _, rfl⟩
theorem kind7 {x : What} (h : kindOf x = 7) : ∃ s k p, x = .wrap s k p := by cases x using What.each <;> simp [kindOf] at h; exact ⟨_, _, _, rfl⟩
end
section
set_option linter.unusedVariables false
set_option linter.unusedSimpArgs false
set_option synthInstance.maxSize 20000
open Classical
open Go.RowKit Go.Maps
theorem put_rows (S : St) (x : What) : (S.put x).rows = S.rows ++ [(S.fresh, x)] := rfl
theorem Fine.put {S : St} (hf : Fine S) (hg : Good S) (hN : S.rows.length < 1000000000) {x : What} (hs : ∀ s b, x = .sig s b → S.of (.sig s b) = none) (hw : ∀ s k p, x = .wrap s k p → S.at p = some (.pub s)) : Fine (S.put x) := by
  constructor
  · intro s b g h
    rw [put_rows] at h
    rcases List.mem_append.1 h with e | e
    · exact put_keeps (hf.once s b g e)
    · simp at e
      obtain ⟨e1, e2⟩ := e
      subst e1
      rw [put_of, hs s b e2.symm, ← e2, if_pos rfl]
      rfl
  · intro g s k p h
    rw [put_rows] at h
    rcases List.mem_append.1 h with e | e
    · exact at_put_old hg hN (hf.wraps g s k p e)
    · simp at e
      exact at_put_old hg hN (hw s k p e.2.symm)
theorem Fine.pair {S : St} (hf : Fine S) (hg : Good S) (hN : S.rows.length + 1 < 1000000000) : Fine S.pair := by
  unfold St.pair
  have h1 : Fine (S.put .secret) := hf.put hg (by omega) (fun _ _ e => by cases e) (fun _ _ _ e => by cases e)
  exact h1.put (put_good hg (by omega) (x := .secret) trivial) (by rw [put_len]; exact hN) (fun _ _ e => by cases e) (fun _ _ _ e => by cases e)
end
end
section
set_option linter.unusedVariables false
open Go.RowKit
set_option maxHeartbeats 400000 in
theorem refsize_any (c : Int) (w : World) (hc : -9223372036854775808 ≤ c ∧ c ≤ 9223372036854775807) : Calls Tryz.prog 45 #[.int .i64 c] w fun e w' => e = .returned (.int .i64 (sizeI c)) ∧ Below w.heap.size w w' := by
  by_cases h : 0 ≤ c ∧ c < 7
  · have h7 : c = 0 ∨ c = 1 ∨ c = 2 ∨ c = 3 ∨ c = 4 ∨ c = 5 ∨ c = 6 := by omega
    rcases h7 with rfl | rfl | rfl | rfl | rfl | rfl | rfl
    all_goals
      go_enter Tryz.func45, Tryz.ntmps45
      go_wp2
      go_ret
      exact ⟨rfl, (Below.refl _ _).alloc (Nat.le_refl _) _⟩
  · have HZ : Hid (sizeI c = 0) := by show _ = _; unfold sizeI; rw [if_neg h]
    by_cases h0 : c < 0
    · go_enter Tryz.func45, Tryz.ntmps45
      go_wp2
      go_ret
      refine ⟨?_, (Below.refl _ _).alloc (Nat.le_refl _) _⟩
      rw [HZ.out]
      rfl
    · go_enter Tryz.func45, Tryz.ntmps45
      go_wp2
      go_ret
      refine ⟨?_, (Below.refl _ _).alloc (Nat.le_refl _) _⟩
      rw [HZ.out]
      rfl
theorem sizeI_nat (c : Nat) (hc : c < 7) : sizeI c = ((16 * 2 ^ c : Nat) : Int) := by unfold sizeI; rw [if_pos (by omega)]; simp
theorem sizeI_le (c : Int) : 0 ≤ sizeI c ∧ sizeI c ≤ 1024 := by
  unfold sizeI
  split
  · rename_i h
    have h7 : c = 0 ∨ c = 1 ∨ c = 2 ∨ c = 3 ∨ c = 4 ∨ c = 5 ∨ c = 6 := by omega
    rcases h7 with rfl | rfl | rfl | rfl | rfl | rfl | rfl <;> simp
  · simp
theorem clsI_big (n : Int) (h : n < 0 ∨ n > 2000) : clsI n = -1 := by
  unfold clsI
  by_cases h0 : n < 0
  · rw [if_pos h0]
  · rw [if_neg h0, cls_none (by omega)]
set_option maxHeartbeats 400000 in
theorem refclass_any (n : Int) (w : World) (hn : -9223372036854775808 ≤ n ∧ n ≤ 9223372036854775807) :
    Calls Tryz.prog 47 #[.int .i64 n] w fun e w' => e = .returned (.int .i64 (clsI n)) ∧ Below w.heap.size w w' := by
  by_cases h0 : n < 0
  · go_enter Tryz.func47, Tryz.ntmps47
    go_wp2
    go_ret
    refine ⟨?_, Below.refl _ _⟩
    rw [clsI_big n (.inl h0)]
    rfl
  · by_cases h1 : n > 2000
    · go_enter Tryz.func47, Tryz.ntmps47
      go_wp2
      go_ret
      refine ⟨?_, Below.refl _ _⟩
      rw [clsI_big n (.inr h1)]
      rfl
    · obtain ⟨m, rfl⟩ := Int.eq_ofNat_of_zero_le (by omega : 0 ≤ n)
      have hf := form_le10 (n := m) (by omega)
      go_enter Tryz.func47, Tryz.ntmps47
      go_wp2
      go_loopw [3] (fun i wr => ∃ c : Nat, c ≤ 7 ∧ i = .int .i64 c ∧ Hid (c = 0 ∨ roomOf (c - 1) < m) ∧ Below w.heap.size w wr) (fun i _ => 7 - (intOf i).toNat)
      case atStart => exact ⟨0, by omega, rfl, .inl rfl, Below.refl _ _⟩
      case round =>
        obtain ⟨c, hc, rfl, hr, hb⟩ := hrel
        have HB : Hid (Below w.heap.size w wr) := hb
        clear hb
        by_cases h7 : c < 7
        · have HF : Hid (m + (form m).length ≤ 16 * 2 ^ c ↔ m ≤ roomOf c) := fits c m h7
          have hs := sizeI_le c
          have hsz := sizeI_nat c h7
          have HS : Hid (∀ w, Calls Tryz.prog 45 #[.int .i64 c] w fun e w' => e = .returned (.int .i64 ((16 * 2 ^ c : Nat) : Int)) ∧ Below w.heap.size w w') := fun w => by
            have := refsize_any c w (by omega)
            rwa [hsz] at this
          rw [hsz] at hs
          clear hsz
          generalize 16 * 2 ^ c = s at *
          by_cases hle : m + (form m).length ≤ s
          · go_wp2_with (first | (go_at_call 60; go_must (refine (refnum m _ (by omega)).mono ?_; rintro e w1 ⟨v1, rfl, hown, hb1⟩; obtain ⟨a1, c1, rfl⟩ := hown.rd.len)) | (go_at_call 45; go_must (refine (HS.out _).mono ?_; rintro e w2 ⟨rfl, hb2⟩)))
            go_ret
            refine ⟨?_, bnext (bnext HB.out hb1) hb2⟩
            rw [clsI_nat, cls_hit h7 hr.out (HF.out.1 hle)]
            rfl
          · have hnf : Hid (¬ m ≤ roomOf c) := fun h => hle (HF.out.2 h)
            go_wp2_with (first | (go_at_call 60; go_must (refine (refnum m _ (by omega)).mono ?_; rintro e w1 ⟨v1, rfl, hown, hb1⟩; obtain ⟨a1, c1, rfl⟩ := hown.rd.len)) | (go_at_call 45; go_must (refine (HS.out _).mono ?_; rintro e w2 ⟨rfl, hb2⟩)))
            go_roundw
            case rel => exact ⟨c + 1, by omega, by go_num, .inr (by simpa using hnf.out), bnext (bnext HB.out hb1) hb2⟩
            case measure => simp [intOf]; omega
        · have : c = 7 := by omega
          subst this
          have hc6 : Hid (cls m = -1) := by
            have := hr.out
            simp [roomOf] at this
            exact cls_none this
          go_wp2
          go_ret
          refine ⟨?_, HB.out⟩
          rw [clsI_nat, hc6.out]
          rfl
theorem cls_le (c m : Nat) (hc : c < 7) : (0 ≤ cls m ∧ cls m ≤ c) ↔ m ≤ roomOf c := by
  have h7 : c = 0 ∨ c = 1 ∨ c = 2 ∨ c = 3 ∨ c = 4 ∨ c = 5 ∨ c = 6 := by omega
  unfold cls
  rcases h7 with rfl | rfl | rfl | rfl | rfl | rfl | rfl <;> simp [roomOf] <;> (repeat' split) <;> omega
theorem cls_lt (m : Nat) : -1 ≤ cls m ∧ cls m < 7 := by unfold cls; (repeat' split) <;> omega
end
section
set_option linter.unusedVariables false
set_option synthInstance.maxSize 20000
open Classical
open Go.RowKit Go.Maps
theorem own_byte (w : World) (B : Nat) (hB : B ≤ w.heap.size) (x : Int) (hx : 0 ≤ x ∧ x < 256) : Own B 5 (w.alloc (.cells #[.int .u8 x] 5)) (.slice (some ⟨w.heap.size, 0, none⟩) 1 1) [x] :=
  ⟨Oct.cons hx Oct.nil, rfl, .inr ⟨w.heap.size, 1, #[.int .u8 x], rfl, hB, heap_alloc_new w _, Nat.le_refl _, by unfold maxLen; omega, rfl, rfl⟩⟩
theorem be8_step (n : Int) (k : Nat) (hk : k < 8) : (be8 n).drop (8 - (k + 1)) = (n / 256 ^ k % 256) :: (be8 n).drop (8 - k) := by
  have h8 : k = 0 ∨ k = 1 ∨ k = 2 ∨ k = 3 ∨ k = 4 ∨ k = 5 ∨ k = 6 ∨ k = 7 := by omega
  rcases h8 with rfl | rfl | rfl | rfl | rfl | rfl | rfl | rfl <;> simp [be8]
set_option maxHeartbeats 1000000 in
theorem eight_any (n : Int) (w : World) (hn : U64 n) :
    Calls Tryz.prog 79 #[.int .u64 n] w fun e w' => ∃ v', e = .returned v' ∧ Own w.heap.size 5 w' v' (be8 n) ∧ Below w.heap.size w w' := by
  unfold U64 at hn
  go_enter Tryz.func79, Tryz.ntmps79
  go_wp2
  go_loopw [0, 3, 4] (fun nv v i wr => ∃ k : Nat, k ≤ 8 ∧ i = .int .i64 k ∧ nv = .int .u64 (n / 256 ^ k) ∧ Hid (Own w.heap.size 5 wr v ((be8 n).drop (8 - k))) ∧ Hid (Below w.heap.size w wr)) (fun _ _ i _ => 8 - (intOf i).toNat)
  case atStart => exact ⟨0, by omega, rfl, by simp, own_nil _ _ _, Below.refl _ _⟩
  case round =>
    obtain ⟨k, hk, rfl, rfl, HO, HB⟩ := hrel
    by_cases h8 : k < 8
    · have hN0 : 0 ≤ n / 256 ^ k := Int.ediv_nonneg hn.1 (Int.pow_nonneg (by omega))
      have hN1 : n / 256 ^ k < 18446744073709551616 := Int.lt_of_le_of_lt (Int.ediv_le_self _ hn.1) hn.2
      have hstep := be8_step n k h8
      have hnext : n / 256 ^ k / 256 = n / 256 ^ (k + 1) := by rw [Int.ediv_ediv_of_nonneg (Int.pow_nonneg (by omega)), Int.pow_succ]
      have HST : Hid ((be8 n).drop (8 - (k + 1)) = (n / 256 ^ k % 256) :: (be8 n).drop (8 - k) ∧ n / 256 ^ k / 256 = n / 256 ^ (k + 1)) := ⟨hstep, hnext⟩
      clear hstep hnext
      generalize n / 256 ^ k = N at HST hN0 hN1 ⊢
      have hlen : ((be8 n).drop (8 - k)).length ≤ 8 := by simp [be8]
      generalize (be8 n).drop (8 - k) = l at HST HO hlen
      obtain ⟨va, vc, rfl⟩ := HO.out.rd.len
      have ht : N.tmod 256 = N % 256 := Int.tmod_eq_emod_of_nonneg hN0
      have hq : N.tdiv 256 = N / 256 := Int.tdiv_eq_ediv_of_nonneg hN0
      go_wp2_with (at_builtin; go_must (refine wpList_append_cells 25 5 bytes5 rfl _ _ rfl w.heap.size _ [N % 256] rfl (own_byte wr w.heap.size HB.out.size (N % 256) (by omega)) _ l rfl (HO.out.rd.below (balloc (Below.refl _ _) _)) (by simp; omega) (by have := HB.out.size; simp; omega) ?_; intro v' w' hown hg))
      obtain ⟨va2, vc2, rfl⟩ := hown.rd.len
      go_roundw
      case rel =>
        refine ⟨k + 1, by omega, by go_num, by rw [← HST.out.2], ?_, ?_⟩
        · rw [HST.out.1]
          exact hown
        · exact bgrown (b := wr.heap.size) (balloc HB.out _) HB.out.size hg
      case measure => simp [intOf]; omega
    · obtain rfl : k = 8 := by omega
      obtain ⟨va, vc, rfl⟩ := HO.out.rd.len
      go_wp2
      go_ret
      exact ⟨_, rfl, HO.out, HB.out⟩
def refHandle (l : List Int) : Int := if l.length < 8 then 0 else if l.drop 8 = List.replicate (l.length - 8) 0 then upTo l 8 else 0
theorem zeros_tail (l : List Int) : l.drop 8 = List.replicate (l.length - 8) 0 ↔ ∀ j, 8 ≤ j → j < l.length → l.getD j 0 = 0 := by
  constructor
  · intro h j h1 h2
    have := congrArg (fun m => m[j - 8]?) h
    simp only [List.getElem?_drop, List.getElem?_replicate, if_pos (show j - 8 < l.length - 8 by omega)] at this
    rw [show 8 + (j - 8) = j by omega] at this
    rw [List.getD_eq_getElem?_getD, this]
    rfl
  · intro h
    apply List.ext_getElem?
    intro i
    rw [List.getElem?_drop, List.getElem?_replicate]
    split
    · have := h (8 + i) (by omega) (by omega)
      rw [List.getD_eq_getElem?_getD, List.getElem?_eq_getElem (show 8 + i < l.length by omega)] at this
      rw [List.getElem?_eq_getElem (show 8 + i < l.length by omega)]
      simpa using this
    · exact List.getElem?_eq_none (by omega)
theorem refHandle_short {l : List Int} (h : l.length < 8) : refHandle l = 0 := by unfold refHandle; rw [if_pos h]
theorem refHandle_bad {l : List Int} (h : ¬ l.length < 8) (hz : ¬ ∀ j, 8 ≤ j → j < l.length → l.getD j 0 = 0) : refHandle l = 0 := by unfold refHandle; rw [if_neg h, if_neg (fun e => hz ((zeros_tail l).1 e))]
theorem refHandle_ok {l : List Int} (h : ¬ l.length < 8) (hz : ∀ j, 8 ≤ j → j < l.length → l.getD j 0 = 0) : refHandle l = upTo l 8 := by unfold refHandle; rw [if_neg h, if_pos ((zeros_tail l).2 hz)]
set_option maxHeartbeats 1000000 in
theorem handle_any (v : Value) (l : List Int) (w : World) (hv : Rd w v l) :
    Calls Tryz.prog 86 #[v] w fun e w' => e = .returned (.int .u64 (refHandle l)) ∧ w' = w := by
  have ho := hv.oct
  have HV : Hid (Rd w v l) := hv
  obtain ⟨_, a, c, rfl, h1, h2, h3, h4⟩ := hv
  unfold maxLen at h2
  by_cases hs : l.length < 8
  · rw [refHandle_short hs]
    go_enter Tryz.func86, Tryz.ntmps86
    go_wp2
    go_ret
    exact ⟨rfl, rfl⟩
  · have HS8 : Hid (¬ l.length < 8) := hs
    obtain ⟨b, off, rfl, hc⟩ := h4 (by omega)
    have HC : Hid (∀ j, j < l.length → w.cell? ⟨b, off + j, none⟩ = some (.int .u8 (l.getD j 0))) := hc
    have HO : Hid (Oct l) := ho
    clear h4 hc h3 ho
    go_enter Tryz.func86, Tryz.ntmps86
    go_wp2
    go_loopw [3, 4] (fun nv i wr => ∃ k : Nat, k ≤ 8 ∧ i = .int .i64 k ∧ nv = .int .u64 (upTo l k) ∧ wr = w) (fun _ i _ => 8 - (intOf i).toNat)
    case atStart => exact ⟨0, by omega, rfl, rfl, rfl⟩
    case round =>
      obtain ⟨k, hk, rfl, rfl, rfl⟩ := hrel
      by_cases h8 : k < 8
      · have cj := HC.out k (by omega)
        have hx := HO.out.at k
        have hu := upTo_bound HO.out k (by omega)
        have hu2 : (256 : Int) ^ k ≤ 256 ^ 7 := by
          have : (256 : Nat) ^ k ≤ 256 ^ 7 := Nat.pow_le_pow_right (by omega) (by omega)
          have h3 := Int.ofNat_le.2 this
          rw [Int.natCast_pow, Int.natCast_pow] at h3
          exact h3
        have e7 : (256 : Int) ^ 7 = 72057594037927936 := by decide
        have hs1 : upTo l (k + 1) = upTo l k * 256 + l.getD k 0 := upTo_succ (by omega)
        have HS1 : Hid (upTo l (k + 1) = upTo l k * 256 + l.getD k 0) := hs1
        clear hs1
        obtain ⟨y, hy⟩ : ∃ y, l.getD k 0 = y := ⟨_, rfl⟩
        rw [hy] at cj hx HS1
        clear hy
        have w1 : IntKind.u64.wrap (upTo l k * 256) = upTo l k * 256 := wraps_u64 _ (by omega) (by omega)
        have w2 : IntKind.u64.wrap (upTo l k * 256 + y) = upTo l k * 256 + y := wraps_u64 _ (by omega) (by omega)
        have w3 : IntKind.u64.wrap y = y := wraps_u64 _ (by omega) (by omega)
        clear hu hu2 e7
        generalize upTo l k = N at HS1 w1 w2 ⊢
        go_wp2
        go_roundw
        case rel => exact ⟨k + 1, by omega, by go_num, by rw [HS1.out], by first | rfl | trivial⟩
        case measure => simp [intOf]; omega
      · obtain rfl : k = 8 := by omega
        obtain ⟨N, hN8⟩ : ∃ N, upTo l 8 = N := ⟨_, rfl⟩
        have HN8 : Hid (upTo l 8 = N) := hN8
        rw [hN8]
        clear hN8
        go_wp2
        go_loopw [5] (fun i wr2 => ∃ k : Nat, 8 ≤ k ∧ k ≤ l.length ∧ i = .int .i64 k ∧ Hid (∀ j, 8 ≤ j → j < k → l.getD j 0 = 0) ∧ wr2 = wr) (fun i _ => l.length - (intOf i).toNat)
        case atStart => exact ⟨8, by omega, by omega, rfl, (fun j h1 h2 => by omega), rfl⟩
        case round =>
          obtain ⟨k, hk, hkl, rfl, HZ, rfl⟩ := hrel
          by_cases hlt : k < l.length
          · have cj := HC.out k hlt
            obtain ⟨y, hy⟩ : ∃ y, l.getD k 0 = y := ⟨_, rfl⟩
            have HY : Hid (l.getD k 0 = y) := hy
            rw [hy] at cj
            clear hy
            by_cases h0 : y = 0
            · subst h0
              go_wp2
              go_roundw
              case rel => exact ⟨k + 1, by omega, by omega, by go_num, (fun j h1 h2 => by
                by_cases e : j = k
                · rw [e]; exact HY.out
                · exact HZ.out j h1 (by omega)), by first | rfl | trivial⟩
              case measure => simp [intOf]; omega
            · have h0' : (y != 0) = true := by simpa using h0
              have HN : Hid (¬ ∀ j, 8 ≤ j → j < l.length → l.getD j 0 = 0) := (fun h => h0 (by rw [← HY.out]; exact h k hk hlt) : ¬ _)
              clear h0
              go_wp2
              go_ret
              rw [refHandle_bad HS8.out HN.out]
              exact ⟨rfl, rfl⟩
          · obtain rfl : k = l.length := by omega
            go_wp2
            go_ret
            rw [refHandle_ok HS8.out HZ.out, HN8.out]
            exact ⟨rfl, rfl⟩
/-! ### bytes 0 behind -/
theorem zc (m : Nat) : (Builtin.zeroCells #[Value.int .u8 0] m).toList = cs8 (List.replicate m 0) := by
  apply List.ext_getElem
  · simp [Builtin.zeroCells, cs8]
  · intro i h1 h2
    simp [Builtin.zeroCells, cs8, Nat.mod_one]
theorem run_append_zeros {P : Program} (w : World) (B : Nat) (t tn ty e : TypeId) (i : TypeInfo) (k kn : IntKind) (ht : P.underlying t = some (.slice e)) (htn : P.underlying tn = some (.int kn)) (hi : P.info? e = some i) (hz : i.zero = some (.int .u8 0)) (hs : i.size = 1) (hby : i.bytes = 1)
    (g n cap : Nat) (cur : Array Value) (l : List Int) (hg : w.heap[g]? = some (.cells cur e (0, 0))) (hle : n ≤ cap) (hm : cap ≤ maxLen) (hcs : cur.size = cap) (htake : cur.toList.take n = cs8 l) (m : Nat) (h0 : 0 < m) (hm2 : n + m ≤ 100000) (hB : B ≤ w.heap.size) (hBg : B ≤ g) :
    ∃ v' w', (Builtin.append_ #[t, tn] ty #[.slice (some ⟨g, 0, none⟩) n cap, .int k m]).run P w = .ok v' w' ∧ w'.ownsRow B e 1 v' (n + m) (cs8 (l ++ List.replicate m 0)) ∧ w.grownBy w' (some g) := by
  have hln : l.length = n := by
    have := congrArg List.length htake
    simp [cs8] at this
    omega
  have hw : IntKind.i64.wrap (m : Int) = m := by rw [IntKind.wrap_i64]; omega
  have hneg : ¬ ((m : Int) < 0) := by omega
  have hm0 : ¬ m = 0 := by omega
  have h48i : ¬ (281474976710656 < (m : Int)) := by omega
  have hzl : (Builtin.zeroCells #[Value.int .u8 0] m).toList = cs8 (List.replicate m 0) := zc m
  by_cases hroom : n + m ≤ cap
  · have hst := run_storeCells_at P g n e (cs8 (List.replicate m 0)) 0 cur w hg (by simp [cs8]; omega) (cs8_one _)
    simp only [Nat.add_zero] at hst
    refine ⟨.slice (some ⟨g, 0, none⟩) (n + m) cap, w.setRow g (cur.toList.take n ++ cs8 (List.replicate m 0) ++ cur.toList.drop (n + (cs8 (List.replicate m 0)).length)).toArray, ?_, ?_, ?_⟩
    · simp [Builtin.append_, run_underlying ht, run_underlying htn, sizeOf, typeInfo, zeroValue, hi, hz, hs, hby, asInt, asIntOf, hw, hneg, hm0, h48i, hroom, Addr.add_lit, Value.cells, hzl, hst]
    · refine ⟨by simp [cs8]; omega, .inr ⟨g, cap, _, rfl, hBg, setRow_heap w g cur _ e _ hg, hroom, hm, ?_, ?_⟩⟩
      · simp [cs8]
        omega
      · rw [htake, cs8_append]
        have hl2 : (cs8 l ++ cs8 (List.replicate m 0)).length = (n + m) * 1 := by simp [cs8]; omega
        rw [← hl2]
        exact List.take_left
    · exact ⟨rfl, rfl, rfl, by simp, fun k _ hk => setRow_other w g k _ (fun e => hk (by rw [e]))⟩
  · have h63' : ¬ (9223372036854775807 < ((n : Int) + (m : Int))) := by omega
    have h48' : ¬ (281474976710656 < Builtin.nextslicecap (n + m) cap) := by
      have := growslice_fits (need := n + m) (old := cap) (bytes := 1) (by omega) (by omega)
      omega
    have holds : ∀ j u, (cs8 l)[j]? = some u → w.drew.cell? ((⟨g, 0, none⟩ : Addr).add j) = some u := by
      intro j u hj
      have hjl : j < n := by
        have := (List.getElem?_eq_some_iff.1 hj).1
        simp [cs8] at this
        omega
      rw [Addr.add_lit, Nat.zero_add]
      show w.cell? _ = _
      unfold World.cell?
      simp only [hg]
      rw [← htake, List.getElem?_take, if_pos hjl] at hj
      simpa using hj
    have hfo := run_firstCells_some (P := P) w.drew 1 n ⟨g, 0, none⟩ n cap (cs8 l) (by simp [cs8]; omega) holds
    have hge := grownCap_ge w (n + m) cap e
    have hcm : grownCap w (n + m) cap e ≤ maxLen := grownCap_le_maxLen w (n + m) cap e (by unfold maxLen; omega)
    refine ⟨.slice (some ⟨w.heap.size, 0, none⟩) (n + m) (grownCap w (n + m) cap e), w.drew.alloc (.cells ((cs8 l).toArray ++ Builtin.zeroCells #[Value.int .u8 0] m ++ Builtin.zeroCells #[Value.int .u8 0] (grownCap w (n + m) cap e - (n + m))) e), ?_, ?_, ?_⟩
    · simp [Builtin.append_, run_underlying ht, run_underlying htn, sizeOf, typeInfo, zeroValue, hi, hz, hs, hby, asInt, asIntOf, hw, hneg, hm0, h48i, hroom, h63', h48', Question.forced, Value.cells, hfo, newRow, grownCap]
    · refine ⟨by simp [cs8]; omega, .inr ⟨w.heap.size, _, _, rfl, hB, heap_alloc_new w.drew _, hge, hcm, ?_, ?_⟩⟩
      · simp [size_zeroCells, cs8]
        omega
      · have hl2 : (cs8 (l ++ List.replicate m 0)).length = (n + m) * 1 := by simp [cs8]; omega
        simp only [Array.toList_append, hzl]
        rw [← hl2, cs8_append]
        exact List.take_left
    · exact ⟨rfl, rfl, rfl, by simp, fun k hk _ => heap_alloc_old w.drew _ hk⟩
end
end Go.Proofs.YtjbpfhnagiacmaaGreat
