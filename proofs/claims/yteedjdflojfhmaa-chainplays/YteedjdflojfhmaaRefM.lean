/-
  The reference's Key, Pair, Hash, Sign and Verify answer as the plain oracle does.
-/
import Derived.Test.YteedjdflojfhmaaRefPut
namespace Go.Proofs.Yteedjdflojfhmaa
set_option linter.unusedVariables false
set_option synthInstance.maxSize 20000
open Classical
open Go.RowKit Go.Maps

def RefAt (W : WS) (w : World) (r : Nat) (fr : List Nat) (S : St) : Prop := ∃ R dv lv, RO W w r fr S R dv lv
def RLeft (W : WS) (w : World) (r : Nat) (fr : List Nat) (S' : St) (w' : World) : Prop := (∃ fr', RefAt W w' r fr' S' ∧ Of fr w fr') ∧ Turn fr w w'

theorem RefAt.turn {W : WS} {w w' : World} {r : Nat} {fr X : List Nat} {S : St} (h : RefAt W w r fr S) (ht : Turn X w w') (hX : ∀ k ∈ fr, k ∉ X) (hn : ∀ k ∈ X, W.wd.heap.size ≤ k ∧ k ∉ W.sb) : RefAt W w' r fr S := by
  obtain ⟨R, dv, lv, h⟩ := h
  exact ⟨R, dv, lv, h.turn ht hX hn⟩
theorem RefAt.below {W : WS} {w w' : World} {r : Nat} {fr : List Nat} {S : St} (h : RefAt W w r fr S) (hb : Below w.heap.size w w') : RefAt W w' r fr S := by
  obtain ⟨R, dv, lv, h⟩ := h
  exact ⟨R, dv, lv, h.below hb⟩
theorem RefAt.room {W : WS} {w : World} {r : Nat} {fr : List Nat} {S : St} (h : RefAt W w r fr S) : ∀ k ∈ fr, k < w.heap.size := by
  obtain ⟨R, dv, lv, h⟩ := h
  exact h.room
theorem RefAt.new {W : WS} {w : World} {r : Nat} {fr : List Nat} {S : St} (h : RefAt W w r fr S) : ∀ k ∈ fr, W.wd.heap.size ≤ k := by
  obtain ⟨R, dv, lv, h⟩ := h
  exact h.new
theorem RefAt.bel {W : WS} {w : World} {r : Nat} {fr : List Nat} {S : St} (h : RefAt W w r fr S) : Below W.wd.heap.size W.wd w := by
  obtain ⟨R, dv, lv, h⟩ := h
  exact h.bel
theorem RefAt.good {W : WS} {w : World} {r : Nat} {fr : List Nat} {S : St} (h : RefAt W w r fr S) : Good S := by
  obtain ⟨R, dv, lv, h⟩ := h
  exact h.good
theorem RefAt.fsep {W : WS} {w : World} {r : Nat} {fr : List Nat} {S : St} (h : RefAt W w r fr S) : ∀ k ∈ fr, W.wd.heap.size ≤ k ∧ k ∉ W.sb := by
  obtain ⟨R, dv, lv, h⟩ := h
  exact h.fsep
/-- More blocks that stay. -/
theorem RefAt.wider {W : WS} {w : World} {r : Nat} {fr : List Nat} {S : St} (h : RefAt W w r fr S) (ks : List Nat) (hk : ∀ k ∈ ks, k ∉ fr ∧ k < w.heap.size) : RefAt ⟨W.wd, ks ++ W.sb⟩ w r fr S := by
  obtain ⟨R, dv, lv, h⟩ := h
  exact ⟨R, dv, lv, h.rows, h.blk, h.foot, h.new, h.room, h.bel, h.draws, h.own, h.apart, fun q hq => ⟨⟨(h.vals q hq).1.1, fun k e => ((h.vals q hq).1.2 k e).imp id (fun r => List.mem_append_right _ r)⟩, ⟨(h.vals q hq).2.1, fun k e => ((h.vals q hq).2.2 k e).imp id (fun r => List.mem_append_right _ r)⟩⟩, fun k e => by
    rcases List.mem_append.1 e with r | r
    · exact hk k r
    · exact h.sep k r, h.good, h.few⟩
theorem RO.len {W : WS} {w : World} {r : Nat} {fr : List Nat} {S : St} {R : List RRow} {dv lv : Value} (h : RO W w r fr S R dv lv) : R.length = S.rows.length := by rw [h.rows]; simp
theorem RLeft.same {W : WS} {w w' : World} {r : Nat} {fr : List Nat} {S : St} (h : RefAt W w r fr S) (hb : Below w.heap.size w w') : RLeft W w r fr S w' := ⟨⟨fr, h.below hb, Of.refl _ _⟩, Turn.of_below hb⟩
/-- One step behind another. -/
theorem RLeft.after {W : WS} {w w1 w2 : World} {r : Nat} {fr : List Nat} {S2 : St} (hb : Below w.heap.size w w1) (h2 : RLeft W w1 r fr S2 w2) : RLeft W w r fr S2 w2 := by
  obtain ⟨⟨fr2, a2, o2⟩, t2⟩ := h2
  exact ⟨⟨fr2, a2, Of.trans (Of.refl _ _) o2 hb.size⟩, (Turn.of_below hb).same t2⟩
theorem RLeft.then {W : WS} {w w1 w2 : World} {r : Nat} {fr : List Nat} {S1 : St} (h1 : RLeft W w r fr S1 w1) (hb : Below w1.heap.size w1 w2) : RLeft W w r fr S1 w2 := by
  obtain ⟨⟨fr1, a1, o1⟩, t1⟩ := h1
  exact ⟨⟨fr1, a1.below hb, o1⟩, t1.same (Turn.of_below hb)⟩

theorem rput_ref (W : WS) (w : World) (r : Nat) (fr : List Nat) (S : St) (h : RefAt W w r fr S) (x : What) (hx : WhatOk x) (va vb : Value) (ha : Kp W w va (aOf x)) (hb : Kp W w vb (bOf x)) (hN : S.rows.length + 1 ≤ 100000) :
    Calls Try.prog 38 #[ptr r, .agg #[.int .u64 0, .int .i64 (kindOf x), va, vb, .int .u64 (nOf x), .int .u64 (mOf x)]] w fun e w' => e = .returned (.int .u64 S.fresh) ∧ RLeft W w r fr (S.put x) w' := by
  obtain ⟨R, dv, lv, h⟩ := h
  refine (rput_any W w r fr S R dv lv h x hx va vb ha hb (by rw [h.len]; exact hN)).mono ?_
  rintro e w' ⟨rfl, ⟨fr', R', dv', lv', h', o'⟩, t⟩
  exact ⟨rfl, ⟨fr', ⟨R', dv', lv', h'⟩, o'⟩, t⟩

theorem rpair_any (W : WS) (w : World) (r : Nat) (fr : List Nat) (S : St) (h : RefAt W w r fr S) (hN : S.rows.length + 2 ≤ 100000) :
    Calls Try.prog 13 #[ptr r] w fun e w' => e = .returned (.tuple #[.int .u64 S.fresh, .int .u64 (S.put .secret).fresh]) ∧ RLeft W w r fr S.pair w' := by
  have H : Hid (RefAt W w r fr S) := h
  have hlen := put_len S .secret
  have hU : Hid (U64 S.fresh) := (fresh_ok h.good (by omega)).2.2.1
  clear h
  obtain ⟨f, hf⟩ : ∃ f, S.fresh = f := ⟨_, rfl⟩
  have HF : Hid (S.fresh = f) := hf
  rw [hf]
  rw [hf] at hU
  clear hf
  go_enter Try.func13, Try.ntmps13
  go_wp2_with (go_at_call 38; go_must (first
    | (refine (rput_ref W w1 r fr1 (S.put .secret) H1.out (.pub f) hU.out (.slice none 0 0) (.slice none 0 0) (kp_nil _ _) (kp_nil _ _) (by omega)).mono ?_; rintro e w2 ⟨rfl, hl2⟩; clear H1)
    | (refine (rput_ref W w r fr S H.out .secret trivial (.slice none 0 0) (.slice none 0 0) (kp_nil _ _) (kp_nil _ _) (by omega)).mono ?_; rw [HF.out]; rintro e w1 ⟨rfl, hl⟩; obtain ⟨⟨fr1, h1, o1⟩, t1⟩ := hl; have H1 : Hid (RefAt W w1 r fr1 (S.put .secret)) := h1; clear h1)))
  go_ret2
  refine ⟨rfl, ?_⟩
  obtain ⟨⟨fr2, h2, o2⟩, t2⟩ := hl2
  refine ⟨⟨fr2, ?_, Of.trans o1 o2 t1.size⟩, t1.trans t2 o1⟩
  unfold St.pair
  rw [HF.out]
  exact h2

/-! ### the handle of a thing, found by looking -/
theorem of_hit {S : St} {R : List RRow} (hr : S.rows = R.map fun q => (q.h, q.x)) {x : What} {i : Nat} {q : RRow} (hi : R[i]? = some q) (hq : q.x = x) (hb : ∀ j p, j < i → R[j]? = some p → p.x ≠ x) : S.of x = some q.h := by
  unfold St.of
  rw [hr, List.find?_map]
  have : R.find? (fun q => decide (q.x = x)) = some q := by
    rw [List.find?_eq_some_iff_getElem]
    obtain ⟨h1, h2⟩ := List.getElem?_eq_some_iff.1 hi
    exact ⟨by simp [hq], i, h1, h2, fun j hj => by simpa using hb j R[j] hj (List.getElem?_eq_getElem _)⟩
  show Option.map _ (Option.map _ (R.find? fun q => decide (q.x = x))) = _
  rw [this]
  rfl
theorem of_miss {S : St} {R : List RRow} (hr : S.rows = R.map fun q => (q.h, q.x)) {x : What} (hb : ∀ j p, j < R.length → R[j]? = some p → p.x ≠ x) : S.of x = none := by
  unfold St.of
  rw [hr, List.find?_map]
  have : R.find? (fun q => decide (q.x = x)) = none := by
    rw [List.find?_eq_none]
    intro q hq
    obtain ⟨j, hj, rfl⟩ := List.mem_iff_getElem.1 hq
    simpa using hb j R[j] hj (List.getElem?_eq_getElem _)
  show Option.map _ (Option.map _ (R.find? fun q => decide (q.x = x))) = _
  rw [this]
  rfl

set_option maxHeartbeats 2000000 in
set_option maxRecDepth 20000 in
theorem rhash_any (W : WS) (w : World) (r : Nat) (fr : List Nat) (S : St) (h : RefAt W w r fr S) (hN : S.rows.length + 1 ≤ 100000) (v : Value) (b : List Int) (hv : Kp W w v b) :
    Calls Try.prog 78 #[ptr r, v] w fun e w' => e = .returned (.int .u64 (S.get (.hash b)).1) ∧ RLeft W w r fr (S.get (.hash b)).2 w' := by
  obtain ⟨R, dv, lv, h⟩ := h
  have HV : Hid (Kp W w v b) := hv
  have H0 : Hid (RO W w r fr S R dv lv) := h
  have HROWS : Hid (S.rows = R.map fun q => (q.h, q.x)) := h.rows
  have hfew := h.few
  have HLEN : Hid (R.length = S.rows.length) := h.len
  have hob : WhatOk (.hash b) := hv.1.oct
  have HOB : Hid (WhatOk (.hash b)) := hob
  obtain ⟨la, lc, rfl, hl1, hl2⟩ := slice_of_own h.own
  obtain ⟨bv, bc, rfl⟩ := hv.1.len
  clear h hv hob
  go_enter Try.func78, Try.ntmps78
  go_wp2
  go_loopw [5] (fun i wr => ∃ m : Nat, m ≤ R.length ∧ i = .int .i64 m ∧ Hid (∀ j p, j < m → R[j]? = some p → p.x ≠ .hash b) ∧ Hid (RO W wr r fr S R dv (.slice la R.length lc)) ∧ Hid (Below w.heap.size w wr)) (fun i _ => R.length - (intOf i).toNat)
  case atStart => exact ⟨0, by omega, rfl, (fun j p hj => by omega), H0, Below.refl _ _⟩
  case round =>
    obtain ⟨m, hm, rfl, hb, H, HBE⟩ := hrel
    clear H0
    have k1 := H.out.blk.cell 1 _ rfl
    by_cases hlt : m < R.length
    · obtain ⟨q, hq⟩ : ∃ q, R[m]? = some q := ⟨_, List.getElem?_eq_getElem hlt⟩
      have HQ : Hid (R[m]? = some q) := hq
      obtain ⟨gb, cap, e, _, _, hc⟩ := H.out.row hq
      cases e
      obtain ⟨va, vb⟩ := H.out.vals q (List.mem_of_getElem? hq)
      have VA : Hid (Kp W wr q.a (aOf q.x)) := va
      obtain ⟨a1, n1, ea⟩ := va.1.len
      have q1 := hc 1 _ rfl
      have q2 := hc 2 _ rfl
      rw [ea] at q2 VA
      clear hc va vb ea hq
      by_cases hk : kindOf q.x = 1
      · obtain ⟨l, hl⟩ : ∃ l, q.x = .hash l := by
          revert hk
          generalize q.x = x
          intro hk
          cases x using What.each <;> simp [kindOf] at hk
          exact ⟨_, rfl⟩
        rw [hl] at q2 VA
        rw [hk] at q1
        have HL : Hid (q.x = .hash l) := hl
        dsimp only [aOf] at q2 VA
        clear hl hk
        by_cases he : l = b
        · have HE : Hid (l = b) := he
          clear he
          go_wp2_with (go_at_call 34; go_must (refine (same_any _ _ l b wr VA.out.1 (HV.out.1.below HBE.out)).mono ?_; rw [decide_eq_true HE.out]; rintro e w1 ⟨rfl, hb1⟩; have H1 : Hid (RO W w1 r fr S R dv (.slice (some ⟨gb, 0, none⟩) R.length lc)) := H.out.below hb1; have c1 := H1.out.blk.cell 1 _ rfl; have c0 : w1.cell? ⟨gb, m * 6, none⟩ = some (.int .u64 q.h) := (by obtain ⟨g2, cap2, e2, _, _, hc2⟩ := H1.out.row HQ.out; cases e2; exact hc2 0 _ rfl)))
          go_ret
          have hof : S.of (.hash b) = some q.h := of_hit HROWS.out HQ.out (by rw [HL.out, HE.out]) hb.out
          rw [get_some hof]
          exact ⟨rfl, RLeft.after HBE.out (RLeft.same ⟨R, dv, _, H.out⟩ hb1)⟩
        · have HE : Hid (¬ l = b) := he
          clear he
          go_wp2_with (go_at_call 34; go_must (refine (same_any _ _ l b wr VA.out.1 (HV.out.1.below HBE.out)).mono ?_; rw [decide_eq_false HE.out]; rintro e w1 ⟨rfl, hb1⟩))
          go_roundw
          case rel => exact ⟨m + 1, by omega, by go_num, (fun j p hj hp => by
            by_cases e : j = m
            · subst e
              rw [HQ.out] at hp
              cases hp
              rw [HL.out]
              exact fun e => HE.out (by rw [What.hash.injEq] at e; exact e)
            · exact hb.out j p (by omega) hp), H.out.below hb1, bnext HBE.out hb1⟩
          case measure => simp [intOf]; omega
      · have HK : Hid (¬ kindOf q.x = 1) := hk
        have hk' : (kindOf q.x == 1) = false := by simpa using hk
        generalize kindOf q.x = kx at q1 hk'
        clear hk
        go_wp2
        go_roundw
        case rel => exact ⟨m + 1, by omega, by go_num, (fun j p hj hp => by
          by_cases e : j = m
          · subst e
            rw [HQ.out] at hp
            cases hp
            intro e
            exact HK.out (by rw [e]; rfl)
          · exact hb.out j p (by omega) hp), H, HBE⟩
        case measure => simp [intOf]; omega
    · have : m = R.length := by omega
      subst this
      have hof : S.of (.hash b) = none := of_miss HROWS.out hb.out
      have HOF : Hid (S.of (.hash b) = none) := hof
      have HA : Hid (RefAt W wr r fr S) := ⟨R, dv, _, H.out⟩
      have hN2 : S.rows.length + 1 ≤ 100000 := hN
      clear hof H
      go_wp2_with (go_at_call 38; go_must (refine (rput_ref W wr r fr S HA.out (.hash b) HOB.out (.slice bv b.length bc) (.slice none 0 0) (HV.out.below HBE.out) (kp_nil _ _) hN2).mono ?_; rintro e w1 ⟨rfl, hl⟩))
      go_ret
      rw [get_none HOF.out]
      exact ⟨rfl, RLeft.after HBE.out hl⟩
end Go.Proofs.Yteedjdflojfhmaa
