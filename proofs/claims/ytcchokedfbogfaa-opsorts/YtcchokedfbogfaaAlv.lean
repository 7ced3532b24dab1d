/-
  The example of the chapter.
-/
import Derived.Test.YtcchokedfbogfaaRed
namespace Go.Proofs.Ytcchokedfbogfaa
set_option linter.unusedVariables false
set_option linter.unusedSimpArgs false
set_option synthInstance.maxSize 20000
set_option maxHeartbeats 2000000
set_option maxRecDepth 20000
open Go.RowKit Go.Maps

def exQ : OpT := ⟨1, (3, 1), (3, 1), (0, 0), true, ⟨#[97]⟩, none, 0, 0, []⟩
def exB : List Int := [1, 0, 0, 1, 1, 97]
theorem ex_name : nameB ⟨#[97]⟩ = true := by
  unfold nameB
  rw [ByteArray.toList_eq]
  decide +kernel
theorem ex_name2 : nameB ⟨#[120]⟩ = true := by
  unfold nameB
  rw [ByteArray.toList_eq]
  decide +kernel
theorem ex_right : rightO exQ = true := by
  have h : placedB exQ = true := by
    unfold placedB
    rw [show exQ.s = ⟨#[97]⟩ from rfl, ex_name]
    decide +kernel
  refine (rightO_iff exQ).2 ⟨by decide +kernel, .inl ⟨rfl, rfl, h⟩⟩
theorem ex_text : textL exQ = exB := by decide +kernel
theorem ex_st : stE exB (3, 1) = ([], 0, exQ) := by kernel_rfl
theorem ex_read : readM exB (3, 1) = (exQ, 0) := by
  unfold readM
  rw [ex_st]
  rw [if_neg (by decide +kernel)]
  show (if rightO exQ = true then (exQ, (0 : Int)) else (oz, 4)) = (exQ, 0)
  rw [if_pos ex_right]
theorem ex_ok : QOk exQ := ⟨by unfold I64; decide +kernel, by unfold SOk I64; decide +kernel, by unfold SOk I64; decide +kernel, by unfold SOk I64; decide +kernel⟩
theorem rd_new (w : World) (l : List Int) (e : TypeId) (ho : Oct l) (hl : l.length ≤ 1000) : Rd (w.alloc (.cells (cs8 l).toArray e)) (.slice (some ⟨w.heap.size, 0, none⟩) l.length l.length) l := by
  refine ⟨ho, some ⟨w.heap.size, 0, none⟩, l.length, rfl, Nat.le_refl _, by unfold maxLen; omega, (fun h => by cases h), fun hp => ⟨w.heap.size, 0, rfl, fun j hj => ?_⟩⟩
  rw [Nat.zero_add]
  exact (blk_new w (cs8 l) e).cell j _ (cs8_at l j hj)
abbrev exV (va : Option Addr) (vc : Nat) : Value := .agg #[.int .i64 1, .int .i64 3, .int .i64 1, .int .i64 3, .int .i64 1, .int .i64 0, .int .i64 0, .bool true, .string ⟨#[97]⟩, .slice va 0 vc]
theorem alive9 (w : World) : Calls Try.prog 9 #[] w fun e w' => e = .returned (.bool true) ∧ Below w.heap.size w w' := by
  have HT : Hid (∀ w', Calls Try.prog 10 #[exV none 0] w' fun e w'' => ∃ v, e = .returned (.tuple #[v, .int .i64 0]) ∧ Own w'.heap.size 5 w'' v exB ∧ Below w'.heap.size w' w'') := fun w' => by
    have := text10_1 (w := w') ex_ok (rd_nil w') rfl (by decide +kernel) (by decide +kernel) ex_right
    rw [ex_text] at this
    exact this
  have HR : Hid (∀ w' v, Rd w' v exB → Calls Try.prog 12 #[v, .agg #[.int .i64 3, .int .i64 1]] w' fun e w'' => ∃ va vc, e = .returned (.tuple #[exV va vc, .int .i64 0]) ∧ Below w'.heap.size w' w'') := fun w' v h => by
    have := read12 (t := (3, 1)) h (by decide +kernel)
    rw [ex_read] at this
    refine this.mono ?_
    rintro e w'' ⟨va, vc, rfl, _, hb⟩
    exact ⟨va, vc, rfl, hb⟩
  have HS : Hid (∀ w' v x, Rd w' v exB → Rd w' x exB → Calls Try.prog 18 #[v, x] w' fun e w'' => e = .returned (.bool true) ∧ Below w'.heap.size w' w'') := fun w' v x h1 h2 => by
    have := same_any v x exB exB w' h1 h2
    simpa using this
  have HN : Hid (∀ w', Calls Try.prog 14 #[.string ⟨#[120]⟩] w' fun e w'' => e = .returned (.bool true) ∧ Below w'.heap.size w' w'') := fun w' => by
    have := name14 ⟨#[120]⟩ w'
    rw [ex_name2] at this
    exact this
  have H0 : Hid (∀ w', Calls Try.prog 26 #[] w' fun e w'' => e = .returned (.agg #[.int .i64 0, .int .i64 0]) ∧ Below w'.heap.size w' w'') := fun w' => root26 w'
  obtain ⟨w1, hw1⟩ : ∃ w1, w1 = w.alloc (.cells #[.int .i64 3, .int .i64 1] 23) := ⟨_, rfl⟩
  obtain ⟨B, hB⟩ : ∃ B, B = w.heap.size := ⟨_, rfl⟩
  have HX : Hid (∀ w', Below w1.heap.size w1 w' → Blk w' B 23 [.int .i64 3, .int .i64 1]) := fun w' h => by
    refine Blk.below ?_ h
    rw [hw1, hB]
    exact blk_new w _ 23
  have HB1 : Hid (Below w.heap.size w w1) := by show Below _ _ _; rw [hw1]; exact balloc (Below.refl _ _) _
  have X1 := HX.out w1 (Below.refl _ _)
  have c0 := X1.cell 0 _ rfl
  have c1 := X1.cell 1 _ rfl
  clear X1
  go_enter Try.func9, Try.ntmps9
  go_upto_region 2 with fail
  rw [← hw1]
  rw [← hB]
  clear hw1 hB
  go_upto_region 3 with (go_at_call 10; go_must (refine (HT.out _).mono ?_; rintro r w2 ⟨v2, rfl, ho2, hb2⟩; have HO2 : Hid (Rd w2 v2 exB) := ho2.rd; have HB2 : Hid (Below w1.heap.size w1 w2) := hb2; clear ho2 hb2))
  have HBb : Hid (Below w1.heap.size w1 (w2.alloc (.cells #[.int .u8 1, .int .u8 0, .int .u8 0, .int .u8 1, .int .u8 1, .int .u8 97] 5))) := (show Below _ _ _ from balloc HB2.out _)
  have HRb : Hid (Rd (w2.alloc (.cells #[.int .u8 1, .int .u8 0, .int .u8 0, .int .u8 1, .int .u8 1, .int .u8 97] 5)) (.slice (some ⟨w2.heap.size, 0, none⟩) 6 6) exB) := rd_new w2 exB 5 (by unfold Oct exB; decide +kernel) (by decide +kernel)
  have HO3 : Hid (Rd (w2.alloc (.cells #[.int .u8 1, .int .u8 0, .int .u8 0, .int .u8 1, .int .u8 1, .int .u8 97] 5)) v2 exB) := HO2.out.below (balloc (Below.refl _ _) _)
  have X2 := HX.out _ HBb.out
  have y0 := X2.cell 0 _ rfl
  have y1 := X2.cell 1 _ rfl
  clear X2 c0 c1
  go_upto_region 4 with (go_at_call 12; go_must (refine (HR.out _ _ HRb.out).mono ?_; rintro r w4 ⟨va, vc, rfl, hb4⟩; have HB4 : Hid (Below w1.heap.size w1 w4) := bnext HBb.out hb4; have HO4 : Hid (Rd w4 v2 exB) := HO3.out.below hb4; clear hb4))
  clear y0 y1
  obtain ⟨w5, hw5⟩ : ∃ w5, w5 = w4.alloc (.cells #[.int .i64 1, .int .i64 3, .int .i64 1, .int .i64 3, .int .i64 1, .int .i64 0, .int .i64 0, .bool true, .string ⟨#[97]⟩, .slice va 0 vc] 26) := ⟨_, rfl⟩
  rw [← hw5]
  obtain ⟨D, hD⟩ : ∃ D, D = w4.heap.size := ⟨_, rfl⟩
  rw [← hD]
  have HB5 : Hid (Below w4.heap.size w4 w5) := by show Below _ _ _; rw [hw5]; exact balloc (Below.refl _ _) _
  have HX5 : Hid (Blk w5 D 26 [.int .i64 1, .int .i64 3, .int .i64 1, .int .i64 3, .int .i64 1, .int .i64 0, .int .i64 0, .bool true, .string ⟨#[97]⟩, .slice va 0 vc]) := by show Blk _ _ _ _; rw [hw5, hD]; exact blk_new w4 _ 26
  clear hw5 hD
  have HB6 : Hid (Below w1.heap.size w1 w5) := bnext HB4.out HB5.out
  have HBc : Hid (Below w5.heap.size w5 (w5.alloc (.cells #[.int .u8 1, .int .u8 0, .int .u8 0, .int .u8 1, .int .u8 1, .int .u8 97] 5))) := (show Below _ _ _ from balloc (Below.refl _ _) _)
  have HRc : Hid (Rd (w5.alloc (.cells #[.int .u8 1, .int .u8 0, .int .u8 0, .int .u8 1, .int .u8 1, .int .u8 97] 5)) (.slice (some ⟨w5.heap.size, 0, none⟩) 6 6) exB) := rd_new w5 exB 5 (by unfold Oct exB; decide +kernel) (by decide +kernel)
  have HO5 : Hid (Rd (w5.alloc (.cells #[.int .u8 1, .int .u8 0, .int .u8 0, .int .u8 1, .int .u8 1, .int .u8 97] 5)) v2 exB) := (HO4.out.below HB5.out).below HBc.out
  have X6 := HX5.out.below HBc.out
  have z7 := X6.cell 7 _ rfl
  have z8 := X6.cell 8 _ rfl
  clear X6
  go_wp2_with (first
    | (go_at_call 18; go_must (refine (HS.out _ _ _ HO5.out HRc.out).mono ?_; rintro r w6 ⟨rfl, hb6⟩; have HB6c : Hid (Below w5.heap.size w5 w6) := bnext HBc.out hb6; have X7 := HX5.out.below HB6c.out; have q7 := X7.cell 7 _ rfl; have q8 := X7.cell 8 _ rfl; clear X7 hb6))
    | (go_at_call 14; go_must (refine (HN.out _).mono ?_; rintro r w7 ⟨rfl, hb7⟩; have HB7 : Hid (Below w5.heap.size w5 w7) := bnext HB6c.out hb7; clear hb7))
    | (go_at_call 26; go_must (refine (H0.out _).mono ?_; rintro r w8 ⟨rfl, hb8⟩; have HB8 : Hid (Below w5.heap.size w5 w8) := bnext HB7.out hb8; clear hb8)))
  go_ret
  exact ⟨rfl, bnext HB1.out (bnext HB6.out HB8.out)⟩
end Go.Proofs.Ytcchokedfbogfaa
