/-
  The contract of the reference's comparison of bytes: it answers whether the two lists of bytes are one, and writes nothing.
-/
import Derived.Test.YtiebbglknmcnpaaRows
import Derived.Test.YtiebbglknmcnpaaBase
import Derived.WalkSpells
namespace Go.Proofs.Ytiebbglknmcnpaa
set_option linter.unusedVariables false
open Go.RowKit

theorem take_snoc_eq {a b : List Int} {k : Nat} (h : a.take k = b.take k) (ha : k < a.length) (hb : k < b.length) (e : a.getD k 0 = b.getD k 0) : a.take (k + 1) = b.take (k + 1) := by
  rw [List.take_succ_eq_append_getElem ha, List.take_succ_eq_append_getElem hb, h]
  congr 2
  simpa [ha, hb] using e

set_option maxHeartbeats 1000000 in
set_option maxRecDepth 20000 in
theorem same_any (v x : Value) (a b : List Int) (w : World) (hv : Rd w v a) (hx : Rd w x b) :
    Calls Try.prog 23 #[v, x] w fun e w' => e = .returned (.bool (decide (a = b))) ∧ Below w.heap.size w w' := by
  obtain ⟨hoa, av, cv, rfl, h1, h2, h3, h4⟩ := hv
  obtain ⟨hob, ax, cx, rfl, g1, g2, g3, g4⟩ := hx
  unfold maxLen at h2 g2
  by_cases hl : a.length = b.length
  · have hne : ((a.length : Int) != (b.length : Int)) = false := by simp [hl]
    have HL : Hid (a.length = b.length) := hl
    clear hl
    go_enter Try.func23, Try.ntmps23
    go_wp2
    go_loopw [5] (fun i wr => ∃ k : Nat, k ≤ a.length ∧ i = .int .i64 k ∧ Hid (a.take k = b.take k) ∧ Below w.heap.size w wr) (fun i _ => a.length - (intOf i).toNat)
    case atStart => exact ⟨0, Nat.zero_le _, rfl, rfl, Below.refl _ _⟩
    case round =>
      obtain ⟨k, hk, rfl, ht, hb⟩ := hrel
      by_cases hlt : k < a.length
      · obtain ⟨ba, oa, rfl, hca⟩ := h4 (by omega)
        obtain ⟨bx, ox, rfl, hcx⟩ := g4 (by have := HL.out; omega)
        have ca := (hb.cell (World.block_lt_of_cell? w _ (hca k hlt))).trans (hca k hlt)
        have cx := (hb.cell (World.block_lt_of_cell? w _ (hcx k (by have := HL.out; omega)))).trans (hcx k (by have := HL.out; omega))
        have hlt' : k < b.length := by have := HL.out; omega
        have HB : Hid (Below w.heap.size w wr) := hb
        clear hca hcx h4 g4 hb hoa hob
        by_cases heq : a.getD k 0 = b.getD k 0
        · have HS : Hid (a.take (k + 1) = b.take (k + 1)) := take_snoc_eq ht.out hlt hlt' heq
          rw [← heq] at cx
          generalize a.getD k 0 = p at ca cx
          clear heq
          go_wp2
          go_region
          all_goals go_wp2
          all_goals
            go_roundw
            case rel => exact ⟨k + 1, by omega, by go_num, HS, by first | exact HB.out | exact HB.out.drew | exact HB.out.drew.drew⟩
            case measure => simp [intOf]; omega
        · have HS : Hid (¬ a = b) := fun e => heq (by rw [e])
          have hpq : (a.getD k 0 != b.getD k 0) = true := by simpa using heq
          generalize a.getD k 0 = p at ca hpq
          generalize b.getD k 0 = q at cx hpq
          clear heq
          go_wp2
          go_region
          all_goals go_wp2
          all_goals
            go_ret
            refine ⟨?_, by first | exact HB.out | exact HB.out.drew | exact HB.out.drew.drew⟩
            rw [decide_eq_false HS.out]
            rfl
      · have HS : Hid (a = b) := by
          have := ht.out
          rwa [List.take_of_length_le (by omega), List.take_of_length_le (by have := HL.out; omega)] at this
        have HB : Hid (Below w.heap.size w wr) := hb
        clear h4 g4 hb hoa hob
        go_wp2
        go_ret
        refine ⟨?_, HB.out⟩
        rw [decide_eq_true HS.out]
        rfl
  · have hne : ((a.length : Int) != (b.length : Int)) = true := by simp; omega
    go_enter Try.func23, Try.ntmps23
    go_wp2
    go_ret
    refine ⟨?_, Below.refl _ _⟩
    rw [decide_eq_false (fun h => hl (by rw [h]))]
    rfl

end Go.Proofs.Ytiebbglknmcnpaa
