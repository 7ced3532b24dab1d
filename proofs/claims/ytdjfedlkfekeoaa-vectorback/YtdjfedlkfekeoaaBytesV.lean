/-
  A vector's bytes, by the program and by the reference.
-/
import Derived.Test.YtdjfedlkfekeoaaGet
import Derived.Test.YtdjfedlkfekeoaaVecBytes
import Derived.Test.YtdjfedlkfekeoaaRef
namespace Go.Proofs.Ytdjfedlkfekeoaa
set_option linter.unusedVariables false
set_option linter.unusedSimpArgs false
open Go.RowKit

theorem nats_of {x : H} (hr : rightH x) (ho : HOk x) : ∃ a b c : Nat, x = ((a : Int), (b : Int), (c : Int)) ∧ a ≤ 7 ∧ b ≤ 200 ∧ c < 18446744073709551616 ∧ bytesH x = form a ++ form b ++ form c := by
  obtain ⟨x1, x2, x3⟩ := x
  obtain ⟨h1, h2, h3, h4, h5⟩ := hr
  obtain ⟨_, _, h6, h7⟩ := ho
  dsimp only at h1 h2 h3 h4 h6 h7
  exact ⟨x1.toNat, x2.toNat, x3.toNat, by rw [Int.toNat_of_nonneg h1, Int.toNat_of_nonneg (by omega), Int.toNat_of_nonneg h6], by omega, by omega, by omega, rfl⟩
theorem Own.lower {B B' : Nat} {e : TypeId} {w : World} {v : Value} {l : List Int} (h : Own B e w v l) (hB : B' ≤ B) : Own B' e w v l := by
  obtain ⟨h0, h1, h2⟩ := h
  refine ⟨h0, h1, ?_⟩
  rcases h2 with h2 | ⟨g, cap, cur, rfl, hb, hg, hn, hc, hs, ht⟩
  · exact .inl h2
  · exact .inr ⟨g, cap, cur, rfl, Nat.le_trans hB hb, hg, hn, hc, hs, ht⟩

set_option maxHeartbeats 400000 in
theorem numbers_any (a b c : Nat) (w : World) (ha : a ≤ 7) (hb : b ≤ 200) (hc0 : c < 18446744073709551616) :
    Calls Try.prog 43 #[.agg #[.int .i64 a, .int .i64 b, .int .u64 c]] w fun e w' => e = .returned (.agg #[.int .u64 a, .int .u64 b, .int .u64 c]) ∧ Below w.heap.size w w' := by
  go_enter Try.func43, Try.ntmps43
  go_wp2
  refine bodyPost_ret (v := .agg #[.int .u64 a, .int .u64 b, .int .u64 c]) ?_ rfl ⟨rfl, ?_⟩
  · rw [results_cell1 rfl]
    go_simp
  · exact balloc (balloc (Below.refl _ _) _) _

/-- A number of an array of three. -/
theorem index_three (w : World) (x y z : Int) : (Instr.index 66 (.agg #[.int .u64 x, .int .u64 y, .int .u64 z]) (.int .i64 0)).run Try.prog w = .ok (.int .u64 x) w ∧
    (Instr.index 66 (.agg #[.int .u64 x, .int .u64 y, .int .u64 z]) (.int .i64 1)).run Try.prog w = .ok (.int .u64 y) w ∧ (Instr.index 66 (.agg #[.int .u64 x, .int .u64 y, .int .u64 z]) (.int .i64 2)).run Try.prog w = .ok (.int .u64 z) w := by
  have hs : (Go.sizeOf 23).run Try.prog w = .ok 1 w := by kernel_rfl
  have ha : (isAgg 23).run Try.prog w = .ok false w := by kernel_rfl
  refine ⟨?_, ?_, ?_⟩ <;> simp [Instr.index, run_underlying Try.underlying66, hs, ha, asIntOf, part]

set_option maxHeartbeats 1000000 in
set_option maxRecDepth 20000 in
theorem bytes_any (v : Value) (l : List H) (w : World) (hv0 : RdH w v l) :
    Calls Try.prog 26 #[v] w fun e w' => ∃ v', e = .returned (.tuple #[v', .int .i64 (bytesV l).2]) ∧ Rd w' v' (bytesV l).1 ∧ Below w.heap.size w w' := by
  have hA := fun w' q => rightV_any v l w' q
  have HV : Hid (RdH w v l) := hv0
  have HOK : Hid (∀ s ∈ l, HOk s) := hv0.1
  obtain ⟨av, cv, rfl⟩ := hv0.len
  have hcap := hv0.cap
  by_cases hr : RightV l
  · have h8 := hr.len8
    have HR : Hid (RightV l) := hr
    rw [bytesV_right hr]
    rw [rightB_true hr] at hA
    have hN := fun w' => num_any (.slice none 0 0) [] l.length w' (rd_nil w') (by simp) (by omega)
    have HBL : Hid (∀ j, (bytesTo l j).length ≤ 10 + 30 * l.length) := fun j => bytesTo_len hv0.1 (by omega) j
    clear hv0 hr
    go_enter Try.func26, Try.ntmps26
    go_upto_region 4 with (first
      | (go_at_call 13; refine (hA _ HV.out).mono ?_; rintro e w1 ⟨rfl, hb1⟩)
      | (go_at_call 42; refine (hN _).mono ?_; rintro e w2 ⟨v2, rfl, ho2, hb2⟩))
    have HB2 : Hid (Below w.heap.size w w2) := bnext hb1 hb2
    have HO2 : Hid (Rd w2 v2 (bytesTo l 0)) := by
      show Rd _ _ _
      have := ho2.rd
      rwa [show ([] : List Int) ++ form l.length = bytesTo l 0 by simp [bytesTo]] at this
    clear hb1 hb2 ho2 hA hN
    go_wp2
    go_loopw [4, 18] (fun o i wr => ∃ j : Nat, i = .int .i64 j ∧ j ≤ l.length ∧ Hid (Rd wr o (bytesTo l j)) ∧ Hid (Below w.heap.size w wr)) (fun _ i _ => l.length - (intOf i).toNat)
    case atStart => exact ⟨0, rfl, by omega, HO2, HB2⟩
    case round =>
      clear HO2 HB2
      obtain ⟨j, rfl, hj, HO, HW⟩ := hrel
      by_cases hjl : j < l.length
      · obtain ⟨bv, ov, rfl, hblt, hcell⟩ := HV.out.all (by omega)
        obtain ⟨g0, g1, g2⟩ := hcell wr HW.out j hjl
        have HT : Hid (bytesTo l (j + 1) = bytesTo l j ++ bytesH (l.getD j hz)) := bytesTo_succ hjl
        have HL := HBL.out j
        obtain ⟨a, b, c, ex, ha, hb, hc0, ey⟩ := nats_of (to_of_right HR.out j hjl).1 (HV.out.ok j hjl)
        rw [ex] at g0 g1 g2
        have HE : Hid (bytesTo l (j + 1) = bytesTo l j ++ form a ++ form b ++ form c) := by show _ = _; rw [HT.out, ey]; simp
        have HFA : Hid ((form a).length ≤ 10) := form_le10 (by omega)
        have HFB : Hid ((form b).length ≤ 10) := form_le10 (by omega)
        dsimp only at g0 g1 g2
        clear hcell ex ey HT
        generalize bytesTo l j = m at HO HE HL
        have hNum := fun w' => numbers_any a b c w' ha hb hc0
        have HN1 : Hid (∀ v w', Rd w' v m → Calls Try.prog 42 #[v, .int .u64 a] w' fun e w'' => ∃ v', e = .returned v' ∧ Own w'.heap.size 5 w'' v' (m ++ form a) ∧ Below w'.heap.size w' w'') := fun v w' q => num_any v m a w' q (by omega) (by omega)
        have HN2 : Hid (∀ v w', Rd w' v (m ++ form a) → Calls Try.prog 42 #[v, .int .u64 b] w' fun e w'' => ∃ v', e = .returned v' ∧ Own w'.heap.size 5 w'' v' (m ++ form a ++ form b) ∧ Below w'.heap.size w' w'') := fun v w' q => num_any v _ b w' q (by have := HFA.out; rw [List.length_append]; omega) (by omega)
        have HN3 : Hid (∀ v w', Rd w' v (m ++ form a ++ form b) → Calls Try.prog 42 #[v, .int .u64 c] w' fun e w'' => ∃ v', e = .returned v' ∧ Own w'.heap.size 5 w'' v' (m ++ form a ++ form b ++ form c) ∧ Below w'.heap.size w' w'') := fun v w' q => num_any v _ c w' q (by have := HFA.out; have := HFB.out; rw [List.length_append, List.length_append]; omega) (by omega)
        have hi0 := fun w' => (index_three w' (a : Int) (b : Int) (c : Int)).1
        have hi1 := fun w' => (index_three w' (a : Int) (b : Int) (c : Int)).2.1
        have hi2 := fun w' => (index_three w' (a : Int) (b : Int) (c : Int)).2.2
        go_upto_region 8 with (go_at_call 43; refine (hNum _).mono ?_; rintro e w1 ⟨rfl, hb1⟩)
        have HB1 : Hid (Below w.heap.size w w1) := bnext (balloc HW.out _) hb1
        have HO1 : Hid (Rd w1 _ m) := HO.out.below (bnext (balloc (Below.refl _ _) _) hb1)
        clear hb1 g0 g1 g2
        refine wp_loop_rounds 4 ?_
        rw [rounds_succ]
        go_wp2_with (go_at_call 42; refine (HN1.out _ _ HO1.out).mono ?_; rintro e w2 ⟨v2, rfl, ho2, hb2⟩; have HB2 : Hid (Below w.heap.size w w2) := bnext HB1.out hb2; have HO2 : Hid (Rd w2 v2 (m ++ form a)) := ho2.rd; clear hb2 ho2)
        rw [rounds_succ]
        go_wp2_with (go_at_call 42; refine (HN2.out _ _ HO2.out).mono ?_; rintro e w3 ⟨v3, rfl, ho3, hb3⟩; have HB3 : Hid (Below w.heap.size w w3) := bnext HB2.out hb3; have HO3 : Hid (Rd w3 v3 (m ++ form a ++ form b)) := ho3.rd; clear hb3 ho3)
        rw [rounds_succ]
        go_wp2_with (go_at_call 42; refine (HN3.out _ _ HO3.out).mono ?_; rintro e w4 ⟨v4, rfl, ho4, hb4⟩; have HB4 : Hid (Below w.heap.size w w4) := bnext HB3.out hb4; have HO4 : Hid (Rd w4 v4 (m ++ form a ++ form b ++ form c)) := ho4.rd; clear hb4 ho4)
        rw [rounds_succ]
        go_wp2
        go_roundw
        case rel => exact ⟨j + 1, by go_num, by omega, (by show Rd _ _ _; rw [HE.out]; exact HO4.out), HB4⟩
        case measure => simp [intOf]; omega
      · obtain rfl : j = l.length := by omega
        go_wp2
        go_ret2
        exact ⟨_, rfl, HO.out, HW.out⟩
  · rw [bytesV_not hr]
    rw [rightB_false hr] at hA
    clear hv0 hr
    go_enter Try.func26, Try.ntmps26
    go_wp2_with (first
      | (go_at_call 13; refine (hA _ HV.out).mono ?_; rintro e w1 ⟨rfl, hb1⟩))
    go_ret2
    exact ⟨_, rfl, rd_nil _, hb1⟩
end Go.Proofs.Ytdjfedlkfekeoaa
