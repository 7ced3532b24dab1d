/-
  May of the document's answer.
-/
import Derived.Test.YtgoghmabhdkdjaaRfA
namespace Go.Proofs.Ytgoghmabhdkdjaa
set_option linter.unusedVariables false
set_option linter.unusedSimpArgs false
set_option synthInstance.maxSize 20000
set_option maxHeartbeats 2000000
set_option maxRecDepth 20000
open Go.RowKit Go.Maps

set_option maxHeartbeats 8000000 in
theorem rmay25 {w : World} {v : Value} {l : List Mb} (hv : RowF mc w v l) (e who i ep : Int) : Calls Try.prog 25 #[stv v e, .int .i64 who, .int .i64 i, .int .i64 ep] w fun r w' => r = .returned (.int .i64 (mayR ⟨l, e⟩ who i ep)) ∧ Below w.heap.size w w' := by
  obtain ⟨w1, hw1⟩ : ∃ w1, w1 = w.alloc (.cells #[v, .int .i64 e] 32) := ⟨_, rfl⟩
  have hb1 : Below w.heap.size w w1 := by rw [hw1]; exact balloc (Below.refl _ _) _
  have X0 : Blk w1 w.heap.size 32 [v, .int .i64 e] := by rw [hw1]; exact blk_new w [v, .int .i64 e] 32
  have HF : Hid (Calls Try.prog 18 #[.agg #[v, .int .i64 e], .int .i64 who] w1 fun r w' => r = .returned (.tuple #[mv ((findM l who).getD zm), .bool (findM l who).isSome]) ∧ Below w1.heap.size w1 w') := (show Calls _ _ _ _ _ from rfind18 (hv.below hb1) who e)
  have HK : Hid (∀ w' o, Below w1.heap.size w1 w' → (w'.alloc o).cell? ⟨w.heap.size, 1, none⟩ = some (.int .i64 e) ∧ Below w.heap.size w (w'.alloc o)) := fun w' o hb => ⟨((X0.below hb).alloc o).cell 1 _ rfl, balloc (bnext hb1 hb) o⟩
  have HW1 : Hid (w1 = w.alloc (.cells #[v, .int .i64 e] 32)) := hw1
  have x0 := X0.cell 0 _ rfl; have x1 := X0.cell 1 _ rfl
  obtain ⟨av, cap, rfl⟩ := hv.len
  clear hb1 hw1 X0 hv
  unfold stv
  cases hf : findM l who with
  | none =>
    rw [hf] at HF
    have HR : Hid (mayR ⟨l, e⟩ who i ep = 20) := (show _ = _ by unfold mayR; rw [hf])
    rw [HR.out]
    have HF2 : Hid (Calls Try.prog 18 #[.agg #[.slice av l.length cap, .int .i64 e], .int .i64 who] w1 fun r w' => r = .returned (.tuple #[.agg #[.int .i64 0, .int .u64 0, .int .i64 0, .int .i64 0, .int .i64 0], .bool false]) ∧ Below w1.heap.size w1 w') := HF
    clear HF hf
    go_enter Try.func25, Try.ntmps25
    go_upto_region 1 with fail
    rw [← HW1.out]
    go_wp2_with (go_at_call 18; go_must (refine HF2.out.mono ?_; rintro r w2 ⟨rfl, hb2⟩))
    go_ret
    exact ⟨rfl, (HK.out w2 _ hb2).2⟩
  | some m =>
    obtain ⟨m0, m1, m2, m3, m4⟩ := m
    rw [hf] at HF
    have HR : Hid (mayR ⟨l, e⟩ who i ep = if ep = -1 ∧ who = 0 then 0 else if e < ep then 7 else if ep < 0 ∨ ep < m2 ∨ (m3 ≠ -1 ∧ (m3 < ep ∨ m4 ≤ i)) then 10 else 0) := (show _ = _ by unfold mayR; rw [hf])
    have HF2 : Hid (Calls Try.prog 18 #[.agg #[.slice av l.length cap, .int .i64 e], .int .i64 who] w1 fun r w' => r = .returned (.tuple #[.agg #[.int .i64 m0, .int .u64 m1, .int .i64 m2, .int .i64 m3, .int .i64 m4], .bool true]) ∧ Below w1.heap.size w1 w') := HF
    rw [HR.out]
    clear HF hf HR
    obtain ⟨R, hR⟩ : ∃ R, R = (if ep = -1 ∧ who = 0 then (0 : Int) else if e < ep then 7 else if ep < 0 ∨ ep < m2 ∨ (m3 ≠ -1 ∧ (m3 < ep ∨ m4 ≤ i)) then 10 else 0) := ⟨_, rfl⟩
    rw [← hR]
    have HR : Hid (R = (if ep = -1 ∧ who = 0 then (0 : Int) else if e < ep then 7 else if ep < 0 ∨ ep < m2 ∨ (m3 ≠ -1 ∧ (m3 < ep ∨ m4 ≤ i)) then 10 else 0)) := hR
    clear hR
    go_enter Try.func25, Try.ntmps25
    go_upto_region 1 with fail
    rw [← HW1.out]
    go_upto_region 4 with (go_at_call 18; go_must (refine HF2.out.mono ?_; rintro r w2 ⟨rfl, hb2⟩; obtain ⟨k1, kb'⟩ := HK.out w2 (.cells #[.int .i64 m0, .int .u64 m1, .int .i64 m2, .int .i64 m3, .int .i64 m4] 54) hb2; have kb : Hid (Below w.heap.size w (w2.alloc (.cells #[.int .i64 m0, .int .u64 m1, .int .i64 m2, .int .i64 m3, .int .i64 m4] 54))) := kb'; clear kb' hb2))
    clear HF2 HK HW1 x0 x1
    by_cases h1 : ep = -1
    · by_cases h2 : who = 0
      · have HV : Hid (R = 0) := (show _ = _ by rw [HR.out]; rw [if_pos ⟨h1, h2⟩])
        go_wp2
        go_ret
        exact ⟨by rw [HV.out]; rfl, kb.out⟩
      · by_cases h3 : e < ep
        · have HV : Hid (R = 7) := (show _ = _ by rw [HR.out]; rw [if_neg (show ¬ (ep = -1 ∧ who = 0) by omega), if_pos h3])
          go_wp2
          go_ret
          exact ⟨by rw [HV.out]; rfl, kb.out⟩
        · have HV : Hid (R = 10) := (show _ = _ by rw [HR.out]; rw [if_neg (show ¬ (ep = -1 ∧ who = 0) by omega), if_neg h3, if_pos (show ep < 0 ∨ ep < m2 ∨ (m3 ≠ -1 ∧ (m3 < ep ∨ m4 ≤ i)) by omega)])
          go_wp2
          go_ret
          exact ⟨by rw [HV.out]; rfl, kb.out⟩
    · by_cases h3 : e < ep
      · have HV : Hid (R = 7) := (show _ = _ by rw [HR.out]; rw [if_neg (show ¬ (ep = -1 ∧ who = 0) by omega), if_pos h3])
        go_wp2
        go_ret
        exact ⟨by rw [HV.out]; rfl, kb.out⟩
      · by_cases h4 : ep < 0
        · have HV : Hid (R = 10) := (show _ = _ by rw [HR.out]; rw [if_neg (show ¬ (ep = -1 ∧ who = 0) by omega), if_neg h3, if_pos (show ep < 0 ∨ ep < m2 ∨ (m3 ≠ -1 ∧ (m3 < ep ∨ m4 ≤ i)) by omega)])
          go_wp2
          go_ret
          exact ⟨by rw [HV.out]; rfl, kb.out⟩
        · by_cases h5 : ep < m2
          · have HV : Hid (R = 10) := (show _ = _ by rw [HR.out]; rw [if_neg (show ¬ (ep = -1 ∧ who = 0) by omega), if_neg h3, if_pos (show ep < 0 ∨ ep < m2 ∨ (m3 ≠ -1 ∧ (m3 < ep ∨ m4 ≤ i)) by omega)])
            go_wp2
            go_ret
            exact ⟨by rw [HV.out]; rfl, kb.out⟩
          · by_cases h6 : m3 = -1
            · have HV : Hid (R = 0) := (show _ = _ by rw [HR.out]; rw [if_neg (show ¬ (ep = -1 ∧ who = 0) by omega), if_neg h3, if_neg (show ¬ (ep < 0 ∨ ep < m2 ∨ (m3 ≠ -1 ∧ (m3 < ep ∨ m4 ≤ i))) by omega)])
              subst h6
              go_wp2
              go_ret
              exact ⟨by rw [HV.out]; rfl, kb.out⟩
            · by_cases h7 : m3 < ep
              · have HV : Hid (R = 10) := (show _ = _ by rw [HR.out]; rw [if_neg (show ¬ (ep = -1 ∧ who = 0) by omega), if_neg h3, if_pos (show ep < 0 ∨ ep < m2 ∨ (m3 ≠ -1 ∧ (m3 < ep ∨ m4 ≤ i)) by omega)])
                go_wp2
                go_ret
                exact ⟨by rw [HV.out]; rfl, kb.out⟩
              · by_cases h8 : m4 ≤ i
                · have HV : Hid (R = 10) := (show _ = _ by rw [HR.out]; rw [if_neg (show ¬ (ep = -1 ∧ who = 0) by omega), if_neg h3, if_pos (show ep < 0 ∨ ep < m2 ∨ (m3 ≠ -1 ∧ (m3 < ep ∨ m4 ≤ i)) by omega)])
                  go_wp2
                  go_ret
                  exact ⟨by rw [HV.out]; rfl, kb.out⟩
                · have HV : Hid (R = 0) := (show _ = _ by rw [HR.out]; rw [if_neg (show ¬ (ep = -1 ∧ who = 0) by omega), if_neg h3, if_neg (show ¬ (ep < 0 ∨ ep < m2 ∨ (m3 ≠ -1 ∧ (m3 < ep ∨ m4 ≤ i))) by omega)])
                  go_wp2
                  go_ret
                  exact ⟨by rw [HV.out]; rfl, kb.out⟩
end Go.Proofs.Ytgoghmabhdkdjaa
