/-
  The document's Now, and a state with a member.
-/
import Derived.Test.YtgoghmabhdkdjaaRfA
namespace Go.Proofs.Ytgoghmabhdkdjaa
set_option linter.unusedVariables false
set_option linter.unusedSimpArgs false
set_option synthInstance.maxSize 20000
set_option maxHeartbeats 2000000
set_option maxRecDepth 20000
open Go.RowKit Go.Maps

theorem rnow20 {w : World} {v : Value} {l : List Mb} (hv : RowF mc w v l) (hl : l.length ≤ 10000) (e : Int) : Calls Try.prog 20 #[stv v e] w fun r w' => ∃ v', r = .returned v' ∧ RowF mc w' v' (nowM l) ∧ Below w.heap.size w w' := by
  obtain ⟨av, cap, rfl⟩ := hv.len
  have hcap := hv.caps
  have hc1 : l.length ≤ cap := hcap.2.1
  have hc2 : cap ≤ 9223372036854775807 := hcap.2.2
  obtain ⟨n, hn⟩ : ∃ n, n = l.length := ⟨_, rfl⟩
  have HN : Hid (n = l.length) := hn
  rw [← hn] at hc1 hv hl ⊢
  obtain ⟨w1, hw1⟩ : ∃ w1, w1 = w.alloc (.cells #[.slice av n cap, .int .i64 e] 32) := ⟨_, rfl⟩
  have hb1 : Below w.heap.size w w1 := by rw [hw1]; exact balloc (Below.refl _ _) _
  have HB1 : Hid (Below w.heap.size w w1) := hb1
  have X0 : Hid (Blk w1 w.heap.size 32 [.slice av n cap, .int .i64 e]) := by rw [hw1]; exact blk_new w [.slice av n cap, .int .i64 e] 32
  have HV : Hid (∀ w', Below w1.heap.size w1 w' → RowF mc w' (.slice av n cap) l) := fun w' hb => (hv.below hb1).below hb
  have HW1 : Hid (w1 = w.alloc (.cells #[.slice av n cap, .int .i64 e] 32)) := hw1
  clear hv hcap hn hw1 hb1
  unfold stv
  go_enter Try.func20, Try.ntmps20
  go_upto_region 1 with fail
  rw [← HW1.out]
  go_wp2
  go_loopw [3, 4] (fun vo i wr => ∃ (k : Nat), i = .int .i64 k ∧ k ≤ n ∧ Hid (Below w1.heap.size w1 wr) ∧ Hid (wr.ownsRow 0 54 5 vo (nowM (l.take k)).length (flat mc (nowM (l.take k)))) ∧ Hid (∀ j, vo.ownBlock = some j → w1.heap.size ≤ j)) (fun _ i _ => n - (intOf i).toNat)
  case atStart => exact ⟨0, rfl, by omega, (show Below _ _ _ from Below.refl _ _), World.ownsRow_nil _ _ _ _, (fun j hj => by cases hj)⟩
  case round =>
    obtain ⟨k, rfl, hk, HB, HO, HNw⟩ := hrel
    have x0 := (X0.out.below HB.out).cell 0 _ rfl
    by_cases hki : k < n
    · obtain ⟨av2, cp2, hvo, hcp⟩ := slice_of_own HO.out
      subst hvo
      obtain ⟨m, hm⟩ : ∃ m, l[k]? = some m := ⟨_, List.getElem?_eq_getElem (by have := HN.out; omega)⟩
      have HM : Hid (nowM (l.take (k + 1)) = nowM (l.take k) ++ (if on m = true then [m] else [])) := nowM_snoc hm
      have HL : Hid ((nowM (l.take k)).length ≤ n) := (by have := nowM_le l k; rw [← HN.out] at this; exact this)
      obtain ⟨b, off, ea, hc⟩ := (HV.out wr HB.out).at mc_len hm
      subst ea
      have HRow : Hid (∀ w' : World, RowF mc (w'.alloc (.cells (mc m).toArray 54)) (.slice (some ⟨w'.heap.size, 0, none⟩) 1 1) [m]) := fun w' => rowF_one w' m 54
      obtain ⟨x0', x1, x2, x3, x4⟩ := m
      have c0 := hc 0 _ rfl; have c1 := hc 1 _ rfl; have c2 := hc 2 _ rfl; have c3 := hc 3 _ rfl; have c4 := hc 4 _ rfl
      simp only [Nat.add_zero] at c0
      have HRow : Hid (∀ w' : World, RowF mc (w'.alloc (.cells #[.int .i64 x0', .int .u64 x1, .int .i64 x2, .int .i64 x3, .int .i64 x4] 54)) (.slice (some ⟨w'.heap.size, 0, none⟩) 1 1) [(⟨x0', x1, x2, x3, x4⟩ : Mb)]) := HRow
      have HNK : Hid (((nowM (l.take k)) ++ [(⟨x0', x1, x2, x3, x4⟩ : Mb)]).length ≤ 100000) := (show _ ≤ _ by rw [List.length_append]; have := HL.out; simp; omega)
      generalize hnn : nowM (l.take k) = acc at *
      clear hc hm hnn
      by_cases h3 : x3 = -1
      · have HM2 : Hid (nowM (l.take (k + 1)) = acc ++ [(⟨x0', x1, x2, -1, x4⟩ : Mb)]) := (show _ = _ by have := HM.out; simp [on, h3] at this; exact this)
        subst h3
        clear HM
        go_wp2_with (at_builtin; go_must (refine wpList_append_rows ty30 mc_len (by omega) rfl (.tmp 19) (.tmp 25) rfl _ acc rfl (HO.out.alloc _) _ [(⟨x0', x1, x2, -1, x4⟩ : Mb)] rfl (HRow.out wr) (flat_mc_one _) (by have := HNK.out; rw [List.length_append] at this; omega) ?_; intro v3 w3 hr3 hg3 hn3; obtain ⟨a3, q3, hv3, hq3⟩ := slice_of_own hr3; subst hv3))
        go_roundw
        case rel =>
          refine ⟨k + 1, by go_num, by omega, ?_, ?_, ?_⟩
          · exact (balloc HB.out _).grown hg3 (balloc HB.out _).size (fun j hj => HNw.out j hj)
          · rw [HM2.out]
            rw [List.length_append] at hr3 ⊢
            exact hr3
          · intro j hj
            rw [List.length_append] at hn3
            rcases hn3 j hj with r | r
            · exact HNw.out j r
            · have := (balloc HB.out (.cells #[.int .i64 x0', .int .u64 x1, .int .i64 x2, .int .i64 (-1), .int .i64 x4] 54)).size
              omega
        case measure => simp [intOf]; omega
      · have HM2 : Hid (nowM (l.take (k + 1)) = acc) := (show _ = _ by have := HM.out; simp [on, h3] at this; exact this)
        clear HM
        go_wp2
        go_roundw
        case rel =>
          refine ⟨k + 1, by go_num, by omega, HB, ?_, HNw⟩
          rw [HM2.out]
          exact HO
        case measure => simp [intOf]; omega
    · go_wp2
      go_ret
      have e : l.take k = l := List.take_of_length_le (by have := HN.out; omega)
      have := HO.out
      rw [e] at this
      exact ⟨_, rfl, rowF_own mc_len this, bnext HB1.out HB.out⟩
end Go.Proofs.Ytgoghmabhdkdjaa
