/-
  A state as the document's.
-/
import Derived.Test.YtgoghmabhdkdjaaOwn
namespace Go.Proofs.Ytgoghmabhdkdjaa
set_option linter.unusedVariables false
set_option linter.unusedSimpArgs false
set_option synthInstance.maxSize 20000
set_option maxHeartbeats 2000000
set_option maxRecDepth 20000
open Go.RowKit Go.Maps

theorem member21 (m : Mb) (w : World) : Calls Try.prog 21 #[mv m] w fun r w' => r = .returned (mv m) ∧ Below w.heap.size w w' := by
  obtain ⟨x0, x1, x2, x3, x4⟩ := m
  unfold mv
  dsimp only
  go_enter Try.func21, Try.ntmps21
  go_wp2
  refine bodyPost_ret (v := .agg #[.int .i64 x0, .int .u64 x1, .int .i64 x2, .int .i64 x3, .int .i64 x4]) ?_ rfl ⟨rfl, balloc2 _ _ _⟩
  rw [results_cell1 rfl]
  go_simp
theorem state16 {w : World} {lv : Value} {e : Int} {l : List Mb} (h : RowF mc w lv l) (hlen : l.length ≤ 1000) : Calls Try.prog 16 #[stv lv e] w fun r w' => ∃ v', r = .returned (stv v' e) ∧ RowF mc w' v' l ∧ Below w.heap.size w w' := by
  have HRow : Hid (∀ w', Below w.heap.size w w' → RowF mc w' lv l) := fun w' hb => h.below hb
  obtain ⟨aa, ca, rfl⟩ := h.len
  have hcap := h.caps
  have hc1 : l.length ≤ ca := hcap.2.1
  have hc2 : ca ≤ 9223372036854775807 := hcap.2.2
  obtain ⟨n, hn⟩ : ∃ n, n = l.length := ⟨_, rfl⟩
  have HN : Hid (n = l.length) := hn
  rw [← hn] at hc1 HRow hlen ⊢
  obtain ⟨w1, hw1⟩ : ∃ w1, w1 = ((w.alloc (.cells #[.slice aa n ca, .int .i64 e] 28)).alloc (.cells #[.slice none 0 0, .int .i64 0] 32)).alloc (.cells #[.slice none 0 0, .int .i64 e] 32) := ⟨_, rfl⟩
  have HB1 : Hid (Below w.heap.size w w1) := by rw [hw1]; exact balloc (balloc2 _ _ _) _
  have X0 : Hid (Blk w1 w.heap.size 28 [.slice aa n ca, .int .i64 e]) := by rw [hw1]; exact blk3_0 w [.slice aa n ca, .int .i64 e] [.slice none 0 0, .int .i64 0] [.slice none 0 0, .int .i64 e] 28 32 32
  have X1 : Hid (Blk w1 (w.heap.size + 1) 32 [.slice none 0 0, .int .i64 0]) := by rw [hw1]; exact blk3_1 w [.slice aa n ca, .int .i64 e] [.slice none 0 0, .int .i64 0] [.slice none 0 0, .int .i64 e] 28 32 32
  have X2 : Hid (Blk w1 (w.heap.size + 2) 32 [.slice none 0 0, .int .i64 e]) := by rw [hw1]; exact blk3_2 w [.slice aa n ca, .int .i64 e] [.slice none 0 0, .int .i64 0] [.slice none 0 0, .int .i64 e] 28 32 32
  have HW1 : Hid (w1 = ((w.alloc (.cells #[.slice aa n ca, .int .i64 e] 28)).alloc (.cells #[.slice none 0 0, .int .i64 0] 32)).alloc (.cells #[.slice none 0 0, .int .i64 e] 32)) := hw1
  unfold stv
  clear h hcap hn hw1
  go_enter Try.func16, Try.ntmps16
  go_upto_region 2 with fail
  rw [← HW1.out]
  go_wp2
  go_loopw [4] (fun i wr => ∃ (k : Nat) (ov : Value), i = .int .i64 k ∧ k ≤ n ∧ Hid (Below w.heap.size w wr) ∧ Hid (Blk wr w.heap.size 28 [.slice aa n ca, .int .i64 e]) ∧ Hid (Blk wr (w.heap.size + 1) 32 [.slice none 0 0, .int .i64 0]) ∧ Hid (Blk wr (w.heap.size + 2) 32 [ov, .int .i64 e]) ∧ Hid (wr.ownsRow 0 54 5 ov (l.take k).length (flat mc (l.take k))) ∧ Hid (∀ j, ov.ownBlock = some j → w.heap.size + 3 ≤ j)) (fun i _ => n - (intOf i).toNat)
  case atStart => exact ⟨0, .slice none 0 0, rfl, by omega, HB1, X0, X1, X2, World.ownsRow_nil _ _ _ _, (fun j hj => by cases hj)⟩
  case round =>
    obtain ⟨k, ov, rfl, hk, HB, Y0, Y1, Y2, HO, HNw⟩ := hrel
    have hkq : (l.take k).length = k := by rw [List.length_take]; have := HN.out; omega
    have y4 := Y0.out.cell 0 _ rfl
    by_cases hki : k < n
    · obtain ⟨m, hm⟩ : ∃ m, l[k]? = some m := ⟨_, List.getElem?_eq_getElem (by have := HN.out; omega)⟩
      have HTk : Hid (l.take (k + 1) = l.take k ++ [m]) := (show _ = _ by
        have hk' := List.getElem?_eq_some_iff.1 hm
        rw [List.take_succ_eq_append_getElem hk'.1, hk'.2])
      obtain ⟨g, off, ea, hr⟩ := (HRow.out wr HB.out).at mc_len hm
      obtain ⟨g', off', ea', hr'⟩ := (HRow.out w (Below.refl _ _)).at mc_len hm
      have hg : g < w.heap.size := by
        rw [ea] at ea'
        cases ea'
        exact World.block_lt_of_cell? w _ (hr' 0 _ rfl)
      subst ea
      have e0 := hr 0 _ rfl; have e1 := hr 1 _ rfl; have e2 := hr 2 _ rfl; have e3 := hr 3 _ rfl; have e4 := hr 4 _ rfl
      simp only [Nat.add_zero] at e0
      have HM : Hid (∀ w', Calls Try.prog 21 #[mv m] w' fun r w'' => r = .returned (mv m) ∧ Below w'.heap.size w' w'') := fun w' => member21 m w'
      have HRq : Hid (∀ w' : World, RowF mc (w'.alloc (.cells (mc m).toArray 54)) (.slice (some ⟨w'.heap.size, 0, none⟩) 1 1) [m]) := fun w' => rowF_one w' m 54
      obtain ⟨ao, co2, hov, hcov⟩ := slice_of_own HO.out
      subst hov
      rw [hkq] at HO HNw Y2
      obtain ⟨B, hB⟩ : ∃ B, B = w.heap.size + 3 := ⟨_, rfl⟩
      have HBs : Hid (B ≤ wr.heap.size) := by rw [hB]; exact (show _ ≤ _ by have := Y2.out.lt; omega)
      have ne : Nonempty (WIn (fun w' => Below B wr w')) := ⟨⟨wr, Below.refl _ _⟩⟩
      have z0 := fun z : WIn (fun w' => Below B wr w') => (z.ok.cell (p := ⟨w.heap.size, 0, none⟩) (show w.heap.size < B by omega)).trans (Y0.out.cell 0 _ rfl)
      have z2 := fun z : WIn (fun w' => Below B wr w') => (z.ok.cell (p := ⟨w.heap.size + 2, 0, none⟩) (show w.heap.size + 2 < B by omega)).trans (Y2.out.cell 0 _ rfl)
      have q0 := fun z : WIn (fun w' => Below B wr w') => (z.ok.cell (p := ⟨g, off + k * 5, none⟩) (show g < B by omega)).trans e0
      have q1 := fun z : WIn (fun w' => Below B wr w') => (z.ok.cell (p := ⟨g, off + k * 5 + 1, none⟩) (show g < B by omega)).trans e1
      have q2 := fun z : WIn (fun w' => Below B wr w') => (z.ok.cell (p := ⟨g, off + k * 5 + 2, none⟩) (show g < B by omega)).trans e2
      have q3 := fun z : WIn (fun w' => Below B wr w') => (z.ok.cell (p := ⟨g, off + k * 5 + 3, none⟩) (show g < B by omega)).trans e3
      have q4 := fun z : WIn (fun w' => Below B wr w') => (z.ok.cell (p := ⟨g, off + k * 5 + 4, none⟩) (show g < B by omega)).trans e4
      have HD : Hid (Below B wr wr.drew) := (show Below _ _ _ from (Below.refl _ _).drew)
      have HOd : Hid (wr.ownsRow 0 54 5 (.slice ao k co2) k (flat mc (l.take k))) := HO.out
      have HFin : Hid (∀ w5 v5, Below B wr w5 → w5.ownsRow 0 54 5 v5 (l.take k ++ [m]).length (flat mc (l.take k ++ [m])) → (∀ j, v5.ownBlock = some j → B ≤ j) → 
          Below w.heap.size w (w5.setCell ⟨w.heap.size + 2, 0, none⟩ v5) ∧ Blk (w5.setCell ⟨w.heap.size + 2, 0, none⟩ v5) w.heap.size 28 [.slice (some ⟨g, off, none⟩) n ca, .int .i64 e] ∧ Blk (w5.setCell ⟨w.heap.size + 2, 0, none⟩ v5) (w.heap.size + 1) 32 [.slice none 0 0, .int .i64 0] ∧ Blk (w5.setCell ⟨w.heap.size + 2, 0, none⟩ v5) (w.heap.size + 2) 32 [v5, .int .i64 e] ∧ (w5.setCell ⟨w.heap.size + 2, 0, none⟩ v5).ownsRow 0 54 5 v5 (l.take (k + 1)).length (flat mc (l.take (k + 1))) ∧ (∀ j, v5.ownBlock = some j → w.heap.size + 3 ≤ j)) := fun w5 v5 h5 ho hn5 => by
        have hY2 := Y2.out.block (h5.block (w.heap.size + 2) (by omega))
        refine ⟨(HB.out.trans (h5.mono (by omega))).setCell (by simp) _, (Y0.out.block (h5.block w.heap.size (by omega))).other _ _ (by omega), (Y1.out.block (h5.block (w.heap.size + 1) (by omega))).other _ _ (by omega), hY2.set 0 v5, ?_, fun j hj => by have := hn5 j hj; omega⟩
        rw [HTk.out]
        exact ownsRow_block ho (fun j hj => Below.heap_setCell _ _ _ _ (by have := hn5 j hj; simp; omega))
      obtain ⟨x0, x1, x2, x3, x4⟩ := m
      have HRq2 : Hid (∀ w' : World, RowF mc (w'.alloc (.cells #[.int .i64 x0, .int .u64 x1, .int .i64 x2, .int .i64 x3, .int .i64 x4] 54)) (.slice (some ⟨w'.heap.size, 0, none⟩) 1 1) [(⟨x0, x1, x2, x3, x4⟩ : Mb)]) := HRq
      have HFz : Hid (∀ w5, Below B wr w5 → w5.cell? ⟨w.heap.size + 2, 0, none⟩ = some (.slice ao k co2) ∧ w5.frozen? ⟨w.heap.size + 2, 0, none⟩ = false) := fun w5 h5 => 
        have hY2 := Y2.out.block (h5.block (w.heap.size + 2) (by omega))
        ⟨hY2.cell 0 _ rfl, hY2.frozen 0⟩
      have HNw2 : Hid (∀ j, (Value.slice ao k co2).ownBlock = some j → B ≤ j) := fun j hj => by have := HNw.out j hj; omega
      unfold mv at HM
      dsimp only at *
      clear hr hr' ea' hm e0 e1 e2 e3 e4 HRq hB
      go_upto_region 5 with fail
      refine wp_region_treeZ (C := fun w' => ∃ z : WIn (fun w' => Below B wr w'), w' = z.w) 11 (.still 0 (.still 1 (.still 2 (.still 3 (.still 4 (.still 5 (.still 6 (.one 7 (.one 8 (.one 9 (.still 10 .done))))))))))) rfl (by kernel_rfl) (by kernel_rfl) ⟨⟨wr.drew, HD.out⟩, rfl⟩ ?_
      iterate 7 (refine tree_still rfl rfl ?_; go_big_quiet_step (fail); refine wpQuiet_nil ?_)
      refine tree_one rfl rfl ?_
      go_simp
      refine (HM.out wr.drew).mono ?_
      rintro r w3 ⟨rfl, hb3⟩
      have HD3 : Hid (Below B wr w3) := (show Below _ _ _ from HD.out.trans (hb3.mono HBs.out))
      have HO3 : Hid (w3.ownsRow 0 54 5 (.slice ao k co2) k (flat mc (l.take k))) := (own_below (w := wr.drew) HOd.out hb3)
      have HS3 : Hid (B ≤ w3.heap.size) := Nat.le_trans HBs.out hb3.size
      clear hb3
      refine ⟨⟨⟨_, HD3.out⟩, rfl⟩, ?_⟩
      go_simp
      refine tree_one rfl rfl ?_
      go_simp
      have HD2 : Hid (Below B wr (w3.alloc (.cells #[.int .i64 x0, .int .u64 x1, .int .i64 x2, .int .i64 x3, .int .i64 x4] 54))) := HD3.out.alloc HS3.out _
      have HOd2 : Hid ((w3.alloc (.cells #[.int .i64 x0, .int .u64 x1, .int .i64 x2, .int .i64 x3, .int .i64 x4] 54)).ownsRow 0 54 5 (.slice ao k co2) (l.take k).length (flat mc (l.take k))) := by rw [hkq]; exact HO3.out.alloc _
      refine ⟨⟨⟨_, HD2.out⟩, rfl⟩, ?_⟩
      go_simp
      refine tree_one rfl rfl ?_
      refine wp_of_list rfl ?_
      refine wpList_append_rows ty30 mc_len (by omega) rfl (.tmp 16) (.tmp 23) rfl _ (l.take k) rfl HOd2.out _ [(⟨x0, x1, x2, x3, x4⟩ : Mb)] rfl (HRq2.out w3) (flat_mc_one _) (by simp; omega) ?_
      intro v5 w5 k1 k2 k3
      have hb5 : Below B wr w5 := HD2.out.grown k2 (Nat.le_trans HS3.out (by simp)) (fun j hj => HNw2.out j hj)
      have hn5 : ∀ j, v5.ownBlock = some j → B ≤ j := fun j hj => by
        rcases k3 j hj with r | r
        · exact HNw2.out j r
        · have := HS3.out; simp at r; omega
      obtain ⟨a5, q5, hv5, hq5⟩ := slice_of_own k1
      have HF5 := HFin.out w5 v5 hb5 k1 hn5
      have hlz : (l.take k ++ [(⟨x0, x1, x2, x3, x4⟩ : Mb)]).length = k + 1 := by rw [List.length_append, hkq]; rfl
      rw [hlz] at hv5
      subst hv5
      obtain ⟨f1, f2, f3, f4, f5, f6⟩ := HF5
      have HF1 : Hid (Below w.heap.size w (w5.setCell ⟨w.heap.size + 2, 0, none⟩ (.slice a5 (k + 1) q5))) := f1
      have HF2 : Hid (Blk (w5.setCell ⟨w.heap.size + 2, 0, none⟩ (.slice a5 (k + 1) q5)) w.heap.size 28 [.slice (some ⟨g, off, none⟩) n ca, .int .i64 e]) := f2
      have HF3 : Hid (Blk (w5.setCell ⟨w.heap.size + 2, 0, none⟩ (.slice a5 (k + 1) q5)) (w.heap.size + 1) 32 [.slice none 0 0, .int .i64 0]) := f3
      have HF4 : Hid (Blk (w5.setCell ⟨w.heap.size + 2, 0, none⟩ (.slice a5 (k + 1) q5)) (w.heap.size + 2) 32 [.slice a5 (k + 1) q5, .int .i64 e]) := f4
      have HF5 : Hid ((w5.setCell ⟨w.heap.size + 2, 0, none⟩ (.slice a5 (k + 1) q5)).ownsRow 0 54 5 (.slice a5 (k + 1) q5) (l.take (k + 1)).length (flat mc (l.take (k + 1)))) := f5
      have HF6 : Hid (∀ j, (Value.slice a5 (k + 1) q5).ownBlock = some j → w.heap.size + 3 ≤ j) := f6
      have l0 := (HFz.out w5 hb5).1
      have l1 := (HFz.out w5 hb5).2
      clear k1 k2 k3 hq5 f1 f2 f3 f4 f5 f6
      refine ⟨rfl, ⟨⟨_, hb5⟩, rfl⟩, ?_⟩
      go_simp
      refine tree_still rfl rfl ?_
      go_big_quiet_step (fail)
      refine wpQuiet_nil ?_
      refine tree_done ?_
      refine ⟨rfl, ?_⟩
      go_simp
      clear z0 z2 q0 q1 q2 q3 q4 ne hkq
      go_wp2
      go_roundw
      case rel => exact ⟨k + 1, _, by go_num, by omega, HF1, HF2, HF3, HF4, HF5, HF6⟩
      case measure => simp [intOf]; omega
    · have hkn : k = n := by omega
      have hall : l.take k = l := List.take_of_length_le (by have := HN.out; omega)
      obtain ⟨ao, co2, hov, hcov⟩ := slice_of_own HO.out
      subst hov
      have HR : Hid (RowF mc wr (.slice ao (l.take k).length co2) l) := (by
        have := rowF_own mc_len HO.out
        rw [hall] at this ⊢
        exact this)
      have HNb : Hid (∀ j, (Value.slice ao (l.take k).length co2).ownBlock = some j → w.heap.size + 3 ≤ j) := HNw.out
      rw [hkq] at HR HNb Y2
      have u0 := Y2.out.cell 0 _ rfl; have u1 := Y2.out.cell 1 _ rfl
      have v0 := Y1.out.cell 0 _ rfl; have v1 := Y1.out.cell 1 _ rfl
      have x0 := Y1.out.frozen 0; have x1 := Y1.out.frozen 1
      clear hall hcov HO HNw hkq
      go_wp2
      refine bodyPost_ret (v := .agg #[.slice ao k co2, .int .i64 e]) ?_ rfl ⟨.slice ao k co2, rfl, ?_, ?_⟩
      · rw [results_cell1 rfl]
        go_simp
      · refine HR.out.blocks fun j hj hlt => ?_
        have := HNb.out j hj
        iterate 2 rw [Below.heap_setCell _ _ _ _ (by simp; omega)]
      · iterate 2 refine Below.setCell ?_ (by simp) _
        exact HB.out
end Go.Proofs.Ytgoghmabhdkdjaa
