/-
  States that are the same.
-/
import Derived.Test.YtgoghmabhdkdjaaSta
import Derived.Laws.StructEq
namespace Go.Proofs.Ytgoghmabhdkdjaa
set_option linter.unusedVariables false
set_option linter.unusedSimpArgs false
set_option synthInstance.maxSize 20000
set_option maxHeartbeats 2000000
set_option maxRecDepth 20000
open Go.RowKit Go.Maps

theorem same15 {w : World} {va vb : Value} {e : Int} {l : List Mb} (ha : RowF mc w va l) (hb : RowF mc w vb l) : Calls Try.prog 15 #[stv va e, stv vb e] w fun r w' => r = .returned (.bool true) ∧ Below w.heap.size w w' := by
  obtain ⟨aa, ca, rfl⟩ := ha.len
  obtain ⟨ab, cb, rfl⟩ := hb.len
  have hc1 : l.length ≤ ca := ha.caps.2.1
  have hc2 : ca ≤ 9223372036854775807 := ha.caps.2.2
  have hc3 : l.length ≤ cb := hb.caps.2.1
  have hc4 : cb ≤ 9223372036854775807 := hb.caps.2.2
  have HA : Hid (∀ w', Below w.heap.size w w' → RowF mc w' (.slice aa l.length ca) l) := fun w' h => ha.below h
  have HB : Hid (∀ w', Below w.heap.size w w' → RowF mc w' (.slice ab l.length cb) l) := fun w' h => hb.below h
  obtain ⟨n, hn⟩ : ∃ n, n = l.length := ⟨_, rfl⟩
  have HN : Hid (n = l.length) := hn
  rw [← hn] at hc1 hc3 HA HB ⊢
  obtain ⟨w1, hw1⟩ : ∃ w1, w1 = (w.alloc (.cells #[.slice aa n ca, .int .i64 e] 32)).alloc (.cells #[.slice ab n cb, .int .i64 e] 32) := ⟨_, rfl⟩
  have HB1 : Hid (Below w.heap.size w w1) := by rw [hw1]; exact balloc2 _ _ _
  have X0 : Hid (Blk w1 w.heap.size 32 [.slice aa n ca, .int .i64 e]) := by rw [hw1]; exact blk2_0 w [.slice aa n ca, .int .i64 e] [.slice ab n cb, .int .i64 e] 32 32
  have X1 : Hid (Blk w1 (w.heap.size + 1) 32 [.slice ab n cb, .int .i64 e]) := by rw [hw1]; exact blk2_1 w [.slice aa n ca, .int .i64 e] [.slice ab n cb, .int .i64 e] 32 32
  have HW1 : Hid (w1 = (w.alloc (.cells #[.slice aa n ca, .int .i64 e] 32)).alloc (.cells #[.slice ab n cb, .int .i64 e] 32)) := hw1
  have x0 := X0.out.cell 0 _ rfl; have x1 := X0.out.cell 1 _ rfl; have y0 := X1.out.cell 0 _ rfl; have y1 := X1.out.cell 1 _ rfl
  clear ha hb hn hw1
  unfold stv
  go_enter Try.func15, Try.ntmps15
  go_upto_region 1 with fail
  rw [← HW1.out]
  go_wp2
  clear x0 x1 y0 y1
  go_loopw [5] (fun i wr => ∃ k : Nat, i = .int .i64 k ∧ k ≤ n ∧ Hid (Below w1.heap.size w1 wr)) (fun i _ => n - (intOf i).toNat)
  case atStart => exact ⟨0, rfl, by omega, (show Below _ _ _ from Below.refl _ _)⟩
  case round =>
    obtain ⟨k, rfl, hk, HBr⟩ := hrel
    have HBw : Hid (Below w.heap.size w wr) := (show Below _ _ _ from bnext HB1.out HBr.out)
    have x0 := (X0.out.below HBr.out).cell 0 _ rfl
    have y0 := (X1.out.below HBr.out).cell 0 _ rfl
    by_cases hki : k < n
    · obtain ⟨m, hm⟩ : ∃ m, l[k]? = some m := ⟨_, List.getElem?_eq_getElem (by have := HN.out; omega)⟩
      obtain ⟨g, off, ea, hr⟩ := (HA.out wr HBw.out).at mc_len hm
      obtain ⟨g2, off2, ea2, hr2⟩ := (HB.out wr HBw.out).at mc_len hm
      subst ea ea2
      obtain ⟨m0, m1, m2, m3, m4⟩ := m
      have HD : Hid (Below wr.heap.size wr wr.drew) := (show Below _ _ _ from (Below.refl _ _).drew)
      have D0 := fun z : WIn (fun w' => Below wr.heap.size wr w') => ((X0.out.below HBr.out).below z.ok).cell 0 _ rfl
      have D1 := fun z : WIn (fun w' => Below wr.heap.size wr w') => ((X1.out.below HBr.out).below z.ok).cell 0 _ rfl
      have hcl : ∀ (z : WIn (fun w' => Below wr.heap.size wr w')) p v, wr.cell? p = some v → z.w.cell? p = some v := fun z p v hp => (z.ok.cell (World.block_lt_of_cell? wr _ hp)).trans hp
      have a0 := fun z => hcl z _ _ (hr 0 _ rfl); have a1 := fun z => hcl z _ _ (hr 1 _ rfl); have a2 := fun z => hcl z _ _ (hr 2 _ rfl); have a3 := fun z => hcl z _ _ (hr 3 _ rfl); have a4 := fun z => hcl z _ _ (hr 4 _ rfl)
      have b0 := fun z => hcl z _ _ (hr2 0 _ rfl); have b1 := fun z => hcl z _ _ (hr2 1 _ rfl); have b2 := fun z => hcl z _ _ (hr2 2 _ rfl); have b3 := fun z => hcl z _ _ (hr2 3 _ rfl); have b4 := fun z => hcl z _ _ (hr2 4 _ rfl)
      simp only [Nat.add_zero] at a0 b0
      have ne : Nonempty (WIn (fun w' => Below wr.heap.size wr w')) := ⟨⟨wr, Below.refl _ _⟩⟩
      have HBd : Hid (Below w1.heap.size w1 wr.drew) := (show Below _ _ _ from HBr.out.drew)
      clear hr hr2 hm hcl
      go_upto_region 6 with fail
      refine wp_region_ord (C := fun w' => ∃ z : WIn (fun w' => Below wr.heap.size wr w'), w' = z.w) [(false, 0), (false, 1), (false, 2), (false, 3), (false, 4), (false, 5), (false, 6), (false, 7), (false, 8), (false, 9), (false, 10)] (by kernel_rfl) (by kernel_rfl) ⟨⟨wr.drew, HD.out⟩, rfl⟩ ?_
      iterate 11 (refine ord_still rfl rfl ?_; go_big_quiet_step (fail); refine wpQuiet_nil ?_)
      refine ord_end ?_
      clear D0 D1 a0 a1 a2 a3 a4 b0 b1 b2 b3 b4 ne
      go_wp2
      go_roundw
      case rel => exact ⟨k + 1, by go_num, by omega, HBd⟩
      case measure => simp [intOf]; omega
    · go_wp2
      go_ret
      exact ⟨rfl, HBw.out⟩
end Go.Proofs.Ytgoghmabhdkdjaa
