/-
  Heads by lists; the table of shifts; place, numbered, head.
-/
import Derived.Test.YtkcighejmjgalaaDoorJrn4
import Derived.Lib.SlBytesConst
namespace Go.Proofs.YtkcighejmjgalaaDoor
set_option linter.unusedVariables false
set_option linter.unusedSimpArgs false
set_option synthInstance.maxSize 20000
set_option maxHeartbeats 2000000
set_option maxRecDepth 20000
open Go.RowKit Go.Maps

/-- The table of shifts lies in the first block. -/
structure Tab (w : World) : Prop where
  c0 : w.cell? ⟨0, 0, none⟩ = some (.int .u64 24)
  c1 : w.cell? ⟨0, 1, none⟩ = some (.int .u64 16)
  c2 : w.cell? ⟨0, 2, none⟩ = some (.int .u64 8)
  c3 : w.cell? ⟨0, 3, none⟩ = some (.int .u64 0)
section
variable {w w' : World}
theorem Tab.lt (h : Tab w) : 0 < w.heap.size := World.block_lt_of_cell? w _ h.c0
theorem Tab.block (h : Tab w) (hb : w'.heap[0]? = w.heap[0]?) : Tab w' := ⟨by rw [World.cell?_of_block hb]; exact h.c0, by rw [World.cell?_of_block hb]; exact h.c1, by rw [World.cell?_of_block hb]; exact h.c2, by rw [World.cell?_of_block hb]; exact h.c3⟩
theorem Tab.below {B : Nat} (h : Tab w) (hb : Below B w w') (hB : 0 < B) : Tab w' := h.block (hb.block 0 hB)
theorem Tab.mv {I : List Nat} {o o' : Nat → Nat} (h : Tab w) (ho : o 0 = 0) (m : Mv I w o w' o') (h0 : 0 ∉ I) : Tab w' ∧ o' 0 = 0 := ⟨h.block (m.block 0 h.lt (by rw [ho]; exact h0)), by rw [m.ext 0 h.lt]; exact ho⟩
theorem Tab.drew (h : Tab w) : Tab w.drew := ⟨h.c0, h.c1, h.c2, h.c3⟩
end

/-! ### A head -/
def headL (n : Int) : List Int := 94 :: (be4 n ++ List.replicate 59 0)
theorem headL_len (n : Int) : (headL n).length = 64 := by simp [headL, be4]
theorem headL_oct {n : Int} (h : U32 n) : Oct (headL n) := Oct.cons (by omega) ((be4_oct h).append (fun y hy => by have := List.eq_of_mem_replicate hy; omega))
theorem headL_num (n : Int) : num4 ((headL n).drop 1) = n := num4_be4 n _
def placeN (n : Int) : Nat := if n % 2 = 0 then 1 else 0

theorem place53 (n : Int) (w : World) (hn : U32 n) : Calls Tryd.prog 53 #[.int .u32 n] w fun r w' => r = .returned (.int .i64 (placeN n : Int)) ∧ w' = w := by
  obtain ⟨h0, h1⟩ := hn
  have e1 : 1 - n % 2 = (placeN n : Int) := by unfold placeN; split <;> omega
  go_enter Tryd.func53, Tryd.ntmps53
  go_wp2
  go_ret
  exact ⟨by rw [← e1]; rfl, rfl⟩

theorem index107 (w : World) : (Instr.index 107 (.agg #[.int .u64 24, .int .u64 16, .int .u64 8, .int .u64 0]) (.int .i64 0)).run Tryd.prog w = .ok (.int .u64 24) w ∧ (Instr.index 107 (.agg #[.int .u64 24, .int .u64 16, .int .u64 8, .int .u64 0]) (.int .i64 1)).run Tryd.prog w = .ok (.int .u64 16) w ∧
    (Instr.index 107 (.agg #[.int .u64 24, .int .u64 16, .int .u64 8, .int .u64 0]) (.int .i64 2)).run Tryd.prog w = .ok (.int .u64 8) w ∧ (Instr.index 107 (.agg #[.int .u64 24, .int .u64 16, .int .u64 8, .int .u64 0]) (.int .i64 3)).run Tryd.prog w = .ok (.int .u64 0) w := by
  refine ⟨?_, ?_, ?_, ?_⟩ <;> kernel_rfl

theorem numbered61 {w : World} {v : Value} {l : List Int} (hT : Tab w) (h : Rd w v l) (hl : 5 ≤ l.length) : Calls Tryd.prog 61 #[v] w fun r w' => r = .returned (.int .u32 (num4 (l.drop 1))) ∧ w' = w := by
  obtain ⟨b, off, cap, rfl, hc1, hc2, hbw, hc⟩ := h.spot (by omega)
  have o0 := h.oct.at 1
  have o1 := h.oct.at 2
  have o2 := h.oct.at 3
  have o3 := h.oct.at 4
  have c0 := hc 1 (by omega)
  have c1 := hc 2 (by omega)
  have c2 := hc 3 (by omega)
  have c3 := hc 4 (by omega)
  have eN : num4 (l.drop 1) = l.getD 1 0 * 16777216 + l.getD 2 0 * 65536 + l.getD 3 0 * 256 + l.getD 4 0 := by
    unfold num4
    simp only [List.getD_eq_getElem?_getD, List.getElem?_drop]
  rw [eN]
  obtain ⟨n, hn⟩ : ∃ n, n = l.length := ⟨_, rfl⟩
  rw [← hn] at hc1 hl ⊢
  have HV1 : bits .or .u32 0 (l.getD 1 0 * 16777216) = l.getD 1 0 * 16777216 := by
    rw [or_u32 32 0 (l.getD 1 0 * 16777216) (by omega) (by omega) (by omega) (by omega) (by omega) (by omega)]
    omega
  have HV2 : bits .or .u32 (l.getD 1 0 * 16777216) (l.getD 2 0 * 65536) = l.getD 1 0 * 16777216 + l.getD 2 0 * 65536 := or_u32 24 _ _ (by omega) (by omega) (by omega) (by omega) (by omega) (by omega)
  have HV3 : bits .or .u32 (l.getD 1 0 * 16777216 + l.getD 2 0 * 65536) (l.getD 3 0 * 256) = l.getD 1 0 * 16777216 + l.getD 2 0 * 65536 + l.getD 3 0 * 256 := or_u32 16 _ _ (by omega) (by omega) (by omega) (by omega) (by omega) (by omega)
  have HV4 : bits .or .u32 (l.getD 1 0 * 16777216 + l.getD 2 0 * 65536 + l.getD 3 0 * 256) (l.getD 4 0) = l.getD 1 0 * 16777216 + l.getD 2 0 * 65536 + l.getD 3 0 * 256 + l.getD 4 0 := or_u32 8 _ _ (by omega) (by omega) (by omega) (by omega) (by omega) (by omega)
  generalize l.getD 1 0 = x0 at *
  generalize l.getD 2 0 = x1 at *
  generalize l.getD 3 0 = x2 at *
  generalize l.getD 4 0 = x3 at *
  have t0 := hT.c0
  have t1 := hT.c1
  have t2 := hT.c2
  have t3 := hT.c3
  have i0 := fun w' => (index107 w').1
  have i1 := fun w' => (index107 w').2.1
  have i2 := fun w' => (index107 w').2.2.1
  have i3 := fun w' => (index107 w').2.2.2
  have HN : Hid (n = l.length) := hn
  clear h hc hT eN hn
  go_enter Tryd.func61, Tryd.ntmps61
  go_wp2
  go_loopw [7, 3] (fun kv nv wr => Hid (wr = w) ∧ ((kv = .int .i64 0 ∧ nv = .int .u32 0) ∨ (kv = .int .i64 1 ∧ nv = .int .u32 (x0 * 16777216)) ∨ (kv = .int .i64 2 ∧ nv = .int .u32 (x0 * 16777216 + x1 * 65536)) ∨ (kv = .int .i64 3 ∧ nv = .int .u32 (x0 * 16777216 + x1 * 65536 + x2 * 256)) ∨ (kv = .int .i64 4 ∧ nv = .int .u32 (x0 * 16777216 + x1 * 65536 + x2 * 256 + x3)))) (fun kv _ _ => 4 - (intOf kv).toNat)
  case atStart => exact ⟨rfl, .inl ⟨rfl, rfl⟩⟩
  case round =>
    obtain ⟨hw, hr⟩ := hrel
    have hw' := hw.out
    subst hw'
    rcases hr with ⟨rfl, rfl⟩ | ⟨rfl, rfl⟩ | ⟨rfl, rfl⟩ | ⟨rfl, rfl⟩ | ⟨rfl, rfl⟩
    · go_wp2
      go_roundw
      case rel => exact ⟨trivial, .inr (.inl ⟨by go_num, by go_num⟩)⟩
      case measure => simp [intOf]
    · go_wp2
      go_roundw
      case rel => exact ⟨trivial, .inr (.inr (.inl ⟨by go_num, by go_num⟩))⟩
      case measure => simp [intOf]
    · go_wp2
      go_roundw
      case rel => exact ⟨trivial, .inr (.inr (.inr (.inl ⟨by go_num, by go_num⟩)))⟩
      case measure => simp [intOf]
    · go_wp2
      go_roundw
      case rel => exact ⟨trivial, .inr (.inr (.inr (.inr ⟨by go_num, by go_num⟩)))⟩
      case measure => simp [intOf]
    · go_wp2
      go_ret
      exact ⟨rfl, rfl⟩

/-! ### head -/
def hk (n : Int) (k : Nat) : List Int := 94 :: ((be4 n).take k ++ List.replicate (63 - k) 0)
theorem alloc74 (w : World) : (Instr.alloc 74 true (.tuple #[])).run Tryd.prog w = .ok (.pointer (some ⟨w.heap.size, 0, none⟩)) (w.alloc (.cells (cs8 (List.replicate 64 0)).toArray 74)) := by kernel_rfl
theorem exec_alloc74 {o : Oper} {r : Operand → Value} {w : World} (ho : o.op = .alloc 74) : (execOp r o).run Tryd.prog w = .ok (.value (.pointer (some ⟨w.heap.size, 0, none⟩))) (w.alloc (.cells (cs8 (List.replicate 64 0)).toArray 74)) := by
  unfold execOp
  simp only [ho, Sem.run_bind, alloc74, Result.andThen_ok, Sem.run_pure]
theorem hk_first (n : Int) : (cs8 (List.replicate 64 0)).set 0 (.int .u8 94) = cs8 (hk n 0) := rfl
theorem hk_step (n : Int) : (cs8 (hk n 0)).set 1 (.int .u8 (n / 16777216)) = cs8 (hk n 1) ∧ (cs8 (hk n 1)).set 2 (.int .u8 (n / 65536 % 256)) = cs8 (hk n 2) ∧ (cs8 (hk n 2)).set 3 (.int .u8 (n / 256 % 256)) = cs8 (hk n 3) ∧ (cs8 (hk n 3)).set 4 (.int .u8 (n % 256)) = cs8 (hk n 4) := ⟨rfl, rfl, rfl, rfl⟩
theorem hk_at (n : Int) : (cs8 (hk n 0))[1]? = some (.int .u8 0) ∧ (cs8 (hk n 1))[2]? = some (.int .u8 0) ∧ (cs8 (hk n 2))[3]? = some (.int .u8 0) ∧ (cs8 (hk n 3))[4]? = some (.int .u8 0) := ⟨rfl, rfl, rfl, rfl⟩
/-- The sector that is filled. -/
structure HdK (w wr : World) (n : Int) (k : Nat) : Prop where
  blk : Blk wr w.heap.size 74 (cs8 (hk n k))
  bel : Below w.heap.size w wr
theorem HdK.step {w wr : World} {n x : Int} {k : Nat} (h : HdK w wr n k) (e : (cs8 (hk n k)).set (k + 1) (.int .u8 x) = cs8 (hk n (k + 1))) : HdK w (wr.setCell ⟨w.heap.size, k + 1, none⟩ (.int .u8 x)) n (k + 1) :=
  ⟨by have := h.blk.set (k + 1) (.int .u8 x); rwa [e] at this, bgrown h.bel (Nat.le_refl _) (grown_setCell _ _ _ _)⟩
theorem head54 {w : World} {n : Int} (hT : Tab w) (hn : U32 n) : Calls Tryd.prog 54 #[.int .u32 n] w fun r w' => r = .returned (.slice (some ⟨w.heap.size, 0, none⟩) 64 64) ∧ Rd w' (.slice (some ⟨w.heap.size, 0, none⟩) 64 64) (headL n) ∧ Below w.heap.size w w' := by
  obtain ⟨w1, hw1⟩ : ∃ w1, w1 = w.alloc (.cells (cs8 (List.replicate 64 0)).toArray 74) := ⟨_, rfl⟩
  have HW1 : Hid (w1 = w.alloc (.cells (cs8 (List.replicate 64 0)).toArray 74)) := hw1
  have hB1 : Blk w1 w.heap.size 74 (cs8 (List.replicate 64 0)) := by rw [hw1]; exact blk_new w _ 74
  have hb1 : Below w.heap.size w w1 := by rw [hw1]; exact balloc (Below.refl _ _) _
  have f0 : w1.cell? ⟨w.heap.size, 0, none⟩ = some (.int .u8 0) := hB1.cell 0 _ rfl
  have f1 := hB1.frozen 0
  have HK0 : Hid (HdK w (w1.setCell ⟨w.heap.size, 0, none⟩ (.int .u8 94)) n 0) := ⟨by have := hB1.set 0 (.int .u8 94); rwa [hk_first n] at this, bgrown hb1 (Nat.le_refl _) (grown_setCell _ _ _ _)⟩
  have hT0 := hT.below HK0.out.bel hT.lt
  have HT : Hid (Tab w) := hT
  have HO : Hid (Oct (headL n)) := headL_oct hn
  have hn0 := hn.1
  have hn1 := hn.2
  have t0 := hT0.c0
  have t1 := hT0.c1
  have t2 := hT0.c2
  have t3 := hT0.c3
  have i0 := fun w' => (index107 w').1
  have i1 := fun w' => (index107 w').2.1
  have i2 := fun w' => (index107 w').2.2.1
  have i3 := fun w' => (index107 w').2.2.2
  clear hw1 hB1 hb1 hT hT0 hn
  go_enter Tryd.func54, Tryd.ntmps54
  go_wp2_with (refine wpList_ok rfl (exec_alloc74 rfl) ?_; rw [← HW1.out])
  go_loopw [8] (fun kv wr => ∃ k : Nat, k ≤ 4 ∧ kv = .int .i64 k ∧ Hid (HdK w wr n k)) (fun kv _ => 4 - (intOf kv).toNat)
  case atStart => exact ⟨0, by omega, rfl, HK0⟩
  case round =>
    obtain ⟨k, hk4, rfl, hK⟩ := hrel
    have hk5 : k = 0 ∨ k = 1 ∨ k = 2 ∨ k = 3 ∨ k = 4 := by omega
    clear t0 t1 t2 t3 f0 f1 hk4
    rcases hk5 with rfl | rfl | rfl | rfl | rfl
    · have l1 : wr.cell? ⟨w.heap.size, 1, none⟩ = some (.int .u8 0) := hK.out.blk.cell 1 _ (hk_at n).1
      have l2 := hK.out.blk.frozen 1
      have HN : Hid (HdK w (wr.setCell ⟨w.heap.size, 1, none⟩ (.int .u8 (n / 16777216))) n 1) := hK.out.step (hk_step n).1
      go_wp2
      go_roundw
      case rel => exact ⟨1, by omega, by go_num, HN⟩
      case measure => simp [intOf]
    · have l1 : wr.cell? ⟨w.heap.size, 2, none⟩ = some (.int .u8 0) := hK.out.blk.cell 2 _ (hk_at n).2.1
      have l2 := hK.out.blk.frozen 2
      have HN : Hid (HdK w (wr.setCell ⟨w.heap.size, 2, none⟩ (.int .u8 (n / 65536 % 256))) n 2) := hK.out.step (hk_step n).2.1
      go_wp2
      go_roundw
      case rel => exact ⟨2, by omega, by go_num, HN⟩
      case measure => simp [intOf]
    · have l1 : wr.cell? ⟨w.heap.size, 3, none⟩ = some (.int .u8 0) := hK.out.blk.cell 3 _ (hk_at n).2.2.1
      have l2 := hK.out.blk.frozen 3
      have HN : Hid (HdK w (wr.setCell ⟨w.heap.size, 3, none⟩ (.int .u8 (n / 256 % 256))) n 3) := hK.out.step (hk_step n).2.2.1
      go_wp2
      go_roundw
      case rel => exact ⟨3, by omega, by go_num, HN⟩
      case measure => simp [intOf]
    · have l1 : wr.cell? ⟨w.heap.size, 4, none⟩ = some (.int .u8 0) := hK.out.blk.cell 4 _ (hk_at n).2.2.2
      have l2 := hK.out.blk.frozen 4
      have HN : Hid (HdK w (wr.setCell ⟨w.heap.size, 4, none⟩ (.int .u8 (n % 256))) n 4) := hK.out.step (hk_step n).2.2.2
      go_wp2
      go_roundw
      case rel => exact ⟨4, by omega, by go_num, HN⟩
      case measure => simp [intOf]
    · have HR : Hid (Rd wr (.slice (some ⟨w.heap.size, 0, none⟩) 64 64) (headL n)) := ⟨HO.out, some ⟨w.heap.size, 0, none⟩, 64, by rw [headL_len], by rw [headL_len]; exact Nat.le_refl _, by unfold maxLen; omega, (fun h => by cases h), fun _ => ⟨w.heap.size, 0, rfl, fun j hj => by rw [Nat.zero_add]; exact hK.out.blk.cell _ _ (cs8_at _ _ hj)⟩⟩
      have HBe : Hid (Below w.heap.size w wr) := hK.out.bel
      clear hK
      go_wp2
      go_ret
      exact ⟨rfl, HR.out, HBe.out⟩
end Go.Proofs.YtkcighejmjgalaaDoor
