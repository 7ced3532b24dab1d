/-
  A step taken away from a row: slices.Delete.
-/
import Derived.Test.YthnjbjlhfohpfaaGreatUdI
namespace Go.Proofs.YthnjbjlhfohpfaaGreat
set_option linter.unusedVariables false
set_option linter.unusedSimpArgs false
set_option synthInstance.maxSize 20000
set_option maxHeartbeats 2000000
set_option maxRecDepth 20000
open Go.RowKit Go.Maps

theorem run_clear66 {w : World} (g off c : Nat) (vs : List Value) (hb : Blk w g 73 vs) (hl : off + 21 ≤ vs.length) :
    (∀ ty, (Builtin.clear_ #[64] ty #[.slice (some ⟨g, off, none⟩) 1 c]).run Tryz.prog w = .ok (.tuple #[]) (w.setCells g off (Builtin.zeroCells (tv tz).cells 1).toList)) ∧ Blk (w.setCells g off (Builtin.zeroCells (tv tz).cells 1).toList) g 73 (spl vs off (Builtin.zeroCells (tv tz).cells 1).toList) ∧ w.grownBy (w.setCells g off (Builtin.zeroCells (tv tz).cells 1).toList) (some g) := by
  have hz : (Builtin.zeroCells (tv tz).cells 1).toList.length = 21 := zero_len 1
  have h1 : ∀ v ∈ (Builtin.zeroCells (tv tz).cells 1).toList, v.oneCell' = true := fun v hv => by
    simp [Builtin.zeroCells, Value.cells, tv, tc_len] at hv
    obtain ⟨i, hi, rfl⟩ := hv
    have hm : i % 21 < (tc tz).length := by rw [tc_len]; exact Nat.mod_lt _ (by omega)
    rw [List.getElem?_eq_getElem hm]
    exact tc_one tz _ (List.getElem_mem hm)
  have hcell : ∀ j, j < 21 → (w.cell? ⟨g, off + j, none⟩).isSome = true := fun j hj => hb.isIn _ (by omega)
  have hst := run_storeCells_cells (P := Tryz.prog) g off _ 0 w (fun j hj => by rw [hz] at hj; simpa using hcell j hj) (fun j hj => by simpa using hb.frozen (off + j)) h1
  simp only [Nat.add_zero] at hst
  obtain ⟨q1, q2⟩ := Blk.setsX (Builtin.zeroCells (tv tz).cells 1).toList off w vs hb (by rw [hz]; exact hl)
  refine ⟨fun ty => ?_, q1, q2⟩
  obtain ⟨i, hi, hz0, hs1, hs2⟩ := infoT
  simp [Builtin.clear_, run_underlying Tryz.underlying64, hst, zeroValue, typeInfo, hi, hz0]
theorem exec_clear66 {o : Oper} {r : Operand → Value} {w w' : World} {v : Value} (x : Operand) (ho : o.op = .call { callee := .builtin .clear, args := #[x], argTypes := #[64] }) (hx : r x = v) (hrun : (Builtin.clear_ #[64] o.type #[v]).run Tryz.prog w = .ok (.tuple #[]) w') : (execOp r o).run Tryz.prog w = .ok (.value (.tuple #[])) w' := by
  unfold execOp
  simp [ho, resolve, invoke, builtin, hx, hrun, Result.andThen]
theorem spl_mid (A X Z t : List Value) (h : X.length = Z.length) : spl (A ++ (X ++ t)) A.length Z = A ++ (Z ++ t) := by
  unfold spl
  rw [List.take_append_of_le_length (Nat.le_refl _), List.take_of_length_le (Nat.le_refl _), ← List.drop_drop, List.drop_append_of_le_length (Nat.le_refl _), List.drop_of_length_le (Nat.le_refl _), List.nil_append, ← h, List.drop_append_of_le_length (Nat.le_refl _), List.drop_of_length_le (Nat.le_refl _)]
  simp
theorem delete36 {w : World} {v : Value} {l : List ST} {i : Nat} (hown : SRow w v l) (hi : i < l.length) (hl : l.length ≤ 1000) :
    Calls Tryz.prog 43 #[v, .int .i64 i, .int .i64 ((i : Int) + 1)] w fun e w' => ∃ v', e = .returned v' ∧ SRow w' v' (l.take i ++ l.drop (i + 1)) ∧ w.grownBy w' v.ownBlock ∧ v'.ownBlock = v.ownBlock := by
  rcases hown with ⟨rfl, rfl⟩ | ⟨g, cap, t, rfl, hY, h3, h2, h4⟩
  · simp at hi
  obtain ⟨n, hn⟩ : ∃ n, l.length = n := ⟨_, rfl⟩
  obtain ⟨i0, hi0, hz0, hs1, hs2⟩ := infoT
  have hcl : l.length * 21 + t.length = cap * 21 := by rw [List.length_append, ftc_len] at h3; exact h3
  have hlen2 : (l.take i ++ l.drop (i + 1)).length = n - 1 := by simp; omega
  obtain ⟨x, hx⟩ : ∃ x, l.drop (n - 1) = [x] := List.length_eq_one_iff.1 (by simp; omega)
  have hD : (flat tc (l.drop (i + 1))).length = (n - (i + 1)) * 21 := by rw [ftc_len, List.length_drop, hn]
  obtain ⟨R1, hR1⟩ : ∃ R1, R1 = flat tc (l.take i ++ l.drop (i + 1)) ++ (tc x ++ t) := ⟨_, rfl⟩
  obtain ⟨W1, hW1⟩ : ∃ W1, W1 = w.drew.setRow g R1.toArray := ⟨_, rfl⟩
  have hrow : (flat tc l ++ t).toArray.toList.take (i * 21) ++ flat tc (l.drop (i + 1)) ++ (flat tc l ++ t).toArray.toList.drop (i * 21 + (flat tc (l.drop (i + 1))).length) = R1 := by
    show (flat tc l ++ t).take (i * 21) ++ flat tc (l.drop (i + 1)) ++ (flat tc l ++ t).drop (i * 21 + (flat tc (l.drop (i + 1))).length) = R1
    have e1 : (flat tc l ++ t).take (i * 21) = flat tc (l.take i) := by rw [List.take_append_of_le_length (by rw [ftc_len]; omega), ftc_take]
    have e2 : (flat tc l ++ t).drop (i * 21 + (flat tc (l.drop (i + 1))).length) = tc x ++ t := by
      rw [hD, show i * 21 + (n - (i + 1)) * 21 = (n - 1) * 21 by omega, List.drop_append_of_le_length (by rw [ftc_len]; omega), ftc_drop, hx]
      simp [flat]
    rw [e1, e2, hR1, flat_append]
  have hap : ∀ (A : Addr) (c' : Nat), (0 < n - (i + 1) → A = ⟨g, (i + 1) * 21, none⟩) → ∀ ty, (Builtin.append_ #[64, 64] ty #[.slice (some ⟨g, 0, none⟩) i cap, .slice (some A) (n - (i + 1)) c']).run Tryz.prog w.drew = .ok (.slice (some ⟨g, 0, none⟩) (n - 1) cap) W1 := fun A c' hA ty => by
    have hr := run_append_room (P := Tryz.prog) (w := w.drew) 64 ty 73 i0 Tryz.underlying64 hi0 g i cap (flat tc l ++ t).toArray hY A (n - (i + 1)) c' (flat tc (l.drop (i + 1))) (by rw [hD, hs1]) (fun j u hu => by
      have hj : j < (n - (i + 1)) * 21 := by have := (List.getElem?_eq_some_iff.1 hu).1; omega
      rw [hA (by omega), Addr.add_lit]
      refine Blk.cell (show Blk w.drew g 73 (flat tc l ++ t) from hY) _ u ?_
      rw [← ftc_drop, List.getElem?_drop] at hu
      rw [List.getElem?_append_left (by rw [ftc_len]; omega)]
      exact hu) (flat_tc_one _) (by omega) (by rw [hs1, hD, List.size_toArray, h3]; omega)
    rw [hs1, hrow, show i + (n - (i + 1)) = n - 1 by omega, ← hW1] at hr
    exact hr
  have hB1 : Blk W1 g 73 R1 := by
    rw [hW1]
    exact setRow_heap w.drew g _ R1.toArray 73 (0, 0) hY
  have hG1 : w.grownBy W1 (some g) := by rw [hW1]; exact ⟨rfl, rfl, rfl, by simp, fun k _ hk => setRow_other w.drew g k _ (fun e => hk (by rw [e]))⟩
  have hRl : R1.length = cap * 21 := by rw [hR1, List.length_append, ftc_len, hlen2, List.length_append, tc_len]; omega
  obtain ⟨q1, q2, q3⟩ := run_clear66 (w := W1) g ((n - 1) * 21) (cap - (n - 1)) R1 hB1 (by rw [hRl]; omega)
  obtain ⟨W2, hW2⟩ : ∃ W2, W2 = W1.setCells g ((n - 1) * 21) (Builtin.zeroCells (tv tz).cells 1).toList := ⟨_, rfl⟩
  rw [← hW2] at q1 q2 q3
  have HF : Hid (SRow W2 (.slice (some ⟨g, 0, none⟩) (n - 1) cap) (l.take i ++ l.drop (i + 1))) := by
    have hsp : spl R1 ((n - 1) * 21) (Builtin.zeroCells (tv tz).cells 1).toList = flat tc (l.take i ++ l.drop (i + 1)) ++ ((Builtin.zeroCells (tv tz).cells 1).toList ++ t) := by
      have e0 : (flat tc (l.take i ++ l.drop (i + 1))).length = (n - 1) * 21 := by rw [ftc_len, hlen2]
      rw [hR1, ← e0]
      exact spl_mid _ _ _ _ (by rw [tc_len, zero_len])
    rw [hsp] at q2
    refine .inr ⟨g, cap, _, by rw [hlen2], q2, ?_, h2, (zero_noB 1).append h4⟩
    rw [List.length_append, ftc_len, hlen2, List.length_append, zero_len]
    omega
  have HG : Hid (w.grownBy W2 (some g)) := grown_trans hG1 q3 (fun k hk => .inl hk)
  have hc63 : cap ≤ 9223372036854775807 := by unfold maxLen at h2; omega
  have hncap : n ≤ cap := by omega
  have hin : (i : Int) < (n : Int) := by omega
  have hi1 : ((i : Int) + 1).toNat = i + 1 := by omega
  have hne : ((i : Int) == (i : Int) + 1) = false := by rw [beq_eq_false_iff_ne]; omega
  have hlI : (i : Int) + 1 ≤ (n : Int) := by omega
  rw [hn] at hi
  rw [hn]
  clear hcl hlen2 hx hD hrow hY h3 hi0 hz0 hs1 hs2 hB1 hG1 hRl q2 q3 h2
  have hcn : ¬ cap = n - 1 := by omega
  by_cases hcap : cap = i + 1
  · subst hcap
    obtain rfl : n = i + 1 := by omega
    have hci : ¬ i + 1 = i := by omega
    have hA := hap ⟨g, 0, none⟩ 0 (fun h => by omega)
    rw [Nat.sub_self, Nat.add_sub_cancel] at hA
    rw [Nat.add_sub_cancel, Nat.add_sub_cancel_left] at q1
    rw [Nat.add_sub_cancel] at HF
    have hn1 : (i : Int) < ((i + 1 : Nat) : Int) := by omega
    clear hap hW2 hW1 hR1
    go_enter Tryz.func43, Tryz.ntmps43
    go_upto_region 5 with fail
    have ne : Nonempty (WIn (fun _ => True)) := ⟨⟨w.drew, trivial⟩⟩
    refine wp_region_ord (C := fun w' => ∃ z : WIn (fun _ => True), w' = z.w) [(false, 0), (false, 1), (false, 2), (false, 3), (false, 4), (false, 5), (true, 6), (false, 7)] (by kernel_rfl) (by kernel_rfl) ⟨⟨w.drew, trivial⟩, rfl⟩ ?_
    iterate 6 (refine ord_still rfl rfl ?_; go_big_quiet_step (fail); refine wpQuiet_nil ?_)
    refine ord_mem rfl rfl ?_
    refine wp_of_list rfl ?_
    refine wpList_append_at rfl (.tmp 22) (.tmp 25) 64 64 rfl (.slice (some ⟨g, 0, none⟩) i (i + 1)) (.slice (some ⟨g, 0, none⟩) 0 0) rfl rfl hA ?_
    refine ⟨rfl, ⟨⟨W1, trivial⟩, rfl⟩, ?_⟩
    go_simp
    iterate 1 (refine ord_still rfl rfl ?_; go_big_quiet_step (fail); refine wpQuiet_nil ?_)
    refine ord_end ?_
    clear ne
    go_wp2_with (refine wpList_ok rfl (exec_clear66 (.tmp 31) rfl rfl (q1 _)) ?_)
    go_ret
    exact ⟨_, rfl, HF.out, HG.out, rfl⟩
  · have hci : ¬ cap = i := by omega
    have hA := hap ⟨g, (i + 1) * 21, none⟩ (cap - (i + 1)) (fun _ => rfl)
    have hn1 : ((n - 1 : Nat) : Int) < (n : Int) := by omega
    have hn2 : n - 1 ≤ n := by omega
    have hn3 : n - (n - 1) = 1 := by omega
    have hcap' : ¬ cap = i + 1 := hcap
    clear hap hW2 hcap hW1 hR1
    go_enter Tryz.func43, Tryz.ntmps43
    go_upto_region 5 with fail
    have ne : Nonempty (WIn (fun _ => True)) := ⟨⟨w.drew, trivial⟩⟩
    refine wp_region_ord (C := fun w' => ∃ z : WIn (fun _ => True), w' = z.w) [(false, 0), (false, 1), (false, 2), (false, 3), (false, 4), (false, 5), (true, 6), (false, 7)] (by kernel_rfl) (by kernel_rfl) ⟨⟨w.drew, trivial⟩, rfl⟩ ?_
    iterate 6 (refine ord_still rfl rfl ?_; go_big_quiet_step (fail); refine wpQuiet_nil ?_)
    refine ord_mem rfl rfl ?_
    refine wp_of_list rfl ?_
    refine wpList_append_at rfl (.tmp 22) (.tmp 25) 64 64 rfl (.slice (some ⟨g, 0, none⟩) i cap) (.slice (some ⟨g, (i + 1) * 21, none⟩) (n - (i + 1)) (cap - (i + 1))) rfl rfl hA ?_
    refine ⟨rfl, ⟨⟨W1, trivial⟩, rfl⟩, ?_⟩
    go_simp
    iterate 1 (refine ord_still rfl rfl ?_; go_big_quiet_step (fail); refine wpQuiet_nil ?_)
    refine ord_end ?_
    clear ne
    go_wp2_with (refine wpList_ok rfl (exec_clear66 (.tmp 31) rfl rfl (q1 _)) ?_)
    go_ret
    exact ⟨_, rfl, HF.out, HG.out, rfl⟩
end Go.Proofs.YthnjbjlhfohpfaaGreat
