/-
  Cells of steps that are copied within rows; the library's overlaps.
-/
import Derived.Test.YthnjbjlhfohpfaaGreatUdS
import Derived.Lib.Overlaps
import Derived.Lib.AppendZerosOnto
import Derived.Laws.CopyOwn
namespace Go.Proofs.YthnjbjlhfohpfaaGreat
set_option linter.unusedVariables false
set_option linter.unusedSimpArgs false
set_option synthInstance.maxSize 20000
set_option maxHeartbeats 2000000
set_option maxRecDepth 20000
open Go.RowKit Go.Maps

theorem infoT : ∃ i, Tryz.prog.info? 73 = some i ∧ i.zero = some (tv tz) ∧ i.size = 21 ∧ i.bytes = 208 := by
  obtain ⟨i, hi, hz, hs1, hs2⟩ := info_parts ty66.info
  exact ⟨i, hi, hz, hs1, hs2⟩
/-- A run of stores into a block. -/
def spl (vs : List Value) (o : Nat) (us : List Value) : List Value := vs.take o ++ us ++ vs.drop (o + us.length)
theorem spl_len (vs : List Value) (o : Nat) (us : List Value) (h : o + us.length ≤ vs.length) : (spl vs o us).length = vs.length := by unfold spl; simp; omega
theorem spl_cons (vs : List Value) (o : Nat) (u : Value) (us : List Value) (h : o + 1 + us.length ≤ vs.length) : spl (vs.set o u) (o + 1) us = spl vs o (u :: us) := by
  unfold spl
  rw [List.length_cons, show o + (us.length + 1) = o + 1 + us.length by omega, List.drop_set, if_pos (by omega)]
  have e : (vs.set o u).take (o + 1) = vs.take o ++ [u] := by
    rw [List.take_succ_eq_append_getElem (by simp; omega), List.take_set_of_le (Nat.le_refl _)]
    simp
  rw [e]
  simp
theorem Blk.setsX {b : Nat} {e : TypeId} : ∀ (us : List Value) (o : Nat) (w : World) (vs : List Value), Blk w b e vs → o + us.length ≤ vs.length → Blk (w.setCells b o us) b e (spl vs o us) ∧ w.grownBy (w.setCells b o us) (some b)
  | [], o, w, vs, h, _ => ⟨by show Blk w b e _; unfold spl; simpa using h, grown_refl _ _⟩
  | u :: us, o, w, vs, h, hl => by
    simp only [List.length_cons] at hl
    obtain ⟨h1, h4⟩ := Blk.setsX us (o + 1) (w.setCell ⟨b, o, none⟩ u) (vs.set o u) (h.set o u) (by simp; omega)
    rw [spl_cons vs o u us (by omega)] at h1
    exact ⟨h1, grown_trans (grown_setCell w b o u) h4 (fun k hk => .inl hk)⟩
theorem Blk.cells {w : World} {b : Nat} {e : TypeId} {vs : List Value} (h : Blk w b e vs) (o : Nat) (us : List Value) (hs : ∀ j u, us[j]? = some u → vs[o + j]? = some u) : ∀ j u, us[j]? = some u → w.cell? ⟨b, o + j, none⟩ = some u := fun j u hu => h.cell _ _ (hs j u hu)
theorem Blk.isIn {w : World} {b : Nat} {e : TypeId} {vs : List Value} (h : Blk w b e vs) (j : Nat) (hj : j < vs.length) : (w.cell? ⟨b, j, none⟩).isSome = true := by
  rw [h.cell j _ (List.getElem?_eq_getElem hj)]
  rfl
theorem Blk.shape {w : World} {b : Nat} {e : TypeId} {vs : List Value} (h : Blk w b e vs) : w.shape? b = some (e, vs.length) := by
  unfold Blk at h
  simp [World.shape?, h]

/-- Two stores, the second behind the first .. -/
theorem spl_up (R A V D : List Value) (p : Nat) (hA : R.take p = A) (hp : A.length = p) (hl : p + V.length + D.length ≤ R.length) : (spl (spl R p V) (p + V.length) D).take (p + V.length + D.length) = A ++ V ++ D := by
  have e1 : (spl R p V).take (p + V.length) = A ++ V := by
    unfold spl
    rw [hA, List.take_append_of_le_length (by simp; omega), List.take_of_length_le (by simp; omega)]
  have e2 : spl (spl R p V) (p + V.length) D = A ++ V ++ D ++ (spl R p V).drop (p + V.length + D.length) := by
    rw [show spl (spl R p V) (p + V.length) D = (spl R p V).take (p + V.length) ++ D ++ (spl R p V).drop (p + V.length + D.length) from rfl, e1]
  rw [e2, List.take_append_of_le_length (by simp; omega), List.take_of_length_le (by simp; omega)]
/-- .. and ahead of it. -/
theorem spl_down (R A V D : List Value) (p : Nat) (hA : R.take p = A) (hp : A.length = p) (hl : p + V.length + D.length ≤ R.length) : (spl (spl R (p + V.length) D) p V).take (p + V.length + D.length) = A ++ V ++ D := by
  have e1 : (spl R (p + V.length) D).take p = A := by
    unfold spl
    rw [List.append_assoc, List.take_append_of_le_length (by simp; omega), List.take_take, Nat.min_eq_left (by omega), hA]
  have e3 : (spl R (p + V.length) D).drop (p + V.length) = D ++ R.drop (p + V.length + D.length) := by
    unfold spl
    rw [List.append_assoc, List.drop_append_of_le_length (by simp; omega), List.drop_of_length_le (by simp; omega)]
    rfl
  have e2 : spl (spl R (p + V.length) D) p V = A ++ V ++ D ++ R.drop (p + V.length + D.length) := by
    rw [show spl (spl R (p + V.length) D) p V = (spl R (p + V.length) D).take p ++ V ++ (spl R (p + V.length) D).drop (p + V.length) from rfl, e1, e3]
    simp
  rw [e2, List.take_append_of_le_length (by simp; omega), List.take_of_length_le (by simp; omega)]

/-- 'copy(d, s)' of heads, between plain cells. -/
theorem run_copy_heads (w : World) (dT sT ty : TypeId) (b o dLen dCap : Nat) (a : Addr) (sLen sCap : Nat) (cs : List Value)
    (hu : Tryz.prog.underlying dT = some (.slice 73)) (hn : cs.length = Nat.min sLen dLen * 21)
    (hsrc : ∀ j v, cs[j]? = some v → w.cell? (a.add j) = some v) (hc : ∀ j, j < cs.length → (w.cell? ⟨b, o + j, none⟩).isSome = true) (hf : ∀ j, j < cs.length → w.frozen? ⟨b, o + j, none⟩ = false) (h1 : ∀ v ∈ cs, v.oneCell' = true) :
    (Builtin.copy_ #[dT, sT] ty #[.slice (some ⟨b, o, none⟩) dLen dCap, .slice (some a) sLen sCap]).run Tryz.prog w = .ok (goInt (Nat.min sLen dLen)) (w.setCells b o cs) := by
  obtain ⟨i, hi, hz, hs1, hs2⟩ := infoT
  have hfc := run_firstCells_some (P := Tryz.prog) w i.size (Nat.min sLen dLen) a sLen sCap cs (by rw [hs1]; exact hn) hsrc
  have hst := run_storeCells_cells (P := Tryz.prog) b o cs 0 w (by simpa using hc) (by simpa using hf) h1
  rw [Nat.add_zero] at hst
  simp [Builtin.copy_, run_underlying hu, Builtin.lenOf, sizeOf, typeInfo, hi, hfc, hst]

section
variable {w : World} {ops : Array Oper} {rest : List Oper} {o : Oper} {a : Act} {Q : Exit → Act → World → Prop}
theorem wpList_copy_heads (hgd : o.guard = none) (d s : Operand) (dT sT : TypeId)
    (ho : o.op = .call { callee := .builtin .copy, args := #[d, s], argTypes := #[dT, sT] }) (v u : Value) (hd : a.eval d = v) (hs : a.eval s = u) {v' : Value} {w' : World}
    (hr : ∀ ty, (Builtin.copy_ #[dT, sT] ty #[v, u]).run Tryz.prog w = .ok v' w') (h : wpList Tryz.prog ops Q rest (a.put o.dst v') w') : wpList Tryz.prog ops Q (o :: rest) a w := by
  refine wpList_plain hgd fun K hK => ?_
  unfold Oper.wp
  simp [execOp, ho, resolve, invoke, builtin, hd, hs, hr, Result.andThen]
  exact hK _ _ h
theorem wpList_append_at (hgd : o.guard = none) (d s : Operand) (dT sT : TypeId)
    (ho : o.op = .call { callee := .builtin .append, args := #[d, s], argTypes := #[dT, sT] }) (v u : Value) (hd : a.eval d = v) (hs : a.eval s = u) {v' : Value} {w' : World}
    (hr : ∀ ty, (Builtin.append_ #[dT, sT] ty #[v, u]).run Tryz.prog w = .ok v' w') (h : wpList Tryz.prog ops Q rest (a.put o.dst v') w') : wpList Tryz.prog ops Q (o :: rest) a w := by
  refine wpList_plain hgd fun K hK => ?_
  unfold Oper.wp
  simp [execOp, ho, resolve, invoke, builtin, hd, hs, hr, Result.andThen]
  exact hK _ _ h
end

/-- The model's own overlaps, of two blocks. -/
theorem overlaps_any (w : World) (vb g o : Nat) (la ca lb cb : Nat) (us vs : List Value) (hX : Blk w vb 73 us) (hY : Blk w g 73 vs) (hne : vb ≠ g) (hl : 0 < vs.length) :
    (callFunc 64 #[.slice (some ⟨vb, 0, none⟩) la ca, .slice (some ⟨g, o, none⟩) lb cb]).run Tryz.prog w = .ok (.value (.bool false)) w := by
  obtain ⟨i, hi, hz, hs1, hs2⟩ := infoT
  rw [run_callFunc_extern Tryz.func64 (by kernel_rfl) (by kernel_rfl) (by kernel_rfl) (e := Extern.SlicesOverlaps.overlaps #[64, 64] #[4]) (by kernel_rfl),
    Lib.run_overlaps_apart w 64 4 73 Tryz.underlying64 21 (fun w => by simp [sizeOf, typeInfo, hi, hs1]) ⟨vb, 0, none⟩ ⟨g, o, none⟩ la ca lb cb hne 73 73 us.length vs.length hX.shape hY.shape (by omega) (hX.frozen 0) (hX.frozen _)]
  rfl
theorem NoB.spl {vs us : List Value} {o : Nat} (h : NoB vs) (hu : NoB us) : NoB (spl vs o us) := ((h.take o).append hu).append (h.drop _)
theorem zero_len (n : Nat) : (Builtin.zeroCells (tv tz).cells n).toList.length = n * 21 := by simp [Builtin.zeroCells, Value.cells, tv, tc_len]
theorem zero_noB (n : Nat) : NoB (Builtin.zeroCells (tv tz).cells n).toList := fun u hu m e => by
  simp [Builtin.zeroCells, Value.cells, tv, tc_len] at hu
  obtain ⟨i, hi, rfl⟩ := hu
  have hm : i % 21 < (tc tz).length := by rw [tc_len]; exact Nat.mod_lt _ (by omega)
  rw [List.getElem?_eq_getElem hm] at e
  exact noB_tc tz _ (List.getElem_mem hm) m e
theorem ftc_take (l : List ST) (i : Nat) : (flat tc l).take (i * 21) = flat tc (l.take i) := flat_take tc_len l i
theorem ftc_drop (l : List ST) (i : Nat) : (flat tc l).drop (i * 21) = flat tc (l.drop i) := flat_drop tc_len l i
theorem ftc_mid (l : List ST) (i : Nat) (h : ST) : flat tc (l.take i ++ h :: l.drop i) = flat tc (l.take i) ++ tc h ++ flat tc (l.drop i) := by rw [flat_append, flat_cons, List.append_assoc]
theorem mid_len (l : List ST) (i : Nat) (h : ST) (hi : i ≤ l.length) : (l.take i ++ h :: l.drop i).length = l.length + 1 := by simp; omega
end Go.Proofs.YthnjbjlhfohpfaaGreat
