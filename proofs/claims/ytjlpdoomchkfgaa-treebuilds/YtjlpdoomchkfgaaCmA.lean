/-
  The first of each time; a row's end cleared.
-/
import Derived.Test.YtjlpdoomchkfgaaCln
namespace Go.Proofs.Ytjlpdoomchkfgaa
set_option linter.unusedVariables false
set_option linter.unusedSimpArgs false
set_option synthInstance.maxSize 20000
set_option maxHeartbeats 2000000
set_option maxRecDepth 20000
open Go.RowKit Go.Maps

theorem Blk.sets {b : Nat} {e : TypeId} : ∀ (us : List Value) (o : Nat) (w : World) (vs : List Value), Blk w b e vs → o + us.length ≤ vs.length → ∃ vs', Blk (w.setCells b o us) b e vs' ∧ vs'.length = vs.length ∧ vs'.take o = vs.take o ∧ w.grownBy (w.setCells b o us) (some b)
  | [], o, w, vs, h, _ => ⟨vs, h, rfl, rfl, grown_refl _ _⟩
  | u :: us, o, w, vs, h, hl => by
    simp only [List.length_cons] at hl
    obtain ⟨vs', h1, h2, h3, h4⟩ := Blk.sets us (o + 1) (w.setCell ⟨b, o, none⟩ u) (vs.set o u) (h.set o u) (by simp; omega)
    refine ⟨vs', h1, by simpa using h2, ?_, grown_trans (grown_setCell w b o u) h4 (fun k hk => .inl hk)⟩
    have e1 : vs'.take o = (vs'.take (o + 1)).take o := by rw [List.take_take, Nat.min_eq_left (by omega)]
    rw [e1, h3, List.take_take, Nat.min_eq_left (by omega), List.take_set_of_le (Nat.le_refl _)]
theorem zcells10 (n : Nat) : (Builtin.zeroCells (ov oz).cells n).toList.length = n * 10 ∧ ∀ v ∈ (Builtin.zeroCells (ov oz).cells n).toList, v.oneCell' = true := by
  refine ⟨by simp [Builtin.zeroCells, ov, oc, Value.cells], fun v hv => ?_⟩
  simp [Builtin.zeroCells, Value.cells, ov] at hv
  obtain ⟨i, hi, rfl⟩ := hv
  have h10 : i % 10 < (oc oz).length := by rw [oc_len]; exact Nat.mod_lt _ (by omega)
  have : (oc oz)[i % 10] ∈ oc oz := List.getElem_mem h10
  have := oc_one oz _ this
  have e : ((oc oz)[i % 10]?.getD default) = (oc oz)[i % 10] := by rw [List.getElem?_eq_getElem h10]; rfl
  rw [← e] at this
  simpa [oc_len] using this
theorem run_clear26 {w : World} {g N cap i n c : Nat} {l : List OpT} (h : Row w g N cap l) (hn : 0 < n) (hi : i + n = N) :
    ∃ w', (∀ ty, (Builtin.clear_ #[22] ty #[.slice (some ⟨g, i * 10, none⟩) n c]).run Try.prog w = .ok (.tuple #[]) w') ∧ Row w' g i cap (l.take i) ∧ w.grownBy w' (some g) := by
  have hzl := (zcells10 n).1
  have hz1 := (zcells10 n).2
  obtain ⟨hl, hx, hh⟩ := h
  rcases hh with ⟨e, _⟩ | ⟨g', cap', cur, e, h3, h4, h5, h6, h7, h8⟩
  · cases e
  · cases e
    have hb : Blk w g 40 cur.toList := by unfold Blk; simpa using h4
    have hlen : i * 10 + n * 10 ≤ cur.toList.length := by simp; omega
    have hcell : ∀ j, j < n * 10 → (w.cell? ⟨g, i * 10 + j, none⟩).isSome = true := fun j hj => by
      rw [hb.cell (i * 10 + j) _ (List.getElem?_eq_getElem (by omega))]
      rfl
    have hst := run_storeCells_cells (P := Try.prog) g (i * 10) _ 0 w (fun j hj => by rw [hzl] at hj; simpa using hcell j hj) (fun j hj => by simpa using hb.frozen (i * 10 + j)) hz1
    simp only [Nat.add_zero] at hst
    obtain ⟨vs', q1, q2, q3, q4⟩ := Blk.sets (Builtin.zeroCells (ov oz).cells n).toList (i * 10) w cur.toList hb (by rw [hzl]; exact hlen)
    obtain ⟨m, rfl⟩ : ∃ m, n = m + 1 := ⟨n - 1, by omega⟩
    refine ⟨_, fun ty => ?_, ⟨by rw [List.length_take]; omega, ?_, ?_⟩, q4⟩
    · have hzv : (zeroValue 40).run Try.prog w = .ok (ov oz) w := by
        obtain ⟨ii, hii, hzz, _, _⟩ := info_parts ty28.info
        simp [zeroValue, typeInfo, hii, hzz]
      simp [Builtin.clear_, run_underlying Try.underlying22, hzv, hst]
    · rw [flat_length oc_len, List.length_take]; omega
    · refine .inr ⟨g, cap, vs'.toArray, rfl, Nat.zero_le _, q1, by omega, h6, by simpa using q2.trans (by simpa using h7), ?_⟩
      rw [List.toList_toArray, q3]
      have e1 : cur.toList.take (i * 10) = (cur.toList.take (N * 10)).take (i * 10) := by rw [List.take_take, Nat.min_eq_left (by omega)]
      rw [e1, h8]
      have e2 : flat oc l = flat oc (l.take i) ++ flat oc (l.drop i) := by rw [← flat_append, List.take_append_drop]
      have e3 : (flat oc (l.take i)).length = i * 10 := by rw [flat_length oc_len, List.length_take]; omega
      rw [e2, ← e3, List.take_left]
/-- The first of each time, behind one of the time p. -/
def ddO (p : S) : List OpT → List OpT
  | [] => []
  | x :: r => if x.a = p then ddO p r else x :: ddO x.a r
def firstsO : List OpT → List OpT
  | [] => []
  | x :: r => x :: ddO x.a r
theorem ddO_same {x : OpT} {p : S} {r : List OpT} (h : x.a = p) : ddO p (x :: r) = ddO p r := by rw [ddO, if_pos h]
theorem ddO_other {x : OpT} {p : S} {r : List OpT} (h : ¬ x.a = p) : ddO p (x :: r) = x :: ddO x.a r := by rw [ddO, if_neg h]
theorem ddO_mem : ∀ (r : List OpT) (p : S) (s : OpT), s ∈ ddO p r → s ∈ r
  | [], p, s, h => by simp [ddO] at h
  | x :: r, p, s, h => by
    unfold ddO at h
    split at h
    · exact List.mem_cons_of_mem _ (ddO_mem r p s h)
    · rcases List.mem_cons.1 h with r1 | r1
      · rw [r1]; exact List.mem_cons_self
      · exact List.mem_cons_of_mem _ (ddO_mem r x.a s r1)
theorem firstsO_mem (l : List OpT) (s : OpT) (h : s ∈ firstsO l) : s ∈ l := by
  cases l with
  | nil => simp [firstsO] at h
  | cons x r =>
    rcases List.mem_cons.1 h with r1 | r1
    · rw [r1]; exact List.mem_cons_self
    · exact List.mem_cons_of_mem _ (ddO_mem r x.a s r1)
end Go.Proofs.Ytjlpdoomchkfgaa
