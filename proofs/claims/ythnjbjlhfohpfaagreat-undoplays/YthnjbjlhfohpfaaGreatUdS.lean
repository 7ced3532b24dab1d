/-
  Steps as cells; what an operation of twenty-one cells runs to; a row of steps.
  A row of steps in memory.
  Logs by lists: what steps keep, undone; operations put among others, and taken away.
  Where a time's step stands: place, by the library's search; Has, Len.
-/
import Derived.Test.YthnjbjlhfohpfaaGreatTsD
namespace Go.Proofs.YthnjbjlhfohpfaaGreat
section
set_option linter.unusedVariables false
set_option linter.unusedSimpArgs false
set_option synthInstance.maxSize 20000
set_option maxHeartbeats 2000000
set_option maxRecDepth 20000
open Go.RowKit Go.Maps

/-- A step: its operation, its node's item as it was, and whether it was there. -/
structure ST where
  q : OpT
  x : IT
  b : Bool
def tz : ST := ⟨oz, zT, false⟩
def tc (s : ST) : List Value := [.int .i64 s.q.k, .int .i64 s.q.a.1, .int .i64 s.q.a.2, .int .i64 s.q.n.1, .int .i64 s.q.n.2, .int .i64 s.q.p.1, .int .i64 s.q.p.2, .bool s.q.d, .string s.q.s, .slice s.q.va s.q.vn s.q.vc, .int .i64 s.x.m.n.1, .int .i64 s.x.m.n.2, .int .i64 s.x.m.p.1, .int .i64 s.x.m.p.2, .string s.x.m.s, .bool s.x.m.d, .bool s.x.m.g, .slice s.x.a s.x.vn s.x.vc, .int .i64 s.x.m.y.1, .int .i64 s.x.m.y.2, .bool s.b]
theorem tc_len (s : ST) : (tc s).length = 21 := rfl
theorem tc_eq (s : ST) : tc s = oc s.q ++ (ic s.x ++ [.bool s.b]) := rfl
theorem tc_one (s : ST) : ∀ u ∈ tc s, u.oneCell' = true := fun u hu => by
  simp only [tc, List.mem_cons, List.not_mem_nil, or_false] at hu
  rcases hu with rfl | rfl | rfl | rfl | rfl | rfl | rfl | rfl | rfl | rfl | rfl | rfl | rfl | rfl | rfl | rfl | rfl | rfl | rfl | rfl | rfl <;> rfl
theorem flat_tc_one (l : List ST) : ∀ u ∈ flat tc l, u.oneCell' = true := flat_one fun x _ => tc_one x
/-- No cell of bytes. -/
def NoB (vs : List Value) : Prop := ∀ u ∈ vs, ∀ n, u ≠ .int .u8 n
theorem noB_tc (s : ST) : NoB (tc s) := fun u hu n e => by
  simp only [tc, List.mem_cons, List.not_mem_nil, or_false] at hu
  rcases hu with h | h | h | h | h | h | h | h | h | h | h | h | h | h | h | h | h | h | h | h | h <;> (rw [e] at h; simp at h)
theorem noB_flat (l : List ST) : NoB (flat tc l) := fun u hu => by
  unfold flat at hu
  obtain ⟨x, _, hx⟩ := List.mem_flatMap.1 hu
  exact noB_tc x u hx
theorem NoB.append {a b : List Value} (ha : NoB a) (hb : NoB b) : NoB (a ++ b) := fun u hu => (List.mem_append.1 hu).elim (ha u) (hb u)
theorem NoB.take {a : List Value} (ha : NoB a) (n : Nat) : NoB (a.take n) := fun u hu => ha u (List.mem_of_mem_take hu)
theorem NoB.drop {a : List Value} (ha : NoB a) (n : Nat) : NoB (a.drop n) := fun u hu => ha u (List.mem_of_mem_drop hu)
def tv (s : ST) : Value := .agg (tc s).toArray
theorem info76 : (Tryz.prog.info? 73).map (·.size) = some 21 := by kernel_rfl
theorem ty66 : RowTy 64 73 21 208 (tv tz) := ⟨by kernel_rfl, by kernel_rfl, by kernel_rfl, by omega⟩
section
variable {o : Oper} {r : Operand → Value} {w : World}
theorem exec_load76 {b off : Nat} {q : ST} (x : Operand) (ho : o.op = .load 73 x) (hx : r x = .pointer (some ⟨b, off, none⟩)) (hc : w.rangeAt b off (tc q)) : (execOp r o).run Tryz.prog w = .ok (.value (tv q)) w := by
  have h := run_loadAt_mid (P := Tryz.prog) w b off 73 (tc q) _ hc Tryz.underlying73 rfl (by rw [tc_len]; exact info76)
  unfold execOp
  simp only [ho, hx, Sem.run_bind, h, Result.andThen_ok, Sem.run_pure]
  rfl
theorem exec_store76 {b off : Nat} {q : ST} (x y : Operand) (ho : o.op = .store 73 x y) (hx : r x = .pointer (some ⟨b, off, none⟩)) (hy : r y = tv q) (ht : w.there b off 21) : (execOp r o).run Tryz.prog w = .ok .skip (w.setCells b off (tc q)) := by
  have h := run_storeAt_mid (P := Tryz.prog) w b off 73 (tc q).toArray (by simpa [tc_len] using ht) (by rw [List.size_toArray, tc_len]; exact info76) (all_oneCell_toArray (tc_one q))
  unfold tv at hy
  unfold execOp
  simp only [ho, hx, hy, Sem.run_bind, h, Result.andThen_ok, Sem.run_pure]
theorem exec_alloc76 (ho : o.op = .alloc 73) : (execOp r o).run Tryz.prog w = .ok (.value (ptr w.heap.size)) (w.alloc (.cells (tc tz).toArray 73)) := by
  unfold execOp
  simp only [ho]
  go_simp
  rfl
theorem exec_box76 {q : ST} (x : Operand) (ho : o.op = .box 73 x) (hx : r x = tv q) : (execOp r o).run Tryz.prog w = .ok (.value (.pointer (some ⟨w.heap.size, 0, none⟩))) (w.alloc (.cells (tc q).toArray 73)) := by
  obtain ⟨⟨k, ⟨a1, a2⟩, ⟨n1, n2⟩, ⟨p1, p2⟩, d, s, va, vn, vc, b⟩, ⟨⟨⟨m1, m2⟩, ⟨r1, r2⟩, ms, md, mg, ⟨y1, y2⟩, mb⟩, xa, xn, xc⟩, t⟩ := q
  unfold tv tc at hx
  unfold tc
  dsimp only at hx ⊢
  unfold execOp
  simp only [ho]
  go_simp
theorem exec_slice76 {q : ST} (x : Operand) (ho : o.op = .buildSlice 64 1 #[(0, x)]) (hx : r x = tv q) : (execOp r o).run Tryz.prog w = .ok (.value (.slice (some ⟨w.heap.size, 0, none⟩) 1 1)) (w.alloc (.cells (tc q).toArray 73)) := by
  obtain ⟨⟨k, ⟨a1, a2⟩, ⟨n1, n2⟩, ⟨p1, p2⟩, d, s, va, vn, vc, b⟩, ⟨⟨⟨m1, m2⟩, ⟨r1, r2⟩, ms, md, mg, ⟨y1, y2⟩, mb⟩, xa, xn, xc⟩, t⟩ := q
  unfold tv tc at hx
  unfold tc
  dsimp only at hx ⊢
  unfold execOp
  simp only [ho]
  go_simp
theorem exec_build76 {q : OpT} (x : Operand) (ho : o.op = .build 73 #[(0, x)]) (hx : r x = ov q) : (execOp r o).run Tryz.prog w = .ok (.value (tv ⟨q, zT, false⟩)) w := by
  obtain ⟨k, ⟨a1, a2⟩, ⟨n1, n2⟩, ⟨p1, p2⟩, d, s, va, vn, vc, b⟩ := q
  unfold ov oc at hx
  unfold tv tc zT zM
  dsimp only at hx ⊢
  unfold execOp
  simp only [ho]
  go_simp
theorem exec_field76 {q : ST} (x : Operand) (ho : o.op = .field 73 x 0) (hx : r x = tv q) : (execOp r o).run Tryz.prog w = .ok (.value (ov q.q)) w := by
  obtain ⟨⟨k, ⟨a1, a2⟩, ⟨n1, n2⟩, ⟨p1, p2⟩, d, s, va, vn, vc, b⟩, ⟨⟨⟨m1, m2⟩, ⟨r1, r2⟩, ms, md, mg, ⟨y1, y2⟩, mb⟩, xa, xn, xc⟩, t⟩ := q
  unfold execOp
  simp only [ho, hx]
  unfold tv tc ov oc
  dsimp only
  have h : (Instr.field 73 (.agg #[.int .i64 k, .int .i64 a1, .int .i64 a2, .int .i64 n1, .int .i64 n2, .int .i64 p1, .int .i64 p2, .bool d, .string s, .slice va vn vc, .int .i64 m1, .int .i64 m2, .int .i64 r1, .int .i64 r2, .string ms, .bool md, .bool mg, .slice xa xn xc, .int .i64 y1, .int .i64 y2, .bool t]) 0).run Tryz.prog w = .ok (.agg #[.int .i64 k, .int .i64 a1, .int .i64 a2, .int .i64 n1, .int .i64 n2, .int .i64 p1, .int .i64 p2, .bool d, .string s, .slice va vn vc]) w := by kernel_rfl
  simp only [Sem.run_bind, h, Result.andThen_ok, Sem.run_pure]
theorem exec_slice22 {q : OpT} (x : Operand) (ho : o.op = .buildSlice 28 1 #[(0, x)]) (hx : r x = ov q) : (execOp r o).run Tryz.prog w = .ok (.value (.slice (some ⟨w.heap.size, 0, none⟩) 1 1)) (w.alloc (.cells (oc q).toArray 38)) := by
  obtain ⟨k, ⟨a1, a2⟩, ⟨n1, n2⟩, ⟨p1, p2⟩, d, s, va, vn, vc, b⟩ := q
  unfold ov oc at hx
  unfold oc
  dsimp only at hx ⊢
  unfold execOp
  simp only [ho]
  go_simp
end
/-- A block that holds one step. -/
def Stb (w : World) (b : Nat) (s : ST) : Prop := Blk w b 73 (tc s)
section
variable {w w' : World} {b off : Nat} {s : ST}
theorem stb_new (w : World) (s : ST) : Stb (w.alloc (.cells (tc s).toArray 73)) w.heap.size s := blk_new w (tc s) 73
theorem Stb.below (h : Stb w b s) (hb : Below w.heap.size w w') : Stb w' b s := Blk.below h hb
theorem Stb.load (h : Stb w b s) : w.rangeAt b 0 (tc s) := Blk.range0 h
theorem Stb.there (h : Stb w b s) : w.there b 0 21 := Blk.there h 0 21 (by rw [tc_len]; omega)
theorem Stb.put (h : Stb w b s) (s' : ST) : Stb (w.setCells b 0 (tc s')) b s' := by
  have := Blk.setCells h 0 (tc s') (by simp [tc_len])
  rw [splice_all _ _ (by rw [tc_len, tc_len])] at this
  exact this
theorem range_op (h : w.rangeAt b off (tc s)) : w.rangeAt b off (oc s.q) := fun j u hj => h j u (by rw [tc_eq]; rw [List.getElem?_append_left (List.getElem?_eq_some_iff.1 hj).1]; exact hj)
theorem range_was (h : w.rangeAt b off (tc s)) : w.rangeAt b (off + 10) (ic s.x) := fun j u hj => by
  have hl := (List.getElem?_eq_some_iff.1 hj).1
  have := h (10 + j) u (by rw [tc_eq, List.getElem?_append_right (by rw [oc_len]; omega), oc_len, show 10 + j - 10 = j by omega, List.getElem?_append_left hl]; exact hj)
  rwa [← Nat.add_assoc] at this
theorem range_there (h : w.rangeAt b off (tc s)) : w.cell? ⟨b, off + 20, none⟩ = some (.bool s.b) := h 20 _ rfl
theorem range_at1 (h : w.rangeAt b off (oc s.q)) : w.rangeAt b (off + 1) (sc s.q.a) := fun j u hj => by
  match j, hj with
  | 0, hj => exact h 1 u hj
  | 1, hj => exact h 2 u hj
  | j + 2, hj => simp [sc] at hj
theorem range_node3 (h : w.rangeAt b off (oc s.q)) : w.rangeAt b (off + 3) (sc s.q.n) := fun j u hj => by
  match j, hj with
  | 0, hj => exact h 3 u hj
  | 1, hj => exact h 4 u hj
  | j + 2, hj => simp [sc] at hj
end
end

section
set_option linter.unusedVariables false
set_option linter.unusedSimpArgs false
set_option synthInstance.maxSize 20000
set_option maxHeartbeats 2000000
set_option maxRecDepth 20000
open Go.RowKit Go.Maps

/-- Bytes don't lie in a block without bytes. -/
theorem rd_pastNoB {w w' : World} {b : Nat} {e : TypeId} {vs : List Value} {v : Value} {l : List Int} (hr : Rd w v l) (hb : Blk w b e vs) (hn : NoB vs) (hg : w.grownBy w' (some b)) : Rd w' v l := by
  have hr0 := hr
  refine hr.blocks fun hl k hk hlt => ?_
  obtain ⟨_, a, cap, rfl, h1, h2, h3, h4⟩ := hr0
  have hp : 0 < l.length := by cases l with
    | nil => exact absurd rfl hl
    | cons x l => simp
  obtain ⟨b', off, rfl, hc⟩ := h4 hp
  have e1 : b' = k := by simpa [Value.ownBlock] using hk
  subst e1
  refine hg.block _ hlt fun e => ?_
  cases e
  have c0 := hc 0 hp
  have hb2 : w.heap[b]? = some (.cells vs.toArray _ (0, 0)) := hb
  simp [World.cell?, hb2] at c0
  exact hn _ (List.mem_of_getElem? c0) _ rfl
/-- A row of steps: what is behind them in its block holds no bytes. -/
def SRow (w : World) (v : Value) (S : List ST) : Prop := (v = .slice none 0 0 ∧ S = []) ∨ ∃ g cap t, v = .slice (some ⟨g, 0, none⟩) S.length cap ∧ Blk w g 73 (flat tc S ++ t) ∧ (flat tc S ++ t).length = cap * 21 ∧ cap ≤ maxLen ∧ NoB t
theorem ftc_len (l : List ST) : (flat tc l).length = l.length * 21 := flat_length tc_len l
theorem srow_nil (w : World) : SRow w (.slice none 0 0) [] := .inl ⟨rfl, rfl⟩
section
variable {w w' : World} {v : Value} {S : List ST} {g cap : Nat}
theorem SRow.own (h : SRow w v S) : w.ownsRow 0 73 21 v S.length (flat tc S) := by
  refine ⟨ftc_len S, ?_⟩
  rcases h with ⟨rfl, rfl⟩ | ⟨g, cap, t, rfl, hb, hl, hc, _⟩
  · exact .inl ⟨rfl, rfl⟩
  · refine .inr ⟨g, cap, (flat tc S ++ t).toArray, rfl, Nat.zero_le _, hb, ?_, hc, by simpa using hl, ?_⟩
    · rw [List.length_append, ftc_len] at hl; omega
    · show (flat tc S ++ t).take _ = _
      rw [List.take_append_of_le_length (by rw [ftc_len]; exact Nat.le_refl _), List.take_of_length_le (by rw [ftc_len]; exact Nat.le_refl _)]
theorem SRow.rowF (h : SRow w v S) : RowF tc w v S := rowF_own tc_len h.own
theorem SRow.lt (h : SRow w v S) {k : Nat} (hk : v.ownBlock = some k) : k < w.heap.size := (h.own.lt k hk).2
theorem SRow.block (h : SRow w v S) (hb : ∀ k, v.ownBlock = some k → w'.heap[k]? = w.heap[k]?) : SRow w' v S := by
  rcases h with ⟨rfl, rfl⟩ | ⟨g, cap, t, rfl, h1, h2, h3, h4⟩
  · exact .inl ⟨rfl, rfl⟩
  · exact .inr ⟨g, cap, t, rfl, h1.block (hb g rfl), h2, h3, h4⟩
theorem SRow.below (h : SRow w v S) (hb : Below w.heap.size w w') : SRow w' v S := h.block fun k hk => hb.block k (h.lt hk)
theorem SRow.len (h : SRow w v S) : ∃ a cap, v = .slice a S.length cap := by
  rcases h with ⟨rfl, rfl⟩ | ⟨g, cap, t, rfl, _⟩
  · exact ⟨_, _, rfl⟩
  · exact ⟨_, _, rfl⟩
theorem SRow.someRow (h : SRow w v S) {i : Nat} {s : ST} (hi : S[i]? = some s) : ∃ g cap, v = .slice (some ⟨g, 0, none⟩) S.length cap := by
  rcases h with ⟨rfl, rfl⟩ | ⟨g, cap, t, rfl, _⟩
  · simp at hi
  · exact ⟨_, _, rfl⟩
theorem SRow.noB (h : SRow w (.slice (some ⟨g, 0, none⟩) S.length cap) S) : ∃ vs, Blk w g 73 vs ∧ NoB vs := by
  rcases h with ⟨h, _⟩ | ⟨g', cap', t, e, h1, h2, h3, h4⟩
  · cases h
  · cases e; exact ⟨_, h1, (noB_flat S).append h4⟩
theorem SRow.cells (h : SRow w v S) {k : Nat} (hk : v.ownBlock = some k) : ∃ vs, Blk w k 73 vs ∧ NoB vs := by
  rcases h with ⟨rfl, _⟩ | ⟨g', cap', t, rfl, h1, h2, h3, h4⟩
  · cases hk
  · cases hk; exact ⟨_, h1, (noB_flat S).append h4⟩
theorem SRow.load (h : SRow w (.slice (some ⟨g, 0, none⟩) S.length cap) S) {i : Nat} {s : ST} (hi : S[i]? = some s) : w.rangeAt g (i * 21) (tc s) := row_range tc_len h.own hi
theorem SRow.there (h : SRow w (.slice (some ⟨g, 0, none⟩) S.length cap) S) {i : Nat} (hi : i < S.length) : w.there g (i * 21) 21 := row_there tc_len h.own hi
theorem SRow.caps (h : SRow w (.slice (some ⟨g, 0, none⟩) S.length cap) S) : S.length ≤ cap ∧ cap ≤ 9223372036854775807 := by
  rcases h with ⟨h, _⟩ | ⟨g', cap', t, e, h1, h2, h3, h4⟩
  · cases h
  · cases e
    rw [List.length_append, ftc_len] at h2
    unfold maxLen at h3
    omega
theorem SRow.put (h : SRow w (.slice (some ⟨g, 0, none⟩) S.length cap) S) {i : Nat} (hi : i < S.length) (s : ST) : SRow (w.setCells g (i * 21) (tc s)) (.slice (some ⟨g, 0, none⟩) S.length cap) (S.set i s) := by
  rcases h with ⟨h, _⟩ | ⟨g', cap', t, e, h1, h2, h3, h4⟩
  · cases h
  · cases e
    have hl : i * 21 + 21 ≤ (flat tc S).length := by rw [ftc_len]; omega
    have := Blk.setCells h1 (i * 21) (tc s) (by rw [tc_len, List.length_append]; omega)
    have e : splice (flat tc S ++ t) (i * 21) (tc s) = flat tc (S.set i s) ++ t := by
      rw [← flat_set tc_len S i s hi]
      unfold splice
      rw [List.take_append_of_le_length (by omega), List.drop_append_of_le_length (by rw [tc_len]; omega)]
      simp
    rw [e] at this
    refine .inr ⟨g, cap, t, by rw [List.length_set], this, ?_, h3, h4⟩
    rw [← h2, List.length_append, List.length_append, ftc_len, ftc_len, List.length_set]
/-- Bytes don't lie in a row of steps. -/
theorem SRow.rdPast (h : SRow w v S) {u : Value} {l : List Int} (hr : Rd w u l) (hg : w.grownBy w' v.ownBlock) : Rd w' u l := by
  rcases h with ⟨rfl, _⟩ | ⟨g', cap', t, rfl, h1, h2, h3, h4⟩
  · exact hr.blocks fun _ k _ hlt => hg.block k hlt (by simp [Value.ownBlock])
  · exact rd_pastNoB hr h1 ((noB_flat S).append h4) hg
end
theorem srow_of {w : World} {S : List ST} {g cap : Nat} {vs : List Value} (hb : Blk w g 73 vs) (ht : vs.take (S.length * 21) = flat tc S) (hs : vs.length = cap * 21) (hc : cap ≤ maxLen) (hn : NoB (vs.drop (S.length * 21))) : SRow w (.slice (some ⟨g, 0, none⟩) S.length cap) S := by
  have e : flat tc S ++ vs.drop (S.length * 21) = vs := by rw [← ht, List.take_append_drop]
  exact .inr ⟨g, cap, vs.drop (S.length * 21), rfl, by rw [e]; exact hb, by rw [e]; exact hs, hc, hn⟩
end

section
set_option linter.unusedVariables false
set_option linter.unusedSimpArgs false
set_option synthInstance.maxSize 20000
set_option maxHeartbeats 2000000
set_option maxRecDepth 20000
open Go.RowKit Go.Maps

section
variable {M : List IM} {q : OpT}
theorem undo_gone {M : List IM} (h : Gd M) {q : OpT} (hn : findM M q.n = none) : delM (stepM M q) q.n = M := by
  unfold stepM
  cases hc : chM M q with
  | none => exact delM_no hn
  | some y =>
    have e : y.n = q.n := chM_n hc
    show delM (putM M y) q.n = M
    rw [← e]
    exact delM_put h.srt (by rw [e]; exact hn)
theorem undo_back {M : List IM} (h : Gd M) {q : OpT} {u : IM} (hu : findM M q.n = some u) : putM (stepM M q) u = M := by
  have hun := (findM_mem hu).2
  unfold stepM
  cases hc : chM M q with
  | none => exact putM_find h.srt (by rw [hun]; exact hu)
  | some y =>
    have e : y.n = q.n := chM_n hc
    exact putM_put h.srt (by rw [hun]; exact hu) (by rw [e, hun])
end
/-- What a step that is done to M keeps. -/
structure WasM (M : List IM) (q : OpT) (x : IM) (b : Bool) : Prop where
  b : b = (findM M q.n).isSome
  x : x = { (findM M q.n).getD zM with n := q.n }
theorem WasM.back {M : List IM} {q : OpT} {x : IM} {b : Bool} (h : WasM M q x b) (hG : Gd M) (hr : rightO q = true) : setM (doM M q) x b = M := by
  obtain ⟨hb, hx⟩ := h
  unfold doM
  rw [if_pos hr]
  unfold setM
  cases hf : findM M q.n with
  | none =>
    rw [hf] at hb hx
    have e1 : b = false := hb
    rw [if_neg (by rw [e1]; simp), hx]
    exact undo_gone hG hf
  | some u =>
    rw [hf] at hb hx
    have e1 : b = true := hb
    have e2 : x = u := by
      rw [hx]
      show ({ u with n := q.n } : IM) = u
      rw [← (findM_mem hf).2]
    rw [if_pos e1, e2]
    exact undo_back hG hf
def opsS (S : List ST) : List OpT := S.map fun s => s.q
/-- Steps that were done to M, in order. -/
def Dn : List IM → List ST → Prop
  | _, [] => True
  | M, s :: r => WasM M s.q s.x.m s.b ∧ Dn (doM M s.q) r
theorem opsS_append (a b : List ST) : opsS (a ++ b) = opsS a ++ opsS b := List.map_append
theorem build_append (M : List IM) (a b : List OpT) : buildM M (a ++ b) = buildM (buildM M a) b := by unfold buildM; rw [List.foldl_append]
theorem dn_append : ∀ (U R : List ST) (M : List IM), Dn M (U ++ R) ↔ Dn M U ∧ Dn (buildM M (opsS U)) R
  | [], R, M => ⟨fun h => ⟨trivial, h⟩, fun h => h.2⟩
  | s :: U, R, M => by
    show WasM M s.q s.x.m s.b ∧ Dn (doM M s.q) (U ++ R) ↔ (WasM M s.q s.x.m s.b ∧ Dn (doM M s.q) U) ∧ Dn (buildM (doM M s.q) (opsS U)) R
    rw [dn_append U R (doM M s.q), and_assoc]
/-! ### Among others, in order -/
def LtS (a b : ST) : Prop := ltP a.q.a b.q.a
def StrS (S : List ST) : Prop := S.Pairwise LtS
/-- Where a time's step stands. -/
structure CutAt (L U R : List ST) (a : S) : Prop where
  eq : L = U ++ R
  lo : ∀ u ∈ U, ltP u.q.a a
  hi : ∀ r ∈ R, ¬ ltP r.q.a a
theorem LtO.of {a b : ST} (h : LtS a b) : ltP a.q.a b.q.a := h
end

section
set_option linter.unusedVariables false
set_option linter.unusedSimpArgs false
set_option synthInstance.maxSize 20000
set_option maxHeartbeats 2000000
set_option maxRecDepth 20000
open Go.RowKit Go.Maps

def hereB (R : List ST) (a : S) : Bool := match R with
  | [] => false
  | r :: _ => decide (r.q.a = a)
theorem cmp57 (s : ST) (a : S) (w : World) : Calls Tryz.prog 56 #[tv s, sv a] w fun e w' => e = .returned (.int .i64 (cmpS s.q.a a)) ∧ Below w.heap.size w w' := by
  have hc := fun w' => compare_any s.q.a a w'
  obtain ⟨w1, hw1⟩ : ∃ w1, w1 = (w.alloc (.cells (tc s).toArray 73)).alloc (.cells (sc a).toArray 35) := ⟨_, rfl⟩
  obtain ⟨B0, hB0⟩ : ∃ B0, B0 = w.heap.size := ⟨_, rfl⟩
  obtain ⟨B1, hB1⟩ : ∃ B1, B1 = w.heap.size + 1 := ⟨_, rfl⟩
  have HS0 : Stb w1 B0 s := by rw [hw1, hB0]; exact Blk.alloc (stb_new w s) _
  have HX : Hid (w1.rangeAt B0 1 (sc s.q.a)) := by
    have := range_at1 (range_op HS0.load)
    rwa [Nat.zero_add] at this
  have HY : Hid (w1.rangeAt B1 0 (sc a)) := by
    have := blk_new (w.alloc (.cells (tc s).toArray 73)) (sc a) 35
    rw [World.size_alloc] at this
    show World.rangeAt _ _ _ _
    rw [hw1, hB1]
    exact Blk.range0 this
  have HW : Hid (Below w.heap.size w w1) := by show Below _ _ _; rw [hw1]; exact balloc (balloc (Below.refl _ _) _) _
  clear HS0
  go_enter Tryz.func56, Tryz.ntmps56
  go_upto_region 1 with (first | (refine wpList_okw rfl (exec_box76 (q := s) (.tmp 0) rfl rfl) ?_) | (refine wpList_okw rfl (exec_box24 (n := a) (.tmp 1) rfl rfl) ?_))
  rw [show (Value.pointer (some { block := w.heap.size + 1, off := 0 })) = ptr B1 from by rw [hB1]]
  rw [← hw1]
  rw [← hB0]
  clear hw1 hB0 hB1
  go_wp2_with (first
    | (refine wpList_okw rfl (exec_load24n (n := s.q.a) (.tmp 6) rfl rfl HX.out) ?_)
    | (refine wpList_okw rfl (exec_load24n (n := a) (.tmp 3) rfl rfl HY.out) ?_)
    | (go_at_call 57; go_must (refine (hc _).mono ?_; rintro e w2 ⟨rfl, hg⟩; have hb := grow_below hg; clear hg)))
  go_ret
  exact ⟨rfl, bnext HW.out hb⟩
end
end Go.Proofs.YthnjbjlhfohpfaaGreat
