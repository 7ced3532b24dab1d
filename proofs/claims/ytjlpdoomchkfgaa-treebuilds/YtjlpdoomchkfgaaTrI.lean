/-
  The program's items as cells; stamps as keys of a map.
-/
import Derived.Test.YtjlpdoomchkfgaaTrW
import Derived.Test.YtjlpdoomchkfgaaTrL
import Derived.Maps.OwnSet
import Derived.Maps.RangeWalk
import Derived.DeepKeys4
import Derived.Maps.Keyed
namespace Go.Proofs.Ytjlpdoomchkfgaa
set_option linter.unusedVariables false
set_option linter.unusedSimpArgs false
set_option synthInstance.maxSize 20000
set_option maxHeartbeats 2000000
set_option maxRecDepth 20000
open Go.RowKit Go.Maps

theorem info35 : (Try.prog.info? 35).map (·.size) = some 10 := by kernel_rfl
theorem info24 : (Try.prog.info? 24).map (·.size) = some 2 := by kernel_rfl
theorem ty48 : RowTy 48 35 10 96 (iv zT) := ⟨by kernel_rfl, by kernel_rfl, by kernel_rfl, by omega⟩
theorem sc_one (n : S) : ∀ u ∈ sc n, u.oneCell' = true := fun u hu => by
  simp only [sc, List.mem_cons, List.not_mem_nil, or_false] at hu
  rcases hu with rfl | rfl <;> rfl
section
variable {o : Oper} {r : Operand → Value} {w : World}
theorem exec_load35 {b off : Nat} {q : IT} (x : Operand) (ho : o.op = .load 35 x) (hx : r x = .pointer (some ⟨b, off, none⟩)) (hc : w.rangeAt b off (ic q)) : (execOp r o).run Try.prog w = .ok (.value (iv q)) w := by
  have h := run_loadAt_mid (P := Try.prog) w b off 35 (ic q) _ hc Try.underlying35 rfl (by rw [ic_len]; exact info35)
  unfold execOp
  simp only [ho, hx, Sem.run_bind, h, Result.andThen_ok, Sem.run_pure]
  rfl
theorem exec_store35 {b off : Nat} {q : IT} (x y : Operand) (ho : o.op = .store 35 x y) (hx : r x = .pointer (some ⟨b, off, none⟩)) (hy : r y = iv q) (ht : w.there b off 10) : (execOp r o).run Try.prog w = .ok .skip (w.setCells b off (ic q)) := by
  have h := run_storeAt_mid (P := Try.prog) w b off 35 (ic q).toArray (by simpa [ic_len] using ht) (by rw [List.size_toArray, ic_len]; exact info35) (all_oneCell_toArray (ic_one q))
  unfold iv at hy
  unfold execOp
  simp only [ho, hx, hy, Sem.run_bind, h, Result.andThen_ok, Sem.run_pure]
theorem exec_load24n {b off : Nat} {n : S} (x : Operand) (ho : o.op = .load 24 x) (hx : r x = .pointer (some ⟨b, off, none⟩)) (hc : w.rangeAt b off (sc n)) : (execOp r o).run Try.prog w = .ok (.value (sv n)) w := by
  have h := run_loadAt_mid (P := Try.prog) w b off 24 (sc n) _ hc Try.underlying24 rfl info24
  unfold execOp
  simp only [ho, hx, Sem.run_bind, h, Result.andThen_ok, Sem.run_pure]
  rfl
theorem exec_store24n {b off : Nat} {n : S} (x y : Operand) (ho : o.op = .store 24 x y) (hx : r x = .pointer (some ⟨b, off, none⟩)) (hy : r y = sv n) (ht : w.there b off 2) : (execOp r o).run Try.prog w = .ok .skip (w.setCells b off (sc n)) := by
  have h := run_storeAt_mid (P := Try.prog) w b off 24 (sc n).toArray (by simpa [sc] using ht) (by rw [List.size_toArray]; exact info24) (all_oneCell_toArray (sc_one n))
  unfold sv at hy
  unfold execOp
  simp only [ho, hx, hy, Sem.run_bind]
  rw [show (#[Value.int .i64 n.1, Value.int .i64 n.2] : Array Value) = (sc n).toArray from rfl, h]
  rfl
theorem exec_box35 {q : IT} (x : Operand) (ho : o.op = .box 35 x) (hx : r x = iv q) : (execOp r o).run Try.prog w = .ok (.value (.pointer (some ⟨w.heap.size, 0, none⟩))) (w.alloc (.cells (ic q).toArray 35)) := by
  obtain ⟨⟨⟨n1, n2⟩, ⟨p1, p2⟩, s, d, g, ⟨y1, y2⟩, b⟩, a, vn, vc⟩ := q
  unfold iv ic at hx
  unfold ic
  dsimp only at hx ⊢
  unfold execOp
  simp only [ho]
  go_simp
theorem exec_alloc35 (ho : o.op = .alloc 35) : (execOp r o).run Try.prog w = .ok (.value (ptr w.heap.size)) (w.alloc (.cells (ic zT).toArray 35)) := by
  unfold execOp
  simp only [ho]
  go_simp
  rfl
theorem exec_build35 {q : IT} (x : Operand) (ho : o.op = .buildSlice 48 1 #[(0, x)]) (hx : r x = iv q) : (execOp r o).run Try.prog w = .ok (.value (.slice (some ⟨w.heap.size, 0, none⟩) 1 1)) (w.alloc (.cells (ic q).toArray 35)) := by
  obtain ⟨⟨⟨n1, n2⟩, ⟨p1, p2⟩, s, d, g, ⟨y1, y2⟩, b⟩, a, vn, vc⟩ := q
  unfold iv ic at hx
  unfold ic
  dsimp only at hx ⊢
  unfold execOp
  simp only [ho]
  go_simp
theorem exec_zero35 (ho : o.op = .build 35 #[]) : (execOp r o).run Try.prog w = .ok (.value (iv zT)) w := by
  unfold execOp
  simp only [ho]
  go_simp
  rfl
end
/-- A block that holds one item of the program. -/
def Itp (w : World) (b : Nat) (q : IT) : Prop := Blk w b 35 (ic q)
section
variable {w w' : World} {b : Nat} {q q' : IT}
theorem Itp.put (h : Itp w b q) (q' : IT) : Itp (w.setCells b 0 (ic q')) b q' := by
  have := Blk.setCells h 0 (ic q') (by rw [ic_len, ic_len]; omega)
  rw [splice_all _ _ (by rw [ic_len, ic_len])] at this
  exact this
theorem Itp.there (h : Itp w b q) : w.there b 0 10 := Blk.there h 0 10 (by rw [ic_len]; omega)
theorem Itp.below (h : Itp w b q) (hb : Below w.heap.size w w') : Itp w' b q := Blk.below h hb
theorem Itp.load (h : Itp w b q) : (loadVar 35 ⟨b, 0, none⟩).run Try.prog w = .ok (iv q) w := run_loadVar_mid w b 0 35 (ic q) _ (Blk.range0 h) Try.underlying35 rfl (by rw [ic_len]; exact info35)
theorem Itp.range (h : Itp w b q) : w.rangeAt b 0 (ic q) := Blk.range0 h
theorem Itp.node (h : Itp w b q) : w.rangeAt b 0 (sc q.m.n) := Blk.range h 0 fun j u hj => by
  match j, hj with
  | 0, hj => exact hj
  | 1, hj => exact hj
  | j + 2, hj => simp [sc] at hj
theorem Itp.par (h : Itp w b q) : w.rangeAt b 2 (sc q.m.p) := Blk.range h 2 fun j u hj => by
  match j, hj with
  | 0, hj => exact hj
  | 1, hj => exact hj
  | j + 2, hj => simp [sc] at hj
theorem itp_new (w : World) (x : IT) : Itp (w.alloc (.cells (ic x).toArray 35)) w.heap.size x := blk_new w (ic x) 35
/-- A new item's block, into which an item is put. -/
theorem item_putp {w0 w w3 w4 : World} {g : Nat} {x : IT} (hb : Below w0.heap.size w0 w) (h3 : w3 = w.alloc (.cells (ic zT).toArray 35)) (hg : g = w.heap.size) (h4 : w4 = w3.setCells g 0 (ic x)) : Itp w4 g x ∧ Below w0.heap.size w0 w4 ∧ Below w.heap.size w w4 ∧ w0.heap.size ≤ g := by
  subst h3 hg h4
  exact ⟨(itp_new w zT).put x, below_put (balloc hb _) hb.size, below_put (balloc (Below.refl _ _) _) (Nat.le_refl _), hb.size⟩
end

/-! ### Stamps as keys -/
def keyL (n : S) : Lit := .string (keyBytes [.int .i64 n.1, .int .i64 n.2])
theorem keyed24 : Keyed Try.prog 24 := Keyed.of_law (deep_law_laid (m := 5) (by kernel_rfl) (by omega) (of_decide_eq_true (by kernel_rfl)) (by kernel_rfl) (by kernel_rfl))
theorem wf_of {x : Int} (h : I64 x) : (Lit.int .i64 x).wf = true := WalkArith.wf_i64 (by unfold I64 at h; omega)
theorem key24 {n : S} (h : SOk n) : keyOf Try.prog 24 (sv n) = some (keyL n) := by
  obtain ⟨n1, n2⟩ := n
  obtain ⟨h1, h2⟩ := h
  have w1 := wf_of h1
  have w2 := wf_of h2
  unfold sv keyL
  dsimp only at w1 w2 ⊢
  have hk : Try.prog.keyType 24 = true := by kernel_rfl
  have hs : Try.prog.cellsOf 24 = 2 := by kernel_rfl
  have h2 : Try.prog.cellsOf 2 = 1 := by kernel_rfl
  have h3 : Try.prog.cellsOf 3 = 1 := by kernel_rfl
  have hz : Try.prog.types.size = 145 + 1 := by kernel_rfl
  have k2 : ∀ d, Try.prog.keyLits (d + 1) 2 [.int .i64 n1] = some [.int .i64 n1] := fun d => by
    unfold Program.keyLits
    simp only [Try.underlying2, w1, and_self, if_true]
  have k3 : ∀ d, Try.prog.keyLits (d + 1) 3 [.int .i64 n2] = some [.int .i64 n2] := fun d => by
    unfold Program.keyLits
    simp only [Try.underlying3, w2, and_self, if_true]
  unfold keyOf
  simp only [Try.underlying24]
  rw [if_pos (by simp [hk, Value.formed, Try.underlying24, hs]), hz]
  unfold Program.keyLits
  simp only [Try.underlying24, Value.cells]
  rw [if_pos (by simp [hs])]
  simp [h2, h3, k2, k3]
theorem keyL_inj {n m : S} (hn : SOk n) (hm : SOk m) (h : keyL n = keyL m) : n = m := by
  have := keyed24.inj (key24 hn) (h ▸ key24 hm)
  obtain ⟨n1, n2⟩ := n
  obtain ⟨m1, m2⟩ := m
  unfold sv at this
  simpa using this
end Go.Proofs.Ytjlpdoomchkfgaa
