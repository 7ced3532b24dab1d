/-
  The program's items as cells; stamps as keys of a map.
  The reference's Kids.
  The reference's Set: by lists.
-/
import Derived.Test.YthnjbjlhfohpfaaGreatNam
import Derived.Test.YthnjbjlhfohpfaaGreatTrL
import Derived.Maps.OwnSet
import Derived.Maps.RangeWalk
import Derived.DeepKeys4
import Derived.Maps.Keyed
import Derived.Test.YthnjbjlhfohpfaaGreatRs
namespace Go.Proofs.YthnjbjlhfohpfaaGreat
section
set_option linter.unusedVariables false
set_option linter.unusedSimpArgs false
set_option synthInstance.maxSize 20000
set_option maxHeartbeats 2000000
set_option maxRecDepth 20000
open Go.RowKit Go.Maps

theorem info35 : (Tryz.prog.info? 61).map (·.size) = some 10 := by kernel_rfl
theorem info24 : (Tryz.prog.info? 35).map (·.size) = some 2 := by kernel_rfl
theorem ty48 : RowTy 49 61 10 96 (iv zT) := ⟨by kernel_rfl, by kernel_rfl, by kernel_rfl, by omega⟩
theorem sc_one (n : S) : ∀ u ∈ sc n, u.oneCell' = true := fun u hu => by
  simp only [sc, List.mem_cons, List.not_mem_nil, or_false] at hu
  rcases hu with rfl | rfl <;> rfl
section
variable {o : Oper} {r : Operand → Value} {w : World}
theorem exec_load35 {b off : Nat} {q : IT} (x : Operand) (ho : o.op = .load 61 x) (hx : r x = .pointer (some ⟨b, off, none⟩)) (hc : w.rangeAt b off (ic q)) : (execOp r o).run Tryz.prog w = .ok (.value (iv q)) w := by
  have h := run_loadAt_mid (P := Tryz.prog) w b off 61 (ic q) _ hc Tryz.underlying61 rfl (by rw [ic_len]; exact info35)
  unfold execOp
  simp only [ho, hx, Sem.run_bind, h, Result.andThen_ok, Sem.run_pure]
  rfl
theorem exec_store35 {b off : Nat} {q : IT} (x y : Operand) (ho : o.op = .store 61 x y) (hx : r x = .pointer (some ⟨b, off, none⟩)) (hy : r y = iv q) (ht : w.there b off 10) : (execOp r o).run Tryz.prog w = .ok .skip (w.setCells b off (ic q)) := by
  have h := run_storeAt_mid (P := Tryz.prog) w b off 61 (ic q).toArray (by simpa [ic_len] using ht) (by rw [List.size_toArray, ic_len]; exact info35) (all_oneCell_toArray (ic_one q))
  unfold iv at hy
  unfold execOp
  simp only [ho, hx, hy, Sem.run_bind, h, Result.andThen_ok, Sem.run_pure]
theorem exec_load24n {b off : Nat} {n : S} (x : Operand) (ho : o.op = .load 35 x) (hx : r x = .pointer (some ⟨b, off, none⟩)) (hc : w.rangeAt b off (sc n)) : (execOp r o).run Tryz.prog w = .ok (.value (sv n)) w := by
  have h := run_loadAt_mid (P := Tryz.prog) w b off 35 (sc n) _ hc Tryz.underlying35 rfl info24
  unfold execOp
  simp only [ho, hx, Sem.run_bind, h, Result.andThen_ok, Sem.run_pure]
  rfl
theorem exec_store24n {b off : Nat} {n : S} (x y : Operand) (ho : o.op = .store 35 x y) (hx : r x = .pointer (some ⟨b, off, none⟩)) (hy : r y = sv n) (ht : w.there b off 2) : (execOp r o).run Tryz.prog w = .ok .skip (w.setCells b off (sc n)) := by
  have h := run_storeAt_mid (P := Tryz.prog) w b off 35 (sc n).toArray (by simpa [sc] using ht) (by rw [List.size_toArray]; exact info24) (all_oneCell_toArray (sc_one n))
  unfold sv at hy
  unfold execOp
  simp only [ho, hx, hy, Sem.run_bind]
  rw [show (#[Value.int .i64 n.1, Value.int .i64 n.2] : Array Value) = (sc n).toArray from rfl, h]
  rfl
theorem exec_box35 {q : IT} (x : Operand) (ho : o.op = .box 61 x) (hx : r x = iv q) : (execOp r o).run Tryz.prog w = .ok (.value (.pointer (some ⟨w.heap.size, 0, none⟩))) (w.alloc (.cells (ic q).toArray 61)) := by
  obtain ⟨⟨⟨n1, n2⟩, ⟨p1, p2⟩, s, d, g, ⟨y1, y2⟩, b⟩, a, vn, vc⟩ := q
  unfold iv ic at hx
  unfold ic
  dsimp only at hx ⊢
  unfold execOp
  simp only [ho]
  go_simp
theorem exec_alloc35 (ho : o.op = .alloc 61) : (execOp r o).run Tryz.prog w = .ok (.value (ptr w.heap.size)) (w.alloc (.cells (ic zT).toArray 61)) := by
  unfold execOp
  simp only [ho]
  go_simp
  rfl
theorem exec_build35 {q : IT} (x : Operand) (ho : o.op = .buildSlice 49 1 #[(0, x)]) (hx : r x = iv q) : (execOp r o).run Tryz.prog w = .ok (.value (.slice (some ⟨w.heap.size, 0, none⟩) 1 1)) (w.alloc (.cells (ic q).toArray 61)) := by
  obtain ⟨⟨⟨n1, n2⟩, ⟨p1, p2⟩, s, d, g, ⟨y1, y2⟩, b⟩, a, vn, vc⟩ := q
  unfold iv ic at hx
  unfold ic
  dsimp only at hx ⊢
  unfold execOp
  simp only [ho]
  go_simp
theorem exec_zero35 (ho : o.op = .build 61 #[]) : (execOp r o).run Tryz.prog w = .ok (.value (iv zT)) w := by
  unfold execOp
  simp only [ho]
  go_simp
  rfl
end
/-- A block that holds one item of the program. -/
def Itp (w : World) (b : Nat) (q : IT) : Prop := Blk w b 61 (ic q)
section
variable {w w' : World} {b : Nat} {q q' : IT}
theorem Itp.put (h : Itp w b q) (q' : IT) : Itp (w.setCells b 0 (ic q')) b q' := by
  have := Blk.setCells h 0 (ic q') (by rw [ic_len, ic_len]; omega)
  rw [splice_all _ _ (by rw [ic_len, ic_len])] at this
  exact this
theorem Itp.there (h : Itp w b q) : w.there b 0 10 := Blk.there h 0 10 (by rw [ic_len]; omega)
theorem Itp.below (h : Itp w b q) (hb : Below w.heap.size w w') : Itp w' b q := Blk.below h hb
theorem Itp.load (h : Itp w b q) : (loadVar 61 ⟨b, 0, none⟩).run Tryz.prog w = .ok (iv q) w := run_loadVar_mid w b 0 61 (ic q) _ (Blk.range0 h) Tryz.underlying61 rfl (by rw [ic_len]; exact info35)
theorem Itp.range (h : Itp w b q) : w.rangeAt b 0 (ic q) := Blk.range0 h
theorem Itp.node (h : Itp w b q) : w.rangeAt b 0 (sc q.m.n) := Blk.range h 0 fun j u hj => by
  match j, hj with
  | 0, hj => exact hj
  | 1, hj => exact hj
  | j + 2, hj => simp [sc] at hj
theorem Itp.par (h : Itp w b q) : w.rangeAt b 2 (sc q.m.p) := Blk.range h 2 fun j u hj => by
  match j, hj with
  | 0, hj => exact hj
  | 1, hj => exact hj
  | j + 2, hj => simp [sc] at hj
theorem itp_new (w : World) (x : IT) : Itp (w.alloc (.cells (ic x).toArray 61)) w.heap.size x := blk_new w (ic x) 61
/-- A new item's block, into which an item is put. -/
theorem item_putp {w0 w w3 w4 : World} {g : Nat} {x : IT} (hb : Below w0.heap.size w0 w) (h3 : w3 = w.alloc (.cells (ic zT).toArray 61)) (hg : g = w.heap.size) (h4 : w4 = w3.setCells g 0 (ic x)) : Itp w4 g x ∧ Below w0.heap.size w0 w4 ∧ Below w.heap.size w w4 ∧ w0.heap.size ≤ g := by
  subst h3 hg h4
  exact ⟨(itp_new w zT).put x, below_put (balloc hb _) hb.size, below_put (balloc (Below.refl _ _) _) (Nat.le_refl _), hb.size⟩
end

/-! ### Stamps as keys -/
def keyL (n : S) : Lit := .string (keyBytes [.int .i64 n.1, .int .i64 n.2])
theorem keyed24 : Keyed Tryz.prog 35 := Keyed.of_law (deep_law_laid (m := 5) (by kernel_rfl) (by omega) (of_decide_eq_true (by kernel_rfl)) (by kernel_rfl) (by kernel_rfl))
theorem wf_of {x : Int} (h : I64 x) : (Lit.int .i64 x).wf = true := WalkArith.wf_i64 (by unfold I64 at h; omega)
theorem key24 {n : S} (h : SOk n) : keyOf Tryz.prog 35 (sv n) = some (keyL n) := by
  obtain ⟨n1, n2⟩ := n
  obtain ⟨h1, h2⟩ := h
  have w1 := wf_of h1
  have w2 := wf_of h2
  unfold sv keyL
  dsimp only at w1 w2 ⊢
  have hk : Tryz.prog.keyType 35 = true := by kernel_rfl
  have hs : Tryz.prog.cellsOf 35 = 2 := by kernel_rfl
  have h2 : Tryz.prog.cellsOf 2 = 1 := by kernel_rfl
  have h3 : Tryz.prog.cellsOf 3 = 1 := by kernel_rfl
  have hz : Tryz.prog.types.size = 168 + 1 := by kernel_rfl
  have k2 : ∀ d, Tryz.prog.keyLits (d + 1) 2 [.int .i64 n1] = some [.int .i64 n1] := fun d => by
    unfold Program.keyLits
    simp only [Tryz.underlying2, w1, and_self, if_true]
  have k3 : ∀ d, Tryz.prog.keyLits (d + 1) 3 [.int .i64 n2] = some [.int .i64 n2] := fun d => by
    unfold Program.keyLits
    simp only [Tryz.underlying3, w2, and_self, if_true]
  unfold keyOf
  simp only [Tryz.underlying35]
  rw [if_pos (by simp [hk, Value.formed, Tryz.underlying35, hs]), hz]
  unfold Program.keyLits
  simp only [Tryz.underlying35, Value.cells]
  rw [if_pos (by simp [hs])]
  simp [h2, h3, k2, k3]
theorem keyL_inj {n m : S} (hn : SOk n) (hm : SOk m) (h : keyL n = keyL m) : n = m := by
  have := keyed24.inj (key24 hn) (h ▸ key24 hm)
  obtain ⟨n1, n2⟩ := n
  obtain ⟨m1, m2⟩ := m
  unfold sv at this
  simpa using this
end

section
set_option linter.unusedVariables false
set_option linter.unusedSimpArgs false
set_option synthInstance.maxSize 20000
set_option maxHeartbeats 2000000
set_option maxRecDepth 20000
open Go.RowKit Go.Maps

theorem own_belowT {w w' : World} {v : Value} {n : Nat} {cs : List Value} (h : w.ownsRow 0 76 10 v n cs) (hb : Below w.heap.size w w') : w'.ownsRow 0 76 10 v n cs := ownsRow_block h fun k hk => hb.block _ (h.lt k hk).2
/-- A row of items that the call made (blocks from B on). -/
structure OwnT (B : Nat) (w : World) (v : Value) (O : List IT) : Prop where
  own : w.ownsRow 0 76 10 v O.length (flat ic O)
  new : ∀ k, v.ownBlock = some k → B ≤ k
theorem OwnT.row {B : Nat} {w : World} {v : Value} {O : List IT} (h : OwnT B w v O) : RowF ic w v O := rowF_own ic_len h.own
theorem OwnT.below {B : Nat} {w w' : World} {v : Value} {O : List IT} (h : OwnT B w v O) (hb : Below w.heap.size w w') : OwnT B w' v O := ⟨own_belowT h.own hb, h.new⟩
theorem ownT_nil (B : Nat) (w : World) : OwnT B w (.slice none 0 0) [] := ⟨World.ownsRow_nil _ _ _ _, fun k hk => by cases hk⟩
/-- 'append(out, x)' of items onto a row that the call made. -/
theorem wpList_app41 {ops : Array Oper} {rest : List Oper} {o : Oper} {a : Act} {Q : Exit → Act → World → Prop} {w w0 : World} (hgd : o.guard = none) (s x : Operand) (ho : o.op = .call { callee := .builtin .append, args := #[s, x], argTypes := #[47, 47] })
    (v : Value) (O : List IT) (hs : a.eval s = v) (hown : OwnT w0.heap.size w v O) (y : Value) (q : IT) (hx : a.eval x = y) (hy : RowF ic w y [q]) (hlen : O.length ≤ 100000) (hb : Below w0.heap.size w0 w)
    (h : ∀ v' w', OwnT w0.heap.size w' v' (O ++ [q]) → Below w0.heap.size w0 w' → w.grownBy w' v.ownBlock → wpList Tryz.prog ops Q rest (a.put o.dst v') w') : wpList Tryz.prog ops Q (o :: rest) a w :=
  wpList_append_rows ty30 ic_len (by omega) hgd s x ho v O hs hown.own y [q] hx hy (flat_ic_one _) (by simp; omega) fun v' w' h1 h2 h3 => h v' w' ⟨h1, new_of hown.new hb.size h3⟩ (hb.grown h2 hb.size hown.new) h2
theorem OwnT.apart {B b : Nat} {w : World} {v : Value} {O : List IT} {e : TypeId} {vs : List Value} (h : OwnT B w v O) (hb : Blk w b e vs) (he : e ≠ 76) : v.ownBlock ≠ some b := fun hk => by
  rcases h.own.2 with ⟨rfl, _⟩ | ⟨g, cap, cur, rfl, _, hg, _⟩
  · cases hk
  · have e1 : g = b := by simpa [Value.ownBlock] using hk
    subst e1
    unfold Blk at hb
    rw [hb] at hg
    injection hg with hg
    injection hg with _ h2
    exact he h2
def kidT (n : S) (x : IT) : Bool := kidM n x.m
theorem kidsM_map (n : S) (L : List IT) : (L.filter (kidT n)).map IT.m = kidsM (L.map IT.m) n := by
  unfold kidsM
  rw [List.filter_map]
  rfl
theorem take_filter_more {f : IT → Bool} {L : List IT} {k : Nat} {x : IT} (h : L[k]? = some x) : (L.take (k + 1)).filter f = (L.take k).filter f ++ if f x = true then [x] else [] := by
  obtain ⟨h1, rfl⟩ := List.getElem?_eq_some_iff.1 h
  rw [List.take_succ_eq_append_getElem h1, List.filter_append]
  congr 1
  by_cases hf : f L[k] = true
  · rw [if_pos hf, List.filter_cons_of_pos hf, List.filter_nil]
  · rw [if_neg hf, List.filter_cons_of_neg hf, List.filter_nil]
end

section
set_option linter.unusedVariables false
set_option linter.unusedSimpArgs false
set_option synthInstance.maxSize 20000
set_option maxHeartbeats 2000000
set_option maxRecDepth 20000
open Go.RowKit Go.Maps

def ahT (n : S) (x : IT) : Bool := decide (ltP x.m.n n)
def beT (n : S) (x : IT) : Bool := decide (ltP n x.m.n)
def otT (n : S) (x : IT) : Bool := !decide (x.m.n = n)
/-- What Set has made of u: it stands there (inn), or not yet. -/
def stT (it : IT) (there : Bool) (u : List IT) (inn : Bool) : List IT :=
  if there = true then (if inn = true then u.filter (ahT it.m.n) ++ it :: u.filter (beT it.m.n) else u.filter (ahT it.m.n)) else u.filter (otT it.m.n)
def setT (L : List IT) (it : IT) (there : Bool) : List IT := stT it there L true
theorem setT_map (L : List IT) (it : IT) (there : Bool) : (setT L it there).map IT.m = setM (L.map IT.m) it.m there := by
  unfold setT stT setM putM delM
  cases there
  · rw [if_neg (by simp), if_neg (by simp), List.filter_map]; rfl
  · rw [if_pos rfl, if_pos rfl, if_pos rfl, List.map_append, List.map_cons, List.filter_map, List.filter_map]; rfl
theorem setT_mem {L : List IT} {it x : IT} {there : Bool} (h : x ∈ setT L it there) : x ∈ L ∨ x = it := by
  unfold setT stT at h
  cases there
  · rw [if_neg (by simp)] at h; exact .inl (List.mem_filter.1 h).1
  · rw [if_pos rfl, if_pos rfl] at h
    rcases List.mem_append.1 h with h | h
    · exact .inl (List.mem_filter.1 h).1
    · rcases List.mem_cons.1 h with h | h
      · exact .inr h
      · exact .inl (List.mem_filter.1 h).1
structure Hf (it : IT) (there : Bool) (u : List IT) (inn : Bool) (O : List IT) : Prop where
  o : O = stT it there u inn
  f : there = false → inn = true
  t : there = true → inn = u.any (beT it.m.n)
structure Md (it : IT) (there : Bool) (u : List IT) (x : IT) (inn : Bool) (O : List IT) : Prop where
  o : O = stT it there u inn
  f : there = false → inn = true
  t : there = true → inn = (u.any (beT it.m.n) || beT it.m.n x)
section
variable {it x : IT} {there inn : Bool} {u O : List IT}
theorem hf_start (it : IT) (there : Bool) : Hf it there [] (!there) [] := by
  cases there
  · exact ⟨rfl, fun _ => rfl, fun h => by cases h⟩
  · exact ⟨rfl, fun h => (by cases h), fun _ => rfl⟩
theorem Hf.mid (h : Hf it there u true O) (x : IT) : Md it there u x true O := ⟨h.o, h.f, fun e => by rw [← h.t e]; rfl⟩
theorem Hf.isThere (h : Hf it there u false O) : there = true := by
  cases there
  · have := h.f rfl; cases this
  · rfl
theorem Hf.mid_put (h : Hf it there u false O) (hlt : ltP it.m.n x.m.n) : Md it there u x true (O ++ [it]) := by
  have e := h.isThere
  subst e
  have h1 := h.t rfl
  have h2 : u.filter (beT it.m.n) = [] := by
    rw [List.filter_eq_nil_iff]
    intro y hy
    have := (List.any_eq_false.1 h1.symm) y hy
    exact this
  refine ⟨?_, fun e => (by cases e), fun _ => ?_⟩
  · rw [h.o]
    simp [stT, h2]
  · have : beT it.m.n x = true := decide_eq_true hlt
    rw [this, Bool.or_true]
theorem Hf.mid_no (h : Hf it there u false O) (hn : ¬ ltP it.m.n x.m.n) : Md it there u x false O := by
  refine ⟨h.o, h.f, fun e => ?_⟩
  have : beT it.m.n x = false := decide_eq_false hn
  rw [← h.t e, this]; rfl
theorem Md.eq (h : Md it there u x inn O) (e : x.m.n = it.m.n) : Hf it there (u ++ [x]) inn O := by
  have h1 : ahT it.m.n x = false := decide_eq_false (by rw [e]; exact ltP_irrefl _)
  have h2 : beT it.m.n x = false := decide_eq_false (by rw [e]; exact ltP_irrefl _)
  have h3 : otT it.m.n x = false := by unfold otT; rw [decide_eq_true e]; rfl
  refine ⟨?_, h.f, fun e2 => ?_⟩
  · rw [h.o]
    simp [stT, List.filter_append, h1, h2, h3]
  · rw [h.t e2, List.any_append]
    simp
theorem Md.ne (h : Md it there u x inn O) (hs : ∀ y ∈ u, ltP y.m.n x.m.n) (e : ¬ x.m.n = it.m.n) : Hf it there (u ++ [x]) inn (O ++ [x]) := by
  have h3 : otT it.m.n x = true := by unfold otT; rw [decide_eq_false e]; rfl
  refine ⟨?_, h.f, fun e2 => ?_⟩
  · rw [h.o]
    cases there
    · simp [stT, List.filter_append, h3]
    · have h1 := h.t rfl
      cases inn
      · have h4 : beT it.m.n x = false := by
          cases hb : beT it.m.n x
          · rfl
          · rw [hb, Bool.or_true] at h1; cases h1
        have h5 : ahT it.m.n x = true := by
          refine decide_eq_true ?_
          by_cases h6 : ltP x.m.n it.m.n
          · exact h6
          · exact absurd (ltP_total h6 (of_decide_eq_false h4)) e
        simp [stT, List.filter_append, h5]
      · have h4 : ltP it.m.n x.m.n := by
          cases hb : beT it.m.n x
          · rw [hb, Bool.or_false] at h1
            obtain ⟨y, hy, hy2⟩ := List.any_eq_true.1 h1.symm
            exact ltP_trans (of_decide_eq_true hy2) (hs y hy)
          · exact of_decide_eq_true hb
        have h5 : beT it.m.n x = true := decide_eq_true h4
        have h6 : ahT it.m.n x = false := decide_eq_false fun h7 => ltP_irrefl _ (ltP_trans h4 h7)
        simp [stT, List.filter_append, h5, h6]
  · rw [h.t e2, List.any_append]
    simp
theorem Hf.done_in (h : Hf it there u true O) : O = setT u it there := h.o
theorem Hf.done_no (h : Hf it there u false O) : O ++ [it] = setT u it there := by
  have e := h.isThere
  subst e
  have h1 := h.t rfl
  have h2 : u.filter (beT it.m.n) = [] := by
    rw [List.filter_eq_nil_iff]
    intro y hy
    have := (List.any_eq_false.1 h1.symm) y hy
    exact this
  rw [h.o]
  simp [setT, stT, h2]
end
theorem srtI_ahead {L u r : List IT} {x : IT} (h : SrtI (L.map IT.m)) (e : L = u ++ x :: r) : ∀ y ∈ u, ltP y.m.n x.m.n := fun y hy => by
  subst e
  rw [List.map_append] at h
  exact (List.pairwise_append.1 h).2.2 _ (List.mem_map.2 ⟨y, hy, rfl⟩) _ (by simp)
end
end Go.Proofs.YthnjbjlhfohpfaaGreat
