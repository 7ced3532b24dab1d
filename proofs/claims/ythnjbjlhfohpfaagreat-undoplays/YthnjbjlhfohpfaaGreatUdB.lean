/-
  A step undone, and done.
  The library's iterator over steps, from behind.
-/
import Derived.Test.YthnjbjlhfohpfaaGreatUdP
import Derived.Test.YthnjbjlhfohpfaaGreatUdD
import Derived.RangeFuncNested
import Derived.RangeFuncBound
import Derived.RangeFuncCalls
import Derived.RangeFuncLeaves
import Derived.Shelf.Abstract
import Derived.Shelf.RegionOpen
import Derived.WalkKit
import Derived.OwnWalkIn
import Derived.TacticsInMore
import Derived.LoopNIn
import Derived.LoopIn
namespace Go.Proofs.YthnjbjlhfohpfaaGreat
section
set_option linter.unusedVariables false
set_option linter.unusedSimpArgs false
set_option synthInstance.maxSize 20000
set_option maxHeartbeats 2000000
set_option maxRecDepth 20000
open Go.RowKit Go.Maps

theorem splice_mid (A X B ys : List Value) (off : Nat) (h : off + ys.length ≤ X.length) : splice (A ++ (X ++ B)) (A.length + off) ys = A ++ (splice X off ys ++ B) := by
  unfold splice
  have e1 : (A ++ (X ++ B)).take (A.length + off) = A ++ X.take off := by
    rw [List.take_length_add_append, List.take_append_of_le_length (by omega)]
  have e2 : (A ++ (X ++ B)).drop (A.length + off + ys.length) = X.drop (off + ys.length) ++ B := by
    rw [Nat.add_assoc, List.drop_length_add_append, List.drop_append_of_le_length h]
  rw [e1, e2]
  simp
section
variable {w w' : World} {v : Value} {U : List ST} {g cap i tb : Nat} {s s' : ST} {mo mo' : Option Nat} {L : List IT}
theorem SRow.splice (h : SRow w (.slice (some ⟨g, 0, none⟩) U.length cap) U) (hi : U[i]? = some s) (off : Nat) (ys : List Value) (hl : off + ys.length ≤ 21) (hsp : Go.splice (tc s) off ys = tc s') : SRow (w.setCells g (i * 21 + off) ys) (.slice (some ⟨g, 0, none⟩) U.length cap) (U.set i s') ∧ w.grownBy (w.setCells g (i * 21 + off) ys) (some g) := by
  refine ⟨?_, grown_setCells g _ _ _⟩
  obtain ⟨hil, hie⟩ := List.getElem?_eq_some_iff.1 hi
  rcases h with ⟨h, _⟩ | ⟨g', cap', t, e, h1, h2, h3, h4⟩
  · cases h
  · cases e
    have eU : U = U.take i ++ s :: U.drop (i + 1) := by rw [← hie, ← List.drop_eq_getElem_cons hil, List.take_append_drop]
    have eS : U.set i s' = U.take i ++ s' :: U.drop (i + 1) := List.set_eq_take_append_cons_drop.trans (if_pos hil)
    have lA : (flat tc (U.take i)).length = i * 21 := by rw [ftc_len, List.length_take, Nat.min_eq_left (Nat.le_of_lt hil)]
    have hb := Blk.setCells h1 (i * 21 + off) ys (by rw [List.length_append, ftc_len]; omega)
    have e1 : flat tc U ++ t = flat tc (U.take i) ++ (tc s ++ (flat tc (U.drop (i + 1)) ++ t)) := by
      conv => lhs; rw [eU]
      rw [flat_append, flat_cons]
      simp
    have e2 : flat tc (U.set i s') ++ t = flat tc (U.take i) ++ (tc s' ++ (flat tc (U.drop (i + 1)) ++ t)) := by
      rw [eS, flat_append, flat_cons]
      simp
    rw [e1, ← lA, splice_mid _ _ _ _ _ (by rw [tc_len]; exact hl), hsp, ← e2, lA] at hb
    refine .inr ⟨g, cap, t, by rw [List.length_set], hb, ?_, h3, h4⟩
    rw [← h2, List.length_append, List.length_append, ftc_len, ftc_len, List.length_set]
theorem SRow.apart (h : SRow w v U) (hP : PTr w tb mo L) {k : Nat} (hk : v.ownBlock = some k) : k ≠ tb ∧ mo ≠ some k := by
  obtain ⟨vs, hb, _⟩ := h.cells hk
  have hb : w.heap[k]? = some (.cells _ 73 (0, 0)) := hb
  refine ⟨fun e => ?_, fun e => ?_⟩
  · have hc : w.heap[tb]? = some (.cells _ 91 (0, 0)) := hP.blk
    rw [e, hc] at hb; injection hb with hb; injection hb with _ h4; simp at h4
  · rcases hP.mp with ⟨e1, _⟩ | ⟨mb, e1, hm⟩
    · rw [e1] at e; cases e
    · rw [e1] at e; cases e
      exact hm.nocells hb
theorem SRow.tw (h : SRow w v U) (ht : Tw tb mo w w' mo') (hP : PTr w tb mo L) : SRow w' v U := h.block fun k hk => ht.block k (h.lt hk) (h.apart hP hk).1 (h.apart hP hk).2
theorem PTr.pastRow (hP : PTr w tb mo L) (h : SRow w v U) (hg : w.grownBy w' v.ownBlock) : PTr w' tb mo L := by
  refine ⟨hP.blk.past' hg fun e => (h.apart hP e).1 rfl, hP.mp.imp id (fun ⟨mb, e, hm⟩ => ⟨mb, e, hm.block (hg.block mb hm.lt (fun e2 => (h.apart hP e2.symm).2 e))⟩), hP.ok, fun z hz => h.rdPast (hP.rd z hz) hg, hP.srt, hP.few⟩
theorem undo60 (h : PTr w tb mo L) (s : ST) (hx : Rd w s.x.v s.x.m.b) (hl : s.x.m.b.length ≤ 1000) (hn : rightB s.x.m.n = true) (hp : SOk s.x.m.p) (few : L.length ≤ 500) : Calls Tryz.prog 62 #[tv s, ptr tb] w fun e w' => e = .returned (.tuple #[]) ∧ ∃ mo' L', PTr w' tb mo' L' ∧ L'.map IT.m = setM (L.map IT.m) s.x.m s.b ∧ Tw tb mo w w' mo' ∧ StaysM s.b mo mo' := by
  obtain ⟨w1, hw1⟩ : ∃ w1, w1 = w.alloc (.cells (tc s).toArray 73) := ⟨_, rfl⟩
  obtain ⟨B0, hB0⟩ : ∃ B0, B0 = w.heap.size := ⟨_, rfl⟩
  have HB1 : Hid (Below w.heap.size w w1) := by show Below _ _ _; rw [hw1]; exact balloc (Below.refl _ _) _
  have HS : Stb w1 B0 s := by rw [hw1, hB0]; exact stb_new w s
  have HX : Hid (w1.rangeAt B0 10 (ic s.x)) := by
    have := range_was HS.load
    rwa [Nat.zero_add] at this
  have hT := range_there HS.load
  rw [Nat.zero_add] at hT
  have HK : Hid (Calls Tryz.prog 76 #[ptr tb, iv s.x, .bool s.b] w1 fun e w' => e = .returned (.int .i64 0) ∧ ∃ mo' L', PTr w' tb mo' L' ∧ L'.map IT.m = setM (L.map IT.m) s.x.m s.b ∧ Tw tb mo w1 w' mo' ∧ StaysM s.b mo mo') := set30p (h.below HB1.out) s.x (hx.below HB1.out) hl hn hp few s.b
  clear HS hx hl hn hp few h
  go_enter Tryz.func62, Tryz.ntmps62
  go_upto_region 1 with (refine wpList_okw rfl (exec_box76 (q := s) (.tmp 0) rfl rfl) ?_)
  rw [← hw1, ← hB0]
  clear hw1 hB0
  go_wp2_with (first
    | (refine wpList_okw rfl (exec_load35 (q := s.x) (.tmp 5) rfl rfl HX.out) ?_)
    | (go_at_call 76; go_must (refine HK.out.mono ?_; rintro e w2 ⟨rfl, mo', L', h1, h2, h3, h4⟩; have H4 : StaysM s.b mo mo' := h4; clear h4; have H1 : Hid (PTr w2 tb mo' L') := h1; have H2 : Hid (L'.map IT.m = setM (L.map IT.m) s.x.m s.b) := h2; have H3 : Hid (Tw tb mo w1 w2 mo') := h3; clear h1 h2 h3)))
  go_end0
  exact ⟨rfl, mo', L', H1.out, H2.out, (Tw.of_below HB1.out).trans H3.out, H4⟩
def itN (x : IT) (n : S) : IT := { x with m := { x.m with n := n } }
/-- What a step that is done leaves. -/
structure DidAns (w : World) (g cap i tb : Nat) (mo : Option Nat) (L : List IT) (U : List ST) (s : ST) (x : IT) (b : Bool) (mo' : Option Nat) (L' : List IT) (w' : World) : Prop where
  row : SRow w' (.slice (some ⟨g, 0, none⟩) U.length cap) (U.set i ⟨s.q, x, b⟩)
  was : WasM (L.map IT.m) s.q x.m b
  rd : Rd w' x.v x.m.b
  len : x.m.b.length ≤ 1000
  par : SOk x.m.p
  tree : PTr w' tb mo' L'
  lst : L'.map IT.m = doM (L.map IT.m) s.q
  fr : ∀ lb, Lw lb tb mo (.slice (some ⟨g, 0, none⟩) U.length cap) w w' mo' (.slice (some ⟨g, 0, none⟩) U.length cap)
def DidAll (w : World) (g cap i tb : Nat) (mo : Option Nat) (L : List IT) (U : List ST) (s : ST) (w' : World) : Prop := ∃ x b mo' L', DidAns w g cap i tb mo L U s x b mo' L' w'
theorem set_load {x : ST} (h : SRow w (.slice (some ⟨g, 0, none⟩) U.length cap) (U.set i x)) (hi : i < U.length) : w.rangeAt g (i * 21) (tc x) := by
  have h' : SRow w (.slice (some ⟨g, 0, none⟩) (U.set i x).length cap) (U.set i x) := by rw [List.length_set]; exact h
  exact h'.load (by rw [List.getElem?_set_self (by simpa using hi)])
theorem set_thereAt {x : ST} (h : SRow w (.slice (some ⟨g, 0, none⟩) U.length cap) (U.set i x)) (hi : i < U.length) (j : Nat) (hj : j < 21) : (w.cell? ⟨g, i * 21 + j, none⟩).isSome = true ∧ w.frozen? ⟨g, i * 21 + j, none⟩ = false := by
  have h' : SRow w (.slice (some ⟨g, 0, none⟩) (U.set i x).length cap) (U.set i x) := by rw [List.length_set]; exact h
  exact h'.there (i := i) (by simpa using hi) j hj
theorem set_cell {x : ST} (h : SRow w (.slice (some ⟨g, 0, none⟩) U.length cap) (U.set i x)) (hi : i < U.length) : w.cell? ⟨g, i * 21 + 20, none⟩ = some (.bool x.b) ∧ w.frozen? ⟨g, i * 21 + 20, none⟩ = false := ⟨range_there (set_load h hi), (set_thereAt h hi 20 (by omega)).2⟩
theorem set_was (h : SRow w (.slice (some ⟨g, 0, none⟩) U.length cap) U) (hi : U[i]? = some s) (x : IT) : SRow (w.setCells g (i * 21 + 10) (ic x)) (.slice (some ⟨g, 0, none⟩) U.length cap) (U.set i ⟨s.q, x, s.b⟩) ∧ w.grownBy (w.setCells g (i * 21 + 10) (ic x)) (some g) := h.splice hi 10 (ic x) (by rw [ic_len]; omega) rfl
theorem set_there {q : OpT} {x : IT} {b0 : Bool} (h : SRow w (.slice (some ⟨g, 0, none⟩) U.length cap) (U.set i ⟨q, x, b0⟩)) (hi : i < U.length) (b : Bool) : SRow (w.setCell ⟨g, i * 21 + 20, none⟩ (.bool b)) (.slice (some ⟨g, 0, none⟩) U.length cap) (U.set i ⟨q, x, b⟩) ∧ w.grownBy (w.setCell ⟨g, i * 21 + 20, none⟩ (.bool b)) (some g) := by
  have h' : SRow w (.slice (some ⟨g, 0, none⟩) (U.set i ⟨q, x, b0⟩).length cap) (U.set i ⟨q, x, b0⟩) := by rw [List.length_set]; exact h
  have := h'.splice (i := i) (s := ⟨q, x, b0⟩) (s' := ⟨q, x, b⟩) (by rw [List.getElem?_set_self (by simpa using hi)]) 20 [.bool b] (by simp) rfl
  rw [List.set_set, List.length_set] at this
  exact this
theorem set_node {q : OpT} {x : IT} {b : Bool} (h : SRow w (.slice (some ⟨g, 0, none⟩) U.length cap) (U.set i ⟨q, x, b⟩)) (hi : i < U.length) (n : S) : SRow (w.setCells g (i * 21 + 10) (sc n)) (.slice (some ⟨g, 0, none⟩) U.length cap) (U.set i ⟨q, itN x n, b⟩) ∧ w.grownBy (w.setCells g (i * 21 + 10) (sc n)) (some g) := by
  have h' : SRow w (.slice (some ⟨g, 0, none⟩) (U.set i ⟨q, x, b⟩).length cap) (U.set i ⟨q, x, b⟩) := by rw [List.length_set]; exact h
  have := h'.splice (i := i) (s := ⟨q, x, b⟩) (s' := ⟨q, itN x n, b⟩) (by rw [List.getElem?_set_self (by simpa using hi)]) 10 (sc n) (by simp [sc]) rfl
  rw [List.set_set, List.length_set] at this
  exact this
theorem got_ok (hP : PTr w tb mo L) (n : S) : SOk ((findM (L.map IT.m) n).getD zM).p ∧ ((findM (L.map IT.m) n).getD zM).b.length ≤ 1000 := by
  cases hf : findM (L.map IT.m) n with
  | none => exact ⟨zero_ok, by show (0 : Nat) ≤ 1000; omega⟩
  | some u =>
    obtain ⟨hm, _⟩ := findM_mem hf
    obtain ⟨y, hy, rfl⟩ := List.mem_map.1 hm
    exact ⟨(hP.ok y hy).2.1, (hP.ok y hy).2.2⟩
theorem do61 (hr : SRow w (.slice (some ⟨g, 0, none⟩) U.length cap) U) (hi : U[i]? = some s) (h : PTr w tb mo L) (few : L.length ≤ 100) (hG : Gd (L.map IT.m)) (hq : Rd w s.q.v s.q.b) (hql : s.q.b.length ≤ 1000) (right : rightO s.q = true) :
    Calls Tryz.prog 63 #[.pointer (some ⟨g, i * 21, none⟩), ptr tb] w fun e w' => e = .returned (.tuple #[]) ∧ DidAll w g cap i tb mo L U s w' := by
  have hil : i < U.length := (List.getElem?_eq_some_iff.1 hi).1
  have HR : Hid (SRow w (.slice (some ⟨g, 0, none⟩) U.length cap) U) := hr
  have HI : Hid (U[i]? = some s) := hi
  have HIL : Hid (i < U.length) := hil
  have HP : Hid (PTr w tb mo L) := h
  have HL : Hid (w.rangeAt g (i * 21) (oc s.q)) := range_op (hr.load hi)
  have HD : Hid (Calls Tryz.prog 77 #[ptr tb, ov s.q] w fun e w' => ∃ x b k, e = .returned (.tuple #[iv x, .bool b, .int .i64 k]) ∧ DoAns w tb mo L s.q x b k w') := do11 h few hG s.q hq hql
  have HRT : Hid (rightO s.q = true) := right
  clear hr hi hil h few hG hq hql right
  go_enter Tryz.func63, Tryz.ntmps63
  go_upto_region 1 with (first
    | (refine wpList_okw rfl (exec_load40 (q := s.q) (.tmp 10) rfl rfl HL.out) ?_)
    | (go_at_call 77; go_must (refine HD.out.mono ?_; rintro e w1 ⟨x, b, k, rfl, hd⟩; have HDA : Hid (DoAns w tb mo L s.q x b k w1) := hd; obtain ⟨mo', L', h1, h2, h3⟩ := hd.tree; have HP1 : Hid (PTr w1 tb mo' L') := h1; have HM1 : Hid (L'.map IT.m = doM (L.map IT.m) s.q) := h2; have HT1 : Hid (Tw tb mo w w1 mo') := h3; clear h1 h2 h3 hd; have HR1 : Hid (SRow w1 (.slice (some ⟨g, 0, none⟩) U.length cap) U) := HR.out.tw HT1.out HP.out; have HTh : Hid (w1.there g (i * 21 + 10) 10) := (fun j hj => by have := HR1.out.there HIL.out (10 + j) (by omega); rwa [← Nat.add_assoc] at this)))
    | (refine wpList_skipw rfl (exec_store35 (q := x) (.tmp 17) (.tmp 13) rfl rfl rfl HTh.out) ?_; obtain ⟨w2, hw2⟩ : ∃ w2, w2 = w1.setCells g (i * 21 + 10) (ic x) := ⟨_, rfl⟩; rw [← hw2]; have hs2 := set_was HR1.out HI.out x; rw [← hw2] at hs2; have HR2 : Hid (SRow w2 (.slice (some ⟨g, 0, none⟩) U.length cap) (U.set i ⟨s.q, x, s.b⟩)) := hs2.1; have HG2 : Hid (w1.grownBy w2 (some g)) := hs2.2; clear hs2 hw2; have HC2 : Hid (w2.cell? ⟨g, i * 21 + 20, none⟩ = some (.bool s.b) ∧ w2.frozen? ⟨g, i * 21 + 20, none⟩ = false) := set_cell (x := ⟨s.q, x, s.b⟩) HR2.out HIL.out; clear HTh)
    | (refine wpList_skipw rfl (exec_store4 (.tmp 19) (.tmp 14) rfl rfl rfl HC2.out.1 HC2.out.2) ?_; obtain ⟨w3, hw3⟩ : ∃ w3, w3 = w2.setCell ⟨g, i * 21 + 20, none⟩ (.bool b) := ⟨_, rfl⟩; rw [← hw3]; have hs3 := set_there HR2.out HIL.out b; rw [← hw3] at hs3; have HR3 : Hid (SRow w3 (.slice (some ⟨g, 0, none⟩) U.length cap) (U.set i ⟨s.q, x, b⟩)) := hs3.1; have HG3 : Hid (w2.grownBy w3 (some g)) := hs3.2; clear hs3 hw3))
  have HN3 : Hid (w3.rangeAt g (i * 21 + 3) (sc s.q.n)) := (range_node3 (s := ⟨s.q, x, b⟩) (range_op (set_load (x := ⟨s.q, x, b⟩) HR3.out HIL.out)))
  have HT3 : Hid (w3.there g (i * 21 + 10) 2) := fun j hj => by
    have := set_thereAt HR3.out HIL.out (10 + j) (by omega)
    rwa [← Nat.add_assoc] at this
  go_wp2_with (first
    | (refine wpList_okw rfl (exec_load24n (n := s.q.n) (.tmp 24) rfl rfl HN3.out) ?_)
    | (refine wpList_skipw rfl (exec_store24n (n := s.q.n) (.tmp 28) (.tmp 25) rfl rfl rfl HT3.out) ?_; obtain ⟨w4, hw4⟩ : ∃ w4, w4 = w3.setCells g (i * 21 + 10) (sc s.q.n) := ⟨_, rfl⟩; rw [← hw4]; have hs4 := set_node HR3.out HIL.out s.q.n; rw [← hw4] at hs4; have HR4 : Hid (SRow w4 (.slice (some ⟨g, 0, none⟩) U.length cap) (U.set i ⟨s.q, itN x s.q.n, b⟩)) := hs4.1; have HG4 : Hid (w3.grownBy w4 (some g)) := hs4.2; clear hs4 hw4))
  go_end0
  have hG : w1.grownBy w4 (some g) := grown_trans (grown_trans HG2.out HG3.out (fun k hk => .inl hk)) HG4.out (fun k hk => .inl hk)
  have hd := HDA.out
  have hr := HRT.out
  refine ⟨rfl, itN x s.q.n, b, mo', L', HR4.out, ⟨?_, ?_⟩, HR1.out.rdPast hd.rd hG, ?_, ?_, HP1.out.pastRow HR1.out hG, HM1.out, fun lb => ?_⟩
  · rw [hd.b, hr]; rfl
  · have := hd.m
    rw [if_pos hr] at this
    show ({ x.m with n := s.q.n } : IM) = _
    rw [this]
  · show x.m.b.length ≤ 1000
    rw [hd.m, if_pos hr]
    exact (got_ok HP.out s.q.n).2
  · show SOk x.m.p
    rw [hd.m, if_pos hr]
    exact (got_ok HP.out s.q.n).1
  · exact (Lw.of_tw HT1.out).trans (Lw.of_row hG (fun k hk => .inl hk))
end
end

section
set_option linter.unusedVariables false
set_option linter.unusedSimpArgs false
set_option synthInstance.maxSize 20000
set_option maxHeartbeats 2000000
set_option maxRecDepth 20000
open Go.RowKit Go.Maps

open Go.Shelf
theorem wpListIn_okT {F : Fence} {n : Nat} {P : Program} {w w' : World} {ops : Array Oper} {rest : List Oper} {o : Oper} {a : Act} {Q : Exit → Act → World → Prop} {v : Value} (hgd : o.guard = none) (hab : o.about P w a.eval = none) (hd : ∀ c, o.op ≠ .defer c) (hr : (execOp a.eval o).run P w = .ok (.value v) w') (h : wpListIn F n P ops Q rest (a.put o.dst v) w') : wpListIn F n P ops Q (o :: rest) a w := by
  refine wpListIn_plain hgd fun K hK => ?_
  unfold Oper.wpIn
  refine ⟨fun f hf => (by rw [hab] at hf; cases hf), ?_⟩
  rw [Oper.semAt_plain F _ _ (fun c hc => hd c hc), hr]
  exact hK _ _ h
def KpB (Bs g : Nat) (W W' : World) : Prop := W'.heap[Bs]? = W.heap[Bs]? ∧ W'.heap[g]? = W.heap[g]?
theorem kpB_t {Bs g : Nat} {A B C : World} (h : KpB Bs g A B) (k : KpB Bs g B C) : KpB Bs g A C := ⟨k.1.trans h.1, k.2.trans h.2⟩
theorem kpB_b {Bs g : Nat} {w : World} (h1 : Bs < w.heap.size) (h2 : g < w.heap.size) (W : World) (l : Nat) (o o' : Obj) (hl : w.heap.size ≤ l) (_ : W.heap[l]? = some o) (_ : o.isCells = false) (_ : o.isWalk = false) : KpB Bs g W (W.putObj l o') := ⟨World.putObj_heap_other (by omega), World.putObj_heap_other (by omega)⟩
def downF (m k : Nat) : List (Fin m) := (List.finRange m).reverse.take k
theorem downF_zero (m : Nat) : downF m 0 = [] := rfl
theorem downF_all (m : Nat) : downF m m = (List.finRange m).reverse := List.take_of_length_le (by simp)
theorem downF_succ {m k : Nat} (h : k < m) : downF m (k + 1) = downF m k ++ [⟨m - 1 - k, by omega⟩] := by
  unfold downF
  rw [List.take_succ_eq_append_getElem (by simpa using h)]
  congr 2
  rw [List.getElem_reverse]
  simp
theorem downF_len {m k : Nat} (h : k ≤ m) : (downF m k).length = k := by unfold downF; simp; omega
set_option maxRecDepth 100000 in
set_option maxHeartbeats 4000000 in
theorem back84 (n : Nat) (hn : 1 ≤ n) (l Bs g off cap : Nat) (R : List ST) (hR : R.length ≤ 1000) (hcap : R.length ≤ cap ∧ cap ≤ 9223372036854775807) (J Jx : List (Fin R.length) → World → Prop)
    (hY : ∀ pre x W, J pre W → pre.length < R.length → YieldAt Fence.wide (n - 1) Tryz.prog l #[.int .i64 (x.1 : Int), tv R[x.1]] W fun e W' => (e = .returned (.bool true) ∧ J (pre ++ [x]) W' ∧ KpB Bs g W W') ∨ (e = .returned (.bool false) ∧ Jx (pre ++ [x]) W'))
    (W : World) (hBs : W.cell? ⟨Bs, 0, none⟩ = some (.slice (some ⟨g, off, none⟩) R.length cap)) (hc : ∀ j (h : j < R.length), W.rangeAt g (off + j * 21) (tc R[j])) (h0 : J [] W) :
    CallsIn Fence.wide n Tryz.prog 75 #[.func (.yield l) #[] #[], .pointer (some ⟨Bs, 0, none⟩)] W fun e W' => (∃ v, e = .returned v) ∧ ((∃ ys, ys = (List.finRange R.length).reverse ∧ J ys W') ∨ (∃ pre, True ∧ Jx pre W')) := by
  refine callsIn_of_wp Tryz.func75 rfl trivial ?_ rfl
  simp only [Tryz.ntmps75, List.size_toArray, List.length_cons, List.length_nil, Nat.reduceAdd, Nat.reduceSub, Array.replicate_succ, Array.replicate_zero, List.push_toArray, List.append_toArray, List.nil_append, List.cons_append]
  gi_wp2
  gi_loopw [3] (fun i wr => ∃ k j : Nat, k + j = R.length ∧ i = .int .i64 ((j : Int) - 1) ∧ Hid (J (downF R.length k) wr) ∧ Hid (KpB Bs g W wr)) (fun i _ => (intOf i + 1).toNat)
  case atStart => exact ⟨0, R.length, by omega, rfl, h0, ⟨rfl, rfl⟩⟩
  case round =>
    obtain ⟨k, j, hkj, rfl, HJ, HK⟩ := hrel
    cases j with
    | succ j =>
      have hj : j < R.length := by omega
      rw [show ((j + 1 : Nat) : Int) - 1 = (j : Int) by omega]
      have hjI : (j : Int) < (R.length : Int) := by omega
      obtain ⟨fn, tmps, assign, body, hy, hYR⟩ := hY _ ⟨j, hj⟩ wr HJ.out (by rw [downF_len (by omega)]; omega)
      dsimp only at hy
      have hb1 : wr.cell? ⟨Bs, 0, none⟩ = some (.slice (some ⟨g, off, none⟩) R.length cap) := (World.cell?_of_block (a := ⟨Bs, 0, none⟩) HK.out.1).trans hBs
      have HL : Hid (wr.rangeAt g (off + j * 21) (tc R[j])) := fun p u hu => (World.cell?_of_block (a := ⟨g, off + j * 21 + p, none⟩) HK.out.2).trans (hc j hj p u hu)
      obtain ⟨x, hx⟩ : ∃ x, x = R[j] := ⟨_, rfl⟩
      rw [← hx] at hy HL
      have HD : Hid (downF R.length (k + 1) = downF R.length k ++ [⟨j, hj⟩]) := by
        show _ = _
        rw [downF_succ (by omega)]
        congr 3
        omega
      clear hc hx
      gi_wp2_with (refine wpListIn_okT rfl rfl (fun c h => by cases h) (exec_load76 (q := x) (.tmp 15) rfl rfl HL.out) ?_)
      refine hYR.mono ?_
      rintro e W3 (⟨rfl, hJ3, hk3⟩ | ⟨rfl, hJx3⟩)
      · gi_wp2
        go_roundw
        case rel => exact ⟨k + 1, j, by omega, rfl, by rw [HD.out]; exact hJ3, kpB_t HK.out hk3⟩
        case measure => simp [intOf]
      · gi_wp2
        refine bodyPost_ret (results_none rfl _ _ _) rfl ?_
        exact ⟨⟨_, rfl⟩, .inr ⟨_, trivial, hJx3⟩⟩
    | zero =>
      obtain rfl : k = R.length := by omega
      gi_wp2
      go_end0
      rw [← downF_all]
      exact ⟨⟨_, rfl⟩, .inl ⟨_, rfl, HJ.out⟩⟩
set_option maxRecDepth 100000 in
theorem back84z (n : Nat) (l Bs : Nat) (a : Option Addr) (cap : Nat) (W : World) (hBs : W.cell? ⟨Bs, 0, none⟩ = some (.slice a 0 cap)) {Q : World → Prop} (h0 : Q W) :
    CallsIn Fence.wide n Tryz.prog 75 #[.func (.yield l) #[] #[], .pointer (some ⟨Bs, 0, none⟩)] W fun e W' => (∃ v, e = .returned v) ∧ Q W' := by
  have H0 : Hid (Q W) := h0
  clear h0
  refine callsIn_of_wp Tryz.func75 rfl trivial ?_ rfl
  simp only [Tryz.ntmps75, List.size_toArray, List.length_cons, List.length_nil, Nat.reduceAdd, Nat.reduceSub, Array.replicate_succ, Array.replicate_zero, List.push_toArray, List.append_toArray, List.nil_append, List.cons_append]
  gi_wp2
  gi_loopw [3] (fun i wr => i = .int .i64 (-1) ∧ wr = W) (fun _ _ => 0)
  case atStart => exact ⟨rfl, rfl⟩
  case round =>
    obtain ⟨rfl, rfl⟩ := hrel
    gi_wp2
    go_end0
    exact ⟨⟨_, rfl⟩, H0.out⟩
/-- A slice of steps, from off on in block g, or of none. -/
def Tail (w : World) (g : Nat) (u : Value) (R : List ST) : Prop := (R = [] ∧ ∃ a cap, u = .slice a 0 cap) ∨ ∃ off cap, u = .slice (some ⟨g, off, none⟩) R.length cap ∧ R.length ≤ cap ∧ cap ≤ 9223372036854775807 ∧ g < w.heap.size ∧ ∀ j (h : j < R.length), w.rangeAt g (off + j * 21) (tc R[j])
theorem back_stops (n : Nat) (hn : 1 ≤ n) (Bs g : Nat) (u : Value) (R : List ST) (w : World) (hR : R.length ≤ 1000) (hT : Tail w g u R) (hB : Bs < w.heap.size) (hBs : w.cell? ⟨Bs, 0, none⟩ = some u) :
    SeqStopsK Fence.wide n Tryz.prog 75 #[.pointer (some ⟨Bs, 0, none⟩)] (fun x : Fin R.length => #[.int .i64 (x.1 : Int), tv R[x.1]]) (KpB Bs g) (fun xs => xs = (List.finRange R.length).reverse) (fun _ => True) R.length w := by
  intro l J Jx W hW hJ hJx hY h0
  have hc' : W.cell? ⟨Bs, 0, none⟩ = some u := (World.cell?_of_block (a := ⟨Bs, 0, none⟩) (hW.block Bs hB)).trans hBs
  rcases hT with ⟨rfl, a, cap, rfl⟩ | ⟨off, cap, rfl, h1, h2, h3, h4⟩
  · exact (back84z n l Bs a cap W hc' (Q := fun W => J [] W) h0).mono fun e W' ⟨he, hj⟩ => ⟨he, .inl ⟨[], rfl, hj⟩⟩
  · exact back84 n hn l Bs g off cap R hR ⟨h1, h2⟩ J Jx hY W hc' (fun j h p x hx => (World.cell?_of_block (a := ⟨g, off + j * 21 + p, none⟩) (hW.block g h3)).trans (h4 j h p x hx)) h0
theorem backward59 (a : Option Addr) (n c : Nat) (w : World) : Calls Tryz.prog 61 #[.slice a n c] w fun e w' => e = .returned (.func (.func 75) #[] #[ptr w.heap.size]) ∧ w' = w.alloc (.cells #[.slice a n c] 64) := by
  go_enter Tryz.func61, Tryz.ntmps61
  go_wp2
  go_ret
  exact ⟨rfl, rfl⟩
end
end Go.Proofs.YthnjbjlhfohpfaaGreat
