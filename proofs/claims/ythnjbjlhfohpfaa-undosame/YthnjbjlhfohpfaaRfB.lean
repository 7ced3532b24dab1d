/-
  Slices of integers that come in.
  The reference's Set.
  The reference's Name and Right.
  The reference's place and Right.
  The reference's Right.
  The reference's Do.
  The reference's Build.
-/
import Derived.Test.YthnjbjlhfohpfaaArgO
import Derived.Deep.Slices
import Derived.Test.YthnjbjlhfohpfaaTrP
import Derived.Test.YthnjbjlhfohpfaaTrU
import Derived.Test.YthnjbjlhfohpfaaRgt
import Derived.Test.YthnjbjlhfohpfaaWirP
import Derived.Test.YthnjbjlhfohpfaaTsA
import Derived.Test.YthnjbjlhfohpfaaTsD
import Derived.Test.YthnjbjlhfohpfaaTsG
import Derived.Test.YthnjbjlhfohpfaaTsF
namespace Go.Proofs.Ythnjbjlhfohpfaa
section
set_option linter.unusedVariables false
set_option linter.unusedSimpArgs false
set_option synthInstance.maxSize 20000
set_option maxHeartbeats 2000000
set_option maxRecDepth 20000
open Go.RowKit Go.Maps

section
open Go.ChangeShapes Go.WideShapes Go.ChangeAt Go.RowKit
/-- A slice of integers that reads as l. -/
def RdI (w : World) (v : Value) (l : List Int) : Prop := (∀ x ∈ l, I64 x) ∧ ∃ (a : Option Addr) (cap : Nat), v = .slice a l.length cap ∧ l.length ≤ cap ∧ cap ≤ maxLen ∧ (0 < l.length → ∃ b off, a = some ⟨b, off, none⟩ ∧ ∀ j c, l[j]? = some c → w.cell? ⟨b, off + j, none⟩ = some (.int .i64 c))
set_option maxRecDepth 100000 in
theorem ints_of {H : Type} {enc : TypeId × Value → H} {w : World} {r : Reach} {b0 base : Nat} {held : Bool} {v : Value} {d : DataW H} {p : List MemPlace}
    (hv0 : Value.okWide Try.prog w r b0 23 v) (h : DataW.Trod enc Try.prog w base (fun _ => true) held 23 v d p) : ∃ l, RdI w v l := by
  obtain ⟨a, len, cap, rfl⟩ := okWide_slice Try.underlying23 hv0
  obtain ⟨fuel, hf⟩ := h
  rcases Deep.open_slice Try.underlying23 hf with ⟨hcs, _⟩ | ⟨y, l, c, m, n, D, Pl, hcs, _, hl, hm, hmm, _, hx⟩
  · simp [Value.cells] at hcs
    obtain ⟨rfl, rfl, rfl⟩ := hcs
    exact ⟨[], (fun x hx => by cases hx), none, 0, rfl, Nat.le_refl _, Nat.zero_le _, fun h => by simp at h⟩
  · simp [Value.cells] at hcs
    obtain ⟨rfl, rfl, rfl⟩ := hcs
    have hlm : len ≤ m := by rw [hmm]; split <;> omega
    have ce : Try.prog.cellsOf 3 = 1 := by kernel_rfl
    have each : ∀ i, i < len → ∃ z : Int, w.cell? (y.add i) = some (.int .i64 z) ∧ I64 z := by
      intro i hi
      obtain ⟨cs', h1, h2⟩ := hx i (by omega)
      rw [ce] at h1
      obtain ⟨_, hlen, hcell⟩ := World.cells?_some h1
      match cs', hlen with
      | [c0], _ =>
        obtain ⟨z, q0, _, wz⟩ := DataW.trod_int Try.underlying3 h2
        simp at q0
        subst q0
        have e1 := hcell 0 (by omega)
        rw [Deep.add_add] at e1
        exact ⟨z, by simpa using e1, wf_i64 wz⟩
    obtain ⟨z, hz'⟩ := Deep.choose_lt each
    refine ⟨(List.range len).map z, fun x hx => ?_, some y, cap, by simp, by simpa using hl, hm, fun hp => ?_⟩
    · obtain ⟨i, hi, rfl⟩ := List.mem_map.1 hx
      exact (hz' i (List.mem_range.1 hi)).2
    simp at hp
    obtain ⟨b, off, spot⟩ := y
    have hspot : spot = none := by simpa [Addr.add] using World.cell?_spot (hz' 0 hp).1
    subst hspot
    refine ⟨b, off, rfl, fun j c hj => ?_⟩
    have hlt : j < len := by have := (List.getElem?_eq_some_iff.1 hj).1; simpa using this
    simp [hlt] at hj
    subst hj
    have h2 := (hz' j hlt).1
    rw [Addr.add_lit] at h2
    exact h2
theorem RdI.len {w : World} {v : Value} {l : List Int} (h : RdI w v l) : ∃ a cap, v = .slice a l.length cap := ⟨h.2.choose, h.2.choose_spec.choose, h.2.choose_spec.choose_spec.1⟩
theorem RdI.at {w w' : World} {a : Option Addr} {n cap : Nat} {l : List Int} (h : RdI w (.slice a n cap) l) (hb : Below w.heap.size w w') {k : Nat} {t : Int} (hk : l[k]? = some t) : ∃ b off, a = some ⟨b, off, none⟩ ∧ w'.cell? ⟨b, off + k, none⟩ = some (.int .i64 t) := by
  obtain ⟨_, a', cap', e, h1, h2, h3⟩ := h
  have hkl := (List.getElem?_eq_some_iff.1 hk).1
  obtain ⟨b, off, ha, hc⟩ := h3 (by omega)
  simp only [Value.slice.injEq] at e
  refine ⟨b, off, e.1.trans ha, ?_⟩
  have := hc k t hk
  rw [World.cell?_of_block (hb.block b (World.block_lt_of_cell? w _ this))]
  exact this
theorem RdI.below {w w' : World} {v : Value} {l : List Int} (h : RdI w v l) (hb : Below w.heap.size w w') : RdI w' v l := by
  obtain ⟨h0, a, cap, e, h1, h2, h3⟩ := h
  refine ⟨h0, a, cap, e, h1, h2, fun hp => ?_⟩
  obtain ⟨b, off, ha, hc⟩ := h3 hp
  refine ⟨b, off, ha, fun j c hj => ?_⟩
  rw [World.cell?_of_block (hb.block b (World.block_lt_of_cell? w _ (hc j c hj)))]
  exact hc j c hj
end
end

section
set_option linter.unusedVariables false
set_option linter.unusedSimpArgs false
set_option synthInstance.maxSize 20000
set_option maxHeartbeats 2000000
set_option maxRecDepth 20000
open Go.RowKit Go.Maps

theorem exec_ne24 {o : Oper} {r : Operand → Value} {w : World} {a b : S} (x y : Operand) (ho : o.op = .binOp .neq 33 x y 33) (hx : r x = sv a) (hy : r y = sv b) : (execOp r o).run Try.prog w = .ok (.value (.bool (!decide (a = b)))) w := by
  obtain ⟨a1, a2⟩ := a
  obtain ⟨b1, b2⟩ := b
  unfold sv at hx hy
  dsimp only at hx hy
  have e : decide ((a1, a2) = (b1, b2)) = (a1 == b1 && a2 == b2) := by
    by_cases h1 : a1 = b1 <;> by_cases h2 : a2 = b2 <;> simp [h1, h2]
  rw [e]
  unfold execOp
  simp only [ho]
  go_simp
  by_cases h1 : a1 = b1 <;> by_cases h2 : a2 = b2 <;> simp [h1, h2]
theorem exec_store30 {o : Oper} {r : Operand → Value} {w : World} {b off : Nat} {a : Option Addr} {n c : Nat} {u : Value} (x y : Operand) (ho : o.op = .store 51 x y) (hx : r x = .pointer (some ⟨b, off, none⟩)) (hy : r y = .slice a n c) (hc : w.cell? ⟨b, off, none⟩ = some u) (hf : w.frozen? ⟨b, off, none⟩ = false) : (execOp r o).run Try.prog w = .ok .skip (w.setCell ⟨b, off, none⟩ (.slice a n c)) := by
  unfold execOp
  simp only [ho]
  go_simp
theorem range_node {w : World} {b off : Nat} {x : IT} (h : w.rangeAt b off (ic x)) : w.rangeAt b off (sc x.m.n) := by
  intro j u hj
  match j, hj with
  | 0, hj => exact h 0 u hj
  | 1, hj => exact h 1 u hj
  | j + 2, hj => simp [sc] at hj
theorem OwnT.at_drew {B : Nat} {wa wz : World} {v : Value} {O : List IT} (ho : OwnT B wa v O) (h : wz = wa.drew) : OwnT B wz v O := by
  rw [h]
  exact ho.below (below_drewn wa 1)
end

section
set_option linter.unusedVariables false
set_option linter.unusedSimpArgs false
set_option synthInstance.maxSize 20000
set_option maxHeartbeats 2000000
set_option maxRecDepth 20000
open Go.RowKit Go.Maps

theorem bar_iff (n : Nat) : bar n = true ↔ n < 32 ∨ n = 127 ∨ n = 47 ∨ n = 126 := by
  unfold bar
  simp [or_assoc]
end

section
set_option linter.unusedVariables false
set_option linter.unusedSimpArgs false
set_option synthInstance.maxSize 20000
set_option maxHeartbeats 2000000
set_option maxRecDepth 20000
open Go.RowKit Go.Maps

theorem wpList_okx {P : Program} {w w' : World} {ops : Array Oper} {rest : List Oper} {o : Oper} {a : Act} {Q : Exit → Act → World → Prop} {v : Value} (hr : (execOp a.eval o).run P w = .ok (.value v) w') (hw : Region.wanted o (yielded ops a.tmps) = true) (h : wpList P ops Q rest (a.put o.dst v) w') : wpList P ops Q (o :: rest) a w := wpList_okw hw hr h
theorem sameAt_dec (s t : S) : sameAt s t = decide (s = t) := by
  obtain ⟨a, b⟩ := s
  obtain ⟨c, d⟩ := t
  show (a == c && b == d) = _
  by_cases h1 : a = c <;> by_cases h2 : b = d <;> simp [h1, h2]
def placeB (s : S) : Bool := decide (s = (0, 0)) || rightB s
theorem rightO_form (q : OpT) : rightO q = (rightB q.a && rightB q.n && !(!decide (q.k = 4) && decide (0 < q.vn)) && !(!decide (q.k = 1) && q.d) && (if q.k = 1 then decide (q.n = q.a) && placeB q.p && nameB q.s else if q.k = 2 then placeB q.p && nameB q.s else if q.k = 3 then decide (q.p = (0, 0)) && (q.s.toList == []) else if q.k = 4 then decide (q.p = (0, 0)) && (q.s.toList == []) && decide (q.vn ≤ 400) else false)) := by
  unfold rightO placedB bareB placeB
  simp only [sameAt_dec]
  have e0 : ((q.vn : Int) == 0) = !decide (0 < q.vn) := by
    by_cases h : 0 < q.vn
    · simp [h]; omega
    · have : q.vn = 0 := by omega
      simp [this]
  have e4 : decide ((q.vn : Int) ≤ 400) = decide (q.vn ≤ 400) := by
    by_cases h : q.vn ≤ 400
    · rw [decide_eq_true h, decide_eq_true (by omega)]
    · rw [decide_eq_false h, decide_eq_false (by omega)]
  rw [e0, e4]
  generalize decide (0 < q.vn) = v0
  generalize decide (q.vn ≤ 400) = v4
  generalize decide (q.p = (0, 0)) = z
  generalize rightB q.p = rp
  generalize nameB q.s = nm
  generalize (q.s.toList == []) = em
  generalize q.d = d
  by_cases k1 : q.k = 1
  · simp only [k1, if_pos rfl, decide_true]
    by_cases e : q.n = q.a
    · rw [e]
      simp only [decide_true]
      generalize rightB q.a = ra
      revert v0 v4 z rp nm em d ra
      decide
    · rw [decide_eq_false e]
      simp
  · by_cases k2 : q.k = 2
    · simp only [k1, k2, if_pos rfl]
      generalize rightB q.a = ra
      generalize rightB q.n = rn
      generalize decide (q.n = q.a) = e1
      revert v0 v4 z rp nm em d ra rn e1
      decide
    · by_cases k3 : q.k = 3
      · simp only [k1, k2, k3, if_pos rfl]
        generalize rightB q.a = ra
        generalize rightB q.n = rn
        generalize decide (q.n = q.a) = e1
        revert v0 v4 z rp nm em d ra rn e1
        decide
      · by_cases k4 : q.k = 4
        · simp only [k1, k2, k3, k4, if_pos rfl]
          generalize rightB q.a = ra
          generalize rightB q.n = rn
          generalize decide (q.n = q.a) = e1
          revert v0 v4 z rp nm em d ra rn e1
          decide
        · simp [k1, k2, k3, k4]
end

section
set_option linter.unusedVariables false
set_option linter.unusedSimpArgs false
set_option synthInstance.maxSize 20000
set_option maxHeartbeats 2000000
set_option maxRecDepth 20000
open Go.RowKit Go.Maps
end

section
set_option linter.unusedVariables false
set_option linter.unusedSimpArgs false
set_option synthInstance.maxSize 20000
set_option maxHeartbeats 2000000
set_option maxRecDepth 20000
open Go.RowKit Go.Maps

theorem rd_pastitb {w w' : World} {g : Nat} {x : IT} {v : Value} {l : List Int} (hr : Rd w v l) (hi : Itb w g x) (hg : w.grownBy w' (some g)) : Rd w' v l := by
  have hr0 := hr
  refine hr.blocks fun hl k hk hlt => ?_
  obtain ⟨_, a, cap, rfl, h1, h2, h3, h4⟩ := hr0
  have hp : 0 < l.length := by cases l with
    | nil => exact absurd rfl hl
    | cons x l => simp
  obtain ⟨b, off, rfl, hc⟩ := h4 hp
  have e1 : b = k := by simpa [Value.ownBlock] using hk
  subst e1
  refine hg.block _ hlt fun e => ?_
  cases e
  have c0 := hc 0 hp
  have hb : w.heap[g]? = some (.cells (ic x).toArray 88 (0, 0)) := hi
  simp [World.cell?, hb] at c0
  have hm := List.mem_of_getElem? c0
  simp only [ic, List.mem_cons, List.not_mem_nil, or_false] at hm
  rcases hm with h | h | h | h | h | h | h | h | h | h <;> simp at h
theorem two_op41 {w w1 : World} {B0 B1 : Nat} {q : OpT} (hw1 : w1 = (w.alloc (.cells (oc q).toArray 36)).alloc (.cells (ic zT).toArray 88)) (h0 : B0 = w.heap.size) (h1 : B1 = w.heap.size + 1) :
    Below w.heap.size w w1 ∧ Opb w1 B0 q ∧ Itb w1 B1 zT ∧ w.heap.size ≤ B1 := by
  subst hw1 h0 h1
  refine ⟨balloc (balloc (Below.refl _ _) _) _, Blk.alloc (opb_new w q) _, ?_, by omega⟩
  have := itb_new (w.alloc (.cells (oc q).toArray 36)) zT
  simpa using this
section
variable {o : Oper} {r : Operand → Value} {w : World} {b : Nat} {q : IT}
theorem exec_zero41 (ho : o.op = .build 88 #[]) : (execOp r o).run Try.prog w = .ok (.value (iv zT)) w := by
  unfold execOp
  simp only [ho]
  go_simp
  rfl
theorem exec_new41 {n p : S} {s : ByteArray} {d : Bool} (x1 x2 x3 x4 : Operand) (ho : o.op = .build 88 #[(0, x1), (1, x2), (2, x3), (3, x4)]) (h1 : r x1 = sv n) (h2 : r x2 = sv p) (h3 : r x3 = .string s) (h4 : r x4 = .bool d) : (execOp r o).run Try.prog w = .ok (.value (iv ⟨⟨n, p, s, d, false, (0, 0), []⟩, none, 0, 0⟩)) w := by
  obtain ⟨n1, n2⟩ := n
  obtain ⟨p1, p2⟩ := p
  unfold sv at h1 h2
  unfold iv ic
  dsimp only at h1 h2 ⊢
  unfold execOp
  simp only [ho]
  go_simp
theorem Itb.setPar {p : S} (h : Itb w b q) : Itb (w.setCells b 2 (sc p)) b { q with m := { q.m with p := p } } := by
  have := Blk.setCells h 2 (sc p) (by rw [ic_len]; simp [sc])
  exact this
theorem Itb.setBy {p : S} (h : Itb w b q) : Itb (w.setCells b 8 (sc p)) b { q with m := { q.m with y := p } } := by
  have := Blk.setCells h 8 (sc p) (by rw [ic_len]; simp [sc])
  exact this
theorem Itb.setName {s : ByteArray} (h : Itb w b q) : Itb (w.setCell ⟨b, 4, none⟩ (.string s)) b { q with m := { q.m with s := s } } := Blk.set h 4 _
theorem Itb.setGone {g : Bool} (h : Itb w b q) : Itb (w.setCell ⟨b, 6, none⟩ (.bool g)) b { q with m := { q.m with g := g } } := Blk.set h 6 _
theorem Itb.setData {a : Option Addr} {n c : Nat} {l : List Int} (h : Itb w b q) : Itb (w.setCell ⟨b, 7, none⟩ (.slice a n c)) b ⟨{ q.m with b := l }, a, n, c⟩ := Blk.set h 7 _
end
section
variable {M : List IM} {q : OpT} {u : IM}
theorem ch1_has (hk : q.k = 1) (h : (findM M q.n).isSome = true) : chM M q = none := by
  unfold chM hasM; rw [if_pos hk, if_pos h]
theorem ch1_nod (hk : q.k = 1) (h : (findM M q.n).isSome = false) (hd : dirM M q.p = false) : chM M q = none := by
  unfold chM hasM; rw [if_pos hk, if_neg (by rw [h]; simp), if_neg (by rw [hd]; simp)]
theorem ch1_new (hk : q.k = 1) (h : (findM M q.n).isSome = false) (hd : dirM M q.p = true) : chM M q = some (newI q) := by
  unfold chM hasM; rw [if_pos hk, if_neg (by rw [h]; simp), if_pos hd]
theorem chx_no (hk : ¬ q.k = 1) (h : findM M q.n = none) : chM M q = none := by
  unfold chM; rw [if_neg hk, h]
theorem ch2_nod (hk : q.k = 2) (f : findM M q.n = some u) (hd : dirM M q.p = false) : chM M q = none := by
  unfold chM; rw [if_neg (by omega), f]; show (if q.k = 2 then _ else _) = _; rw [if_pos hk, if_neg (by rw [hd]; simp)]
theorem ch2_in (hk : q.k = 2) (f : findM M q.n = some u) (hd : dirM M q.p = true) (hw : withinM M 301 q.n q.p = true) : chM M q = none := by
  unfold chM; rw [if_neg (by omega), f]; show (if q.k = 2 then _ else _) = _; rw [if_pos hk, if_pos hd, if_pos hw]
theorem ch2_mov (hk : q.k = 2) (f : findM M q.n = some u) (hd : dirM M q.p = true) (hw : withinM M 301 q.n q.p = false) : chM M q = some (movI u q) := by
  unfold chM; rw [if_neg (by omega), f]; show (if q.k = 2 then _ else _) = _; rw [if_pos hk, if_pos hd, if_neg (by rw [hw]; simp)]
theorem ch3_rem (hk : q.k = 3) (f : findM M q.n = some u) : chM M q = some (remI u) := by
  unfold chM; rw [if_neg (by omega), f]; show (if q.k = 2 then _ else _) = _; rw [if_neg (by omega), if_pos hk]
theorem ch4_dir (hk : q.k = 4) (f : findM M q.n = some u) (hd : u.d = true) : chM M q = none := by
  unfold chM; rw [if_neg (by omega), f]; show (if q.k = 2 then _ else _) = _; rw [if_neg (by omega), if_neg (by omega), if_pos hd]
theorem ch4_wri (hk : q.k = 4) (f : findM M q.n = some u) (hd : u.d = false) : chM M q = some (wriI u q) := by
  unfold chM; rw [if_neg (by omega), f]; show (if q.k = 2 then _ else _) = _; rw [if_neg (by omega), if_neg (by omega), if_neg (by rw [hd]; simp)]
end
theorem GotT.found {w : World} {L : List IT} {n : S} {x : IT} (h : GotT w L n x true) : findM (L.map IT.m) n = some x.m := by
  have h1 := h.is
  have h2 := h.m
  cases hf : findM (L.map IT.m) n with
  | none => rw [hf] at h1; cases h1
  | some y => rw [hf] at h2; rw [h2]; rfl
theorem GotT.lost {w : World} {L : List IT} {n : S} {x : IT} (h : GotT w L n x false) : findM (L.map IT.m) n = none := by
  have h1 := h.is
  cases hf : findM (L.map IT.m) n with
  | none => rfl
  | some y => rw [hf] at h1; cases h1
section
variable {w w3 w8 : World} {tb B1 : Nat} {v : Value} {L : List IT} {q : OpT} {x : IT} {b : Bool}
end
end

section
set_option linter.unusedVariables false
set_option linter.unusedSimpArgs false
set_option synthInstance.maxSize 20000
set_option maxHeartbeats 2000000
set_option maxRecDepth 20000
open Go.RowKit Go.Maps

theorem FirstOf.len {O l : List OpT} (h : FirstOf O l) : O.length ≤ l.length := nodup_le (h.str.imp fun {x y} hxy e => by subst e; exact ltP_irrefl _ hxy) fun x hx => h.mem hx
end
end Go.Proofs.Ythnjbjlhfohpfaa
