/-
  Two logs beside each other; a tree beside a log.
  Light: are operations few, and short?
  ArgB: grafted.
  Operations that came in.
-/
import Derived.Test.YthnjbjlhfohpfaaUdN
import Derived.Test.YthnjbjlhfohpfaaAll
import Derived.Test.YthnjbjlhfohpfaaRowG
import Derived.Test.YthnjbjlhfohpfaaPut
import Derived.Test.YthnjbjlhfohpfaaRef
import Derived.Test.YthnjbjlhfohpfaaTurn
import Derived.Deep.SlicePairs
import Derived.Lib.SmallJoins
import Derived.ProofKit
import Derived.OpenShut
import Derived.Test.YthnjbjlhfohpfaaLsG
namespace Go.Proofs.Ythnjbjlhfohpfaa
section
set_option linter.unusedVariables false
set_option linter.unusedSimpArgs false
set_option synthInstance.maxSize 20000
set_option maxHeartbeats 2000000
set_option maxRecDepth 20000
open Go.RowKit Go.Maps

section
variable {w w' : World} {la ta lb tb t2 : Nat} {va va' vb : Value} {ma ma' mb m2 : Option Nat} {LA LB L2 : List IT} {UA UB : List ST}
theorem cells_ne {w : World} {b c : Nat} {e1 e2 : TypeId} {v1 v2 : List Value} (h1 : Blk w b e1 v1) (h2 : Blk w c e2 v2) (h : e1 ≠ e2) : b ≠ c := fun e => by
  have q1 : w.heap[b]? = some (.cells _ e1 (0, 0)) := h1
  have q2 : w.heap[c]? = some (.cells _ e2 (0, 0)) := h2
  rw [e, q2] at q1
  injection q1 with q1
  injection q1 with _ q
  exact h q.symm
theorem PTr.notMap (h : PTr w ta ma LA) {b : Nat} {e : TypeId} {vs : List Value} (hb : Blk w b e vs) : ma ≠ some b := fun e' => by
  rcases h.mp with ⟨e1, _⟩ | ⟨mb, e1, hm⟩
  · rw [e1] at e'; cases e'
  · rw [e1] at e'; cases e'
    exact hm.nocells (show w.heap[b]? = some (.cells _ e (0, 0)) from hb)
theorem SRow.ne {v : Value} {S : List ST} (h : SRow w v S) {b : Nat} {e : TypeId} {vs : List Value} (hb : Blk w b e vs) (he : e ≠ 76) : v.ownBlock ≠ some b := fun e' => by
  obtain ⟨us, hc, _⟩ := h.cells e'
  exact cells_ne hb hc he rfl
/-- A tree beside a log stays when the log is changed. -/
theorem PTr.keepL (hP : PTr w t2 m2 L2) (hw : Lw la ta ma va w w' ma' va') (ha : LogAt w la va ta ma LA UA) (ht : t2 ≠ ta) (hm : ∀ k, m2 = some k → ma ≠ some k) : PTr w' t2 m2 L2 := by
  have hb : w'.heap[t2]? = w.heap[t2]? := hw.block t2 hP.blk.lt (cells_ne hP.blk ha.blk (by decide)) ht (ha.tree.notMap hP.blk) (ha.row.ne hP.blk (by decide))
  refine ⟨hP.blk.block hb, hP.mp.imp id (fun ⟨mb, e, hq⟩ => ⟨mb, e, hq.block ?_⟩), hP.ok, fun z hz => hw.rd ha (hP.rd z hz), hP.srt, hP.few⟩
  have hn : ∀ {b : Nat} {e : TypeId} {vs : List Value}, Blk w b e vs → mb ≠ b := fun {b e vs} hb e' => by
    subst e'
    exact hq.nocells (show w.heap[mb]? = some (.cells _ e (0, 0)) from hb)
  refine hw.block mb hq.lt (hn ha.blk) (hn ha.tree.blk) (hm mb e) fun e' => ?_
  obtain ⟨us, hc, _⟩ := ha.row.cells e'
  exact hn hc rfl
/-- Logs that share no block. -/
structure ApartL (la : Nat) (va : Value) (ta : Nat) (ma : Option Nat) (lb : Nat) (vb : Value) (tb : Nat) (mb : Option Nat) : Prop where
  l : la ≠ lb
  t : ta ≠ tb
  m : ∀ k, ma = some k → mb ≠ some k
  v : ∀ k, va.ownBlock = some k → vb.ownBlock ≠ some k
theorem ApartL.symm (h : ApartL la va ta ma lb vb tb mb) : ApartL lb vb tb mb la va ta ma := ⟨fun e => h.l e.symm, fun e => h.t e.symm, fun k hk e => h.m k e hk, fun k hk e => h.v k e hk⟩
/-- A log stays when another one is changed. -/
theorem LogAt.keep (hb : LogAt w lb vb tb mb LB UB) (hw : Lw la ta ma va w w' ma' va') (ha : LogAt w la va ta ma LA UA) (h : ApartL la va ta ma lb vb tb mb) : LogAt w' lb vb tb mb LB UB ∧ ApartL la va' ta ma' lb vb tb mb := by
  refine ⟨⟨hb.blk.block (hw.block lb hb.blk.lt (fun e => h.l e.symm) (cells_ne hb.blk ha.tree.blk (by decide)) (ha.tree.notMap hb.blk) (ha.row.ne hb.blk (by decide))), hb.row.block fun k hk => ?_, hb.tree.keepL hw ha (fun e => h.t e.symm) (fun k hk e => h.m k e hk), hb.lst, hb.dn, hb.str, fun s hs => ?_, hb.few⟩, h.l, h.t, fun k hk e => ?_, fun k hk e => ?_⟩
  · obtain ⟨us, hc, _⟩ := hb.row.cells hk
    exact hw.block k hc.lt (cells_ne hc ha.blk (by decide)) (cells_ne hc ha.tree.blk (by decide)) (ha.tree.notMap hc) fun e => h.v k e hk
  · have := hb.ok s hs
    exact ⟨this.right, hw.rd ha this.rq, this.lq, hw.rd ha this.rx, this.lx, this.sp⟩
  · rcases hw.newm with e1 | ⟨m, e1, h1⟩
    · exact h.m k (e1 ▸ hk) e
    · rw [e1] at hk; cases hk
      rcases hb.tree.mp with ⟨e2, _⟩ | ⟨m', e2, hq⟩
      · rw [e2] at e; cases e
      · rw [e2] at e; cases e
        have := hq.lt; omega
  · rcases hw.newv k hk with e1 | e1
    · exact h.v k e1 e
    · have := hb.row.lt e; omega
end
/-- Two logs that the law made. -/
structure Duo (B : Nat) (w : World) (la : Nat) (va : Value) (ta : Nat) (ma : Option Nat) (LA : List IT) (UA : List ST) (lb : Nat) (vb : Value) (tb : Nat) (mb : Option Nat) (LB : List IT) (UB : List ST) : Prop where
  a : LogN B w la va ta ma LA UA
  b : LogN B w lb vb tb mb LB UB
  ap : ApartL la va ta ma lb vb tb mb
section
variable {w0 w w' : World} {la ta lb tb : Nat} {va va' vb vb' : Value} {ma ma' mb mb' : Option Nat} {LA LB LA' LB' : List IT} {UA UB UA' UB' : List ST}
theorem Duo.below {B : Nat} (h : Duo B w la va ta ma LA UA lb vb tb mb LB UB) (hb : Below w.heap.size w w') : Duo B w' la va ta ma LA UA lb vb tb mb LB UB := ⟨h.a.below hb, h.b.below hb, h.ap⟩
theorem Duo.left (h : Duo w0.heap.size w la va ta ma LA UA lb vb tb mb LB UB) (hb : Below w0.heap.size w0 w) (h2 : LogAt w' la va' ta ma' LA' UA') (hw : Lw la ta ma va w w' ma' va') : Duo w0.heap.size w' la va' ta ma' LA' UA' lb vb tb mb LB UB ∧ Below w0.heap.size w0 w' := by
  obtain ⟨q1, q2⟩ := h.a.step hb h2 hw
  obtain ⟨q3, q4⟩ := h.b.at_.keep hw h.a.at_ h.ap
  exact ⟨⟨q1, ⟨q3, h.b.nl, h.b.nt, h.b.nm, h.b.nv⟩, q4⟩, q2⟩
theorem Duo.right (h : Duo w0.heap.size w la va ta ma LA UA lb vb tb mb LB UB) (hb : Below w0.heap.size w0 w) (h2 : LogAt w' lb vb' tb mb' LB' UB') (hw : Lw lb tb mb vb w w' mb' vb') : Duo w0.heap.size w' la va ta ma LA UA lb vb' tb mb' LB' UB' ∧ Below w0.heap.size w0 w' := by
  obtain ⟨q1, q2⟩ := h.b.step hb h2 hw
  obtain ⟨q3, q4⟩ := h.a.at_.keep hw h.b.at_ h.ap.symm
  exact ⟨⟨⟨q3, h.a.nl, h.a.nt, h.a.nm, h.a.nv⟩, q1, q4.symm⟩, q2⟩
end
end

section
set_option linter.unusedVariables false
set_option linter.unusedSimpArgs false
set_option synthInstance.maxSize 20000
set_option maxHeartbeats 2000000
set_option maxRecDepth 20000
open Go.RowKit Go.Maps

def okO (q : OpT) : Bool := decide (q.s.size ≤ 40 ∧ q.vn ≤ 500)
def lightB (l : List OpT) (n : Int) : Bool := decide ((l.length : Int) ≤ n) && l.all okO
theorem all_take_more {l : List OpT} {i : Nat} {x : OpT} (hx : l[i]? = some x) : (l.take (i + 1)).all okO = ((l.take i).all okO && okO x) := by
  obtain ⟨hi, rfl⟩ := List.getElem?_eq_some_iff.1 hx
  rw [List.take_succ_eq_append_getElem hi, List.all_append]
  simp
theorem light8 {w : World} {v : Value} {l : List OpT} {n : Int} (h : RowF oc w v l) (hl : l.length ≤ 9223372036854775807) : Calls Try.prog 6 #[v, .int .i64 n] w fun e w' => e = .returned (.bool (lightB l n)) ∧ w' = w := by
  obtain ⟨a, cap, rfl⟩ := h.len
  have HR : Hid (RowF oc w (.slice a l.length cap) l) := h
  have hc := h.caps
  have HQ : Hid (lightB l n = (decide ((l.length : Int) ≤ n) && l.all okO)) := (rfl : lightB l n = _)
  clear h
  obtain ⟨N, hN⟩ : ∃ N, N = l.length := ⟨_, rfl⟩
  have HN : Hid (N = l.length) := hN
  rw [← hN] at hc hl ⊢
  obtain ⟨hc1, hc2, hc3⟩ := hc
  clear hc1
  by_cases h1 : n < (N : Int)
  · have HF : Hid (lightB l n = false) := by
      show _ = _
      rw [HQ.out, decide_eq_false (by rw [← HN.out]; omega)]; rfl
    clear hN
    go_enter Try.func6, Try.ntmps6
    go_wp2
    go_ret
    exact ⟨by rw [HF.out]; rfl, rfl⟩
  · have h1' : (N : Int) ≤ n := by omega
    have HF : Hid (lightB l n = l.all okO) := by
      show _ = _
      rw [HQ.out, decide_eq_true (by rw [← HN.out]; omega)]; simp
    clear hN HQ
    go_enter Try.func6, Try.ntmps6
    go_wp2
    go_loopw [5] (fun vi wr => ∃ i : Nat, vi = .int .i64 (i : Int) ∧ i ≤ N ∧ Hid ((l.take i).all okO = true) ∧ Hid (wr = w)) (fun vi _ => N - (intOf vi).toNat)
    case atStart => exact ⟨0, rfl, Nat.zero_le _, rfl, rfl⟩
    case round =>
      obtain ⟨i, rfl, hi, HA, HW⟩ := hrel
      have hw := HW.out
      subst hw
      rename World => wq
      by_cases hlt : i < N
      · have hlt' : (i : Int) < (N : Int) := by omega
        obtain ⟨x, hx⟩ : ∃ x, l[i]? = some x := ⟨_, List.getElem?_eq_getElem (by rw [← HN.out]; exact hlt)⟩
        obtain ⟨b, off, rfl, hcell⟩ := RowF.at oc_len HR.out hx
        have HM := all_take_more hx
        have e8 := hcell 8 _ rfl
        have e9 := hcell 9 _ rfl
        have HX : Hid (okO x = decide (x.s.size ≤ 40 ∧ x.vn ≤ 500)) := (rfl : okO x = _)
        by_cases h8 : 40 < x.s.size
        · have h8' : (40 : Int) < (x.s.size : Int) := by omega
          have HF2 : Hid (lightB l n = false) := by
            show _ = _
            rw [HF.out]
            cases hA : l.all okO
            · rfl
            · have := List.all_eq_true.1 hA x (List.mem_of_getElem? hx)
              rw [HX.out] at this
              have := of_decide_eq_true this
              omega
          clear HM hx hcell
          go_wp2
          go_ret
          exact ⟨by rw [HF2.out]; rfl, rfl⟩
        · have h8' : ¬ (40 : Int) < (x.s.size : Int) := by omega
          by_cases h9 : 500 < x.vn
          · have h9' : (500 : Int) < (x.vn : Int) := by omega
            have HF2 : Hid (lightB l n = false) := by
              show _ = _
              rw [HF.out]
              cases hA : l.all okO
              · rfl
              · have := List.all_eq_true.1 hA x (List.mem_of_getElem? hx)
                rw [HX.out] at this
                have := of_decide_eq_true this
                omega
            clear HM hx hcell
            go_wp2
            go_ret
            exact ⟨by rw [HF2.out]; rfl, rfl⟩
          · have h9' : ¬ (500 : Int) < (x.vn : Int) := by omega
            have HA2 : Hid ((l.take (i + 1)).all okO = true) := by
              show _ = _
              rw [HM, HA.out, HX.out, decide_eq_true (by omega)]; rfl
            clear HM hx hcell
            go_wp2
            go_roundw
            case rel => exact ⟨i + 1, by go_num, by omega, HA2, by first | rfl | trivial⟩
            case measure => simp [intOf] <;> omega
      · obtain rfl : i = N := by omega
        have hlt' : ¬ (i : Int) < (i : Int) := by omega
        have HF2 : Hid (lightB l n = true) := by
          show _ = _
          rw [HF.out]
          have := HA.out
          rw [HN.out, List.take_length] at this
          exact this
        go_wp2
        go_ret
        exact ⟨by rw [HF2.out]; rfl, rfl⟩
end

section
section
section
open Go.ChangeShapes Go.WideShapes Go.ChangeAt Go.RowKit
set_option linter.unusedVariables false
set_option maxRecDepth 100000 in
theorem stamp_of {H : Type} {enc : TypeId × Value → H} {w : World} {r : Reach} {b0 base : Nat} {held : Bool} {v : Value} {d : DataW H} {p : List MemPlace}
    (hv : Value.okWide Try.prog w r b0 33 v) (h : DataW.Trod enc Try.prog w base (fun _ => true) held 33 v d p) : ∃ s, SOk s ∧ v = sv s := by
  obtain ⟨v0, v1, y0, y1, n, rfl, _, _, h0, h1⟩ := Joins.open_agg2 Try.underlying33 (by kernel_rfl) (by kernel_rfl) hv h
  obtain ⟨n0, e0, _, w0⟩ := DataW.trod_int Try.underlying2 h0
  obtain ⟨n1, e1, _, w1⟩ := DataW.trod_int Try.underlying3 h1
  simp at e0 e1
  subst e0 e1
  exact ⟨(n0, n1), ⟨wf_i64 w0, wf_i64 w1⟩, rfl⟩
set_option maxRecDepth 100000 in
theorem bytes_of {H : Type} {enc : TypeId × Value → H} {w : World} {r : Reach} {b0 base : Nat} {held : Bool} {v : Value} {d : DataW H} {p : List MemPlace}
    (hv : Value.okWide Try.prog w r b0 34 v) (h : DataW.Trod enc Try.prog w base (fun _ => true) held 34 v d p) : ∃ l, Rd w v l := by
  obtain ⟨a0, len0, cap0, rfl⟩ := okWide_slice Try.underlying34 hv
  obtain ⟨fuel, hf⟩ := h
  rcases open_ints Try.underlying34 Try.underlying5 (by kernel_rfl) hf with ⟨hcs, _⟩ | ⟨x, l, c, zs, hcs, _, hl, hm, hz, _, hcell, hwz⟩
  · simp [Value.cells] at hcs
    obtain ⟨rfl, rfl, rfl⟩ := hcs
    exact ⟨[], rd_nil w⟩
  · simp [Value.cells] at hcs
    obtain ⟨rfl, rfl, rfl⟩ := hcs
    exact ⟨_, rd_of_row (.inr ⟨_, rfl, hl, hm, by simpa using hz, hcell, hwz⟩)⟩
end
end
end

section
set_option linter.unusedVariables false
set_option linter.unusedSimpArgs false
set_option synthInstance.maxSize 20000
set_option maxHeartbeats 2000000
set_option maxRecDepth 20000
open Go.RowKit Go.Maps

open Go.ChangeShapes Go.WideShapes Go.ChangeAt
theorem list7 {α : Type} {xs : List α} (h : xs.length = 7) : ∃ c0 c1 c2 c3 c4 c5 c6, xs = [c0, c1, c2, c3, c4, c5, c6] := by
  match xs, h with
  | [c0, c1, c2, c3, c4, c5, c6], _ => exact ⟨c0, c1, c2, c3, c4, c5, c6, rfl⟩
theorem list10 {α : Type} {xs : List α} (h : xs.length = 10) : ∃ c0 c1 c2 c3 c4 c5 c6 c7 c8 c9, xs = [c0, c1, c2, c3, c4, c5, c6, c7, c8, c9] := by
  match xs, h with
  | [c0, c1, c2, c3, c4, c5, c6, c7, c8, c9], _ => exact ⟨c0, c1, c2, c3, c4, c5, c6, c7, c8, c9, rfl⟩
structure QIn (w : World) (q : OpT) : Prop where
  k : I64 q.k
  a : SOk q.a
  n : SOk q.n
  p : SOk q.p
  rd : Rd w q.v q.b
section
variable {H : Type} {enc : TypeId × Value → H} {w : World} {base : Nat} {held : Bool}
set_option maxRecDepth 100000 in
theorem stamp_cells {fuel : Nat} {c0 c1 : Value} {y : DataW H × List MemPlace} (h : DataW.trod enc Try.prog w base (fun _ => true) held fuel 33 [c0, c1] = some y) : ∃ s, [c0, c1] = sc s ∧ SOk s := by
  obtain ⟨z0, z1, m, _, _, s0, s1⟩ := trod_struct2 Try.underlying33 h
  have s0' : DataW.trod enc Try.prog w base (fun _ => true) held m 2 [c0] = some z0 := s0
  have s1' : DataW.trod enc Try.prog w base (fun _ => true) held m 3 [c1] = some z1 := s1
  obtain ⟨n3, e3, _, w3⟩ := DataW.trod_int Try.underlying2 s0'
  obtain ⟨n4, e4, _, w4⟩ := DataW.trod_int Try.underlying3 s1'
  simp at e3 e4
  subst e3 e4
  exact ⟨(n3, n4), rfl, ⟨wf_i64 w3, wf_i64 w4⟩⟩
set_option maxRecDepth 100000 in
theorem op_cells {fuel : Nat} {cs : List Value} {y : DataW H × List MemPlace} (hl : cs.length = 10) (hf : DataW.trod enc Try.prog w base (fun _ => true) held fuel 36 cs = some y) : ∃ q, cs = oc q ∧ QIn w q := by
  obtain ⟨c0, c1, c2, c3, c4, c5, c6, c7, c8, c9, rfl⟩ := list10 hl
  obtain ⟨xs, n, _, hx, _, hlen, hg⟩ := DataW.trod_struct Try.underlying36 hf
  obtain ⟨y0, y1, y2, y3, y4, y5, y6, rfl⟩ := list7 (hlen.trans (by rfl))
  have g0 : DataW.trod enc Try.prog w base (fun _ => true) held n 3 [c0] = some y0 := hg 0 _ rfl
  have g1 : DataW.trod enc Try.prog w base (fun _ => true) held n 33 [c1, c2] = some y1 := hg 1 _ rfl
  have g2 : DataW.trod enc Try.prog w base (fun _ => true) held n 33 [c3, c4] = some y2 := hg 2 _ rfl
  have g3 : DataW.trod enc Try.prog w base (fun _ => true) held n 33 [c5, c6] = some y3 := hg 3 _ rfl
  have g4 : DataW.trod enc Try.prog w base (fun _ => true) held n 4 [c7] = some y4 := hg 4 _ rfl
  have g5 : DataW.trod enc Try.prog w base (fun _ => true) held n 9 [c8] = some y5 := hg 5 _ rfl
  have g6 : DataW.trod enc Try.prog w base (fun _ => true) held n 34 [c9] = some y6 := hg 6 _ rfl
  obtain ⟨n0, e0, _, w0⟩ := DataW.trod_int Try.underlying3 g0
  obtain ⟨s1, e1, o1⟩ := stamp_cells g1
  obtain ⟨s2, e2, o2⟩ := stamp_cells g2
  obtain ⟨s3, e3, o3⟩ := stamp_cells g3
  obtain ⟨d, e4, _⟩ := DataW.trod_bool Try.underlying4 g4
  obtain ⟨s, e5, _, _⟩ := DataW.trod_string Try.underlying9 g5
  have hb : ∃ a vn vc l, c9 = .slice a vn vc ∧ Rd w (.slice a vn vc) l := by
    rcases open_ints Try.underlying34 Try.underlying5 (by kernel_rfl) g6 with ⟨hcs, _⟩ | ⟨x, l, c, zs, hcs, _, hl2, hm, hz, _, hcell, hwz⟩
    · simp at hcs
      subst hcs
      exact ⟨none, 0, 0, [], rfl, rd_nil w⟩
    · simp at hcs
      subst hcs
      exact ⟨_, _, _, _, rfl, rd_of_row (.inr ⟨_, rfl, hl2, hm, by simpa using hz, hcell, hwz⟩)⟩
  obtain ⟨a, vn, vc, l, rfl, hr⟩ := hb
  simp at e0 e4 e5
  simp only [sc, List.cons.injEq, and_true] at e1 e2 e3
  obtain ⟨rfl, rfl⟩ := e1
  obtain ⟨rfl, rfl⟩ := e2
  obtain ⟨rfl, rfl⟩ := e3
  subst e0 e4 e5
  exact ⟨⟨n0, s1, s2, s3, d, s, a, vn, vc, l⟩, rfl, ⟨wf_i64 w0, o1, o2, o3, hr⟩⟩
end
set_option maxRecDepth 100000 in
theorem op_of {H : Type} {enc : TypeId × Value → H} {w : World} {r : Reach} {b0 base : Nat} {held : Bool} {v : Value} {d : DataW H} {p : List MemPlace}
    (hv : Value.okWide Try.prog w r b0 36 v) (h : DataW.Trod enc Try.prog w base (fun _ => true) held 36 v d p) : ∃ q, v = ov q ∧ QIn w q := by
  obtain ⟨cs, rfl, hsz⟩ := okWide_struct Try.underlying36 hv
  obtain ⟨fuel, hf⟩ := h
  have hf : DataW.trod enc Try.prog w base (fun _ => true) held fuel 36 cs.toList = some (d, p) := hf
  obtain ⟨q, hq, hi⟩ := op_cells (by have := hsz.trans (by kernel_rfl : Try.prog.cellsOf 36 = 10); simpa using this) hf
  refine ⟨q, ?_, hi⟩
  unfold ov
  rw [← hq]
set_option maxRecDepth 100000 in
theorem opl_of {H : Type} {enc : TypeId × Value → H} {w : World} {r : Reach} {b0 base : Nat} {held : Bool} {v : Value} {d : DataW H} {p : List MemPlace}
    (hv : Value.okWide Try.prog w r b0 22 v) (h : DataW.Trod enc Try.prog w base (fun _ => true) held 22 v d p) : ∃ l, RowF oc w v l ∧ ∀ q ∈ l, QIn w q := by
  obtain ⟨a0, len0, cap0, rfl⟩ := okWide_slice Try.underlying22 hv
  obtain ⟨fuel, hf⟩ := h
  have : Inhabited OpT := ⟨oz⟩
  exact rows_of (f := oc) oc_len (by omega) Try.underlying22 (by kernel_rfl) (QIn w) (fun n cs y hl hy => op_cells hl hy) hf
end
end Go.Proofs.Ythnjbjlhfohpfaa
