/-
  The reference's Build.
  ArgB: grafted.
  Operations that came in.
-/
import Derived.Test.YthnjbjlhfohpfaaGreatRfD
import Derived.Test.YthnjbjlhfohpfaaGreatTsG
import Derived.Test.YthnjbjlhfohpfaaGreatTsF
import Derived.Test.YthnjbjlhfohpfaaGreatPut
import Derived.Test.YthnjbjlhfohpfaaGreatRef
import Derived.Test.YthnjbjlhfohpfaaGreatTurn
import Derived.Deep.SlicePairs
import Derived.Lib.SmallJoins
import Derived.ProofKit
import Derived.OpenShut
import Derived.Test.YthnjbjlhfohpfaaGreatLsG
import Derived.Test.YthnjbjlhfohpfaaGreatRowG
namespace Go.Proofs.YthnjbjlhfohpfaaGreat
section
set_option linter.unusedVariables false
set_option linter.unusedSimpArgs false
set_option synthInstance.maxSize 20000
set_option maxHeartbeats 2000000
set_option maxRecDepth 20000
open Go.RowKit Go.Maps

theorem FirstOf.len {O l : List OpT} (h : FirstOf O l) : O.length ≤ l.length := nodup_le (h.str.imp fun {x y} hxy e => by subst e; exact ltP_irrefl _ hxy) fun x hx => h.mem hx
/-- A row of operations does not lie in a block of one slice. -/
theorem rowO_past {w w' : World} {rb : Nat} {v : Value} {l : List OpT} {a : Option Addr} {n c : Nat} (hr : RowF oc w v l) (hi : Blk w rb 54 [.slice a n c]) (hg : w.grownBy w' (some rb)) : RowF oc w' v l := by
  have hr0 := hr
  obtain ⟨a', cap, rfl, h1, h2, h3, h4⟩ := hr0
  cases l with
  | nil => exact ⟨a', cap, rfl, h1, h2, h3, fun h => by simp at h⟩
  | cons x l =>
    refine hr.blocks fun j hj hlt => ?_
    obtain ⟨b, off, rfl, hc⟩ := h4 (by simp)
    have e1 : b = j := by simpa [Value.ownBlock] using hj
    subst e1
    refine hg.block _ hlt fun e => ?_
    have e2 := Option.some.inj e
    subst e2
    have := hc 0 (.int .i64 x.k) (by simp [flat, oc])
    have hb : w.heap[b]? = some (.cells #[.slice a n c] 54 (0, 0)) := hi
    simp [World.cell?, hb] at this
    have hm := List.mem_of_getElem? this
    simp at hm
def RBuildAns (w : World) (l : List OpT) (e : Ending) (w' : World) : Prop := ∃ rb v L O, e = .returned (ptr rb) ∧ RTr w' rb v L ∧ FirstOf O l ∧ L.map IT.m = buildM [] O ∧ w.heap.size ≤ rb ∧ Below w.heap.size w w'
set_option maxHeartbeats 8000000 in
theorem build28 {w : World} {v : Value} {l : List OpT} (hv : RowF oc w v l) (hl : l.length ≤ 60) (hq : ∀ q ∈ l, Rd w q.v q.b) : Calls Tryz.prog 17 #[v] w (RBuildAns w l) := by
  obtain ⟨w1, hw1⟩ : ∃ w1, w1 = w.alloc (.cells #[.slice none 0 0] 54) := ⟨_, rfl⟩
  obtain ⟨rb, hrb⟩ : ∃ rb, rb = w.heap.size := ⟨_, rfl⟩
  have HB1 : Hid (Below w.heap.size w w1) := by show Below _ _ _; rw [hw1]; exact balloc (Below.refl _ _) _
  have HR1 : Hid (RTr w1 rb (.slice none 0 0) []) := ⟨by rw [hw1, hrb]; exact blk_new w [.slice none 0 0] 54, (ownT_nil 0 w1).row, fun x hx => by cases hx⟩
  have HRB : Hid (w.heap.size ≤ rb) := by show _ ≤ _; omega
  have HSo : Hid (Calls Tryz.prog 26 #[v] w1 fun e w' => ∃ v' O, e = .returned v' ∧ FirstOf O l ∧ RowF oc w' v' O ∧ Below w1.heap.size w1 w') := rsort22 (hv.below HB1.out) (by omega)
  have HQ : Hid (∀ q ∈ l, Rd w q.v q.b) := hq
  have HL : Hid (l.length ≤ 60) := hl
  clear hv hl hq
  go_enter Tryz.func17, Tryz.ntmps17
  go_upto_region 2 with fail
  rw [← hw1, ← hrb]
  clear hw1 hrb
  go_wp2_with (go_at_call 26; go_must (refine HSo.out.mono ?_; rintro e w2 ⟨v', O, rfl, hF, hrow, hb2⟩; have HF : Hid (FirstOf O l) := hF; have HRow2 : Hid (RowF oc w2 v' O) := hrow; have HB2 : Hid (Below w1.heap.size w1 w2) := hb2; clear hb2 hF hrow; obtain ⟨a', c', rfl⟩ := HRow2.out.len; have hcap := HRow2.out.caps))
  have hO60 : O.length ≤ 60 := by have := HF.out.len; have := HL.out; omega
  obtain ⟨N, hN⟩ : ∃ N, N = O.length := ⟨_, rfl⟩
  have HN : Hid (N = O.length) := hN
  rw [← hN] at hcap hO60 HRow2 ⊢
  have HN60 : Hid (N ≤ 60) := hO60
  clear hN HSo
  go_loopw [5] (fun i wr => ∃ (k : Nat) (v2 : Value) (L : List IT), i = .int .i64 (k : Int) ∧ k ≤ N ∧ Hid (RTr wr rb v2 L) ∧ Hid (L.map IT.m = buildM [] (O.take k)) ∧ Hid (RowF oc wr (.slice a' N c') O) ∧ Hid (∀ q ∈ O, Rd wr q.v q.b) ∧ Hid (Below w.heap.size w wr)) (fun i _ => N - (intOf i).toNat)
  case atStart => exact ⟨0, _, [], rfl, Nat.zero_le _, HR1.out.below HB2.out, rfl, HRow2, fun q hq => (HQ.out q (HF.out.mem hq)).below (bnext HB1.out HB2.out), bnext HB1.out HB2.out⟩
  case round =>
    obtain ⟨k, v2, L, rfl, hk, HR, HM, HRow, HRd, HB⟩ := hrel
    clear HR1 HRow2
    rename World => wr
    by_cases hlt : k < N
    · have hkI : (k : Int) < (N : Int) := by omega
      obtain ⟨q, hq⟩ : ∃ q, O[k]? = some q := ⟨_, List.getElem?_eq_getElem (by have := HN.out; omega)⟩
      have HTA : Hid (O.take (k + 1) = O.take k ++ [q]) := take_more' hq
      have HMem : Hid (q ∈ O) := List.mem_of_getElem? hq
      obtain ⟨b1, o1, rfl, hc⟩ := HRow.out.at oc_len hq
      have HC : Hid (wr.rangeAt b1 (o1 + k * 10) (oc q)) := hc
      obtain ⟨a2, c2, rfl⟩ := HR.out.row.len
      have hbl := buildM_len (O.take k) []
      have h1 := congrArg List.length HM.out
      rw [List.length_map] at h1
      rw [List.length_take, List.length_nil] at hbl
      have hgd : Gd (L.map IT.m) := by
        rw [HM.out]
        refine Gd.build gd_nil ?_
        rw [List.length_take, List.length_nil]
        omega
      have HDo : Hid (Calls Tryz.prog 33 #[ptr rb, ov q] wr fun e w' => ∃ x b k, e = .returned (.tuple #[iv x, .bool b, .int .i64 k]) ∧ RDo wr rb L q x b k w') := do12 HR.out (by omega) hgd.srt q (HRd.out q HMem.out)
      clear hq hc hbl h1 hgd
      have tk2 : Hid True := trivial
      go_wp2_with (first
        | (clear tk2; refine wpList_okw rfl (exec_load40 (q := q) (.tmp 19) rfl rfl HC.out) ?_)
        | (go_at_call 33; go_must (refine HDo.out.mono ?_; rintro e w5 ⟨x, b, kk, rfl, hans⟩; have HA : Hid (RDo wr rb L q x b kk w5) := hans; clear hans)))
      obtain ⟨v', L', hr5, hm5, hg5⟩ := HA.out.tree
      have hb5 := bgrown HB.out HRB.out hg5
      go_roundw
      case rel => exact ⟨k + 1, v', L', by go_num, by omega, hr5, by show _ = _; rw [hm5, HTA.out, build_snoc, HM.out], rowO_past HRow.out HR.out.blk hg5, fun q hq => rd_past (HRd.out q hq) HR.out.blk (fun n => by simp) hg5, hb5⟩
      case measure => simp [intOf]; omega
    · have hkI : ¬ (k : Int) < (N : Int) := by omega
      have HTk : Hid (O.take k = O) := List.take_of_length_le (by have := HN.out; omega)
      go_wp2
      go_ret
      exact ⟨rb, v2, L, O, rfl, HR.out, HF.out, by rw [HM.out, HTk.out], HRB.out, HB.out⟩
end

section
section
section
open Go.ChangeShapes Go.WideShapes Go.ChangeAt Go.RowKit
set_option linter.unusedVariables false
set_option maxRecDepth 100000 in
theorem stamp_of {H : Type} {enc : TypeId × Value → H} {w : World} {r : Reach} {b0 base : Nat} {held : Bool} {v : Value} {d : DataW H} {p : List MemPlace}
    (hv : Value.okWide Tryz.prog w r b0 35 v) (h : DataW.Trod enc Tryz.prog w base (fun _ => true) held 35 v d p) : ∃ s, SOk s ∧ v = sv s := by
  obtain ⟨v0, v1, y0, y1, n, rfl, _, _, h0, h1⟩ := Joins.open_agg2 Tryz.underlying35 (by kernel_rfl) (by kernel_rfl) hv h
  obtain ⟨n0, e0, _, w0⟩ := DataW.trod_int Tryz.underlying2 h0
  obtain ⟨n1, e1, _, w1⟩ := DataW.trod_int Tryz.underlying3 h1
  simp at e0 e1
  subst e0 e1
  exact ⟨(n0, n1), ⟨wf_i64 w0, wf_i64 w1⟩, rfl⟩
set_option maxRecDepth 100000 in
theorem bytes_of {H : Type} {enc : TypeId × Value → H} {w : World} {r : Reach} {b0 base : Nat} {held : Bool} {v : Value} {d : DataW H} {p : List MemPlace}
    (hv : Value.okWide Tryz.prog w r b0 36 v) (h : DataW.Trod enc Tryz.prog w base (fun _ => true) held 36 v d p) : ∃ l, Rd w v l := by
  obtain ⟨a0, len0, cap0, rfl⟩ := okWide_slice Tryz.underlying36 hv
  obtain ⟨fuel, hf⟩ := h
  rcases open_ints Tryz.underlying36 Tryz.underlying5 (by kernel_rfl) hf with ⟨hcs, _⟩ | ⟨x, l, c, zs, hcs, _, hl, hm, hz, _, hcell, hwz⟩
  · simp [Value.cells] at hcs
    obtain ⟨rfl, rfl, rfl⟩ := hcs
    exact ⟨[], rd_nil w⟩
  · simp [Value.cells] at hcs
    obtain ⟨rfl, rfl, rfl⟩ := hcs
    exact ⟨_, rd_of_row (.inr ⟨_, rfl, hl, hm, by simpa using hz, hcell, hwz⟩)⟩
end
end
end

section
set_option linter.unusedVariables false
set_option linter.unusedSimpArgs false
set_option synthInstance.maxSize 20000
set_option maxHeartbeats 2000000
set_option maxRecDepth 20000
open Go.RowKit Go.Maps

open Go.ChangeShapes Go.WideShapes Go.ChangeAt
theorem list7 {α : Type} {xs : List α} (h : xs.length = 7) : ∃ c0 c1 c2 c3 c4 c5 c6, xs = [c0, c1, c2, c3, c4, c5, c6] := by
  match xs, h with
  | [c0, c1, c2, c3, c4, c5, c6], _ => exact ⟨c0, c1, c2, c3, c4, c5, c6, rfl⟩
theorem list10 {α : Type} {xs : List α} (h : xs.length = 10) : ∃ c0 c1 c2 c3 c4 c5 c6 c7 c8 c9, xs = [c0, c1, c2, c3, c4, c5, c6, c7, c8, c9] := by
  match xs, h with
  | [c0, c1, c2, c3, c4, c5, c6, c7, c8, c9], _ => exact ⟨c0, c1, c2, c3, c4, c5, c6, c7, c8, c9, rfl⟩
structure QIn (w : World) (q : OpT) : Prop where
  k : I64 q.k
  a : SOk q.a
  n : SOk q.n
  p : SOk q.p
  rd : Rd w q.v q.b
section
variable {H : Type} {enc : TypeId × Value → H} {w : World} {base : Nat} {held : Bool}
set_option maxRecDepth 100000 in
theorem stamp_cells {fuel : Nat} {c0 c1 : Value} {y : DataW H × List MemPlace} (h : DataW.trod enc Tryz.prog w base (fun _ => true) held fuel 35 [c0, c1] = some y) : ∃ s, [c0, c1] = sc s ∧ SOk s := by
  obtain ⟨z0, z1, m, _, _, s0, s1⟩ := trod_struct2 Tryz.underlying35 h
  have s0' : DataW.trod enc Tryz.prog w base (fun _ => true) held m 2 [c0] = some z0 := s0
  have s1' : DataW.trod enc Tryz.prog w base (fun _ => true) held m 3 [c1] = some z1 := s1
  obtain ⟨n3, e3, _, w3⟩ := DataW.trod_int Tryz.underlying2 s0'
  obtain ⟨n4, e4, _, w4⟩ := DataW.trod_int Tryz.underlying3 s1'
  simp at e3 e4
  subst e3 e4
  exact ⟨(n3, n4), rfl, ⟨wf_i64 w3, wf_i64 w4⟩⟩
set_option maxRecDepth 100000 in
theorem op_cells {fuel : Nat} {cs : List Value} {y : DataW H × List MemPlace} (hl : cs.length = 10) (hf : DataW.trod enc Tryz.prog w base (fun _ => true) held fuel 38 cs = some y) : ∃ q, cs = oc q ∧ QIn w q := by
  obtain ⟨c0, c1, c2, c3, c4, c5, c6, c7, c8, c9, rfl⟩ := list10 hl
  obtain ⟨xs, n, _, hx, _, hlen, hg⟩ := DataW.trod_struct Tryz.underlying38 hf
  obtain ⟨y0, y1, y2, y3, y4, y5, y6, rfl⟩ := list7 (hlen.trans (by rfl))
  have g0 : DataW.trod enc Tryz.prog w base (fun _ => true) held n 3 [c0] = some y0 := hg 0 _ rfl
  have g1 : DataW.trod enc Tryz.prog w base (fun _ => true) held n 35 [c1, c2] = some y1 := hg 1 _ rfl
  have g2 : DataW.trod enc Tryz.prog w base (fun _ => true) held n 35 [c3, c4] = some y2 := hg 2 _ rfl
  have g3 : DataW.trod enc Tryz.prog w base (fun _ => true) held n 35 [c5, c6] = some y3 := hg 3 _ rfl
  have g4 : DataW.trod enc Tryz.prog w base (fun _ => true) held n 4 [c7] = some y4 := hg 4 _ rfl
  have g5 : DataW.trod enc Tryz.prog w base (fun _ => true) held n 9 [c8] = some y5 := hg 5 _ rfl
  have g6 : DataW.trod enc Tryz.prog w base (fun _ => true) held n 36 [c9] = some y6 := hg 6 _ rfl
  obtain ⟨n0, e0, _, w0⟩ := DataW.trod_int Tryz.underlying3 g0
  obtain ⟨s1, e1, o1⟩ := stamp_cells g1
  obtain ⟨s2, e2, o2⟩ := stamp_cells g2
  obtain ⟨s3, e3, o3⟩ := stamp_cells g3
  obtain ⟨d, e4, _⟩ := DataW.trod_bool Tryz.underlying4 g4
  obtain ⟨s, e5, _, _⟩ := DataW.trod_string Tryz.underlying9 g5
  have hb : ∃ a vn vc l, c9 = .slice a vn vc ∧ Rd w (.slice a vn vc) l := by
    rcases open_ints Tryz.underlying36 Tryz.underlying5 (by kernel_rfl) g6 with ⟨hcs, _⟩ | ⟨x, l, c, zs, hcs, _, hl2, hm, hz, _, hcell, hwz⟩
    · simp at hcs
      subst hcs
      exact ⟨none, 0, 0, [], rfl, rd_nil w⟩
    · simp at hcs
      subst hcs
      exact ⟨_, _, _, _, rfl, rd_of_row (.inr ⟨_, rfl, hl2, hm, by simpa using hz, hcell, hwz⟩)⟩
  obtain ⟨a, vn, vc, l, rfl, hr⟩ := hb
  simp at e0 e4 e5
  simp only [sc, List.cons.injEq, and_true] at e1 e2 e3
  obtain ⟨rfl, rfl⟩ := e1
  obtain ⟨rfl, rfl⟩ := e2
  obtain ⟨rfl, rfl⟩ := e3
  subst e0 e4 e5
  exact ⟨⟨n0, s1, s2, s3, d, s, a, vn, vc, l⟩, rfl, ⟨wf_i64 w0, o1, o2, o3, hr⟩⟩
end
set_option maxRecDepth 100000 in
theorem op_of {H : Type} {enc : TypeId × Value → H} {w : World} {r : Reach} {b0 base : Nat} {held : Bool} {v : Value} {d : DataW H} {p : List MemPlace}
    (hv : Value.okWide Tryz.prog w r b0 38 v) (h : DataW.Trod enc Tryz.prog w base (fun _ => true) held 38 v d p) : ∃ q, v = ov q ∧ QIn w q := by
  obtain ⟨cs, rfl, hsz⟩ := okWide_struct Tryz.underlying38 hv
  obtain ⟨fuel, hf⟩ := h
  have hf : DataW.trod enc Tryz.prog w base (fun _ => true) held fuel 38 cs.toList = some (d, p) := hf
  obtain ⟨q, hq, hi⟩ := op_cells (by have := hsz.trans (by kernel_rfl : Tryz.prog.cellsOf 38 = 10); simpa using this) hf
  refine ⟨q, ?_, hi⟩
  unfold ov
  rw [← hq]
set_option maxRecDepth 100000 in
theorem opl_of {H : Type} {enc : TypeId × Value → H} {w : World} {r : Reach} {b0 base : Nat} {held : Bool} {v : Value} {d : DataW H} {p : List MemPlace}
    (hv : Value.okWide Tryz.prog w r b0 28 v) (h : DataW.Trod enc Tryz.prog w base (fun _ => true) held 28 v d p) : ∃ l, RowF oc w v l ∧ ∀ q ∈ l, QIn w q := by
  obtain ⟨a0, len0, cap0, rfl⟩ := okWide_slice Tryz.underlying28 hv
  obtain ⟨fuel, hf⟩ := h
  have : Inhabited OpT := ⟨oz⟩
  exact rows_of (f := oc) oc_len (by omega) Tryz.underlying28 (by kernel_rfl) (QIn w) (fun n cs y hl hy => op_cells hl hy) hf
end
end Go.Proofs.YthnjbjlhfohpfaaGreat
