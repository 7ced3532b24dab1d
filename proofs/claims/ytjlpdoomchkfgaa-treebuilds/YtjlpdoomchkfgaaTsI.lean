/-
  What must come at any rate: the chapter's example.
-/
import Derived.Test.YtjlpdoomchkfgaaTsG
import Derived.Test.YtjlpdoomchkfgaaTsF
namespace Go.Proofs.Ytjlpdoomchkfgaa
set_option linter.unusedVariables false
set_option linter.unusedSimpArgs false
set_option synthInstance.maxSize 20000
set_option maxHeartbeats 2000000
set_option maxRecDepth 20000
open Go.RowKit Go.Maps

theorem exec_alloc24 {o : Oper} {r : Operand → Value} {w : World} (ho : o.op = .alloc 24) : (execOp r o).run Try.prog w = .ok (.value (ptr w.heap.size)) (w.alloc (.cells (sc (0, 0)).toArray 24)) := by
  unfold execOp
  simp only [ho]
  go_simp
  rfl
section
variable {o : Oper} {r : Operand → Value} {w : World}
theorem exec_mk40 {k : Int} {a n : S} {d : Bool} {s : ByteArray} (x0 x1 x2 x4 x5 : Operand) (ho : o.op = .build 40 #[(0, x0), (1, x1), (2, x2), (4, x4), (5, x5)]) (h0 : r x0 = .int .i64 k) (h1 : r x1 = sv a) (h2 : r x2 = sv n) (h4 : r x4 = .bool d) (h5 : r x5 = .string s) : (execOp r o).run Try.prog w = .ok (.value (ov ⟨k, a, n, (0, 0), d, s, none, 0, 0, []⟩)) w := by
  obtain ⟨a1, a2⟩ := a
  obtain ⟨n1, n2⟩ := n
  unfold sv at h1 h2
  unfold ov oc
  dsimp only at *
  unfold execOp
  simp only [ho]
  go_simp
theorem exec_mv40 {k : Int} {a n p : S} {s : ByteArray} (x0 x1 x2 x3 x5 : Operand) (ho : o.op = .build 40 #[(0, x0), (1, x1), (2, x2), (3, x3), (5, x5)]) (h0 : r x0 = .int .i64 k) (h1 : r x1 = sv a) (h2 : r x2 = sv n) (h3 : r x3 = sv p) (h5 : r x5 = .string s) : (execOp r o).run Try.prog w = .ok (.value (ov ⟨k, a, n, p, false, s, none, 0, 0, []⟩)) w := by
  obtain ⟨a1, a2⟩ := a
  obtain ⟨n1, n2⟩ := n
  obtain ⟨p1, p2⟩ := p
  unfold sv at h1 h2 h3
  unfold ov oc
  dsimp only at *
  unfold execOp
  simp only [ho]
  go_simp
end
def qa : OpT := ⟨1, (1, 1), (1, 1), (0, 0), true, ⟨#[97]⟩, none, 0, 0, []⟩
def qb : OpT := ⟨1, (2, 1), (2, 1), (0, 0), true, ⟨#[98]⟩, none, 0, 0, []⟩
def qc : OpT := ⟨2, (3, 1), (1, 1), (2, 1), false, ⟨#[97]⟩, none, 0, 0, []⟩
def qd : OpT := ⟨2, (4, 1), (2, 1), (1, 1), false, ⟨#[98]⟩, none, 0, 0, []⟩
def qm : List IM := [⟨(1, 1), (2, 1), ⟨#[97]⟩, true, false, (0, 0), []⟩, ⟨(2, 1), (0, 0), ⟨#[98]⟩, true, false, (0, 0), []⟩]
theorem qm_eq : buildM [] [qa, qb, qc, qd] = qm := by kernel_rfl
/-- A tree that the law made, some operations done. -/
structure Alv (w0 w : World) (tb B0 B1 : Nat) (l : List OpT) (mo : Option Nat) (L : List IT) : Prop where
  tree : PTr w tb mo L
  m : L.map IT.m = buildM [] l
  a : Blk w B0 24 (sc (1, 1))
  b : Blk w B1 24 (sc (2, 1))
  bel : Below w0.heap.size w0 w ∧ ∀ k, mo = some k → w0.heap.size ≤ k
  new : w0.heap.size ≤ tb
theorem Alv.below {w0 w w' : World} {tb B0 B1 : Nat} {l : List OpT} {mo : Option Nat} {L : List IT} (h : Alv w0 w tb B0 B1 l mo L) (hb : Below w.heap.size w w') : Alv w0 w' tb B0 B1 l mo L := ⟨h.tree.below hb, h.m, h.a.below hb, h.b.below hb, ⟨bnext h.bel.1 hb, h.bel.2⟩, h.new⟩
theorem Alv.do {w0 w : World} {tb B0 B1 : Nat} {l : List OpT} {mo : Option Nat} {L : List IT} (h : Alv w0 w tb B0 B1 l mo L) (hl : l.length ≤ 10) (q : OpT) (hq : q.v = .slice none 0 0) (hb : q.b = []) :
    Calls Try.prog 11 #[ptr tb, ov q] w fun e w' => ∃ v, e = .returned v ∧ ∃ mo' L', Alv w0 w' tb B0 B1 (l ++ [q]) mo' L' := by
  have h1 := buildM_len l []
  have h2 := congrArg List.length h.m
  rw [List.length_map] at h2
  rw [List.length_nil] at h1
  have hr : Rd w q.v q.b := by rw [hq, hb]; exact rd_nil _
  refine (do11 h.tree (by omega) (by rw [h.m]; exact Gd.build gd_nil (by rw [List.length_nil]; omega)) q hr (by rw [hb]; exact Nat.zero_le _)).mono ?_
  rintro e w' ⟨x, b, k, rfl, hans⟩
  obtain ⟨mo', L', hp, hm, ht⟩ := hans.tree
  exact ⟨_, rfl, mo', L', hp, by rw [hm, build_snoc, h.m], ht.st h.tree h.a, ht.st h.tree h.b, ht.below h.bel.1 h.new h.bel.2, h.new⟩
theorem Alv.start {w w1 w2 w3 w4 w5 : World} {B0 B1 tb : Nat} (h1 : w1 = w.alloc (.cells (sc (0, 0)).toArray 24)) (h2 : w2 = w1.alloc (.cells (sc (0, 0)).toArray 24)) (e0 : B0 = w.heap.size) (e1 : B1 = w1.heap.size) (h3 : w3 = w2.setCells B0 0 (sc (1, 1))) (h4 : w4 = w3.setCells B1 0 (sc (2, 1))) (h5 : w5 = w4.alloc (.cells #[.map none] 70)) (ht : tb = w4.heap.size) :
    Alv w w5 tb B0 B1 [] none [] ∧ w2.there B0 0 2 ∧ w3.there B1 0 2 := by
  have a1 : Blk w1 B0 24 (sc (0, 0)) := by rw [h1, e0]; exact blk_new w _ 24
  have a2 : Blk w2 B0 24 (sc (0, 0)) := by rw [h2]; exact a1.alloc _
  have b2 : Blk w2 B1 24 (sc (0, 0)) := by rw [h2, e1]; exact blk_new w1 _ 24
  have hne : B0 ≠ B1 := by have := a1.lt; omega
  have a3 : Blk w3 B0 24 (sc (1, 1)) := by rw [h3]; exact Blk.put2 a2
  have b3 : Blk w3 B1 24 (sc (0, 0)) := by rw [h3]; exact b2.past (grown_setCells _ _ _ _) hne.symm
  have a4 : Blk w4 B0 24 (sc (1, 1)) := by rw [h4]; exact a3.past (grown_setCells _ _ _ _) hne
  have b4 : Blk w4 B1 24 (sc (2, 1)) := by rw [h4]; exact Blk.put2 b3
  have c1 : Below w.heap.size w w1 := by rw [h1]; exact balloc (Below.refl _ _) _
  have c2 : Below w.heap.size w w2 := by rw [h2]; exact balloc c1 _
  have c3 : Below w.heap.size w w3 := by rw [h3]; exact below_put c2 (by omega)
  have c4 : Below w.heap.size w w4 := by rw [h4]; exact below_put c3 (by have := c1.size; omega)
  have c5 : Below w.heap.size w w5 := by rw [h5]; exact balloc c4 _
  have d5 : Below w4.heap.size w4 w5 := by rw [h5]; exact balloc (Below.refl _ _) _
  exact ⟨⟨by rw [h5, ht]; exact ptr_new w4, rfl, a4.below d5, b4.below d5, ⟨c5, fun k hk => (by cases hk)⟩, by rw [ht]; exact c4.size⟩, a2.there 0 2 (by simp [sc]), b3.there 0 2 (by simp [sc])⟩
theorem Alv.get {w0 w : World} {tb B0 B1 : Nat} {mo : Option Nat} {L : List IT} (h : Alv w0 w tb B0 B1 [qa, qb, qc, qd] mo L) : L.length = 2 ∧
    (Calls Try.prog 19 #[ptr tb, sv (1, 1)] w fun e w' => ∃ x, e = .returned (.tuple #[iv x, .bool true]) ∧ x.m.p = (2, 1) ∧ Below w.heap.size w w') ∧
    (Calls Try.prog 19 #[ptr tb, sv (2, 1)] w fun e w' => ∃ x, e = .returned (.tuple #[iv x, .bool true]) ∧ x.m.p = (0, 0) ∧ Below w.heap.size w w') := by
  have hm := h.m
  rw [qm_eq] at hm
  have h1 := congrArg List.length hm
  rw [List.length_map] at h1
  refine ⟨h1, ?_, ?_⟩
  · refine (get19 h.tree (n := (1, 1)) (by unfold SOk I64; omega)).mono ?_
    rintro e w' ⟨x, b, rfl, hg, hb⟩
    have e1 := hg.is
    have e2 := hg.m
    rw [hm] at e1 e2
    have e3 : b = true := e1
    subst e3
    exact ⟨x, rfl, by rw [e2]; rfl, hb⟩
  · refine (get19 h.tree (n := (2, 1)) (by unfold SOk I64; omega)).mono ?_
    rintro e w' ⟨x, b, rfl, hg, hb⟩
    have e1 := hg.is
    have e2 := hg.m
    rw [hm] at e1 e2
    have e3 : b = true := e1
    subst e3
    exact ⟨x, rfl, by rw [e2]; rfl, hb⟩
set_option maxHeartbeats 8000000 in
theorem alive9 (w : World) : Calls Try.prog 9 #[] w fun e w' => e = .returned (.bool true) ∧ Below w.heap.size w w' := by
  obtain ⟨w1, hw1⟩ : ∃ w1, w1 = w.alloc (.cells (sc (0, 0)).toArray 24) := ⟨_, rfl⟩
  obtain ⟨w2, hw2⟩ : ∃ w2, w2 = w1.alloc (.cells (sc (0, 0)).toArray 24) := ⟨_, rfl⟩
  obtain ⟨B0, hB0⟩ : ∃ B0, B0 = w.heap.size := ⟨_, rfl⟩
  obtain ⟨B1, hB1⟩ : ∃ B1, B1 = w1.heap.size := ⟨_, rfl⟩
  obtain ⟨w3, hw3⟩ : ∃ w3, w3 = w2.setCells B0 0 (sc (1, 1)) := ⟨_, rfl⟩
  obtain ⟨w4, hw4⟩ : ∃ w4, w4 = w3.setCells B1 0 (sc (2, 1)) := ⟨_, rfl⟩
  obtain ⟨w5, hw5⟩ : ∃ w5, w5 = w4.alloc (.cells #[.map none] 70) := ⟨_, rfl⟩
  obtain ⟨tb, htb⟩ : ∃ tb, tb = w4.heap.size := ⟨_, rfl⟩
  obtain ⟨i1, i2, i3⟩ := Alv.start hw1 hw2 hB0 hB1 hw3 hw4 hw5 htb
  have HA0 : Hid (Alv w w5 tb B0 B1 [] none []) := i1
  have HT2 : Hid (w2.there B0 0 2) := i2
  have HT3 : Hid (w3.there B1 0 2) := i3
  have HNw : Hid (Calls Try.prog 10 #[] w4 fun e w' => e = .returned (ptr tb) ∧ w' = w5) := by
    have := new10 w4
    rwa [← hw5, ← htb] at this
  have HW1 : Hid (w1 = w.alloc (.cells (sc (0, 0)).toArray 24)) := hw1
  have HW2 : Hid (w2 = w1.alloc (.cells (sc (0, 0)).toArray 24)) := hw2
  have HE0 : Hid (B0 = w.heap.size) := hB0
  have HE1 : Hid (B1 = w1.heap.size) := hB1
  have HW3 : Hid (w3 = w2.setCells B0 0 (sc (1, 1))) := hw3
  have HW4 : Hid (w4 = w3.setCells B1 0 (sc (2, 1))) := hw4
  clear i1 i2 i3 hw1 hw2 hB0 hB1 hw3 hw4 hw5 htb
  have tk1 : Hid True := trivial
  have tk2 : Hid True := trivial
  have tk3 : Hid True := trivial
  have tk4 : Hid True := trivial
  go_enter Try.func9, Try.ntmps9
  go_upto_region 3 with (first
    | (clear tk1; refine wpList_okw rfl (exec_alloc24 rfl) ?_; rw [← HW1.out, ← HE0.out])
    | (clear tk2; refine wpList_okw rfl (exec_alloc24 rfl) ?_; rw [← HW2.out, ← HE1.out])
    | (clear tk3; refine wpList_skipw rfl (exec_store24n (n := (1, 1)) (.tmp 1) (.tmp 8) rfl rfl rfl HT2.out) ?_; rw [← HW3.out])
    | (clear tk4; refine wpList_skipw rfl (exec_store24n (n := (2, 1)) (.tmp 2) (.tmp 9) rfl rfl rfl HT3.out) ?_; rw [← HW4.out])
    | (go_at_call 10; go_must (refine HNw.out.mono ?_; rintro e wx ⟨rfl, hw⟩; replace hw := hw.symm; subst hw)))
  clear HT2 HT3 HNw HW1 HW2 HE0 HE1 HW3 HW4
  have HRa1 : Hid (w5.rangeAt B0 0 (sc (1, 1))) := HA0.out.a.range0
  have HRb1 : Hid (w5.rangeAt B1 0 (sc (2, 1))) := HA0.out.b.range0
  have HD1 : Hid (Calls Try.prog 11 #[ptr tb, ov qa] w5 fun e w' => ∃ v, e = .returned v ∧ ∃ mo' L', Alv w w' tb B0 B1 [qa] mo' L') := HA0.out.do (by decide) qa rfl rfl
  unfold qa at HD1
  go_upto_region 4 with (first
    | (refine wpList_okw rfl (exec_load24n (n := (1, 1)) (.tmp 1) rfl rfl HRa1.out) ?_)
    | (refine wpList_okw rfl (exec_load24n (n := (2, 1)) (.tmp 2) rfl rfl HRb1.out) ?_)
    | (refine wpList_okw rfl (exec_mk40 (k := 1) (a := (1, 1)) (n := (1, 1)) (d := true) (s := ⟨#[97]⟩) (.const (.int .i64 1)) (.tmp 12) (.tmp 13) (.const (.bool true)) (.const (.string ⟨#[97]⟩)) rfl rfl rfl rfl rfl rfl) ?_)
    | (go_at_call 11; go_must (refine HD1.out.mono ?_; rintro e wa1 ⟨v, rfl, mo1, L1, ha⟩; have HA1 : Hid (Alv w wa1 tb B0 B1 [qa] mo1 L1) := ha; clear ha)))
  clear HRa1 HRb1 HD1 HA0
  have HRa2 : Hid (wa1.rangeAt B0 0 (sc (1, 1))) := HA1.out.a.range0
  have HRb2 : Hid (wa1.rangeAt B1 0 (sc (2, 1))) := HA1.out.b.range0
  have HD2 : Hid (Calls Try.prog 11 #[ptr tb, ov qb] wa1 fun e w' => ∃ v, e = .returned v ∧ ∃ mo' L', Alv w w' tb B0 B1 [qa, qb] mo' L') := HA1.out.do (by decide) qb rfl rfl
  unfold qb at HD2
  go_upto_region 5 with (first
    | (refine wpList_okw rfl (exec_load24n (n := (1, 1)) (.tmp 1) rfl rfl HRa2.out) ?_)
    | (refine wpList_okw rfl (exec_load24n (n := (2, 1)) (.tmp 2) rfl rfl HRb2.out) ?_)
    | (refine wpList_okw rfl (exec_mk40 (k := 1) (a := (2, 1)) (n := (2, 1)) (d := true) (s := ⟨#[98]⟩) (.const (.int .i64 1)) (.tmp 17) (.tmp 18) (.const (.bool true)) (.const (.string ⟨#[98]⟩)) rfl rfl rfl rfl rfl rfl) ?_)
    | (go_at_call 11; go_must (refine HD2.out.mono ?_; rintro e wa2 ⟨v, rfl, mo2, L2, ha⟩; have HA2 : Hid (Alv w wa2 tb B0 B1 [qa, qb] mo2 L2) := ha; clear ha)))
  clear HRa2 HRb2 HD2 HA1
  have HRa3 : Hid (wa2.rangeAt B0 0 (sc (1, 1))) := HA2.out.a.range0
  have HRb3 : Hid (wa2.rangeAt B1 0 (sc (2, 1))) := HA2.out.b.range0
  have HD3 : Hid (Calls Try.prog 11 #[ptr tb, ov qc] wa2 fun e w' => ∃ v, e = .returned v ∧ ∃ mo' L', Alv w w' tb B0 B1 [qa, qb, qc] mo' L') := HA2.out.do (by decide) qc rfl rfl
  unfold qc at HD3
  go_upto_region 6 with (first
    | (refine wpList_okw rfl (exec_load24n (n := (1, 1)) (.tmp 1) rfl rfl HRa3.out) ?_)
    | (refine wpList_okw rfl (exec_load24n (n := (2, 1)) (.tmp 2) rfl rfl HRb3.out) ?_)
    | (refine wpList_okw rfl (exec_mv40 (k := 2) (a := (3, 1)) (n := (1, 1)) (p := (2, 1)) (s := ⟨#[97]⟩) (.const (.int .i64 2)) (.tmp 22) (.tmp 23) (.tmp 24) (.const (.string ⟨#[97]⟩)) rfl rfl rfl rfl rfl rfl) ?_)
    | (go_at_call 11; go_must (refine HD3.out.mono ?_; rintro e wa3 ⟨v, rfl, mo3, L3, ha⟩; have HA3 : Hid (Alv w wa3 tb B0 B1 [qa, qb, qc] mo3 L3) := ha; clear ha)))
  clear HRa3 HRb3 HD3 HA2
  have HRa4 : Hid (wa3.rangeAt B0 0 (sc (1, 1))) := HA3.out.a.range0
  have HRb4 : Hid (wa3.rangeAt B1 0 (sc (2, 1))) := HA3.out.b.range0
  have HD4 : Hid (Calls Try.prog 11 #[ptr tb, ov qd] wa3 fun e w' => ∃ v, e = .returned v ∧ ∃ mo' L', Alv w w' tb B0 B1 [qa, qb, qc, qd] mo' L') := HA3.out.do (by decide) qd rfl rfl
  unfold qd at HD4
  go_upto_region 7 with (first
    | (refine wpList_okw rfl (exec_load24n (n := (1, 1)) (.tmp 1) rfl rfl HRa4.out) ?_)
    | (refine wpList_okw rfl (exec_load24n (n := (2, 1)) (.tmp 2) rfl rfl HRb4.out) ?_)
    | (refine wpList_okw rfl (exec_mv40 (k := 2) (a := (4, 1)) (n := (2, 1)) (p := (1, 1)) (s := ⟨#[98]⟩) (.const (.int .i64 2)) (.tmp 28) (.tmp 29) (.tmp 30) (.const (.string ⟨#[98]⟩)) rfl rfl rfl rfl rfl rfl) ?_)
    | (go_at_call 11; go_must (refine HD4.out.mono ?_; rintro e wa4 ⟨v, rfl, mo4, L4, ha⟩; have HA4 : Hid (Alv w wa4 tb B0 B1 [qa, qb, qc, qd] mo4 L4) := ha; clear ha)))
  clear HRa4 HRb4 HD4 HA3
  have HGa : Hid (Calls Try.prog 19 #[ptr tb, sv (1, 1)] wa4 fun e w' => ∃ x, e = .returned (.tuple #[iv x, .bool true]) ∧ x.m.p = (2, 1) ∧ Below wa4.heap.size wa4 w') := HA4.out.get.2.1
  have HRa : Hid (wa4.rangeAt B0 0 (sc (1, 1))) := HA4.out.a.range0
  have tk5 : Hid True := trivial
  have tk6 : Hid True := trivial
  go_upto_region 8 with (first
    | (refine wpList_okw rfl (exec_load24n (n := (1, 1)) (.tmp 1) rfl rfl HRa.out) ?_)
    | (go_at_call 19; go_must (refine HGa.out.mono ?_; rintro r w6 ⟨x, rfl, hxp, hb6⟩; have HXP : Hid (x.m.p = (2, 1)) := hxp; have HB46 : Hid (Below wa4.heap.size wa4 w6) := hb6; clear hxp hb6; obtain ⟨w7, hw7⟩ : ∃ w7, w7 = w6.alloc (.cells (ic zT).toArray 35) := ⟨_, rfl⟩; obtain ⟨g, hg⟩ : ∃ g, g = w6.heap.size := ⟨_, rfl⟩; have HT7 : Hid (w7.there g 0 10) := (show _ from by rw [hw7, hg]; exact (itp_new w6 zT).there); have HW7 : Hid (w7 = w6.alloc (.cells (ic zT).toArray 35)) := hw7; have HGG : Hid (g = w6.heap.size) := hg; clear hw7 hg))
    | (clear tk5; refine wpList_okw rfl (exec_alloc35 rfl) ?_; rw [← HW7.out, ← HGG.out])
    | (clear tk6; refine wpList_skipw rfl (exec_store35 (q := x) (.tmp 4) (.tmp 37) rfl rfl rfl HT7.out) ?_; obtain ⟨w8, hw8⟩ : ∃ w8, w8 = w7.setCells g 0 (ic x) := ⟨_, rfl⟩; rw [← hw8]; obtain ⟨i1, i2, i3, i4⟩ := item_putp HB46.out HW7.out HGG.out hw8; have HI8 : Hid (Itp w8 g x) := i1; have HB48 : Hid (Below wa4.heap.size wa4 w8) := i2; clear hw8 i1 i2 i3 i4 HT7 HW7 HGG))
  have HA8 : Hid (Alv w w8 tb B0 B1 [qa, qb, qc, qd] mo4 L4) := HA4.out.below HB48.out
  have HGb : Hid (Calls Try.prog 19 #[ptr tb, sv (2, 1)] w8 fun e w' => ∃ x, e = .returned (.tuple #[iv x, .bool true]) ∧ x.m.p = (0, 0) ∧ Below w8.heap.size w8 w') := HA8.out.get.2.2
  have HRb : Hid (w8.rangeAt B1 0 (sc (2, 1))) := HA8.out.b.range0
  have tk7 : Hid True := trivial
  have tk8 : Hid True := trivial
  clear HRa HGa HA4 HB46
  go_upto_region 9 with (first
    | (refine wpList_okw rfl (exec_load24n (n := (2, 1)) (.tmp 2) rfl rfl HRb.out) ?_)
    | (go_at_call 19; go_must (refine HGb.out.mono ?_; rintro r w9 ⟨y, rfl, hxp, hb6⟩; have HYP : Hid (y.m.p = (0, 0)) := hxp; have HB89 : Hid (Below w8.heap.size w8 w9) := hb6; clear hxp hb6; obtain ⟨wb, hwb⟩ : ∃ wb, wb = w9.alloc (.cells (ic zT).toArray 35) := ⟨_, rfl⟩; obtain ⟨h, hh⟩ : ∃ h, h = w9.heap.size := ⟨_, rfl⟩; have HTb : Hid (wb.there h 0 10) := (show _ from by rw [hwb, hh]; exact (itp_new w9 zT).there); have HWb : Hid (wb = w9.alloc (.cells (ic zT).toArray 35)) := hwb; have HGG : Hid (h = w9.heap.size) := hh; clear hwb hh))
    | (clear tk7; refine wpList_okw rfl (exec_alloc35 rfl) ?_; rw [← HWb.out, ← HGG.out])
    | (clear tk8; refine wpList_skipw rfl (exec_store35 (q := y) (.tmp 6) (.tmp 43) rfl rfl rfl HTb.out) ?_; obtain ⟨wc, hwc⟩ : ∃ wc, wc = wb.setCells h 0 (ic y) := ⟨_, rfl⟩; rw [← hwc]; obtain ⟨i1, i2, i3, i4⟩ := item_putp HB89.out HWb.out HGG.out hwc; have HIc : Hid (Itp wc h y) := i1; have HB8c : Hid (Below w8.heap.size w8 wc) := i2; clear hwc i1 i2 i3 i4 HTb HWb HGG))
  have HAc : Hid (Alv w wc tb B0 B1 [qa, qb, qc, qd] mo4 L4) := HA8.out.below HB8c.out
  have HLen : Hid (Calls Try.prog 18 #[ptr tb] wc fun e w' => e = .returned (.int .i64 2) ∧ w' = wc) := by
    have := len18 HAc.out.tree
    rw [HAc.out.get.1] at this
    exact this
  have HRx : Hid (wc.rangeAt g 2 (sc (2, 1))) := by
    have := Itp.par (HI8.out.below HB8c.out)
    rw [HXP.out] at this
    exact this
  have HRy : Hid (wc.rangeAt h 2 (sc (0, 0))) := by
    have := HIc.out.par
    rw [HYP.out] at this
    exact this
  have HRc : Hid (wc.rangeAt B1 0 (sc (2, 1))) := HAc.out.b.range0
  have HBl : Hid (Below w.heap.size w wc) := HAc.out.bel.1
  clear HRb HGb HA8 HXP HYP
  have tk9 : Hid True := trivial
  have tka : Hid True := trivial
  go_wp2_with (first
    | (refine wpList_okw rfl (exec_load24n (n := (2, 1)) (.tmp 50) rfl rfl HRx.out) ?_)
    | (refine wpList_okw rfl (exec_load24n (n := (2, 1)) (.tmp 2) rfl rfl HRc.out) ?_)
    | (refine wpList_okw rfl (exec_load24n (n := (0, 0)) (.tmp 56) rfl rfl HRy.out) ?_)
    | (clear tk9; refine wpList_okw rfl (exec_eql24 (a := (2, 1)) (b := (2, 1)) (.tmp 51) (.tmp 52) rfl rfl rfl) ?_; rw [show decide (((2 : Int), (1 : Int)) = (2, 1)) = true from by decide])
    | (clear tka; refine wpList_okw rfl (exec_eql24 (a := (0, 0)) (b := (0, 0)) (.tmp 57) (.tmp 58) rfl rfl rfl) ?_; rw [show decide (((0 : Int), (0 : Int)) = (0, 0)) = true from by decide])
    | (go_at_call 18; go_must (refine HLen.out.mono ?_; rintro e wx ⟨rfl, hw⟩; replace hw := hw.symm; subst hw)))
  go_ret
  exact ⟨rfl, HBl.out⟩
end Go.Proofs.Ytjlpdoomchkfgaa
