/-
  Operations in blocks; create and remove of the program.
-/
import Derived.Test.YthnjbjlhfohpfaaGreatTrZ
namespace Go.Proofs.YthnjbjlhfohpfaaGreat
set_option linter.unusedVariables false
set_option linter.unusedSimpArgs false
set_option synthInstance.maxSize 20000
set_option maxHeartbeats 2000000
set_option maxRecDepth 20000
open Go.RowKit Go.Maps

theorem info40 : (Tryz.prog.info? 38).map (·.size) = some 10 := by kernel_rfl
section
variable {o : Oper} {r : Operand → Value} {w : World}
theorem exec_load40 {b off : Nat} {q : OpT} (x : Operand) (ho : o.op = .load 38 x) (hx : r x = .pointer (some ⟨b, off, none⟩)) (hc : w.rangeAt b off (oc q)) : (execOp r o).run Tryz.prog w = .ok (.value (ov q)) w := exec_load26 x ho hx hc
theorem exec_box40 {q : OpT} (x : Operand) (ho : o.op = .box 38 x) (hx : r x = ov q) : (execOp r o).run Tryz.prog w = .ok (.value (.pointer (some ⟨w.heap.size, 0, none⟩))) (w.alloc (.cells (oc q).toArray 38)) := by
  obtain ⟨k, ⟨a1, a2⟩, ⟨n1, n2⟩, ⟨p1, p2⟩, d, s, va, vn, vc, b⟩ := q
  unfold ov oc at hx
  unfold oc
  dsimp only at hx ⊢
  unfold execOp
  simp only [ho]
  go_simp
theorem exec_new35 {n p : S} {s : ByteArray} {d : Bool} (x1 x2 x3 x4 : Operand) (ho : o.op = .build 61 #[(0, x1), (1, x2), (2, x3), (3, x4)]) (h1 : r x1 = sv n) (h2 : r x2 = sv p) (h3 : r x3 = .string s) (h4 : r x4 = .bool d) : (execOp r o).run Tryz.prog w = .ok (.value (iv ⟨⟨n, p, s, d, false, (0, 0), []⟩, none, 0, 0⟩)) w := by
  obtain ⟨n1, n2⟩ := n
  obtain ⟨p1, p2⟩ := p
  unfold sv at h1 h2
  unfold iv ic
  dsimp only at h1 h2 ⊢
  unfold execOp
  simp only [ho]
  go_simp
theorem exec_store9 {b off : Nat} {s : ByteArray} {u : Value} (x y : Operand) (ho : o.op = .store 9 x y) (hx : r x = .pointer (some ⟨b, off, none⟩)) (hy : r y = .string s) (hc : w.cell? ⟨b, off, none⟩ = some u) (hf : w.frozen? ⟨b, off, none⟩ = false) : (execOp r o).run Tryz.prog w = .ok .skip (w.setCell ⟨b, off, none⟩ (.string s)) := by
  unfold execOp
  simp only [ho]
  go_simp
theorem exec_store4 {b off : Nat} {s : Bool} {u : Value} (x y : Operand) (ho : o.op = .store 4 x y) (hx : r x = .pointer (some ⟨b, off, none⟩)) (hy : r y = .bool s) (hc : w.cell? ⟨b, off, none⟩ = some u) (hf : w.frozen? ⟨b, off, none⟩ = false) : (execOp r o).run Tryz.prog w = .ok .skip (w.setCell ⟨b, off, none⟩ (.bool s)) := by
  unfold execOp
  simp only [ho]
  go_simp
theorem exec_store33 {b off : Nat} {a : Option Addr} {n c : Nat} {u : Value} (x y : Operand) (ho : o.op = .store 36 x y) (hx : r x = .pointer (some ⟨b, off, none⟩)) (hy : r y = .slice a n c) (hc : w.cell? ⟨b, off, none⟩ = some u) (hf : w.frozen? ⟨b, off, none⟩ = false) : (execOp r o).run Tryz.prog w = .ok .skip (w.setCell ⟨b, off, none⟩ (.slice a n c)) := by
  unfold execOp
  simp only [ho]
  go_simp
end
/-- A block that holds one operation. -/
def Opb (w : World) (b : Nat) (q : OpT) : Prop := Blk w b 38 (oc q)
section
variable {w w' : World} {b : Nat} {q : OpT}
theorem Opb.below (h : Opb w b q) (hb : Below w.heap.size w w') : Opb w' b q := Blk.below h hb
theorem Opb.at (h : Opb w b q) : w.rangeAt b 1 (sc q.a) := Blk.range h 1 fun j u hj => by
  match j, hj with
  | 0, hj => exact hj
  | 1, hj => exact hj
  | j + 2, hj => simp [sc] at hj
theorem Opb.node (h : Opb w b q) : w.rangeAt b 3 (sc q.n) := Blk.range h 3 fun j u hj => by
  match j, hj with
  | 0, hj => exact hj
  | 1, hj => exact hj
  | j + 2, hj => simp [sc] at hj
theorem Opb.par (h : Opb w b q) : w.rangeAt b 5 (sc q.p) := Blk.range h 5 fun j u hj => by
  match j, hj with
  | 0, hj => exact hj
  | 1, hj => exact hj
  | j + 2, hj => simp [sc] at hj
theorem opb_new (w : World) (q : OpT) : Opb (w.alloc (.cells (oc q).toArray 38)) w.heap.size q := blk_new w (oc q) 38
theorem box_op {w w1 : World} {B0 : Nat} {q : OpT} (hw1 : w1 = w.alloc (.cells (oc q).toArray 38)) (h0 : B0 = w.heap.size) : Below w.heap.size w w1 ∧ Opb w1 B0 q := by
  subst hw1 h0
  exact ⟨balloc (Below.refl _ _) _, opb_new w q⟩
theorem Itp.setPar {x : IT} {p : S} (h : Itp w b x) : Itp (w.setCells b 2 (sc p)) b { x with m := { x.m with p := p } } := by
  have := Blk.setCells h 2 (sc p) (by rw [ic_len]; simp [sc])
  exact this
theorem Itp.setBy {x : IT} {p : S} (h : Itp w b x) : Itp (w.setCells b 8 (sc p)) b { x with m := { x.m with y := p } } := by
  have := Blk.setCells h 8 (sc p) (by rw [ic_len]; simp [sc])
  exact this
theorem Itp.setNode {x : IT} {p : S} (h : Itp w b x) : Itp (w.setCells b 0 (sc p)) b { x with m := { x.m with n := p } } := by
  have := Blk.setCells h 0 (sc p) (by rw [ic_len]; simp [sc])
  exact this
theorem Itp.setName {x : IT} {s : ByteArray} (h : Itp w b x) : Itp (w.setCell ⟨b, 4, none⟩ (.string s)) b { x with m := { x.m with s := s } } := Blk.set h 4 _
theorem Itp.setGone {x : IT} {g : Bool} (h : Itp w b x) : Itp (w.setCell ⟨b, 6, none⟩ (.bool g)) b { x with m := { x.m with g := g } } := Blk.set h 6 _
theorem Itp.setData {x : IT} {a : Option Addr} {n c : Nat} {l : List Int} (h : Itp w b x) : Itp (w.setCell ⟨b, 7, none⟩ (.slice a n c)) b ⟨{ x.m with b := l }, a, n, c⟩ := Blk.set h 7 _
end
theorem rightB_ok {n : S} (h : rightB n = true) : SOk n := by
  have := of_decide_eq_true h
  unfold rightP at this
  unfold SOk I64
  omega
theorem zero_ok : SOk (0, 0) := by unfold SOk I64; omega
theorem rightO_p {o : OpT} (h : rightO o = true) (hk : o.k = 1 ∨ o.k = 2) : SOk o.p := by
  have hpl : placedB o = true := by
    unfold rightO at h
    rw [Bool.and_eq_true] at h
    have h2 := h.2
    rcases hk with hk | hk
    · rw [if_pos hk, Bool.and_eq_true] at h2; exact h2.2
    · rw [if_neg (by omega), if_pos hk] at h2
      simp only [Bool.and_eq_true] at h2
      exact h2.1.2
  unfold placedB at hpl
  simp only [Bool.and_eq_true, Bool.or_eq_true] at hpl
  rcases hpl.1.1 with h3 | h3
  · rw [(sameAt_iff _ _).1 h3]; exact zero_ok
  · exact rightB_ok h3
/-- Bytes don't lie in an item's block. -/
theorem rd_pastitp {w w' : World} {g : Nat} {x : IT} {v : Value} {l : List Int} (hr : Rd w v l) (hi : Itp w g x) (hg : w.grownBy w' (some g)) : Rd w' v l := by
  have hr0 := hr
  refine hr.blocks fun hl k hk hlt => ?_
  obtain ⟨_, a, cap, rfl, h1, h2, h3, h4⟩ := hr0
  have hp : 0 < l.length := by cases l with
    | nil => exact absurd rfl hl
    | cons x l => simp
  obtain ⟨b, off, rfl, hc⟩ := h4 hp
  have e1 : b = k := by simpa [Value.ownBlock] using hk
  subst e1
  refine hg.block _ hlt fun e => ?_
  cases e
  have c0 := hc 0 hp
  have hb : w.heap[g]? = some (.cells (ic x).toArray 61 (0, 0)) := hi
  simp [World.cell?, hb] at c0
  have hm := List.mem_of_getElem? c0
  simp only [ic, List.mem_cons, List.not_mem_nil, or_false] at hm
  rcases hm with h | h | h | h | h | h | h | h | h | h <;> simp at h
/-- What an operation that is right does to the program's tree. -/
def StepAns (w : World) (tb : Nat) (mo : Option Nat) (L : List IT) (q : OpT) (e : Ending) (w' : World) : Prop := e = .returned (.int .i64 0) ∧ ∃ mo' L', PTr w' tb mo' L' ∧ L'.map IT.m = stepM (L.map IT.m) q ∧ Tw tb mo w w' mo'
theorem step_none {w w' : World} {tb : Nat} {mo : Option Nat} {L : List IT} {q : OpT} (h : PTr w tb mo L) (hb : Below w.heap.size w w') (hc : chM (L.map IT.m) q = none) : ∃ mo' L', PTr w' tb mo' L' ∧ L'.map IT.m = stepM (L.map IT.m) q ∧ Tw tb mo w w' mo' :=
  ⟨mo, L, h.below hb, by unfold stepM; rw [hc], Tw.of_below hb⟩
theorem step_some {w w1 w' : World} {tb : Nat} {mo mo' : Option Nat} {L L' : List IT} {q : OpT} {y : IM} (hb : Below w.heap.size w w1) (hP : PTr w' tb mo' L') (hm : L'.map IT.m = putM (L.map IT.m) y) (ht : Tw tb mo w1 w' mo') (hc : chM (L.map IT.m) q = some y) : ∃ mo' L', PTr w' tb mo' L' ∧ L'.map IT.m = stepM (L.map IT.m) q ∧ Tw tb mo w w' mo' :=
  ⟨mo', L', hP, by unfold stepM; rw [hc]; exact hm, (Tw.of_below hb).trans ht⟩
section
variable {w : World} {tb : Nat} {mo : Option Nat} {L : List IT}
set_option maxHeartbeats 4000000 in
theorem create32 (h : PTr w tb mo L) (few : L.length ≤ 200) {q : OpT} (hr : rightO q = true) (hk : q.k = 1) : Calls Tryz.prog 94 #[ptr tb, ov q] w (StepAns w tb mo L q) := by
  have HH : Hid (PTr w tb mo L) := h
  have HFew : Hid (L.length ≤ 200) := few
  have HNo : Hid (SOk q.n) := rightB_ok (rightO_n hr).1
  have HPo : Hid (SOk q.p) := rightO_p hr (.inl hk)
  have hc : chM (L.map IT.m) q = if hasM (L.map IT.m) q.n = true then none else if dirM (L.map IT.m) q.p = true then some (newI q) else none := by unfold chM; rw [if_pos hk]
  have HC : Hid (chM (L.map IT.m) q = if hasM (L.map IT.m) q.n = true then none else if dirM (L.map IT.m) q.p = true then some (newI q) else none) := hc
  clear h few hr hk hc
  generalize hhs : hasM (L.map IT.m) q.n = hs at HC
  have HHS : Hid (hasM (L.map IT.m) q.n = hs) := hhs
  generalize hdr : dirM (L.map IT.m) q.p = dr at HC
  have HDR : Hid (dirM (L.map IT.m) q.p = dr) := hdr
  clear hhs hdr
  obtain ⟨w1, hw1⟩ : ∃ w1, w1 = w.alloc (.cells (oc q).toArray 38) := ⟨_, rfl⟩
  obtain ⟨B0, hB0⟩ : ∃ B0, B0 = w.heap.size := ⟨_, rfl⟩
  obtain ⟨i1, i2⟩ := box_op hw1 hB0
  have HB1 : Hid (Below w.heap.size w w1) := i1
  have HQ : Hid (Opb w1 B0 q) := i2
  have HQn : Hid (w1.rangeAt B0 3 (sc q.n)) := i2.node
  clear i1 i2
  have HSK : Hid (Calls Tryz.prog 105 #[ptr tb, sv q.n] w1 fun e w'' => e = .returned (.bool hs) ∧ Below w1.heap.size w1 w'') := by
    have := has46 (HH.out.below HB1.out) HNo.out
    rw [HHS.out] at this
    exact this
  have HTK : Hid (∀ w', Below w.heap.size w w' → Calls Tryz.prog 106 #[ptr tb, sv q.p] w' fun e w'' => e = .returned (.bool dr) ∧ Below w'.heap.size w' w'') := fun w' hb => by
    have := takes59 (HH.out.below hb) HPo.out
    rw [HDR.out] at this
    exact this
  have HLK : Hid (∀ w', Below w.heap.size w w' → Calls Tryz.prog 107 #[ptr tb] w' fun e w'' => e = .returned (.int .i64 (L.length : Int)) ∧ w'' = w') := fun w' hb => len18 (HH.out.below hb)
  clear HHS HDR
  unfold StepAns
  go_enter Tryz.func94, Tryz.ntmps94
  go_upto_region 1 with (refine wpList_okw rfl (exec_box40 (q := q) (.tmp 1) rfl rfl) ?_)
  rw [← hw1, ← hB0]
  clear hw1 hB0
  cases hs
  · cases dr
    · go_wp2_with (first
        | (refine wpList_okw rfl (exec_load24n (n := q.n) (.tmp 6) rfl rfl HQn.out) ?_)
        | (go_at_call 105; go_must (refine HSK.out.mono ?_; rintro r w2 ⟨rfl, hb2⟩; have HB2 : Hid (Below w1.heap.size w1 w2) := hb2; clear hb2; have HQp : Hid (w2.rangeAt B0 5 (sc q.p)) := (HQ.out.below HB2.out).par))
        | (refine wpList_okw rfl (exec_load24n (n := q.p) (.tmp 11) rfl rfl HQp.out) ?_)
        | (go_at_call 106; go_must (refine (HTK.out _ (bnext HB1.out HB2.out)).mono ?_; rintro r w3 ⟨rfl, hb3⟩; have HB3 : Hid (Below w2.heap.size w2 w3) := hb3; clear hb3)))
      go_ret
      exact ⟨rfl, step_none HH.out (bnext HB1.out (bnext HB2.out HB3.out)) (by rw [HC.out]; simp)⟩
    · have hlI : ¬ (L.length : Int) ≥ 300 := by have := HFew.out; omega
      go_upto_region 5 with (first
        | (refine wpList_okw rfl (exec_load24n (n := q.n) (.tmp 6) rfl rfl HQn.out) ?_)
        | (go_at_call 105; go_must (refine HSK.out.mono ?_; rintro r w2 ⟨rfl, hb2⟩; have HB2 : Hid (Below w1.heap.size w1 w2) := hb2; clear hb2; have HQp : Hid (w2.rangeAt B0 5 (sc q.p)) := (HQ.out.below HB2.out).par))
        | (refine wpList_okw rfl (exec_load24n (n := q.p) (.tmp 11) rfl rfl HQp.out) ?_)
        | (go_at_call 106; go_must (refine (HTK.out _ (bnext HB1.out HB2.out)).mono ?_; rintro r w3 ⟨rfl, hb3⟩; have HB3 : Hid (Below w2.heap.size w2 w3) := hb3; clear hb3; have HBz : Hid (Below w.heap.size w w3) := bnext HB1.out (bnext HB2.out HB3.out)))
        | (go_at_call 107; go_must (refine (HLK.out _ HBz.out).mono ?_; rintro r w4 ⟨rfl, rfl⟩)))
      have HQ4 : Hid (Opb w4 B0 q) := HQ.out.below (bnext HB2.out HB3.out)
      have HQn4 : Hid (w4.rangeAt B0 3 (sc q.n)) := HQ4.out.node
      have HQp4 : Hid (w4.rangeAt B0 5 (sc q.p)) := HQ4.out.par
      have c7 := Blk.cell HQ4.out 7 _ rfl
      have c8 := Blk.cell HQ4.out 8 _ rfl
      have HPut : Hid (Calls Tryz.prog 93 #[ptr tb, iv ⟨newI q, none, 0, 0⟩] w4 fun e w' => e = .returned (.tuple #[]) ∧ ∃ mo' L', PTr w' tb mo' L' ∧ L'.map IT.m = putM (L.map IT.m) (newI q) ∧ Tw tb mo w4 w' mo') :=
        put56 (HH.out.below HBz.out) ⟨newI q, none, 0, 0⟩ (rd_nil _) (Nat.zero_le _) HNo.out HPo.out (by have := HFew.out; omega)
      have HCC : Hid (chM (L.map IT.m) q = some (newI q)) := by show _ = _; rw [HC.out]; simp
      clear HC HSK HTK HLK
      have tk1 : Hid True := trivial
      go_wp2_with (first
        | (refine wpList_okw rfl (exec_load24n (n := q.n) (.tmp 20) rfl rfl HQn4.out) ?_)
        | (refine wpList_okw rfl (exec_load24n (n := q.p) (.tmp 22) rfl rfl HQp4.out) ?_)
        | (clear tk1; refine wpList_okw rfl (exec_new35 (n := q.n) (p := q.p) (s := q.s) (d := q.d) (.tmp 21) (.tmp 23) (.tmp 25) (.tmp 27) rfl rfl rfl rfl rfl) ?_)
        | (go_at_call 93; go_must (refine HPut.out.mono ?_; rintro r w5 ⟨rfl, mo', L', h5, hm5, ht5⟩; have HP5 : Hid (PTr w5 tb mo' L') := h5; have HM5 : Hid (L'.map IT.m = putM (L.map IT.m) (newI q)) := hm5; have HT5 : Hid (Tw tb mo w4 w5 mo') := ht5; clear h5 hm5 ht5)))
      go_ret
      exact ⟨rfl, step_some HBz.out HP5.out HM5.out HT5.out HCC.out⟩
  · go_wp2_with (first
      | (refine wpList_okw rfl (exec_load24n (n := q.n) (.tmp 6) rfl rfl HQn.out) ?_)
      | (go_at_call 105; go_must (refine HSK.out.mono ?_; rintro r w2 ⟨rfl, hb2⟩; have HB2 : Hid (Below w1.heap.size w1 w2) := hb2; clear hb2)))
    go_ret
    exact ⟨rfl, step_none HH.out (bnext HB1.out HB2.out) (by rw [HC.out]; simp)⟩
set_option maxHeartbeats 4000000 in
theorem remove34 (h : PTr w tb mo L) (few : L.length ≤ 200) {q : OpT} (hr : rightO q = true) (hk : q.k = 3) : Calls Tryz.prog 96 #[ptr tb, ov q] w (StepAns w tb mo L q) := by
  have HH : Hid (PTr w tb mo L) := h
  have HFew : Hid (L.length ≤ 200) := few
  have hno : SOk q.n := rightB_ok (rightO_n hr).1
  have hc : chM (L.map IT.m) q = match findM (L.map IT.m) q.n with | none => none | some x => some (remI x) := by
    unfold chM
    rw [if_neg (by omega)]
    cases findM (L.map IT.m) q.n with
    | none => rfl
    | some x => dsimp only; rw [if_neg (by omega), if_pos hk]
  have HC : Hid (chM (L.map IT.m) q = match findM (L.map IT.m) q.n with | none => none | some x => some (remI x)) := hc
  have HF : Hid (∀ w', Below w.heap.size w w' → Calls Tryz.prog 40 #[ptr tb, sv q.n] w' (GetAns w' L q.n)) := fun w' hb => look42 (h.below hb) hno
  clear h few hr hk hc hno
  obtain ⟨w1, hw1⟩ : ∃ w1, w1 = w.alloc (.cells (oc q).toArray 38) := ⟨_, rfl⟩
  obtain ⟨B0, hB0⟩ : ∃ B0, B0 = w.heap.size := ⟨_, rfl⟩
  obtain ⟨i1, i2⟩ := box_op hw1 hB0
  have HB1 : Hid (Below w.heap.size w w1) := i1
  have HQn : Hid (w1.rangeAt B0 3 (sc q.n)) := i2.node
  clear i1 i2
  unfold StepAns
  go_enter Tryz.func96, Tryz.ntmps96
  go_upto_region 1 with (refine wpList_okw rfl (exec_box40 (q := q) (.tmp 1) rfl rfl) ?_)
  rw [← hw1, ← hB0]
  clear hw1 hB0
  go_upto_region 2 with (first
    | (refine wpList_okw rfl (exec_load24n (n := q.n) (.tmp 9) rfl rfl HQn.out) ?_)
    | (go_at_call 40; go_must (refine (HF.out _ HB1.out).mono ?_; rintro r w2 ⟨x, b, rfl, hgt, hb2⟩; have HG : Hid (GotT w2 L q.n x b) := hgt; have HB12 : Hid (Below w1.heap.size w1 w2) := hb2; have HBz : Hid (Below w.heap.size w w2) := bnext HB1.out hb2; clear hb2 hgt; obtain ⟨w3, hw3⟩ : ∃ w3, w3 = w2.alloc (.cells (ic zT).toArray 61) := ⟨_, rfl⟩; obtain ⟨g, hg⟩ : ∃ g, g = w2.heap.size := ⟨_, rfl⟩; have HT3 : Hid (w3.there g 0 10) := (show _ from by rw [hw3, hg]; exact (itp_new w2 zT).there); have HW3 : Hid (w3 = w2.alloc (.cells (ic zT).toArray 61)) := hw3; have HGG : Hid (g = w2.heap.size) := hg; clear hw3 hg; have tk1 : Hid True := trivial; have tk2 : Hid True := trivial)) | (clear tk1; refine wpList_okw rfl (exec_alloc35 rfl) ?_; rw [← HW3.out, ← HGG.out]) | (clear tk2; refine wpList_skipw rfl (exec_store35 (q := x) (.tmp 5) (.tmp 12) rfl rfl rfl HT3.out) ?_; obtain ⟨w4, hw4⟩ : ∃ w4, w4 = w3.setCells g 0 (ic x) := ⟨_, rfl⟩; rw [← hw4]; obtain ⟨i1, i2, i3, i4⟩ := item_putp HBz.out HW3.out HGG.out hw4; have HI4 : Hid (Itp w4 g x) := i1; have HB4 : Hid (Below w.heap.size w w4) := i2; have HB24 : Hid (Below w2.heap.size w2 w4) := i3; have HGL : Hid (w.heap.size ≤ g) := i4; clear hw4 i1 i2 i3 i4 HT3 HW3 HGG))
  cases b
  · have HCC : Hid (chM (L.map IT.m) q = none) := by
      show _ = _
      rw [HC.out]
      have := HG.out.is
      cases hf : findM (L.map IT.m) q.n with
      | none => rfl
      | some y => rw [hf] at this; cases this
    go_wp2
    go_ret
    exact ⟨rfl, step_none HH.out HB4.out HCC.out⟩
  · have HCC : Hid (chM (L.map IT.m) q = some (remI x.m)) := by
      show _ = _
      rw [HC.out]
      have h1 := HG.out.is
      have h2 := HG.out.m
      cases hf : findM (L.map IT.m) q.n with
      | none => rw [hf] at h1; cases h1
      | some y => rw [hf] at h2; rw [h2]; rfl
    have c6 := Blk.cell HI4.out 6 _ rfl
    have f6 := Blk.frozen HI4.out 6
    obtain ⟨y, hy⟩ : ∃ y : IT, y = { x with m := { x.m with g := true } } := ⟨_, rfl⟩
    obtain ⟨w5, hw5⟩ : ∃ w5, w5 = w4.setCell ⟨g, 6, none⟩ (.bool true) := ⟨_, rfl⟩
    have HI5 : Hid (Itp w5 g y) := by show Itp _ _ _; rw [hw5, hy]; exact HI4.out.setGone
    have HB5 : Hid (Below w.heap.size w w5) := by show Below _ _ _; rw [hw5]; exact bgrown HB4.out HGL.out (grown_setCell _ _ _ _)
    have HR5 : Hid (w5.rangeAt g 0 (ic y)) := HI5.out.range
    have hfine := HG.out.fine HH.out
    have HPut : Hid (Calls Tryz.prog 93 #[ptr tb, iv y] w5 fun e w' => e = .returned (.tuple #[]) ∧ ∃ mo' L', PTr w' tb mo' L' ∧ L'.map IT.m = putM (L.map IT.m) (remI x.m) ∧ Tw tb mo w5 w' mo') := by
      have h1 : Rd w5 y.v y.m.b := by
        rw [hw5, hy]
        exact rd_pastitp (HG.out.rd.below HB24.out) HI4.out (grown_setCell _ _ _ _)
      have := put56 (HH.out.below HB5.out) y h1 (by rw [hy]; exact hfine.1) (by rw [hy]; exact hfine.2.1) (by rw [hy]; exact hfine.2.2) (by have := HFew.out; omega)
      rw [show y.m = remI x.m by rw [hy]; rfl] at this
      exact this
    clear hy hfine
    go_upto_region 4 with fail
    rw [← hw5]
    clear hw5 c6 f6
    go_wp2_with (first
      | (refine wpList_okw rfl (exec_load35 (q := y) (.tmp 5) rfl rfl HR5.out) ?_)
      | (go_at_call 93; go_must (refine HPut.out.mono ?_; rintro r w6 ⟨rfl, mo', L', h5, hm5, ht5⟩; have HP5 : Hid (PTr w6 tb mo' L') := h5; have HM5 : Hid (L'.map IT.m = putM (L.map IT.m) (remI x.m)) := hm5; have HT5 : Hid (Tw tb mo w5 w6 mo') := ht5; clear h5 hm5 ht5)))
    go_ret
    exact ⟨rfl, step_some HB5.out HP5.out HM5.out HT5.out HCC.out⟩
end
end Go.Proofs.YthnjbjlhfohpfaaGreat
