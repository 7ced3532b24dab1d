/-
  Ops of a log: copies of its operations.
  What must come at any rate: the chapter's example.
  Insert and Remove by lists of operations alone; a log that the law made.
-/
import Derived.Test.YthnjbjlhfohpfaaGreatUdY
import Derived.Test.YthnjbjlhfohpfaaGreatUdP
import Derived.Test.YthnjbjlhfohpfaaGreatTsF
import Derived.Test.YthnjbjlhfohpfaaGreatRs
import Derived.Test.YthnjbjlhfohpfaaGreatTsG
import Derived.Test.YthnjbjlhfohpfaaGreatUdZ
namespace Go.Proofs.YthnjbjlhfohpfaaGreat
section
set_option linter.unusedVariables false
set_option linter.unusedSimpArgs false
set_option synthInstance.maxSize 20000
set_option maxHeartbeats 2000000
set_option maxRecDepth 20000
open Go.RowKit Go.Maps

/-- A row of operations that the call made (blocks from B on). -/
structure OwnO (B : Nat) (w : World) (v : Value) (O : List OpT) : Prop where
  own : w.ownsRow 0 38 10 v O.length (flat oc O)
  new : ∀ k, v.ownBlock = some k → B ≤ k
section
variable {B : Nat} {w w' : World} {v : Value} {O : List OpT}
theorem OwnO.row (h : OwnO B w v O) : RowF oc w v O := rowF_own oc_len h.own
theorem OwnO.below (h : OwnO B w v O) (hb : Below w.heap.size w w') : OwnO B w' v O := ⟨ownsRow_block h.own fun k hk => hb.block _ (h.own.lt k hk).2, h.new⟩
theorem ownO_nil (B : Nat) (w : World) : OwnO B w (.slice none 0 0) [] := ⟨World.ownsRow_nil _ _ _ _, fun k hk => by cases hk⟩
theorem OwnO.cells (h : OwnO B w v O) {b : Nat} (hb : v.ownBlock = some b) : ∃ cs z, w.heap[b]? = some (.cells cs 38 z) := by
  rcases h.own.2 with ⟨rfl, _⟩ | ⟨g, cap, cur, rfl, _, hg, _⟩
  · cases hb
  · have e1 : g = b := by simpa [Value.ownBlock] using hb
    subst e1
    exact ⟨_, _, hg⟩
theorem OwnO.not5 (h : OwnO B w v O) : ∀ k, v.ownBlock = some k → ∀ cs z, w.heap[k]? ≠ some (.cells cs 5 z) := fun k hk cs z hc => by
  obtain ⟨cs', z', h2⟩ := h.cells hk
  rw [hc] at h2
  injection h2 with h2
  injection h2 with _ h4
  simp at h4
theorem wpList_app36 {ops : Array Oper} {rest : List Oper} {o : Oper} {a : Act} {Q : Exit → Act → World → Prop} {w w0 : World} (hgd : o.guard = none) (s x : Operand) (ho : o.op = .call { callee := .builtin .append, args := #[s, x], argTypes := #[28, 28] })
    (v : Value) (O : List OpT) (hs : a.eval s = v) (hown : OwnO w0.heap.size w v O) (y : Value) (q : OpT) (hx : a.eval x = y) (hy : RowF oc w y [q]) (hlen : O.length ≤ 100000) (hb : Below w0.heap.size w0 w)
    (h : ∀ v' w', OwnO w0.heap.size w' v' (O ++ [q]) → Below w0.heap.size w0 w' → w.grownBy w' v.ownBlock → wpList Tryz.prog ops Q rest (a.put o.dst v') w') : wpList Tryz.prog ops Q (o :: rest) a w :=
  wpList_append_rows ty28 oc_len (by omega) hgd s x ho v O hs hown.own y [q] hx hy (flat_oc_one _) (by simp; omega) fun v' w' h1 h2 h3 => h v' w' ⟨h1, new_of hown.new hb.size h3⟩ (hb.grown h2 hb.size hown.new) h2
end
/-- Copies of operations. -/
structure CopO (B : Nat) (w : World) (D O : List OpT) : Prop where
  map : O.map bare = D.map bare
  own : ∀ q ∈ O, Own B 5 w q.v q.b
theorem CopO.below {B : Nat} {w w' : World} {D O : List OpT} (h : CopO B w D O) (hb : Below w.heap.size w w') : CopO B w' D O := ⟨h.map, fun q hq => Own.belowB (h.own q hq) hb⟩
theorem cop_snoc {B : Nat} {wr w2 w3 w7 w8 : World} {D D2 O : List OpT} {v : Value} {x t : ST} (h : CopO B wr D O) (h7 : Below wr.heap.size wr w7) (h37 : Below w3.heap.size w3 w7) (hc : CopyS w2.heap.size w3 x t) (hB : B ≤ w2.heap.size) (ho : OwnO B w7 v O) (hg : w7.grownBy w8 v.ownBlock) (e : D2 = D ++ [x.q]) : CopO B w8 D2 (O ++ [t.q]) := by
  subst e
  refine ⟨by rw [List.map_append, List.map_append, h.map]; show _ ++ [bare t.q] = _ ++ [bare x.q]; rw [hc.bq], fun q hq => ?_⟩
  rcases List.mem_append.1 hq with hq | hq
  · exact Own.pastRow (Own.belowB (h.own q hq) h7) hg ho.not5
  · obtain rfl : q = t.q := by simpa using hq
    exact Own.pastRow (Own.belowB (hc.oq.lower hB) h37) hg ho.not5
/-- What Ops answers. -/
def OpsAns (w : World) (U : List ST) (e : Ending) (w' : World) : Prop := ∃ v O, e = .returned v ∧ OwnO w.heap.size w' v O ∧ CopO w.heap.size w' (opsS U) O ∧ Below w.heap.size w w'
set_option maxHeartbeats 4000000 in
theorem ops14 {w : World} {lb tb : Nat} {v : Value} {mo : Option Nat} {L : List IT} {U : List ST} (h : LogAt w lb v tb mo L U) : Calls Tryz.prog 12 #[ptr lb] w (OpsAns w U) := by
  obtain ⟨a, c, rfl⟩ := h.row.len
  have hcap := h.row.rowF.caps.2
  have hf := h.few
  have c0 := h.blk.cell 0 _ rfl
  have HL : Hid (LogAt w lb (.slice a U.length c) tb mo L U) := h
  clear h
  generalize hN : U.length = N at *
  have HN : Hid (U.length = N) := hN
  clear hN
  go_enter Tryz.func12, Tryz.ntmps12
  go_wp2
  go_loopw [3, 13] (fun vo i wr => ∃ (k : Nat) (O : List OpT), i = .int .i64 (k : Int) ∧ k ≤ N ∧ Hid (OwnO w.heap.size wr vo O) ∧ Hid (CopO w.heap.size wr (opsS (U.take k)) O) ∧ Hid (O.length = k) ∧ Hid (Below w.heap.size w wr)) (fun _ i _ => N - (intOf i).toNat)
  case atStart => exact ⟨0, [], rfl, Nat.zero_le _, ownO_nil _ _, ⟨rfl, fun q hq => by cases hq⟩, rfl, Below.refl _ _⟩
  case round =>
    obtain ⟨k, O, rfl, hk, HO, HCP, HOL, HB⟩ := hrel
    rename World => wr
    by_cases hlt : k < N
    · have hkI : (k : Int) < (N : Int) := by omega
      obtain ⟨x, hx⟩ : ∃ x, U[k]? = some x := ⟨_, List.getElem?_eq_getElem (by have := HN.out; omega)⟩
      have hxm : x ∈ U := List.mem_of_getElem? hx
      have HTA : Hid (opsS (U.take (k + 1)) = opsS (U.take k) ++ [x.q]) := by
        show _ = _
        obtain ⟨h1, h2⟩ := List.getElem?_eq_some_iff.1 hx
        rw [List.take_succ_eq_append_getElem h1, h2, opsS_append]
        rfl
      obtain ⟨g, cap', hv⟩ := HL.out.row.someRow hx
      injection hv with e1 e2 e3
      subst e1
      clear e2 e3
      have HC : Hid (wr.rangeAt g (k * 21) (tc x)) := by
        have h1 := HL.out.row.below HB.out
        rw [← HN.out] at h1
        exact h1.load hx
      have hok := HL.out.ok x hxm
      have HK : Hid (∀ w', Below w.heap.size w w' → Calls Tryz.prog 28 #[tv x] w' fun e w'' => ∃ t, e = .returned (tv t) ∧ CopyS w'.heap.size w'' x t ∧ Below w'.heap.size w' w'') := fun w' hb => copied38 x w' (hok.rq.below hb) hok.lq (hok.rx.below hb) hok.lx
      have HTh : Hid ((wr.alloc (.cells (tc tz).toArray 73)).there wr.heap.size 0 21) := (stb_new wr tz).there
      clear hx hxm hok
      go_wp2_with (first
        | (refine wpList_okw rfl (exec_load76 (q := x) (.tmp 15) rfl rfl HC.out) ?_)
        | (refine wpList_okw rfl (exec_alloc76 rfl) ?_)
        | (refine wpList_skipw rfl (exec_store76 (q := x) (.tmp 5) (.tmp 16) rfl rfl rfl HTh.out) ?_; obtain ⟨w2, hw2⟩ : ∃ w2, w2 = (wr.alloc (.cells (tc tz).toArray 73)).setCells wr.heap.size 0 (tc x) := ⟨_, rfl⟩; rw [← hw2]; have HS2 : Hid (w2.rangeAt wr.heap.size 0 (tc x)) := (show World.rangeAt _ _ _ _ from by rw [hw2]; exact ((stb_new wr tz).put x).load); have HB2 : Hid (Below wr.heap.size wr w2) := (show Below _ _ _ from by rw [hw2]; exact below_put (balloc (Below.refl _ _) _) (Nat.le_refl _)); clear hw2 HTh)
        | (refine wpList_okw rfl (exec_load76 (q := x) (.tmp 5) rfl rfl HS2.out) ?_)
        | (go_at_call 28; go_must (refine (HK.out _ (bnext HB.out HB2.out)).mono ?_; rintro e w3 ⟨t, rfl, hcp, hb3⟩; have HB3 : Hid (Below wr.heap.size wr w3) := bnext HB2.out hb3; have HCT : Hid (CopyS w2.heap.size w3 x t) := hcp; obtain ⟨w7, hw7⟩ : ∃ w7, w7 = w3.alloc (.cells (oc t.q).toArray 38) := ⟨_, rfl⟩; obtain ⟨p7, hp7⟩ : ∃ p7, p7 = w3.heap.size := ⟨_, rfl⟩; have HW7 : Hid (w7 = w3.alloc (.cells (oc t.q).toArray 38)) := hw7; have HP7 : Hid (p7 = w3.heap.size) := hp7; have HRW : Hid (RowF oc w7 (.slice (some ⟨p7, 0, none⟩) 1 1) [t.q]) := (show RowF _ _ _ _ from by rw [hw7, hp7]; exact rowF_one w3 t.q 38); have HB7 : Hid (Below wr.heap.size wr w7) := (show Below _ _ _ from by rw [hw7]; exact balloc HB3.out _); have HB37 : Hid (Below w3.heap.size w3 w7) := (show Below _ _ _ from by rw [hw7]; exact balloc (Below.refl _ _) _); clear hw7 hp7 hcp hb3; have HO7 : Hid (OwnO w.heap.size w7 _ O) := HO.out.below HB7.out; have HBw7 : Hid (Below w.heap.size w w7) := bnext HB.out HB7.out))
        | (refine wpList_okw rfl (exec_field76 (q := t) (.tmp 19) rfl rfl) ?_)
        | (refine wpList_okw rfl (exec_slice22 (q := t.q) (.tmp 20) rfl rfl) ?_; rw [← HW7.out, ← HP7.out])
        | (refine wpList_app36 rfl (.tmp 17) (.tmp 21) rfl _ O rfl HO7.out _ t.q rfl HRW.out (by have := HOL.out; omega) HBw7.out ?_; intro v8 w8 ho8 hb8 hg8; have HO8 : Hid (OwnO w.heap.size w8 v8 (O ++ [t.q])) := ho8; have HB8 : Hid (Below w.heap.size w w8) := hb8; have HC8 : Hid (CopO w.heap.size w8 (opsS (U.take (k + 1))) (O ++ [t.q])) := cop_snoc HCP.out HB7.out HB37.out HCT.out (Nat.le_trans HB.out.size HB2.out.size) HO7.out hg8 HTA.out; clear ho8 hb8 hg8))
      go_roundw
      case rel => exact ⟨k + 1, _, by go_num, by omega, HO8, HC8, by show _ = _; have := HOL.out; simp; omega, HB8⟩
      case measure => simp [intOf]; omega
    · have hkI : ¬ (k : Int) < (N : Int) := by omega
      have HTL : Hid (U.take k = U) := List.take_of_length_le (by have := HN.out; omega)
      go_wp2
      go_ret
      exact ⟨_, O, rfl, HO.out, by rw [← HTL.out]; exact HCP.out, HB.out⟩
end

section
set_option linter.unusedVariables false
set_option linter.unusedSimpArgs false
set_option synthInstance.maxSize 20000
set_option maxHeartbeats 2000000
set_option maxRecDepth 20000
open Go.RowKit Go.Maps

theorem exec_alloc24 {o : Oper} {r : Operand → Value} {w : World} (ho : o.op = .alloc 35) : (execOp r o).run Tryz.prog w = .ok (.value (ptr w.heap.size)) (w.alloc (.cells (sc (0, 0)).toArray 35)) := by
  unfold execOp
  simp only [ho]
  go_simp
  rfl
section
variable {o : Oper} {r : Operand → Value} {w : World}
theorem exec_mk40 {k : Int} {a n : S} {d : Bool} {s : ByteArray} (x0 x1 x2 x4 x5 : Operand) (ho : o.op = .build 38 #[(0, x0), (1, x1), (2, x2), (4, x4), (5, x5)]) (h0 : r x0 = .int .i64 k) (h1 : r x1 = sv a) (h2 : r x2 = sv n) (h4 : r x4 = .bool d) (h5 : r x5 = .string s) : (execOp r o).run Tryz.prog w = .ok (.value (ov ⟨k, a, n, (0, 0), d, s, none, 0, 0, []⟩)) w := by
  obtain ⟨a1, a2⟩ := a
  obtain ⟨n1, n2⟩ := n
  unfold sv at h1 h2
  unfold ov oc
  dsimp only at *
  unfold execOp
  simp only [ho]
  go_simp
theorem exec_mv40 {k : Int} {a n p : S} {s : ByteArray} (x0 x1 x2 x3 x5 : Operand) (ho : o.op = .build 38 #[(0, x0), (1, x1), (2, x2), (3, x3), (5, x5)]) (h0 : r x0 = .int .i64 k) (h1 : r x1 = sv a) (h2 : r x2 = sv n) (h3 : r x3 = sv p) (h5 : r x5 = .string s) : (execOp r o).run Tryz.prog w = .ok (.value (ov ⟨k, a, n, p, false, s, none, 0, 0, []⟩)) w := by
  obtain ⟨a1, a2⟩ := a
  obtain ⟨n1, n2⟩ := n
  obtain ⟨p1, p2⟩ := p
  unfold sv at h1 h2 h3
  unfold ov oc
  dsimp only at *
  unfold execOp
  simp only [ho]
  go_simp
end
def qa : OpT := ⟨1, (1, 1), (1, 1), (0, 0), true, ⟨#[97]⟩, none, 0, 0, []⟩
def qb : OpT := ⟨1, (2, 1), (2, 1), (0, 0), true, ⟨#[98]⟩, none, 0, 0, []⟩
def qc : OpT := ⟨2, (3, 1), (1, 1), (2, 1), false, ⟨#[97]⟩, none, 0, 0, []⟩
def qd : OpT := ⟨2, (4, 1), (2, 1), (1, 1), false, ⟨#[98]⟩, none, 0, 0, []⟩
def qm : List IM := [⟨(1, 1), (2, 1), ⟨#[97]⟩, true, false, (0, 0), []⟩, ⟨(2, 1), (0, 0), ⟨#[98]⟩, true, false, (0, 0), []⟩]
theorem qm_eq : buildM [] [qa, qb, qc, qd] = qm := by kernel_rfl
/-- A tree that the law made, some operations done. -/
structure Alv (w0 w : World) (tb B0 B1 : Nat) (l : List OpT) (mo : Option Nat) (L : List IT) : Prop where
  tree : PTr w tb mo L
  m : L.map IT.m = buildM [] l
  a : Blk w B0 35 (sc (1, 1))
  b : Blk w B1 35 (sc (2, 1))
  bel : Below w0.heap.size w0 w ∧ ∀ k, mo = some k → w0.heap.size ≤ k
  new : w0.heap.size ≤ tb
theorem Alv.below {w0 w w' : World} {tb B0 B1 : Nat} {l : List OpT} {mo : Option Nat} {L : List IT} (h : Alv w0 w tb B0 B1 l mo L) (hb : Below w.heap.size w w') : Alv w0 w' tb B0 B1 l mo L := ⟨h.tree.below hb, h.m, h.a.below hb, h.b.below hb, ⟨bnext h.bel.1 hb, h.bel.2⟩, h.new⟩
theorem Alv.do {w0 w : World} {tb B0 B1 : Nat} {l : List OpT} {mo : Option Nat} {L : List IT} (h : Alv w0 w tb B0 B1 l mo L) (hl : l.length ≤ 10) (q : OpT) (hq : q.v = .slice none 0 0) (hb : q.b = []) :
    Calls Tryz.prog 77 #[ptr tb, ov q] w fun e w' => ∃ v, e = .returned v ∧ ∃ mo' L', Alv w0 w' tb B0 B1 (l ++ [q]) mo' L' := by
  have h1 := buildM_len l []
  have h2 := congrArg List.length h.m
  rw [List.length_map] at h2
  rw [List.length_nil] at h1
  have hr : Rd w q.v q.b := by rw [hq, hb]; exact rd_nil _
  refine (do11 h.tree (by omega) (by rw [h.m]; exact Gd.build gd_nil (by rw [List.length_nil]; omega)) q hr (by rw [hb]; exact Nat.zero_le _)).mono ?_
  rintro e w' ⟨x, b, k, rfl, hans⟩
  obtain ⟨mo', L', hp, hm, ht⟩ := hans.tree
  exact ⟨_, rfl, mo', L', hp, by rw [hm, build_snoc, h.m], ht.st h.tree h.a, ht.st h.tree h.b, ht.below h.bel.1 h.new h.bel.2, h.new⟩
theorem Alv.start {w w1 w2 w3 w4 w5 : World} {B0 B1 tb : Nat} (h1 : w1 = w.alloc (.cells (sc (0, 0)).toArray 35)) (h2 : w2 = w1.alloc (.cells (sc (0, 0)).toArray 35)) (e0 : B0 = w.heap.size) (e1 : B1 = w1.heap.size) (h3 : w3 = w2.setCells B0 0 (sc (1, 1))) (h4 : w4 = w3.setCells B1 0 (sc (2, 1))) (h5 : w5 = w4.alloc (.cells #[.map none] 91)) (ht : tb = w4.heap.size) :
    Alv w w5 tb B0 B1 [] none [] ∧ w2.there B0 0 2 ∧ w3.there B1 0 2 := by
  have a1 : Blk w1 B0 35 (sc (0, 0)) := by rw [h1, e0]; exact blk_new w _ 35
  have a2 : Blk w2 B0 35 (sc (0, 0)) := by rw [h2]; exact a1.alloc _
  have b2 : Blk w2 B1 35 (sc (0, 0)) := by rw [h2, e1]; exact blk_new w1 _ 35
  have hne : B0 ≠ B1 := by have := a1.lt; omega
  have a3 : Blk w3 B0 35 (sc (1, 1)) := by rw [h3]; exact Blk.put2 a2
  have b3 : Blk w3 B1 35 (sc (0, 0)) := by rw [h3]; exact b2.past (grown_setCells _ _ _ _) hne.symm
  have a4 : Blk w4 B0 35 (sc (1, 1)) := by rw [h4]; exact a3.past (grown_setCells _ _ _ _) hne
  have b4 : Blk w4 B1 35 (sc (2, 1)) := by rw [h4]; exact Blk.put2 b3
  have c1 : Below w.heap.size w w1 := by rw [h1]; exact balloc (Below.refl _ _) _
  have c2 : Below w.heap.size w w2 := by rw [h2]; exact balloc c1 _
  have c3 : Below w.heap.size w w3 := by rw [h3]; exact below_put c2 (by omega)
  have c4 : Below w.heap.size w w4 := by rw [h4]; exact below_put c3 (by have := c1.size; omega)
  have c5 : Below w.heap.size w w5 := by rw [h5]; exact balloc c4 _
  have d5 : Below w4.heap.size w4 w5 := by rw [h5]; exact balloc (Below.refl _ _) _
  exact ⟨⟨by rw [h5, ht]; exact ptr_new w4, rfl, a4.below d5, b4.below d5, ⟨c5, fun k hk => (by cases hk)⟩, by rw [ht]; exact c4.size⟩, a2.there 0 2 (by simp [sc]), b3.there 0 2 (by simp [sc])⟩
theorem Alv.get {w0 w : World} {tb B0 B1 : Nat} {mo : Option Nat} {L : List IT} (h : Alv w0 w tb B0 B1 [qa, qb, qc, qd] mo L) : L.length = 2 ∧
    (Calls Tryz.prog 21 #[ptr tb, sv (1, 1)] w fun e w' => ∃ x, e = .returned (.tuple #[iv x, .bool true]) ∧ x.m.p = (2, 1) ∧ Below w.heap.size w w') ∧
    (Calls Tryz.prog 21 #[ptr tb, sv (2, 1)] w fun e w' => ∃ x, e = .returned (.tuple #[iv x, .bool true]) ∧ x.m.p = (0, 0) ∧ Below w.heap.size w w') := by
  have hm := h.m
  rw [qm_eq] at hm
  have h1 := congrArg List.length hm
  rw [List.length_map] at h1
  refine ⟨h1, ?_, ?_⟩
  · refine (get19 h.tree (n := (1, 1)) (by unfold SOk I64; omega)).mono ?_
    rintro e w' ⟨x, b, rfl, hg, hb⟩
    have e1 := hg.is
    have e2 := hg.m
    rw [hm] at e1 e2
    have e3 : b = true := e1
    subst e3
    exact ⟨x, rfl, by rw [e2]; rfl, hb⟩
  · refine (get19 h.tree (n := (2, 1)) (by unfold SOk I64; omega)).mono ?_
    rintro e w' ⟨x, b, rfl, hg, hb⟩
    have e1 := hg.is
    have e2 := hg.m
    rw [hm] at e1 e2
    have e3 : b = true := e1
    subst e3
    exact ⟨x, rfl, by rw [e2]; rfl, hb⟩
end

section
set_option linter.unusedVariables false
set_option linter.unusedSimpArgs false
set_option synthInstance.maxSize 20000
set_option maxHeartbeats 2000000
set_option maxRecDepth 20000
open Go.RowKit Go.Maps

def Ob (U : List ST) : List OpT := (opsS U).map bare
def loO (a : S) (O : List OpT) : List OpT := O.filter fun q => decide (ltP q.a a)
def hiO (a : S) (O : List OpT) : List OpT := O.filter fun q => decide (ltP a q.a)
def hasO (a : S) (O : List OpT) : Bool := O.any fun q => decide (q.a = a)
theorem Ob_append (a b : List ST) : Ob (a ++ b) = Ob a ++ Ob b := by unfold Ob; rw [opsS_append, List.map_append]
theorem Ob_len (U : List ST) : (Ob U).length = U.length := by simp [Ob, opsS]
theorem Ob_mem {U : List ST} {q : OpT} : q ∈ Ob U ↔ ∃ s ∈ U, bare s.q = q := by simp [Ob, opsS]
theorem has_iff {U : List ST} {a : S} : hasO a (Ob U) = true ↔ ∃ s ∈ U, s.q.a = a := by
  unfold hasO
  rw [List.any_eq_true]
  constructor
  · rintro ⟨q, hq, h⟩
    obtain ⟨s, hs, rfl⟩ := Ob_mem.1 hq
    exact ⟨s, hs, of_decide_eq_true h⟩
  · rintro ⟨s, hs, h⟩
    exact ⟨bare s.q, Ob_mem.2 ⟨s, hs, rfl⟩, decide_eq_true h⟩
theorem has_no {U : List ST} {a : S} (h : ∀ s ∈ U, s.q.a ≠ a) : hasO a (Ob U) = false := by
  cases hh : hasO a (Ob U) with
  | false => rfl
  | true =>
    obtain ⟨s, hs, e⟩ := has_iff.1 hh
    exact absurd e (h s hs)
theorem lo_all {A : List ST} {a : S} (h : ∀ s ∈ A, ltP s.q.a a) : loO a (Ob A) = Ob A := List.filter_eq_self.2 fun q hq => by
  obtain ⟨s, hs, rfl⟩ := Ob_mem.1 hq
  exact decide_eq_true (h s hs)
theorem lo_none {A : List ST} {a : S} (h : ∀ s ∈ A, ¬ ltP s.q.a a) : loO a (Ob A) = [] := List.filter_eq_nil_iff.2 fun q hq => by
  obtain ⟨s, hs, rfl⟩ := Ob_mem.1 hq
  exact fun e => h s hs (of_decide_eq_true e)
theorem hi_all {A : List ST} {a : S} (h : ∀ s ∈ A, ltP a s.q.a) : hiO a (Ob A) = Ob A := List.filter_eq_self.2 fun q hq => by
  obtain ⟨s, hs, rfl⟩ := Ob_mem.1 hq
  exact decide_eq_true (h s hs)
theorem hi_none {A : List ST} {a : S} (h : ∀ s ∈ A, ¬ ltP a s.q.a) : hiO a (Ob A) = [] := List.filter_eq_nil_iff.2 fun q hq => by
  obtain ⟨s, hs, rfl⟩ := Ob_mem.1 hq
  exact fun e => h s hs (of_decide_eq_true e)
theorem lo_append (a : S) (x y : List OpT) : loO a (x ++ y) = loO a x ++ loO a y := List.filter_append _ _
theorem hi_append (a : S) (x y : List OpT) : hiO a (x ++ y) = hiO a x ++ hiO a y := List.filter_append _ _
theorem ltP_asymm {a b : S} (h : ltP a b) : ¬ ltP b a := fun h2 => ltP_irrefl a (ltP_trans h h2)
def InsB (U : List ST) (q : OpT) (T : List ST) (n k : Int) : Prop := (rightO q = false ∧ n = 0 ∧ k = 1 ∧ T = U) ∨ (rightO q = true ∧ ((hasO q.a (Ob U) = true ∧ n = 0 ∧ k = 8 ∧ T = U) ∨ (hasO q.a (Ob U) = false ∧ k = 0 ∧ Ob T = loO q.a (Ob U) ++ bare q :: hiO q.a (Ob U) ∧ n = ((hiO q.a (Ob U)).length : Int))))
theorem InsR.b {U T : List ST} {q : OpT} {n k : Int} (hs : StrS U) (h : InsR U q T n k) : InsB U q T n k := by
  rcases h with h | ⟨hr, ⟨h1, h2⟩ | ⟨h1, h2, A, R, q', hc, hb, ho, hn⟩⟩
  · exact .inl h
  · exact .inr ⟨hr, .inl ⟨has_iff.2 h1, h2⟩⟩
  · have hgt := cut_gt hs hc h1
    have e1 : loO q.a (Ob U) = Ob A := by rw [hc.eq, Ob_append, lo_append, lo_all hc.lo, lo_none hc.hi, List.append_nil]
    have e2 : hiO q.a (Ob U) = Ob R := by rw [hc.eq, Ob_append, hi_append, hi_all hgt, hi_none fun s hs => ltP_asymm (hc.lo s hs)]; rfl
    refine .inr ⟨hr, .inr ⟨has_no h1, h2, ?_, ?_⟩⟩
    · unfold Ob
      rw [ho, List.map_append, List.map_cons, hb]
      rw [show (opsS A).map bare = Ob A from rfl, show (opsS R).map bare = Ob R from rfl, ← e1, ← e2]
      rfl
    · rw [e2, Ob_len]; exact hn
def RemB (U : List ST) (a : S) (T : List ST) (n k : Int) : Prop := (hasO a (Ob U) = false ∧ n = 0 ∧ k = 12 ∧ T = U) ∨ (hasO a (Ob U) = true ∧ k = 0 ∧ Ob T = loO a (Ob U) ++ hiO a (Ob U) ∧ n = ((hiO a (Ob U)).length : Int))
theorem RemR.b {U T : List ST} {a : S} {n k : Int} (hs : StrS U) (h : RemR U a T n k) : RemB U a T n k := by
  rcases h with ⟨h1, h2⟩ | ⟨h1, A, s, R, hc, ha, ho, hn⟩
  · exact .inl ⟨has_no h1, h2⟩
  · have hgt : ∀ r ∈ R, ltP a r.q.a := fun r hr => by
      rw [hc.eq] at hs
      have := (List.pairwise_cons.1 (List.pairwise_append.1 hs).2.1).1 r hr
      unfold LtS at this
      rwa [ha] at this
    have hself : ¬ ltP s.q.a a := hc.hi s List.mem_cons_self
    have hself2 : ¬ ltP a s.q.a := by rw [ha]; exact ltP_irrefl a
    have e0 : Ob U = Ob A ++ (Ob [s] ++ Ob R) := by rw [hc.eq, Ob_append, show s :: R = [s] ++ R from rfl, Ob_append]
    have e1 : loO a (Ob U) = Ob A := by
      rw [e0, lo_append, lo_append, lo_all hc.lo, lo_none (A := [s]) (fun x hx => by simp at hx; rw [hx]; exact hself), lo_none fun r hr => ltP_asymm (hgt r hr)]
      simp
    have e2 : hiO a (Ob U) = Ob R := by
      rw [e0, hi_append, hi_append, hi_all hgt, hi_none (A := [s]) (fun x hx => by simp at hx; rw [hx]; exact hself2), hi_none fun r hr => ltP_asymm (hc.lo r hr)]
      rfl
    refine .inr ⟨has_iff.2 ⟨s, by rw [hc.eq]; exact List.mem_append_right _ List.mem_cons_self, ha⟩, h1, ?_, ?_⟩
    · rw [e1, e2]
      unfold Ob
      rw [ho, List.map_append]
    · rw [e2, Ob_len]; exact hn
/-- A log whose blocks are all new since a heap of B blocks. -/
structure LogN (B : Nat) (w : World) (lb : Nat) (v : Value) (tb : Nat) (mo : Option Nat) (L : List IT) (U : List ST) : Prop where
  at_ : LogAt w lb v tb mo L U
  nl : B ≤ lb
  nt : B ≤ tb
  nm : ∀ k, mo = some k → B ≤ k
  nv : ∀ k, v.ownBlock = some k → B ≤ k
section
variable {w0 w w' : World} {lb tb : Nat} {v v' : Value} {mo mo' : Option Nat} {L L' : List IT} {U T : List ST}
theorem LogN.below {B : Nat} (h : LogN B w lb v tb mo L U) (hb : Below w.heap.size w w') : LogN B w' lb v tb mo L U := ⟨h.at_.below hb, h.nl, h.nt, h.nm, h.nv⟩
theorem LogN.step (h : LogN w0.heap.size w lb v tb mo L U) (hb : Below w0.heap.size w0 w) (h2 : LogAt w' lb v' tb mo' L' T) (hw : Lw lb tb mo v w w' mo' v') : LogN w0.heap.size w' lb v' tb mo' L' T ∧ Below w0.heap.size w0 w' := by
  refine ⟨⟨h2, h.nl, h.nt, fun k hk => ?_, fun k hk => ?_⟩, hw.below hb h.nl h.nt h.nm h.nv⟩
  · rcases hw.newm with e | ⟨mb, e, hm⟩
    · exact h.nm k (by rw [← e]; exact hk)
    · rw [e] at hk; cases hk; exact Nat.le_trans hb.size hm
  · rcases hw.newv k hk with e | e
    · exact h.nv k e
    · exact Nat.le_trans hb.size e
theorem okv_steps (h : LogAt w lb v tb mo L U) : ∀ q ∈ opsS U, Okv q := fun q hq => by
  obtain ⟨s, hs, rfl⟩ := List.mem_map.1 hq
  exact okv_of (h.ok s hs).rq
theorem LogAt.lstB (h : LogAt w lb v tb mo L U) {O : List OpT} (e : O.map bare = Ob U) (ho : ∀ q ∈ O, Okv q) : L.map IT.m = buildM [] O := by
  rw [h.lst]
  exact build_bare e.symm (okv_steps h) ho
end
end
end Go.Proofs.YthnjbjlhfohpfaaGreat
